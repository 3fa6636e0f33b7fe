/-
  HOW BYTES STAND as rows stand, and the contract of pairOf: for the law 'chirographkeep.CodeOrder'.
  CONDITIONS: each theorem's own hypotheses.
-/
import Derived.Test.YtjllecmlabodaabDoorLawH
namespace Go.Proofs.YtjllecmlabodaabDoor
open Go.RowKit CodeMath
set_option linter.unusedVariables false

/-! ### plain mathematics -/
theorem bytesLess_cmp : ∀ a b : List UInt8, Op.bytesLess a b = decide (Lib.compareBytes a b < 0)
  | [], [] => by simp [Op.bytesLess, Lib.compareBytes]
  | [], _ :: _ => by simp [Op.bytesLess, Lib.compareBytes]
  | _ :: _, [] => by simp [Op.bytesLess, Lib.compareBytes]
  | a :: l, b :: m => by
    rw [Op.bytesLess, bytesLess_cmp l m, cmpB_cons]
    by_cases h : a.toNat < b.toNat
    · rw [if_pos h]
      have : (decide (a < b)) = true := by simpa [UInt8.lt_iff_toNat_lt] using h
      simp [this]
    · have h' : (decide (a < b)) = false := by simpa [UInt8.lt_iff_toNat_lt] using h
      rw [if_neg h, h']
      by_cases g : b.toNat < a.toNat
      · rw [if_pos g]
        have : (a == b) = false := by simp only [beq_eq_false_iff_ne]; intro e; rw [e] at g; omega
        rw [this]; rfl
      · rw [if_neg g]
        have : (a == b) = true := by simp only [beq_iff_eq]; exact UInt8.toNat_inj.1 (by omega)
        rw [this]; simp
theorem sgn_cmp3 (x y : Int) : sgn x y = cmp3 x y := rfl
theorem ordR_ordV (v u : V) (hv : v.Fits ∧ v.chk = 0) (hu : u.Fits ∧ u.chk = 0) : ordR v.val u.val = ordV v u := by
  by_cases hk : v.k = u.k
  · rw [ordV_eq v u hk]
    unfold ordR sub
    rw [if_neg (show ¬ v.val.k ≠ u.val.k from fun h => h hk)]
    by_cases c3 : v.k = 3
    · rw [if_pos (show v.val.k = 3 from c3), if_pos c3]
      have hne : ∀ w : V, w.chk = 0 → w.k = 3 → w.b ≠ 9223372036854775808 := fun w hw h3 e => by
        have := (chk_zero w hw).2.2.2
        unfold good at this
        rw [if_neg (by omega), if_pos h3, e] at this
        simp at this
      have := risen_key v.b u.b hv.1.b0 hv.1.b1 hu.1.b0 hu.1.b1 (hne v hv.2 c3) (hne u hu.2 (by omega))
      rw [← this]
      show sgn (up64 v.b) (up64 u.b) = _
      have e : ∀ b, up64 b = risen b := fun b => by unfold up64 risen two63 two64; split <;> omega
      rw [e, e]; rfl
    · rw [if_neg (show ¬ v.val.k = 3 from c3), if_neg c3]
      by_cases c4 : v.k = 4
      · rw [if_pos (show v.val.k = 4 from c4), if_pos c4]; rfl
      · rw [if_neg (show ¬ v.val.k = 4 from c4), if_neg c4]
        by_cases c1 : v.k = 1 ∨ v.k = 2
        · rw [if_pos (show v.val.k = 1 ∨ v.val.k = 2 from c1), if_pos c1]; rfl
        · rw [if_neg (show ¬ (v.val.k = 1 ∨ v.val.k = 2) from c1), if_neg c1]
  · rw [ordV_ne v u hk]
    unfold ordR
    rw [if_pos (show v.val.k ≠ u.val.k from hk)]; rfl
/-- How two rows stand, column by column from column i on. -/
def ordRow (down : Int) : Nat → List V → List V → Int
  | i, v :: l, u :: m => if ordV v u = 0 then ordRow down (i + 1) l m else if dn down i then - ordV v u else ordV v u
  | _, _, _ => 0
theorem bytes_stand (down : Int) : ∀ (l m : List V) (i : Nat), Good l → Good m → l.length = m.length → Lib.compareBytes (encRow (dn down) i (rowsOf l)) (encRow (dn down) i (rowsOf m)) = ordRow down i l m
  | [], [], i, hl, hm, h => rfl
  | [], _ :: _, i, hl, hm, h => by simp at h
  | _ :: _, [], i, hl, hm, h => by simp at h
  | v :: l, u :: m, i, hl, hm, h => by
    have ih := bytes_stand down l m (i + 1) (fun x hx => hl x (by simp [hx])) (fun x hx => hm x (by simp [hx])) (by simpa using h)
    have hv := hl v (by simp)
    have hu := hm u (by simp)
    have hf : fd (enc v.val) (enc u.val) = ordV v u := by rw [fd_enc _ _ (facts_of v hv.1 hv.2) (facts_of u hu.1 hu.2), ordR_ordV v u hv hu]
    simp only [rowsOf, List.map_cons, encRow, ordRow] at ih ⊢
    by_cases h0 : ordV v u = 0
    · rw [if_pos h0]
      have e : v = u := (ordV_zero v u hv.1 hu.1 hv.2 hu.2).1 h0
      subst e
      rw [cmp_same]; exact ih
    · rw [if_neg h0]
      have ht : fd (turnL (dn down i) (enc v.val)) (turnL (dn down i) (enc u.val)) = if dn down i then - ordV v u else ordV v u := by
        cases dn down i with
        | true => rw [fd_turn, hf]; rfl
        | false => rw [turnL_false, turnL_false, hf]; rfl
      rw [cmp_fd _ _ _ _ (by rw [ht]; split <;> omega), ht]
theorem ordRow_snoc (down : Int) : ∀ (l m : List V) (i : Nat) (v u : V), l.length = m.length → ordRow down i (l ++ [v]) (m ++ [u]) = if ordRow down i l m = 0 then (if ordV v u = 0 then 0 else if dn down (i + l.length) then - ordV v u else ordV v u) else ordRow down i l m
  | [], [], i, v, u, h => by simp [ordRow]
  | [], _ :: _, i, v, u, h => by simp at h
  | _ :: _, [], i, v, u, h => by simp at h
  | x :: l, y :: m, i, v, u, h => by
    have ih := ordRow_snoc down l m (i + 1) v u (by simpa using h)
    simp only [List.cons_append, ordRow, List.length_cons]
    by_cases h0 : ordV x y = 0
    · rw [if_pos h0, if_pos h0, ih, show i + 1 + l.length = i + (l.length + 1) by omega]
    · rw [if_neg h0, if_neg h0]
      have hne : (if dn down i then - ordV x y else ordV x y) ≠ 0 := by split <;> omega
      rw [if_neg hne]

/-! ### pairOf -/
theorem Raws.keep {w w1 : World} {ao : Option Addr} {l : List R} (h : Raws w ao l) (hb : Below w.heap.size w w1) : Raws w1 ao l := by
  refine ⟨h.1, ?_⟩
  rcases h.2 with h | ⟨a, o, h1, h2, h3⟩
  · exact .inl h
  · refine .inr ⟨a, o, h1, Nat.lt_of_lt_of_le h2 hb.size, fun j v hv => ?_⟩
    obtain ⟨c0, c1, c2, c3⟩ := h3 j v hv
    exact ⟨(hb.cell (p := ⟨a, _, none⟩) h2).trans c0, (hb.cell (p := ⟨a, _, none⟩) h2).trans c1, (hb.cell (p := ⟨a, _, none⟩) h2).trans c2, (hb.cell (p := ⟨a, _, none⟩) h2).trans c3⟩
theorem set4 (a b c d : Value) (L : List Value) (k : Nat) (x : Value) : (a :: b :: c :: d :: L).set (k + 4) x = a :: b :: c :: d :: L.set k x := rfl
theorem cellsV_set : ∀ (l : List V) (j : Nat) (u : V), j < l.length → ((((cellsV l).set (j * 4) (.int .i64 u.k)).set (j * 4 + 1) (.int .i64 u.i)).set (j * 4 + 2) (.int .u64 u.b)).set (j * 4 + 3) (.string u.s) = cellsV (l.set j u)
  | [], j, u, h => by simp at h
  | v :: l, 0, u, h => rfl
  | v :: l, j + 1, u, h => by
    have ih := cellsV_set l j u (by simpa using h)
    have e : cellsV (v :: l) = .int .i64 v.k :: .int .i64 v.i :: .int .u64 v.b :: .string v.s :: cellsV l := rfl
    have e2 : cellsV ((v :: l).set (j + 1) u) = .int .i64 v.k :: .int .i64 v.i :: .int .u64 v.b :: .string v.s :: cellsV (l.set j u) := rfl
    rw [e, e2, ← ih]
    rw [show (j + 1) * 4 = j * 4 + 4 by omega, show j * 4 + 4 + 1 = j * 4 + 1 + 4 by omega, show j * 4 + 4 + 2 = j * 4 + 2 + 4 by omega, show j * 4 + 4 + 3 = j * 4 + 3 + 4 by omega]
    rw [set4, set4, set4, set4]
theorem OwnV.store {w : World} {base g cap : Nat} {l : List V} (h : OwnV w base (.slice (some ⟨g, 0, none⟩) l.length cap) l) (j : Nat) (hj : j < l.length) (u : V) :
    OwnV ((((w.setCell ⟨g, j * 4, none⟩ (.int .i64 u.k)).setCell ⟨g, j * 4 + 1, none⟩ (.int .i64 u.i)).setCell ⟨g, j * 4 + 2, none⟩ (.int .u64 u.b)).setCell ⟨g, j * 4 + 3, none⟩ (.string u.s)) base (.slice (some ⟨g, 0, none⟩) l.length cap) (l.set j u) := by
  have h1 := ((((World.ownsRow.stored h (j * 4) (.int .i64 u.k)).1.stored (j * 4 + 1) (.int .i64 u.i)).1.stored (j * 4 + 2) (.int .u64 u.b)).1.stored (j * 4 + 3) (.string u.s)).1
  rw [cellsV_set l j u hj] at h1
  unfold OwnV
  rw [List.length_set]
  exact h1
theorem good_set {l : List V} (h : Good l) (j : Nat) (u : V) (hu : u.Fits ∧ u.chk = 0) : Good (l.set j u) := by
  intro x hx
  rcases List.mem_or_eq_of_mem_set hx with hx | rfl
  · exact h x hx
  · exact hu
def PairOk (w : World) (e : Ending) (w' : World) : Prop := ∃ (xs zs : List V) (ao bo : Option Addr) (ca cb : Nat), e = .returned (.tuple #[.slice ao xs.length ca, .slice bo xs.length cb]) ∧ zs.length = xs.length ∧ xs.length ≤ 5 ∧ xs.length ≤ ca ∧ xs.length ≤ cb ∧ Good xs ∧ Good zs ∧ LiesAt w' ao xs ∧ LiesAt w' bo zs ∧ Below w.heap.size w w'

theorem lies_take' {w : World} {ao : Option Addr} {l : List V} (h : LiesAt w ao l) (k : Nat) : LiesAt w ao (l.take k) := by
  rcases h with rfl | ⟨a, o, h1, h2, h3⟩
  · left; simp
  · refine .inr ⟨a, o, h1, h2, fun j v hv => h3 j v ?_⟩
    have hj := (List.getElem?_eq_some_iff.1 hv).1
    rw [List.length_take] at hj
    rwa [List.getElem?_take_of_lt (by omega)] at hv
theorem good_take' {l : List V} (h : Good l) (k : Nat) : Good (l.take k) := fun u hu => h u (List.mem_of_mem_take hu)
set_option maxRecDepth 100000 in
set_option maxHeartbeats 4000000 in
theorem pairOf_any (l m : List R) (ao bo : Option Addr) (ca cb : Nat) (alike : Int) (w : World) (hl : Raws w ao l) (hm : Raws w bo m) (hlc : l.length ≤ ca) (hmc : m.length ≤ cb) (hca : ca ≤ 9223372036854775807) (hcb : cb ≤ 9223372036854775807) (a0 : -9223372036854775808 ≤ alike) (a1 : alike ≤ 9223372036854775807) :
    Calls Tryd.prog 16 #[.slice ao l.length ca, .slice bo m.length cb, .int .i64 alike] w (PairOk w) := by
  unfold PairOk
  have c1 := vals_any l ao ca w hl hlc (by omega)
  have c2 := fun w1 (hb : Below w.heap.size w w1) => vals_any m bo cb w1 (hm.keep hb) hmc (by omega)
  generalize l.length = nl at c1 ⊢
  generalize m.length = nm at c2 ⊢
  clear hl hm hlc hmc
  go_enter Tryd.func16, Tryd.ntmps16
  go_wp2_with fail
  refine c1.mono ?_
  rintro e w1 ⟨v1, xs, rfl, ho1, hg1, hl1, hb1⟩
  have c := c2 w1 hb1
  clear c1 c2
  go_wp2_with fail
  refine c.mono ?_
  rintro e w2 ⟨v2, zs, rfl, ho2, hg2, hl2, hb2⟩
  clear c
  obtain ⟨ax, cx, rfl, hcx, hcx2, hx⟩ := ho1.lies
  obtain ⟨az, cz, rfl, hcz, hcz2, _⟩ := ho2.lies
  have hx2 := hx.keep hb2
  have hxM : xs = [] ∨ ∃ a o, ax = some ⟨a, o, none⟩ ∧ a < w1.heap.size := by
    rcases hx with h | ⟨a, o, h1, h2, _⟩
    · exact .inl h
    · exact .inr ⟨a, o, h1, h2⟩
  have h5 : xs.length ≤ 5 := by omega
  have h5' : zs.length ≤ 5 := by omega
  obtain ⟨mx, hmx⟩ : ∃ mx, xs.length = mx := ⟨_, rfl⟩
  obtain ⟨mz, hmz⟩ : ∃ mz, zs.length = mz := ⟨_, rfl⟩
  rw [hmx] at hcx h5 ⊢
  rw [hmz] at hcz h5' ho2 ⊢
  obtain ⟨n, hn⟩ : ∃ n, min mx mz = n := ⟨_, rfl⟩
  have hmin : min (mx : Int) (mz : Int) = n := by omega
  have hn1 : n ≤ mx := by omega
  have hn2 : n ≤ mz := by omega
  have hnx : n ≤ cx := by omega
  have hnz : n ≤ cz := by omega
  have c21 := fun w => picked_any alike ((n : Int) + 1) w (by omega) (by omega) a0 a1
  obtain ⟨k, hk⟩ : ∃ k : Nat, alike % ((n : Int) + 1) = k := ⟨(alike % ((n : Int) + 1)).toNat, by
    have := Int.emod_nonneg alike (show ((n : Int) + 1) ≠ 0 by omega); omega⟩
  have hkn : k ≤ n := by have := Int.emod_lt_of_pos alike (show (0 : Int) < (n : Int) + 1 by omega); omega
  rw [hk] at c21
  have HX := Lib.hid hmx
  have HZ := Lib.hid hmz
  have HG1 := Lib.hid hg1
  have HG2 := Lib.hid hg2
  clear hk hn hmx hmz hg1 hg2 hl1 hl2 ho1 hx
  go_wp2_with fail
  go_quiet (fail)
  have hb3 : Below w1.heap.size w1 (w2.drewN nq) := below_dn hb2 nq
  have ho3 : OwnV (w2.drewN nq) w1.heap.size (.slice az mz cz) zs := ho2.keep (below_dn (Below.refl _ _) nq)
  have hx3 : LiesAt (w2.drewN nq) ax xs := hx2.keep (below_dn (Below.refl _ _) nq)
  generalize w2.drewN nq = w3 at *
  clear hb2 ho2 hx2
  go_wp2_with fail
  refine (c21 _).mono ?_
  rintro e w4 ⟨rfl, rfl⟩
  clear c21
  go_wp2_with fail
  go_loopw [31] (fun i wr => ∃ (j : Nat) (lb : List V), j ≤ k ∧ i = .int .i64 j ∧ OwnV wr w1.heap.size (.slice az mz cz) lb ∧ Hid (lb.length = mz) ∧ Hid (Good lb) ∧ LiesAt wr ax xs ∧ Below w1.heap.size w1 wr) (fun i _ => k - (intOf i).toNat)
  case atStart => exact ⟨0, zs, Nat.zero_le _, rfl, ho3, HZ.out, HG2.out, hx3, hb3⟩
  case round =>
    obtain ⟨j, lb, hj, rfl, ho, hlb, hgb, hxr, hbw⟩ := hrel
    clear ho3 hx3 hb3
    by_cases h1 : j < k
    · have hjx : j < xs.length := by have := HX.out; omega
      have hjb : j < lb.length := by have := hlb.out; omega
      obtain ⟨u, hu⟩ : ∃ u, xs[j]? = some u := ⟨xs[j], List.getElem?_eq_getElem hjx⟩
      obtain ⟨y, hy⟩ : ∃ y, lb[j]? = some y := ⟨lb[j], List.getElem?_eq_getElem hjb⟩
      have hgu := HG1.out u (List.mem_of_getElem? hu)
      rcases hxM with hx0 | ⟨a, o, rfl, ham⟩
      · rw [hx0] at hjx; simp at hjx
      rcases hxr with hx0 | ⟨a', o', ea, ha', hxl⟩
      · rw [hx0] at hjx; simp at hjx
      simp only [Option.some.injEq, Addr.mk.injEq, and_true] at ea
      obtain ⟨rfl, rfl⟩ := ea
      obtain ⟨c0, c1, c2, c3⟩ := hxl j u hu
      rcases ho.2 with ⟨_, h0⟩ | ⟨g, cap, cur, e, hbg, hgc, _⟩
      · have := hlb.out; omega
      simp only [Value.slice.injEq] at e
      obtain ⟨rfl, _, rfl⟩ := e
      rw [← hlb.out] at ho
      have q : ∀ r, r < 4 → wr.cell? ⟨g, j * 4 + r, none⟩ = (cells4 y)[r]? := fun r hr => by
        rw [World.ownsRow.cellAt ho (j * 4 + r) (by omega), cellsV_at lb j r y hy hr]
      have q0 : wr.cell? ⟨g, j * 4, none⟩ = some (.int .i64 y.k) := q 0 (by decide)
      have q1 : wr.cell? ⟨g, j * 4 + 1, none⟩ = some (.int .i64 y.i) := q 1 (by decide)
      have q2 : wr.cell? ⟨g, j * 4 + 2, none⟩ = some (.int .u64 y.b) := q 2 (by decide)
      have q3 : wr.cell? ⟨g, j * 4 + 3, none⟩ = some (.string y.s) := q 3 (by decide)
      have f0 := World.ownsRow.frozenAt ho (j * 4)
      have f1 := World.ownsRow.frozenAt ho (j * 4 + 1)
      have f2 := World.ownsRow.frozenAt ho (j * 4 + 2)
      have f3 := World.ownsRow.frozenAt ho (j * 4 + 3)
      have hst := OwnV.store ho j hjb u
      rw [hlb.out] at hst
      have hgs := good_set hgb.out j u hgu
      have HGS := Lib.hid hgs
      have hag : a ≠ g := by omega
      clear q hu hy hgs hgu ho hjx
      go_wp2
      have hbx : Below w1.heap.size w1 ((((wr.setCell ⟨g, j * 4, none⟩ (.int .i64 u.k)).setCell ⟨g, j * 4 + 1, none⟩ (.int .i64 u.i)).setCell ⟨g, j * 4 + 2, none⟩ (.int .u64 u.b)).setCell ⟨g, j * 4 + 3, none⟩ (.string u.s)) := (((hbw.setCell hbg _).setCell hbg _).setCell hbg _).setCell hbg _
      have hsame : ∀ o, ((((wr.setCell ⟨g, j * 4, none⟩ (.int .i64 u.k)).setCell ⟨g, j * 4 + 1, none⟩ (.int .i64 u.i)).setCell ⟨g, j * 4 + 2, none⟩ (.int .u64 u.b)).setCell ⟨g, j * 4 + 3, none⟩ (.string u.s)).cell? ⟨a, o, none⟩ = wr.cell? ⟨a, o, none⟩ := fun o => by
        apply World.cell?_of_block
        rw [Below.heap_setCell _ _ _ _ hag, Below.heap_setCell _ _ _ _ hag, Below.heap_setCell _ _ _ _ hag, Below.heap_setCell _ _ _ _ hag]
      have hxn : LiesAt ((((wr.setCell ⟨g, j * 4, none⟩ (.int .i64 u.k)).setCell ⟨g, j * 4 + 1, none⟩ (.int .i64 u.i)).setCell ⟨g, j * 4 + 2, none⟩ (.int .u64 u.b)).setCell ⟨g, j * 4 + 3, none⟩ (.string u.s)) (some ⟨a, o, none⟩) xs := by
        refine .inr ⟨a, o, rfl, Nat.lt_of_lt_of_le ham hbx.size, fun i v hv => ?_⟩
        rw [hsame, hsame, hsame, hsame]
        exact hxl i v hv
      go_roundw
      case rel => exact ⟨j + 1, lb.set j u, by omega, by go_num, hst, (show (lb.set j u).length = mz by rw [List.length_set]; exact hlb.out), HGS.out, hxn, hbx⟩
      case measure => simp [intOf]; omega
    · have hgb' := hgb.out
      have hlb' := hlb.out
      obtain ⟨az', cz', e, _, _, hz⟩ := ho.lies
      simp only [Value.slice.injEq] at e
      obtain ⟨rfl, _, rfl⟩ := e
      have hl1 : (xs.take n).length = n := by rw [List.length_take, HX.out]; omega
      have hl2 : (lb.take n).length = n := by rw [List.length_take, hlb']; omega
      have H1 := Lib.hid hl1
      have H2 := Lib.hid hl2
      have HGB := Lib.hid hgb'
      clear hgb' hlb' hl1 hl2 ho
      go_wp2
      go_ret2
      exact ⟨xs.take n, lb.take n, ax, az, cx, cz, by rw [H1.out]; rfl, by rw [H1.out, H2.out], by rw [H1.out]; omega, by rw [H1.out]; omega, by rw [H1.out]; omega, good_take' HG1.out n, good_take' HGB.out n, lies_take' hxr n, lies_take' hz n, hb1.trans (hbw.mono hb1.size)⟩
end Go.Proofs.YtjllecmlabodaabDoor
