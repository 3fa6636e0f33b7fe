/-
  MERGED: SlotB, SlotC, SlotD, IsNum, SlotE, SlotF, SlotG, Halv.
  CONDITIONS: each theorem's own hypotheses.
-/
import Derived.Test.YtcnemacakjemjaaDoorGSlot
import Derived.Test.YtcnemacakjemjaaDoorGBase

/-! LEVELS of a tree of digests: plain, and in memory. CONDITIONS: each theorem's own hypotheses. -/
namespace Go.Proofs.YtcnemacakjemjaaDoor
open Go.RowKit CodeMath Go.Proofs.YtcnemacakjemjaaDoor.FrameMath
set_option linter.unusedVariables false
set_option maxRecDepth 100000

/-- What the leaves of slots are. -/
inductive LR where
  | err (e : Int)
  | ok (rows : List (List UInt8))
def consR (b : List UInt8) : LR → LR
  | .err e => .err e
  | .ok bs => .ok (b :: bs)
def leavesR (m : Int) : List Sl → LR
  | [] => .ok []
  | x :: l => match leafR m x.f x.s x.d with
    | .err e => .err e
    | .ok b => consR b (leavesR m l)
theorem leavesR_next (m : Int) : ∀ (l : List Sl) (i : Nat) (x : Sl) (rows : List (List UInt8)), leavesR m (l.take i) = .ok rows → l[i]? = some x →
    (∀ e, leafR m x.f x.s x.d = .err e → leavesR m l = .err e) ∧ ∀ b, leafR m x.f x.s x.d = .ok b → leavesR m (l.take (i + 1)) = .ok (rows ++ [b])
  | [], i, x, rows, h, hx => by simp at hx
  | y :: l, 0, x, rows, h, hx => by
    simp only [List.getElem?_cons_zero, Option.some.injEq] at hx
    subst hx
    rw [List.take_zero] at h
    cases h
    refine ⟨fun e he => by simp [leavesR, he], fun b hb => by simp [leavesR, hb, consR]⟩
  | y :: l, i + 1, x, rows, h, hx => by
    simp only [List.getElem?_cons_succ] at hx
    rw [List.take_succ_cons] at h ⊢
    cases hy : leafR m y.f y.s y.d with
    | err e => simp [leavesR, hy] at h
    | ok b0 =>
      simp only [leavesR, hy] at h ⊢
      cases hr : leavesR m (l.take i) with
      | err e => rw [hr] at h; cases h
      | ok r0 =>
        rw [hr] at h
        cases h
        obtain ⟨h1, h2⟩ := leavesR_next m l i x r0 hr hx
        exact ⟨fun e he => by rw [h1 e he]; rfl, fun b hb => by rw [h2 b hb]; rfl⟩
theorem leavesR_length (m : Int) : ∀ (l : List Sl) (rows : List (List UInt8)), leavesR m l = .ok rows → rows.length = l.length
  | [], rows, h => by cases h; rfl
  | y :: l, rows, h => by
    cases hy : leafR m y.f y.s y.d with
    | err e => simp [leavesR, hy] at h
    | ok b0 =>
      simp only [leavesR, hy] at h
      cases hr : leavesR m l with
      | err e => rw [hr] at h; cases h
      | ok r0 => rw [hr] at h; cases h; simp [leavesR_length m l r0 hr]
theorem leafR_ne (m : Int) (f : Bool) (s d : List UInt8) (e : Int) (h : leafR m f s d = .err e) : e ≠ 0 := by
  intro h0
  subst h0
  unfold leafR at h
  split at h
  · cases h
  · split at h
    · cases h
    · split at h <;> cases h
/-- Digests are not too long. -/
theorem digB_length (m : Int) (t : Nat) (ps : List (List UInt8)) : (digB m t ps).length ≤ 32 + (2 + total ps) := by
  unfold digB
  split
  · rw [frame_length]; omega
  · have := ShaMath.sha_length (frame t ps); omega
theorem leafR_length (m : Int) (f : Bool) (s d b : List UInt8) (h : leafR m f s d = .ok b) : b.length ≤ 600 := by
  unfold leafR at h
  split at h
  · cases h
  · split at h
    · cases h
    · rename_i h2
      split at h
      · cases h
      · rename_i h3
        cases h
        have h1 := digB_length m 1 [s, contB f d]
        have hc := contB_length f d
        simp only [total] at h1
        omega
theorem leavesR_each (m : Int) : ∀ (l : List Sl) (rows : List (List UInt8)), leavesR m l = .ok rows → ∀ b ∈ rows, b.length ≤ 600
  | [], rows, h => by cases h; simp
  | y :: l, rows, h => by
    cases hy : leafR m y.f y.s y.d with
    | err e => simp [leavesR, hy] at h
    | ok b0 =>
      simp only [leavesR, hy] at h
      cases hr : leavesR m l with
      | err e => rw [hr] at h; cases h
      | ok r0 =>
        rw [hr] at h; cases h
        intro b hb
        rcases List.mem_cons.1 hb with rfl | hb
        · exact leafR_length m _ _ _ _ hy
        · exact leavesR_each m l r0 hr b hb
/-! ### in memory -/
/-- A level: a whole block of lines. -/
def LevB (w : World) (g : Nat) (rows : List (List UInt8)) : Prop := ∃ us : List Value, Blk w g 37 us ∧ us.length = rows.length ∧ ∀ (i : Nat) (l : List UInt8), rows[i]? = some l → ∃ u : Value, us[i]? = some u ∧ RowT w u l
theorem grown_set (w : World) (a : Addr) (u : Value) : w.grownBy (w.setCell a u) (some a.block) :=
  ⟨rfl, rfl, rfl, by simp, fun k _ hk => heap_setCell_other w a k u (fun e => hk (by rw [e]))⟩
theorem LevB.keep {w w' : World} {g : Nat} {rows : List (List UInt8)} (h : LevB w g rows) (hb : Below w.heap.size w w') : LevB w' g rows := by
  obtain ⟨us, h1, h2, h3⟩ := h
  refine ⟨us, h1.call hb, h2, fun i l hi => ?_⟩
  obtain ⟨u, k1, k2⟩ := h3 i l hi
  exact ⟨u, k1, k2.keep hb⟩
theorem LevB.lt {w : World} {g : Nat} {rows : List (List UInt8)} (h : LevB w g rows) : g < w.heap.size := by
  obtain ⟨us, h1, _⟩ := h; exact h1.lt
theorem LevB.lines {w : World} {g : Nat} {rows : List (List UInt8)} (h : LevB w g rows) : Lines w (some ⟨g, 0, none⟩) rows := by
  obtain ⟨us, h1, h2, h3⟩ := h
  refine LinesV.lines (.inr ⟨g, 0, rfl, h1.lt, fun i l hi => ?_⟩)
  obtain ⟨u, k1, k2⟩ := h3 i l hi
  exact ⟨u, by rw [Nat.zero_add]; exact h1.cell k1, k2.row⟩
theorem LevB.set {w : World} {g : Nat} {rows : List (List UInt8)} (h : LevB w g rows) (i : Nat) (u : Value) (l : List UInt8) (hu : RowT w u l) : LevB (w.setCell ⟨g, i, none⟩ u) g (rows.set i l) := by
  obtain ⟨us, h1, h2, h3⟩ := h
  have hg : w.grownBy (w.setCell ⟨g, i, none⟩ u) (some g) := grown_set w ⟨g, i, none⟩ u
  have hty : ∀ b, some g = some b → ∃ cur T fz, w.heap[b]? = some (.cells cur T fz) ∧ (T = 37 ∨ T = 24) := fun b hb => by
    cases hb; exact ⟨_, _, _, h1, .inl rfl⟩
  refine ⟨us.set i u, h1.set i u, by simp [h2], fun j l' hj => ?_⟩
  by_cases hij : i = j
  · subst hij
    have hi : i < rows.length := by have := (List.getElem?_eq_some_iff.1 hj).1; simpa using this
    rw [List.getElem?_set_self hi] at hj
    cases hj
    exact ⟨u, List.getElem?_set_self (by omega), hu.grown hg hty⟩
  · rw [List.getElem?_set_ne hij] at hj
    obtain ⟨u', k1, k2⟩ := h3 j l' hj
    exact ⟨u', by rw [List.getElem?_set_ne hij]; exact k1, k2.grown hg hty⟩
theorem LevB.cell {w : World} {g : Nat} {rows : List (List UInt8)} (h : LevB w g rows) (i : Nat) (hi : i < rows.length) : (∃ u, w.cell? ⟨g, i, none⟩ = some u) ∧ w.frozen? ⟨g, i, none⟩ = false := by
  obtain ⟨us, h1, h2, h3⟩ := h
  exact ⟨⟨_, h1.cell (List.getElem?_eq_getElem (show i < us.length by omega))⟩, h1.free i⟩
theorem LevB.fresh {w : World} {base n g : Nat} (h : w.ownsRow base 37 1 (.slice (some ⟨g, 0, none⟩) n n) n (madeCells (Value.slice none 0 0).cells (n * 1)).toList) : LevB w g (List.replicate n []) := by
  rcases h.2 with ⟨h0, _⟩ | ⟨g', cap, cur, e, k1, k2, k3, k4, k5, k6⟩
  · cases h0
  · obtain ⟨e1, _, e2⟩ := Value.slice.inj e
    simp only [Option.some.injEq, Addr.mk.injEq, and_true] at e1
    subst e1 e2
    have hcur : cur.toList = (madeCells (Value.slice none 0 0).cells (n * 1)).toList := by
      rw [← k6, List.take_of_length_le (by simp; omega)]
    refine ⟨cur.toList, by unfold Blk; rw [Array.toArray_toList]; exact k2, by simp; omega, fun i l hi => ?_⟩
    have hin : i < n := by have := (List.getElem?_eq_some_iff.1 hi).1; simpa using this
    have hl : l = [] := by
      have := (List.getElem?_eq_some_iff.1 hi).2
      rw [← this]; simp
    subst hl
    refine ⟨.slice none 0 0, ?_, ⟨none, 0, rfl, Nat.le_refl _, by decide, fun _ => rfl, .inl rfl⟩⟩
    rw [hcur]
    simp [madeCells, hin, Value.cells, Nat.mod_one]
def LevPost (R : LR) (n : Nat) (w : World) (e : Ending) (w' : World) : Prop := match R with
  | .err c => e = .returned (.tuple #[.slice none 0 0, .int .i64 c]) ∧ Below w.heap.size w w'
  | .ok rows => ∃ g, e = .returned (.tuple #[.slice (some ⟨g, 0, none⟩) n n, .int .i64 0]) ∧ w.heap.size ≤ g ∧ LevB w' g rows ∧ Below w.heap.size w w'
end Go.Proofs.YtcnemacakjemjaaDoor

/-! CONTRACT of package slots' leaves. CONDITIONS: package sum's roundWords hold what their initialiser lays ('KW'). -/
namespace Go.Proofs.YtcnemacakjemjaaDoor
open Go.RowKit CodeMath Go.Proofs.YtcnemacakjemjaaDoor.FrameMath
set_option linter.unusedVariables false
set_option maxRecDepth 100000

theorem fill_next (rows : List (List UInt8)) (n i : Nat) (b : List UInt8) (hr : rows.length = i) (hi : i < n) : (rows ++ List.replicate (n - i) []).set i b = (rows ++ [b]) ++ List.replicate (n - (i + 1)) [] := by
  obtain ⟨k, hk⟩ : ∃ k, n - i = k + 1 := ⟨n - i - 1, by omega⟩
  have hk' : n - (i + 1) = k := by omega
  rw [hk, hk', List.replicate_succ, ← hr]
  simp
set_option maxHeartbeats 4000000 in
theorem leaves_any (m : Int) (l : List Sl) (ao : Option Addr) (cap : Nat) (w : World) (m0 : -9223372036854775808 ≤ m) (m1 : m ≤ 9223372036854775807) (hc : l.length ≤ cap) (hq : cap ≤ 9223372036854775807) (hl : l.length ≤ 64) (hS : Slots w ao l) (hT : KW w) :
    Calls Tryd.prog 17 #[.int .i64 m, .slice ao l.length cap] w (LevPost (leavesR m l) l.length w) := by
  obtain ⟨R, hR⟩ : ∃ R, leavesR m l = R := ⟨_, rfl⟩
  rw [hR]
  obtain ⟨n, hn⟩ : ∃ n, l.length = n := ⟨_, rfl⟩
  have hget : ∀ i x, l[i]? = some x → ∃ a o, ao = some ⟨a, o, none⟩ ∧ a < w.heap.size ∧ SlotAt w a (o + i * 3) x := fun i x hx => by
    rcases hS with h | ⟨a, o, h1, h2, h3⟩
    · rw [h] at hx; simp at hx
    · exact ⟨a, o, h1, h2, h3 i x hx⟩
  have HG := Lib.hid hget
  have HR := Lib.hid hR
  have HN := Lib.hid hn
  rw [hn] at hc hl ⊢
  have nI : (n : Int) ≤ 64 := by omega
  obtain ⟨i0, hi, hz0, hz1, hz2⟩ := info_parts infoL
  clear hget hR hn hS
  go_enter Tryd.func17, Tryd.ntmps17
  go_wp2_with (first
    | (with_reducible refine wpList_make_full _ rfl (.tmp 12) (.tmp 12) 24 rfl w.heap.size 37 i0 (.slice none 0 0) 1 Tryd.underlying24 hi hz0 hz1 .i64 .i64 (n : Int) (n : Int) n rfl rfl rfl rfl (by rw [hz2]; omega) (by unfold maxLen; omega) (Nat.le_refl _) ?_; intro w1 ho1 hg1)
    | fail)
  have hB1 : Below w.heap.size w w1 := (Below.refl _ _).grown hg1 (Nat.le_refl _) (fun k h => by cases h)
  have hL1 := LevB.fresh ho1
  clear ho1 hg1 hi hz0 hz1 hz2
  go_loopw [16] (fun ix wr => ∃ (i : Nat) (rows : List (List UInt8)), i ≤ n ∧ ix = .int .i64 i ∧ Hid (leavesR m (l.take i) = .ok rows) ∧ Hid (rows.length = i) ∧ LevB wr w.heap.size (rows ++ List.replicate (n - i) []) ∧ Below w.heap.size w wr) (fun ix _ => n - (intOf ix).toNat)
  case atStart => exact ⟨0, [], Nat.zero_le _, rfl, Lib.hid rfl, Lib.hid rfl, by simpa using hL1, hB1⟩
  case round =>
    obtain ⟨i, rows, hin, rfl, hrw, hrl, hlv, hbr⟩ := hrel
    clear hL1 hB1
    by_cases hlt : i < n
    · have iI : (i : Int) < n := by omega
      obtain ⟨x, hx⟩ : ∃ x, l[i]? = some x := ⟨_, List.getElem?_eq_getElem (by rw [HN.out]; exact hlt)⟩
      obtain ⟨a, o, rfl, ha, us, ud, c0, c1, c2, r1, r2⟩ := HG.out i x hx
      obtain ⟨hE, hO⟩ := leavesR_next m l i x rows hrw.out hx
      have d0 := (hbr.cell (p := ⟨a, o + i * 3, none⟩) ha).trans c0
      have d1 := (hbr.cell (p := ⟨a, o + i * 3 + 1, none⟩) ha).trans c1
      have d2 := (hbr.cell (p := ⟨a, o + i * 3 + 2, none⟩) ha).trans c2
      have cL := fun W h1 h2 h3 => Leaf_any m x.f x.s x.d us ud W m0 m1 h1 h2 h3
      have hbx : Hid (∀ W, Below w.heap.size w W → RowV W us x.s ∧ RowV W ud x.d ∧ KW W) := fun W hW => ⟨r1.keep hW, r2.keep hW, hT.keep hW (Nat.le_refl _)⟩
      obtain ⟨au, nu, ku, rfl⟩ : ∃ a n k, us = .slice a n k := by obtain ⟨a, k, e, _⟩ := r1; exact ⟨_, _, _, e⟩
      obtain ⟨av, nv, kv, rfl⟩ : ∃ a n k, ud = .slice a n k := by obtain ⟨a, k, e, _⟩ := r2; exact ⟨_, _, _, e⟩
      have hba : ∀ o, Below w.heap.size w (wr.alloc o) := fun o => hbr.alloc hbr.size o
      have hlv1 : ∀ o, LevB (wr.alloc o) w.heap.size (rows ++ List.replicate (n - i) []) := fun o => hlv.keep ((Below.refl _ _).alloc (Nat.le_refl _) o)
      have hfill : ∀ b, Hid ((rows ++ List.replicate (n - i) []).set i b = (rows ++ [b]) ++ List.replicate (n - (i + 1)) []) := fun b => fill_next rows n i b hrl.out hlt
      have hlen : (rows ++ List.replicate (n - i) []).length = n := by have := hrl.out; simp; omega
      have HLEN := Lib.hid hlen
      have HLT := Lib.hid hlt
      generalize rows ++ List.replicate (n - i) [] = RS at *
      cases hlf : leafR m x.f x.s x.d with
      | err q =>
        have hRe : Hid (R = .err q) := by have := HR.out; show _ = _; rw [← this, hE q hlf]
        have q0 := leafR_ne _ _ _ _ _ hlf
        rw [hlf] at cL
        clear hE hO hlf c0 c1 c2 r1 r2 hx hrw hlt hlv hlv1 hfill hlen
        go_wp2_with fail
        refine (cL _ (hbx.out _ (hba _)).1 (hbx.out _ (hba _)).2.1 (hbx.out _ (hba _)).2.2).mono ?_
        rintro e w2 ⟨rfl, hb2⟩
        have hbb := below_step (hba _) (hba _).size hb2
        clear cL hba
        go_wp2_with fail
        go_ret2
        rw [hRe.out]
        exact ⟨rfl, hbb⟩
      | ok b =>
        have hnx := Lib.hid (hO b hlf)
        have hln : Hid ((rows ++ [b]).length = i + 1) := by have := hrl.out; show _ = _; rw [List.length_append, this]; rfl
        rw [hlf] at cL
        clear hE hO hlf c0 c1 c2 r1 r2 hx hrw hlt hlv hlen
        go_wp2_with fail
        refine (cL _ (hbx.out _ (hba _)).1 (hbx.out _ (hba _)).2.1 (hbx.out _ (hba _)).2.2).mono ?_
        rintro e w2 ⟨v2, rfl, hr2, hb2⟩
        have hbb := below_step (hba _) (hba _).size hb2
        have hlv2 := (hlv1 _).keep hb2
        obtain ⟨⟨u0, hu0⟩, hf0⟩ := hlv2.cell i (by rw [HLEN.out]; exact HLT.out)
        obtain ⟨a2, n2, k2, rfl⟩ : ∃ a n k, v2 = .slice a n k := by obtain ⟨a, k, e, _⟩ := hr2; exact ⟨_, _, _, e⟩
        have hlv3 := hlv2.set i _ b hr2
        rw [(hfill b).out] at hlv3
        have hbb3 := hbb.grown (grown_set w2 ⟨w.heap.size, i, none⟩ (.slice a2 n2 k2)) hbb.size (fun k h => by cases h; exact Nat.le_refl _)
        clear cL hba hlv1 hfill hlv2 hr2 hb2 hbb
        go_wp2_with fail
        go_roundw
        case rel => exact ⟨i + 1, _, HLT.out, by go_num, hnx, hln, hlv3, hbb3⟩
        case measure => have := HLT.out; simp [intOf]; omega
    · have iI : ¬ (i : Int) < n := by omega
      have hie : i = n := by omega
      have hRe : Hid (R = .ok rows) := by
        have := HR.out
        have h2 := hrw.out
        show _ = _
        rw [List.take_of_length_le (by rw [HN.out]; omega)] at h2
        rw [← this, h2]
      have hlv2 : LevB wr w.heap.size rows := by
        rw [hie, Nat.sub_self] at hlv
        simpa using hlv
      clear hlt hie hrw hrl hlv
      go_wp2_with fail
      go_ret2
      rw [hRe.out]
      exact ⟨_, rfl, Nat.le_refl _, hlv2, hbr⟩
end Go.Proofs.YtcnemacakjemjaaDoor

/-! CONTRACTS of package slots' node and nodes. CONDITIONS: package sum's roundWords hold what their initialiser lays ('KW'). -/
namespace Go.Proofs.YtcnemacakjemjaaDoor
open Go.RowKit CodeMath Go.Proofs.YtcnemacakjemjaaDoor.FrameMath
set_option linter.unusedVariables false
set_option maxRecDepth 100000

def nodeB (m : Int) (a b : List UInt8) : List UInt8 := digB m 2 [a, b]
theorem nodeB_length (m : Int) (a b : List UInt8) : (nodeB m a b).length + 42 ≤ (a.length + 42) + (b.length + 42) := by
  have h := digB_length m 2 [a, b]
  unfold nodeB
  simp only [total] at h
  omega
theorem digR_node (m : Int) (hm : isMode m = true) (a b : List UInt8) (h1 : a.length ≤ 1000000) (h2 : b.length ≤ 1000000) : digR m 2 [a, b] = .ok (nodeB m a b) := by
  unfold digR
  rw [if_neg (by rw [hm]; decide), if_neg (by omega), if_neg (by simp only [total, List.length_cons, List.length_nil]; omega)]
  rfl
set_option maxHeartbeats 2000000 in
theorem node_any (m : Int) (hm : isMode m = true) (m0 : -9223372036854775808 ≤ m) (m1 : m ≤ 9223372036854775807) (a b : List UInt8) (a1 a2 : Option Addr) (n1 k1 n2 k2 : Nat) (w : World) (ha : RowV w (.slice a1 n1 k1) a) (hb : RowV w (.slice a2 n2 k2) b) (h1 : a.length ≤ 1000000) (h2 : b.length ≤ 1000000) (hT : KW w) :
    Calls Tryd.prog 30 #[.int .i64 m, .slice a1 n1 k1, .slice a2 n2 k2] w fun e w' => ∃ v, e = .returned (.tuple #[v, .int .i64 0]) ∧ RowT w' v (nodeB m a b) ∧ Below w.heap.size w w' := by
  have cD := fun ap W h hk => Digest_any m 2 [a, b] ap 2 W m0 m1 (by decide) (by decide) (by simp) (fun l hl => by simp at hl; rcases hl with rfl | rfl <;> omega) h hk
  rw [digR_node m hm a b h1 h2, show [a, b].length = 2 from rfl] at cD
  generalize nodeB m a b = D at *
  have hlin := fun T => lines_two w _ _ T _ _ ha hb
  have hba : ∀ o, Below w.heap.size w (w.alloc o) := fun o => (Below.refl _ _).alloc (Nat.le_refl _) o
  clear ha hb h1 h2 hm
  go_enter Tryd.func30, Tryd.ntmps30
  go_wp2_with fail
  refine (cD _ _ (hlin _) (hT.keep (hba _) (Nat.le_refl _))).mono ?_
  rintro e w1 ⟨v, rfl, hr, hb1⟩
  have hbb := below_step (hba _) (hba _).size hb1
  clear cD hlin hba
  go_wp2_with fail
  go_ret2
  exact ⟨_, rfl, hr, hbb⟩
/-- The level above. -/
def up (m : Int) : List (List UInt8) → List (List UInt8)
  | a :: b :: r => nodeB m a b :: up m r
  | _ => []
theorem up_length (m : Int) : ∀ rows, (up m rows).length = rows.length / 2
  | [] => rfl
  | [a] => by simp [up]
  | a :: b :: r => by
    show (up m r).length + 1 = (r.length + 2) / 2
    rw [up_length m r]; omega
theorem up_get (m : Int) : ∀ (rows : List (List UInt8)) (i : Nat) (a b : List UInt8), rows[2 * i]? = some a → rows[2 * i + 1]? = some b → (up m rows)[i]? = some (nodeB m a b)
  | [], i, a, b, h, h' => by simp at h
  | [x], i, a, b, h, h' => by
    simp at h'
  | x :: y :: r, 0, a, b, h, h' => by
    simp at h h'
    subst h h'
    rfl
  | x :: y :: r, i + 1, a, b, h, h' => by
    have e1 : 2 * (i + 1) = 2 * i + 1 + 1 := by omega
    have e2 : 2 * (i + 1) + 1 = 2 * i + 1 + 1 + 1 := by omega
    rw [e1] at h
    rw [e2] at h'
    simp only [List.getElem?_cons_succ] at h h'
    exact up_get m r i a b h h'
def NodesF (m : Int) (a o q : Nat) (L : Value) (A1 A2 : Option Addr) (n1 k1 n2 k2 : Nat) (D : List UInt8) : Nat → Value → World → Prop
  | 0, v, _ => v = .int .i64 m
  | 1, v, _ => v = L
  | 2, v, _ => v = .int .i64 (q : Int)
  | 3, v, _ => v = .int .i64 (2 * (q : Int))
  | 4, v, _ => v = .pointer (some ⟨a, o + 2 * q, none⟩)
  | 5, v, _ => v = .slice A1 n1 k1
  | 6, v, _ => v = L
  | 7, v, _ => v = .int .i64 (q : Int)
  | 8, v, _ => v = .int .i64 (2 * (q : Int))
  | 9, v, _ => v = .int .i64 (2 * (q : Int) + 1)
  | 10, v, _ => v = .pointer (some ⟨a, o + (2 * q + 1), none⟩)
  | 11, v, _ => v = .slice A2 n2 k2
  | 12, v, w => ∃ u, v = .tuple #[u, .int .i64 0] ∧ RowT w u D
  | 13, v, w => ∃ u, v = .tuple #[u, .int .i64 0] ∧ RowT w u D
  | 14, v, w => RowT w v D
  | 15, v, _ => v = .int .i64 0
  | 16, v, w => RowT w v D
  | _, _, _ => True
theorem nodesF_keep {m : Int} {a o q : Nat} {L : Value} {A1 A2 : Option Addr} {n1 k1 n2 k2 : Nat} {D : List UInt8} (i : Nat) (v : Value) (w w' : World) (h : NodesF m a o q L A1 A2 n1 k1 n2 k2 D i v w) (he : Below w.heap.size w w') : NodesF m a o q L A1 A2 n1 k1 n2 k2 D i v w' := by
  unfold NodesF at *
  split at h <;> (try exact h) <;> (try exact trivial)
  · obtain ⟨u, h1, h2⟩ := h; exact ⟨u, h1, h2.keep he⟩
  · obtain ⟨u, h1, h2⟩ := h; exact ⟨u, h1, h2.keep he⟩
  · exact h.keep he
  · exact h.keep he
set_option maxHeartbeats 4000000 in
theorem nodes_any (m : Int) (hm : isMode m = true) (m0 : -9223372036854775808 ≤ m) (m1 : m ≤ 9223372036854775807) (rows : List (List UInt8)) (ap : Option Addr) (cp : Nat) (w : World) (hn : rows.length ≤ 64) (hL : ∀ b ∈ rows, b.length ≤ 1000000) (hl : Lines w ap rows) (hT : KW w) :
    Calls Tryd.prog 18 #[.int .i64 m, .slice ap rows.length cp] w (LevPost (.ok (up m rows)) (rows.length / 2) w) := by
  obtain ⟨n, hnn⟩ : ∃ n, rows.length = n := ⟨_, rfl⟩
  obtain ⟨k, hk⟩ : ∃ k, n / 2 = k := ⟨_, rfl⟩
  obtain ⟨U, hU⟩ : ∃ U, up m rows = U := ⟨_, rfl⟩
  have hUl : U.length = k := by rw [← hU, up_length, hnn, hk]
  rw [hnn, hk, hU]
  have hdiv : (n : Int).tdiv 2 = k := by rw [Int.tdiv_eq_ediv_of_nonneg (by omega)]; omega
  have hk2 : 2 * k ≤ n := by omega
  have hk32 : k ≤ 32 := by omega
  have HNN := Lib.hid hnn
  have HU := Lib.hid hU
  have HUL := Lib.hid hUl
  have HK2 := Lib.hid hk2
  rw [hnn] at hn
  have nI : (n : Int) ≤ 64 := by omega
  have kI : (k : Int) ≤ 32 := by omega
  obtain ⟨i0, hi, hz0, hz1, hz2⟩ := info_parts infoL
  clear hnn hU hUl hk hk2
  go_enter Tryd.func18, Tryd.ntmps18
  go_wp2_with (first
    | (with_reducible refine wpList_make_full _ rfl (.tmp 12) (.tmp 12) 24 rfl w.heap.size 37 i0 (.slice none 0 0) 1 Tryd.underlying24 hi hz0 hz1 .i64 .i64 (k : Int) (k : Int) k rfl rfl rfl rfl (by rw [hz2]; omega) (by unfold maxLen; omega) (Nat.le_refl _) ?_; intro w1 ho1 hg1)
    | fail)
  have hB1 : Below w.heap.size w w1 := (Below.refl _ _).grown hg1 (Nat.le_refl _) (fun k h => by cases h)
  have hL1 := LevB.fresh ho1
  clear ho1 hg1 hi hz0 hz1 hz2 hdiv
  go_loopw [16] (fun ix wr => ∃ i : Nat, i ≤ k ∧ ix = .int .i64 i ∧ LevB wr w.heap.size (U.take i ++ List.replicate (k - i) []) ∧ Below w.heap.size w wr) (fun ix _ => k - (intOf ix).toNat)
  case atStart => exact ⟨0, Nat.zero_le _, rfl, by simpa using hL1, hB1⟩
  case round =>
    obtain ⟨i, hin, rfl, hlv, hbr⟩ := hrel
    clear hL1 hB1
    by_cases hlt : i < k
    · have iI : (i : Int) < k := by omega
      have h2n : 2 * i + 1 < rows.length := by have := HK2.out; have := HNN.out; omega
      obtain ⟨ra, hra⟩ : ∃ x, rows[2 * i]? = some x := ⟨_, List.getElem?_eq_getElem (by omega)⟩
      obtain ⟨rb, hrb⟩ : ∃ x, rows[2 * i + 1]? = some x := ⟨_, List.getElem?_eq_getElem h2n⟩
      have hUi : U[i]? = some (nodeB m ra rb) := by rw [← HU.out]; exact up_get m rows i ra rb hra hrb
      have hla := hL ra (List.mem_of_getElem? hra)
      have hlb := hL rb (List.mem_of_getElem? hrb)
      rcases hl with h0 | ⟨a, o, rfl, ha, h3⟩
      · rw [h0] at hra; simp at hra
      · obtain ⟨A1, k1, c1, p1, p2, p3, p4⟩ := h3 _ ra hra
        obtain ⟨A2, k2, c2, q1, q2, q3, q4⟩ := h3 _ rb hrb
        have HC1 : Hid (∀ W, Below wr.heap.size wr W → W.cell? ⟨a, o + 2 * i, none⟩ = some (.slice A1 ra.length k1)) := fun W hW => ((below_step hbr hbr.size hW).cell (p := ⟨a, o + 2 * i, none⟩) ha).trans c1
        have HC2 : Hid (∀ W, Below wr.heap.size wr W → W.cell? ⟨a, o + (2 * i + 1), none⟩ = some (.slice A2 rb.length k2)) := fun W hW => ((below_step hbr hbr.size hW).cell (p := ⟨a, o + (2 * i + 1), none⟩) ha).trans c2
        have cN0 := fun W h1 h2 h3 => node_any m hm m0 m1 ra rb A1 A2 ra.length k1 rb.length k2 W h1 h2 hla hlb h3
        have cN : ∀ W, Below wr.heap.size wr W → _ := fun W hW => cN0 W ⟨A1, k1, rfl, p1, p2, p3, p4.keep (below_step hbr hbr.size hW)⟩ ⟨A2, k2, rfl, q1, q2, q3, q4.keep (below_step hbr hbr.size hW)⟩ (hT.keep (below_step hbr hbr.size hW) (Nat.le_refl _))
        have hfill : Hid ((U.take i ++ List.replicate (k - i) []).set i (nodeB m ra rb) = U.take (i + 1) ++ List.replicate (k - (i + 1)) []) := by
          show _ = _
          rw [fill_next (U.take i) k i (nodeB m ra rb) (by rw [List.length_take]; have := HUL.out; omega) hlt, take_next U i _ hUi]
        have hlen : (U.take i ++ List.replicate (k - i) []).length = k := by rw [List.length_append, List.length_take, List.length_replicate]; have := HUL.out; omega
        have HLEN := Lib.hid hlen
        have HLT := Lib.hid hlt
        have i32 : (i : Int) < 32 := by omega
        have i2n : 2 * (i : Int) + 1 < n := by have := HNN.out; omega
        have i2m : 2 * (i : Int) < n := by omega
        have i20 : (0 : Int) ≤ 2 * (i : Int) := by omega
        have t2 : (2 * (i : Int)).toNat = 2 * i := by omega
        have w2 : IntKind.i64.wrap (2 * (i : Int)) = 2 * (i : Int) := by
          simp [IntKind.wrap, IntKind.bits, IntKind.signed]
          omega
        have w3 : IntKind.i64.wrap (2 * (i : Int) + 1) = 2 * (i : Int) + 1 := by
          simp [IntKind.wrap, IntKind.bits, IntKind.signed]
          omega
        generalize nodeB m ra rb = D at *
        generalize ra.length = n1 at *
        generalize rb.length = n2 at *
        generalize U.take i ++ List.replicate (k - i) [] = RS at *
        clear cN0 c1 c2 p1 p2 p3 p4 q1 q2 q3 q4 h3 hra hrb hUi hla hlb hlen hlt h2n
        go_upto_region 5 with fail
        refine wp_region_facts' 17 (by kernel_rfl) (by kernel_rfl) (NodesF m a o i (.slice (some ⟨a, o, none⟩) n cp) A1 A2 n1 k1 n2 k2 D) (fun W => Below wr.heap.size wr W) (fun W W' => Below W.heap.size W W') ?hC ?hF ?h0 ?hstep ?hdone
        case hC => exact fun W W' hc he => below_step hc hc.size he
        case hF => exact nodesF_keep
        case h0 => exact (Below.refl _ _).drew
        case hstep =>
          intro j hj vs act W K ha' hc hd hu hK
          simp only [fillF, Act.put, List.take_succ_cons, List.take_zero, List.setIfInBounds_toArray, List.set_cons_zero, List.set_cons_succ] at ha'
          subst ha'
          clear hu
          rcases (show j = 0 ∨ j = 1 ∨ j = 2 ∨ j = 3 ∨ j = 4 ∨ j = 5 ∨ j = 6 ∨ j = 7 ∨ j = 8 ∨ j = 9 ∨ j = 10 ∨ j = 11 ∨ j = 12 ∨ j = 13 ∨ j = 14 ∨ j = 15 ∨ j = 16 by omega) with rfl | rfl | rfl | rfl | rfl | rfl | rfl | rfl | rfl | rfl | rfl | rfl | rfl | rfl | rfl | rfl | rfl
          · refine wpOp_step rfl (fun K' hK' => ?_)
            go_simp
            exact hK' _ _ (hK _ _ rfl (Below.refl _ _))
          · refine wpOp_step rfl (fun K' hK' => ?_)
            go_simp
            exact hK' _ _ (hK _ _ rfl (Below.refl _ _))
          · refine wpOp_step rfl (fun K' hK' => ?_)
            go_simp
            exact hK' _ _ (hK _ _ rfl (Below.refl _ _))
          · have e2 : vs 2 = .int .i64 (i : Int) := hd 2 (by kernel_rfl)
            simp only [e2] at hK ⊢
            refine wpOp_step rfl (fun K' hK' => ?_)
            go_simp
            exact hK' _ _ (hK _ _ rfl (Below.refl _ _))
          · have e1 : vs 1 = .slice (some ⟨a, o, none⟩) n cp := hd 1 (by kernel_rfl)
            have e3 : vs 3 = .int .i64 (2 * (i : Int)) := hd 3 (by kernel_rfl)
            simp only [e1, e3] at hK ⊢
            refine wpOp_step rfl (fun K' hK' => ?_)
            go_simp
            exact hK' _ _ (hK _ _ (by first | rfl | (congr 3; omega)) (Below.refl _ _))
          · have e4 : vs 4 = .pointer (some ⟨a, o + 2 * i, none⟩) := hd 4 (by kernel_rfl)
            simp only [e4] at hK ⊢
            have q1 := HC1.out W hc
            refine wpOp_step rfl (fun K' hK' => ?_)
            go_simp
            exact hK' _ _ (hK _ _ rfl (Below.refl _ _))
          · refine wpOp_step rfl (fun K' hK' => ?_)
            go_simp
            exact hK' _ _ (hK _ _ rfl (Below.refl _ _))
          · refine wpOp_step rfl (fun K' hK' => ?_)
            go_simp
            exact hK' _ _ (hK _ _ rfl (Below.refl _ _))
          · have e7 : vs 7 = .int .i64 (i : Int) := hd 7 (by kernel_rfl)
            simp only [e7] at hK ⊢
            refine wpOp_step rfl (fun K' hK' => ?_)
            go_simp
            exact hK' _ _ (hK _ _ rfl (Below.refl _ _))
          · have e8 : vs 8 = .int .i64 (2 * (i : Int)) := hd 8 (by kernel_rfl)
            simp only [e8] at hK ⊢
            refine wpOp_step rfl (fun K' hK' => ?_)
            go_simp
            exact hK' _ _ (hK _ _ rfl (Below.refl _ _))
          · have e6 : vs 6 = .slice (some ⟨a, o, none⟩) n cp := hd 6 (by kernel_rfl)
            have e9 : vs 9 = .int .i64 (2 * (i : Int) + 1) := hd 9 (by kernel_rfl)
            simp only [e6, e9] at hK ⊢
            refine wpOp_step rfl (fun K' hK' => ?_)
            go_simp
            exact hK' _ _ (hK _ _ (by first | rfl | (congr 3; omega)) (Below.refl _ _))
          · have e10 : vs 10 = .pointer (some ⟨a, o + (2 * i + 1), none⟩) := hd 10 (by kernel_rfl)
            simp only [e10] at hK ⊢
            have q2 := HC2.out W hc
            refine wpOp_step rfl (fun K' hK' => ?_)
            go_simp
            exact hK' _ _ (hK _ _ rfl (Below.refl _ _))
          · have e0 : vs 0 = .int .i64 m := hd 0 (by kernel_rfl)
            have e5 : vs 5 = .slice A1 n1 k1 := hd 5 (by kernel_rfl)
            have e11 : vs 11 = .slice A2 n2 k2 := hd 11 (by kernel_rfl)
            simp only [e0, e5, e11] at hK ⊢
            refine wpOp_step rfl (fun K' hK' => ?_)
            go_simp
            with_reducible refine (cN W hc).mono ?_
            rintro e w' ⟨u, rfl, hr, hb⟩
            exact hK' _ _ (hK _ _ ⟨u, rfl, hr⟩ hb)
          · obtain ⟨u12, e12, y12⟩ := hd 12 (by kernel_rfl)
            simp only [e12] at hK ⊢
            refine wpOp_step rfl (fun K' hK' => ?_)
            go_simp
            exact hK' _ _ (hK _ _ ⟨u12, rfl, y12⟩ (Below.refl _ _))
          · obtain ⟨u13, e13, y13⟩ := hd 13 (by kernel_rfl)
            simp only [e13] at hK ⊢
            refine wpOp_step rfl (fun K' hK' => ?_)
            go_simp
            exact hK' _ _ (hK _ _ y13 (Below.refl _ _))
          · obtain ⟨u13, e13, y13⟩ := hd 13 (by kernel_rfl)
            simp only [e13] at hK ⊢
            refine wpOp_step rfl (fun K' hK' => ?_)
            go_simp
            exact hK' _ _ (hK _ _ rfl (Below.refl _ _))
          · have y14 : RowT W (vs 14) D := hd 14 (by kernel_rfl)
            refine wpOp_step rfl (fun K' hK' => ?_)
            go_simp
            exact hK' _ _ (hK _ _ y14 (Below.refl _ _))
        case hdone =>
          intro vs act W ha' hc hf
          simp only [fillF, Act.put, List.take_succ_cons, List.take_zero, List.setIfInBounds_toArray, List.set_cons_zero, List.set_cons_succ] at ha'
          subst ha'
          have f15 : vs 15 = .int .i64 0 := hf 15 (by decide)
          have f16 : RowT W (vs 16) D := hf 16 (by decide)
          simp only [Nat.zero_add, Nat.reduceAdd, f15]
          have hBB := below_step hbr hbr.size hc
          have hlv2 := hlv.keep hc
          obtain ⟨⟨u0, hu0⟩, hf0⟩ := hlv2.cell i (by rw [HLEN.out]; exact HLT.out)
          generalize vs 16 = v16 at *
          obtain ⟨a2, n2, k2, rfl⟩ : ∃ a n k, v16 = .slice a n k := by obtain ⟨a, k, e, _⟩ := f16; exact ⟨_, _, _, e⟩
          have hlv3 := hlv2.set i _ D f16
          rw [hfill.out] at hlv3
          have hbb3 := hBB.grown (grown_set W ⟨w.heap.size, i, none⟩ (.slice a2 n2 k2)) hBB.size (fun k h => by cases h; exact Nat.le_refl _)
          clear hf hlv2 hlv f16 hc hbr HC1 HC2 cN hfill hBB
          go_wp2_with fail
          go_roundw
          case rel => exact ⟨i + 1, HLT.out, by go_num, hlv3, hbb3⟩
          case measure => have := HLT.out; simp [intOf]; omega
    · have iI : ¬ (i : Int) < k := by omega
      have hie : i = k := by omega
      have hlv2 : LevB wr w.heap.size U := by
        rw [hie, Nat.sub_self, List.take_of_length_le (by rw [HUL.out]; exact Nat.le_refl _)] at hlv
        simpa using hlv
      clear hlt hie hlv
      go_wp2_with fail
      go_ret2
      exact ⟨_, rfl, Nat.le_refl _, hlv2, hbr⟩
end Go.Proofs.YtcnemacakjemjaaDoor

/-! CONTRACTS of bits.OnesCount (up to 64), package slots' isNumber, the reference's whole. CONDITIONS: each theorem's own hypotheses. -/
namespace Go.Proofs.YtcnemacakjemjaaDoor
open Go.RowKit CodeMath
set_option linter.unusedVariables false
set_option maxRecDepth 100000

def isPow (n : Int) : Bool := decide (n = 1 ∨ n = 2 ∨ n = 4 ∨ n = 8 ∨ n = 16 ∨ n = 32 ∨ n = 64)
theorem bounded {Q : Nat → Prop} (h : ∀ n : Fin 65, Q n.1) : ∀ n, n < 65 → Q n := fun n hn => h ⟨n, hn⟩
set_option maxHeartbeats 1000000 in
theorem ones64_any (n : Nat) (hn : n < 65) (w : World) :
    Calls Tryd.prog 34 #[.int .u64 (n : Int)] w fun e w' => ∃ r, e = .returned (.int .i64 r) ∧ decide (r = 1) = isPow n ∧ w = w' := by
  have nI : (n : Int) < 65 := by omega
  go_enter Tryd.func34, Tryd.ntmps34
  go_wp2_with fail
  go_ret
  refine ⟨_, rfl, ?_, rfl⟩
  clear nI
  revert n
  refine bounded ?_
  decide +kernel
theorem onesCount_any (n : Nat) (hn : n < 65) (w : World) :
    Calls Tryd.prog 28 #[.int .u64 (n : Int)] w fun e w' => ∃ r, e = .returned (.int .i64 r) ∧ decide (r = 1) = isPow n ∧ w = w' := by
  have nI : (n : Int) < 65 := by omega
  have c := fun W => ones64_any n hn W
  go_enter Tryd.func28, Tryd.ntmps28
  go_wp2_with fail
  refine (c _).mono ?_
  rintro e w1 ⟨r, rfl, hr, rfl⟩
  clear c
  go_wp2_with fail
  go_ret
  exact ⟨r, rfl, hr, rfl⟩
set_option maxHeartbeats 1000000 in
theorem isNumber_any (n : Int) (n0 : -9223372036854775808 ≤ n) (n1 : n ≤ 9223372036854775807) (w : World) :
    Calls Tryd.prog 16 #[.int .i64 n] w fun e w' => e = .returned (.bool (isPow n)) ∧ w = w' := by
  obtain ⟨b, hb⟩ : ∃ b, isPow n = b := ⟨_, rfl⟩
  rw [hb]
  by_cases h1 : 1 ≤ n
  · by_cases h64 : n ≤ 64
    · obtain ⟨k, rfl⟩ : ∃ k : Nat, n = k := ⟨n.toNat, by omega⟩
      have c := fun W => onesCount_any k (by omega) W
      rw [hb] at c
      have wk : IntKind.u64.wrap (k : Int) = (k : Int) := by
        rw [IntKind.wrap_u64]; omega
      clear hb
      go_enter Tryd.func16, Tryd.ntmps16
      go_wp2_with fail
      refine (c _).mono ?_
      rintro e w1 ⟨r, rfl, hr, rfl⟩
      clear c
      go_wp2_with fail
      go_ret
      exact ⟨by first | rfl | (rw [← hr]; rfl) | (show Ending.returned (.bool (r == 1)) = _; rw [← hr]; congr 2), rfl⟩
    · have hbf : b = false := by rw [← hb]; unfold isPow; simp; omega
      subst hbf
      clear hb
      go_enter Tryd.func16, Tryd.ntmps16
      go_wp2_with fail
      go_ret
      exact ⟨rfl, rfl⟩
  · have hbf : b = false := by rw [← hb]; unfold isPow; simp; omega
    subst hbf
    clear hb
    go_enter Tryd.func16, Tryd.ntmps16
    go_wp2_with fail
    go_ret
    exact ⟨rfl, rfl⟩
end Go.Proofs.YtcnemacakjemjaaDoor

/-! CONTRACT of package slots' levels. CONDITIONS: package sum's roundWords hold what their initialiser lays ('KW'). -/
namespace Go.Proofs.YtcnemacakjemjaaDoor
open Go.RowKit CodeMath Go.Proofs.YtcnemacakjemjaaDoor.FrameMath
set_option linter.unusedVariables false
set_option maxRecDepth 100000

/-- The levels of a tree, from the bottom up. -/
def tower (m : Int) : Nat → List (List UInt8) → List (List (List UInt8))
  | 0, rows => [rows]
  | h + 1, rows => rows :: tower m h (up m rows)
theorem tower_length (m : Int) : ∀ h rows, (tower m h rows).length = h + 1
  | 0, rows => rfl
  | h + 1, rows => by show (tower m h (up m rows)).length + 1 = _; rw [tower_length m h]
theorem pow_of {n : Nat} (h : isPow n = true) : ∃ k, k ≤ 6 ∧ n = 2 ^ k := by
  unfold isPow at h
  have h1 := of_decide_eq_true h
  rcases h1 with h | h | h | h | h | h | h
  · exact ⟨0, by decide, by omega⟩
  · exact ⟨1, by decide, by omega⟩
  · exact ⟨2, by decide, by omega⟩
  · exact ⟨3, by decide, by omega⟩
  · exact ⟨4, by decide, by omega⟩
  · exact ⟨5, by decide, by omega⟩
  · exact ⟨6, by decide, by omega⟩
theorem up_mem (m : Int) : ∀ (rows : List (List UInt8)) (x : List UInt8), x ∈ up m rows → ∃ a ∈ rows, ∃ b ∈ rows, x = nodeB m a b
  | [], x, h => by simp [up] at h
  | [a], x, h => by simp [up] at h
  | a :: b :: r, x, h => by
    rcases List.mem_cons.1 (show x ∈ nodeB m a b :: up m r from h) with rfl | h
    · exact ⟨a, by simp, b, by simp, rfl⟩
    · obtain ⟨a', h1, b', h2, e⟩ := up_mem m r x h
      exact ⟨a', by simp [h1], b', by simp [h2], e⟩
/-- Digests that are not too long for their level. -/
def Fit (rows : List (List UInt8)) : Prop := ∀ b ∈ rows, rows.length * (b.length + 42) ≤ 41088
theorem Fit.max {rows : List (List UInt8)} (h : Fit rows) (b : List UInt8) (hb : b ∈ rows) : b.length ≤ 1000000 := by
  have h1 := h b hb
  have h2 : 1 ≤ rows.length := by cases rows with
    | nil => cases hb
    | cons a r => simp
  have h3 := Nat.mul_le_mul_right (b.length + 42) h2
  omega
theorem Fit.up {m : Int} {rows : List (List UInt8)} (h : Fit rows) (k : Nat) (hk : rows.length = 2 * k) : Fit (up m rows) := by
  intro x hx
  obtain ⟨a, ha, b, hb, rfl⟩ := up_mem m rows x hx
  have h1 := h a ha
  have h2 := h b hb
  have h3 := nodeB_length m a b
  have hl := up_length m rows
  rw [hk] at h1 h2 hl
  have hl' : (Go.Proofs.YtcnemacakjemjaaDoor.up m rows).length = k := by omega
  rw [hl']
  have h4 : k * ((nodeB m a b).length + 42) ≤ k * ((a.length + 42) + (b.length + 42)) := Nat.mul_le_mul_left k h3
  have h5 := Nat.mul_add k (a.length + 42) (b.length + 42)
  rw [h5] at h4
  rw [Nat.mul_assoc] at h1 h2
  omega
theorem Fit.leaves {m : Int} {l : List Sl} {rows : List (List UInt8)} (h : leavesR m l = .ok rows) (hl : l.length ≤ 64) : Fit rows := by
  intro b hb
  have h1 := leavesR_each m l rows h b hb
  have h2 := leavesR_length m l rows h
  rw [h2]
  have h3 : l.length * (b.length + 42) ≤ 64 * 642 := Nat.mul_le_mul hl (by omega)
  omega
/-! ### in memory -/
theorem infoT : (Tryd.prog.info? 24).map (fun i => (i.zero, i.size, i.bytes)) = some (some (.slice none 0 0), 1, 24) := by kernel_rfl
theorem LevB.grown {w w' : World} {g : Nat} {rows : List (List UInt8)} (h : LevB w g rows) {row : Option Nat} (hg : w.grownBy w' row) (hr : ∀ b, row = some b → ∃ cur fz, w.heap[b]? = some (.cells cur 24 fz)) : LevB w' g rows := by
  obtain ⟨us, h1, h2, h3⟩ := h
  refine ⟨us, h1.same (hg.block g h1.lt (fun hh => ?_)), h2, fun i l hi => ?_⟩
  · obtain ⟨cur, fz, h6⟩ := hr g hh.symm
    unfold Blk at h1
    rw [h1] at h6
    cases h6
  · obtain ⟨u, k1, k2⟩ := h3 i l hi
    exact ⟨u, k1, k2.grown hg (fun b hb => by obtain ⟨cur, fz, h⟩ := hr b hb; exact ⟨cur, _, fz, h, .inr rfl⟩)⟩
/-- A slice of levels of the call's own. -/
def OwnT (w : World) (base : Nat) (v : Value) (lv : List (List (List UInt8))) : Prop := ∃ us : List Value, w.ownsRow base 24 1 v lv.length us ∧ ∀ (k : Nat) (rows : List (List UInt8)), lv[k]? = some rows → ∃ g : Nat, us[k]? = some (Value.slice (some ⟨g, 0, none⟩) rows.length rows.length) ∧ LevB w g rows
theorem OwnT.keep {w w1 : World} {base : Nat} {v : Value} {lv : List (List (List UInt8))} (h : OwnT w base v lv) (hb : Below w.heap.size w w1) : OwnT w1 base v lv := by
  obtain ⟨us, h1, h2⟩ := h
  refine ⟨us, World.ownsRow.kept (row := none) h1 ⟨hb.os, hb.tape, hb.output, hb.size, fun k hk _ => hb.block k hk⟩ (by cases v.ownBlock <;> simp), fun k rows hi => ?_⟩
  obtain ⟨g, k1, k2⟩ := h2 k rows hi
  exact ⟨g, k1, k2.keep hb⟩
theorem OwnT.one (w : World) (base g : Nat) (rows : List (List UInt8)) (n : Nat) (hn : rows.length = n) (h : LevB w g rows) (hb : base ≤ w.heap.size) : OwnT (w.alloc (.cells #[.slice (some ⟨g, 0, none⟩) n n] 24)) base (.slice (some ⟨w.heap.size, 0, none⟩) 1 1) [rows] := by
  subst hn
  refine ⟨[.slice (some ⟨g, 0, none⟩) rows.length rows.length], World.ownsRow_lit w #[.slice (some ⟨g, 0, none⟩) rows.length rows.length] 1 hb (by unfold maxLen; omega) rfl, fun k r hk => ?_⟩
  match k, hk with
  | 0, hk => simp at hk; subst hk; exact ⟨g, rfl, h.keep ((Below.refl _ _).alloc (Nat.le_refl _) _)⟩
/-- append(tree, level). -/
theorem wpList_append_level {ops : Array Oper} {rest : List Oper} {o : Oper} {a : Act} {Q : Exit → Act → World → Prop} {w : World} (hgd : o.guard = none) (s x : Operand)
    (ho : o.op = .call { callee := .builtin .append, args := #[s, x], argTypes := #[32, 32] }) (base : Nat) (v : Value) (lv : List (List (List UInt8))) (hs : a.eval s = v) (hown : OwnT w base v lv)
    (g : Nat) (rows : List (List UInt8)) (n m : Nat) (hn : rows.length = n) (hx : a.eval x = .slice (some ⟨m, 0, none⟩) 1 1) (hm : m = w.heap.size) (hu : LevB w g rows) (hl : lv.length ≤ 1000000) (hb : base ≤ w.heap.size)
    (h : ∀ v' w', OwnT w' base v' (lv ++ [rows]) → LevB w' g rows → Below base w w' → wpList Tryd.prog ops Q rest (a.put o.dst v') w') : wpList Tryd.prog ops Q (o :: rest) a (w.alloc (.cells #[.slice (some ⟨g, 0, none⟩) n n] 24)) := by
  subst hm hn
  obtain ⟨us, h1, h2⟩ := hown
  obtain ⟨i0, hi, hz0, hz1, hz2⟩ := info_parts infoT
  refine wpList_append_own _ hgd s x 32 ho base 24 i0 (.slice none 0 0) 1 24 Tryd.underlying32 hi hz0 hz1 hz2 rfl (by decide) v lv.length us hs (World.ownsRow.alloc h1 _) ⟨w.heap.size, 0, none⟩ 1 1 [.slice (some ⟨g, 0, none⟩) rows.length rows.length] hx rfl ?_ ?_ (by unfold maxLen; omega) (by omega) (by simp; omega) ?_
  · intro j u' hj
    match j, hj with
    | 0, hj =>
      simp at hj; subst hj
      rw [addr_zero, World.cell?_alloc_new]
      rfl
  · intro u' hu'
    simp at hu'; subst hu'; rfl
  · intro v' w' k1 k2 _
    have hg0 : w.grownBy w' v.ownBlock := grown_trans (World.grownBy_alloc w _ _) k2
    have hty : ∀ b, v.ownBlock = some b → ∃ cur fz, w.heap[b]? = some (.cells cur 24 fz) := fun b hb => ownsRow_typed h1 b hb
    refine h v' w' ⟨us ++ [.slice (some ⟨g, 0, none⟩) rows.length rows.length], by rw [List.length_append]; exact k1, fun k r hk => ?_⟩ (hu.grown hg0 hty) ?_
    · have hul : us.length = lv.length := by have := h1.1; omega
      by_cases hil : k < lv.length
      · rw [List.getElem?_append_left hil] at hk
        obtain ⟨g', q1, q2⟩ := h2 k r hk
        exact ⟨g', by rw [List.getElem?_append_left (by omega)]; exact q1, q2.grown hg0 hty⟩
      · rw [List.getElem?_append_right (by omega)] at hk
        have hi0 : k - lv.length = 0 := by
          rcases Nat.eq_zero_or_pos (k - lv.length) with h0 | h0
          · exact h0
          · rw [List.getElem?_eq_none (by simp; omega)] at hk; cases hk
        rw [hi0] at hk
        simp only [List.getElem?_cons_zero, Option.some.injEq] at hk
        subst hk
        exact ⟨g, by rw [List.getElem?_append_right (by omega), show k - us.length = 0 by omega]; rfl, hu.grown hg0 hty⟩
    · exact ((Below.refl base w).alloc hb _).grown k2 (by simp; omega) (fun k hk => (h1.lt k hk).1)
/-- What levels answers. -/
inductive TR where
  | err (e : Int)
  | ok (h : Nat) (rows : List (List UInt8))
def levelsR (m : Int) (l : List Sl) : LR := if isMode m = false then .err 2 else if isPow l.length = false then .err 1 else leavesR m l
def TreePost (m : Int) (h : Nat) (R : LR) (w : World) (e : Ending) (w' : World) : Prop := match R with
  | .err c => e = .returned (.tuple #[.slice none 0 0, .int .i64 c]) ∧ Below w.heap.size w w'
  | .ok rows => ∃ v, e = .returned (.tuple #[v, .int .i64 0]) ∧ OwnT w' w.heap.size v (tower m h rows) ∧ Below w.heap.size w w'
theorem leavesR_ne (m : Int) : ∀ (l : List Sl) (e : Int), leavesR m l = .err e → e ≠ 0
  | [], e, h => by cases h
  | y :: l, e, h => by
    cases hy : leafR m y.f y.s y.d with
    | err q => simp only [leavesR, hy] at h; cases h; exact leafR_ne _ _ _ _ _ hy
    | ok b0 =>
      simp only [leavesR, hy] at h
      cases hr : leavesR m l with
      | err q => rw [hr] at h; cases h; exact leavesR_ne m l e hr
      | ok r0 => rw [hr] at h; cases h
end Go.Proofs.YtcnemacakjemjaaDoor

/-! CONTRACT of package slots' levels: the walk. CONDITIONS: package sum's roundWords hold what their initialiser lays ('KW'). -/
namespace Go.Proofs.YtcnemacakjemjaaDoor
open Go.RowKit CodeMath Go.Proofs.YtcnemacakjemjaaDoor.FrameMath
set_option linter.unusedVariables false
set_option maxRecDepth 100000

theorem tower_tail (m : Int) (h : Nat) (rows : List (List UInt8)) : tower m h rows = rows :: (tower m h rows).tail := by
  cases h <;> rfl
set_option maxHeartbeats 4000000 in
theorem levels_any (m : Int) (l : List Sl) (ao : Option Addr) (cap : Nat) (w : World) (m0 : -9223372036854775808 ≤ m) (m1 : m ≤ 9223372036854775807) (hc : l.length ≤ cap) (hq : cap ≤ 9223372036854775807) (hS : Slots w ao l) (hT : KW w) (h : Nat) (hh : isPow l.length = true → l.length = 2 ^ h) :
    Calls Tryd.prog 7 #[.int .i64 m, .slice ao l.length cap] w (TreePost m h (levelsR m l) w) := by
  have cM := fun W => mode_any m W m0 m1
  have cN := fun W => isNumber_any (l.length : Int) (by omega) (by omega) W
  have hBB := Below.refl w.heap.size w
  obtain ⟨R, hR⟩ : ∃ R, levelsR m l = R := ⟨_, rfl⟩
  rw [hR]
  unfold levelsR at hR
  cases hm : isMode m with
  | false =>
    rw [if_pos hm] at hR
    subst hR
    rw [hm] at cM
    clear hm cN hh hc
    generalize l.length = n
    go_enter Tryd.func7, Tryd.ntmps7
    go_wp2_with fail
    refine (cM _).mono ?_
    rintro e w1 ⟨rfl, rfl⟩
    go_wp2_with fail
    go_ret2
    exact ⟨rfl, hBB⟩
  | true =>
    rw [if_neg (by rw [hm]; decide)] at hR
    rw [hm] at cM
    cases hp : isPow l.length with
    | false =>
      rw [if_pos hp] at hR
      subst hR
      rw [hp] at cN
      clear hm hh hc hp
      generalize l.length = n at *
      go_enter Tryd.func7, Tryd.ntmps7
      go_wp2_with fail
      refine (cM _).mono ?_
      rintro e w1 ⟨rfl, rfl⟩
      go_wp2_with fail
      refine (cN _).mono ?_
      rintro e w1 ⟨rfl, rfl⟩
      go_wp2_with fail
      go_ret2
      exact ⟨rfl, hBB⟩
    | true =>
      rw [if_neg (by rw [hp]; decide)] at hR
      rw [hp] at cN
      have hlh := hh hp
      obtain ⟨k, hk6, hk⟩ := pow_of hp
      have hl64 : l.length ≤ 64 := by rw [hk]; exact Nat.pow_le_pow_right (by decide) hk6
      have hh6 : h ≤ 6 := by
        rcases Nat.lt_or_ge 6 h with h7 | h7
        · exfalso
          have h8 : 2 ^ 7 ≤ 2 ^ h := Nat.pow_le_pow_right (by decide) h7
          have e7 : 2 ^ 7 = 128 := by decide
          omega
        · exact h7
      have cL := leaves_any m l ao cap w m0 m1 hc hq hl64 hS hT
      rw [hR] at cL
      cases R with
      | err q =>
        have q0 := leavesR_ne m l q hR
        clear hm hh hc hp hR hlh hk hl64
        generalize l.length = n at *
        go_enter Tryd.func7, Tryd.ntmps7
        go_wp2_with fail
        refine (cM _).mono ?_
        rintro e w1 ⟨rfl, rfl⟩
        go_wp2_with fail
        refine (cN _).mono ?_
        rintro e w1 ⟨rfl, rfl⟩
        go_wp2_with fail
        refine cL.mono ?_
        rintro e w1 ⟨rfl, hb1⟩
        clear cL cM cN
        go_wp2_with fail
        go_ret2
        exact ⟨rfl, hb1⟩
      | ok rows =>
        have hfit := Fit.leaves hR hl64
        have hrl := leavesR_length m l rows hR
        rw [← hrl] at hlh cL hl64 cN ⊢
        obtain ⟨TW, hTW⟩ : ∃ TW, tower m h rows = TW := ⟨_, rfl⟩
        have HTW := Lib.hid hTW
        have HLH := Lib.hid hlh
        have HFIT := Lib.hid hfit
        have hh6I := Lib.hid hh6
        obtain ⟨n, hn⟩ : ∃ n, rows.length = n := ⟨_, rfl⟩
        have HN := Lib.hid hn
        rw [hn] at cL cN hl64 ⊢
        clear hh hc hp hR hlh hk hrl hfit hTW hn hh6 hBB
        go_enter Tryd.func7, Tryd.ntmps7
        go_wp2_with fail
        refine (cM _).mono ?_
        rintro e w1 ⟨rfl, rfl⟩
        go_wp2_with fail
        refine (cN _).mono ?_
        rintro e w1 ⟨rfl, rfl⟩
        go_wp2_with fail
        refine cL.mono ?_
        rintro e w1 ⟨g, rfl, hg, hlv, hb1⟩
        clear cL cM cN
        go_wp2_with fail
        have hT1 := OwnT.one w1 w.heap.size g rows n HN.out hlv hb1.size
        have hlv1 := hlv.keep ((Below.refl _ _).alloc (Nat.le_refl w1.heap.size) (.cells #[.slice (some ⟨g, 0, none⟩) n n] 24))
        have hb2 := hb1.alloc hb1.size (.cells #[.slice (some ⟨g, 0, none⟩) n n] 24)
        clear hlv
        go_loopw [6, 8] (fun u6 u8 wr => ∃ (h' : Nat) (cur : List (List UInt8)) (acc : List (List (List UInt8))) (g' nn : Nat), u6 = .slice (some ⟨g', 0, none⟩) nn nn ∧ Hid (cur.length = nn) ∧ Hid (nn = 2 ^ h') ∧ Hid (Fit cur) ∧ LevB wr g' cur ∧ OwnT wr w.heap.size u8 acc ∧ Hid (acc ++ (tower m h' cur).tail = TW) ∧ Hid (acc.length + h' = h + 1) ∧ Hid (h' ≤ h) ∧ Below w.heap.size w wr) (fun u6 _ _ => lenS u6)
        case atStart => exact ⟨h, rows, [rows], g, n, rfl, HN, Lib.hid (by rw [← HN.out, HLH.out]), HFIT, hlv1, hT1, Lib.hid (by rw [List.singleton_append, ← tower_tail, HTW.out]), Lib.hid (by simp; omega), Lib.hid (Nat.le_refl _), hb2⟩
        case round =>
          obtain ⟨h', cur, acc, g', nn, rfl, hcn, hnn, hft, hlc, hot, htw, hal, hhh, hbr⟩ := hrel
          clear hlv1 hT1 hb2
          cases h' with
          | zero =>
            obtain rfl : nn = 1 := hnn.out
            have hTA : Hid (TW = acc) := by
              have := htw.out
              show _ = _
              rw [← this]
              show acc ++ [] = acc
              rw [List.append_nil]
            clear hnn hft hal hhh htw hcn hlc
            go_wp2_with fail
            go_ret2
            show TreePost m h (.ok rows) w _ _
            refine ⟨_, rfl, ?_, hbr⟩
            rw [HTW.out, hTA.out]
            exact hot
          | succ q =>
            have hq := hhh.out
            have hh := hh6I.out
            have hpw : 2 ^ (q + 1) = 2 * 2 ^ q := by rw [Nat.pow_succ, Nat.mul_comm]
            have hpp : 0 < 2 ^ q := Nat.pow_pos (by decide)
            have hp64 : 2 ^ (q + 1) ≤ 2 ^ 6 := Nat.pow_le_pow_right (by decide) (by omega)
            have e6 : 2 ^ 6 = 64 := by decide
            have hnv := hnn.out
            obtain ⟨k2, hk2⟩ : ∃ k2, 2 ^ q = k2 := ⟨_, rfl⟩
            have hnn2 : nn = 2 * k2 := by omega
            have hk1 : 0 < k2 := by omega
            have hk32 : k2 ≤ 32 := by omega
            have cU := nodes_any m hm m0 m1 cur (some ⟨g', 0, none⟩) nn wr (by rw [hcn.out]; omega) hft.out.max hlc.lines (hT.keep hbr (Nat.le_refl _))
            rw [hcn.out, show nn / 2 = k2 by omega] at cU
            have hup := up_length m cur
            rw [hcn.out, show nn / 2 = k2 by omega] at hup
            have HUP := Lib.hid hup
            have HK := Lib.hid hk2.symm
            have HF := Lib.hid (Fit.up (m := m) hft.out k2 (by rw [hcn.out, hnn2]))
            have HTW2 : Hid ((acc ++ [up m cur]) ++ (tower m q (up m cur)).tail = TW) := by
              have := htw.out
              show _ = _
              rw [← this, List.append_assoc, List.singleton_append, ← tower_tail]
              rfl
            have HAL2 : Hid ((acc ++ [up m cur]).length + q = h + 1) := by have := hal.out; show _ = _; rw [List.length_append]; simp; omega
            have HQH : Hid (q ≤ h) := Nat.le_trans (Nat.le_succ q) hq
            have hac : acc.length ≤ 1000000 := by have := hal.out; omega
            generalize up m cur = UP at *
            have nI : (1 : Int) < nn := by omega
            have HN2 := Lib.hid hnn2
            have HK1 := Lib.hid hk1
            clear hnn hft hal hhh htw hcn hlc hpw hpp hp64 e6 hk2 hup hq hh hnv hnn2 hk1 hk32
            go_wp2_with fail
            refine cU.mono ?_
            rintro e w2 ⟨g2, rfl, hg2, hl2, hb3⟩
            have hbb := below_step hbr hbr.size hb3
            have hot2 := hot.keep hb3
            have hs2 := hbb.size
            clear cU hot hb3 hbr hg2
            go_wp2_with (first
              | (at_builtin; refine wpList_append_level rfl _ _ rfl w.heap.size _ _ rfl hot2 g2 UP k2 _ HUP.out rfl rfl hl2 hac hs2 ?_; intro v5 w5 ho5 hl5 hb5)
              | fail)
            go_roundw
            case rel => exact ⟨q, UP, _, g2, k2, rfl, HUP, HK, HF, hl5, ho5, HTW2, HAL2, HQH, hbb.trans hb5⟩
            case measure => have := HN2.out; have := HK1.out; simp [lenS]; omega
end Go.Proofs.YtcnemacakjemjaaDoor

/-! CONTRACT of package slots' Root; the root, plain. CONDITIONS: package sum's roundWords hold what their initialiser lays ('KW'). -/
namespace Go.Proofs.YtcnemacakjemjaaDoor
open Go.RowKit CodeMath Go.Proofs.YtcnemacakjemjaaDoor.FrameMath
set_option linter.unusedVariables false
set_option maxRecDepth 100000

/-- The root of digests, half by half. -/
def rootB (m : Int) : Nat → List (List UInt8) → List UInt8
  | 0, rows => rows.headD []
  | h + 1, rows => nodeB m (rootB m h (rows.take (2 ^ h))) (rootB m h (rows.drop (2 ^ h)))
def topL (m : Int) : Nat → List (List UInt8) → List (List UInt8)
  | 0, rows => rows
  | h + 1, rows => topL m h (up m rows)
theorem up_take (m : Int) : ∀ (k : Nat) (rows : List (List UInt8)), (up m rows).take k = up m (rows.take (2 * k))
  | 0, rows => by simp [up]
  | k + 1, [] => by simp [up]
  | k + 1, [a] => by
    rw [show 2 * (k + 1) = 2 * k + 1 + 1 by omega]
    simp [up]
  | k + 1, a :: b :: r => by
    rw [show 2 * (k + 1) = 2 * k + 1 + 1 by omega]
    show nodeB m a b :: (up m r).take k = up m (a :: b :: r.take (2 * k))
    rw [up_take m k r]
    rfl
theorem up_drop (m : Int) : ∀ (k : Nat) (rows : List (List UInt8)), (up m rows).drop k = up m (rows.drop (2 * k))
  | 0, rows => by simp
  | k + 1, [] => by simp [up]
  | k + 1, [a] => by
    rw [show 2 * (k + 1) = 2 * k + 1 + 1 by omega]
    simp [up]
  | k + 1, a :: b :: r => by
    rw [show 2 * (k + 1) = 2 * k + 1 + 1 by omega]
    show (up m r).drop k = up m (r.drop (2 * k))
    exact up_drop m k r
theorem rootB_up (m : Int) : ∀ (h : Nat) (rows : List (List UInt8)), rows.length = 2 ^ (h + 1) → rootB m (h + 1) rows = rootB m h (up m rows)
  | 0, rows, hl => by
    match rows, hl with
    | [a, b], _ => rfl
  | h + 1, rows, hl => by
    have e1 : 2 ^ (h + 1) = 2 * 2 ^ h := by rw [Nat.pow_succ, Nat.mul_comm]
    have e2 : 2 ^ (h + 1 + 1) = 2 * 2 ^ (h + 1) := by rw [Nat.pow_succ, Nat.mul_comm]
    show nodeB m (rootB m (h + 1) (rows.take (2 ^ (h + 1)))) (rootB m (h + 1) (rows.drop (2 ^ (h + 1)))) = nodeB m (rootB m h ((up m rows).take (2 ^ h))) (rootB m h ((up m rows).drop (2 ^ h)))
    rw [rootB_up m h _ (by rw [List.length_take]; omega), rootB_up m h _ (by rw [List.length_drop]; omega), up_take, up_drop, ← e1]
theorem topL_root (m : Int) : ∀ (h : Nat) (rows : List (List UInt8)), rows.length = 2 ^ h → topL m h rows = [rootB m h rows]
  | 0, rows, hl => by
    match rows, hl with
    | [a], _ => rfl
  | h + 1, rows, hl => by
    show topL m h (up m rows) = _
    have e1 : 2 ^ (h + 1) = 2 * 2 ^ h := by rw [Nat.pow_succ, Nat.mul_comm]
    rw [topL_root m h (up m rows) (by rw [up_length]; omega), rootB_up m h rows hl]
theorem tower_top (m : Int) : ∀ (h : Nat) (rows : List (List UInt8)), (tower m h rows)[h]? = some (topL m h rows)
  | 0, rows => rfl
  | h + 1, rows => by
    show (rows :: tower m h (up m rows))[h + 1]? = _
    rw [List.getElem?_cons_succ]
    exact tower_top m h (up m rows)
def rootR (m : Int) (h : Nat) (l : List Sl) : DR := match levelsR m l with
  | .err e => .err e
  | .ok rows => .ok (rootB m h rows)
theorem levelsR_ok {m : Int} {l : List Sl} {rows : List (List UInt8)} (h : levelsR m l = .ok rows) : isMode m = true ∧ isPow l.length = true ∧ leavesR m l = .ok rows := by
  unfold levelsR at h
  split at h
  · cases h
  · split at h
    · cases h
    · rename_i h1 h2
      exact ⟨by simpa using h1, by simpa using h2, h⟩
theorem levelsR_ne {m : Int} {l : List Sl} {e : Int} (h : levelsR m l = .err e) : e ≠ 0 := by
  unfold levelsR at h
  split at h
  · cases h; decide
  · split at h
    · cases h; decide
    · exact leavesR_ne m l e h
end Go.Proofs.YtcnemacakjemjaaDoor

/-! CONTRACTS of bits.Len (up to 64), package slots' halvings. CONDITIONS: each theorem's own hypotheses. -/
namespace Go.Proofs.YtcnemacakjemjaaDoor
open Go.RowKit CodeMath
set_option linter.unusedVariables false
set_option maxRecDepth 100000

theorem pow_small : ∀ h : Nat, h ≤ 6 → 2 ^ h < 65 := by
  have key : ∀ h : Fin 7, 2 ^ h.1 < 65 := by decide +kernel
  intro h hh
  exact key ⟨h, by omega⟩
end Go.Proofs.YtcnemacakjemjaaDoor
