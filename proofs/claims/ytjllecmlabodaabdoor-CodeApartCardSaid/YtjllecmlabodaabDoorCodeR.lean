/-
  CONTRACTS over rows of values that a call makes itself: chirographkeep's some, vals, sameRow.
  CONDITIONS: each theorem's own hypotheses.
-/
import Derived.Test.YtjllecmlabodaabDoorCodeD
import Derived.Test.YtjllecmlabodaabDoorRawB
namespace Go.Proofs.YtjllecmlabodaabDoor
open Go.RowKit CodeMath
set_option linter.unusedVariables false

/-- Values as cells. -/
def cells4 (v : V) : List Value := [.int .i64 v.k, .int .i64 v.i, .int .u64 v.b, .string v.s]
def cellsV (l : List V) : List Value := l.flatMap cells4
theorem cellsV_length (l : List V) : (cellsV l).length = l.length * 4 := by
  induction l with
  | nil => rfl
  | cons v l ih => simp [cellsV, cells4] at ih ⊢; omega
theorem cellsV_append (l m : List V) : cellsV (l ++ m) = cellsV l ++ cellsV m := by simp [cellsV]
theorem cellsV_at : ∀ (l : List V) (j q : Nat) (v : V), l[j]? = some v → q < 4 → (cellsV l)[j * 4 + q]? = (cells4 v)[q]?
  | [], j, q, v, h, hq => by simp at h
  | u :: l, 0, q, v, h, hq => by
    simp only [List.getElem?_cons_zero, Option.some.injEq] at h
    subst h
    show ((cells4 u) ++ cellsV l)[0 * 4 + q]? = _
    rw [List.getElem?_append_left (by simp [cells4]; omega)]
    simp
  | u :: l, j + 1, q, v, h, hq => by
    simp only [List.getElem?_cons_succ] at h
    show ((cells4 u) ++ cellsV l)[(j + 1) * 4 + q]? = _
    rw [List.getElem?_append_right (by simp [cells4]; omega)]
    rw [show (j + 1) * 4 + q - (cells4 u).length = j * 4 + q by simp [cells4]; omega]
    exact cellsV_at l j q v h hq
/-- A slice of values of the call's own. -/
def OwnV (w : World) (base : Nat) (v : Value) (l : List V) : Prop := w.ownsRow base 40 4 v l.length (cellsV l)
theorem infoV : (Tryd.prog.info? 40).map (fun i => (i.zero, i.size, i.bytes)) = some (some (.agg #[.int .i64 0, .int .i64 0, .int .u64 0, .string ⟨#[]⟩]), 4, 40) := by kernel_rfl
theorem OwnV.nil (w : World) (base : Nat) : OwnV w base (.slice none 0 0) [] := World.ownsRow_nil _ _ _ _
theorem OwnV.keep {w w1 : World} {base : Nat} {v : Value} {l : List V} (h : OwnV w base v l) (hb : Below w.heap.size w w1) : OwnV w1 base v l :=
  World.ownsRow.kept (row := none) h ⟨hb.os, hb.tape, hb.output, hb.size, fun k hk _ => hb.block k hk⟩ (by cases v.ownBlock <;> simp)
theorem OwnV.shape {w : World} {base : Nat} {v : Value} {l : List V} (h : OwnV w base v l) : ∃ ao cap, v = .slice ao l.length cap ∧ l.length ≤ cap ∧ cap ≤ 9223372036854775807 ∧ (l = [] ∨ ∃ a, ao = some ⟨a, 0, none⟩ ∧ base ≤ a ∧ a < w.heap.size ∧ Lies w a 0 l) := by
  rcases h.2 with ⟨rfl, h0⟩ | ⟨g, cap, cur, rfl, hbg, hg, h1, h2, _⟩
  · exact ⟨none, 0, by rw [h0], by omega, by omega, .inl (List.eq_nil_of_length_eq_zero h0)⟩
  · refine ⟨_, _, rfl, h1, by unfold maxLen at h2; omega, .inr ⟨g, rfl, hbg, (Array.getElem?_eq_some_iff.1 hg).1, fun j v hv => ?_⟩⟩
    have hj : j < l.length := (List.getElem?_eq_some_iff.1 hv).1
    have hc : ∀ q, q < 4 → w.cell? ⟨g, j * 4 + q, none⟩ = (cells4 v)[q]? := fun q hq => by
      rw [World.ownsRow.cellAt h (j * 4 + q) (by omega), cellsV_at l j q v hv hq]
    rw [Nat.zero_add]
    exact ⟨hc 0 (by decide), hc 1 (by decide), hc 2 (by decide), hc 3 (by decide)⟩
theorem addr_add (b j : Nat) : (⟨b, 0, none⟩ : Addr).add j = ⟨b, j, none⟩ := by unfold Addr.add; split <;> simp_all
/-- append(l, v), one value. -/
theorem wpList_append_val {ops : Array Oper} {rest : List Oper} {o : Oper} {a : Act} {Q : Exit → Act → World → Prop} {w : World} (hgd : o.guard = none) (s x : Operand)
    (ho : o.op = .call { callee := .builtin .append, args := #[s, x], argTypes := #[22, 22] }) (base : Nat) (v : Value) (l : List V) (hs : a.eval s = v) (hown : OwnV w base v l)
    (u : V) (m : Nat) (hx : a.eval x = .slice (some ⟨m, 0, none⟩) 1 1) (hm : m = w.heap.size) (hl : l.length ≤ 1000000) (hb : base ≤ w.heap.size)
    (h : ∀ v' w', OwnV w' base v' (l ++ [u]) → Below base w w' → w.grownBy w' v.ownBlock → wpList Tryd.prog ops Q rest (a.put o.dst v') w') : wpList Tryd.prog ops Q (o :: rest) a (w.alloc (.cells #[.int .i64 u.k, .int .i64 u.i, .int .u64 u.b, .string u.s] 40)) := by
  subst hm
  obtain ⟨i0, hi, hz0, hz1, hz2⟩ := info_parts infoV
  refine wpList_append_own _ hgd s x 22 ho base 40 i0 _ 4 40 Tryd.underlying22 hi hz0 hz1 hz2 rfl (by decide) v l.length (cellsV l) hs (World.ownsRow.alloc hown _) ⟨w.heap.size, 0, none⟩ 1 1 (cells4 u) hx rfl ?_ ?_ (by unfold maxLen; omega) (by omega) (by simp; omega) ?_
  · intro j y hj
    have hj4 : j < 4 := by have := (List.getElem?_eq_some_iff.1 hj).1; simpa [cells4] using this
    rw [addr_add, World.cell?_alloc_new]
    rcases (show j = 0 ∨ j = 1 ∨ j = 2 ∨ j = 3 by omega) with rfl | rfl | rfl | rfl <;> exact hj
  · intro y hy
    simp [cells4] at hy
    rcases hy with rfl | rfl | rfl | rfl <;> rfl
  · intro v' w' h1 h2 _
    refine h v' w' ?_ ?_ (grown_trans (World.grownBy_alloc w _ _) h2)
    · unfold OwnV
      rw [cellsV_append, List.length_append]
      have e : cellsV [u] = cells4 u := by simp [cellsV]
      rw [e]; exact h1
    · exact ((Below.refl base w).alloc hb _).grown h2 (by simp; omega) (fun k hk => (hown.lt k hk).1)

/-! ### raw things -/
structure R where
  k : Int
  a : Int
  b : Int
  s : ByteArray
structure R.Fits (r : R) : Prop where
  k0 : -9223372036854775808 ≤ r.k
  k1 : r.k ≤ 9223372036854775807
  a0 : -9223372036854775808 ≤ r.a
  a1 : r.a ≤ 9223372036854775807
def LiesR (w : World) (a : Nat) (o : Nat) (l : List R) : Prop :=
  ∀ j v, l[j]? = some v → w.cell? ⟨a, o + j * 4, none⟩ = some (.int .i64 v.k) ∧ w.cell? ⟨a, o + j * 4 + 1, none⟩ = some (.int .i64 v.a) ∧ w.cell? ⟨a, o + j * 4 + 2, none⟩ = some (.int .i64 v.b) ∧ w.cell? ⟨a, o + j * 4 + 3, none⟩ = some (.string v.s)
def Raws (w : World) (ao : Option Addr) (l : List R) : Prop := (∀ r ∈ l, r.Fits) ∧ (l = [] ∨ ∃ a o, ao = some ⟨a, o, none⟩ ∧ a < w.heap.size ∧ LiesR w a o l)
def ValsOk (l : List R) (w : World) (e : Ending) (w' : World) : Prop := ∃ (v : Value) (vs : List V), e = .returned v ∧ OwnV w' w.heap.size v vs ∧ (∀ u ∈ vs, u.Fits ∧ u.chk = 0) ∧ vs.length = min l.length 5 ∧ Below w.heap.size w w'

set_option maxRecDepth 100000 in
theorem some_any (ao : Option Addr) (n cap : Nat) (w : World) (hn : n ≤ cap) (hc : n ≤ 9223372036854775807) :
    Calls Tryd.prog 36 #[.slice ao n cap, .int .i64 5] w fun e w' => e = .returned (.slice ao (min n 5) cap) ∧ w = w' := by
  have e : min n 5 = (min (n : Int) 5).toNat := by omega
  rw [e]
  clear e
  go_enter Tryd.func36, Tryd.ntmps36
  go_wp2
  go_ret
  exact ⟨rfl, rfl⟩

set_option maxRecDepth 100000 in
set_option maxHeartbeats 1000000 in
theorem vals_some (l : List R) (a o cap : Nat) (w : World) (hf : ∀ r ∈ l, r.Fits) (hcap : l.length ≤ cap) (hc : l.length ≤ 9223372036854775807) (ha : a < w.heap.size) (hl : LiesR w a o l) :
    Calls Tryd.prog 19 #[.slice (some ⟨a, o, none⟩) l.length cap] w (ValsOk l w) := by
  unfold ValsOk
  have c36 := fun w => some_any (some ⟨a, o, none⟩) l.length cap w hcap hc
  obtain ⟨n, hn⟩ : ∃ n, l.length = n := ⟨_, rfl⟩
  obtain ⟨m, hm⟩ : ∃ m, min l.length 5 = m := ⟨_, rfl⟩
  rw [hn] at c36 hcap hc
  have hmm : min n 5 = m := by rw [← hn]; exact hm
  rw [hmm] at c36
  have hm5 : m ≤ 5 := by omega
  rw [hm, hn]
  have HN := Lib.hid hn
  have HM := Lib.hid hmm
  have HF := Lib.hid hf
  have HL := Lib.hid hl
  clear hn hm hmm hf hl
  go_enter Tryd.func19, Tryd.ntmps19
  go_wp2_with fail
  refine (c36 _).mono ?_
  rintro e w1 ⟨rfl, rfl⟩
  clear c36
  go_wp2_with fail
  go_loopw [3, 9] (fun u i wr => ∃ (j : Nat) (vs : List V), j ≤ m ∧ i = .int .i64 j ∧ vs.length = j ∧ Hid (∀ u ∈ vs, u.Fits ∧ u.chk = 0) ∧ OwnV wr w.heap.size u vs ∧ Below w.heap.size w wr) (fun _ i _ => m - (intOf i).toNat)
  case atStart => exact ⟨0, [], Nat.zero_le _, rfl, rfl, (show ∀ u ∈ ([] : List V), _ by simp), OwnV.nil _ _, Below.refl _ _⟩
  case round =>
    obtain ⟨j, vs, hj, rfl, hvl, hg, ho, hbw⟩ := hrel
    by_cases h1 : j < m
    · have hlt : j < l.length := by have := HM.out; have := HN.out; omega
      obtain ⟨r, hr⟩ : ∃ r, l[j]? = some r := ⟨l[j], List.getElem?_eq_getElem hlt⟩
      have hfit := HF.out r (List.mem_of_getElem? hr)
      obtain ⟨c0, c1, c2, c3⟩ := HL.out j r hr
      have d0 := (hbw.cell (p := ⟨a, o + j * 4, none⟩) ha).trans c0
      have d1 := (hbw.cell (p := ⟨a, o + j * 4 + 1, none⟩) ha).trans c1
      have d2 := (hbw.cell (p := ⟨a, o + j * 4 + 2, none⟩) ha).trans c2
      have d3 := (hbw.cell (p := ⟨a, o + j * 4 + 3, none⟩) ha).trans c3
      have c37 := fun w => val_any r.k r.a r.b r.s w hfit.k0 hfit.k1 hfit.a0 hfit.a1
      have hsz := hbw.size
      have ho1 : ∀ o, OwnV (wr.alloc o) w.heap.size _ vs := fun o => World.ownsRow.alloc ho o
      have hl6 : vs.length ≤ 1000000 := by omega
      have HV := Lib.hid hvl
      clear c0 c1 c2 c3 hr hfit ho hvl
      go_wp2_with fail
      refine (c37 _).mono ?_
      rintro e w1 ⟨v, hvf, hvc, rfl, hb⟩
      have hob := (ho1 _).keep hb
      have hbb : w.heap.size ≤ w1.heap.size := by have := hb.size; simp at this; omega
      have hG := Lib.hid (And.intro hvf hvc)
      clear c37 ho1 hvf hvc
      go_wp2_with (first | (at_builtin; refine wpList_append_val rfl (.tmp 13) (.tmp 16) rfl w.heap.size _ _ rfl hob v _ rfl (by first | rfl | simp) hl6 hbb ?_; intro v1 w2 ho2 hb2 hgg) | fail)
      clear hgg
      go_roundw
      case rel => exact ⟨j + 1, vs ++ [v], by omega, by go_num, by simp [HV.out], (show ∀ u ∈ vs ++ [v], _ from fun u hu => by
          rcases List.mem_append.1 hu with hu | hu
          · exact hg.out u hu
          · rw [List.mem_singleton] at hu; subst hu; exact hG.out), ho2, ((hbw.alloc hbw.size _).trans (hb.mono (by simp; omega))).trans hb2⟩
      case measure => simp [intOf]; omega
    · have hjm : j = m := by omega
      have HJ := Lib.hid hjm
      clear hjm
      go_wp2_with fail
      go_ret
      exact ⟨_, vs, rfl, ho, hg.out, by rw [hvl, HJ.out], hbw⟩
set_option maxRecDepth 100000 in
theorem vals_nil (ao : Option Addr) (cap : Nat) (w : World) :
    Calls Tryd.prog 19 #[.slice ao 0 cap] w (ValsOk [] w) := by
  unfold ValsOk
  have c36 := fun w => some_any ao 0 cap w (Nat.zero_le _) (by decide)
  rw [Nat.zero_min] at c36
  go_enter Tryd.func19, Tryd.ntmps19
  go_wp2_with fail
  refine (c36 _).mono ?_
  rintro e w1 ⟨rfl, rfl⟩
  clear c36
  go_wp2_with fail
  refine wp_loop_rounds 1 ?_
  rw [rounds_succ]
  go_wp2
  go_ret
  exact ⟨_, [], rfl, OwnV.nil _ _, by simp, rfl, Below.refl _ _⟩
theorem vals_any (l : List R) (ao : Option Addr) (cap : Nat) (w : World) (h : Raws w ao l) (hcap : l.length ≤ cap) (hc : l.length ≤ 9223372036854775807) :
    Calls Tryd.prog 19 #[.slice ao l.length cap] w (ValsOk l w) := by
  rcases h.2 with rfl | ⟨a, o, rfl, ha, hl⟩
  · exact vals_nil ao cap w
  · exact vals_some l a o cap w h.1 hcap hc ha hl

set_option maxRecDepth 100000 in
set_option maxHeartbeats 1000000 in
theorem sameRow_some (l : List V) (a o cap a' o' cap' : Nat) (w : World) (hc : l.length ≤ 1000000) (ha : a < w.heap.size) (ha' : a' < w.heap.size) (hl : Lies w a o l) (hl' : Lies w a' o' l) :
    Calls Tryd.prog 20 #[.slice (some ⟨a, o, none⟩) l.length cap, .slice (some ⟨a', o', none⟩) l.length cap'] w fun e w' => e = .returned (.bool true) ∧ Below w.heap.size w w' := by
  obtain ⟨n, hn⟩ : ∃ n, l.length = n := ⟨_, rfl⟩
  rw [hn] at hc ⊢
  have HN := Lib.hid hn
  have HL := Lib.hid hl
  have HL' := Lib.hid hl'
  clear hn hl hl'
  go_enter Tryd.func20, Tryd.ntmps20
  go_wp2
  go_loopw [13] (fun i wr => ∃ j : Nat, j ≤ n ∧ i = .int .i64 j ∧ Below w.heap.size w wr) (fun i _ => n - (intOf i).toNat)
  case atStart => exact ⟨0, Nat.zero_le _, rfl, Below.refl _ _⟩
  case round =>
    obtain ⟨j, hj, rfl, hbw⟩ := hrel
    by_cases h1 : j < n
    · have hlt : j < l.length := by have := HN.out; omega
      obtain ⟨v, hv⟩ : ∃ v, l[j]? = some v := ⟨l[j], List.getElem?_eq_getElem hlt⟩
      obtain ⟨c0, c1, c2, c3⟩ := HL.out j v hv
      have d0 := (hbw.cell (p := ⟨a, o + j * 4, none⟩) ha).trans c0
      have d1 := (hbw.cell (p := ⟨a, o + j * 4 + 1, none⟩) ha).trans c1
      have d2 := (hbw.cell (p := ⟨a, o + j * 4 + 2, none⟩) ha).trans c2
      have d3 := (hbw.cell (p := ⟨a, o + j * 4 + 3, none⟩) ha).trans c3
      clear c0 c1 c2 c3
      obtain ⟨c0, c1, c2, c3⟩ := HL'.out j v hv
      have d0' := (hbw.cell (p := ⟨a', o' + j * 4, none⟩) ha').trans c0
      have d1' := (hbw.cell (p := ⟨a', o' + j * 4 + 1, none⟩) ha').trans c1
      have d2' := (hbw.cell (p := ⟨a', o' + j * 4 + 2, none⟩) ha').trans c2
      have d3' := (hbw.cell (p := ⟨a', o' + j * 4 + 3, none⟩) ha').trans c3
      clear c0 c1 c2 c3 hv
      go_wp2_with fail
      go_quiet (fail)
      go_wp2
      go_roundw
      case rel => exact ⟨j + 1, by omega, by go_num, below_dn hbw _⟩
      case measure => simp [intOf]; omega
    · go_wp2
      go_ret
      exact ⟨rfl, hbw⟩
end Go.Proofs.YtjllecmlabodaabDoor
