/-
  SLOTS that a call makes itself: slices of slots of the call's own.
  CONDITIONS: each theorem's own hypotheses.
-/
import Derived.Test.YtcnemacakjemjaaDoorGSlot
import Derived.Test.YtcnemacakjemjaaDoorByMaxT
namespace Go.Proofs.YtcnemacakjemjaaDoor
open Go.RowKit CodeMath
set_option linter.unusedVariables false
set_option maxRecDepth 100000

/-- A slice of bytes whose block is one of single bytes. -/
def RowU (w : World) (u : Value) (l : List UInt8) : Prop := ∃ ao cap, u = .slice ao l.length cap ∧ l.length ≤ cap ∧ cap ≤ 9223372036854775807 ∧ (ao = none → cap = 0) ∧ (l = [] ∨ ∃ (g : Nat) (cur : Array Value) (fz : Nat × Nat), ao = some ⟨g, 0, none⟩ ∧ w.heap[g]? = some (.cells cur 5 fz) ∧ ∀ (j : Nat) (x : UInt8), l[j]? = some x → cur[j]? = some (Value.int .u8 x.toNat))
theorem RowU.rowT {w : World} {u : Value} {l : List UInt8} (h : RowU w u l) : RowT w u l := by
  obtain ⟨ao, cap, h1, h2, h3, h4, h5⟩ := h
  refine ⟨ao, cap, h1, h2, h3, h4, ?_⟩
  rcases h5 with h5 | ⟨g, cur, fz, e, hg, hc⟩
  · exact .inl h5
  · exact .inr ⟨g, cur, _, fz, e, hg, .inl rfl, hc⟩
theorem RowU.row {w : World} {u : Value} {l : List UInt8} (h : RowU w u l) : RowV w u l := h.rowT.row
theorem RowU.grown {w w' : World} {u : Value} {l : List UInt8} (h : RowU w u l) {row : Option Nat} (hg : w.grownBy w' row) (hr : ∀ b, row = some b → ∃ cur T fz, w.heap[b]? = some (.cells cur T fz) ∧ T ≠ 5) : RowU w' u l := by
  obtain ⟨ao, cap, h1, h2, h3, h4, h5⟩ := h
  refine ⟨ao, cap, h1, h2, h3, h4, ?_⟩
  rcases h5 with h5 | ⟨g, cur, fz, rfl, hgc, hc⟩
  · exact .inl h5
  · refine .inr ⟨g, cur, fz, rfl, ?_, hc⟩
    rw [hg.block g (Array.getElem?_eq_some_iff.1 hgc).1 (fun hh => ?_)]
    · exact hgc
    · obtain ⟨c2, T, f2, h6, h7⟩ := hr g hh.symm
      rw [hgc] at h6
      cases h6
      exact h7 rfl
theorem RowU.keep {w w' : World} {u : Value} {l : List UInt8} (h : RowU w u l) (hb : Below w.heap.size w w') : RowU w' u l :=
  h.grown (row := none) ⟨hb.os, hb.tape, hb.output, hb.size, fun k hk _ => hb.block k hk⟩ (fun _ h => by cases h)
theorem RowU.nil (w : World) : RowU w (.slice none 0 0) [] := ⟨none, 0, rfl, Nat.le_refl _, by decide, fun _ => rfl, .inl rfl⟩
theorem bytesOf_U (l : List UInt8) (w : World) (hl : l.length ≤ 9223372036854775807) : ∃ g cap W1, (convert 9 37 (.string (str l))).run Tryd.prog w = .ok (.slice (some g) l.length cap) W1 ∧ RowU W1 (.slice (some g) l.length cap) l ∧ Below w.heap.size w W1 := by
  have hcv := run_bytes_of_string (P := Tryd.prog) w 9 37 5 (str l) Tryd.underlying9 Tryd.underlying37 Tryd.underlying5
  have hsz := str_size l
  obtain ⟨cap, W1, h1, h2, h3, h4, h5⟩ := bytesOf_max l w hl
  rw [hcv] at h1
  injection h1 with e1 e2
  injection e1 with e3 e4 e5
  subst e2
  subst e5
  refine ⟨_, _, _, hcv.trans (congrArg (fun n => Result.ok (Value.slice (some ⟨w.heap.size, 0, none⟩) n _) _) e4), ⟨_, _, rfl, h4, h5, (fun h => by cases h), ?_⟩, h3⟩
  rcases h2 with h2 | ⟨a, o, ha, hlt, hc⟩
  · exact .inl h2
  · right
    cases ha
    have hg : (w.drew.alloc (.cells (bytesRow (str l) (grownCap w (str l).size 0 5)) 5 ((bytesRow (str l) (grownCap w (str l).size 0 5)).size, (bytesRow (str l) (grownCap w (str l).size 0 5)).size + 1))).heap[w.heap.size]? = some (.cells (bytesRow (str l) (grownCap w (str l).size 0 5)) 5 ((bytesRow (str l) (grownCap w (str l).size 0 5)).size, (bytesRow (str l) (grownCap w (str l).size 0 5)).size + 1)) := by
      show (w.heap.push _)[w.heap.size]? = _
      simp
    refine ⟨w.heap.size, _, _, rfl, hg, fun j x hx => ?_⟩
    have := hc j x hx
    rw [Nat.zero_add, cell_of_block hg] at this
    exact this
theorem infoSl : (Tryd.prog.info? 39).map (fun i => (i.zero, i.size, i.bytes)) = some (some (.agg #[.bool false, .slice none 0 0, .slice none 0 0]), 3, 56) := by kernel_rfl
/-- A slice of slots of the call's own. -/
def OwnSl (w : World) (base : Nat) (v : Value) (l : List Sl) : Prop := ∃ us : List Value, w.ownsRow base 39 3 v l.length us ∧ ∀ (i : Nat) (x : Sl), l[i]? = some x → ∃ a b : Value, us[i * 3]? = some (.bool x.f) ∧ us[i * 3 + 1]? = some a ∧ us[i * 3 + 2]? = some b ∧ RowU w a x.s ∧ RowU w b x.d
theorem OwnSl.nil (w : World) (base : Nat) : OwnSl w base (.slice none 0 0) [] := ⟨[], World.ownsRow_nil _ _ _ _, fun i l h => by simp at h⟩
theorem OwnSl.keep {w w1 : World} {base : Nat} {v : Value} {l : List Sl} (h : OwnSl w base v l) (hb : Below w.heap.size w w1) : OwnSl w1 base v l := by
  obtain ⟨us, h1, h2⟩ := h
  refine ⟨us, World.ownsRow.kept (row := none) h1 ⟨hb.os, hb.tape, hb.output, hb.size, fun k hk _ => hb.block k hk⟩ (by cases v.ownBlock <;> simp), fun i x hi => ?_⟩
  obtain ⟨a, b, k1, k2, k3, k4, k5⟩ := h2 i x hi
  exact ⟨a, b, k1, k2, k3, k4.keep hb, k5.keep hb⟩
theorem OwnSl.slots {w : World} {base : Nat} {v : Value} {l : List Sl} (h : OwnSl w base v l) : ∃ ao cap, v = .slice ao l.length cap ∧ l.length ≤ cap ∧ cap ≤ 9223372036854775807 ∧ (ao = none → cap = 0) ∧ Slots w ao l := by
  obtain ⟨us, h1, h2⟩ := h
  rcases h1.2 with ⟨rfl, h0⟩ | ⟨g, cap, cur, rfl, k1, k2, k3, k4, k5, k6⟩
  · exact ⟨none, 0, by rw [h0], by omega, by omega, fun _ => rfl, .inl (List.eq_nil_of_length_eq_zero h0)⟩
  · refine ⟨_, cap, rfl, k3, by unfold maxLen at k4; omega, (fun h => by cases h), .inr ⟨g, 0, rfl, (h1.lt g rfl).2, fun i x hi => ?_⟩⟩
    obtain ⟨a, b, q1, q2, q3, q4, q5⟩ := h2 i x hi
    have hil : i < l.length := (List.getElem?_eq_some_iff.1 hi).1
    have hc : ∀ (q : Nat) (y : Value), us[i * 3 + q]? = some y → q < 3 → w.cell? ⟨g, i * 3 + q, none⟩ = some y := fun q y hq hq3 => by
      rw [← k6, List.getElem?_take_of_lt (by omega)] at hq
      rw [cell_of_block k2]
      simpa using hq
    rw [Nat.zero_add]
    exact ⟨a, b, hc 0 _ q1 (by decide), hc 1 _ q2 (by decide), hc 2 _ q3 (by decide), q4.row, q5.row⟩
/-- append(l, s), one slot. -/
theorem wpList_append_slot {ops : Array Oper} {rest : List Oper} {o : Oper} {a : Act} {Q : Exit → Act → World → Prop} {w : World} (hgd : o.guard = none) (s x : Operand)
    (ho : o.op = .call { callee := .builtin .append, args := #[s, x], argTypes := #[22, 22] }) (base : Nat) (v : Value) (l : List Sl) (hs : a.eval s = v) (hown : OwnSl w base v l)
    (y : Sl) (c0 : Value) (us ud : Value) (m : Nat) (hx : a.eval x = .slice (some ⟨m, 0, none⟩) 1 1) (hm : m = w.heap.size) (hc0 : c0 = .bool y.f) (hus : RowU w us y.s) (hud : RowU w ud y.d) (hl : l.length ≤ 1000000) (hb : base ≤ w.heap.size)
    (h : ∀ v' w', OwnSl w' base v' (l ++ [y]) → Below base w w' → wpList Tryd.prog ops Q rest (a.put o.dst v') w') : wpList Tryd.prog ops Q (o :: rest) a (w.alloc (.cells #[c0, us, ud] 39)) := by
  subst hm hc0
  obtain ⟨vs, h1, h2⟩ := hown
  obtain ⟨i0, hi, hz0, hz1, hz2⟩ := info_parts infoSl
  have o1 : us.oneCell' = true := by obtain ⟨_, _, rfl, _⟩ := hus; rfl
  have o2 : ud.oneCell' = true := by obtain ⟨_, _, rfl, _⟩ := hud; rfl
  refine wpList_append_own _ hgd s x 22 ho base 39 i0 _ 3 56 Tryd.underlying22 hi hz0 hz1 hz2 rfl (by decide) v l.length vs hs (World.ownsRow.alloc h1 _) ⟨w.heap.size, 0, none⟩ 1 1 [.bool y.f, us, ud] hx rfl ?_ ?_ (by unfold maxLen; omega) (by omega) (by simp; omega) ?_
  · intro j u' hj
    have hj3 : j < 3 := by have := (List.getElem?_eq_some_iff.1 hj).1; simpa using this
    have haa : (⟨w.heap.size, 0, none⟩ : Addr).add j = ⟨w.heap.size, j, none⟩ := by unfold Addr.add; split <;> simp_all
    rw [haa, World.cell?_alloc_new]
    rcases (show j = 0 ∨ j = 1 ∨ j = 2 by omega) with rfl | rfl | rfl <;> exact hj
  · intro u' hu'
    simp at hu'
    rcases hu' with rfl | rfl | rfl
    · rfl
    · exact o1
    · exact o2
  · intro v' w' k1 k2 _
    have hg0 : w.grownBy w' v.ownBlock := grown_trans (World.grownBy_alloc w _ _) k2
    have hty : ∀ b, v.ownBlock = some b → ∃ cur T fz, w.heap[b]? = some (.cells cur T fz) ∧ T ≠ 5 := fun b hb => by
      obtain ⟨cur, fz, h⟩ := ownsRow_typed h1 b hb
      exact ⟨cur, _, fz, h, by decide⟩
    refine h v' w' ⟨vs ++ [.bool y.f, us, ud], by rw [List.length_append]; exact k1, fun i z hi' => ?_⟩ ?_
    · have hul : vs.length = l.length * 3 := by have := h1.1; omega
      by_cases hil : i < l.length
      · rw [List.getElem?_append_left hil] at hi'
        obtain ⟨p, q, q1, q2, q3, q4, q5⟩ := h2 i z hi'
        exact ⟨p, q, by rw [List.getElem?_append_left (by omega)]; exact q1, by rw [List.getElem?_append_left (by omega)]; exact q2, by rw [List.getElem?_append_left (by omega)]; exact q3, q4.grown hg0 hty, q5.grown hg0 hty⟩
      · rw [List.getElem?_append_right (by omega)] at hi'
        have hi0 : i - l.length = 0 := by
          rcases Nat.eq_zero_or_pos (i - l.length) with h0 | h0
          · exact h0
          · rw [List.getElem?_eq_none (by simp; omega)] at hi'; cases hi'
        rw [hi0] at hi'
        simp only [List.getElem?_cons_zero, Option.some.injEq] at hi'
        subst hi'
        refine ⟨us, ud, ?_, ?_, ?_, hus.grown hg0 hty, hud.grown hg0 hty⟩
        · rw [List.getElem?_append_right (by omega), show i * 3 - vs.length = 0 by omega]; rfl
        · rw [List.getElem?_append_right (by omega), show i * 3 + 1 - vs.length = 1 by omega]; rfl
        · rw [List.getElem?_append_right (by omega), show i * 3 + 2 - vs.length = 2 by omega]; rfl
    · exact ((Below.refl base w).alloc hb _).grown k2 (by simp; omega) (fun k hk => (h1.lt k hk).1)
end Go.Proofs.YtcnemacakjemjaaDoor
