/-
  BOOLS of the call's own; CONTRACT of the laws' opens; what is open, one after the other.
  CONDITIONS: each theorem's own hypotheses.
-/
import Derived.Test.YtcplnfaopigoiaaDoorCovA
namespace Go.Proofs.YtcplnfaopigoiaaDoor
open Go.RowKit CodeMath Go.Proofs.YtcplnfaopigoiaaDoor.FrameMath
set_option linter.unusedVariables false
set_option maxRecDepth 100000

def cellsO (o : List Bool) : List Value := o.map .bool
def OwnO (w : World) (base : Nat) (v : Value) (o : List Bool) : Prop := w.ownsRow base 4 1 v o.length (cellsO o)
theorem infoO : (Tryd.prog.info? 4).map (fun i => (i.zero, i.size, i.bytes)) = some (some (.bool false), 1, 1) := by kernel_rfl
theorem OwnO.nil (w : World) (base : Nat) : OwnO w base (.slice none 0 0) [] := World.ownsRow_nil _ _ _ _
theorem OwnO.keep {w w1 : World} {base : Nat} {v : Value} {l : List Bool} (h : OwnO w base v l) (hb : Below w.heap.size w w1) : OwnO w1 base v l :=
  World.ownsRow.kept (row := none) h ⟨hb.os, hb.tape, hb.output, hb.size, fun k hk _ => hb.block k hk⟩ (by cases v.ownBlock <;> simp)
theorem OwnO.bools {w : World} {base : Nat} {v : Value} {o : List Bool} (h : OwnO w base v o) : ∃ ao cap, v = .slice ao o.length cap ∧ o.length ≤ cap ∧ cap ≤ 9223372036854775807 ∧ Bools w ao o := by
  rcases h.2 with ⟨rfl, h0⟩ | ⟨g, cap, cur, rfl, k1, k2, k3, k4, k5, k6⟩
  · exact ⟨none, 0, by rw [h0], by omega, by omega, .inl (List.eq_nil_of_length_eq_zero h0)⟩
  · refine ⟨_, cap, rfl, k3, by unfold maxLen at k4; omega, .inr ⟨g, 0, rfl, (h.lt g rfl).2, fun i b hi => ?_⟩⟩
    have hil : i < o.length := (List.getElem?_eq_some_iff.1 hi).1
    have e : (cellsO o)[i]? = some (.bool b) := by unfold cellsO; rw [List.getElem?_map, hi]; rfl
    rw [← k6, List.getElem?_take_of_lt (by omega)] at e
    rw [Nat.zero_add, cell_of_block k2]
    simpa using e
theorem wpList_append_bool {ops : Array Oper} {rest : List Oper} {o : Oper} {a : Act} {Q : Exit → Act → World → Prop} {w : World} (hgd : o.guard = none) (s x : Operand)
    (ho : o.op = .call { callee := .builtin .append, args := #[s, x], argTypes := #[23, 23] }) (base : Nat) (v : Value) (l : List Bool) (hs : a.eval s = v) (hown : OwnO w base v l)
    (b : Bool) (m : Nat) (hx : a.eval x = .slice (some ⟨m, 0, none⟩) 1 1) (hm : m = w.heap.size) (hl : l.length ≤ 1000000) (hb : base ≤ w.heap.size)
    (h : ∀ v' w', OwnO w' base v' (l ++ [b]) → Below base w w' → wpList Tryd.prog ops Q rest (a.put o.dst v') w') : wpList Tryd.prog ops Q (o :: rest) a (w.alloc (.cells #[.bool b] 4)) := by
  subst hm
  obtain ⟨i0, hi, hz0, hz1, hz2⟩ := info_parts infoO
  refine wpList_append_own _ hgd s x 23 ho base 4 i0 (.bool false) 1 1 Tryd.underlying23 hi hz0 hz1 hz2 rfl (by decide) v l.length (cellsO l) hs (World.ownsRow.alloc hown _) ⟨w.heap.size, 0, none⟩ 1 1 [.bool b] hx rfl ?_ ?_ (by unfold maxLen; omega) (by omega) (by simp; omega) ?_
  · intro j u hj
    match j, hj with
    | 0, hj =>
      simp at hj; subst hj
      rw [addr_zero, World.cell?_alloc_new]
      rfl
  · intro u hu
    simp at hu; subst hu; rfl
  · intro v' w' h1 h2 _
    refine h v' w' ?_ ?_
    · unfold OwnO cellsO
      rw [List.map_append, List.length_append]
      exact h1
    · exact ((Below.refl base w).alloc hb _).grown h2 (by simp; omega) (fun k hk => (hown.lt k hk).1)
def bitO (which : Int) (i : Nat) : Bool := bits .and .i64 (which / 2 ^ i) 1 == 1
def opensL (n : Nat) (which : Int) : List Bool := (List.range n).map (bitO which)
theorem opensL_length (n : Nat) (which : Int) : (opensL n which).length = n := by simp [opensL]
set_option maxHeartbeats 1000000 in
theorem opens_any (n : Nat) (al : Option Addr) (cl : Nat) (which : Int) (w : World) (hn : n ≤ 64) (w0 : -9223372036854775808 ≤ which) (w1 : which ≤ 9223372036854775807) :
    Calls Tryd.prog 18 #[.slice al n cl, .int .i64 which] w fun e w' => ∃ v, e = .returned v ∧ OwnO w' w.heap.size v (opensL n which) ∧ Below w.heap.size w w' := by
  have nI : (n : Int) ≤ 64 := by omega
  have hB0 := Below.refl w.heap.size w
  go_enter Tryd.func18, Tryd.ntmps18
  go_wp2_with fail
  go_loopw [5, 9] (fun v ix wr => ∃ i : Nat, i ≤ n ∧ ix = .int .i64 i ∧ OwnO wr w.heap.size v (opensL i which) ∧ Below w.heap.size w wr) (fun _ ix _ => n - (intOf ix).toNat)
  case atStart => exact ⟨0, Nat.zero_le _, rfl, OwnO.nil _ _, hB0⟩
  case round =>
    obtain ⟨i, hi, rfl, ho, hbr⟩ := hrel
    clear hB0
    by_cases hlt : i < n
    · have iI : (i : Int) < n := by omega
      have H1 := Lib.hid hlt
      have hs := hbr.size
      have hbit : (bits .and .i64 (which / 2 ^ i) 1 == 1) = bitO which i := rfl
      have hll : (opensL i which).length ≤ 1000000 := by rw [opensL_length]; omega
      have hnx : Hid (opensL i which ++ [bitO which i] = opensL (i + 1) which) := by
        show _ = _
        unfold opensL
        rw [List.range_succ, List.map_append]; rfl
      generalize bitO which i = b at *
      clear hlt
      go_wp2_with (first
        | (at_builtin; refine wpList_append_bool rfl _ _ rfl w.heap.size _ _ rfl ho b _ rfl rfl hll hs ?_; intro v5 w5 ho5 hb5)
        | fail)
      rw [hnx.out] at ho5
      go_roundw
      case rel => exact ⟨i + 1, H1.out, by go_num, ho5, hbr.trans hb5⟩
      case measure => have := H1.out; simp [intOf]; omega
    · have iI : ¬ (i : Int) < n := by omega
      obtain rfl : i = n := by omega
      clear hlt
      go_wp2_with fail
      go_ret
      exact ⟨_, rfl, ho, hbr⟩
/-- What is open, one after the other. -/
theorem selO_at : ∀ (l : List Sl) (o : List Bool) (i : Nat) (x : Sl), l.length = o.length → l[i]? = some x → o[i]? = some true → (selO l o)[(o.take i).count true]? = some x
  | [], o, i, x, hl, hx, ho => by simp at hx
  | y :: l, [], i, x, hl, hx, ho => by simp at ho
  | y :: l, b :: o, 0, x, hl, hx, ho => by
    simp only [List.getElem?_cons_zero, Option.some.injEq] at hx ho
    subst hx ho
    rfl
  | y :: l, b :: o, i + 1, x, hl, hx, ho => by
    simp only [List.getElem?_cons_succ] at hx ho
    have ih := selO_at l o i x (by simpa using hl) hx ho
    cases b with
    | false => simpa [selO] using ih
    | true => simpa [selO] using ih
theorem count_next (o : List Bool) (i : Nat) (b : Bool) (h : o[i]? = some b) : (o.take (i + 1)).count true = (o.take i).count true + (if b then 1 else 0) := by
  have hl := (List.getElem?_eq_some_iff.1 h).1
  rw [List.take_succ_eq_append_getElem hl, List.count_append, (List.getElem?_eq_some_iff.1 h).2]
  cases b <;> rfl
end Go.Proofs.YtcplnfaopigoiaaDoor
