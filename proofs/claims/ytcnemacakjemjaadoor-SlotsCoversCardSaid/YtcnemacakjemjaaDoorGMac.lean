/-
  MERGED: Mac, Mac2, Maced1, Maced2.
  CONDITIONS: each theorem's own hypotheses.
-/
import Derived.Test.YtcnemacakjemjaaDoorGRef
import Derived.Test.YtcnemacakjemjaaDoorGReg
import Derived.Test.YtcnemacakjemjaaDoorGBase

/-! CONTRACTS of package sum's padded, keyBlock, Mac. CONDITIONS: package sum's roundWords hold what their initialiser lays ('KW'). -/
namespace Go.Proofs.YtcnemacakjemjaaDoor
open Go.RowKit CodeMath
set_option linter.unusedVariables false
set_option maxRecDepth 100000

/-- The first bytes by a pad. -/
def padded (l : List UInt8) (p : UInt8) (i : Nat) : List UInt8 := (l.take i).map (· ^^^ p) ++ l.drop i
theorem padded_length (l : List UInt8) (p : UInt8) (i : Nat) : (padded l p i).length = l.length := by
  unfold padded; rw [List.length_append, List.length_map, List.length_take, List.length_drop]; omega
theorem padded_get (l : List UInt8) (p : UInt8) (i : Nat) (c : UInt8) (h : l[i]? = some c) : (padded l p i)[i]? = some c := by
  have hi := (List.getElem?_eq_some_iff.1 h).1
  unfold padded
  rw [List.getElem?_append_right (by rw [List.length_map, List.length_take]; omega), List.length_map, List.length_take, Nat.min_eq_left (by omega), Nat.sub_self, List.getElem?_drop]
  exact h
theorem padded_set (l : List UInt8) (p : UInt8) (i : Nat) (c : UInt8) (h : l[i]? = some c) : (padded l p i).set i (c ^^^ p) = padded l p (i + 1) := by
  have hi := (List.getElem?_eq_some_iff.1 h).1
  have hc := (List.getElem?_eq_some_iff.1 h).2
  unfold padded
  rw [List.take_succ_eq_append_getElem hi, hc, List.map_append, List.set_append_right _ _ (by rw [List.length_map, List.length_take]; omega), List.length_map, List.length_take, Nat.min_eq_left (by omega), Nat.sub_self, List.drop_eq_getElem_cons hi, List.set_cons_zero]
  simp
theorem padded_end (l : List UInt8) (p : UInt8) : padded l p l.length = l.map (· ^^^ p) := by simp [padded]
theorem padded_zero (l : List UInt8) (p : UInt8) : padded l p 0 = l := by simp [padded]
/-! ### keyBlock -/
/-- A key as a block. -/
def blockOf (k : List UInt8) : List UInt8 := k ++ List.replicate (64 - k.length) 0
theorem blockOf_length (k : List UInt8) (h : k.length ≤ 64) : (blockOf k).length = 64 := by simp [blockOf]; omega
theorem splice_key (k : List UInt8) (h : k.length ≤ 64) : splice (u8s (List.replicate 64 0)) 0 (u8s k) = u8s (blockOf k) := by
  unfold splice blockOf
  rw [List.take_zero, List.nil_append, Nat.zero_add, u8s_length, u8s_drop, List.drop_replicate, u8s_append]
theorem wpList_copy_key {ops : Array Oper} {rest : List Oper} {o : Oper} {a : Act} {Q : Exit → Act → World → Prop} {w : World} (hgd : o.guard = none) (d s : Operand)
    (ho : o.op = .call { callee := .builtin .copy, args := #[d, s], argTypes := #[37, 37] }) (g : Nat) (hd : a.eval d = .slice (some ⟨g, 0, none⟩) 64 64) (k : List UInt8) (n : Nat) (hn : k.length = n) (ao : Option Addr) (cap : Nat) (hs : a.eval s = .slice ao n cap)
    (T0 : TypeId) (hB : Blk w g T0 (u8s (List.replicate 64 0))) (hk : k.length ≤ 64) (hb : Bytes w ao k)
    (h : ∀ w', w.grownBy w' (some g) → w'.heap.size = w.heap.size → Blk w' g T0 (u8s (blockOf k)) → wpList Tryd.prog ops Q rest (a.put o.dst (.int .i64 (n : Int))) w') : wpList Tryd.prog ops Q (o :: rest) a w := by
  subst hn
  rcases hb with rfl | ⟨p, q, rfl, hp, hc⟩
  · have hz : Blk w g T0 (u8s (blockOf [])) := hB
    refine wpList_copy_nothing hgd d s 37 37 ho 5 Tryd.underlying37 (by kernel_rfl) _ _ _ _ _ _ hd hs (by rfl) (h w ⟨rfl, rfl, rfl, Nat.le_refl _, fun _ _ _ => rfl⟩ rfl hz)
  · refine wpList_copy_blk hgd d s ho g 0 64 64 p q k.length cap hd hs T0 _ hB k k.length rfl (by show k.length = min k.length 64; omega) hc (by rw [u8s_length, List.length_replicate]; omega) ?_
    intro w' h1 h2 h3
    rw [splice_key k hk] at h3
    exact h w' h1 h2 h3
theorem key64_eq (k : List UInt8) : ShaMath.key64 k = blockOf (if 64 < k.length then ShaMath.sha k else k) := rfl
theorem slice_all32 (b o : Nat) (W : World) : (Instr.sliceAt 68 (.pointer (some ⟨b, o, none⟩)) none none none).run Tryd.prog W = .ok (.slice (some ⟨b, o, none⟩) 32 32) W := by
  have hs : (sizeOf (Tryd.prog.elem 68)).run Tryd.prog W = .ok 1 W := by kernel_rfl
  have hl : Tryd.prog.arrayLen 68 = 32 := by kernel_rfl
  have h := run_sliceAt_array_all (P := Tryd.prog) W 68 ⟨b, o, none⟩ (by kernel_rfl)
  rw [h, hs, hl]
  simp [Result.andThen, slicedAt, Addr.add]
end Go.Proofs.YtcnemacakjemjaaDoor

/-! CONTRACT of package sum's Mac. CONDITIONS: package sum's roundWords hold what their initialiser lays ('KW'). -/
namespace Go.Proofs.YtcnemacakjemjaaDoor
open Go.RowKit CodeMath
set_option linter.unusedVariables false
set_option maxRecDepth 100000

/-- The rule for several new blocks, these being the last ones ahead of the tail. -/
theorem wp_region_news' {P : Program} {l : List Oper} {Q : Exit → Act → World → Prop} {a0 : Act} {id : Nat} {w0 : World} (n N : Nat) (hnN : n ≤ N) (hgT : (((l.take N).drop n).all fun o => o.guard == none && o.op.operands.isEmpty) = true) (G : Nat → Nat → World → Prop) (hG : ∀ i g w w', G i g w → g < w.heap.size → Below w.heap.size w w' → G i g w')
    (hm : P.follows .mixedOrders = true) (hB : factB l N = true) (hL : lookB l N = true)
    (hnew : ∀ k o, ((l.take N).drop n)[k]? = some o → ∀ a, FreshAt P w0 (G k) o a)
    (h : wpDet P l.toArray w0 (fun a => ∀ (gs : Nat → Nat) w, Below w0.heap.size w0 w → (∀ k, k < ((l.take N).drop n).length → w0.heap.size ≤ gs k ∧ gs k < w.heap.size ∧ G k (gs k) w) → (∀ j k, j < ((l.take N).drop n).length → k < ((l.take N).drop n).length → j ≠ k → gs j ≠ gs k) → wpList P l.toArray Q (l.drop N) (fillF ((l.take N).drop n) (ptrs gs) 0 a) w) (l.take n) a0) : (Code.region id l.toArray true).wp P Q a0 w0 :=
  wp_region_news n N hnN ((l.take N).drop n) (by
    have e : l.take n = (l.take N).take n := by rw [List.take_take, Nat.min_eq_left hnN]
    rw [e, List.take_append_drop]) hgT G hG hm hB hL hnew h
theorem fresh64 (w0 : World) (o : Oper) (a : Act) (ho : o.op = .alloc 72) : FreshAt Tryd.prog w0 (fun g W => Blk W g 72 (u8s (List.replicate 64 0))) o a := by
  intro w hw
  obtain ⟨Z, hZ⟩ : ∃ Z, (u8s (List.replicate 64 0)).toArray = Z := ⟨_, rfl⟩
  have z : ∀ W, (zeroValue 72).run Tryd.prog W = .ok (.agg Z) W := fun W => by rw [← hZ]; kernel_rfl
  refine ⟨w.alloc (.cells Z 72), ?_, (Below.refl _ _).alloc (Nat.le_refl _) _, by simp, by rw [← hZ]; exact Blk.new w _ _⟩
  unfold execOp
  rw [ho]
  go_simp
end Go.Proofs.YtcnemacakjemjaaDoor

/-! CONTRACT of the reference's padding closure within Maced. CONDITIONS: where the string lies. -/
namespace Go.Proofs.YtcnemacakjemjaaDoor
open Go.RowKit CodeMath
set_option linter.unusedVariables false
set_option maxRecDepth 100000

end Go.Proofs.YtcnemacakjemjaaDoor

/-! CONTRACT of the reference's Maced. CONDITIONS: where the bytes lie. -/
namespace Go.Proofs.YtcnemacakjemjaaDoor
open Go.RowKit CodeMath
set_option linter.unusedVariables false
set_option maxRecDepth 100000

def sizeC : Option Value → Nat
  | some (.string s) => s.size
  | _ => 0
/-- A key with noughts behind it. -/
def padK (D : List UInt8) (j : Nat) : List UInt8 := D ++ List.replicate j 0
theorem padK_length (D : List UInt8) (j : Nat) : (padK D j).length = D.length + j := by simp [padK]
theorem padK_succ (D : List UInt8) (j : Nat) : padK D j ++ [0] = padK D (j + 1) := by
  unfold padK; rw [List.append_assoc, ← List.replicate_succ']
def MacedF (FV : Value) (S1 SB SX : ByteArray) (ab : Option Addr) (m cb : Nat) (X : List UInt8) (n : Nat) (VI : Array Value) (H : Nat) : Nat → Value → World → Prop
  | 0, v, _ => v = FV
  | 1, v, _ => v = .string S1
  | 2, v, _ => v = .slice ab m cb
  | 3, v, _ => v = .string SB
  | 4, v, _ => v = .string SX
  | 5, v, w => ∃ g cap, v = .slice (some ⟨g, 0, none⟩) n cap ∧ Bytes w (some ⟨g, 0, none⟩) X ∧ n ≤ cap ∧ cap ≤ 9223372036854775807
  | 6, v, _ => v = .agg VI
  | 7, v, w => ∃ g, v = .pointer (some ⟨g, 0, none⟩) ∧ H ≤ g ∧ Blk w g 68 (u8s (List.replicate 32 0))
  | _, _, _ => True
theorem macedF_keep {FV : Value} {S1 SB SX : ByteArray} {ab : Option Addr} {m cb : Nat} {X : List UInt8} {n : Nat} {VI : Array Value} {H : Nat} (i : Nat) (v : Value) (w w' : World) (h : MacedF FV S1 SB SX ab m cb X n VI H i v w) (he : Below w.heap.size w w') : MacedF FV S1 SB SX ab m cb X n VI H i v w' := by
  unfold MacedF at *
  split at h <;> (try exact h) <;> (try exact trivial)
  · obtain ⟨g, cap, h1, h2, h3⟩ := h; exact ⟨g, cap, h1, h2.keep he, h3⟩
  · obtain ⟨g, h1, h2, h3⟩ := h; exact ⟨g, h1, h2, h3.call he⟩
end Go.Proofs.YtcnemacakjemjaaDoor
