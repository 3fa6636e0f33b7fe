/-
  CONTRACTS of the reference's small functions of SHA-256: rot, hexWord, schedule.
  CONDITIONS: each theorem's own hypotheses.
-/
import Derived.Test.YtmldhnghfdhjmaaDoorStrA
import Derived.Test.YtmldhnghfdhjmaaDoorShaDefs
import Derived.LoopTactic
import Derived.BigQuiet
import Derived.Deep.QuietTactic
import Derived.Deep.RegionWith
import Derived.Deep.RegionHeld3
namespace Go.Proofs.YtmldhnghfdhjmaaDoor
open Go.RowKit CodeMath
set_option linter.unusedVariables false

theorem rot_bits (x n : Nat) (hx : x < 4294967296) (h1 : 1 ≤ n) (h2 : n ≤ 31) :
    bits .or .u32 ((x : Int) / 2 ^ n) ((x : Int) * 2 ^ (32 - n) % 4294967296) = ((ShaMath.rot x n : Nat) : Int) := by
  have e1 : (x : Int) / 2 ^ n = ((x >>> n : Nat) : Int) := by rw [Nat.shiftRight_eq_div_pow]; simp
  have e2 : (x : Int) * 2 ^ (32 - n) % 4294967296 = (((x <<< (32 - n)) % 4294967296 : Nat) : Int) := by rw [Nat.shiftLeft_eq]; simp
  have l1 : x >>> n < 4294967296 := by rw [Nat.shiftRight_eq_div_pow]; exact Nat.lt_of_le_of_lt (Nat.div_le_self _ _) hx
  rw [e1, e2, u32_or_nat _ _ l1 (Nat.mod_lt _ (by decide))]
  rfl
theorem rot_lt (x n : Nat) (hx : x < 4294967296) : ShaMath.rot x n < 4294967296 := by
  unfold ShaMath.rot ShaMath.w32
  refine Nat.or_lt_two_pow (n := 32) ?_ (Nat.mod_lt _ (by decide))
  rw [Nat.shiftRight_eq_div_pow]; exact Nat.lt_of_le_of_lt (Nat.div_le_self _ _) hx
theorem rot_any (x n : Nat) (w : World) (hx : x < 4294967296) (h1 : 1 ≤ n) (h2 : n ≤ 31) :
    Calls Tryd.prog 82 #[.int .u32 x, .int .i64 n] w fun e w' => e = .returned (.int .u32 (ShaMath.rot x n : Nat)) ∧ ∃ q, w' = w.drewN q := by
  have n0 : (0 : Int) ≤ n := by omega
  have n1 : (n : Int) ≤ 31 := by omega
  have hr := rot_bits x n hx h1 h2
  go_enter Tryd.func82, Tryd.ntmps82
  go_wp2_with fail
  go_quiet (fail)
  go_wp2
  go_ret
  first | exact ⟨rfl, _, rfl⟩ | exact ⟨by rw [hr], _, rfl⟩

/-! ### hexWord -/
def isHex (c : UInt8) : Prop := (48 ≤ c.toNat ∧ c.toNat ≤ 57) ∨ (97 ≤ c.toNat ∧ c.toNat ≤ 102)
def hexd (c : UInt8) : Nat := if 97 ≤ c.toNat then c.toNat - 87 else c.toNat - 48
def hexL (l : List UInt8) : Nat := l.foldl (fun n c => n * 16 + hexd c) 0
theorem hexd_lt (c : UInt8) (h : isHex c) : hexd c < 16 := by
  unfold isHex at h
  unfold hexd
  split <;> omega
theorem hexL_snoc (l : List UInt8) (c : UInt8) : hexL (l ++ [c]) = hexL l * 16 + hexd c := by simp [hexL]
theorem hexL_take (l : List UInt8) (h : ∀ c ∈ l, isHex c) : ∀ j, j ≤ l.length → hexL (l.take j) < 16 ^ j
  | 0, _ => by simp [hexL]
  | j + 1, hj => by
    have h1 := hexL_take l h j (by omega)
    rw [List.take_succ_eq_append_getElem (by omega), hexL_snoc]
    have h2 := hexd_lt _ (h l[j] (List.getElem_mem _))
    rw [Nat.pow_succ]
    omega
set_option maxRecDepth 100000 in
set_option maxHeartbeats 2000000 in
theorem hexWord_any (l : List UInt8) (i : Nat) (w : World) (hi : 8 * i + 8 ≤ l.length) (hl : l.length ≤ 512) (hx : ∀ c ∈ l, isHex c) :
    Calls Tryd.prog 69 #[.string (str l), .int .i64 i] w fun e w' => e = .returned (.int .u32 (hexL ((l.drop (8 * i)).take 8) : Nat)) ∧ Below w.heap.size w w' := by
  have cut := cut_str l (8 * i) (8 * i + 8) (8 * (i : Int)) (8 * (i : Int) + 8) (by omega) (by omega) (by omega) hi w
  rw [Nat.add_sub_cancel_left] at cut
  have hD : ((l.drop (8 * i)).take 8).length = 8 := by rw [List.length_take, List.length_drop]; omega
  have hX : ∀ c ∈ (l.drop (8 * i)).take 8, isHex c := fun c hc => hx c (List.mem_of_mem_drop (List.mem_of_mem_take hc))
  generalize (l.drop (8 * i)).take 8 = D at cut hD hX ⊢
  obtain ⟨cap, W1, hcv, hy, hb⟩ := bytesOf D w
  rw [hD] at hcv
  have hcell : ∀ j x, D[j]? = some x → W1.cell? ⟨w.heap.size, j, none⟩ = some (.int .u8 x.toNat) := by
    rcases hy with h | ⟨a, o, e, _, h⟩
    · rw [h] at hD; simp at hD
    · simp only [Option.some.injEq, Addr.mk.injEq, and_true] at e
      obtain ⟨rfl, rfl⟩ := e
      intro j x hjx
      have := h j x hjx
      rwa [Nat.zero_add] at this
  generalize str D = S at cut hcv
  generalize str l = SL at cut ⊢
  have HC := Lib.hid hcell
  have HX := Lib.hid hX
  have HD := Lib.hid hD
  have hi' : (i : Int) ≤ 63 := by omega
  clear hcell hX hx hy hD
  go_enter Tryd.func69, Tryd.ntmps69
  go_wp2
  go_loopw [5, 18] (fun x k wr => ∃ (j N : Nat), j ≤ 8 ∧ k = .int .i64 j ∧ x = .int .u32 N ∧ Hid (N = hexL (D.take j)) ∧ wr = W1) (fun _ k _ => 8 - (intOf k).toNat)
  case atStart => exact ⟨0, 0, Nat.zero_le _, rfl, rfl, Lib.hid rfl, rfl⟩
  case round =>
    obtain ⟨j, N, hj, rfl, rfl, hN, rfl⟩ := hrel
    by_cases h1 : j < 8
    · have hlt : j < D.length := by rw [HD.out]; exact h1
      obtain ⟨c, hv⟩ : ∃ c, D[j]? = some c := ⟨D[j], List.getElem?_eq_getElem hlt⟩
      have hcj := HC.out j c hv
      have ev : D[j] = c := by rw [List.getElem?_eq_getElem hlt] at hv; exact Option.some.inj hv
      have hh := HX.out c (List.mem_of_getElem? hv)
      have hd16 := hexd_lt c hh
      have hNN := hN.out
      have hNl := hexL_take D HX.out j (by omega)
      rw [← hNN] at hNl
      have hNb : N ≤ 268435455 := by
        have := Nat.pow_le_pow_right (show 0 < 16 by decide) (show j ≤ 7 by omega)
        have e : 16 ^ 7 = 268435456 := by decide
        omega
      have hnext : Hid (N * 16 + hexd c = hexL (D.take (j + 1))) := by
        show _ = _
        rw [List.take_succ_eq_append_getElem hlt, hexL_snoc, ev, ← hNN]
      have hc8 : (c.toNat : Int) ≤ 255 := by have := c.toNat_lt; omega
      unfold isHex at hh
      unfold hexd at hnext hd16
      generalize c.toNat = x at hcj hh hd16 hnext hc8
      clear hNN hNl ev hv hN
      by_cases h97 : 97 ≤ x
      · rw [if_pos h97] at hnext hd16
        have x0 : (97 : Int) ≤ x := by omega
        have x1 : (x : Int) ≤ 102 := by omega
        go_wp2
        go_roundw
        case rel => exact ⟨j + 1, N * 16 + (x - 87), by omega, by go_num, by congr 1; omega, hnext, trivial⟩
        case measure => simp [intOf]; omega
      · rw [if_neg h97] at hnext hd16
        have x0 : (48 : Int) ≤ x := by omega
        have x1 : (x : Int) ≤ 57 := by omega
        go_wp2
        go_roundw
        case rel => exact ⟨j + 1, N * 16 + (x - 48), by omega, by go_num, by congr 1; omega, hnext, trivial⟩
        case measure => simp [intOf]; omega
    · have hj8 : j = 8 := by omega
      have hNN := hN.out
      rw [List.take_of_length_le (by rw [HD.out]; omega)] at hNN
      have HNN := Lib.hid hNN
      clear hNN
      go_wp2
      go_ret
      exact ⟨by have := HNN.out; subst this; rfl, hb⟩
end Go.Proofs.YtmldhnghfdhjmaaDoor
