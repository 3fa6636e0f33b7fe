/-
  CONTRACTS of the reference's decimal, tokenText.
  CONDITIONS: each theorem's own hypotheses.
-/
import Derived.Test.YtlhoakpijfhljaaDoorShowM
import Derived.Test.YtlhoakpijfhljaaDoorHexP
import Derived.Test.YtlhoakpijfhljaaDoorShowS
import Derived.Test.YtlhoakpijfhljaaDoorBlk
import Derived.Lib.ItoaLen
import Derived.BigQuiet
namespace Go.Proofs.YtlhoakpijfhljaaDoor
open Go.RowKit
set_option linter.unusedVariables false
set_option maxRecDepth 100000

theorem drewN_add (w : World) (a : Nat) : ∀ b, (w.drewN a).drewN b = w.drewN (a + b)
  | 0 => rfl
  | b + 1 => by
    have := drewN_add w a b
    show ((w.drewN a).drewN b).drew = (w.drewN (a + b)).drew
    rw [this]
theorem digit_cut (v : Nat) (h : v < 10) (x y : Int) (hx : x = v) (hy : y = v + 1) (w : World) : (Instr.slice 9 (.string ⟨#[48, 49, 50, 51, 52, 53, 54, 55, 56, 57]⟩) (some (.int .i64 x)) (some (.int .i64 y)) none).run Tryd.prog w = .ok (.string (str [UInt8.ofNat (48 + v)])) w := by
  have h1 := cut_str digitsL v (v + 1) x y hx (by rw [hy]; rfl) (by omega) (by show v + 1 ≤ 10; omega) w
  have e : (digitsL.drop v).take (v + 1 - v) = [UInt8.ofNat (48 + v)] := by
    have : ∀ v : Fin 10, (digitsL.drop v.val).take (v.val + 1 - v.val) = [UInt8.ofNat (48 + v.val)] := by decide
    exact this ⟨v, h⟩
  rw [e] at h1
  exact h1
set_option maxHeartbeats 4000000 in
theorem decimal_any (n : Nat) (hn : n ≤ 9223372036854775807) (w : World) : Calls Tryd.prog 27 #[.int .i64 (n : Int)] w fun e w' => e = .returned (.string (str (Lib.decDigits n))) ∧ ∃ q, w' = w.drewN q := by
  induction n using Nat.strongRecOn generalizing w with
  | _ n IH =>
  by_cases h : n < 10
  · have e : Lib.decDigits n = [UInt8.ofNat (48 + n)] := by rw [Lib.decDigits, dif_pos h]
    rw [e]
    have hc := fun W => digit_cut n h (n : Int) ((n : Int) + 1) rfl rfl W
    have i1 : (n : Int) < 10 := by omega
    generalize str [UInt8.ofNat (48 + n)] = D at *
    clear IH e
    go_enter Tryd.func27, Tryd.ntmps27
    go_wp2_with fail
    go_ret
    exact ⟨rfl, 0, rfl⟩
  · have e : Lib.decDigits n = Lib.decDigits (n / 10) ++ [UInt8.ofNat (48 + n % 10)] := by rw [Lib.decDigits, dif_neg h]
    rw [e]
    have ih := fun W => IH (n / 10) (by omega) (by omega) W
    obtain ⟨M, hM⟩ : ∃ M : Int, M = ((n % 10 : Nat) : Int) := ⟨_, rfl⟩
    obtain ⟨Q, hQ⟩ : ∃ Q : Int, Q = ((n / 10 : Nat) : Int) := ⟨_, rfl⟩
    have hc := fun W => digit_cut (n % 10) (by omega) M (M + 1) hM (by omega) W
    have d1 : (n : Int) / 10 = Q := by omega
    have d2 : (n : Int).tdiv 10 = Q := by rw [Int.tdiv_eq_ediv_of_nonneg (by omega)]; omega
    have d3 : (n : Int) % 10 = M := by omega
    have d4 : (n : Int).tmod 10 = M := by rw [Int.tmod_eq_emod_of_nonneg (by omega)]; omega
    have b1 : 0 ≤ Q := by omega
    have b2 : Q ≤ 9223372036854775807 := by omega
    have b3 : 0 ≤ M := by omega
    have b4 : M < 10 := by omega
    rw [← hQ] at ih
    have i1 : ¬ (n : Int) < 10 := by omega
    have hlen : (str (Lib.decDigits (n / 10))).size ≤ 1000 := by
      have e2 : Lib.itoa ((n / 10 : Nat) : Int) = Lib.decDigits (n / 10) := by unfold Lib.itoa; rw [if_neg (by omega), Int.toNat_natCast]
      have := Lib.itoa_length_le ((n / 10 : Nat) : Int) (by omega) (by omega)
      rw [str_size, ← e2]; omega
    have hcat : str (Lib.decDigits (n / 10)) ++ str [UInt8.ofNat (48 + n % 10)] = str (Lib.decDigits (n / 10) ++ [UInt8.ofNat (48 + n % 10)]) := str_append _ _
    generalize str (Lib.decDigits (n / 10) ++ [UInt8.ofNat (48 + n % 10)]) = R at *
    generalize str (Lib.decDigits (n / 10)) = A at *
    have hlen2 : (str [UInt8.ofNat (48 + n % 10)]).size = 1 := by rw [str_size]; rfl
    generalize str [UInt8.ofNat (48 + n % 10)] = D at *
    clear IH e hM hQ
    go_enter Tryd.func27, Tryd.ntmps27
    go_upto_region 3 with fail
    go_quiet ((go_at_call 27; exact (ih _).mono fun e w' h => ⟨h.1, by obtain ⟨q, hq⟩ := h.2; exact ⟨_, by rw [hq, drewN_add]⟩⟩))
    go_wp2_with fail
    go_ret
    exact ⟨rfl, _, rfl⟩
end Go.Proofs.YtlhoakpijfhljaaDoor
