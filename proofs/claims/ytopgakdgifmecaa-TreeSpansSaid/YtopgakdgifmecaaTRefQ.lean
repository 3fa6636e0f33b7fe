/-
  CONTRACT of the reference's bytesOrder: it only draws.
  CONDITIONS: each theorem's own hypotheses.
-/
import Derived.Test.YtopgakdgifmecaaTRefB
namespace Go.Proofs.Ytopgakdgifmecaa
open Go.RowKit
set_option linter.unusedVariables false

set_option maxHeartbeats 2000000 in
theorem bytesOrder_q (a b : ByteArray) (w : World) (ha : a.size ≤ 9223372036854775807) (hb : b.size ≤ 9223372036854775807) :
    Calls Try.prog 30 #[.string a, .string b] w fun e w' => e = .returned (.int .i64 (Lib.compareBytes a.data.toList b.data.toList)) ∧ ∃ q, w' = w.drewN q := by
  obtain ⟨ANS, hANS⟩ : ∃ ANS, Lib.compareBytes a.data.toList b.data.toList = ANS := ⟨_, rfl⟩
  rw [hANS]
  go_enter Try.func30, Try.ntmps30
  go_wp2
  go_loopw [5] (fun v wr => ∃ n : Nat, n ≤ a.size ∧ n ≤ b.size ∧ v = .int .i64 n ∧ Hid (Lib.compareBytes (a.data.toList.drop n) (b.data.toList.drop n) = ANS) ∧ ∃ q, wr = w.drewN q) (fun v _ => a.size - (intOf v).toNat)
  case atStart => exact ⟨0, Nat.zero_le _, Nat.zero_le _, rfl, hANS, 0, rfl⟩
  case round =>
    obtain ⟨n, hn1, hn2, rfl, hc, qq, rfl⟩ := hrel
    have la := Lib.size_eq a
    have lb := Lib.size_eq b
    by_cases h1 : n < a.size
    · by_cases h2 : n < b.size
      · have hs := cmpB_step a.data.toList b.data.toList n (by omega) (by omega)
        have ea : a.data.toList[n]'(by omega) = a[n] := by rw [Array.getElem_toList]; rfl
        have eb : b.data.toList[n]'(by omega) = b[n] := by rw [Array.getElem_toList]; rfl
        rw [ea, eb, hc.out] at hs
        clear ea eb la lb hANS hc
        by_cases hl : a[n].toNat < b[n].toNat
        · rw [if_pos (by rw [UInt8.lt_iff_toNat_lt]; exact hl)] at hs
          subst hs
          have ht : ((a[n].toNat : Int) != (b[n].toNat : Int)) = true := by simp; omega
          have hl' : (a[n].toNat : Int) < (b[n].toNat : Int) := by omega
          clear hl
          go_wp2
          go_quiet (fail)
          go_wp2
          go_quiet (fail)
          go_wp2
          go_ret
          exact ⟨rfl, _, by simp only [World.drewN_drewN]; rfl⟩
        · by_cases hg : b[n].toNat < a[n].toNat
          · rw [if_neg (by rw [UInt8.lt_iff_toNat_lt]; exact hl), if_pos (by rw [UInt8.lt_iff_toNat_lt]; exact hg)] at hs
            subst hs
            have ht : ((a[n].toNat : Int) != (b[n].toNat : Int)) = true := by simp; omega
            have hl' : ¬ (a[n].toNat : Int) < (b[n].toNat : Int) := by omega
            clear hl hg
            go_wp2
            go_quiet (fail)
            go_wp2
            go_quiet (fail)
            go_wp2
            go_ret
            exact ⟨rfl, _, by simp only [World.drewN_drewN]; rfl⟩
          · rw [if_neg (by rw [UInt8.lt_iff_toNat_lt]; exact hl), if_neg (by rw [UInt8.lt_iff_toNat_lt]; exact hg)] at hs
            have hs' := Lib.hid hs.symm
            have ht : ((a[n].toNat : Int) != (b[n].toNat : Int)) = false := by simp; omega
            clear hl hg hs
            go_wp2
            go_quiet (fail)
            go_wp2
            go_roundw
            case rel => exact ⟨n + 1, by omega, by omega, by go_num, hs', _, (by first | rfl | (simp only [World.drewN_drewN]; rfl))⟩
            case measure => simp [intOf]; omega
      · have he := cmpB_end a.data.toList b.data.toList n (by omega) (by omega) (Or.inr (by omega))
        rw [hc.out, ← la, ← lb] at he
        have he' := Lib.hid he
        have cS := fun w => sign_any ((a.size : Int) - (b.size : Int)) w
        clear he la lb hANS hc
        go_wp2_with (go_at_call 45; refine (cS _).mono ?_; rintro e w' ⟨rfl, rfl⟩)
        go_ret
        exact ⟨ri he'.out.symm, _, rfl⟩
    · have he := cmpB_end a.data.toList b.data.toList n (by omega) (by omega) (Or.inl (by omega))
      rw [hc.out, ← la, ← lb] at he
      have he' := Lib.hid he
      have cS := fun w => sign_any ((a.size : Int) - (b.size : Int)) w
      clear he la lb hANS hc
      go_wp2_with (go_at_call 45; refine (cS _).mono ?_; rintro e w' ⟨rfl, rfl⟩)
      go_ret
      exact ⟨ri he'.out.symm, _, rfl⟩
end Go.Proofs.Ytopgakdgifmecaa
