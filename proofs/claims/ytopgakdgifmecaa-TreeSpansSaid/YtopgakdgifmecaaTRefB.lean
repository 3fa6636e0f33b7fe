/-
  CONTRACT of the reference's bytesOrder, for seats without values' functions: the same names as in ValA and GValD (never both in one seat).
  CONDITIONS: each theorem's own hypotheses.
-/
import Derived.Test.YtopgakdgifmecaaTBase
import Derived.Lib.Strings
import Derived.Lib.Bytealg
import Derived.Lib.Hide
import Derived.IntWalk
import Derived.Deep.QuietTactic
import Derived.Deep.RegionWith
namespace Go.Proofs.Ytopgakdgifmecaa
open Go.RowKit
set_option linter.unusedVariables false

def cmp3 (x y : Int) : Int := if x < y then -1 else if y < x then 1 else 0
theorem rb {a b : Bool} (h : a = b) : Ending.returned (.bool a) = .returned (.bool b) := by rw [h]
theorem ri {k : IntKind} {a b : Int} (h : a = b) : Ending.returned (.int k a) = .returned (.int k b) := by rw [h]
theorem sign_any (n : Int) (w : World) :
    Calls Try.prog 45 #[.int .i64 n] w fun e w' => e = .returned (.int .i64 (cmp3 n 0)) ∧ w = w' := by
  unfold cmp3
  rcases Int.lt_trichotomy n 0 with l | rfl | g
  · rw [if_pos l]
    go_enter Try.func45, Try.ntmps45
    go_wp2
    go_ret
    exact ⟨rfl, rfl⟩
  · go_enter Try.func45, Try.ntmps45
    go_wp2
    go_ret
    exact ⟨rfl, rfl⟩
  · rw [if_neg (by omega), if_pos g]
    go_enter Try.func45, Try.ntmps45
    go_wp2
    go_ret
    exact ⟨rfl, rfl⟩
theorem below_dn {B : Nat} {a w : World} (h : Below B a w) : ∀ q, Below B a (w.drewN q)
  | 0 => h
  | q + 1 => (below_dn h q).drew
theorem cmpB_step (a b : List UInt8) (n : Nat) (h1 : n < a.length) (h2 : n < b.length) :
    Lib.compareBytes (a.drop n) (b.drop n) = if a[n] < b[n] then -1 else if b[n] < a[n] then 1 else Lib.compareBytes (a.drop (n + 1)) (b.drop (n + 1)) := by
  rw [List.drop_eq_getElem_cons h1, List.drop_eq_getElem_cons h2]
  rfl
theorem cmpB_end (a b : List UInt8) (n : Nat) (h1 : n ≤ a.length) (h2 : n ≤ b.length) (h : n = a.length ∨ n = b.length) :
    Lib.compareBytes (a.drop n) (b.drop n) = cmp3 ((a.length : Int) - (b.length : Int)) 0 := by
  unfold cmp3
  by_cases e1 : n = a.length
  · rw [List.drop_of_length_le (by omega)]
    by_cases e2 : n = b.length
    · rw [List.drop_of_length_le (by omega), if_neg (by omega), if_neg (by omega)]; rfl
    · rw [List.drop_eq_getElem_cons (show n < b.length by omega), if_pos (by omega)]; rfl
  · have e2 : n = b.length := by omega
    rw [List.drop_of_length_le (l := b) (by omega), List.drop_eq_getElem_cons (show n < a.length by omega), if_neg (by omega), if_pos (by omega)]; rfl
set_option maxHeartbeats 2000000 in
theorem bytesOrder_any (a b : ByteArray) (w : World) (ha : a.size ≤ 9223372036854775807) (hb : b.size ≤ 9223372036854775807) :
    Calls Try.prog 30 #[.string a, .string b] w fun e w' => e = .returned (.int .i64 (Lib.compareBytes a.data.toList b.data.toList)) ∧ Below w.heap.size w w' := by
  obtain ⟨ANS, hANS⟩ : ∃ ANS, Lib.compareBytes a.data.toList b.data.toList = ANS := ⟨_, rfl⟩
  rw [hANS]
  go_enter Try.func30, Try.ntmps30
  go_wp2
  go_loopw [5] (fun v wr => ∃ n : Nat, n ≤ a.size ∧ n ≤ b.size ∧ v = .int .i64 n ∧ Hid (Lib.compareBytes (a.data.toList.drop n) (b.data.toList.drop n) = ANS) ∧ Below w.heap.size w wr) (fun v _ => a.size - (intOf v).toNat)
  case atStart => exact ⟨0, Nat.zero_le _, Nat.zero_le _, rfl, hANS, Below.refl _ _⟩
  case round =>
    obtain ⟨n, hn1, hn2, rfl, hc, hbw⟩ := hrel
    have la := Lib.size_eq a
    have lb := Lib.size_eq b
    by_cases h1 : n < a.size
    · by_cases h2 : n < b.size
      · have hs := cmpB_step a.data.toList b.data.toList n (by omega) (by omega)
        have ea : a.data.toList[n]'(by omega) = a[n] := by rw [Array.getElem_toList]; rfl
        have eb : b.data.toList[n]'(by omega) = b[n] := by rw [Array.getElem_toList]; rfl
        rw [ea, eb, hc.out] at hs
        clear ea eb la lb hANS hc
        by_cases hl : a[n].toNat < b[n].toNat
        · rw [if_pos (by rw [UInt8.lt_iff_toNat_lt]; exact hl)] at hs
          subst hs
          have ht : ((a[n].toNat : Int) != (b[n].toNat : Int)) = true := by simp; omega
          have hl' : (a[n].toNat : Int) < (b[n].toNat : Int) := by omega
          clear hl
          go_wp2
          go_quiet (fail)
          go_wp2
          go_quiet (fail)
          go_wp2
          go_ret
          exact ⟨rfl, below_dn (below_dn hbw _) _⟩
        · by_cases hg : b[n].toNat < a[n].toNat
          · rw [if_neg (by rw [UInt8.lt_iff_toNat_lt]; exact hl), if_pos (by rw [UInt8.lt_iff_toNat_lt]; exact hg)] at hs
            subst hs
            have ht : ((a[n].toNat : Int) != (b[n].toNat : Int)) = true := by simp; omega
            have hl' : ¬ (a[n].toNat : Int) < (b[n].toNat : Int) := by omega
            clear hl hg
            go_wp2
            go_quiet (fail)
            go_wp2
            go_quiet (fail)
            go_wp2
            go_ret
            exact ⟨rfl, below_dn (below_dn hbw _) _⟩
          · rw [if_neg (by rw [UInt8.lt_iff_toNat_lt]; exact hl), if_neg (by rw [UInt8.lt_iff_toNat_lt]; exact hg)] at hs
            have hs' := Lib.hid hs.symm
            have ht : ((a[n].toNat : Int) != (b[n].toNat : Int)) = false := by simp; omega
            clear hl hg hs
            go_wp2
            go_quiet (fail)
            go_wp2
            go_roundw
            case rel => exact ⟨n + 1, by omega, by omega, by go_num, hs', below_dn hbw _⟩
            case measure => simp [intOf]; omega
      · have he := cmpB_end a.data.toList b.data.toList n (by omega) (by omega) (Or.inr (by omega))
        rw [hc.out, ← la, ← lb] at he
        have he' := Lib.hid he
        have cS := fun w => sign_any ((a.size : Int) - (b.size : Int)) w
        clear he la lb hANS hc
        go_wp2_with (go_at_call 45; refine (cS _).mono ?_; rintro e w' ⟨rfl, rfl⟩)
        go_ret
        exact ⟨ri he'.out.symm, hbw⟩
    · have he := cmpB_end a.data.toList b.data.toList n (by omega) (by omega) (Or.inl (by omega))
      rw [hc.out, ← la, ← lb] at he
      have he' := Lib.hid he
      have cS := fun w => sign_any ((a.size : Int) - (b.size : Int)) w
      clear he la lb hANS hc
      go_wp2_with (go_at_call 45; refine (cS _).mono ?_; rintro e w' ⟨rfl, rfl⟩)
      go_ret
      exact ⟨ri he'.out.symm, hbw⟩
end Go.Proofs.Ytopgakdgifmecaa
