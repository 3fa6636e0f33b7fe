/-
  THE WALK of the law 'chirographlaw.SlotsRooted'.
  CONDITIONS: package sum's roundWords hold what their initialiser lays ('KW').
-/
import Derived.Test.YtcplnfaopigoiaaDoorCovG
namespace Go.Proofs.YtcplnfaopigoiaaDoor
open Go.RowKit CodeMath Go.Proofs.YtcplnfaopigoiaaDoor.FrameMath
set_option linter.unusedVariables false
set_option maxRecDepth 100000

theorem rtdR_ne {m : Int} {h : Nat} {o : List Bool} {S : List Sl} {R : List (List UInt8)} {c : Int} (he : rtdR m h o S R = .err c) : c ≠ 0 := by
  unfold rtdR at he
  split at he
  · cases he; decide
  · split at he
    · cases he; decide
    · split at he
      · cases he
      · cases he; decide
theorem pow_height (n : Nat) : ∃ h, h ≤ 6 ∧ (isPow (n : Int) = true → n = 2 ^ h) := by
  cases hp : isPow (n : Int) with
  | false => exact ⟨0, by decide, fun h => by cases h⟩
  | true =>
    obtain ⟨k, h6, hk⟩ := pow_of hp
    exact ⟨k, h6, fun _ => hk⟩
set_option maxHeartbeats 2000000 in
theorem slotsRooted_walk (m : Int) (o : List Bool) (ao : Option Addr) (co : Nat) (S : List Sl) (aS : Option Addr) (cS : Nat) (R : List (List UInt8)) (aR : Option Addr) (cR : Nat) (w : World) (hT : KW w) (m0 : -9223372036854775808 ≤ m) (m1 : m ≤ 9223372036854775807) (ho : o.length ≤ co) (hq : co ≤ 9223372036854775807) (hO : Bools w ao o)
    (s1 : S.length ≤ cS) (s2 : cS ≤ 9223372036854775807) (r1 : R.length ≤ cR) (r2 : cR ≤ 9223372036854775807) (hR : ∀ r ∈ R, r.length ≤ 140737488351232) (hS : Slots w aS S) (hL : Lines w aR R) :
    Calls Tryd.prog 4 #[.int .i64 m, .slice ao o.length co, .agg #[.slice aS S.length cS, .slice aR R.length cR]] w fun e w' => e = .returned (.bool true) ∧ Below w.heap.size w w' := by
  obtain ⟨h, h6, hh⟩ := pow_height o.length
  have hz : CovB (w.alloc (.cells #[.slice aS S.length cS, .slice aR R.length cR] 26)) w.heap.size (.slice aS S.length cS) (.slice aR R.length cR) := Blk.new w #[.slice aS S.length cS, .slice aR R.length cR] 26
  have hb1 : Below w.heap.size w (w.alloc (.cells #[.slice aS S.length cS, .slice aR R.length cR] 26)) := (Below.refl _ _).alloc (Nat.le_refl _) _
  have cA := Rooted_any m o ao co S aS cS R aR cR _ m0 m1 ho hq (hO.keep hb1) s1 s2 (hS.keep hb1) r1 r2 hR (hL.keep hb1) (hT.keep hb1 (Nat.le_refl _)) h h6 hh
  have cB := fun W (hW : Below w.heap.size w W) => RootedRef_any m o ao co S aS cS R aR cR W m0 m1 ho hq (hO.keep hW) s1 s2 (hS.keep hW) r1 r2 hR (hL.keep hW) h h6 hh
  have hne : Hid (∀ c, rtdR m h o S R = .err c → c ≠ 0) := fun c hc => rtdR_ne hc
  generalize rtdR m h o S R = D at *
  clear hh h6 hT ho hO s1 r1 hR hS hL
  generalize o.length = n at *
  generalize S.length = sl at *
  generalize R.length = rl at *
  have HZ := Lib.hid hz
  have HB1 := Lib.hid hb1
  have CB := Lib.hid cB
  clear hz cB
  cases D with
  | err c =>
    go_enter Tryd.func4, Tryd.ntmps4
    go_wp2_with fail
    refine cA.mono ?_
    rintro e w2 ⟨rfl, hb2⟩
    have hbb := below_step hb1 hb1.size hb2
    have hz2 := HZ.out.keep hb2
    have q0 := Blk.cell hz2 (j := 0) rfl
    have q1 := Blk.cell hz2 (j := 1) rfl
    have cB := CB.out w2 hbb
    have hc0 : (c == c) = true := by simp
    clear cA hz2 hb1
    go_wp2_with fail
    refine cB.mono ?_
    rintro e w3 ⟨rfl, hb3⟩
    have hbb3 := below_step hbb hbb.size hb3
    clear cB q0 q1
    have cS := lawSameBytes_any [] none none 0 0 w3 (.inl rfl) (.inl rfl)
    go_wp2_with fail
    refine cS.mono ?_
    rintro e w4 ⟨rfl, rfl⟩
    go_wp2_with fail
    go_ret
    exact ⟨by first | rfl | simp, hbb3⟩
  | ok x =>
    go_enter Tryd.func4, Tryd.ntmps4
    go_wp2_with fail
    refine cA.mono ?_
    rintro e w2 ⟨v2, rfl, hr2, hb2⟩
    obtain ⟨a2, k2, rfl, -, -, -, -⟩ := id hr2
    have hbb := below_step hb1 hb1.size hb2
    have hz2 := HZ.out.keep hb2
    have q0 := Blk.cell hz2 (j := 0) rfl
    have q1 := Blk.cell hz2 (j := 1) rfl
    have cB := CB.out w2 hbb
    have HR2 := Lib.hid hr2.row
    clear cA hz2 hb1 hr2
    go_wp2_with fail
    refine cB.mono ?_
    rintro e w3 ⟨⟨v3, rfl, hr3⟩, hb3⟩
    obtain ⟨a3, k3, rfl, -, -, -, q3⟩ := id hr3
    have hbb3 := below_step hbb hbb.size hb3
    obtain ⟨_, _, e2, -, -, -, q2⟩ := HR2.out.keep hb3
    obtain ⟨e2a, -, e2c⟩ := Value.slice.inj e2
    subst e2a e2c
    have cS := lawSameBytes_any x a2 a3 k2 k3 w3 q2 q3
    clear cB q0 q1 hr3 q2 q3 e2
    generalize x.length = lx at *
    go_wp2_with fail
    refine cS.mono ?_
    rintro e w4 ⟨rfl, rfl⟩
    go_wp2_with fail
    go_ret
    exact ⟨by first | rfl | simp, hbb3⟩
end Go.Proofs.YtcplnfaopigoiaaDoor
