/-
  PROVED: the tied card of the law 'ValueEquals': for every input the law returns true, and the input reads behind the call as it did.
  CONDITIONS: unicode/utf8's tables acceptRanges and first hold at the call what the program's text lays (the card ties them; the tie is given).
-/
import Derived.Test.YtnoloacfelnkbaaDoorRows
import Derived.Test.YtnoloacfelnkbaaDoorTie
import Derived.Test.YtnoloacfelnkbaaDoorCards
import Derived.Test.YtnoloacfelnkbaaDoorLawB
import Derived.ProofKit
import Derived.OpenShut
import Derived.LaidMore
import Derived.Lay
import Derived.SevenTiedAt
import Derived.Stop.Joined
import Derived.PinnedBridge
import Derived.Lib.SmallJoins
import Derived.Lib.LaidU8T
import Derived.Lib.LaidIn
namespace Go.Proofs.YtnoloacfelnkbaaDoor.valueEquals
open Go.ChangeShapes Go.WideShapes Go.ChangeAt Go.RowKit Go.Joins Go.Shelf Go.Lib
open Go.ChangeMaps (open_string shut_string)
set_option linter.unusedVariables false

theorem own : ownKnob Tryd.prog.godebug = none := by kernel_rfl
set_option maxRecDepth 100000 in
theorem tabs_of {W : World} (h : laidMetH Tryd.prog Rows.valueEqualsRow.laid W) : Tabs W := by
  rw [MakeChecks.laidMetH_plain _ _ _ (by kernel_rfl)] at h
  exact utf8Tabs_of_readsT (U8Types.of196 Tryd.laysValid) ⟨by kernel_rfl, by kernel_rfl, by kernel_rfl, by kernel_rfl, by kernel_rfl, by kernel_rfl, by kernel_rfl⟩
    (Pinned.utf8First_eq ▸ Lib.laidMet.reads h (.tail _ (.head _))) (Lib.laidMet.reads h (.head _))

set_option maxRecDepth 100000 in
set_option maxHeartbeats 4000000 in
theorem lifted (os : Os) (started : os.Started) (H : Type) (enc : TypeId × Value → H) :
    ReturnsInHanded {} Tryd.checked os 5 .any (fun w args => (Rows.valueEqualsSpec.pre enc Tryd.prog Tryd.f5 [] false w args ∧ laidMetH Tryd.prog Rows.valueEqualsRow.laid w) ∧ sizedMet enc Tryd.prog Tryd.f5 (OpenSpec.ofChange Rows.valueEqualsSpec) false w args)
      (Rows.valueEqualsSpec.post enc Tryd.prog Tryd.f5 false true false false) := by
  refine returnsInHanded_of_change_and (C := Tryd.checked) (X := fun w _ => laidMetH Tryd.prog Rows.valueEqualsRow.laid w) (fun _ _ _ hh h => h.of_heap hh) own started (by kernel_rfl) Tryd.func5
    (ChangeSpec.witness_shaped (enc := enc) (C := Tryd.checked) (os := os) (X := fun w _ => laidMetH Tryd.prog Rows.valueEqualsRow.laid w) false (World.laidAll Tryd.prog os Rows.valueEqualsRow.laid) #[.agg #[.int .i64 0, .int .i64 0, .int .u64 0, .string ⟨#[]⟩], .agg #[.int .i64 0, .int .i64 0, .int .u64 0, .string ⟨#[]⟩]] 8 (World.laidAll_os _ _ _)
      (World.shaped_of_ZipB (by kernel_rfl) (by kernel_rfl)) (by kernel_rfl) (by kernel_rfl) (by kernel_rfl)
      (by rw [MakeChecks.laidMetH_plain _ _ _ (by kernel_rfl)]; exact laidMet_laidAll _ (by kernel_rfl) (by kernel_rfl))) ?_
  intro W base args ds gs before hval0 hW _ _ hL _
  have hval : ∀ (j : Nat) t v, Tryd.f5.params[j]? = some t → args[j]? = some v → Value.okWide Tryd.prog W .any base t v := hval0
  have hW' := hW
  obtain ⟨p, q, hA0, hV, rfl, _, _⟩ := hW
  have hA : DataW.TrodAll enc Tryd.prog W 0 (fun _ => true) true Tryd.f5.params.toList args.toList ds p := hA0
  rw [Tryd.params5] at hA hval
  obtain ⟨v0, vs0, d0, ds0, p0, q0, hargs, rfl, rfl, h0, r0⟩ := trodAll_cons hA
  obtain ⟨v1, vs1, d1, ds1, p1, q1, rfl, rfl, rfl, h1, r1⟩ := trodAll_cons r0
  obtain ⟨rfl, rfl, rfl⟩ := trodAll_nil r1
  obtain rfl : args = #[v0, v1] := by cases args; simp_all
  obtain ⟨rfl, rfl⟩ := trodVars_none hV
  obtain ⟨cv0, cv1, cv2, cv3, yv0, yv1, yv2, yv3, mv, rfl, rfl, rfl, hyv0, hyv1, hyv2, hyv3⟩ := open_agg4 Tryd.underlying24 (by kernel_rfl) (by kernel_rfl) (hval 0 24 v0 rfl rfl) h0
  obtain ⟨kv, ev0, rfl, wkv⟩ := DataW.trod_int Tryd.underlying3 hyv0
  obtain ⟨iv, ev1, rfl, wiv⟩ := DataW.trod_int Tryd.underlying3 hyv1
  obtain ⟨bv, ev2, rfl, wbv⟩ := DataW.trod_int Tryd.underlying22 hyv2
  obtain ⟨sv, ev3, rfl, wsv⟩ := DataW.trod_string Tryd.underlying9 hyv3
  simp at ev0 ev1 ev2 ev3
  subst ev0 ev1 ev2 ev3
  obtain ⟨cu0, cu1, cu2, cu3, yu0, yu1, yu2, yu3, mu, rfl, rfl, rfl, hyu0, hyu1, hyu2, hyu3⟩ := open_agg4 Tryd.underlying24 (by kernel_rfl) (by kernel_rfl) (hval 1 24 v1 rfl rfl) h1
  obtain ⟨ku, eu0, rfl, wku⟩ := DataW.trod_int Tryd.underlying3 hyu0
  obtain ⟨iu, eu1, rfl, wiu⟩ := DataW.trod_int Tryd.underlying3 hyu1
  obtain ⟨bu, eu2, rfl, wbu⟩ := DataW.trod_int Tryd.underlying22 hyu2
  obtain ⟨su, eu3, rfl, wsu⟩ := DataW.trod_string Tryd.underlying9 hyu3
  simp at eu0 eu1 eu2 eu3
  subst eu0 eu1 eu2 eu3
  clear hA0 hval0
  have hT := tabs_of hL
  simp only [List.append_nil] at hW'
  refine (valueEquals_walk kv iv bv sv ku iu bu su wkv wiv wbv (by have := wsv; unfold maxLen at this; omega) wku wiu wbu (by have := wsu; unfold maxLen at this; omega) W hT).mono fun e W' ⟨he, bel⟩ => ?_
  subst he
  refine ⟨_, rfl, _, _, _, [], [], [], hW', ?_, ?_, ?_, bel.frame _, fun h => by cases h⟩
  · exact trodAll_mk1 (shut_bool Tryd.underlying4 _)
  · exact (trodAll_cons_mk (shut_agg4 (y0 := (.lit (.int .i64 kv), [])) (y1 := (.lit (.int .i64 iv), [])) (y2 := (.lit (.int .u64 bv), [])) (y3 := (.lit (.string sv.data.toList), [])) Tryd.underlying24 (by kernel_rfl) (by kernel_rfl) ⟨1, by simp [DataW.trod, Tryd.underlying3, wkv]⟩ ⟨1, by simp [DataW.trod, Tryd.underlying3, wiv]⟩ ⟨1, by simp [DataW.trod, Tryd.underlying22, wbv]⟩ ⟨1, by simp [DataW.trod, Tryd.underlying9, wsv]⟩) (trodAll_cons_mk (shut_agg4 (y0 := (.lit (.int .i64 ku), [])) (y1 := (.lit (.int .i64 iu), [])) (y2 := (.lit (.int .u64 bu), [])) (y3 := (.lit (.string su.data.toList), [])) Tryd.underlying24 (by kernel_rfl) (by kernel_rfl) ⟨1, by simp [DataW.trod, Tryd.underlying3, wku]⟩ ⟨1, by simp [DataW.trod, Tryd.underlying3, wiu]⟩ ⟨1, by simp [DataW.trod, Tryd.underlying22, wbu]⟩ ⟨1, by simp [DataW.trod, Tryd.underlying9, wsu]⟩) trodAll_mk0))
  · rfl

theorem over : Rows.ValueEqualsSaid :=
  OpenClaim.holds_of_wide 5 Tryd.f5 rfl rfl rfl rfl rfl rfl rfl ⟨rfl, rfl, rfl, rfl, rfl⟩ rfl rfl rfl rfl rfl (by kernel_rfl) Tryd.func5 (by kernel_rfl)
    (of_decide_eq_true (by kernel_rfl)) (by unfold Func.isWrapper; first | (rw [if_pos (by decide +kernel)]; kernel_rfl) | (rw [if_neg (by decide +kernel)]; exact ⟨rfl, rfl⟩))
    (fun os started H enc _ => lifted os started H enc)

/-- ████ THE STATEMENT: THE TIED CARD ████ -/
theorem proved : Rows.ValueEqualsCardSaid :=
  Claim7.holds_tied_plain_at .later [] [.data, .pinned] true (true, Rows.valueEqualsCard.stood.harness.2) false over (fun _ h => by cases h) (by kernel_rfl) (fun _ h => by cases h) valueEquals_row_tie rfl ⟨rfl, rfl⟩ (by kernel_rfl) rfl
    (fun f fn hf hfn => by
      obtain rfl : f = 5 := Option.some.inj ((show Tryd.prog.funcNamed Rows.valueEqualsRow.func = some 5 by kernel_rfl).symm.trans hf) |>.symm
      obtain rfl : fn = Tryd.f5 := (Option.some.inj (Tryd.func5.symm.trans hfn)).symm
      exact ⟨by kernel_rfl, fun j t ht => by
        rw [Tryd.params5] at ht
        have hm : t ∈ [24] := by simpa using Array.mem_of_getElem? ht
        have hall : ([24].all fun u => !Tryd.prog.wantsStandIn u) = true := by kernel_rfl
        exact (show Tryd.prog.wantsStandIn t = false by simpa using List.all_eq_true.1 hall t hm)⟩)
    (by kernel_rfl)
#print axioms proved
end Go.Proofs.YtnoloacfelnkbaaDoor.valueEquals
