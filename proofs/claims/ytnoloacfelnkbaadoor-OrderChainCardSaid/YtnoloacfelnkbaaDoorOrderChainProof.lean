/-
  PROVED: the tied card of the law 'OrderChain': for every input the law returns true, and the input reads behind the call as it did.
  CONDITIONS: unicode/utf8's tables acceptRanges and first hold at the call what the program's text lays (the card ties them; the tie is given).
-/
import Derived.Test.YtnoloacfelnkbaaDoorRows
import Derived.Test.YtnoloacfelnkbaaDoorTie
import Derived.Test.YtnoloacfelnkbaaDoorCards
import Derived.Test.YtnoloacfelnkbaaDoorLawF
import Derived.ProofKit
import Derived.OpenShut
import Derived.LaidMore
import Derived.Lay
import Derived.SevenTiedAt
import Derived.Stop.Joined
import Derived.PinnedBridge
import Derived.Lib.SmallJoins
import Derived.Lib.LaidU8T
import Derived.Lib.LaidIn
namespace Go.Proofs.YtnoloacfelnkbaaDoor.orderChain
open Go.ChangeShapes Go.WideShapes Go.ChangeAt Go.RowKit Go.Joins Go.Shelf Go.Lib
open Go.ChangeMaps (open_string shut_string)
set_option linter.unusedVariables false

theorem own : ownKnob Tryd.prog.godebug = none := by kernel_rfl
set_option maxRecDepth 100000 in
theorem tabs_of {W : World} (h : laidMetH Tryd.prog Rows.orderChainRow.laid W) : Tabs W := by
  rw [MakeChecks.laidMetH_plain _ _ _ (by kernel_rfl)] at h
  exact utf8Tabs_of_readsT (U8Types.of196 Tryd.laysValid) ⟨by kernel_rfl, by kernel_rfl, by kernel_rfl, by kernel_rfl, by kernel_rfl, by kernel_rfl, by kernel_rfl⟩
    (Pinned.utf8First_eq ▸ Lib.laidMet.reads h (.tail _ (.head _))) (Lib.laidMet.reads h (.head _))

set_option maxRecDepth 100000 in
set_option maxHeartbeats 4000000 in
theorem lifted (os : Os) (started : os.Started) (H : Type) (enc : TypeId × Value → H) :
    ReturnsInHanded {} Tryd.checked os 8 .any (fun w args => (Rows.orderChainSpec.pre enc Tryd.prog Tryd.f8 [] false w args ∧ laidMetH Tryd.prog Rows.orderChainRow.laid w) ∧ sizedMet enc Tryd.prog Tryd.f8 (OpenSpec.ofChange Rows.orderChainSpec) false w args)
      (Rows.orderChainSpec.post enc Tryd.prog Tryd.f8 false true false false) := by
  refine returnsInHanded_of_change_and (C := Tryd.checked) (X := fun w _ => laidMetH Tryd.prog Rows.orderChainRow.laid w) (fun _ _ _ hh h => h.of_heap hh) own started (by kernel_rfl) Tryd.func8
    (ChangeSpec.witness_shaped (enc := enc) (C := Tryd.checked) (os := os) (X := fun w _ => laidMetH Tryd.prog Rows.orderChainRow.laid w) false (World.laidAll Tryd.prog os Rows.orderChainRow.laid) #[.agg #[.int .i64 0, .int .i64 0, .int .i64 0, .string ⟨#[]⟩], .agg #[.int .i64 0, .int .i64 0, .int .i64 0, .string ⟨#[]⟩], .agg #[.int .i64 0, .int .i64 0, .int .i64 0, .string ⟨#[]⟩]] 8 (World.laidAll_os _ _ _)
      (World.shaped_of_ZipB (by kernel_rfl) (by kernel_rfl)) (by kernel_rfl) (by kernel_rfl) (by kernel_rfl)
      (by rw [MakeChecks.laidMetH_plain _ _ _ (by kernel_rfl)]; exact laidMet_laidAll _ (by kernel_rfl) (by kernel_rfl))) ?_
  intro W base args ds gs before hval0 hW _ _ hL _
  have hval : ∀ (j : Nat) t v, Tryd.f8.params[j]? = some t → args[j]? = some v → Value.okWide Tryd.prog W .any base t v := hval0
  have hW' := hW
  obtain ⟨p, q, hA0, hV, rfl, _, _⟩ := hW
  have hA : DataW.TrodAll enc Tryd.prog W 0 (fun _ => true) true Tryd.f8.params.toList args.toList ds p := hA0
  rw [Tryd.params8] at hA hval
  obtain ⟨v0, vs0, d0, ds0, p0, q0, hargs, rfl, rfl, h0, r0⟩ := trodAll_cons hA
  obtain ⟨v1, vs1, d1, ds1, p1, q1, rfl, rfl, rfl, h1, r1⟩ := trodAll_cons r0
  obtain ⟨v2, vs2, d2, ds2, p2, q2, rfl, rfl, rfl, h2, r2⟩ := trodAll_cons r1
  obtain ⟨rfl, rfl, rfl⟩ := trodAll_nil r2
  obtain rfl : args = #[v0, v1, v2] := by cases args; simp_all
  obtain ⟨rfl, rfl⟩ := trodVars_none hV
  obtain ⟨cm0, cm1, cm2, cm3, ym0, ym1, ym2, ym3, mm, rfl, rfl, rfl, hym0, hym1, hym2, hym3⟩ := open_agg4 Tryd.underlying33 (by kernel_rfl) (by kernel_rfl) (hval 0 33 v0 rfl rfl) h0
  obtain ⟨km, em0, rfl, wkm⟩ := DataW.trod_int Tryd.underlying3 hym0
  obtain ⟨am, em1, rfl, wam⟩ := DataW.trod_int Tryd.underlying3 hym1
  obtain ⟨bm, em2, rfl, wbm⟩ := DataW.trod_int Tryd.underlying3 hym2
  obtain ⟨sm, em3, rfl, wsm⟩ := DataW.trod_string Tryd.underlying9 hym3
  simp at em0 em1 em2 em3
  subst em0 em1 em2 em3
  obtain ⟨cn0, cn1, cn2, cn3, yn0, yn1, yn2, yn3, mn, rfl, rfl, rfl, hyn0, hyn1, hyn2, hyn3⟩ := open_agg4 Tryd.underlying33 (by kernel_rfl) (by kernel_rfl) (hval 1 33 v1 rfl rfl) h1
  obtain ⟨kn, en0, rfl, wkn⟩ := DataW.trod_int Tryd.underlying3 hyn0
  obtain ⟨an, en1, rfl, wan⟩ := DataW.trod_int Tryd.underlying3 hyn1
  obtain ⟨bn, en2, rfl, wbn⟩ := DataW.trod_int Tryd.underlying3 hyn2
  obtain ⟨sn, en3, rfl, wsn⟩ := DataW.trod_string Tryd.underlying9 hyn3
  simp at en0 en1 en2 en3
  subst en0 en1 en2 en3
  obtain ⟨co0, co1, co2, co3, yo0, yo1, yo2, yo3, mo, rfl, rfl, rfl, hyo0, hyo1, hyo2, hyo3⟩ := open_agg4 Tryd.underlying33 (by kernel_rfl) (by kernel_rfl) (hval 2 33 v2 rfl rfl) h2
  obtain ⟨ko, eo0, rfl, wko⟩ := DataW.trod_int Tryd.underlying3 hyo0
  obtain ⟨ao, eo1, rfl, wao⟩ := DataW.trod_int Tryd.underlying3 hyo1
  obtain ⟨bo, eo2, rfl, wbo⟩ := DataW.trod_int Tryd.underlying3 hyo2
  obtain ⟨so, eo3, rfl, wso⟩ := DataW.trod_string Tryd.underlying9 hyo3
  simp at eo0 eo1 eo2 eo3
  subst eo0 eo1 eo2 eo3
  clear hA0 hval0
  have hT := tabs_of hL
  simp only [List.append_nil] at hW'
  refine (orderChain_walk km am bm sm kn an bn sn ko ao bo so wkm wam wbm (by have := wsm; unfold maxLen at this; omega) wkn wan wbn (by have := wsn; unfold maxLen at this; omega) wko wao wbo (by have := wso; unfold maxLen at this; omega) W hT).mono fun e W' ⟨he, bel⟩ => ?_
  subst he
  refine ⟨_, rfl, _, _, _, [], [], [], hW', ?_, ?_, ?_, bel.frame _, fun h => by cases h⟩
  · exact trodAll_mk1 (shut_bool Tryd.underlying4 _)
  · exact (trodAll_cons_mk (shut_agg4 (y0 := (.lit (.int .i64 km), [])) (y1 := (.lit (.int .i64 am), [])) (y2 := (.lit (.int .i64 bm), [])) (y3 := (.lit (.string sm.data.toList), [])) Tryd.underlying33 (by kernel_rfl) (by kernel_rfl) ⟨1, by simp [DataW.trod, Tryd.underlying3, wkm]⟩ ⟨1, by simp [DataW.trod, Tryd.underlying3, wam]⟩ ⟨1, by simp [DataW.trod, Tryd.underlying3, wbm]⟩ ⟨1, by simp [DataW.trod, Tryd.underlying9, wsm]⟩) (trodAll_cons_mk (shut_agg4 (y0 := (.lit (.int .i64 kn), [])) (y1 := (.lit (.int .i64 an), [])) (y2 := (.lit (.int .i64 bn), [])) (y3 := (.lit (.string sn.data.toList), [])) Tryd.underlying33 (by kernel_rfl) (by kernel_rfl) ⟨1, by simp [DataW.trod, Tryd.underlying3, wkn]⟩ ⟨1, by simp [DataW.trod, Tryd.underlying3, wan]⟩ ⟨1, by simp [DataW.trod, Tryd.underlying3, wbn]⟩ ⟨1, by simp [DataW.trod, Tryd.underlying9, wsn]⟩) (trodAll_cons_mk (shut_agg4 (y0 := (.lit (.int .i64 ko), [])) (y1 := (.lit (.int .i64 ao), [])) (y2 := (.lit (.int .i64 bo), [])) (y3 := (.lit (.string so.data.toList), [])) Tryd.underlying33 (by kernel_rfl) (by kernel_rfl) ⟨1, by simp [DataW.trod, Tryd.underlying3, wko]⟩ ⟨1, by simp [DataW.trod, Tryd.underlying3, wao]⟩ ⟨1, by simp [DataW.trod, Tryd.underlying3, wbo]⟩ ⟨1, by simp [DataW.trod, Tryd.underlying9, wso]⟩) trodAll_mk0)))
  · rfl

theorem over : Rows.OrderChainSaid :=
  OpenClaim.holds_of_wide 8 Tryd.f8 rfl rfl rfl rfl rfl rfl rfl ⟨rfl, rfl, rfl, rfl, rfl⟩ rfl rfl rfl rfl rfl (by kernel_rfl) Tryd.func8 (by kernel_rfl)
    (of_decide_eq_true (by kernel_rfl)) (by unfold Func.isWrapper; first | (rw [if_pos (by decide +kernel)]; kernel_rfl) | (rw [if_neg (by decide +kernel)]; exact ⟨rfl, rfl⟩))
    (fun os started H enc _ => lifted os started H enc)

/-- ████ THE STATEMENT: THE TIED CARD ████ -/
theorem proved : Rows.OrderChainCardSaid :=
  Claim7.holds_tied_plain_at .later [] [.data, .pinned] true (true, Rows.orderChainCard.stood.harness.2) false over (fun _ h => by cases h) (by kernel_rfl) (fun _ h => by cases h) orderChain_row_tie rfl ⟨rfl, rfl⟩ (by kernel_rfl) rfl
    (fun f fn hf hfn => by
      obtain rfl : f = 8 := Option.some.inj ((show Tryd.prog.funcNamed Rows.orderChainRow.func = some 8 by kernel_rfl).symm.trans hf) |>.symm
      obtain rfl : fn = Tryd.f8 := (Option.some.inj (Tryd.func8.symm.trans hfn)).symm
      exact ⟨by kernel_rfl, fun j t ht => by
        rw [Tryd.params8] at ht
        have hm : t ∈ [33] := by simpa using Array.mem_of_getElem? ht
        have hall : ([33].all fun u => !Tryd.prog.wantsStandIn u) = true := by kernel_rfl
        exact (show Tryd.prog.wantsStandIn t = false by simpa using List.all_eq_true.1 hall t hm)⟩)
    (by kernel_rfl)
#print axioms proved
end Go.Proofs.YtnoloacfelnkbaaDoor.orderChain
