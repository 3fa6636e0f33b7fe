/-
  PROVED: the law 'TreeSpans': for every input the law returns true, and the input reads behind the call as it did.
  CONDITIONS: none.
-/
import Derived.Test.YtopgakdgifmecaaRows
import Derived.Test.YtopgakdgifmecaaLawTp
import Derived.Test.YtopgakdgifmecaaGOpen
import Derived.ProofKit
import Derived.OpenShut
import Derived.LaidMore
import Derived.Lay
import Derived.Carry
import Derived.Handed
import Derived.SizedLaws
import Derived.Stop.Joined
import Derived.Lib.SmallJoins
namespace Go.Proofs.Ytopgakdgifmecaa.treeSpans
open Go.ChangeShapes Go.WideShapes Go.ChangeAt Go.RowKit Go.Joins
open Go.ChangeMaps (open_string shut_string)
set_option linter.unusedVariables false

theorem own : ownKnob Try.prog.godebug = none := by kernel_rfl
theorem laidOut : laidOutB Try.prog = true := by kernel_rfl

set_option maxRecDepth 100000 in
set_option maxHeartbeats 4000000 in
theorem lifted (os : Os) (started : os.Started) (H : Type) (enc : TypeId × Value → H) :
    ReturnsInHanded {} Try.checked os 10 .any (Rows.treeSpansSpec.pre6 enc Try.prog Try.f10 Rows.treeSpansRow.domain false)
      (Rows.treeSpansSpec.post enc Try.prog Try.f10 false true false false) := by
  refine returnsInHanded_of_change_sized (C := Try.checked) own started (by kernel_rfl) Try.func10
    (ChangeSpec.witness6 (enc := enc) (C := Try.checked) false ⟨#[], #[.slice none 0 0, .agg #[.int .i64 0, .int .i64 0, .int .i64 0, .string ⟨#[]⟩], .agg #[.int .i64 0, .int .i64 0, .int .i64 0, .string ⟨#[]⟩]], []⟩ 8 (by kernel_rfl) (by kernel_rfl) (by kernel_rfl) (by kernel_rfl)) ?_
  intro W base args ds gs before hval0 hW hcnd hsz0 _
  have hval : ∀ (j : Nat) t v, Try.f10.params[j]? = some t → args[j]? = some v → Value.okWide Try.prog W .any base t v := hval0
  have hW' := hW
  obtain ⟨p, q, hA0, hV, rfl, _, _⟩ := hW
  have hA : DataW.TrodAll enc Try.prog W 0 (fun _ => true) true Try.f10.params.toList args.toList ds p := hA0
  rw [Try.params10] at hA hval
  obtain ⟨v0, vs0, d0, ds0, p0, q0, hargs, rfl, rfl, h0, r0⟩ := trodAll_cons hA
  obtain ⟨v1, vs1, d1, ds1, p1, q1, rfl, rfl, rfl, h1, r1⟩ := trodAll_cons r0
  obtain ⟨v2, vs2, d2, ds2, p2, q2, rfl, rfl, rfl, h2, r2⟩ := trodAll_cons r1
  obtain ⟨rfl, rfl, rfl⟩ := trodAll_nil r2
  obtain rfl : args = #[v0, v1, v2] := by cases args; simp_all
  obtain ⟨rfl, rfl⟩ := trodVars_none hV
  have k0 := h0
  obtain ⟨l, aol, capl, rfl, hcl, hml, hxl⟩ := open_raws (hval 0 43 v0 rfl rfl) h0
  have k1 := h1
  obtain ⟨cx0, cx1, cx2, cx3, yx0, yx1, yx2, yx3, mx, rfl, rfl, rfl, hyx0, hyx1, hyx2, hyx3⟩ := open_agg4 Try.underlying53 (by kernel_rfl) (by kernel_rfl) (hval 1 53 v1 rfl rfl) h1
  obtain ⟨kx, ex0, rfl, wkx⟩ := DataW.trod_int Try.underlying3 hyx0
  obtain ⟨ax, ex1, rfl, wax⟩ := DataW.trod_int Try.underlying3 hyx1
  obtain ⟨bx, ex2, rfl, wbx⟩ := DataW.trod_int Try.underlying3 hyx2
  obtain ⟨sx, ex3, rfl, wsx⟩ := DataW.trod_string Try.underlying9 hyx3
  simp at ex0 ex1 ex2 ex3
  subst ex0 ex1 ex2 ex3
  have k2 := h2
  obtain ⟨cz0, cz1, cz2, cz3, yz0, yz1, yz2, yz3, mz, rfl, rfl, rfl, hyz0, hyz1, hyz2, hyz3⟩ := open_agg4 Try.underlying53 (by kernel_rfl) (by kernel_rfl) (hval 2 53 v2 rfl rfl) h2
  obtain ⟨kz, ez0, rfl, wkz⟩ := DataW.trod_int Try.underlying3 hyz0
  obtain ⟨az, ez1, rfl, waz⟩ := DataW.trod_int Try.underlying3 hyz1
  obtain ⟨bz, ez2, rfl, wbz⟩ := DataW.trod_int Try.underlying3 hyz2
  obtain ⟨sz, ez3, rfl, wsz⟩ := DataW.trod_string Try.underlying9 hyz3
  simp at ez0 ez1 ez2 ez3
  subst ez0 ez1 ez2 ez3
  clear hA0 hval0
  simp only [List.append_nil] at hW'
  refine (treeSpans_walk l aol capl kx ax bx sx kz az bz sz W hcl hml hxl wkx wax wbx (by have := wsx; unfold maxLen at this; omega) wkz waz wbz (by have := wsz; unfold maxLen at this; omega)).mono fun e W' ⟨he, bel⟩ => ?_
  subst he
  refine ⟨_, rfl, _, _, _, [], (p0 ++ ([] ++ ([] ++ []))), [], hW', ?_, ?_, ?_, bel.frame _, fun h => by cases h⟩
  · exact trodAll_mk1 (shut_bool Try.underlying4 _)
  · exact (trodAll_cons_mk (Below.trod laidOut (by kernel_rfl) (of_decide_eq_true (by kernel_rfl)) k0 bel (fun x hx => hW'.lt x (by simp [hx]))) (trodAll_cons_mk (Below.trod laidOut (by kernel_rfl) (of_decide_eq_true (by kernel_rfl)) k1 bel (fun x hx => absurd hx (by simp))) (trodAll_cons_mk (Below.trod laidOut (by kernel_rfl) (of_decide_eq_true (by kernel_rfl)) k2 bel (fun x hx => absurd hx (by simp))) trodAll_mk0)))
  · rfl

theorem over : Rows.treeSpansRow.holds Try.pinned (OpenSpec.ofChange Rows.treeSpansSpec) :=
  OpenClaim.holds_of_wide 10 Try.f10 rfl rfl rfl rfl rfl rfl rfl ⟨rfl, rfl, rfl, rfl, rfl⟩ rfl rfl rfl rfl rfl (by kernel_rfl) Try.func10 (by kernel_rfl)
    (of_decide_eq_true (by kernel_rfl)) (by unfold Func.isWrapper; first | (rw [if_pos (by decide +kernel)]; kernel_rfl) | (rw [if_neg (by decide +kernel)]; exact ⟨rfl, rfl⟩))
    (fun os started H enc _ => lifted os started H enc)

/-- ████ THE STATEMENT ████ -/
theorem proved : Rows.TreeSpansSaid :=
  over
#print axioms proved
end Go.Proofs.Ytopgakdgifmecaa.treeSpans
