/-
  What the list says of package lex's signs.
  CONDITIONS: the theorem's own hypotheses.
-/
import Derived.Test.YtpneoaehkibdeaaDoorGLexC
import Derived.LaidMore
import Derived.Lib.LaidU8T
import Derived.Lib.LaidIn
namespace Go.Proofs.YtpneoaehkibdeaaDoor
open Go.RowKit Go.Lib
set_option linter.unusedVariables false
set_option maxRecDepth 100000

/-- An array of strings as a row lists it. -/
def strData {H : Type} (l : List (List UInt8)) : DataW H := .agg (l.map fun s => .lit (.string s))
theorem cells_of_strs {H : Type} {enc : TypeId × Value → H} {P : Program} {w : World} {base : Nat} {sp : Nat → Bool} {held : Bool} {fuel : Nat} {t e : TypeId} {n : Nat} {cs : List Value} {l : List (List UInt8)} {p : List MemPlace}
    (ht : P.underlying t = some (.array n e)) (he : P.underlying e = some .string) (hce : P.cellsOf e = 1) (hct : P.cellsOf t = n)
    (h : DataW.trod enc P w base sp held fuel t cs = some (strData l, p)) : cs = strsV l := by
  cases fuel with
  | zero => simp [DataW.trod] at h
  | succ fuel =>
    simp only [DataW.trod, ht, hce, hct, Nat.mul_one] at h
    split at h
    · rename_i hl
      obtain ⟨xs, hm, hx⟩ := Option.map_eq_some_iff.1 h
      have hxs : xs.map (·.1) = l.map fun z => (DataW.lit (.string z) : DataW H) := by
        have := congrArg Prod.fst hx
        simpa [strData] using this
      have hxl : xs.length = n := by simpa using mapM_length hm
      have hzl : l.length = n := by
        have := congrArg List.length hxs
        simp at this
        omega
      apply List.ext_getElem?
      intro i
      by_cases hi : i < n
      · obtain ⟨b, hb, hf⟩ := mapM_at hm i i (by simp [hi])
        obtain ⟨z, hc, rfl, _⟩ := DataW.trod_string he hf
        have h1 : cs[i]? = some (.string z) := by
          have := congrArg (·[0]?) hc
          simpa [List.getElem?_take, List.getElem?_drop] using this
        have h2 : (xs.map (·.1))[i]? = some (DataW.lit (.string z.data.toList) : DataW H) := by simp [hb]
        rw [hxs] at h2
        simp only [List.getElem?_map, Option.map_eq_some_iff, DataW.lit.injEq, Lit.string.injEq] at h2
        obtain ⟨z', hz', rfl⟩ := h2
        rw [h1, strsV_get hz']
        rw [← str_eq z]
      · rw [List.getElem?_eq_none (by omega), List.getElem?_eq_none (by simp [strsV]; omega)]
    · cases h
theorem sw_of_reads {W : World} (h : VarReads Tryd.prog W "chirograph/lex.signs" (strData signsL)) : SW W := by
  obtain ⟨g, t, cs, fuel, p, hg, hty, hvar, hd⟩ := h
  obtain rfl := Option.some.inj ((show Tryd.prog.globalNamed "chirograph/lex.signs" = some 0 by kernel_rfl).symm.trans hg)
  obtain rfl := Option.some.inj ((show (Tryd.prog.globals[0]?).map (·.type) = some 133 by kernel_rfl).symm.trans hty)
  have hcs := cells_of_strs (e := 9) (n := 16) rfl Tryd.underlying9 (by kernel_rfl) (by kernel_rfl) hd
  have hcell : ∀ i x, signsL[i]? = some x → W.cell? ⟨0, i, none⟩ = some (.string (str x)) := fun i x hx => by
    have := World.var?_cell hg hvar i
    rw [this, ← Array.getElem?_toList, hcs]
    exact strsV_get hx
  exact ⟨World.block_lt_of_cell? W ⟨0, 0, none⟩ (hcell 0 _ rfl), hcell⟩
end Go.Proofs.YtpneoaehkibdeaaDoor
