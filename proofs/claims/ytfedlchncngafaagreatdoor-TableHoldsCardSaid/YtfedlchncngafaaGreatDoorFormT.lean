/-
  What the list says of package expr's forms: how many parts each operation has.
  CONDITIONS: the theorem's own hypotheses.
-/
import Derived.Test.YtfedlchncngafaaGreatDoorExprE
import Derived.Test.YtfedlchncngafaaGreatDoorRows
import Derived.LaidMore
import Derived.Lib.LaidU8T
import Derived.Lib.LaidIn
namespace Go.Proofs.YtfedlchncngafaaGreatDoor
open Go.RowKit Go.Lib
set_option linter.unusedVariables false
set_option maxRecDepth 100000

theorem form_fields : ∃ (fs : Array Field) (f0 : Field), Tryz.prog.underlying 187 = some (.struct fs) ∧ fs[0]? = some f0 ∧ f0.type = 3 ∧ f0.offset = 0 := ⟨_, _, rfl, rfl, rfl, rfl⟩
theorem forms_cell {H : Type} {enc : TypeId × Value → H} {w : World} {base : Nat} {sp : Nat → Bool} {held : Bool} {fuel : Nat} {cs : List Value} {l : List (DataW H)} {p : List MemPlace}
    (h : DataW.trod enc Tryz.prog w base sp held fuel 188 cs = some (.agg l, p)) (i : Nat) (hi : i < 21) (z : Int) (rest : List (DataW H)) (hl : l[i]? = some (.agg (.lit (.int .i64 z) :: rest))) : cs[i * 5]? = some (.int .i64 z) := by
  have ht : Tryz.prog.underlying 188 = some (.array 21 187) := rfl
  have hce : Tryz.prog.cellsOf 187 = 5 := by kernel_rfl
  have hct : Tryz.prog.cellsOf 188 = 105 := by kernel_rfl
  have hci : Tryz.prog.cellsOf 3 = 1 := by kernel_rfl
  obtain ⟨fs, f0, hs, hf0, ht0, ho0⟩ := form_fields
  cases fuel with
  | zero => simp [DataW.trod] at h
  | succ fuel =>
    simp only [DataW.trod, ht, hce, hct] at h
    split at h
    · rename_i hlc
      obtain ⟨xs, hm, hx⟩ := Option.map_eq_some_iff.1 h
      have hxs : xs.map (·.1) = l := by
        have := congrArg Prod.fst hx
        simpa using this
      obtain ⟨b, hb, hf⟩ := mapM_at hm i i (by simp [hi])
      have hbl : b.1 = .agg (.lit (.int .i64 z) :: rest) := by
        have h2 : (xs.map (·.1))[i]? = some b.1 := by rw [List.getElem?_map, hb]; rfl
        rw [hxs, hl] at h2
        exact (Option.some.inj h2).symm
      obtain ⟨ys, n', _, hby, _, hyl, hg⟩ := DataW.trod_struct hs hf
      have g0 := hg 0 f0 hf0
      rw [ht0, ho0, hci] at g0
      have hy0 : ∃ y, ys[0]? = some y := by
        have : b.1 = .agg (ys.map (·.1)) := by rw [hby]
        rw [hbl] at this
        cases ys with
        | nil => simp at this
        | cons y ys => exact ⟨y, rfl⟩
      obtain ⟨y, hy⟩ := hy0
      rw [hy] at g0
      obtain ⟨k, e0, ey, _⟩ := DataW.trod_int Tryz.underlying3 g0
      have hyz : y.1 = .lit (.int .i64 z) := by
        have : b.1 = .agg (ys.map (·.1)) := by rw [hby]
        rw [hbl] at this
        cases ys with
        | nil => simp at hy
        | cons y' ys =>
          simp only [List.getElem?_cons_zero, Option.some.injEq] at hy
          subst hy
          simp only [List.map_cons, DataW.agg.injEq, List.cons.injEq] at this
          exact this.1.symm
      have hkz : k = z := by
        rw [ey] at hyz
        simpa using hyz
      have h3 := congrArg (·[0]?) e0
      simp only [List.drop_zero, List.getElem?_cons_zero, List.getElem?_take, List.getElem?_drop] at h3
      rw [← hkz]
      simpa using h3
    · cases h
theorem fw_of_reads {W : World} (h : VarReads Tryz.prog W "chirograph/expr.forms" (Rows.laid_chirograph_expr_forms : DataW Unit)) : FW W := by
  obtain ⟨g, t, cs, fuel, p, hg, hty, hvar, hd⟩ := h
  obtain rfl := Option.some.inj ((show Tryz.prog.globalNamed "chirograph/expr.forms" = some 0 by kernel_rfl).symm.trans hg)
  obtain rfl := Option.some.inj ((show (Tryz.prog.globals[0]?).map (·.type) = some 188 by kernel_rfl).symm.trans hty)
  have hcell : ∀ (o : Nat) (z : Int) (rest : List (DataW Unit)), o < 21 → (match (Rows.laid_chirograph_expr_forms : DataW Unit) with | .agg l => l | _ => [])[o]? = some (.agg (.lit (.int .i64 z) :: rest)) → W.cell? ⟨0, o * 5, none⟩ = some (.int .i64 z) := fun o z rest ho hl => by
    have := World.var?_cell hg hvar (o * 5)
    rw [this, ← Array.getElem?_toList]
    exact forms_cell hd o ho z rest hl
  refine ⟨World.block_lt_of_cell? W ⟨0, 0 * 5, none⟩ (hcell 0 0 _ (by decide) rfl), fun op h1 h2 => ?_⟩
  obtain ⟨o, rfl⟩ : ∃ o : Nat, op = (o : Int) := ⟨op.toNat, by omega⟩
  rw [Int.toNat_natCast]
  rcases (show o = 1 ∨ o = 2 ∨ o = 3 ∨ o = 4 ∨ o = 5 ∨ o = 6 ∨ o = 7 ∨ o = 8 ∨ o = 9 ∨ o = 10 ∨ o = 11 ∨ o = 12 ∨ o = 13 ∨ o = 14 ∨ o = 15 ∨ o = 16 ∨ o = 17 ∨ o = 18 ∨ o = 19 ∨ o = 20 by omega) with rfl | rfl | rfl | rfl | rfl | rfl | rfl | rfl | rfl | rfl | rfl | rfl | rfl | rfl | rfl | rfl | rfl | rfl | rfl | rfl <;> exact hcell _ _ _ (by decide) rfl
end Go.Proofs.YtfedlchncngafaaGreatDoor
