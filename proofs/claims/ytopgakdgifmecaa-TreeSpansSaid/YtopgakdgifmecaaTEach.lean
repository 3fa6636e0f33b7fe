/-
  CONTRACTS of package tree's each, with the visitor of rising.
  CONDITIONS: each theorem's own hypotheses.
-/
import Derived.Test.YtopgakdgifmecaaTDepth
namespace Go.Proofs.Ytopgakdgifmecaa
open Go.RowKit
set_option linter.unusedVariables false
set_option maxRecDepth 100000

def keysV (l : List (List UInt8)) : List Value := l.map (fun s => .string (str s))
theorem infoSt : (Try.prog.info? 9).map (fun i => (i.zero, i.size, i.bytes)) = some (some (.string ⟨#[]⟩), 1, 16) := by kernel_rfl
/-- A row of keys of the call's own. -/
def OwnSt (w : World) (base : Nat) (v : Value) (l : List (List UInt8)) : Prop := w.ownsRow base 9 1 v l.length (keysV l)
theorem OwnSt.nil (w : World) (base : Nat) : OwnSt w base (.slice none 0 0) [] := World.ownsRow_nil _ _ _ _
theorem OwnSt.keep {w w1 : World} {base : Nat} {v : Value} {l : List (List UInt8)} (h : OwnSt w base v l) (hb : Below w.heap.size w w1) : OwnSt w1 base v l := owns_same h (fun b e => hb.block b (h.lt b e).2)
theorem OwnSt.set {w : World} {g j : Nat} {v u : Value} {l : List (List UInt8)} (h : OwnSt w (g + 1) v l) : OwnSt (w.setCell ⟨g, j, none⟩ u) (g + 1) v l :=
  owns_same h (fun b e => heap_setCell_other w ⟨g, j, none⟩ b u (by have := (h.lt b e).1; show b ≠ g; omega))
theorem wpList_append_key {ops : Array Oper} {rest : List Oper} {o : Oper} {a : Act} {Q : Exit → Act → World → Prop} {w : World} (hgd : o.guard = none) (s x : Operand)
    (ho : o.op = .call { callee := .builtin .append, args := #[s, x], argTypes := #[48, 48] }) (base : Nat) (v : Value) (l : List (List UInt8)) (hs : a.eval s = v) (hown : OwnSt w base v l)
    (y : List UInt8) (g : Nat) (hx : a.eval x = .slice (some ⟨g, 0, none⟩) 1 1) (h2 : Blk w g 9 [.string (str y)]) (hl : l.length ≤ 1000) (hb : base ≤ w.heap.size)
    (h : ∀ v' w', OwnSt w' base v' (l ++ [y]) → w.grownBy w' v.ownBlock → (v'.ownBlock = v.ownBlock ∨ v'.ownBlock = some w.heap.size) → wpList Try.prog ops Q rest (a.put o.dst v') w') : wpList Try.prog ops Q (o :: rest) a w := by
  obtain ⟨i0, hi, hz0, hz1, hz2⟩ := info_parts infoSt
  obtain ⟨v', w', hr, r1, r2, _, r5⟩ := run_append_own_at (P := Try.prog) w base 48 o.type 9 i0 _ 1 16 Try.underlying48 hi hz0 hz1 hz2 rfl (by decide) v l.length (keysV l) hown ⟨g, 0, none⟩ 1 1 [.string (str y)] rfl (fun j u hj => by
    rw [addr_addT, Nat.zero_add]
    exact h2.cell hj) (fun u hu => by
    rw [List.mem_singleton] at hu
    subst hu; rfl) (by unfold maxLen; omega) (by omega) hb
  refine wpList_plain hgd fun K hK => ?_
  unfold Oper.wp execOp
  simp only [ho, resolve, invoke, builtin, Sem.run_bind, Sem.run_pure, Result.andThen_ok, List.map_toArray, List.map_cons, List.map_nil, hs, hx, hr]
  refine hK _ _ (h v' w' ?_ r2 r5)
  unfold OwnSt keysV
  rw [List.map_append, List.length_append]
  exact r1
/-- The keys that were visited so far stand in the variable g. -/
structure KeySt (w0 W : World) (g : Nat) (acc : List (List UInt8)) : Prop where
  low : Below g w0 W
  size : g + 1 ≤ W.heap.size
  row : ∃ v, Blk W g 48 [v] ∧ OwnSt W (g + 1) v acc
theorem KeySt.below {w0 W W' : World} {g : Nat} {acc : List (List UInt8)} (h : KeySt w0 W g acc) (hb : Below W.heap.size W W') : KeySt w0 W' g acc := by
  obtain ⟨v, h1, h2⟩ := h.row
  exact ⟨below_stepE h.low (Nat.le_trans (Nat.le_succ _) h.size) hb, Nat.le_trans h.size hb.size, v, h1.call hb, h2.keep hb⟩
/-- Nothing moves but the variable g and the row that it holds. -/
def Mov (g : Nat) (W W' : World) : Prop := W.heap.size ≤ W'.heap.size ∧ ∀ b, b < W.heap.size → b ≠ g → (∀ v, W.cell? ⟨g, 0, none⟩ = some v → v.ownBlock ≠ some b) → W'.heap[b]? = W.heap[b]? ∧ ∀ v, W'.cell? ⟨g, 0, none⟩ = some v → v.ownBlock ≠ some b
theorem Mov.trans {g : Nat} {W W1 W2 : World} (h : Mov g W W1) (k : Mov g W1 W2) : Mov g W W2 := ⟨Nat.le_trans h.1 k.1, fun b hb hg hv => by
  obtain ⟨h1, h2⟩ := h.2 b hb hg hv
  obtain ⟨k1, k2⟩ := k.2 b (Nat.lt_of_lt_of_le hb h.1) hg h2
  exact ⟨k1.trans h1, k2⟩⟩
theorem Mov.below {g : Nat} {W W1 : World} (hb : Below W.heap.size W W1) (hg : g < W.heap.size) : Mov g W W1 := ⟨hb.size, fun b h1 _ hv => ⟨hb.block b h1, fun v hc => hv v (by rw [hb.cell (p := ⟨g, 0, none⟩) hg] at hc; exact hc)⟩⟩
theorem Mov.blk {g b : Nat} {W W1 : World} {T : TypeId} {cs : List Value} (h : Mov g W W1) (hB : Blk W b T cs) (hg : b ≠ g) (hv : ∀ v, W.cell? ⟨g, 0, none⟩ = some v → v.ownBlock ≠ some b) : Blk W1 b T cs := hB.same (h.2 b hB.lt hg hv).1
theorem mov_visit {g : Nat} {W W2 w' : World} {v v' : Value} {T : TypeId} (h1 : Blk W g T [v]) (hb : Below W.heap.size W W2) (hg : W2.grownBy w' v.ownBlock) (hw : v'.ownBlock = v.ownBlock ∨ v'.ownBlock = some W2.heap.size) (h2 : Blk (w'.setCell ⟨g, 0, none⟩ v') g T [v']) : Mov g W (w'.setCell ⟨g, 0, none⟩ v') := by
  refine ⟨by have := hb.size; have := hg.size; simp [World.setCell]; omega, fun b hlt hne hv => ⟨?_, fun u hu => ?_⟩⟩
  · have hvb := hv v (h1.cell (j := 0) rfl)
    rw [heap_setCell_other w' ⟨g, 0, none⟩ b v' hne, hg.block b (Nat.lt_of_lt_of_le hlt hb.size) (fun e => hvb e.symm), hb.block b hlt]
  · rw [h2.cell (j := 0) rfl] at hu
    obtain rfl := Option.some.inj hu
    rcases hw with hw | hw
    · rw [hw]; exact hv v (h1.cell (j := 0) rfl)
    · rw [hw]
      intro e
      have := Option.some.inj e
      have := hb.size
      omega
set_option maxHeartbeats 4000000 in
theorem visit_any (w0 W : World) (g : Nat) (acc : List (List UInt8)) (e : En) (h : KeySt w0 W g acc) (hl : acc.length ≤ 1000) :
    Calls Try.prog 56 #[.agg #[.string (str e.1), .int .i64 e.2], .pointer (some ⟨g, 0, none⟩)] W fun x w' => x = .returned (.tuple #[]) ∧ KeySt w0 w' g (acc ++ [e.1]) ∧ Mov g W w' := by
  obtain ⟨key, x⟩ := e
  simp only
  obtain ⟨v, h1, h2⟩ := h.row
  have hlow := h.low
  have hsz := h.size
  have hba := (Below.refl W.heap.size W).alloc (Nat.le_refl _) (.cells #[.string (str key), .int .i64 x] 73)
  have hba2 := (Below.refl (W.alloc (.cells #[.string (str key), .int .i64 x] 73)).heap.size _).alloc (Nat.le_refl _) (.cells #[.string (str key)] 9)
  have b1 := Blk.new W #[.string (str key), .int .i64 x] 73
  have b2 := Blk.new (W.alloc (.cells #[.string (str key), .int .i64 x] 73)) #[.string (str key)] 9
  have n1 : (W.alloc (.cells #[.string (str key), .int .i64 x] 73)).heap.size = W.heap.size + 1 := by simp
  have hS2 := (h.below hba).below hba2
  have r1 := h1.call hba
  have o2 := (h2.keep hba).keep hba2
  have r2 := r1.call hba2
  generalize hW1 : W.alloc (.cells #[.string (str key), .int .i64 x] 73) = W1 at *
  generalize hW2 : W1.alloc (.cells #[.string (str key)] 9) = W2 at *
  have low2 := hS2.low
  have size2 := hS2.size
  have H1 := Lib.hid h1
  have HBL := Lib.hid (below_stepE hba (Below.size hba) hba2)
  have HW1 := Lib.hid hW1
  have HW2 := Lib.hid hW2
  have p0 := r1.cell (j := 0) rfl
  have p1 := b1.cell (j := 0) rfl
  have HL2 := Lib.hid low2
  have HB2 : Hid (Blk W2 (W.heap.size + 1) 9 [.string (str key)]) := Lib.hid (by rw [← n1]; exact b2)
  have HO2 := Lib.hid o2
  have HR2 := Lib.hid r2
  have hgr : ∀ b, v.ownBlock = some b → g + 1 ≤ b := fun b hb => (h2.lt b hb).1
  have HGR := Lib.hid hgr
  clear h h1 h2 hlow hsz hba hba2 hS2 r1 o2 r2 b1 b2 low2 hgr hW1 hW2
  go_enter Try.func56, Try.ntmps56
  go_upto_region 1 with fail
  rw [HW1.out]
  go_wp2_with (first | (at_builtin; rw [HW2.out]; refine wpList_append_key rfl (.tmp 3) (.tmp 6) rfl (g + 1) v acc rfl HO2.out key _ rfl HB2.out hl size2 ?_; intro v' w' ho hg hwh; have hr3 := HR2.out.same (hg.block g size2 (fun e => by have := HGR.out g e.symm; omega)); have fr := hr3.free 0; have cr := hr3.cell (j := 0) rfl; have hend : Hid (KeySt w0 (w'.setCell ⟨g, 0, none⟩ v') g (acc ++ [key])) := Lib.hid ⟨(HL2.out.grown hg (Nat.le_trans (Nat.le_succ _) size2) (fun b hb => Nat.le_trans (Nat.le_succ _) (HGR.out b hb))).setCell (p := ⟨g, 0, none⟩) (Nat.le_refl _) v', by simpa [World.setCell] using Nat.le_trans size2 hg.size, v', hr3.set 0 v', ho.set⟩; have hmv : Hid (Mov g W (w'.setCell ⟨g, 0, none⟩ v')) := Lib.hid (mov_visit H1.out HBL.out hg hwh (hr3.set 0 v')); obtain ⟨av, cv, ev, -⟩ := owns_shape ho; subst ev; generalize (acc ++ [key]).length = ll at *) | fail)
  go_end0
  exact ⟨rfl, hend.out, hmv.out⟩
end Go.Proofs.Ytopgakdgifmecaa
