/-
  WHAT STANDS WHILE A NODE IS MADE: its entries, then its kids.
  CONDITIONS: each theorem's own hypotheses.
-/
import Derived.Test.YtopgakdgifmecaaTRows
namespace Go.Proofs.Ytopgakdgifmecaa
open Go.RowKit
set_option linter.unusedVariables false
set_option maxRecDepth 100000

theorem OwnE.set {w : World} {g j : Nat} {v u : Value} {l : List En} (h : OwnE w (g + 1) v l) : OwnE (w.setCell ⟨g, j, none⟩ u) (g + 1) v l :=
  owns_same h (fun b e => heap_setCell_other w ⟨g, j, none⟩ b u (by have := (h.lt b e).1; show b ≠ g; omega))
theorem OwnK.set {w : World} {g j : Nat} {v u : Value} {l : List Nat} (h : OwnK w (g + 1) v l) : OwnK (w.setCell ⟨g, j, none⟩ u) (g + 1) v l :=
  owns_same h (fun b e => heap_setCell_other w ⟨g, j, none⟩ b u (by have := (h.lt b e).1; show b ≠ g; omega))
/-- A node that is being made. -/
structure ESt (w W : World) (g : Nat) (vE vK : Value) : Prop where
  low : Below g w W
  size : g + 1 ≤ W.heap.size
  node : Blk W g 83 [vE, vK]
theorem ESt.below {w W W' : World} {g : Nat} {vE vK : Value} (h : ESt w W g vE vK) (hb : Below W.heap.size W W') : ESt w W' g vE vK :=
  ⟨below_stepE h.low (Nat.le_trans (Nat.le_succ _) h.size) hb, Nat.le_trans h.size hb.size, h.node.call hb⟩
theorem ESt.grown {w W W' : World} {g : Nat} {vE vK : Value} (h : ESt w W g vE vK) {row : Option Nat} (hg : W.grownBy W' row) (hr : ∀ b, row = some b → g + 1 ≤ b) : ESt w W' g vE vK :=
  ⟨h.low.grown hg (Nat.le_trans (Nat.le_succ _) h.size) (fun b hb => Nat.le_trans (Nat.le_succ _) (hr b hb)), Nat.le_trans h.size hg.size, h.node.same (hg.block g h.size (fun e => by have := hr g e.symm; omega))⟩
theorem ESt.setE {w W : World} {g : Nat} {vE vK : Value} (h : ESt w W g vE vK) (v : Value) : ESt w (W.setCell ⟨g, 0, none⟩ v) g v vK :=
  ⟨h.low.setCell (p := ⟨g, 0, none⟩) (Nat.le_refl _) v, by simpa [World.setCell] using h.size, h.node.set 0 v⟩
theorem ESt.setK {w W : World} {g : Nat} {vE vK : Value} (h : ESt w W g vE vK) (v : Value) : ESt w (W.setCell ⟨g, 1, none⟩ v) g vE v :=
  ⟨h.low.setCell (p := ⟨g, 1, none⟩) (Nat.le_refl _) v, by simpa [World.setCell] using h.size, h.node.set 1 v⟩
/-- A node whose entries stand and that has some of its kids. -/
structure KSt (w W : World) (g : Nat) (vE vK : Value) (es : List En) (ts : List Tr) (ps Fk : List Nat) : Prop where
  e : ESt w W g vE vK
  rowE : OwnE W (g + 1) vE es
  kids : NdL W ts ps Fk
  nd : (vE.ownBlock.toList ++ Fk).Nodup
  fr : ∀ b ∈ Fk, g + 1 ≤ b ∧ b < W.heap.size
  apart : ∀ b, vK.ownBlock = some b → b ∉ vE.ownBlock.toList ++ Fk
theorem KSt.start {w W : World} {g : Nat} {vE : Value} {es : List En} (h : ESt w W g vE (.slice none 0 0)) (hE : OwnE W (g + 1) vE es) : KSt w W g vE (.slice none 0 0) es [] [] [] :=
  ⟨h, hE, NdL.nil W, by cases vE.ownBlock <;> simp, fun b hb => by simp at hb, fun b hb => by cases hb⟩
theorem KSt.below {w W W' : World} {g : Nat} {vE vK : Value} {es : List En} {ts : List Tr} {ps Fk : List Nat} (h : KSt w W g vE vK es ts ps Fk) (hb : Below W.heap.size W W') : KSt w W' g vE vK es ts ps Fk :=
  ⟨h.e.below hb, h.rowE.keep hb, h.kids.same (fun b hF => hb.block b (h.fr b hF).2), h.nd, fun b hF => ⟨(h.fr b hF).1, Nat.lt_of_lt_of_le (h.fr b hF).2 hb.size⟩, h.apart⟩
theorem KSt.grown {w W W' : World} {g : Nat} {vE vK : Value} {es : List En} {ts : List Tr} {ps Fk qs : List Nat} (h : KSt w W g vE vK es ts ps Fk) (hK : OwnK W (g + 1) vK qs) (hg : W.grownBy W' vK.ownBlock) : KSt w W' g vE vK es ts ps Fk :=
  ⟨h.e.grown hg (fun b hb => (hK.lt b hb).1), owns_same h.rowE (fun b hb => hg.block b (h.rowE.lt b hb).2 (fun e => h.apart b e.symm (by simp [hb]))), h.kids.same (fun b hF => hg.block b (h.fr b hF).2 (fun e => h.apart b e.symm (by simp [hF]))), h.nd, fun b hF => ⟨(h.fr b hF).1, Nat.lt_of_lt_of_le (h.fr b hF).2 hg.size⟩, h.apart⟩
/-- Blocks that lie apart from others. -/
def Fresh (n g : Nat) (A G : List Nat) (vK : Value) : Prop := G.Nodup ∧ ∀ b ∈ G, g + 1 ≤ b ∧ b < n ∧ b ∉ A ∧ vK.ownBlock ≠ some b
theorem Fresh.mono {n m g : Nat} {A G : List Nat} {vK : Value} (h : Fresh n g A G vK) (hm : n ≤ m) : Fresh m g A G vK := ⟨h.1, fun b hb => ⟨(h.2 b hb).1, Nat.lt_of_lt_of_le (h.2 b hb).2.1 hm, (h.2 b hb).2.2⟩⟩
theorem Fresh.below {w w' : World} {g k : Nat} {A G : List Nat} {vK : Value} {t : Tr} (h : Fresh w.heap.size g A G vK) (ht : NdT w t k G) (hb : Below w.heap.size w w') : NdT w' t k G ∧ Fresh w'.heap.size g A G vK := ⟨ht.same (fun b hG => hb.block b (h.2 b hG).2.1), h.mono hb.size⟩
theorem Fresh.grown {w w' : World} {g k : Nat} {A G : List Nat} {vK : Value} {t : Tr} (h : Fresh w.heap.size g A G vK) (ht : NdT w t k G) (hg : w.grownBy w' vK.ownBlock) : NdT w' t k G ∧ Fresh w'.heap.size g A G vK := ⟨ht.same (fun b hG => hg.block b (h.2 b hG).2.1 (fun e => (h.2 b hG).2.2.2 e.symm)), h.mono hg.size⟩
/-- The new kid stands in the row v. -/
def Put1 (W : World) (g : Nat) (A : List Nat) (v : Value) (ps : List Nat) (t : Tr) : Prop := ∃ (k : Nat) (G : List Nat), OwnK W (g + 1) v (ps ++ [k]) ∧ NdT W t k G ∧ G.Nodup ∧ (∀ b ∈ G, g + 1 ≤ b ∧ b < W.heap.size ∧ b ∉ A) ∧ ∀ b, v.ownBlock = some b → b ∉ A ++ G
theorem Put1.below {W W' : World} {g : Nat} {A : List Nat} {v : Value} {ps : List Nat} {t : Tr} (h : Put1 W g A v ps t) (hb : Below W.heap.size W W') : Put1 W' g A v ps t := by
  obtain ⟨k, G, h1, h2, h3, h4, h5⟩ := h
  exact ⟨k, G, h1.keep hb, h2.same (fun b hG => hb.block b (h4 b hG).2.1), h3, fun b hG => ⟨(h4 b hG).1, Nat.lt_of_lt_of_le (h4 b hG).2.1 hb.size, (h4 b hG).2.2⟩, h5⟩
theorem Put1.of {w W W' : World} {g k : Nat} {vE vK v' : Value} {es : List En} {ts : List Tr} {ps Fk G : List Nat} {t : Tr} (h : KSt w W g vE vK es ts ps Fk) (hf : Fresh W.heap.size g (vE.ownBlock.toList ++ Fk) G vK) (ht : NdT W t k G) (ho : OwnK W' (g + 1) v' (ps ++ [k])) (hg : W.grownBy W' vK.ownBlock) (hw : v'.ownBlock = vK.ownBlock ∨ v'.ownBlock = some W.heap.size) : Put1 W' g (vE.ownBlock.toList ++ Fk) v' ps t := by
  obtain ⟨h1, h2⟩ := hf.grown ht hg
  refine ⟨k, G, ho, h1, h2.1, fun b hb => ⟨(h2.2 b hb).1, (h2.2 b hb).2.1, (h2.2 b hb).2.2.1⟩, fun b hb hm => ?_⟩
  rcases hw with hw | hw
  · rw [hw] at hb
    rcases List.mem_append.1 hm with hm | hm
    · exact h.apart b hb hm
    · exact (hf.2 b hm).2.2.2 hb
  · rw [hw] at hb
    obtain rfl := Option.some.inj hb
    rcases List.mem_append.1 hm with hm | hm
    · rcases List.mem_append.1 hm with hm | hm
      · have := (h.rowE.lt _ (Option.mem_toList.1 hm)).2; omega
      · have := (h.fr _ hm).2; omega
    · have := (hf.2 _ hm).2.1; omega
/-- The row with the new kid stands in the node. -/
theorem KSt.add {w W : World} {g : Nat} {vE vK v : Value} {es : List En} {ts : List Tr} {ps Fk : List Nat} {t : Tr} (h : KSt w W g vE vK es ts ps Fk) (hp : Put1 W g (vE.ownBlock.toList ++ Fk) v ps t) : ∃ qs Fk', KSt w (W.setCell ⟨g, 1, none⟩ v) g vE v es (ts ++ [t]) qs Fk' ∧ OwnK (W.setCell ⟨g, 1, none⟩ v) (g + 1) v qs := by
  obtain ⟨k, G, h1, h2, h3, h4, h5⟩ := hp
  have hsz : (W.setCell ⟨g, 1, none⟩ v).heap.size = W.heap.size := by simp [World.setCell]
  have ho : ∀ b, g + 1 ≤ b → (W.setCell ⟨g, 1, none⟩ v).heap[b]? = W.heap[b]? := fun b hb => heap_setCell_other W ⟨g, 1, none⟩ b v (by show b ≠ g; omega)
  refine ⟨ps ++ [k], Fk ++ G, ⟨h.e.setK v, h.rowE.set, NdL.snoc (h.kids.same (fun b hb => ho b (h.fr b hb).1)) (h2.same (fun b hb => ho b (h4 b hb).1)), ?_, fun b hb => ?_, fun b hb => ?_⟩, h1.set⟩
  · rw [← List.append_assoc]
    exact List.nodup_append.2 ⟨h.nd, h3, fun a ha b hb e => (h4 b hb).2.2 (e ▸ ha)⟩
  · rw [hsz]
    rcases List.mem_append.1 hb with hb | hb
    · exact h.fr b hb
    · exact ⟨(h4 b hb).1, (h4 b hb).2.1⟩
  · rw [← List.append_assoc]; exact h5 b hb
theorem nodup_ins (A B : List Nat) (o : Option Nat) (h : (A ++ B).Nodup) (ho : ∀ b, o = some b → b ∉ A ++ B) : (A ++ (o.toList ++ B)).Nodup := by
  cases o with
  | none => exact h
  | some b => exact (List.perm_middle (a := b) (l₁ := A) (l₂ := B)).nodup_iff.2 (List.nodup_cons.2 ⟨ho b rfl, h⟩)
/-- What a node's making leaves. -/
structure BrOk (w w' : World) (t : Tr) (p : Nat) (F : List Nat) : Prop where
  nd : NdT w' t p F
  nodup : F.Nodup
  fr : ∀ b ∈ F, w.heap.size ≤ b ∧ b < w'.heap.size
  low : Below w.heap.size w w'
theorem KSt.done {w W : World} {g : Nat} {vE vK : Value} {es : List En} {ts : List Tr} {ps Fk : List Nat} (h : KSt w W g vE vK es ts ps Fk) (hgw : w.heap.size = g) (hK : OwnK W (g + 1) vK ps) : ∃ F, BrOk w W (.mk es ts) g F := by
  subst hgw
  have hin : ∀ b ∈ vE.ownBlock.toList ++ (vK.ownBlock.toList ++ Fk), w.heap.size + 1 ≤ b ∧ b < W.heap.size := fun b hb => by
    rcases List.mem_append.1 hb with hb | hb
    · exact h.rowE.lt b (Option.mem_toList.1 hb)
    · rcases List.mem_append.1 hb with hb | hb
      · exact hK.lt b (Option.mem_toList.1 hb)
      · exact h.fr b hb
  refine ⟨w.heap.size :: (vE.ownBlock.toList ++ (vK.ownBlock.toList ++ Fk)), ?_, List.nodup_cons.2 ⟨fun hm => by have := (hin _ hm).1; omega, nodup_ins _ _ _ h.nd h.apart⟩, fun b hb => ?_, h.e.low⟩
  · simp only [NdT]
    exact ⟨vE, vK, ps, Fk, h.e.node, owns_base h.rowE (Nat.zero_le _), owns_base hK (Nat.zero_le _), h.kids, rfl⟩
  · rcases List.mem_cons.1 hb with rfl | hb
    · exact ⟨Nat.le_refl _, h.e.size⟩
    · exact ⟨Nat.le_trans (Nat.le_succ _) (hin b hb).1, (hin b hb).2⟩
end Go.Proofs.Ytopgakdgifmecaa
