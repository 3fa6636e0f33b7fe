/-
  ROWS OF ENTRIES AND OF KIDS; TREES OF NODES IN MEMORY, each with the blocks it takes.
  CONDITIONS: each theorem's own hypotheses.
-/
import Derived.Test.YtopgakdgifmecaaTNodes
import Derived.Test.YtopgakdgifmecaaGRegE
import Derived.Maps.AppendAt
import Derived.OwnWalk
namespace Go.Proofs.Ytopgakdgifmecaa
open Go.RowKit
set_option linter.unusedVariables false
set_option maxRecDepth 100000

def cellsE1 (e : En) : List Value := [.string (str e.1), .int .i64 e.2]
def cellsE (l : List En) : List Value := l.flatMap cellsE1
theorem cellsE_length : ∀ l : List En, (cellsE l).length = l.length * 2
  | [] => rfl
  | e :: l => by
    have := cellsE_length l
    simp only [cellsE, List.flatMap_cons, List.length_append, List.length_cons] at this ⊢
    rw [this]; show 2 + _ = _; omega
theorem cellsE_append (l m : List En) : cellsE (l ++ m) = cellsE l ++ cellsE m := by simp [cellsE]
theorem cellsE_at : ∀ (l : List En) (j q : Nat) (e : En), l[j]? = some e → q < 2 → (cellsE l)[j * 2 + q]? = (cellsE1 e)[q]?
  | [], _, _, _, h, _ => by simp at h
  | x :: l, 0, q, e, h, hq => by
    simp only [List.getElem?_cons_zero, Option.some.injEq] at h
    subst h
    show (cellsE1 x ++ cellsE l)[0 * 2 + q]? = _
    rw [Nat.zero_mul, Nat.zero_add, List.getElem?_append_left (by show q < 2; exact hq)]
  | x :: l, j + 1, q, e, h, hq => by
    show (cellsE1 x ++ cellsE l)[(j + 1) * 2 + q]? = _
    have hx : (cellsE1 x).length = 2 := rfl
    rw [List.getElem?_append_right (by rw [hx]; omega), hx, show (j + 1) * 2 + q - 2 = j * 2 + q by omega]
    exact cellsE_at l j q e (by simpa using h) hq
theorem addr_addT (b o j : Nat) : (⟨b, o, none⟩ : Addr).add j = ⟨b, o + j, none⟩ := by unfold Addr.add; split <;> simp_all
theorem infoEn : (Try.prog.info? 73).map (fun i => (i.zero, i.size, i.bytes)) = some (some (.agg #[.string ⟨#[]⟩, .int .i64 0]), 2, 24) := by kernel_rfl
theorem infoKid : (Try.prog.info? 61).map (fun i => (i.zero, i.size, i.bytes)) = some (some (.pointer none), 1, 8) := by kernel_rfl
/-- A row of entries of the call's own. -/
def OwnE (w : World) (base : Nat) (v : Value) (l : List En) : Prop := w.ownsRow base 73 2 v l.length (cellsE l)
abbrev ptrV (p : Nat) : Value := .pointer (some ⟨p, 0, none⟩)
/-- A row of pointers to nodes. -/
def OwnK (w : World) (base : Nat) (v : Value) (ps : List Nat) : Prop := w.ownsRow base 61 1 v ps.length (ps.map ptrV)
theorem OwnE.nil (w : World) (base : Nat) : OwnE w base (.slice none 0 0) [] := World.ownsRow_nil _ _ _ _
theorem OwnK.nil (w : World) (base : Nat) : OwnK w base (.slice none 0 0) [] := World.ownsRow_nil _ _ _ _
theorem owns_same {w w1 : World} {base n k : Nat} {e : TypeId} {v : Value} {xs : List Value} (h : w.ownsRow base e k v n xs) (hb : ∀ b, v.ownBlock = some b → w1.heap[b]? = w.heap[b]?) : w1.ownsRow base e k v n xs := by
  refine ⟨h.1, ?_⟩
  rcases h.2 with h | ⟨g, cap, cur, rfl, q1, q2, q3⟩
  · exact .inl h
  · exact .inr ⟨g, cap, cur, rfl, q1, (hb g rfl).trans q2, q3⟩
theorem owns_base {w : World} {base b n k : Nat} {e : TypeId} {v : Value} {xs : List Value} (h : w.ownsRow base e k v n xs) (hb : b ≤ base) : w.ownsRow b e k v n xs := by
  refine ⟨h.1, ?_⟩
  rcases h.2 with h | ⟨g, cap, cur, rfl, q1, q2, q3⟩
  · exact .inl h
  · exact .inr ⟨g, cap, cur, rfl, Nat.le_trans hb q1, q2, q3⟩
theorem owns_shape {w : World} {base n k : Nat} {e : TypeId} {v : Value} {xs : List Value} (h : w.ownsRow base e k v n xs) : ∃ ao cap, v = .slice ao n cap ∧ n ≤ cap ∧ cap ≤ 9223372036854775807 ∧ (ao = none → n = 0) ∧ ∀ a, ao = some a → ∃ b, a = ⟨b, 0, none⟩ := by
  rcases h.2 with ⟨rfl, hz⟩ | ⟨g, cap, cur, rfl, _, _, h1, h2, _⟩
  · exact ⟨none, 0, by rw [hz], by omega, by decide, fun _ => hz, fun a h => by cases h⟩
  · exact ⟨_, cap, rfl, h1, h2, (fun h => by cases h), fun a h => by cases h; exact ⟨g, rfl⟩⟩
theorem OwnE.keep {w w1 : World} {base : Nat} {v : Value} {l : List En} (h : OwnE w base v l) (hb : Below w.heap.size w w1) : OwnE w1 base v l := owns_same h (fun b e => hb.block b (h.lt b e).2)
theorem OwnK.keep {w w1 : World} {base : Nat} {v : Value} {l : List Nat} (h : OwnK w base v l) (hb : Below w.heap.size w w1) : OwnK w1 base v l := owns_same h (fun b e => hb.block b (h.lt b e).2)
theorem OwnE.cell {w : World} {base : Nat} {ao : Option Addr} {n cap : Nat} {l : List En} (h : OwnE w base (.slice ao n cap) l) {j : Nat} {e : En} (hj : l[j]? = some e) : ∃ b, ao = some ⟨b, 0, none⟩ ∧ b < w.heap.size ∧ base ≤ b ∧ w.cell? ⟨b, j * 2, none⟩ = some (.string (str e.1)) ∧ w.cell? ⟨b, j * 2 + 1, none⟩ = some (.int .i64 e.2) := by
  rcases h.2 with ⟨_, hz⟩ | ⟨g, cp, cur, hv, hB, hh, _⟩
  · rw [List.eq_nil_of_length_eq_zero hz] at hj; simp at hj
  · simp only [Value.slice.injEq] at hv
    obtain ⟨rfl, _, rfl⟩ := hv
    have c : ∀ q u, q < 2 → (cellsE1 e)[q]? = some u → w.cell? ⟨g, j * 2 + q, none⟩ = some u := fun q u hq hu => by
      have := World.ownsRow.cells h (g := g) rfl (j * 2 + q) u (by rw [cellsE_at l j q e hj hq]; exact hu)
      rw [addr_addT, Nat.zero_add] at this
      exact this
    exact ⟨g, rfl, (h.lt g rfl).2, hB, c 0 _ (by decide) rfl, c 1 _ (by decide) rfl⟩
theorem OwnK.cell {w : World} {base : Nat} {ao : Option Addr} {n cap : Nat} {l : List Nat} (h : OwnK w base (.slice ao n cap) l) {j p : Nat} (hj : l[j]? = some p) : ∃ b, ao = some ⟨b, 0, none⟩ ∧ b < w.heap.size ∧ base ≤ b ∧ w.cell? ⟨b, j, none⟩ = some (ptrV p) := by
  rcases h.2 with ⟨_, hz⟩ | ⟨g, cp, cur, hv, hB, hh, _⟩
  · rw [List.eq_nil_of_length_eq_zero hz] at hj; simp at hj
  · simp only [Value.slice.injEq] at hv
    obtain ⟨rfl, _, rfl⟩ := hv
    have := World.ownsRow.cells h (g := g) rfl j (ptrV p) (by rw [List.getElem?_map, hj]; rfl)
    rw [addr_addT, Nat.zero_add] at this
    exact ⟨g, rfl, (h.lt g rfl).2, hB, this⟩
/-- append of one entry. -/
theorem wp_append_e {o : Oper} {a : Act} {K : Act → World → Prop} {Q : Exit → Act → World → Prop} {w : World} (s x : Operand)
    (ho : o.op = .call { callee := .builtin .append, args := #[s, x], argTypes := #[80, 80] }) (base : Nat) (v : Value) (l : List En) (hs : a.eval s = v) (hown : OwnE w base v l)
    (y : En) (g : Nat) (hx : a.eval x = .slice (some ⟨g, 0, none⟩) 1 1) (h2 : Blk w g 73 (cellsE1 y)) (hl : l.length ≤ 1000) (hb : base ≤ w.heap.size)
    (h : ∀ v' w', OwnE w' base v' (l ++ [y]) → w.grownBy w' v.ownBlock → (v'.ownBlock = v.ownBlock ∨ v'.ownBlock = some w.heap.size) → K (a.put o.dst v') w') : o.wp Try.prog a w K Q := by
  obtain ⟨i0, hi, hz0, hz1, hz2⟩ := info_parts infoEn
  obtain ⟨v', w', hr, r1, r2, _, r5⟩ := run_append_own_at (P := Try.prog) w base 80 o.type 73 i0 _ 2 24 Try.underlying80 hi hz0 hz1 hz2 rfl (by decide) v l.length (cellsE l) hown ⟨g, 0, none⟩ 1 1 (cellsE [y]) (by rw [cellsE_length]; rfl) (by
    intro j u hj
    rw [addr_addT, Nat.zero_add]
    refine h2.cell ?_
    simpa [cellsE] using hj) (by
    intro u hu
    simp [cellsE, cellsE1] at hu
    rcases hu with rfl | rfl <;> rfl) (by unfold maxLen; omega) (by omega) hb
  unfold Oper.wp execOp
  simp only [ho, resolve, invoke, builtin, Sem.run_bind, Sem.run_pure, Result.andThen_ok, List.map_toArray, List.map_cons, List.map_nil, hs, hx, hr]
  refine h v' w' ?_ r2 r5
  unfold OwnE
  rw [cellsE_append, List.length_append]
  exact r1
/-- append of one kid. -/
theorem wp_append_k {o : Oper} {a : Act} {K : Act → World → Prop} {Q : Exit → Act → World → Prop} {w : World} (s x : Operand)
    (ho : o.op = .call { callee := .builtin .append, args := #[s, x], argTypes := #[81, 81] }) (base : Nat) (v : Value) (l : List Nat) (hs : a.eval s = v) (hown : OwnK w base v l)
    (y : Nat) (g : Nat) (hx : a.eval x = .slice (some ⟨g, 0, none⟩) 1 1) (h2 : Blk w g 61 [ptrV y]) (hl : l.length ≤ 1000) (hb : base ≤ w.heap.size)
    (h : ∀ v' w', OwnK w' base v' (l ++ [y]) → w.grownBy w' v.ownBlock → (v'.ownBlock = v.ownBlock ∨ v'.ownBlock = some w.heap.size) → K (a.put o.dst v') w') : o.wp Try.prog a w K Q := by
  obtain ⟨i0, hi, hz0, hz1, hz2⟩ := info_parts infoKid
  obtain ⟨v', w', hr, r1, r2, _, r5⟩ := run_append_own_at (P := Try.prog) w base 81 o.type 61 i0 _ 1 8 Try.underlying81 hi hz0 hz1 hz2 rfl (by decide) v l.length (l.map ptrV) hown ⟨g, 0, none⟩ 1 1 [ptrV y] rfl (by
    intro j u hj
    rw [addr_addT, Nat.zero_add]
    exact h2.cell hj) (by
    intro u hu
    rw [List.mem_singleton] at hu
    subst hu; rfl) (by unfold maxLen; omega) (by omega) hb
  unfold Oper.wp execOp
  simp only [ho, resolve, invoke, builtin, Sem.run_bind, Sem.run_pure, Result.andThen_ok, List.map_toArray, List.map_cons, List.map_nil, hs, hx, hr]
  refine h v' w' ?_ r2 r5
  unfold OwnK
  rw [List.map_append, List.length_append]
  exact r1
mutual
/-- A tree of nodes that lies at p and takes the blocks F. -/
def NdT (w : World) : Tr → Nat → List Nat → Prop
  | .mk es ks, p, F => ∃ (vE vK : Value) (ps Fk : List Nat), Blk w p 83 [vE, vK] ∧ OwnE w 0 vE es ∧ OwnK w 0 vK ps ∧ NdL w ks ps Fk ∧ F = p :: (vE.ownBlock.toList ++ (vK.ownBlock.toList ++ Fk))
def NdL (w : World) : List Tr → List Nat → List Nat → Prop
  | [], ps, F => ps = [] ∧ F = []
  | t :: ts, ps, F => ∃ (p : Nat) (ps' F1 F2 : List Nat), ps = p :: ps' ∧ F = F1 ++ F2 ∧ NdT w t p F1 ∧ NdL w ts ps' F2
end
mutual
theorem NdT.same {w w1 : World} : ∀ {t : Tr} {p : Nat} {F : List Nat}, NdT w t p F → (∀ b ∈ F, w1.heap[b]? = w.heap[b]?) → NdT w1 t p F
  | .mk es ks, p, F, h, hs => by
    simp only [NdT] at h ⊢
    obtain ⟨vE, vK, ps, Fk, h1, h2, h3, h4, rfl⟩ := h
    refine ⟨vE, vK, ps, Fk, h1.same (hs p (by simp)), owns_same h2 (fun b e => hs b (by simp [e])), owns_same h3 (fun b e => hs b (by simp [e])), NdL.same h4 (fun b hb => hs b (by simp [hb])), rfl⟩
theorem NdL.same {w w1 : World} : ∀ {ts : List Tr} {ps F : List Nat}, NdL w ts ps F → (∀ b ∈ F, w1.heap[b]? = w.heap[b]?) → NdL w1 ts ps F
  | [], ps, F, h, hs => by
    simp only [NdL] at h ⊢; exact h
  | t :: ts, ps, F, h, hs => by
    simp only [NdL] at h ⊢
    obtain ⟨p, ps', F1, F2, rfl, rfl, h1, h2⟩ := h
    exact ⟨p, ps', F1, F2, rfl, rfl, NdT.same h1 (fun b hb => hs b (by simp [hb])), NdL.same h2 (fun b hb => hs b (by simp [hb]))⟩
end
theorem NdL.nil (w : World) : NdL w [] [] [] := by simp [NdL]
theorem NdL.snoc {w : World} : ∀ {ts : List Tr} {ps F : List Nat} {t : Tr} {p : Nat} {G : List Nat}, NdL w ts ps F → NdT w t p G → NdL w (ts ++ [t]) (ps ++ [p]) (F ++ G)
  | [], ps, F, t, p, G, h, ht => by
    simp only [NdL] at h
    obtain ⟨rfl, rfl⟩ := h
    simp only [List.nil_append, NdL]
    exact ⟨p, [], G, [], rfl, by simp, ht, by simp⟩
  | x :: ts, ps, F, t, p, G, h, ht => by
    simp only [NdL] at h
    obtain ⟨q, ps', F1, F2, rfl, rfl, h1, h2⟩ := h
    simp only [List.cons_append, NdL]
    exact ⟨q, ps' ++ [p], F1, F2 ++ G, rfl, by rw [List.append_assoc], h1, NdL.snoc h2 ht⟩
theorem NdL.len {w : World} : ∀ {ts : List Tr} {ps F : List Nat}, NdL w ts ps F → ps.length = ts.length
  | [], ps, F, h => by simp only [NdL] at h; rw [h.1]; rfl
  | t :: ts, ps, F, h => by
    simp only [NdL] at h
    obtain ⟨p, ps', F1, F2, rfl, rfl, h1, h2⟩ := h
    rw [List.length_cons, List.length_cons, NdL.len h2]
theorem NdL.at {w : World} : ∀ {ts : List Tr} {ps F : List Nat}, NdL w ts ps F → ∀ {j : Nat} {t : Tr}, ts[j]? = some t → ∃ p G, ps[j]? = some p ∧ NdT w t p G ∧ ∀ b ∈ G, b ∈ F
  | [], ps, F, h, j, t, hj => by simp at hj
  | x :: ts, ps, F, h, j, t, hj => by
    simp only [NdL] at h
    obtain ⟨p, ps', F1, F2, rfl, rfl, h1, h2⟩ := h
    match j, hj with
    | 0, hj =>
      simp only [List.getElem?_cons_zero, Option.some.injEq] at hj
      subst hj
      exact ⟨p, F1, rfl, h1, fun b hb => by simp [hb]⟩
    | j + 1, hj =>
      obtain ⟨q, G, h3, h4, h5⟩ := NdL.at h2 (by simpa using hj)
      exact ⟨q, G, by simpa using h3, h4, fun b hb => by simp [h5 b hb]⟩
end Go.Proofs.Ytopgakdgifmecaa
