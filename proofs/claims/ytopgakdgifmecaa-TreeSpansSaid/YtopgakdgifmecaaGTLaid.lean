/-
  MERGED: TLdA, TLdB.
  CONDITIONS: each theorem's own hypotheses.
-/
import Derived.Test.YtopgakdgifmecaaTPutA
import Derived.Test.YtopgakdgifmecaaTEach
import Derived.Test.YtopgakdgifmecaaTEachL
import Derived.Test.YtopgakdgifmecaaTBran

/-! A LIST OF NODES OF THE CALL'S OWN: where it lies, which blocks it takes; append of a node, of a number. CONDITIONS: each theorem's own hypotheses. -/
namespace Go.Proofs.Ytopgakdgifmecaa
open Go.RowKit
set_option linter.unusedVariables false
set_option maxRecDepth 100000

theorem infoI : (Try.prog.info? 3).map (fun i => (i.zero, i.size, i.bytes)) = some (some (.int .i64 0), 1, 8) := by kernel_rfl
theorem infoNq : (Try.prog.info? 51).map (fun i => (i.zero, i.size, i.bytes)) = some (some (.agg #[.slice none 0 0, .slice none 0 0, .slice none 0 0]), 3, 72) := by kernel_rfl
def intsV (l : List Int) : List Value := l.map (fun x => .int .i64 x)
/-- A row of numbers of the call's own. -/
def OwnI (w : World) (base : Nat) (v : Value) (l : List Int) : Prop := w.ownsRow base 3 1 v l.length (intsV l)
theorem OwnI.nil (w : World) (base : Nat) : OwnI w base (.slice none 0 0) [] := World.ownsRow_nil _ _ _ _
theorem OwnI.keep {w w1 : World} {base : Nat} {v : Value} {l : List Int} (h : OwnI w base v l) (hb : Below w.heap.size w w1) : OwnI w1 base v l := owns_same h (fun b e => hb.block b (h.lt b e).2)
theorem wpList_append_i {ops : Array Oper} {rest : List Oper} {o : Oper} {a : Act} {Q : Exit → Act → World → Prop} {w : World} (hgd : o.guard = none) (s x : Operand)
    (ho : o.op = .call { callee := .builtin .append, args := #[s, x], argTypes := #[49, 49] }) (base : Nat) (v : Value) (l : List Int) (hs : a.eval s = v) (hown : OwnI w base v l)
    (y : Int) (g : Nat) (hx : a.eval x = .slice (some ⟨g, 0, none⟩) 1 1) (h2 : Blk w g 3 [.int .i64 y]) (hl : l.length ≤ 1000) (hb : base ≤ w.heap.size)
    (h : ∀ v' w', OwnI w' base v' (l ++ [y]) → w.grownBy w' v.ownBlock → (v'.ownBlock = v.ownBlock ∨ v'.ownBlock = some w.heap.size) → wpList Try.prog ops Q rest (a.put o.dst v') w') : wpList Try.prog ops Q (o :: rest) a w := by
  obtain ⟨i0, hi, hz0, hz1, hz2⟩ := info_parts infoI
  obtain ⟨v', w', hr, r1, r2, _, r5⟩ := run_append_own_at (P := Try.prog) w base 49 o.type 3 i0 _ 1 8 Try.underlying49 hi hz0 hz1 hz2 rfl (by decide) v l.length (intsV l) hown ⟨g, 0, none⟩ 1 1 [.int .i64 y] rfl (fun j u hj => by
    rw [addr_addT, Nat.zero_add]
    exact h2.cell hj) (fun u hu => by
    rw [List.mem_singleton] at hu
    subst hu; rfl) (by unfold maxLen; omega) (by omega) hb
  refine wpList_plain hgd fun K hK => ?_
  unfold Oper.wp execOp
  simp only [ho, resolve, invoke, builtin, Sem.run_bind, Sem.run_pure, Result.andThen_ok, List.map_toArray, List.map_cons, List.map_nil, hs, hx, hr]
  refine hK _ _ (h v' w' ?_ r2 r5)
  unfold OwnI intsV
  rw [List.map_append, List.length_append]
  exact r1
abbrev R3 := Value × Value × Value
def cells31 (r : R3) : List Value := [r.1, r.2.1, r.2.2]
def cells3 (l : List R3) : List Value := l.flatMap cells31
theorem cells3_append (l m : List R3) : cells3 (l ++ m) = cells3 l ++ cells3 m := by simp [cells3]
theorem cells3_length : ∀ l : List R3, (cells3 l).length = l.length * 3
  | [] => rfl
  | e :: l => by
    have := cells3_length l
    simp only [cells3, List.flatMap_cons, List.length_append, List.length_cons] at this ⊢
    rw [this]; show 3 + _ = _; omega
theorem cells3_at : ∀ (l : List R3) (j q : Nat) (e : R3), l[j]? = some e → q < 3 → (cells3 l)[j * 3 + q]? = (cells31 e)[q]?
  | [], _, _, _, h, _ => by simp at h
  | x :: l, 0, q, e, h, hq => by
    simp only [List.getElem?_cons_zero, Option.some.injEq] at h
    subst h
    show (cells31 x ++ cells3 l)[0 * 3 + q]? = _
    rw [Nat.zero_mul, Nat.zero_add, List.getElem?_append_left (by show q < 3; exact hq)]
  | x :: l, j + 1, q, e, h, hq => by
    show (cells31 x ++ cells3 l)[(j + 1) * 3 + q]? = _
    have hx : (cells31 x).length = 3 := rfl
    rw [List.getElem?_append_right (by rw [hx]; omega), hx, show (j + 1) * 3 + q - 3 = j * 3 + q by omega]
    exact cells3_at l j q e (by simpa using h) hq
theorem cells3_set2 : ∀ (l : List R3) (j : Nat) (k v d d' : Value), l[j]? = some (k, v, d) → (cells3 l).set (j * 3 + 2) d' = cells3 (l.set j (k, v, d'))
  | [], j, _, _, _, _, h => by simp at h
  | e :: l, 0, k, v, d, d', h => by
    simp only [List.getElem?_cons_zero, Option.some.injEq] at h
    subst h
    rfl
  | e :: l, j + 1, k, v, d, d', h => by
    have ih := cells3_set2 l j k v d d' (by simpa using h)
    show (_ :: _ :: _ :: cells3 l).set ((j + 1) * 3 + 2) _ = _ :: _ :: _ :: cells3 (l.set j _)
    rw [← ih, show (j + 1) * 3 + 2 = j * 3 + 2 + 1 + 1 + 1 by omega]
    rfl
def blk3 (r : R3) : List Nat := r.1.ownBlock.toList ++ (r.2.1.ownBlock.toList ++ r.2.2.ownBlock.toList)
structure NqR (w : World) (n : Nq) (r : R3) : Prop where
  K : OwnSt w 0 r.1 n.keys
  V : OwnI w 0 r.2.1 n.vals
  C : OwnI w 0 r.2.2 n.kids
theorem NqR.same {w w1 : World} {n : Nq} {r : R3} (h : NqR w n r) (hs : ∀ b ∈ blk3 r, w1.heap[b]? = w.heap[b]?) : NqR w1 n r :=
  ⟨owns_same h.K (fun b e => hs b (by simp [blk3, e])), owns_same h.V (fun b e => hs b (by simp [blk3, e])), owns_same h.C (fun b e => hs b (by simp [blk3, e]))⟩
theorem NqR.lt {w : World} {n : Nq} {r : R3} (h : NqR w n r) : ∀ b ∈ blk3 r, b < w.heap.size := fun b hb => by
  simp only [blk3, List.mem_append, Option.mem_toList] at hb
  rcases hb with hb | hb | hb
  · exact (h.K.lt b hb).2
  · exact (h.V.lt b hb).2
  · exact (h.C.lt b hb).2
/-- The rows of nodes. -/
def NqRs (w : World) : List Nq → List R3 → Prop
  | [], rs => rs = []
  | n :: ns, rs => ∃ r rs', rs = r :: rs' ∧ NqR w n r ∧ NqRs w ns rs'
theorem NqRs.len {w : World} : ∀ {ns : List Nq} {rs : List R3}, NqRs w ns rs → rs.length = ns.length
  | [], rs, h => by rw [show rs = [] from h]; rfl
  | n :: ns, rs, h => by
    obtain ⟨r, rs', rfl, _, h2⟩ := h
    rw [List.length_cons, List.length_cons, NqRs.len h2]
theorem NqRs.same {w w1 : World} : ∀ {ns : List Nq} {rs : List R3}, NqRs w ns rs → (∀ b ∈ rs.flatMap blk3, w1.heap[b]? = w.heap[b]?) → NqRs w1 ns rs
  | [], rs, h, hs => h
  | n :: ns, rs, h, hs => by
    obtain ⟨r, rs', rfl, h1, h2⟩ := h
    exact ⟨r, rs', rfl, h1.same (fun b hb => hs b (by simp [hb])), NqRs.same h2 (fun b hb => hs b (by rw [List.flatMap_cons]; exact List.mem_append_right _ hb))⟩
theorem NqRs.lt {w : World} : ∀ {ns : List Nq} {rs : List R3}, NqRs w ns rs → ∀ b ∈ rs.flatMap blk3, b < w.heap.size
  | [], rs, h, b, hb => by rw [show rs = [] from h] at hb; cases hb
  | n :: ns, rs, h, b, hb => by
    obtain ⟨r, rs', rfl, h1, h2⟩ := h
    rw [List.flatMap_cons] at hb
    rcases List.mem_append.1 hb with hb | hb
    · exact h1.lt b hb
    · exact NqRs.lt h2 b hb
theorem NqRs.snoc {w : World} : ∀ {ns : List Nq} {rs : List R3} {n : Nq} {r : R3}, NqRs w ns rs → NqR w n r → NqRs w (ns ++ [n]) (rs ++ [r])
  | [], rs, n, r, h, hr => by
    rw [show rs = [] from h]
    exact ⟨r, [], rfl, hr, rfl⟩
  | x :: ns, rs, n, r, h, hr => by
    obtain ⟨r', rs', rfl, h1, h2⟩ := h
    exact ⟨r', rs' ++ [r], rfl, h1, NqRs.snoc h2 hr⟩
theorem NqRs.at {w : World} : ∀ {ns : List Nq} {rs : List R3}, NqRs w ns rs → ∀ {j : Nat} {n : Nq}, ns[j]? = some n → ∃ r, rs[j]? = some r ∧ NqR w n r
  | [], rs, h, j, n, hj => by simp at hj
  | x :: ns, rs, h, j, n, hj => by
    obtain ⟨r, rs', rfl, h1, h2⟩ := h
    cases j with
    | zero => simp at hj; subst hj; exact ⟨r, rfl, h1⟩
    | succ j => exact NqRs.at h2 (j := j) (by simpa using hj)
/-- One node's rows are others now. -/
theorem NqRs.put {w w1 : World} : ∀ {ns : List Nq} {rs : List R3}, NqRs w ns rs → ∀ {j : Nat} {n n' : Nq} {r r' : R3}, ns[j]? = some n → rs[j]? = some r → NqR w1 n' r' → (∀ b ∈ rs.flatMap blk3, b ∉ blk3 r → w1.heap[b]? = w.heap[b]?) → (rs.flatMap blk3).Nodup → NqRs w1 (ns.set j n') (rs.set j r')
  | [], rs, h, j, n, n', r, r', hj, hr, hn, hs, hd => by simp at hj
  | x :: ns, rs, h, 0, n, n', r, r', hj, hr, hn, hs, hd => by
    obtain ⟨r0, rs', rfl, h1, h2⟩ := h
    simp at hj hr
    subst hj hr
    refine ⟨r', rs', rfl, hn, NqRs.same h2 (fun b hb => hs b (by rw [List.flatMap_cons]; exact List.mem_append_right _ hb) (fun h => ?_))⟩
    rw [List.flatMap_cons] at hd
    exact (List.nodup_append.1 hd).2.2 b h b hb rfl
  | x :: ns, rs, h, j + 1, n, n', r, r', hj, hr, hn, hs, hd => by
    obtain ⟨r0, rs', rfl, h1, h2⟩ := h
    rw [List.flatMap_cons] at hd
    have hd2 := List.nodup_append.1 hd
    have hr' : rs'[j]? = some r := by simpa using hr
    refine ⟨r0, rs'.set j r', rfl, h1.same (fun b hb => hs b (by rw [List.flatMap_cons]; exact List.mem_append_left _ hb) (fun h => ?_)), NqRs.put h2 (by simpa using hj) hr' hn (fun b hb hn => hs b (by rw [List.flatMap_cons]; exact List.mem_append_right _ hb) hn) hd2.2.1⟩
    exact hd2.2.2 b hb b (List.mem_flatMap.2 ⟨r, List.mem_of_getElem? hr', h⟩) rfl
/-- A list of nodes that takes the blocks F. -/
def LdN (w : World) (v : Value) (ns : List Nq) (F : List Nat) : Prop := ∃ rs, w.ownsRow 0 51 3 v ns.length (cells3 rs) ∧ NqRs w ns rs ∧ F = v.ownBlock.toList ++ rs.flatMap blk3
theorem LdN.nil (w : World) : LdN w (.slice none 0 0) [] [] := ⟨[], World.ownsRow_nil _ _ _ _, rfl, rfl⟩
theorem LdN.lt {w : World} {v : Value} {ns : List Nq} {F : List Nat} (h : LdN w v ns F) : ∀ b ∈ F, b < w.heap.size := fun b hb => by
  obtain ⟨rs, h1, h2, rfl⟩ := h
  rcases List.mem_append.1 hb with hb | hb
  · exact (h1.lt b (by simpa using hb)).2
  · exact h2.lt b hb
theorem LdN.same {w w1 : World} {v : Value} {ns : List Nq} {F : List Nat} (h : LdN w v ns F) (hs : ∀ b ∈ F, w1.heap[b]? = w.heap[b]?) : LdN w1 v ns F := by
  obtain ⟨rs, h1, h2, rfl⟩ := h
  exact ⟨rs, owns_same h1 (fun b e => hs b (by simp [e])), h2.same (fun b hb => hs b (List.mem_append_right _ hb)), rfl⟩
/-- append of one node. -/
theorem wpList_append_n {ops : Array Oper} {rest : List Oper} {o : Oper} {a : Act} {Q : Exit → Act → World → Prop} {w : World} (hgd : o.guard = none) (s x : Operand)
    (ho : o.op = .call { callee := .builtin .append, args := #[s, x], argTypes := #[22, 22] }) (v : Value) (k : Nat) (rs : List R3) (hs : a.eval s = v) (hown : w.ownsRow 0 51 3 v k (cells3 rs))
    (r : R3) (g : Nat) (hx : a.eval x = .slice (some ⟨g, 0, none⟩) 1 1) (h2 : Blk w g 51 (cells31 r)) (h1 : ∀ u ∈ cells31 r, u.oneCell' = true) (hl : k ≤ 1000)
    (h : ∀ v' w', w'.ownsRow 0 51 3 v' (k + 1) (cells3 (rs ++ [r])) → w.grownBy w' v.ownBlock → (v'.ownBlock = v.ownBlock ∨ v'.ownBlock = some w.heap.size) → wpList Try.prog ops Q rest (a.put o.dst v') w') : wpList Try.prog ops Q (o :: rest) a w := by
  obtain ⟨i0, hi, hz0, hz1, hz2⟩ := info_parts infoNq
  obtain ⟨v', w', hr, r1, r2, _, r5⟩ := run_append_own_at (P := Try.prog) w 0 22 o.type 51 i0 _ 3 72 Try.underlying22 hi hz0 hz1 hz2 rfl (by decide) v k (cells3 rs) hown ⟨g, 0, none⟩ 1 1 (cells3 [r]) (by rw [cells3_length]; rfl) (fun j u hj => by
    rw [addr_addT, Nat.zero_add]
    refine h2.cell ?_
    simpa [cells3] using hj) (fun u hu => h1 u (by simpa [cells3] using hu)) (by unfold maxLen; omega) (by omega) (Nat.zero_le _)
  refine wpList_plain hgd fun K hK => ?_
  unfold Oper.wp execOp
  simp only [ho, resolve, invoke, builtin, Sem.run_bind, Sem.run_pure, Result.andThen_ok, List.map_toArray, List.map_cons, List.map_nil, hs, hx, hr]
  refine hK _ _ (h v' w' ?_ r2 r5)
  rw [cells3_append]
  exact r1
theorem blk_nodup (g : Nat) (A B : List Nat) (ko vo dO dO' : Option Nat) (n : Nat) (h : (g :: (A ++ ((ko.toList ++ (vo.toList ++ dO.toList)) ++ B))).Nodup) (hlt : ∀ b ∈ g :: (A ++ ((ko.toList ++ (vo.toList ++ dO.toList)) ++ B)), b < n) (hd : dO' = dO ∨ ∃ m, dO' = some m ∧ n ≤ m) :
    (g :: (A ++ ((ko.toList ++ (vo.toList ++ dO'.toList)) ++ B))).Nodup ∧ (∀ b ∈ g :: (A ++ ((ko.toList ++ (vo.toList ++ dO'.toList)) ++ B)), b ∈ g :: (A ++ ((ko.toList ++ (vo.toList ++ dO.toList)) ++ B)) ∨ n ≤ b) ∧
    (∀ b, ko = some b → dO ≠ some b ∧ b ≠ g) ∧ (∀ b, vo = some b → dO ≠ some b ∧ b ≠ g) ∧ (∀ b, dO = some b → b ≠ g) := by
  have three : (∀ b, ko = some b → dO ≠ some b ∧ b ≠ g) ∧ (∀ b, vo = some b → dO ≠ some b ∧ b ≠ g) ∧ (∀ b, dO = some b → b ≠ g) := by
    simp only [List.nodup_cons, List.nodup_append, List.mem_append, Option.mem_toList] at h
    cases ko <;> cases vo <;> cases dO <;> grind
  rcases hd with rfl | ⟨m, rfl, hm⟩
  · exact ⟨h, fun b hb => .inl hb, three⟩
  · refine ⟨?_, fun b hb => ?_, three⟩
    · have e1 : g :: (A ++ ((ko.toList ++ (vo.toList ++ (some m).toList)) ++ B)) = (g :: (A ++ (ko.toList ++ vo.toList))) ++ m :: B := by simp
      have e2 : g :: (A ++ ((ko.toList ++ (vo.toList ++ dO.toList)) ++ B)) = (g :: (A ++ (ko.toList ++ vo.toList))) ++ (dO.toList ++ B) := by simp
      have hsub : ((g :: (A ++ (ko.toList ++ vo.toList))) ++ B).Sublist (g :: (A ++ ((ko.toList ++ (vo.toList ++ dO.toList)) ++ B))) := by
        rw [e2]
        exact (List.Sublist.refl _).append (List.sublist_append_right _ _)
      rw [e1, List.perm_middle.nodup_iff]
      exact List.nodup_cons.2 ⟨fun hb => by have := hlt m (hsub.subset hb); omega, hsub.nodup h⟩
    · simp only [List.mem_cons, List.mem_append, Option.mem_toList, Option.some.injEq] at hb ⊢
      grind
/-- A node's kids have one number more. -/
theorem LdN.kid {w W2 : World} {gV L c : Nat} {ns : List Nq} {rs : List R3} {j : Nat} {n : Nq} {k v d v' : Value} {x : Int}
    (hrow : w.ownsRow 0 51 3 (.slice (some ⟨gV, 0, none⟩) L c) L (cells3 rs)) (hrs : NqRs w ns rs) (hL : ns.length = L)
    (hnd : (gV :: rs.flatMap blk3).Nodup) (hj : ns[j]? = some n) (hr : rs[j]? = some (k, v, d))
    (hg : ∀ b, b < w.heap.size → d.ownBlock ≠ some b → W2.heap[b]? = w.heap[b]?) (ho : OwnI W2 0 v' (n.kids ++ [x])) (hw : v'.ownBlock = d.ownBlock ∨ ∃ m, v'.ownBlock = some m ∧ w.heap.size ≤ m) :
    W2.cell? ⟨gV, j * 3 + 2, none⟩ = some d ∧ W2.frozen? ⟨gV, j * 3 + 2, none⟩ = false ∧ ∃ F', LdN (W2.setCell ⟨gV, j * 3 + 2, none⟩ v') (.slice (some ⟨gV, 0, none⟩) L c) (ns.set j ⟨n.keys, n.vals, n.kids ++ [x]⟩) F' ∧ F'.Nodup ∧ ∀ b ∈ F', b ∈ gV :: rs.flatMap blk3 ∨ w.heap.size ≤ b := by
  have hgl := (hrow.lt gV rfl).2
  have hlt : ∀ b ∈ gV :: rs.flatMap blk3, b < w.heap.size := fun b hb => by
    rcases List.mem_cons.1 hb with rfl | hb
    · exact hgl
    · exact hrs.lt b hb
  obtain ⟨hjl, hje⟩ := List.getElem?_eq_some_iff.1 hr
  have hsp : rs = rs.take j ++ (k, v, d) :: rs.drop (j + 1) := by rw [← hje, List.getElem_cons_drop, List.take_append_drop]
  have hfl : rs.flatMap blk3 = (rs.take j).flatMap blk3 ++ ((k.ownBlock.toList ++ (v.ownBlock.toList ++ d.ownBlock.toList)) ++ (rs.drop (j + 1)).flatMap blk3) := by
    conv => lhs; rw [hsp, List.flatMap_append, List.flatMap_cons]
    rfl
  have hfl2 : (rs.set j (k, v, v')).flatMap blk3 = (rs.take j).flatMap blk3 ++ ((k.ownBlock.toList ++ (v.ownBlock.toList ++ v'.ownBlock.toList)) ++ (rs.drop (j + 1)).flatMap blk3) := by
    rw [List.set_eq_take_append_cons_drop, if_pos hjl, List.flatMap_append, List.flatMap_cons]
    rfl
  have hnd2 := hnd
  have hlt2 := hlt
  rw [hfl] at hnd2 hlt2
  obtain ⟨n1, n2, n3, n4, n5⟩ := blk_nodup gV _ _ k.ownBlock v.ownBlock d.ownBlock v'.ownBlock w.heap.size hnd2 hlt2 hw
  rw [← hfl, ← hfl2] at n2
  rw [← hfl2] at n1
  have hrow2 : W2.ownsRow 0 51 3 (.slice (some ⟨gV, 0, none⟩) L c) L (cells3 rs) := owns_same hrow (fun b e => by cases e; exact hg gV hgl (fun h => n5 gV h rfl))
  have hlen : rs.length = L := by rw [hrs.len, hL]
  obtain ⟨q, hq, hqr⟩ := hrs.at hj
  rw [hr] at hq
  obtain rfl := Option.some.inj hq
  have hoth : ∀ b, b ≠ gV → (W2.setCell ⟨gV, j * 3 + 2, none⟩ v').heap[b]? = W2.heap[b]? := fun b hb => heap_setCell_other W2 ⟨gV, j * 3 + 2, none⟩ b v' hb
  refine ⟨?_, hrow2.frozenAt _, gV :: (rs.set j (k, v, v')).flatMap blk3, ⟨rs.set j (k, v, v'), ?_, ?_, rfl⟩, n1, n2⟩
  · rw [hrow2.cellAt (j * 3 + 2) (by omega), cells3_at rs j 2 _ hr (by decide)]; rfl
  · rw [List.length_set, hL, ← cells3_set2 rs j k v d v' hr]
    exact (hrow2.stored (j * 3 + 2) v').1
  · refine NqRs.put hrs hj hr ⟨owns_same hqr.K (fun b e => ?_), owns_same hqr.V (fun b e => ?_), owns_same ho (fun b e => ?_)⟩ (fun b hb hn => ?_) (List.nodup_cons.1 hnd).2
    · rw [hoth b (n3 b e).2, hg b (hqr.K.lt b e).2 (n3 b e).1]
    · rw [hoth b (n4 b e).2, hg b (hqr.V.lt b e).2 (n4 b e).1]
    · refine hoth b ?_
      rcases hw with h | ⟨m, h, hm⟩
      · exact n5 b (by rw [← h]; exact e)
      · rw [h] at e; cases e; omega
    · have hne : b ≠ gV := fun h => (List.nodup_cons.1 hnd).1 (h ▸ hb)
      rw [hoth b hne, hg b (hrs.lt b hb) (fun h => hn (by simp [blk3, h]))]
/-- One node more. -/
theorem LdN.snoc {w W' : World} {v v' : Value} {ns : List Nq} {rs : List R3} {n : Nq} {r : R3} (hrs : NqRs w ns rs) (hr : NqR w n r) (hrow : W'.ownsRow 0 51 3 v' (ns.length + 1) (cells3 (rs ++ [r]))) (hg : w.grownBy W' v.ownBlock) (hw : v'.ownBlock = v.ownBlock ∨ v'.ownBlock = some w.heap.size)
    (hnd : (v.ownBlock.toList ++ rs.flatMap blk3).Nodup) (hrd : (blk3 r).Nodup) (hap : ∀ b ∈ blk3 r, b ∉ v.ownBlock.toList ++ rs.flatMap blk3) (hvl : ∀ b, v.ownBlock = some b → b < w.heap.size) : ∃ F', LdN W' v' (ns ++ [n]) F' ∧ F'.Nodup ∧ ∀ b ∈ F', b ∈ v.ownBlock.toList ++ rs.flatMap blk3 ∨ b ∈ blk3 r ∨ w.heap.size ≤ b := by
  have h1 := hrs.lt
  have h2 := hr.lt
  refine ⟨v'.ownBlock.toList ++ (rs ++ [r]).flatMap blk3, ⟨rs ++ [r], by rw [List.length_append]; exact hrow, ?_, rfl⟩, ?_⟩
  · refine (NqRs.snoc hrs hr).same (fun b hb => ?_)
    simp only [List.flatMap_append, List.flatMap_cons, List.flatMap_nil, List.append_nil, List.mem_append] at hb
    rcases hb with hb | hb
    · exact hg.block b (h1 b hb) (fun e => (List.nodup_append.1 hnd).2.2 b (by simp [← e]) b hb rfl)
    · exact hg.block b (h2 b hb) (fun e => hap b hb (by simp [← e]))
  · simp only [List.flatMap_append, List.flatMap_cons, List.flatMap_nil, List.append_nil]
    generalize rs.flatMap blk3 = A at *
    generalize blk3 r = B at *
    simp only [List.nodup_append, List.mem_append, Option.mem_toList] at hnd hap ⊢
    rcases hw with hw | hw <;> rw [hw]
    · grind
    · grind
end Go.Proofs.Ytopgakdgifmecaa

/-! CONTRACT of package tree's laid. CONDITIONS: each theorem's own hypotheses. -/
namespace Go.Proofs.Ytopgakdgifmecaa
open Go.RowKit
set_option linter.unusedVariables false
set_option maxRecDepth 100000

theorem wp_append_st {o : Oper} {a : Act} {K : Act → World → Prop} {Q : Exit → Act → World → Prop} {w : World} (s x : Operand)
    (ho : o.op = .call { callee := .builtin .append, args := #[s, x], argTypes := #[48, 48] }) (base : Nat) (v : Value) (l : List (List UInt8)) (hs : a.eval s = v) (hown : OwnSt w base v l)
    (y : List UInt8) (g : Nat) (hx : a.eval x = .slice (some ⟨g, 0, none⟩) 1 1) (h2 : Blk w g 9 [.string (str y)]) (hl : l.length ≤ 1000) (hb : base ≤ w.heap.size)
    (h : ∀ v' w', OwnSt w' base v' (l ++ [y]) → w.grownBy w' v.ownBlock → (v'.ownBlock = v.ownBlock ∨ v'.ownBlock = some w.heap.size) → K (a.put o.dst v') w') : o.wp Try.prog a w K Q := by
  obtain ⟨i0, hi, hz0, hz1, hz2⟩ := info_parts infoSt
  obtain ⟨v', w', hr, r1, r2, _, r5⟩ := run_append_own_at (P := Try.prog) w base 48 o.type 9 i0 _ 1 16 Try.underlying48 hi hz0 hz1 hz2 rfl (by decide) v l.length (keysV l) hown ⟨g, 0, none⟩ 1 1 [.string (str y)] rfl (fun j u hj => by
    rw [addr_addT, Nat.zero_add]
    exact h2.cell hj) (fun u hu => by
    rw [List.mem_singleton] at hu
    subst hu; rfl) (by unfold maxLen; omega) (by omega) hb
  unfold Oper.wp execOp
  simp only [ho, resolve, invoke, builtin, Sem.run_bind, Sem.run_pure, Result.andThen_ok, List.map_toArray, List.map_cons, List.map_nil, hs, hx, hr]
  refine h v' w' ?_ r2 r5
  unfold OwnSt keysV
  rw [List.map_append, List.length_append]
  exact r1
theorem kidPos_snoc : ∀ (a : Nat) (ks : List Tr) (k : Tr), kidPos a (ks ++ [k]) = kidPos a ks ++ [((a + sizeL ks : Nat) : Int)]
  | a, [], k => by simp [kidPos, sizeL]
  | a, x :: ks, k => by simp only [List.cons_append, kidPos, kidPos_snoc, sizeL, Nat.add_assoc]
theorem layL_snoc : ∀ (a : Nat) (ks : List Tr) (k : Tr), layL a (ks ++ [k]) = layL a ks ++ layN (a + sizeL ks) k
  | a, [], k => by simp [layL, sizeL]
  | a, x :: ks, k => by simp only [List.cons_append, layL, layL_snoc, sizeL, Nat.add_assoc, List.append_assoc]
theorem sizeL_snoc : ∀ (ks : List Tr) (k : Tr), sizeL (ks ++ [k]) = sizeL ks + sizeT k
  | [], k => by simp [sizeL]
  | x :: ks, k => by simp only [List.cons_append, sizeL, sizeL_snoc, Nat.add_assoc]
/-- The nodes that are laid when j kids are. -/
def midL (ns : List Nq) (es : List En) (ks : List Tr) : List Nq := ns ++ ⟨es.map Prod.fst, es.map Prod.snd, kidPos (ns.length + 1) ks⟩ :: layL (ns.length + 1) ks
theorem midL_len (ns : List Nq) (es : List En) (ks : List Tr) : (midL ns es ks).length = ns.length + 1 + sizeL ks := by
  simp only [midL, List.length_append, List.length_cons, layL_len]; omega
theorem midL_end (ns : List Nq) (es : List En) (ks : List Tr) : midL ns es ks = ns ++ layN ns.length (.mk es ks) := by simp only [midL, layN]
theorem midL_at (ns : List Nq) (es : List En) (ks : List Tr) : (midL ns es ks)[ns.length]? = some ⟨es.map Prod.fst, es.map Prod.snd, kidPos (ns.length + 1) ks⟩ := by
  simp [midL]
theorem midL_step (ns : List Nq) (es : List En) (ks : List Tr) (k : Tr) : midL ns es (ks ++ [k]) = (midL ns es ks).set ns.length ⟨es.map Prod.fst, es.map Prod.snd, kidPos (ns.length + 1) ks ++ [((midL ns es ks).length : Int)]⟩ ++ layN (midL ns es ks).length k := by
  rw [midL_len]
  simp only [midL, kidPos_snoc, layL_snoc]
  rw [List.set_append_right _ _ (Nat.le_refl _), Nat.sub_self, List.set_cons_zero, List.append_assoc]
  rfl
/-- What laid answers. -/
def LaidPost (ns : List Nq) (t : Tr) (F : List Nat) (w : World) (e : Ending) (w' : World) : Prop := ∃ v' F', e = .returned v' ∧ LdN w' v' (ns ++ layN ns.length t) F' ∧ F'.Nodup ∧ (∀ b ∈ F', b ∈ F ∨ w.heap.size ≤ b) ∧ Chg F w w'
/-- The node that is being laid: its first two rows grow. -/
structure SLd (w W : World) (m6 m8 : Nat) (kv vv : Value) (sk : List UInt8) (y : Int) (accV : List Int) : Prop where
  low : Below m6 w W
  size : m6 + 1 ≤ W.heap.size
  node : Blk W m6 51 [kv, vv, .slice none 0 0]
  vals : OwnI W (m6 + 1) vv accV
  box : Blk W m8 73 [.string (str sk), .int .i64 y]
  apart : m6 < m8 ∧ kv.ownBlock ≠ some m8
  two : ∀ b, kv.ownBlock = some b → vv.ownBlock ≠ some b
theorem SLd.below {w W W' : World} {m6 m8 : Nat} {kv vv : Value} {sk : List UInt8} {y : Int} {accV : List Int} (h : SLd w W m6 m8 kv vv sk y accV) (hb : Below W.heap.size W W') : SLd w W' m6 m8 kv vv sk y accV :=
  ⟨below_stepE h.low (Nat.le_trans (Nat.le_succ _) h.size) hb, Nat.le_trans h.size hb.size, h.node.call hb, h.vals.keep hb, h.box.call hb, h.apart, h.two⟩
theorem SLd.grown {w W W' : World} {m6 m8 : Nat} {kv vv : Value} {sk : List UInt8} {y : Int} {accV : List Int} (h : SLd w W m6 m8 kv vv sk y accV) (hg : W.grownBy W' kv.ownBlock) (hr : ∀ b, kv.ownBlock = some b → m6 + 1 ≤ b) : SLd w W' m6 m8 kv vv sk y accV :=
  ⟨h.low.grown hg (Nat.le_trans (Nat.le_succ _) h.size) (fun b hb => Nat.le_trans (Nat.le_succ _) (hr b hb)), Nat.le_trans h.size hg.size, h.node.same (hg.block m6 h.size (fun e => by have := hr m6 e.symm; omega)), owns_same h.vals (fun b e => hg.block b (h.vals.lt b e).2 (fun e2 => h.two b e2.symm e)), h.box.same (hg.block m8 h.box.lt (fun e => h.apart.2 e.symm)), h.apart, h.two⟩
theorem owns_type {w : World} {base n k : Nat} {e : TypeId} {v : Value} {xs : List Value} (h : w.ownsRow base e k v n xs) {b : Nat} (hb : v.ownBlock = some b) : ∃ cur, w.heap[b]? = some (.cells cur e (0, 0)) := by
  rcases h.2 with ⟨rfl, _⟩ | ⟨g, cap, cur, rfl, _, hh, _⟩
  · cases hb
  · cases hb; exact ⟨cur, hh⟩
theorem st_i_apart {w : World} {b1 b2 : Nat} {v u : Value} {l : List (List UInt8)} {m : List Int} (h : OwnSt w b1 v l) (k : OwnI w b2 u m) : ∀ b, v.ownBlock = some b → u.ownBlock ≠ some b := fun b e e2 => by
  obtain ⟨c, hc⟩ := owns_type h e
  obtain ⟨c', hc'⟩ := owns_type k e2
  rw [hc] at hc'
  simp only [Option.some.injEq, Obj.cells.injEq] at hc'
  exact absurd hc'.2.1 (by decide)
theorem sizeL_take_le : ∀ (ks : List Tr) (j : Nat) (k : Tr), ks[j]? = some k → sizeL (ks.take j) + sizeT k ≤ sizeL ks
  | [], j, k, h => by simp at h
  | x :: ks, 0, k, h => by
    simp at h; subst h
    simp [sizeL]
  | x :: ks, j + 1, k, h => by
    have := sizeL_take_le ks j k (by simpa using h)
    simp only [List.take_succ_cons, sizeL]; omega
/-- Between two entries. -/
structure Ld1 (w W : World) (m6 : Nat) (es : List En) (kv vv : Value) : Prop where
  low : Below m6 w W
  size : m6 + 1 ≤ W.heap.size
  node : Blk W m6 51 [kv, vv, .slice none 0 0]
  keys : OwnSt W (m6 + 1) kv (es.map Prod.fst)
  vals : OwnI W (m6 + 1) vv (es.map Prod.snd)
theorem Ld1.mk2 {w Wx w9 : World} {m6 : Nat} {es' : List En} {v6 vv v9 : Value} (low : Below m6 w Wx) (size : m6 + 1 ≤ Wx.heap.size) (node : Blk Wx m6 51 [v6, vv, .slice none 0 0]) (keys : OwnSt Wx (m6 + 1) v6 (es'.map Prod.fst)) (hvv : ∀ b, vv.ownBlock = some b → m6 + 1 ≤ b)
    (two : ∀ b, v6.ownBlock = some b → vv.ownBlock ≠ some b) (hg : Wx.grownBy w9 vv.ownBlock) (ho : OwnI w9 (m6 + 1) v9 (es'.map Prod.snd)) : Blk w9 m6 51 [v6, vv, .slice none 0 0] ∧ Ld1 w (w9.setCell ⟨m6, 1, none⟩ v9) m6 es' v6 v9 := by
  have hB := node.same (hg.block m6 (by omega) (fun e => by have := hvv m6 e.symm; omega))
  have hk : OwnSt w9 (m6 + 1) v6 (es'.map Prod.fst) := owns_same keys (fun b e => hg.block b (keys.lt b e).2 (fun e2 => two b e e2.symm))
  exact ⟨hB, (low.grown hg (Nat.le_trans (Nat.le_succ _) size) (fun b hb => Nat.le_trans (Nat.le_succ _) (hvv b hb))).setCell (p := ⟨m6, 1, none⟩) (Nat.le_refl _) v9, by simpa [World.setCell] using Nat.le_trans size hg.size, hB.set 1 v9, hk.set, owns_same ho (fun b e => heap_setCell_other w9 ⟨m6, 1, none⟩ b v9 (by have := (ho.lt b e).1; show b ≠ m6; omega))⟩
def LdF5 (m6 m8 : Nat) (kv : Value) (acc : List (List UInt8)) (sk : List UInt8) : Nat → Value → World → Prop
  | 0, v, _ => v = .pointer (some ⟨m6, 0, none⟩)
  | 1, v, _ => v = kv
  | 2, v, _ => v = .pointer (some ⟨m8, 0, none⟩)
  | 3, v, _ => v = .string (str sk)
  | 4, v, _ => v = .string (str sk)
  | 5, v, w => ∃ k, v = .slice (some ⟨k, 0, none⟩) 1 1 ∧ Blk w k 9 [.string (str sk)] ∧ kv.ownBlock ≠ some k
  | 6, v, w => OwnSt w (m6 + 1) v (acc ++ [sk])
  | 7, v, _ => v = .pointer (some ⟨m6, 0, none⟩)
  | _, _, _ => True
set_option maxHeartbeats 16000000 in
theorem laid_step (n : Nat) (ih : ∀ (d : Nat) (t : Tr) (p : Nat) (G : List Nat) (V : Value) (ns : List Nq) (F : List Nat) (w : World), d < n → okT d t → (∀ e ∈ flatT t, e.1.length ≤ 1000000) → NdT w t p G → LdN w V ns F → F.Nodup → (∀ b ∈ G, b ∉ F) → ns.length + sizeT t ≤ 1000 → Calls Try.prog 48 #[V, .pointer (some ⟨p, 0, none⟩)] w (LaidPost ns t F w))
    (d : Nat) (es : List En) (ks : List Tr) (p : Nat) (G : List Nat) (V : Value) (ns : List Nq) (F : List Nat) (w : World) (hd : d < n + 1) (hok : okT d (.mk es ks)) (hky : ∀ e ∈ flatT (.mk es ks), e.1.length ≤ 1000000) (hN : NdT w (.mk es ks) p G) (hL : LdN w V ns F) (hnd : F.Nodup) (hdis : ∀ b ∈ G, b ∉ F) (hsz : ns.length + sizeT (.mk es ks) ≤ 1000) :
    Calls Try.prog 48 #[V, .pointer (some ⟨p, 0, none⟩)] w (LaidPost ns (.mk es ks) F w) := by
  have hk3 := (ok_iff d _).1 hok
  simp only [Tr.es] at hk3
  have hfl : ∀ e ∈ es, e.1.length ≤ 1000000 := fun e he => hky e (by rw [flat_mk]; exact (inter_sub es (flatL ks)).subset he)
  simp only [NdT] at hN
  obtain ⟨vE, vK, ps, Fk, hB, hE, hK, hKL, rfl⟩ := hN
  obtain ⟨ae, ce, rfl, -, -, -, -⟩ := owns_shape hE
  obtain ⟨ak, ck, rfl, -, -, -, -⟩ := owns_shape hK
  have hplen := NdL.len hKL
  -- what is read of the tree
  have hGw : ∀ b ∈ p :: ((Value.slice ae es.length ce).ownBlock.toList ++ ((Value.slice ak ps.length ck).ownBlock.toList ++ Fk)), b < w.heap.size := fun b hb => by
    simp only [List.mem_cons, List.mem_append, Option.mem_toList] at hb
    rcases hb with rfl | hb | hb | hb
    · exact hB.lt
    · exact (hE.lt b hb).2
    · exact (hK.lt b hb).2
    · exact hKL.lt b hb
  have hsame : ∀ W, Chg F w W → ∀ b ∈ p :: ((Value.slice ae es.length ce).ownBlock.toList ++ ((Value.slice ak ps.length ck).ownBlock.toList ++ Fk)), W.heap[b]? = w.heap[b]? := fun W hW b hb => hW.block b (hGw b hb) (hdis b hb)
  have hnode : ∀ W, Chg F w W → W.cell? ⟨p, 0, none⟩ = some (.slice ae es.length ce) ∧ W.cell? ⟨p, 1, none⟩ = some (.slice ak ps.length ck) := fun W hW => by
    have := hB.same (hsame W hW p (List.mem_cons_self ..))
    exact ⟨this.cell (j := 0) rfl, this.cell (j := 1) rfl⟩
  have hent : ∀ j, j < es.length → ∃ s y b, es[j]? = some (s, y) ∧ s.length ≤ 1000000 ∧ ae = some ⟨b, 0, none⟩ ∧ ∀ W, Chg F w W → W.cell? ⟨b, j * 2, none⟩ = some (.string (str s)) ∧ W.cell? ⟨b, j * 2 + 1, none⟩ = some (.int .i64 y) := fun j hj => by
    have hx : es[j]? = some es[j] := List.getElem?_eq_getElem hj
    obtain ⟨b, h1, -, -, -, -⟩ := hE.cell hx
    subst h1
    refine ⟨_, _, b, hx, hfl _ (List.getElem_mem hj), rfl, fun W hW => ?_⟩
    have hE2 : OwnE W 0 (.slice (some ⟨b, 0, none⟩) es.length ce) es := owns_same hE (fun b' e => hsame W hW b' (by simp [e]))
    obtain ⟨b2, h2, -, -, h3, h4⟩ := hE2.cell hx
    cases h2
    exact ⟨h3, h4⟩
  have hkid : ∀ j, j < ks.length → ∃ k b q Gk, ks[j]? = some k ∧ ak = some ⟨b, 0, none⟩ ∧ (∀ x ∈ Gk, x < w.heap.size ∧ x ∉ F) ∧ ∀ W, Chg F w W → W.cell? ⟨b, j, none⟩ = some (.pointer (some ⟨q, 0, none⟩)) ∧ NdT W k q Gk := fun j hj => by
    have hx : ks[j]? = some ks[j] := List.getElem?_eq_getElem hj
    obtain ⟨q, Gk, h1, h2, h3⟩ := hKL.at hx
    obtain ⟨b, h4, -, -, -⟩ := hK.cell h1
    subst h4
    have hin : ∀ x ∈ Gk, x ∈ p :: ((Value.slice ae es.length ce).ownBlock.toList ++ ((Value.slice (some ⟨b, 0, none⟩) ps.length ck).ownBlock.toList ++ Fk)) := fun x hx => by simp [h3 x hx]
    refine ⟨_, b, q, Gk, hx, rfl, fun x hx => ⟨hGw x (hin x hx), hdis x (hin x hx)⟩, fun W hW => ?_⟩
    have hK2 : OwnK W 0 (.slice (some ⟨b, 0, none⟩) ps.length ck) ps := owns_same hK (fun b' e => hsame W hW b' (by simp [e]))
    obtain ⟨b2, h5, -, -, h6⟩ := hK2.cell h1
    cases h5
    exact ⟨h6, h2.same (fun x hx => hsame W hW x (hin x hx))⟩
  have HNODE := Lib.hid hnode
  have HENT := Lib.hid hent
  have HKID := Lib.hid hkid
  have HL := Lib.hid hL
  have HND := Lib.hid hnd
  have HOK := Lib.hid hok
  have HK3 := Lib.hid hk3
  have HKY := Lib.hid hky
  have HSZ := Lib.hid hsz
  have HIH := Lib.hid ih
  have HD := Lib.hid hd
  have HCL : Hid (∀ (s : List UInt8) (W : World), s.length ≤ 1000000 → Calls Try.prog 38 #[.string (str s)] W fun e w' => e = .returned (.string (str s)) ∧ Below W.heap.size W w') := Lib.hid (fun s W h => tclone_any s W h)
  obtain ⟨E, hEE⟩ : ∃ E, es.length = E := ⟨_, rfl⟩
  obtain ⟨C, hCC⟩ : ∃ C, ps.length = C := ⟨_, rfl⟩
  have HEE := Lib.hid hEE
  have HCC : Hid (ks.length = C) := Lib.hid (by rw [← hplen]; exact hCC)
  rw [hEE, hCC] at HNODE
  rw [hEE] at HENT
  rw [← hplen, hCC] at HKID
  obtain ⟨rs, hrow, hrs, hFeq⟩ := id hL
  obtain ⟨aV, cV, rfl, -, -, -, -⟩ := owns_shape hrow
  obtain ⟨a, hna⟩ : ∃ a, ns.length = a := ⟨_, rfl⟩
  rw [hna] at HL
  have HNA := Lib.hid hna
  have HROW := Lib.hid (And.intro hrow (And.intro hrs hFeq))
  rw [hna] at HROW
  obtain ⟨m6, hm6⟩ : ∃ m, w.heap.size = m := ⟨_, rfl⟩
  have HM6 := Lib.hid hm6
  have b6 : Blk _ _ _ [_, _, _] := Blk.new w #[.slice none 0 0, .slice none 0 0, .slice none 0 0] 51
  have hb1 := (Below.refl w.heap.size w).alloc (Nat.le_refl _) (.cells #[.slice none 0 0, .slice none 0 0, .slice none 0 0] 51)
  have hs1 : (w.alloc (.cells #[.slice none 0 0, .slice none 0 0, .slice none 0 0] 51)).heap.size = w.heap.size + 1 := by simp
  obtain ⟨w1, hw1⟩ : ∃ W, w.alloc (.cells #[.slice none 0 0, .slice none 0 0, .slice none 0 0] 51) = W := ⟨_, rfl⟩
  rw [hw1] at b6 hb1 hs1
  rw [hm6] at b6 hs1 hb1
  have HW1 := Lib.hid hw1
  have HR0 : Hid (Ld1 w w1 m6 (es.take 0) (.slice none 0 0) (.slice none 0 0)) := Lib.hid ⟨hb1, by omega, b6, OwnSt.nil _ _, OwnI.nil _ _⟩
  obtain ⟨n1, -⟩ := hnode w1 (.ofBelow _ (by rw [hm6]; exact hb1))
  rw [hEE] at n1
  have hE3 : E ≤ 3 := by omega
  have hC4 : C ≤ 1000 := by
    have h1 := sh_fit0 d _ hk3.2.2
    simp only [Tr.es, Tr.ks] at h1
    rcases h1 with h1 | h1
    · rw [h1, List.length_nil] at hplen; omega
    · omega
  clear hnode hent hkid hL hnd hok hk3 hky hsz ih hd hEE hCC hrow hrs hFeq hm6 b6 hb1 hs1 hw1 hB hE hK hKL hplen hGw hsame hdis hfl
  rw [hna]
  clear hna
  go_enter Try.func48, Try.ntmps48
  go_upto_region 2 with fail
  rw [HW1.out, HM6.out]
  go_wp2_with fail
  go_loopw [19] (fun ix wr => ∃ (j : Nat) (kv vv : Value), j ≤ E ∧ ix = .int .i64 j ∧ Hid (Ld1 w wr m6 (es.take j) kv vv)) (fun ix _ => E - (intOf ix).toNat)
  case atStart => exact ⟨0, _, _, Nat.zero_le _, rfl, HR0⟩
  case round =>
    obtain ⟨j, kv, vv, hj, rfl, hS⟩ := hrel
    by_cases hlt : j < E
    · obtain ⟨sk, y, b, hx, hsl, rfl, hc⟩ := HENT.out j hlt
      have iI : (j : Int) < (E : Int) := by omega
      have hbw : Below w.heap.size w wr := by rw [HM6.out]; exact hS.out.low
      obtain ⟨q0, q1⟩ := hc wr (.ofBelow F hbw)
      obtain ⟨m8, hm8⟩ : ∃ m, wr.heap.size = m := ⟨_, rfl⟩
      have b8 : Blk _ _ _ [_, _] := Blk.new wr #[.string (str sk), .int .i64 y] 73
      have hbb := (Below.refl wr.heap.size wr).alloc (Nat.le_refl _) (.cells #[.string (str sk), .int .i64 y] 73)
      obtain ⟨W1, hW1⟩ : ∃ W, wr.alloc (.cells #[.string (str sk), .int .i64 y] 73) = W := ⟨_, rfl⟩
      rw [hW1] at b8 hbb
      obtain ⟨acc, hacc⟩ : ∃ l, (es.take j).map Prod.fst = l := ⟨_, rfl⟩
      obtain ⟨accV, haccV⟩ : ∃ l, (es.take j).map Prod.snd = l := ⟨_, rfl⟩
      have hk := hS.out.keys
      have hv := hS.out.vals
      rw [hacc] at hk
      rw [haccV] at hv
      have hE9 := HK3.out.2.1
      have HACC : Hid (acc.length ≤ 1000) := Lib.hid (by rw [← hacc, List.length_map, List.length_take]; omega)
      have HACCV : Hid (accV.length ≤ 1000) := Lib.hid (by rw [← haccV, List.length_map, List.length_take]; omega)
      have HKV : Hid (∀ b, kv.ownBlock = some b → m6 + 1 ≤ b) := Lib.hid (fun b e => (hk.lt b e).1)
      have HVV : Hid (∀ b, vv.ownBlock = some b → m6 + 1 ≤ b) := Lib.hid (fun b e => (hv.lt b e).1)
      have HSL := Lib.hid hsl
      have HS1 : Hid (SLd w W1 m6 m8 kv vv sk y accV) := Lib.hid ⟨below_stepE hS.out.low (Nat.le_trans (Nat.le_succ _) hS.out.size) hbb, Nat.le_trans hS.out.size hbb.size, hS.out.node.call hbb, hv.keep hbb, by rw [← hm8]; exact b8, ⟨by have := hS.out.size; omega, fun e => by have := (hk.lt _ e).2; omega⟩, st_i_apart hk hv⟩
      have HO1 : Hid (OwnSt W1 (m6 + 1) kv acc) := Lib.hid (hk.keep hbb)
      have HTK : Hid ((es.take (j + 1)).map Prod.fst = acc ++ [sk] ∧ (es.take (j + 1)).map Prod.snd = accV ++ [y]) := Lib.hid (by rw [take_snocT es j (sk, y) hx, List.map_append, List.map_append, hacc, haccV]; exact ⟨rfl, rfl⟩)
      have HW1b := Lib.hid hW1
      have HM8 := Lib.hid hm8
      clear hx hsl hc hbw hm8 b8 hbb hW1 hacc haccV hk hv hE9 hS
      go_upto_region 5 with fail
      rw [HW1b.out, HM8.out]
      clear q0 q1
      refine wp_region_chain 8 [4, 5, 6] (by kernel_rfl) (by kernel_rfl) (by kernel_rfl) (LdF5 m6 m8 kv acc sk) (fun s W => SLd w W m6 m8 kv vv sk y accV ∧ (s < 3 → OwnSt W (m6 + 1) kv acc)) (fun s w w' => if s < 2 then Below w.heap.size w w' else w.grownBy w' kv.ownBlock) ?hF ?h0 ?hstep ?hcall ?hdone
      case hF =>
        intro s i hs j v W W' hjn hne hpb h he
        rcases (show j = 0 ∨ j = 1 ∨ j = 2 ∨ j = 3 ∨ j = 4 ∨ j = 5 ∨ j = 6 ∨ j = 7 by omega) with rfl | rfl | rfl | rfl | rfl | rfl | rfl | rfl
        · exact h
        · exact h
        · exact h
        · exact h
        · exact h
        · rcases s with _ | _ | _ | s
          · obtain ⟨k, h1, h2, h3⟩ := h
            exact ⟨k, h1, h2.call he, h3⟩
          · obtain rfl : 5 = i := by simpa using hs
            exact absurd rfl hne
          · obtain ⟨k, h1, h2, h3⟩ := h
            exact ⟨k, h1, h2.same (World.grownBy.block he k h2.lt (fun hh => h3 hh.symm)), h3⟩
          · simp at hs
        · rcases s with _ | _ | _ | s
          · exact h.keep he
          · exact h.keep he
          · obtain rfl : 6 = i := by simpa using hs
            exact absurd rfl hne
          · simp at hs
        · exact h
      case h0 => exact ⟨HS1.out.below (Below.drew (Below.refl _ _)), fun _ => HO1.out.keep (Below.drew (Below.refl _ _))⟩
      case hstep =>
        intro j hj hni s vs act W K ha' hst hd hu hK
        simp only [fillF, Act.put, List.take_succ_cons, List.take_zero, List.setIfInBounds_toArray, List.set_cons_zero, List.set_cons_succ] at ha'
        subst ha'
        clear hu
        have q0 := hst.1.node.cell (j := 0) rfl
        have q1 := hst.1.box.cell (j := 0) rfl
        rcases (show j = 0 ∨ j = 1 ∨ j = 2 ∨ j = 3 ∨ j = 4 ∨ j = 5 ∨ j = 6 ∨ j = 7 by omega) with rfl | rfl | rfl | rfl | rfl | rfl | rfl | rfl
        · refine wpOp_step rfl (fun K' hK' => ?_)
          go_simp
          exact hK' _ _ (hK _ rfl)
        · have e0 : vs 0 = .pointer (some ⟨m6, 0, none⟩) := hd 0 (by kernel_rfl)
          simp only [e0] at hK ⊢
          refine wpOp_step rfl (fun K' hK' => ?_)
          go_simp
          exact hK' _ _ (hK _ rfl)
        · refine wpOp_step rfl (fun K' hK' => ?_)
          go_simp
          exact hK' _ _ (hK _ rfl)
        · have e2 : vs 2 = .pointer (some ⟨m8, 0, none⟩) := hd 2 (by kernel_rfl)
          simp only [e2] at hK ⊢
          refine wpOp_step rfl (fun K' hK' => ?_)
          go_simp
          exact hK' _ _ (hK _ rfl)
        · exact (hni (by decide)).elim
        · exact (hni (by decide)).elim
        · exact (hni (by decide)).elim
        · refine wpOp_step rfl (fun K' hK' => ?_)
          go_simp
          exact hK' _ _ (hK _ rfl)
      case hcall =>
        intro s j hs vs act W K ha' hst hd hK
        simp only [fillF, Act.put, List.take_succ_cons, List.take_zero, List.setIfInBounds_toArray, List.set_cons_zero, List.set_cons_succ] at ha'
        subst ha'
        rcases s with _ | _ | _ | s
        · obtain rfl : 4 = j := by simpa using hs
          have e3 : vs 3 = .string (str sk) := hd 3 (by kernel_rfl)
          simp only [e3] at hK ⊢
          refine wpOp_step rfl (fun K' hK' => ?_)
          go_simp
          refine (HCL.out sk W HSL.out).mono ?_
          rintro e W' ⟨rfl, hbr⟩
          exact hK' _ _ (hK _ _ rfl hbr ⟨hst.1.below hbr, fun _ => (hst.2 (by decide)).keep hbr⟩)
        · obtain rfl : 5 = j := by simpa using hs
          have e4 : vs 4 = .string (str sk) := hd 4 (by kernel_rfl)
          simp only [e4] at hK ⊢
          refine wpOp_step rfl (fun K' hK' => ?_)
          go_simp
          have hown : kv.ownBlock ≠ some W.heap.size := fun hh => by have := ((hst.2 (by decide)).lt _ hh).2; omega
          have hba : Below W.heap.size W (W.alloc (.cells #[.string (str sk)] 9)) := (Below.refl _ _).alloc (Nat.le_refl _) _
          exact hK' _ _ (hK _ _ ⟨_, rfl, Blk.new W _ _, hown⟩ hba ⟨hst.1.below hba, fun _ => (hst.2 (by decide)).keep hba⟩)
        · obtain rfl : 6 = j := by simpa using hs
          have e1 : vs 1 = kv := hd 1 (by kernel_rfl)
          obtain ⟨k5, e5, y5, o5⟩ := hd 5 (by kernel_rfl)
          simp only [e1, e5] at hK ⊢
          refine wpOp_step rfl (fun K' hK' => ?_)
          rw [if_pos (by simp [Region.wanted])]
          refine wp_append_st (.tmp 24) (.tmp 28) rfl (m6 + 1) kv acc rfl (hst.2 (by decide)) sk k5 rfl y5 HACC.out hst.1.size ?_
          intro v' w' ho hg hw
          exact hK' _ _ (hK v' w' ho hg ⟨hst.1.grown hg HKV.out, fun hh => absurd hh (by decide)⟩)
        · simp at hs
      case hdone =>
        intro vs act W4 ha' hst hfs
        simp only [fillF, Act.put, List.take_succ_cons, List.take_zero, List.drop_succ_cons, List.drop_zero, List.setIfInBounds_toArray, List.set_cons_zero, List.set_cons_succ] at ha' ⊢
        subst ha'
        have f6 : OwnSt W4 (m6 + 1) (vs 6) (acc ++ [sk]) := hfs 6 (by decide)
        have f7 : vs 7 = .pointer (some ⟨m6, 0, none⟩) := hfs 7 (by decide)
        simp only [Nat.zero_add, Nat.reduceAdd, f7]
        clear hfs f7
        generalize vs 6 = v6 at *
        obtain ⟨a6, c6, e6, -, -, -, -⟩ := owns_shape f6
        obtain ⟨L6, hL6⟩ : ∃ L, (acc ++ [sk]).length = L := ⟨_, rfl⟩
        rw [hL6] at e6
        subst e6
        have st := hst.1
        have q0 := st.node.cell (j := 0) rfl
        have q2 := st.node.free 0
        have n5 : Blk (W4.setCell ⟨m6, 0, none⟩ (.slice a6 L6 c6)) m6 51 [.slice a6 L6 c6, vv, .slice none 0 0] := st.node.set 0 (.slice a6 L6 c6)
        have k5 : OwnSt (W4.setCell ⟨m6, 0, none⟩ (.slice a6 L6 c6)) (m6 + 1) (.slice a6 L6 c6) (acc ++ [sk]) := f6.set
        have i5 : OwnI (W4.setCell ⟨m6, 0, none⟩ (.slice a6 L6 c6)) (m6 + 1) vv accV := owns_same st.vals (fun b e => heap_setCell_other W4 ⟨m6, 0, none⟩ b _ (by have := HVV.out b e; show b ≠ m6; omega))
        have x5 := st.box.other ⟨m6, 0, none⟩ (.slice a6 L6 c6) (by have := st.apart.1; show m8 ≠ m6; omega)
        have low5 := st.low.setCell (p := ⟨m6, 0, none⟩) (Nat.le_refl _) (.slice a6 L6 c6)
        have size5 : m6 + 1 ≤ (W4.setCell ⟨m6, 0, none⟩ (.slice a6 L6 c6)).heap.size := by simpa [World.setCell] using st.size
        obtain ⟨W5, hW5⟩ : ∃ W, W4.setCell ⟨m6, 0, none⟩ (.slice a6 L6 c6) = W := ⟨_, rfl⟩
        rw [hW5] at n5 k5 i5 x5 low5 size5
        have hbx := (Below.refl W5.heap.size W5).alloc (Nat.le_refl _) (.cells #[.int .i64 y] 3)
        have bx : Blk _ _ _ [_] := Blk.new W5 #[.int .i64 y] 3
        obtain ⟨Wx, hWx⟩ : ∃ W, W5.alloc (.cells #[.int .i64 y] 3) = W := ⟨_, rfl⟩
        rw [hWx] at hbx bx
        have HW5 := Lib.hid hW5
        have HWX := Lib.hid hWx
        have HBX := Lib.hid bx
        have HIX := Lib.hid (i5.keep hbx)
        have HKX := Lib.hid (k5.keep hbx)
        have HNX := Lib.hid (n5.call hbx)
        have HLX := Lib.hid (below_stepE low5 (Nat.le_trans (Nat.le_succ _) size5) hbx)
        have HSX := Lib.hid (Nat.le_trans size5 hbx.size)
        have HX5 := Lib.hid x5
        have HN5 := Lib.hid n5
        have HTW := Lib.hid (st_i_apart k5 i5)
        clear hW5 hWx bx hbx n5 k5 i5 x5 low5 size5 st hst f6 hL6
        go_upto_region 6 with fail
        rw [HW5.out]
        clear q0 q2
        have q5 := HX5.out.cell (j := 1) rfl
        have q6 := HN5.out.cell (j := 1) rfl
        go_wp2_with (first | (at_builtin; rw [HWX.out]; refine wpList_append_i rfl (.tmp 32) (.tmp 35) rfl (m6 + 1) vv accV rfl HIX.out y _ rfl HBX.out HACCV.out HSX.out ?_; intro v9 w9 ho9 hg9 hw9; rw [← HTK.out.2] at ho9; have hk9 := HKX.out; rw [← HTK.out.1] at hk9; obtain ⟨hB9, hL9⟩ := Ld1.mk2 HLX.out HSX.out HNX.out hk9 HVV.out HTW.out hg9 ho9; have HL9 := Lib.hid hL9; have fr := hB9.free 1; have cr := hB9.cell (j := 1) rfl; obtain ⟨a9, c9, e9, -⟩ := owns_shape ho9; subst e9; generalize ((es.take (j + 1)).map Prod.snd).length = L9 at *; clear hL9 hB9 ho9 hg9 hw9 hk9) | fail)
        go_roundw
        case rel => exact ⟨j + 1, _, _, by omega, by go_num, HL9⟩
        case measure => simp [intOf]; omega
    · have hjE : j = E := by omega
      subst hjE
      have iI : ¬ (j : Int) < (j : Int) := by omega
      have hk := hS.out.keys
      have hv := hS.out.vals
      rw [List.take_of_length_le (by rw [HEE.out]; exact Nat.le_refl _)] at hk hv
      obtain ⟨a1, c1, e1, -, -, -, -⟩ := owns_shape hk
      obtain ⟨a2, c2, e2, -, -, -, -⟩ := owns_shape hv
      obtain ⟨L1, hL1⟩ : ∃ L, (es.map Prod.fst).length = L := ⟨_, rfl⟩
      obtain ⟨L2, hL2⟩ : ∃ L, (es.map Prod.snd).length = L := ⟨_, rfl⟩
      rw [hL1] at e1
      rw [hL2] at e2
      subst e1 e2
      have q0 := hS.out.node.cell (j := 0) rfl
      have q1 := hS.out.node.cell (j := 1) rfl
      have q2 := hS.out.node.cell (j := 2) rfl
      have hbx := (Below.refl wr.heap.size wr).alloc (Nat.le_refl _) (.cells #[.slice a1 L1 c1, .slice a2 L2 c2, .slice none 0 0] 51)
      have bx : Blk _ _ _ [_, _, _] := Blk.new wr #[.slice a1 L1 c1, .slice a2 L2 c2, .slice none 0 0] 51
      obtain ⟨Wx, hWx⟩ : ∃ W, wr.alloc (.cells #[.slice a1 L1 c1, .slice a2 L2 c2, .slice none 0 0] 51) = W := ⟨_, rfl⟩
      rw [hWx] at hbx bx
      have hbw : Below w.heap.size w Wx := by
        rw [HM6.out]
        exact below_stepE hS.out.low (Nat.le_trans (Nat.le_succ _) hS.out.size) hbx
      have hsx := hbx.size
      have hs6 := hS.out.size
      have hm6 := HM6.out
      have hLx := HL.out.same (w1 := Wx) (fun b hb => hbw.block b (HL.out.lt b hb))
      have HR3 : Hid (NqR Wx ⟨es.map Prod.fst, es.map Prod.snd, []⟩ (.slice a1 L1 c1, .slice a2 L2 c2, .slice none 0 0)) := Lib.hid ⟨owns_base (hk.keep hbx) (Nat.zero_le _), owns_base (hv.keep hbx) (Nat.zero_le _), OwnI.nil _ _⟩
      have HR3B : Hid ((blk3 (.slice a1 L1 c1, .slice a2 L2 c2, .slice none 0 0)).Nodup ∧ ∀ b ∈ blk3 (.slice a1 L1 c1, .slice a2 L2 c2, .slice none 0 0), w.heap.size ≤ b) := Lib.hid (by
        have t2 := st_i_apart hk hv
        have l1 := fun b e => (hk.lt b e).1
        have l2 := fun b e => (hv.lt b e).1
        refine ⟨?_, fun b hb => ?_⟩
        · simp only [blk3, show (Value.slice none 0 0).ownBlock = none from rfl, Option.toList_none, List.append_nil]
          generalize (Value.slice a1 L1 c1).ownBlock = o1 at *
          generalize (Value.slice a2 L2 c2).ownBlock = o2 at *
          cases o1 <;> cases o2 <;> grind
        · simp only [blk3, show (Value.slice none 0 0).ownBlock = none from rfl, Option.toList_none, List.append_nil, List.mem_append, Option.mem_toList] at hb
          rcases hb with hb | hb
          · have := l1 b hb; omega
          · have := l2 b hb; omega)
      have hrow := owns_same (w1 := Wx) HROW.out.1 (fun b e => hbw.block b (HROW.out.1.lt b e).2)
      have HROWX : Hid (Wx.ownsRow 0 51 3 (.slice aV a cV) a (cells3 rs)) := Lib.hid hrow
      have HNQX : Hid (NqRs Wx ns rs) := Lib.hid (HROW.out.2.1.same (fun b hb => hbw.block b (HROW.out.2.1.lt b hb)))
      have HWX := Lib.hid hWx
      have HBX : Hid (Blk Wx wr.heap.size 51 (cells31 (.slice a1 L1 c1, .slice a2 L2 c2, .slice none 0 0))) := Lib.hid bx
      have HBW := Lib.hid hbw
      have HA : Hid (a ≤ 1000) := Lib.hid (by have := HSZ.out; have := HNA.out; omega)
      have HSX : Hid (w.heap.size ≤ Wx.heap.size) := Lib.hid (by omega)
      clear hk hv hL1 hL2 hbx bx hWx hbw hsx hs6 hm6 hLx hrow
      have HLAST : Hid (∀ v9 w9, w9.ownsRow 0 51 3 v9 (a + 1) (cells3 (rs ++ [(.slice a1 L1 c1, .slice a2 L2 c2, .slice none 0 0)])) → Wx.grownBy w9 (Value.slice aV a cV).ownBlock → (v9.ownBlock = (Value.slice aV a cV).ownBlock ∨ v9.ownBlock = some Wx.heap.size) → (∃ F', LdN w9 v9 (midL ns es (ks.take 0)) F' ∧ F'.Nodup ∧ (∀ b ∈ F', b ∈ F ∨ w.heap.size ≤ b)) ∧ Chg F w w9) := Lib.hid (fun v9 w9 h1 h2 h3 => by
        rw [← HNA.out] at h1
        have hF := HROW.out.2.2
        have hvl : ∀ b, (Value.slice aV a cV).ownBlock = some b → b < w.heap.size := fun b e => (HROW.out.1.lt b e).2
        have hs := HSX.out
        obtain ⟨F', g1, g2, g3⟩ := LdN.snoc (v := .slice aV a cV) HNQX.out HR3.out h1 h2 h3 (by have := HND.out; rw [hF] at this; exact this) HR3B.out.1 (fun b hb hin => by
          have h5 := HR3B.out.2 b hb
          have h6 := HL.out.lt b (by rw [hF]; exact hin)
          omega) (fun b e => by have := hvl b e; omega)
        refine ⟨⟨F', ?_, g2, fun b hb => ?_⟩, (Chg.ofBelow F HBW.out).trans (.ofGrown F h2 (fun b e => by rw [hF]; simp [← e])) (fun x hx => .inl hx)⟩
        · have : midL ns es (ks.take 0) = ns ++ [⟨es.map Prod.fst, es.map Prod.snd, []⟩] := by simp [midL, kidPos, layL]
          rw [this]; exact g1
        · rcases g3 b hb with h | h | h
          · left; rw [hF]; exact h
          · right; exact HR3B.out.2 b h
          · right; omega)
      clear hS
      go_wp2_with (first | (at_builtin; rw [HWX.out]; refine wpList_append_n rfl (.tmp 39) (.tmp 41) rfl (.slice aV a cV) a rs rfl HROWX.out (.slice a1 L1 c1, .slice a2 L2 c2, .slice none 0 0) _ rfl HBX.out (fun u hu => by simp only [cells31, List.mem_cons, List.not_mem_nil, or_false] at hu; rcases hu with rfl | rfl | rfl <;> rfl) HA.out ?_; intro v9 w9 hr9 hg9 hw9; have HL9 := Lib.hid (HLAST.out v9 w9 hr9 hg9 hw9); have n2 := (HNODE.out w9 HL9.out.2).2; clear hr9 hg9 hw9 q0 q1 q2) | fail)
      clear n2
      go_loopw [0, 48] (fun v ix wr => ∃ (j : Nat), j ≤ C ∧ ix = .int .i64 j ∧ Hid ((∃ F', LdN wr v (midL ns es (ks.take j)) F' ∧ F'.Nodup ∧ (∀ b ∈ F', b ∈ F ∨ w.heap.size ≤ b)) ∧ Chg F w wr)) (fun _ ix _ => C - (intOf ix).toNat)
      case atStart => exact ⟨0, Nat.zero_le _, rfl, HL9⟩
      case round =>
        obtain ⟨j, hj, rfl, hR⟩ := hrel
        by_cases hlt : j < C
        · have iI : (j : Int) < (C : Int) := by omega
          obtain ⟨k, b, q, Gk, hkx, rfl, hGk, hq⟩ := HKID.out j hlt
          obtain ⟨⟨F', hL', hnd', hin'⟩, hc'⟩ := hR.out
          obtain ⟨p1, -⟩ := hq wr hc'
          obtain ⟨rs', hrow', hrs', rfl⟩ := hL'
          have hml := midL_len ns es (ks.take j)
          rcases id hrow'.2 with ⟨-, h0⟩ | ⟨gV, cV', cur, rfl, -, -, -, -, -, -⟩
          · exfalso; omega
          obtain ⟨L, hLL⟩ : ∃ L, (midL ns es (ks.take j)).length = L := ⟨_, rfl⟩
          rw [hLL] at hrow' hnd' hin' hml ⊢
          obtain ⟨⟨rk, rv, rd⟩, hr, hqr⟩ := hrs'.at (midL_at ns es (ks.take j))
          have hqC := hqr.C
          simp only at hqC
          have hkl : (kidPos (ns.length + 1) (ks.take j)).length ≤ 1000 := by rw [kidPos_len, List.length_take]; omega
          obtain ⟨kp, hkp⟩ : ∃ l, kidPos (ns.length + 1) (ks.take j) = l := ⟨_, rfl⟩
          rw [hkp] at hqC hkl
          obtain ⟨ad, cd, ed, -, -, -, -⟩ := owns_shape hqC
          obtain ⟨Ld, hLd⟩ : ∃ L, kp.length = L := ⟨_, rfl⟩
          rw [hLd] at ed
          subst ed
          rw [HNA.out] at hr hml
          have p0 : wr.cell? ⟨gV, a * 3 + 2, none⟩ = some (.slice ad Ld cd) := by
            rw [hrow'.cellAt _ (by omega), cells3_at rs' a 2 _ hr (by decide)]; rfl
          have aI : (a : Int) < (L : Int) := by omega
          have a0 : (0 : Int) ≤ (a : Int) := by omega
          have hbx := (Below.refl wr.heap.size wr).alloc (Nat.le_refl _) (.cells #[.int .i64 (L : Int)] 3)
          have bx : Blk _ _ _ [_] := Blk.new wr #[.int .i64 (L : Int)] 3
          obtain ⟨Wx, hWx⟩ : ∃ W, wr.alloc (.cells #[.int .i64 (L : Int)] 3) = W := ⟨_, rfl⟩
          rw [hWx] at hbx bx
          have HIX : Hid (OwnI Wx 0 (.slice ad Ld cd) kp) := Lib.hid (hqC.keep hbx)
          have HWX2 := Lib.hid hWx
          have HBX2 := Lib.hid bx
          have HKL := Lib.hid hkl
          have hstep : midL ns es (ks.take (j + 1)) = (midL ns es (ks.take j)).set a ⟨es.map Prod.fst, es.map Prod.snd, kp ++ [(L : Int)]⟩ ++ layN ((midL ns es (ks.take j)).set a ⟨es.map Prod.fst, es.map Prod.snd, kp ++ [(L : Int)]⟩).length k := by
            rw [take_snocT ks j k hkx, midL_step, hLL, hkp, HNA.out, List.length_set, hLL]
          have HK2 : Hid (∀ v9 w9, OwnI w9 0 v9 (kp ++ [(L : Int)]) → Wx.grownBy w9 (Value.slice ad Ld cd).ownBlock → (v9.ownBlock = (Value.slice ad Ld cd).ownBlock ∨ v9.ownBlock = some Wx.heap.size) → w9.cell? ⟨gV, a * 3 + 2, none⟩ = some (.slice ad Ld cd) ∧ w9.frozen? ⟨gV, a * 3 + 2, none⟩ = false ∧ Calls Try.prog 48 #[.slice (some ⟨gV, 0, none⟩) L cV', .pointer (some ⟨q, 0, none⟩)] (w9.setCell ⟨gV, a * 3 + 2, none⟩ v9) fun e w' => ∃ v', e = .returned v' ∧ (∃ F', LdN w' v' (midL ns es (ks.take (j + 1))) F' ∧ F'.Nodup ∧ (∀ b ∈ F', b ∈ F ∨ w.heap.size ≤ b)) ∧ Chg F w w') := Lib.hid (fun v9 w9 ho9 hg9 hw9 => by
            have hsx := hbx.size
            have hat := midL_at ns es (ks.take j)
            rw [hkp, HNA.out] at hat
            have hnd2 : (gV :: rs'.flatMap blk3).Nodup := hnd'
            have hin2 : ∀ b ∈ gV :: rs'.flatMap blk3, b ∈ F ∨ w.heap.size ≤ b := hin'
            have hg : ∀ b, b < wr.heap.size → (Value.slice ad Ld cd).ownBlock ≠ some b → w9.heap[b]? = wr.heap[b]? := fun b hb hn => by
              rw [hg9.block b (by omega) (fun e => hn e.symm), hbx.block b hb]
            obtain ⟨g1, g2, F3, g3, g4, g5⟩ := LdN.kid (x := (L : Int)) hrow' hrs' hLL hnd2 hat hr hg ho9 (hw9.imp id (fun h => ⟨_, h, hsx⟩))
            refine ⟨g1, g2, ?_⟩
            have hcs := hc'.size
            have hF3 : ∀ b ∈ F3, b ∈ F ∨ w.heap.size ≤ b := fun b hb => by
              rcases g5 b hb with h | h
              · exact hin2 b h
              · right; omega
            have hrdF : ∀ b, (Value.slice ad Ld cd).ownBlock = some b → b ∈ gV :: rs'.flatMap blk3 := fun b e => List.mem_cons_of_mem _ (List.mem_flatMap.2 ⟨_, List.mem_of_getElem? hr, by simp [blk3, e]⟩)
            have c1 : Chg (gV :: rs'.flatMap blk3) wr (w9.setCell ⟨gV, a * 3 + 2, none⟩ v9) := ((Chg.ofBelow _ hbx).trans (.ofGrown (gV :: rs'.flatMap blk3) hg9 (fun b e => hrdF b e)) (fun x hx => .inl hx)).trans (Chg.setCell (F := gV :: rs'.flatMap blk3) _ _ (List.mem_cons_self ..)) (fun x hx => .inl hx)
            have c2 : Chg F w (w9.setCell ⟨gV, a * 3 + 2, none⟩ v9) := hc'.trans c1 hin2
            have hkm := List.mem_of_getElem? hkx
            obtain ⟨d', hd', hok'⟩ : ∃ d', d' < n ∧ okT d' k := by
              have hok := HOK.out
              have hd := HD.out
              cases d with
              | zero => simp only [okT] at hok; rw [hok.2.2] at hkm; cases hkm
              | succ d => simp only [okT] at hok; exact ⟨d, by omega, hok.2.2.2 k hkm⟩
            have hfit := sh_fit0 d _ HK3.out.2.2
            simp only [Tr.es, Tr.ks] at hfit
            have hkyk : ∀ e ∈ flatT k, e.1.length ≤ 1000000 := fun e he => HKY.out e (by
              rw [flat_mk]
              refine (inter_kid es (flatL ks) (flatT k) ?_ (by rw [flatL_map]; exact List.mem_map.2 ⟨k, hkm, rfl⟩)).subset he
              rw [flatL_map, List.length_map]
              rcases hfit with h | h
              · rw [h]; simp
              · omega)
            have hNk := (hq _ c2).2
            have hszk : ((midL ns es (ks.take j)).set a ⟨es.map Prod.fst, es.map Prod.snd, kp ++ [(L : Int)]⟩).length + sizeT k ≤ 1000 := by
              rw [List.length_set, hLL, hml]
              have h1 := sizeL_take_le ks j k hkx
              have h2 := HSZ.out
              have h3 := HNA.out
              simp only [sizeT] at h2
              omega
            refine (HIH.out d' k q Gk _ _ F3 _ hd' hok' hkyk hNk g3 g4 (fun b hb hb3 => ?_) hszk).mono ?_
            · have h1 := hGk b hb
              rcases hF3 b hb3 with h | h
              · exact h1.2 h
              · omega
            · rintro e w' ⟨v', F4, rfl, l1, l2, l3, l4⟩
              have hc2s := c2.size
              refine ⟨v', rfl, ⟨F4, by rw [hstep]; exact l1, l2, fun b hb => ?_⟩, c2.trans l4 hF3⟩
              rcases l3 b hb with h | h
              · exact hF3 b h
              · right; omega)
          clear hkx hGk hq hR hnd' hin' hc' hrow' hrs' hml hr hqr hqC hkl hkp hLd hbx bx hWx hstep hLL
          go_wp2_with (first | (at_builtin; rw [HWX2.out]; refine wpList_append_i rfl (.tmp 58) (.tmp 61) rfl 0 (.slice ad Ld cd) kp rfl HIX.out (L : Int) _ rfl HBX2.out HKL.out (Nat.zero_le _) ?_; intro v9 w9 ho9 hg9 hw9; obtain ⟨cr, fr, cL⟩ := HK2.out v9 w9 ho9 hg9 hw9; obtain ⟨a9, c9, e9, -⟩ := owns_shape ho9; subst e9; generalize (kp ++ [(L : Int)]).length = L9 at *; clear ho9 hg9 hw9 p0 p1) | fail)
          refine cL.mono ?_
          rintro e w9' ⟨v', rfl, hnext⟩
          have HNEXT := Lib.hid hnext
          clear cL hnext cr fr
          go_wp2_with fail
          go_roundw
          case rel => exact ⟨j + 1, by omega, by go_num, HNEXT⟩
          case measure => simp [intOf]; omega
        · have hjC : j = C := by omega
          subst hjC
          have iI : ¬ (j : Int) < (j : Int) := by omega
          have HEND := hR.out
          rw [List.take_of_length_le (by rw [HCC.out]; exact Nat.le_refl _), midL_end] at HEND
          obtain ⟨⟨F', g1, g2, g3⟩, g4⟩ := HEND
          have HG1 := Lib.hid g1
          clear g1 hR
          have HG2 := Lib.hid g2
          have HG3 := Lib.hid g3
          have HG4 := Lib.hid g4
          clear g2 g3 g4
          go_wp2_with fail
          go_ret
          exact ⟨_, F', rfl, HG1.out, HG2.out, HG3.out, HG4.out⟩
theorem laid_any : ∀ (n d : Nat) (t : Tr) (p : Nat) (G : List Nat) (V : Value) (ns : List Nq) (F : List Nat) (w : World), d < n → okT d t → (∀ e ∈ flatT t, e.1.length ≤ 1000000) → NdT w t p G → LdN w V ns F → F.Nodup → (∀ b ∈ G, b ∉ F) → ns.length + sizeT t ≤ 1000 → Calls Try.prog 48 #[V, .pointer (some ⟨p, 0, none⟩)] w (LaidPost ns t F w)
  | 0, d, _, _, _, _, _, _, _, h, _, _, _, _, _, _, _ => by omega
  | n + 1, d, .mk es ks, p, G, V, ns, F, w, hd, hok, hky, hN, hL, hnd, hdis, hsz => laid_step n (laid_any n) d es ks p G V ns F w hd hok hky hN hL hnd hdis hsz
end Go.Proofs.Ytopgakdgifmecaa
