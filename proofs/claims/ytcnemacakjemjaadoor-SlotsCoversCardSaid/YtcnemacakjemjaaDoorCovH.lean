/-
  CONTRACT of package slots' CoverOf: steps of its closure.
  CONDITIONS: each theorem's own hypotheses.
-/
import Derived.Test.YtcnemacakjemjaaDoorCovB
import Derived.Test.YtcnemacakjemjaaDoorSlotN
import Derived.Test.YtcnemacakjemjaaDoorGPath
import Derived.Deep.AppendLies
import Derived.Laws.EntriesVeiled
namespace Go.Proofs.YtcnemacakjemjaaDoor
open Go.RowKit CodeMath Go.Proofs.YtcnemacakjemjaaDoor.FrameMath
set_option linter.unusedVariables false
set_option maxRecDepth 100000

/-- append(rows, l), at an operation, in whatever world. -/
theorem wp_append_row {o : Oper} {a : Act} {K : Act → World → Prop} {Q : Exit → Act → World → Prop} {w : World} (s x : Operand)
    (ho : o.op = .call { callee := .builtin .append, args := #[s, x], argTypes := #[24, 24] }) (base : Nat) (v : Value) (rows : List (List UInt8)) (hs : a.eval s = v) (hown : OwnL w base v rows)
    (u : Value) (l : List UInt8) (k : Nat) (hx : a.eval x = .slice (some ⟨k, 0, none⟩) 1 1) (hc : w.cell? ⟨k, 0, none⟩ = some u) (hu : RowT w u l) (hl : rows.length ≤ 1000000) (hb : base ≤ w.heap.size)
    (h : ∀ v' w', OwnL w' base v' (rows ++ [l]) → w.grownBy w' v.ownBlock → K (a.put o.dst v') w') : o.wp Tryd.prog a w K Q := by
  obtain ⟨us, h1, h2⟩ := hown
  obtain ⟨i0, hi, hz0, hz1, hz2⟩ := info_parts infoL
  have huo : u.oneCell' = true := by obtain ⟨_, _, rfl, _⟩ := hu; rfl
  refine wp_append_lies (P := Tryd.prog) w s x 24 ho base 37 i0 (.slice none 0 0) 1 24 Tryd.underlying24 hi hz0 hz1 hz2 rfl (by decide) v rows.length us hs h1 ⟨k, 0, none⟩ 1 1 [u] hx rfl ?_ (by simpa using huo) (by decide) (by unfold maxLen; omega) (by omega) hb _ rfl ?_
  · intro j u' hj
    match j, hj with
    | 0, hj => simp at hj; subst hj; rw [addr_zero]; exact hc
  · intro g cap w' k1 k2 _ _
    have hty : ∀ b, v.ownBlock = some b → ∃ cur T fz, w.heap[b]? = some (.cells cur T fz) ∧ (T = 37 ∨ T = 24) := fun b hb => by
      obtain ⟨cur, fz, h⟩ := ownsRow_typed h1 b hb
      exact ⟨cur, _, fz, h, .inl rfl⟩
    refine h _ w' ⟨us ++ [u], by rw [List.length_append]; exact k1, fun i l' hi' => ?_⟩ k2
    have hul : us.length = rows.length := by have := h1.1; omega
    by_cases hil : i < rows.length
    · rw [List.getElem?_append_left hil] at hi'
      obtain ⟨u', q1, q2⟩ := h2 i l' hi'
      exact ⟨u', by rw [List.getElem?_append_left (by omega)]; exact q1, q2.grown k2 hty⟩
    · rw [List.getElem?_append_right (by omega)] at hi'
      have hi0 : i - rows.length = 0 := by
        rcases Nat.eq_zero_or_pos (i - rows.length) with h0 | h0
        · exact h0
        · rw [List.getElem?_eq_none (by simp; omega)] at hi'; cases hi'
      rw [hi0] at hi'
      simp only [List.getElem?_cons_zero, Option.some.injEq] at hi'
      subst hi'
      exact ⟨u, by rw [List.getElem?_append_right (by omega), show i - us.length = 0 by omega]; rfl, hu.grown k2 hty⟩
/-- append(l, s), one slot, at an operation. -/
theorem wp_append_sl {o : Oper} {a : Act} {K : Act → World → Prop} {Q : Exit → Act → World → Prop} {w : World} (s x : Operand)
    (ho : o.op = .call { callee := .builtin .append, args := #[s, x], argTypes := #[22, 22] }) (base : Nat) (v : Value) (l : List Sl) (hs : a.eval s = v) (hown : OwnSl w base v l)
    (y : Sl) (us ud : Value) (k : Nat) (hx : a.eval x = .slice (some ⟨k, 0, none⟩) 1 1) (hc : Blk w k 39 [.bool y.f, us, ud]) (hus : RowU w us y.s) (hud : RowU w ud y.d) (hl : l.length ≤ 1000000) (hb : base ≤ w.heap.size)
    (h : ∀ v' w', OwnSl w' base v' (l ++ [y]) → w.grownBy w' v.ownBlock → K (a.put o.dst v') w') : o.wp Tryd.prog a w K Q := by
  obtain ⟨vs, h1, h2⟩ := hown
  obtain ⟨i0, hi, hz0, hz1, hz2⟩ := info_parts infoSl
  have o1 : us.oneCell' = true := by obtain ⟨_, _, rfl, _⟩ := hus; rfl
  have o2 : ud.oneCell' = true := by obtain ⟨_, _, rfl, _⟩ := hud; rfl
  refine wp_append_lies (P := Tryd.prog) w s x 22 ho base 39 i0 _ 3 56 Tryd.underlying22 hi hz0 hz1 hz2 rfl (by decide) v l.length vs hs h1 ⟨k, 0, none⟩ 1 1 [.bool y.f, us, ud] hx rfl ?_ ?_ (by decide) (by unfold maxLen; omega) (by omega) hb _ rfl ?_
  · intro j u' hj
    have hj3 : j < 3 := by have := (List.getElem?_eq_some_iff.1 hj).1; simpa using this
    have haa : (⟨k, 0, none⟩ : Addr).add j = ⟨k, j, none⟩ := by unfold Addr.add; split <;> simp_all
    rw [haa]
    exact hc.cell hj
  · intro u' hu'
    simp at hu'
    rcases hu' with rfl | rfl | rfl
    · rfl
    · exact o1
    · exact o2
  · intro g cap w' k1 k2 _ _
    have hty : ∀ b, v.ownBlock = some b → ∃ cur T fz, w.heap[b]? = some (.cells cur T fz) ∧ T ≠ 5 := fun b hb => by
      obtain ⟨cur, fz, h⟩ := ownsRow_typed h1 b hb
      exact ⟨cur, _, fz, h, by decide⟩
    refine h _ w' ⟨vs ++ [.bool y.f, us, ud], by rw [List.length_append]; exact k1, fun i z hi' => ?_⟩ k2
    have hul : vs.length = l.length * 3 := by have := h1.1; omega
    by_cases hil : i < l.length
    · rw [List.getElem?_append_left hil] at hi'
      obtain ⟨p, q, q1, q2, q3, q4, q5⟩ := h2 i z hi'
      exact ⟨p, q, by rw [List.getElem?_append_left (by omega)]; exact q1, by rw [List.getElem?_append_left (by omega)]; exact q2, by rw [List.getElem?_append_left (by omega)]; exact q3, q4.grown k2 hty, q5.grown k2 hty⟩
    · rw [List.getElem?_append_right (by omega)] at hi'
      have hi0 : i - l.length = 0 := by
        rcases Nat.eq_zero_or_pos (i - l.length) with h0 | h0
        · exact h0
        · rw [List.getElem?_eq_none (by simp; omega)] at hi'; cases hi'
      rw [hi0] at hi'
      simp only [List.getElem?_cons_zero, Option.some.injEq] at hi'
      subst hi'
      refine ⟨us, ud, ?_, ?_, ?_, hus.grown k2 hty, hud.grown k2 hty⟩
      · rw [List.getElem?_append_right (by omega), show i * 3 - vs.length = 0 by omega]; rfl
      · rw [List.getElem?_append_right (by omega), show i * 3 + 1 - vs.length = 1 by omega]; rfl
      · rw [List.getElem?_append_right (by omega), show i * 3 + 2 - vs.length = 2 by omega]; rfl
/-- Slots of the call's own stay while a list of other elements grows. -/
theorem OwnSl.beside {w w' : World} {base : Nat} {v : Value} {l : List Sl} (h : OwnSl w base v l) {row : Option Nat} (hg : w.grownBy w' row) (hr : ∀ b, row = some b → ∃ cur T fz, w.heap[b]? = some (.cells cur T fz) ∧ T ≠ 5 ∧ T ≠ 39) : OwnSl w' base v l := by
  obtain ⟨us, h1, h2⟩ := h
  have hr' : ∀ b, row = some b → ∃ cur T fz, w.heap[b]? = some (.cells cur T fz) ∧ T ≠ 5 := fun b hb => by
    obtain ⟨cur, T, fz, q1, q2, _⟩ := hr b hb; exact ⟨cur, T, fz, q1, q2⟩
  refine ⟨us, World.ownsRow.kept h1 hg ?_, fun i x hi => ?_⟩
  · cases hv : v.ownBlock with
    | none => exact .inl rfl
    | some b =>
      refine .inr (fun he => ?_)
      obtain ⟨cur, T, fz, q1, _, q3⟩ := hr b he.symm
      obtain ⟨cur2, fz2, q4⟩ := ownsRow_typed h1 b hv
      rw [q1] at q4
      cases q4
      exact q3 rfl
  · obtain ⟨a, b, k1, k2, k3, k4, k5⟩ := h2 i x hi
    exact ⟨a, b, k1, k2, k3, k4.grown hg hr', k5.grown hg hr'⟩
theorem OwnL.beside {w w' : World} {base : Nat} {v : Value} {l : List (List UInt8)} (h : OwnL w base v l) {row : Option Nat} (hg : w.grownBy w' row) (hr : ∀ b, row = some b → ∃ cur T fz, w.heap[b]? = some (.cells cur T fz) ∧ ¬ ByteT T ∧ T ≠ 37) : OwnL w' base v l := by
  obtain ⟨us, h1, h2⟩ := h
  have hr' : ∀ b, row = some b → ∃ cur T fz, w.heap[b]? = some (.cells cur T fz) ∧ ¬ ByteT T := fun b hb => by
    obtain ⟨cur, T, fz, q1, q2, _⟩ := hr b hb; exact ⟨cur, T, fz, q1, q2⟩
  refine ⟨us, World.ownsRow.kept h1 hg ?_, fun i x hi => ?_⟩
  · cases hv : v.ownBlock with
    | none => exact .inl rfl
    | some b =>
      refine .inr (fun he => ?_)
      obtain ⟨cur, T, fz, q1, _, q3⟩ := hr b he.symm
      obtain ⟨cur2, fz2, q4⟩ := ownsRow_typed h1 b hv
      rw [q1] at q4
      cases q4
      exact q3 rfl
  · obtain ⟨u, k1, k2⟩ := h2 i x hi
    exact ⟨u, k1, k2.grownT hg hr'⟩
theorem OwnSl.typed {w : World} {base : Nat} {v : Value} {l : List Sl} (h : OwnSl w base v l) (b : Nat) (hb : v.ownBlock = some b) : (∃ cur fz, w.heap[b]? = some (.cells cur 39 fz)) ∧ base ≤ b ∧ b < w.heap.size := by
  obtain ⟨us, h1, h2⟩ := h
  exact ⟨ownsRow_typed h1 b hb, h1.lt b hb⟩
theorem OwnL.typed {w : World} {base : Nat} {v : Value} {l : List (List UInt8)} (h : OwnL w base v l) (b : Nat) (hb : v.ownBlock = some b) : (∃ cur fz, w.heap[b]? = some (.cells cur 37 fz)) ∧ base ≤ b ∧ b < w.heap.size := by
  obtain ⟨us, h1, h2⟩ := h
  exact ⟨ownsRow_typed h1 b hb, h1.lt b hb⟩
def CloneF (g : Nat) (f : Bool) (us ud : Value) (s d : List UInt8) : Nat → Value → World → Prop
  | 0, v, _ => v = .pointer (some ⟨g, 0, none⟩)
  | 1, v, _ => v = .bool f
  | 2, v, _ => v = .pointer (some ⟨g, 1, none⟩)
  | 3, v, _ => v = us
  | 4, v, w => RowU w v s
  | 5, v, _ => v = .pointer (some ⟨g, 2, none⟩)
  | 6, v, _ => v = ud
  | 7, v, w => RowU w v d
  | 8, v, w => ∃ a b, v = .agg #[.bool f, a, b] ∧ RowU w a s ∧ RowU w b d
  | _, _, _ => True
theorem cloneF_keep {g : Nat} {f : Bool} {us ud : Value} {s d : List UInt8} (i : Nat) (v : Value) (w w' : World) (h : CloneF g f us ud s d i v w) (he : Below w.heap.size w w') : CloneF g f us ud s d i v w' := by
  unfold CloneF at *
  split at h <;> (try exact h) <;> (try exact trivial)
  · exact h.keep he
  · exact h.keep he
  · obtain ⟨a, b, h1, h2, h3⟩ := h; exact ⟨a, b, h1, h2.keep he, h3.keep he⟩
set_option maxHeartbeats 2000000 in
theorem clone_any (f : Bool) (us ud : Value) (s d : List UInt8) (w : World) (hs : RowV w us s) (hd : RowV w ud d) (ls : s.length ≤ 140737488351232) (ld : d.length ≤ 140737488351232) :
    Calls Tryd.prog 10 #[.agg #[.bool f, us, ud]] w fun e w' => ∃ a b, e = .returned (.agg #[.bool f, a, b]) ∧ RowU w' a s ∧ RowU w' b d ∧ Below w.heap.size w w' := by
  obtain ⟨a1, k1, hus, -⟩ := id hs
  obtain ⟨a2, k2, hud, -⟩ := id hd
  obtain ⟨w2, hw2⟩ : ∃ w2, (w.alloc (.cells #[.bool f, us, ud] 39)).alloc (.cells #[.bool false, .slice none 0 0, .slice none 0 0] 39) = w2 := ⟨_, rfl⟩
  have hb1 : Below w.heap.size w (w.alloc (.cells #[.bool f, us, ud] 39)) := (Below.refl _ _).alloc (Nat.le_refl _) _
  have hb2 : Below w.heap.size w w2 := by rw [← hw2]; exact hb1.alloc hb1.size _
  have z1 : Blk w2 w.heap.size 39 [.bool f, us, ud] := by rw [← hw2]; exact (Blk.new w #[.bool f, us, ud] 39).alloc _
  have z2 : Blk w2 (w.heap.size + 1) 39 [.bool false, .slice none 0 0, .slice none 0 0] := by rw [← hw2]; exact Blk.atNew _ _ (by simp)
  have Q : ∀ W, Below w2.heap.size w2 W → W.cell? ⟨w.heap.size, 0, none⟩ = some (.bool f) ∧ W.cell? ⟨w.heap.size, 1, none⟩ = some us ∧ W.cell? ⟨w.heap.size, 2, none⟩ = some ud := fun W hW => ⟨(z1.call hW).cell rfl, (z1.call hW).cell rfl, (z1.call hW).cell rfl⟩
  have C1 : ∀ W, Below w2.heap.size w2 W → _ := fun W hW => cloneB_any s us W (hs.keep (below_step hb2 hb2.size hW)) ls
  have C2 : ∀ W, Below w2.heap.size w2 W → _ := fun W hW => cloneB_any d ud W (hd.keep (below_step hb2 hb2.size hW)) ld
  have HB2 := Lib.hid hb2
  have Z2 := Lib.hid z2
  have HU1 := Lib.hid hus
  have HU2 := Lib.hid hud
  clear hs hd ls ld hb1 hb2 z1 z2
  have C1' := Lib.hid C1
  have C2' := Lib.hid C2
  subst hus hud
  generalize s.length = sl at *
  generalize d.length = dl at *
  go_enter Tryd.func10, Tryd.ntmps10
  go_upto_region 1 with fail
  clear hw2
  refine wp_region_facts' 9 (by kernel_rfl) (by kernel_rfl) (CloneF w.heap.size f (.slice a1 sl k1) (.slice a2 dl k2) s d) (fun W => Below w2.heap.size w2 W) (fun W W' => Below W.heap.size W W') ?hC ?hF ?h0 ?hstep ?hdone
  case hC => exact fun W W' hc he => below_step hc hc.size he
  case hF => exact cloneF_keep
  case h0 => exact (Below.refl _ _).drew
  case hstep =>
    intro i hj vs act W K ha' hc hd hu hK
    simp only [fillF, Act.put, List.take_succ_cons, List.take_zero, List.setIfInBounds_toArray, List.set_cons_zero, List.set_cons_succ] at ha'
    subst ha'
    clear hu
    rcases (show i = 0 ∨ i = 1 ∨ i = 2 ∨ i = 3 ∨ i = 4 ∨ i = 5 ∨ i = 6 ∨ i = 7 ∨ i = 8 by omega) with rfl | rfl | rfl | rfl | rfl | rfl | rfl | rfl | rfl
    · refine wpOp_step rfl (fun K' hK' => ?_)
      go_simp
      exact hK' _ _ (hK _ _ rfl (Below.refl _ _))
    · have e0 : vs 0 = .pointer (some ⟨w.heap.size, 0, none⟩) := hd 0 (by kernel_rfl)
      simp only [e0] at hK ⊢
      have q1 := (Q W hc).1
      refine wpOp_step rfl (fun K' hK' => ?_)
      go_simp
      exact hK' _ _ (hK _ _ rfl (Below.refl _ _))
    · refine wpOp_step rfl (fun K' hK' => ?_)
      go_simp
      exact hK' _ _ (hK _ _ rfl (Below.refl _ _))
    · have e2 : vs 2 = .pointer (some ⟨w.heap.size, 1, none⟩) := hd 2 (by kernel_rfl)
      simp only [e2] at hK ⊢
      have q1 := (Q W hc).2.1
      refine wpOp_step rfl (fun K' hK' => ?_)
      go_simp
      exact hK' _ _ (hK _ _ rfl (Below.refl _ _))
    · have e3 : vs 3 = .slice a1 sl k1 := hd 3 (by kernel_rfl)
      simp only [e3] at hK ⊢
      refine wpOp_step rfl (fun K' hK' => ?_)
      go_simp
      refine (C1 W hc).mono ?_
      rintro e W' ⟨v, rfl, hr, hb⟩
      exact hK' _ _ (hK _ _ hr hb)
    · refine wpOp_step rfl (fun K' hK' => ?_)
      go_simp
      exact hK' _ _ (hK _ _ rfl (Below.refl _ _))
    · have e5 : vs 5 = .pointer (some ⟨w.heap.size, 2, none⟩) := hd 5 (by kernel_rfl)
      simp only [e5] at hK ⊢
      have q1 := (Q W hc).2.2
      refine wpOp_step rfl (fun K' hK' => ?_)
      go_simp
      exact hK' _ _ (hK _ _ rfl (Below.refl _ _))
    · have e6 : vs 6 = .slice a2 dl k2 := hd 6 (by kernel_rfl)
      simp only [e6] at hK ⊢
      refine wpOp_step rfl (fun K' hK' => ?_)
      go_simp
      refine (C2 W hc).mono ?_
      rintro e W' ⟨v, rfl, hr, hb⟩
      exact hK' _ _ (hK _ _ hr hb)
    · have e1 : vs 1 = .bool f := hd 1 (by kernel_rfl)
      have y4 : RowU W (vs 4) s := hd 4 (by kernel_rfl)
      have y7 : RowU W (vs 7) d := hd 7 (by kernel_rfl)
      simp only [e1] at hK ⊢
      have HK := Lib.hid hK
      clear hK
      generalize vs 4 = v4 at *
      generalize vs 7 = v7 at *
      obtain ⟨a4, k4, rfl, -⟩ := id y4
      obtain ⟨a7, k7, rfl, -⟩ := id y7
      have hK := HK.out
      refine wpOp_step rfl (fun K' hK' => ?_)
      go_simp
      exact hK' _ _ (hK _ _ ⟨_, _, rfl, y4, y7⟩ (Below.refl _ _))

  case hdone =>
    intro vs act W ha' hc hf
    simp only [fillF, Act.put, List.take_succ_cons, List.take_zero, List.drop_succ_cons, List.drop_zero, List.setIfInBounds_toArray, List.set_cons_zero, List.set_cons_succ] at ha' ⊢
    subst ha'
    obtain ⟨a, b, f8, ra, rb⟩ : ∃ a b, vs 8 = .agg #[.bool f, a, b] ∧ RowU W a s ∧ RowU W b d := hf 8 (by decide)
    simp only [Nat.zero_add, Nat.reduceAdd, f8]
    have z2 := Z2.out.call hc
    have hbW := below_step HB2.out HB2.out.size hc
    obtain ⟨a3, k3, rfl, -⟩ := id ra
    obtain ⟨a4, k4, rfl, -⟩ := id rb
    have c0 := z2.cell (j := 0) rfl
    have c1 := z2.cell (j := 1) rfl
    have c2 := z2.cell (j := 2) rfl
    have y0 := z2.free 0
    have y1 := z2.free 1
    have y2 := z2.free 2
    have z3 : Blk (((W.setCell ⟨w.heap.size + 1, 0, none⟩ (.bool f)).setCell ⟨w.heap.size + 1, 1, none⟩ (.slice a3 s.length k3)).setCell ⟨w.heap.size + 1, 2, none⟩ (.slice a4 d.length k4)) (w.heap.size + 1) 39 [.bool f, .slice a3 s.length k3, .slice a4 d.length k4] := ((z2.set 0 _).set 1 _).set 2 _
    have hty : ∀ b, some (w.heap.size + 1) = some b → ∃ cur T fz, W.heap[b]? = some (.cells cur T fz) ∧ T ≠ 5 := fun b hb => by cases hb; exact ⟨_, _, _, z2, by decide⟩
    have hg : W.grownBy (((W.setCell ⟨w.heap.size + 1, 0, none⟩ (.bool f)).setCell ⟨w.heap.size + 1, 1, none⟩ (.slice a3 s.length k3)).setCell ⟨w.heap.size + 1, 2, none⟩ (.slice a4 d.length k4)) (some (w.heap.size + 1)) := grown_trans (grown_trans (mv_cell _ _ _ _) (mv_cell _ _ _ _)) (mv_cell _ _ _ _)
    have hE : Hid (RowU _ (.slice a3 s.length k3) s ∧ RowU _ (.slice a4 d.length k4) d ∧ Below w.heap.size w _) := ⟨ra.grown hg hty, rb.grown hg hty, hbW.grown hg hbW.size (fun k h => by cases h; exact Nat.le_succ _)⟩
    clear hf ra rb z2 hty hg hbW Q C1 C2 C1' C2' f8
    generalize s.length = ls at *
    generalize d.length = ld at *
    go_wp2_with fail
    refine bodyPost_ret (results_arr rfl _ _ (w.heap.size + 1) [.bool f, .slice a3 ls k3, .slice a4 ld k4] rfl z3 rfl rfl (by kernel_rfl)) rfl ⟨_, _, rfl, hE.out⟩
end Go.Proofs.YtcnemacakjemjaaDoor
