/-
  CONTRACT of package tree's each, with the visitor of List.
  CONDITIONS: each theorem's own hypotheses.
-/
import Derived.Test.YtopgakdgifmecaaTEachK
import Derived.Test.YtopgakdgifmecaaTPairs
import Derived.Test.YtopgakdgifmecaaTFlat
import Derived.Test.YtopgakdgifmecaaShelfC
import Derived.Shelf.Strconv.Clone
namespace Go.Proofs.Ytopgakdgifmecaa
open Go.RowKit
set_option linter.unusedVariables false
set_option maxRecDepth 100000

theorem tclone_any (l : List UInt8) (w : World) (hl : l.length ≤ 1000000) :
    Calls Try.prog 38 #[.string (str l)] w fun e w' => e = .returned (.string (str l)) ∧ Below w.heap.size w w' := by
  have hsz := str_size l
  have cC := fun W => Any.stringslite_Clone Try.laysClone (str l) W (by omega)
  generalize str l = s at *
  clear hsz
  go_enter Try.func38, Try.ntmps38
  go_wp2_with fail
  refine (cC _).mono ?_
  rintro e w1 ⟨rfl, hb⟩
  clear cC
  go_wp2_with fail
  go_ret
  exact ⟨rfl, hb⟩
theorem leq_not (a b : List UInt8) : (lessS a b || (a == b)) = !lessS b a := by
  by_cases e : a = b
  · subst e; rw [lessS_irr]; simp
  · have e2 : (a == b) = false := by simpa using e
    rw [e2, Bool.or_false]
    cases h : lessS a b with
    | true => rw [lessS_asym a b h]; rfl
    | false =>
      cases h2 : lessS b a with
      | true => rfl
      | false => exact absurd (lessS_tot a b h h2) e
/-- The pairs that were visited so far and stand from A to B lie in the variable g. -/
structure PrSt (A B : List UInt8) (w0 W : World) (g : Nat) (acc : List En) : Prop where
  low : Below g w0 W
  size : g + 1 ≤ W.heap.size
  row : ∃ v, Blk W g 27 [v] ∧ OwnPr W (g + 1) v (listR acc A B)
theorem PrSt.below {A B : List UInt8} {w0 W W' : World} {g : Nat} {acc : List En} (h : PrSt A B w0 W g acc) (hb : Below W.heap.size W W') : PrSt A B w0 W' g acc := by
  obtain ⟨v, h1, h2⟩ := h.row
  exact ⟨below_stepE h.low (Nat.le_trans (Nat.le_succ _) h.size) hb, Nat.le_trans h.size hb.size, v, h1.call hb, h2.keep hb⟩
theorem PrSt.fresh {A B : List UInt8} {w0 wr wa : World} {g : Nat} {acc : List En} (h : PrSt A B w0 wr g acc) (hb : Below wr.heap.size wr wa) : ∀ v, wa.cell? ⟨g, 0, none⟩ = some v → v.ownBlock ≠ some wr.heap.size := fun v hv e => by
  obtain ⟨u, h1, h2⟩ := h.row
  rw [hb.cell (p := ⟨g, 0, none⟩) h1.lt, h1.cell (j := 0) rfl] at hv
  obtain rfl := Option.some.inj hv
  have := (h2.lt _ e).2
  omega
theorem OwnPr.set {w : World} {g j : Nat} {v u : Value} {l : List En} (h : OwnPr w (g + 1) v l) : OwnPr (w.setCell ⟨g, j, none⟩ u) (g + 1) v l :=
  owns_same h (fun b e => heap_setCell_other w ⟨g, j, none⟩ b u (by have := (h.lt b e).1; show b ≠ g; omega))
/-- While an entry is visited. -/
structure VSt (w0 W : World) (g ge : Nat) (vr : Value) (key : List UInt8) (x : Int) : Prop where
  low : Below g w0 W
  size : g + 1 ≤ W.heap.size
  var : Blk W g 27 [vr]
  ent : Blk W ge 73 [.string (str key), .int .i64 x]
  apart : g < ge ∧ vr.ownBlock ≠ some ge
theorem VSt.below {w0 W W' : World} {g ge : Nat} {vr : Value} {key : List UInt8} {x : Int} (h : VSt w0 W g ge vr key x) (hb : Below W.heap.size W W') : VSt w0 W' g ge vr key x :=
  ⟨below_stepE h.low (Nat.le_trans (Nat.le_succ _) h.size) hb, Nat.le_trans h.size hb.size, h.var.call hb, h.ent.call hb, h.apart⟩
theorem VSt.grown {w0 W W' : World} {g ge : Nat} {vr : Value} {key : List UInt8} {x : Int} (h : VSt w0 W g ge vr key x) (hg : W.grownBy W' vr.ownBlock) (hr : ∀ b, vr.ownBlock = some b → g + 1 ≤ b) : VSt w0 W' g ge vr key x :=
  ⟨h.low.grown hg (Nat.le_trans (Nat.le_succ _) h.size) (fun b hb => Nat.le_trans (Nat.le_succ _) (hr b hb)), Nat.le_trans h.size hg.size, h.var.same (hg.block g h.size (fun e => by have := hr g e.symm; omega)), h.ent.same (hg.block ge h.ent.lt (fun e => h.apart.2 e.symm)), h.apart⟩
/-- The row with one pair more. -/
def Put2 (W0 : World) (g : Nat) (vr : Value) (acc : List En) (e : En) (v : Value) (w : World) : Prop := OwnPr w (g + 1) v (acc ++ [e]) ∧ ∃ W2, Below W0.heap.size W0 W2 ∧ W2.grownBy w vr.ownBlock ∧ (v.ownBlock = vr.ownBlock ∨ v.ownBlock = some W2.heap.size)
theorem Put2.below {W0 w w' : World} {g : Nat} {vr v : Value} {acc : List En} {e : En} (h : Put2 W0 g vr acc e v w) (hb : Below w.heap.size w w') : Put2 W0 g vr acc e v w' := by
  obtain ⟨h1, W2, h2, h3, h4⟩ := h
  exact ⟨h1.keep hb, W2, h2, h3.trans ⟨hb.os, hb.tape, hb.output, hb.size, fun k hk _ => hb.block k hk⟩, h4⟩
def LsF2 (g ge : Nat) (vr : Value) (acc : List En) (key : List UInt8) (x : Int) (W0 : World) : Nat → Value → World → Prop
  | 0, v, _ => v = vr
  | 1, v, _ => v = .pointer (some ⟨ge, 0, none⟩)
  | 2, v, _ => v = .string (str key)
  | 3, v, _ => v = .string (str key)
  | 4, v, _ => v = .pointer (some ⟨ge, 1, none⟩)
  | 5, v, _ => v = .int .i64 x
  | 6, v, _ => v = .agg #[.string (str key), .int .i64 x]
  | 7, v, w => ∃ k, v = .slice (some ⟨k, 0, none⟩) 1 1 ∧ Blk w k 57 (cellsE1 (key, x)) ∧ vr.ownBlock ≠ some k
  | 8, v, w => Put2 W0 g vr acc (key, x) v w
  | _, _, _ => True
set_option maxHeartbeats 16000000 in
theorem visit_list (A B : List UInt8) (gf gt : Nat) {w0 : World} (hgf : Blk w0 gf 9 [.string (str A)]) (hgt : Blk w0 gt 9 [.string (str B)]) (Ws : World) (g : Nat) (hg0 : w0.heap.size = g) (acc : List En) (e : En) (h : PrSt A B w0 Ws g acc) (hl : acc.length ≤ 1000) (hk : e.1.length ≤ 1000000) :
    Calls Try.prog 37 #[.agg #[.string (str e.1), .int .i64 e.2], .pointer (some ⟨gf, 0, none⟩), .pointer (some ⟨gt, 0, none⟩), .pointer (some ⟨g, 0, none⟩)] Ws fun x w' => x = .returned (.tuple #[]) ∧ PrSt A B w0 w' g (acc ++ [e]) ∧ Mov g Ws w' := by
  obtain ⟨key, x⟩ := e
  simp only at hk ⊢
  obtain ⟨vr, h1, h2⟩ := h.row
  have hllen : (listR acc A B).length ≤ 1000 := Nat.le_trans (List.length_filter_le _ _) hl
  have hnext : listR (acc ++ [(key, x)]) A B = listR acc A B ++ (if (!lessS key A && !lessS B key) = true then [(key, x)] else []) := by
    unfold listR
    rw [List.filter_append]
    simp only [List.filter_cons, List.filter_nil]
  have hba := (Below.refl Ws.heap.size Ws).alloc (Nat.le_refl _) (.cells #[.string (str key), .int .i64 x] 73)
  have b1 : Blk _ _ _ [_, _] := Blk.new Ws #[.string (str key), .int .i64 x] 73
  have hV : VSt w0 (Ws.alloc (.cells #[.string (str key), .int .i64 x] 73)) g Ws.heap.size vr key x := ⟨below_stepE h.low (Nat.le_trans (Nat.le_succ _) h.size) hba, Nat.le_trans h.size hba.size, h1.call hba, b1, h.size, fun e => by have := (h2.lt _ e).2; omega⟩
  have hO := h2.keep hba
  have hP := h.below hba
  have hMv := Mov.below hba h.size
  have hgfc : ∀ w', Below g w0 w' → w'.cell? ⟨gf, 0, none⟩ = some (.string (str A)) ∧ w'.cell? ⟨gt, 0, none⟩ = some (.string (str B)) := fun w' hw => ⟨(hw.cell (p := ⟨gf, 0, none⟩) (by rw [← hg0]; exact hgf.lt)).trans (hgf.cell (j := 0) rfl), (hw.cell (p := ⟨gt, 0, none⟩) (by rw [← hg0]; exact hgt.lt)).trans (hgt.cell (j := 0) rfl)⟩
  have HGC := Lib.hid hgfc
  have HCL : Hid (∀ W, Calls Try.prog 38 #[.string (str key)] W fun e w' => e = .returned (.string (str key)) ∧ Below W.heap.size W w') := Lib.hid (fun W => tclone_any key W hk)
  have H1 := Lib.hid h1
  obtain ⟨ge, hge⟩ : ∃ ge, Ws.heap.size = ge := ⟨_, rfl⟩
  rw [hge] at hV b1
  generalize hW1 : Ws.alloc (.cells #[.string (str key), .int .i64 x] 73) = W1 at *
  have HW1 := Lib.hid hW1
  have HN := Lib.hid hnext
  have s1 := leq_not A key
  have s2 := leq_not key B
  obtain ⟨z1, hz1⟩ : ∃ z, (!lessS key A) = z := ⟨_, rfl⟩
  obtain ⟨z2, hz2⟩ : ∃ z, (!lessS B key) = z := ⟨_, rfl⟩
  rw [hz1] at s1
  rw [hz2] at s2
  obtain ⟨l1, hl1⟩ : ∃ l, lessS A key = l := ⟨_, rfl⟩
  obtain ⟨l2, hl2⟩ : ∃ l, lessS key B = l := ⟨_, rfl⟩
  obtain ⟨e1, he1⟩ : ∃ l, (A == key) = l := ⟨_, rfl⟩
  obtain ⟨e2, he2⟩ : ∃ l, (key == B) = l := ⟨_, rfl⟩
  rw [hl1, he1] at s1
  rw [hl2, he2] at s2
  have t1 : Op.bytesLess (str A).toList (str key).toList = l1 := hl1
  have t2 : Op.bytesLess (str key).toList (str B).toList = l2 := hl2
  have t3 : ((str A).toList == (str key).toList) = e1 := by rw [str_toList, str_toList]; exact he1
  have t4 : ((str key).toList == (str B).toList) = e2 := by rw [str_toList, str_toList]; exact he2
  have HN2 : Hid (listR (acc ++ [(key, x)]) A B = listR acc A B ++ (if (z1 && z2) = true then [(key, x)] else [])) := Lib.hid (by rw [hnext, hz1, hz2])
  obtain ⟨c0, c1⟩ := hgfc W1 hV.low
  have p0 := hV.ent.cell (j := 0) rfl
  have HV := Lib.hid hV
  have HO := Lib.hid hO
  have HP := Lib.hid hP
  have HMV := Lib.hid hMv
  have HLL := Lib.hid hllen
  have HL : Hid (Below Ws.heap.size Ws W1) := Lib.hid hba
  have HST : Hid (∀ (u : Value) (w3 : World), PrSt A B w0 W1 g acc → True) := Lib.hid (fun _ _ _ => trivial)
  clear h h1 h2 hnext hba b1 hV hO hP hMv hgfc hz1 hz2 hl1 hl2 he1 he2 hgf hgt hW1 HST HN
  go_enter Try.func37, Try.ntmps37
  go_upto_region 1 with fail
  rw [HW1.out]
  cases z1
  · have HE : Hid (listR (acc ++ [(key, x)]) A B = listR acc A B) := Lib.hid (by rw [HN2.out]; simp)
    go_wp2_with fail
    go_end0
    obtain ⟨v, r1, r2⟩ := HP.out.row
    exact ⟨rfl, ⟨HP.out.low, HP.out.size, v, r1, by rw [HE.out]; exact r2⟩, HMV.out⟩
  · cases z2
    · have HE : Hid (listR (acc ++ [(key, x)]) A B = listR acc A B) := Lib.hid (by rw [HN2.out]; simp)
      go_wp2_with fail
      go_end0
      obtain ⟨v, r1, r2⟩ := HP.out.row
      exact ⟨rfl, ⟨HP.out.low, HP.out.size, v, r1, by rw [HE.out]; exact r2⟩, HMV.out⟩
    · have HE : Hid (listR (acc ++ [(key, x)]) A B = listR acc A B ++ [(key, x)]) := Lib.hid (by rw [HN2.out]; simp)
      go_upto_region 2 with fail
      have hlen := HLL.out
      have hV := HV
      have hO := HO
      have hL := HL
      clear c0 c1 p0 t1 t2 t3 t4 s1 s2
      refine wp_region_chain 9 [3, 7, 8] (by kernel_rfl) (by kernel_rfl) (by kernel_rfl) (LsF2 g ge vr (listR acc A B) key x Ws) (fun s W => VSt w0 W g ge vr key x ∧ (s < 3 → Below Ws.heap.size Ws W ∧ OwnPr W (g + 1) vr (listR acc A B))) (fun s w w' => if s < 2 then Below w.heap.size w w' else w.grownBy w' vr.ownBlock) ?hF ?h0 ?hstep ?hcall ?hdone
      case hF =>
        intro s i hs j v W W' hjn hne hpb h he
        rcases (show j = 0 ∨ j = 1 ∨ j = 2 ∨ j = 3 ∨ j = 4 ∨ j = 5 ∨ j = 6 ∨ j = 7 ∨ j = 8 by omega) with rfl | rfl | rfl | rfl | rfl | rfl | rfl | rfl | rfl
        · exact h
        · exact h
        · exact h
        · exact h
        · exact h
        · exact h
        · exact h
        · rcases s with _ | _ | _ | s
          · obtain ⟨k, h1, h2, h3⟩ := h
            exact ⟨k, h1, h2.call he, h3⟩
          · obtain rfl : 7 = i := by simpa using hs
            exact absurd rfl hne
          · obtain ⟨k, h1, h2, h3⟩ := h
            exact ⟨k, h1, h2.same (World.grownBy.block he k h2.lt (fun hh => h3 hh.symm)), h3⟩
          · simp at hs
        · rcases s with _ | _ | _ | s
          · exact Put2.below h he
          · exact Put2.below h he
          · obtain rfl : 8 = i := by simpa using hs
            exact absurd rfl hne
          · simp at hs
      case h0 => exact ⟨hV.out.below (Below.drew (Below.refl _ _)), fun _ => ⟨hL.out.drew, hO.out.keep (Below.drew (Below.refl _ _))⟩⟩
      case hstep =>
        intro j hj hni s vs act W K ha' hst hd hu hK
        simp only [fillF, Act.put, List.take_succ_cons, List.take_zero, List.setIfInBounds_toArray, List.set_cons_zero, List.set_cons_succ] at ha'
        subst ha'
        clear hu
        have q0 := hst.1.var.cell (j := 0) rfl
        have q1 := hst.1.ent.cell (j := 0) rfl
        have q2 := hst.1.ent.cell (j := 1) rfl
        rcases (show j = 0 ∨ j = 1 ∨ j = 2 ∨ j = 3 ∨ j = 4 ∨ j = 5 ∨ j = 6 ∨ j = 7 ∨ j = 8 by omega) with rfl | rfl | rfl | rfl | rfl | rfl | rfl | rfl | rfl
        · refine wpOp_step rfl (fun K' hK' => ?_)
          go_simp
          exact hK' _ _ (hK _ rfl)
        · refine wpOp_step rfl (fun K' hK' => ?_)
          go_simp
          exact hK' _ _ (hK _ rfl)
        · have e1 : vs 1 = .pointer (some ⟨ge, 0, none⟩) := hd 1 (by kernel_rfl)
          simp only [e1] at hK ⊢
          refine wpOp_step rfl (fun K' hK' => ?_)
          go_simp
          exact hK' _ _ (hK _ rfl)
        · exact (hni (by decide)).elim
        · refine wpOp_step rfl (fun K' hK' => ?_)
          go_simp
          exact hK' _ _ (hK _ rfl)
        · have e4 : vs 4 = .pointer (some ⟨ge, 1, none⟩) := hd 4 (by kernel_rfl)
          simp only [e4] at hK ⊢
          refine wpOp_step rfl (fun K' hK' => ?_)
          go_simp
          exact hK' _ _ (hK _ rfl)
        · have e3 : vs 3 = .string (str key) := hd 3 (by kernel_rfl)
          have e5 : vs 5 = .int .i64 x := hd 5 (by kernel_rfl)
          simp only [e3, e5] at hK ⊢
          refine wpOp_step rfl (fun K' hK' => ?_)
          go_simp
          exact hK' _ _ (hK _ rfl)
        · exact (hni (by decide)).elim
        · exact (hni (by decide)).elim
      case hcall =>
        intro s j hs vs act W K ha' hst hd hK
        simp only [fillF, Act.put, List.take_succ_cons, List.take_zero, List.setIfInBounds_toArray, List.set_cons_zero, List.set_cons_succ] at ha'
        subst ha'
        rcases s with _ | _ | _ | s
        · obtain rfl : 3 = j := by simpa using hs
          have e2 : vs 2 = .string (str key) := hd 2 (by kernel_rfl)
          simp only [e2] at hK ⊢
          refine wpOp_step rfl (fun K' hK' => ?_)
          go_simp
          refine (HCL.out W).mono ?_
          rintro e W' ⟨rfl, hbr⟩
          exact hK' _ _ (hK _ _ rfl hbr ⟨hst.1.below hbr, fun _ => ⟨below_stepE (hst.2 (by decide)).1 (hst.2 (by decide)).1.size hbr, (hst.2 (by decide)).2.keep hbr⟩⟩)
        · obtain rfl : 7 = j := by simpa using hs
          have e6 : vs 6 = .agg #[.string (str key), .int .i64 x] := hd 6 (by kernel_rfl)
          simp only [e6] at hK ⊢
          refine wpOp_step rfl (fun K' hK' => ?_)
          go_simp
          have hown : vr.ownBlock ≠ some W.heap.size := fun hh => by have := ((hst.2 (by decide)).2.lt _ hh).2; omega
          have hba : Below W.heap.size W (W.alloc (.cells #[.string (str key), .int .i64 x] 57)) := (Below.refl _ _).alloc (Nat.le_refl _) _
          exact hK' _ _ (hK _ _ ⟨_, rfl, Blk.new W _ _, hown⟩ hba ⟨hst.1.below hba, fun _ => ⟨below_stepE (hst.2 (by decide)).1 (hst.2 (by decide)).1.size hba, (hst.2 (by decide)).2.keep hba⟩⟩)
        · obtain rfl : 8 = j := by simpa using hs
          have e0 : vs 0 = vr := hd 0 (by kernel_rfl)
          obtain ⟨k7, e7, y7, o7⟩ := hd 7 (by kernel_rfl)
          simp only [e0, e7] at hK ⊢
          refine wpOp_step rfl (fun K' hK' => ?_)
          rw [if_pos (by simp [Region.wanted])]
          refine wp_append_pr (.tmp 15) (.tmp 22) rfl (g + 1) vr (listR acc A B) rfl (hst.2 (by decide)).2 (key, x) k7 rfl y7 hlen hst.1.size ?_
          intro v' w' ho hg hw
          exact hK' _ _ (hK v' w' ⟨ho, W, (hst.2 (by decide)).1, hg, hw⟩ hg ⟨hst.1.grown hg (fun b hb => ((hst.2 (by decide)).2.lt b hb).1), fun hh => absurd hh (by decide)⟩)
        · simp at hs
      case hdone =>
        intro vs act W ha' hst hfs
        simp only [fillF, Act.put, List.take_succ_cons, List.take_zero, List.drop_succ_cons, List.drop_zero, List.setIfInBounds_toArray, List.set_cons_zero, List.set_cons_succ] at ha' ⊢
        subst ha'
        have f8 : Put2 Ws g vr (listR acc A B) (key, x) (vs 8) W := hfs 8 (by decide)
        simp only [Nat.zero_add, Nat.reduceAdd]
        obtain ⟨hst1, -⟩ := hst
        clear hfs
        generalize vs 8 = v8 at *
        obtain ⟨ho8, W2, hb8, hg8, hw8⟩ := f8
        rw [← HE.out] at ho8
        have fr := hst1.var.free 0
        have cr := hst1.var.cell (j := 0) rfl
        have hend : Hid (PrSt A B w0 (W.setCell ⟨g, 0, none⟩ v8) g (acc ++ [(key, x)])) := Lib.hid ⟨hst1.low.setCell (p := ⟨g, 0, none⟩) (Nat.le_refl _) v8, by simpa [World.setCell] using hst1.size, v8, hst1.var.set 0 v8, ho8.set⟩
        have hmv : Hid (Mov g Ws (W.setCell ⟨g, 0, none⟩ v8)) := Lib.hid (mov_visit H1.out hb8 hg8 hw8 (hst1.var.set 0 v8))
        obtain ⟨av, cv, ev, -⟩ := owns_shape ho8
        subst ev
        generalize (listR (acc ++ [(key, x)]) A B).length = ll at *
        clear ho8 hb8 hg8 hw8 hst1
        go_wp2_with fail
        go_end0
        exact ⟨rfl, hend.out, hmv.out⟩
end Go.Proofs.Ytopgakdgifmecaa
