/-
  MERGED: TPart, TPartL, TPartK, TPartA, TKidA, TKidB.
  CONDITIONS: each theorem's own hypotheses.
-/
import Derived.Test.YtopgakdgifmecaaGTSlic
import Derived.Test.YtopgakdgifmecaaTPut

/-! CONTRACT of package tree's parted. CONDITIONS: each theorem's own hypotheses. -/
namespace Go.Proofs.Ytopgakdgifmecaa
open Go.RowKit
set_option linter.unusedVariables false
set_option maxRecDepth 100000

def PtF6 (pl pr p g ce : Nat) (key : List UInt8) (y : Int) : Nat → Value → World → Prop
  | 0, v, _ => v = ptrV pl
  | 1, v, _ => v = .pointer (some ⟨p, 0, none⟩)
  | 2, v, _ => v = .pointer (some ⟨p, 0, none⟩)
  | 3, v, _ => v = .pointer (some ⟨p, 0, none⟩)
  | 4, v, _ => v = .slice (some ⟨g, 0, none⟩) 4 ce
  | 5, v, _ => v = .int .i64 2
  | 6, v, _ => v = .pointer (some ⟨g, 4, none⟩)
  | 7, v, _ => v = .agg #[.string (str key), .int .i64 y]
  | 8, v, _ => v = ptrV pr
  | 9, v, _ => v = ptrV pl
  | 10, _, _ => True
  | _, _, _ => True
/-- A node that was made: its own blocks are new. -/
structure NewNd (w w' : World) (t : Tr) (p : Nat) (N A : List Nat) : Prop where
  nd : ∃ F, NdT w' t p F ∧ F.Perm (N ++ A)
theorem part_slot (es : List En) (ae : Option Addr) (ce : Nat) (w : World) (h4 : es.length = 4) (hE : OwnE w 0 (.slice ae es.length ce) es) : ∃ g, ae = some ⟨g, 0, none⟩ ∧ g < w.heap.size ∧ 4 ≤ ce ∧ ce ≤ 9223372036854775807 ∧ ∀ j v, (cellsE es)[j]? = some v → w.cell? ⟨g, j, none⟩ = some v := by
  rcases id hE.2 with ⟨_, h0⟩ | ⟨g, cap, cur, hv, q1, q2, q3, q4, q5, q6⟩
  · omega
  · simp only [Value.slice.injEq] at hv
    obtain ⟨rfl, _, rfl⟩ := hv
    refine ⟨g, rfl, (Array.getElem?_eq_some_iff.1 q2).1, by omega, by unfold maxLen at q4; omega, fun j v hj => ?_⟩
    have := World.ownsRow.cells hE (g := g) rfl j v hj
    rw [addr_addT, Nat.zero_add] at this
    exact this
theorem results_ptr_row {fn : Func} {a p u : Tmp} {T : TypeId} {d : TypeDesc} (h : fn.results = #[.tmp a, .cell p T, .tmp u]) (tmps : Array Value) (w : World) (g : Nat) (cs : List Value) (hp : tmps.getD p undef = .pointer (some ⟨g, 0, none⟩)) (hg : Blk w g T cs)
    (hu : Try.prog.underlying T = some d) (hd : d.isRow = true) (hi : (Try.prog.info? T).map (·.size) = some cs.length) :
    (results fn tmps).run Try.prog w = .ok (.tuple #[tmps.getD a undef, .agg cs.toArray, tmps.getD u undef]) w := by
  have hl := run_loadVar_row w g T T cs.toArray (0, 0) d hg hu (by cases d <;> simp_all) (by simpa using hi)
  have hp' : tmps[p]?.getD undef = .pointer (some ⟨g, 0, none⟩) := by simpa using hp
  simp [results, h, hp', asAddr, hl]
theorem part_nodup (a b : Option Nat) (A pl pr : Nat) (ha : ∀ x, a = some x → A ≤ x ∧ x < pl) (hb : ∀ x, b = some x → pl + 1 ≤ x ∧ x < pr) (h1 : A ≤ pl) (h2 : pl + 1 ≤ pr) : ((pl :: a.toList) ++ (pr :: b.toList)).Nodup ∧ ∀ x ∈ (pl :: a.toList) ++ (pr :: b.toList), A ≤ x := by
  rcases a with _ | x <;> rcases b with _ | y
  · simp; omega
  · have := hb y rfl; simp; omega
  · have := ha x rfl; simp; omega
  · have := ha x rfl; have := hb y rfl; simp; omega
/-- A node without kids, from its block and its row. -/
theorem leaf_nd {w : World} {es : List En} {p : Nat} {v : Value} (hB : Blk w p 83 [v, .slice none 0 0]) (hE : OwnE w 0 v es) : NdT w (.mk es []) p (p :: v.ownBlock.toList) := by
  simp only [NdT]
  exact ⟨v, _, [], [], hB, hE, OwnK.nil _ _, NdL.nil _, by simp [Value.ownBlock]⟩
set_option maxHeartbeats 16000000 in
theorem parted_leaf (es : List En) (p : Nat) (F : List Nat) (w : World) (h : NdT w (.mk es []) p F) (h4 : es.length = 4) :
    Calls Try.prog 69 #[.pointer (some ⟨p, 0, none⟩)] w fun e w' => ∃ (pl pr : Nat) (x : En) (Fl Fr : List Nat), es[2]? = some x ∧ e = .returned (.tuple #[ptrV pl, .agg #[.string (str x.1), .int .i64 x.2], ptrV pr]) ∧ NdT w' (.mk (es.take 2) []) pl Fl ∧ NdT w' (.mk (es.drop 3) []) pr Fr ∧ (Fl ++ Fr).Nodup ∧ (∀ b ∈ Fl ++ Fr, w.heap.size ≤ b) ∧ Below w.heap.size w w' := by
  obtain ⟨ae, ak, ce, ck, hB, hp, hc1, hc2, hE, hK⟩ := h.open
  obtain ⟨g, rfl, hgl, hce, hce2, hcell⟩ := part_slot es ae ce w h4 hE
  obtain ⟨x, hx⟩ : ∃ x, es[2]? = some x := ⟨es[2]'(by omega), List.getElem?_eq_getElem _⟩
  have cL := fun W (hW : Below w.heap.size w W) => clone_e g 0 2 ce (cellsE (es.take 2)) W (by omega) (by rw [cellsE_length, List.length_take]; omega) (fun j v hj => by
    rw [Nat.zero_add]
    rw [← cellsE_take, List.getElem?_take] at hj
    split at hj
    · exact (hW.cell (p := ⟨g, j, none⟩) hgl).trans (hcell j v hj)
    · cases hj) (cellsE_oneT _)
  have cR := fun W (hW : Below w.heap.size w W) => clone_e g 6 1 (ce - 3) (cellsE (es.drop 3)) W (by omega) (by rw [cellsE_length, List.length_drop]; omega) (fun j v hj => by
    rw [← cellsE_drop, List.getElem?_drop] at hj
    exact (hW.cell (p := ⟨g, 6 + j, none⟩) hgl).trans (hcell _ v hj)) (cellsE_oneT _)
  have cF := fun W (hW : Below w.heap.size w W) => leaf_any p (some ⟨g, 0, none⟩) ak es.length ([] : List Tr).length ce ck W (hB.keep hW hp)
  have hnode : ∀ W, Below w.heap.size w W → W.cell? ⟨p, 0, none⟩ = some (.slice (some ⟨g, 0, none⟩) 4 ce) := fun W hW => by
    rw [← h4]; exact (hB.keep hW hp).cell (j := 0) rfl
  have hx0 : ∀ W, Below w.heap.size w W → W.cell? ⟨g, 4, none⟩ = some (.string (str x.1)) ∧ W.cell? ⟨g, 5, none⟩ = some (.int .i64 x.2) := fun W hW => ⟨(hW.cell (p := ⟨g, 4, none⟩) hgl).trans (hcell 4 _ (cellsE_at es 2 0 x hx (by decide))), (hW.cell (p := ⟨g, 5, none⟩) hgl).trans (hcell 5 _ (cellsE_at es 2 1 x hx (by decide)))⟩
  have HNODE := Lib.hid hnode
  have HX := Lib.hid hx0
  have HCL := Lib.hid cL
  have HCR := Lib.hid cR
  have HCF := Lib.hid cF
  have HX2 := Lib.hid hx
  have z0 : Blk _ _ _ [_, _] := Blk.new w #[.string ⟨#[]⟩, .int .i64 0] 73
  have hb0 := (Below.refl w.heap.size w).alloc (Nat.le_refl _) (.cells #[.string ⟨#[]⟩, .int .i64 0] 73)
  obtain ⟨w0, hw0⟩ : ∃ V, w.alloc (.cells #[.string ⟨#[]⟩, .int .i64 0] 73) = V := ⟨_, rfl⟩
  rw [hw0] at z0 hb0
  have HW0 := Lib.hid hw0
  have HZ0 := Lib.hid z0
  have HB0 := Lib.hid hb0
  have p0 := hnode w0 hb0
  have c0 := cL w0 hb0
  have hs0 : ¬ (ce = 3) := by omega
  have hi1 : (2 : Int) ≤ (ce : Int) := by omega
  have hi2 : IntKind.i64.wrap ((2 : Int) + 1) = 3 := by rw [IntKind.wrap_i64]; omega
  clear hB hE hK hcell hnode hx0 cL cR cF hw0 z0 hb0 h hc1 hc2 hx
  go_enter Try.func69, Try.ntmps69
  go_upto_region 1 with fail
  rw [HW0.out]
  go_upto_region 2 with fail
  go_wp2_with fail
  refine c0.mono ?_
  rintro e w1 ⟨vl, rfl, ho1, hb1⟩
  clear c0 p0
  obtain ⟨al, cl, ev, -, -, -, hal⟩ := owns_shape ho1
  subst ev
  have HB1 := Lib.hid (below_stepE HB0.out HB0.out.size hb1)
  have hb1b := (Below.refl w1.heap.size w1).alloc (Nat.le_refl _) (.cells #[.slice al 2 cl, .slice none 0 0] 83)
  have z1 : Blk _ _ _ [_, _] := Blk.new w1 #[.slice al 2 cl, .slice none 0 0] 83
  have n1 : (w1.alloc (.cells #[.slice al 2 cl, .slice none 0 0] 83)).heap.size = w1.heap.size + 1 := by simp
  obtain ⟨w2, hw2⟩ : ∃ V, w1.alloc (.cells #[.slice al 2 cl, .slice none 0 0] 83) = V := ⟨_, rfl⟩
  rw [hw2] at hb1b z1 n1
  have HW2 := Lib.hid hw2
  have HB2 := Lib.hid (below_stepE HB1.out HB1.out.size hb1b)
  have HO2 := Lib.hid (owns_same ho1 (fun b e => hb1b.block b (ho1.lt b e).2))
  have HL2 : Hid (∀ b, (Value.slice al 2 cl).ownBlock = some b → w0.heap.size ≤ b ∧ b < w1.heap.size) := Lib.hid (fun b e => ho1.lt b e)
  have HZ2 := Lib.hid z1
  have HN1 := Lib.hid n1
  have HM1 := Lib.hid (below_stepE hb1 hb1.size hb1b)
  have p1 := HNODE.out w2 HB2.out
  have c1 := HCR.out w2 HB2.out
  have HS1 := Lib.hid hb1.size
  clear hb1 ho1 hb1b z1 n1 hw2 hal
  go_upto_region 3 with fail
  rw [HW2.out]
  go_wp2_with fail
  refine c1.mono ?_
  rintro e w3 ⟨vr, rfl, ho3, hb3⟩
  clear c1 p1
  obtain ⟨ar, cr, ev, -, -, -, har⟩ := owns_shape ho3
  subst ev
  have HB3 := Lib.hid (below_stepE HB2.out HB2.out.size hb3)
  have hb3b := (Below.refl w3.heap.size w3).alloc (Nat.le_refl _) (.cells #[.slice ar 1 cr, .slice none 0 0] 83)
  have z3 : Blk _ _ _ [_, _] := Blk.new w3 #[.slice ar 1 cr, .slice none 0 0] 83
  have n3 : (w3.alloc (.cells #[.slice ar 1 cr, .slice none 0 0] 83)).heap.size = w3.heap.size + 1 := by simp
  obtain ⟨w4, hw4⟩ : ∃ V, w3.alloc (.cells #[.slice ar 1 cr, .slice none 0 0] 83) = V := ⟨_, rfl⟩
  rw [hw4] at hb3b z3 n3
  have HW4 := Lib.hid hw4
  have HB4 := Lib.hid (below_stepE HB3.out HB3.out.size hb3b)
  have HO4 := Lib.hid (owns_same ho3 (fun b e => hb3b.block b (ho3.lt b e).2))
  have HL4 : Hid (∀ b, (Value.slice ar 1 cr).ownBlock = some b → w2.heap.size ≤ b ∧ b < w3.heap.size) := Lib.hid (fun b e => ho3.lt b e)
  have HZ4 := Lib.hid z3
  have HM3 := Lib.hid (hb3.trans (hb3b.mono hb3.size))
  have HN3 := Lib.hid n3
  have HS3 := Lib.hid hb3.size
  have c2 := HCF.out w4 HB4.out
  clear hb3 ho3 hb3b z3 n3 hw4 har
  go_upto_region 4 with fail
  rw [HW4.out]
  have c2' : Calls Try.prog 47 #[.pointer (some ⟨p, 0, none⟩)] w4 fun e w' => e = .returned (.bool true) ∧ w' = w4 := c2
  clear c2
  go_wp2_with fail
  refine c2'.mono ?_
  rintro e w4 ⟨rfl, rfl⟩
  clear c2'
  go_upto_region 6 with fail
  have HM0 : Hid (Blk w4 w.heap.size 73 [.string ⟨#[]⟩, .int .i64 0]) := Lib.hid ((HZ0.out.call HM1.out).call HM3.out)
  have HP : Hid (∀ W, Chg [w.heap.size] w4 W → W.cell? ⟨p, 0, none⟩ = some (.slice (some ⟨g, 0, none⟩) 4 ce) ∧ W.cell? ⟨g, 4, none⟩ = some (.string (str x.1)) ∧ W.cell? ⟨g, 5, none⟩ = some (.int .i64 x.2)) := Lib.hid (fun W hW => by
    have hs := HB4.out.size
    have c : ∀ b j, b < w.heap.size → W.cell? ⟨b, j, none⟩ = w4.cell? ⟨b, j, none⟩ := fun b j hb => World.cell?_of_block (w := w4) (hW.block b (by omega) (by simp; omega))
    rw [c p 0 hp, c g 4 hgl, c g 5 hgl]
    exact ⟨HNODE.out w4 HB4.out, HX.out w4 HB4.out⟩)
  have HFIN : Hid (∀ W, Chg [w.heap.size] w4 W → NdT W (.mk (es.take 2) []) w1.heap.size (w1.heap.size :: (Value.slice al 2 cl).ownBlock.toList) ∧ NdT W (.mk (es.drop 3) []) w3.heap.size (w3.heap.size :: (Value.slice ar 1 cr).ownBlock.toList) ∧ Below w.heap.size w W) := Lib.hid (fun W hW => by
    have l0 := HZ0.out.lt
    have l1 := HS1.out
    have l2 := HN1.out
    have l3 := HS3.out
    have l4 := HN3.out
    have hsz := HB4.out.size
    have k : ∀ b, b < w4.heap.size → w.heap.size < b → W.heap[b]? = w4.heap[b]? := fun b hb hn => hW.block b hb (by simp; omega)
    have t2 : (es.take 2).length = 2 := by rw [List.length_take]; omega
    have t3 : (es.drop 3).length = 1 := by rw [List.length_drop]; omega
    have eL : OwnE W 0 (.slice al 2 cl) (es.take 2) := by
      unfold OwnE
      rw [t2]
      exact owns_base (owns_same HO2.out (fun b e => by
        have := HL2.out b e
        rw [k b (by omega) (by omega)]
        exact HM3.out.block b (by omega))) (Nat.zero_le _)
    have eR : OwnE W 0 (.slice ar 1 cr) (es.drop 3) := by
      unfold OwnE
      rw [t3]
      exact owns_base (owns_same HO4.out (fun b e => by
        have := HL4.out b e
        exact k b (by omega) (by omega))) (Nat.zero_le _)
    refine ⟨leaf_nd ((HZ2.out.call HM3.out).same (k _ (by omega) (by omega))) eL, leaf_nd (HZ4.out.same (k _ (by omega) (by omega))) eR, ?_⟩
    exact HB4.out.trans (hW.below (B := w.heap.size) (by simp) HB4.out.size))
  have HND := Lib.hid (part_nodup (Value.slice al 2 cl).ownBlock (Value.slice ar 1 cr).ownBlock w.heap.size w1.heap.size w3.heap.size (fun b e => by
    have := HL2.out b e
    have := HZ0.out.lt
    omega) (fun b e => by
    have := HL4.out b e
    have := HN1.out
    omega) (by have := HZ0.out.lt; have := HS1.out; omega) (by have := HN1.out; have := HS3.out; omega))
  clear HZ0 HB0 HW0 HB1 HB2 HO2 HL2 HZ2 HN1 HM1 HB3 HL4 HS3 HS1 HO4 HZ4 HM3 HN3 HCL HCR HCF HW2 HW4 HNODE HX
  obtain ⟨m0, hm0⟩ : ∃ m, w.heap.size = m := ⟨_, rfl⟩
  obtain ⟨key, y⟩ := x
  simp only at HP
  obtain ⟨pl, hpl⟩ : ∃ m, w1.heap.size = m := ⟨_, rfl⟩
  obtain ⟨pr, hpr⟩ : ∃ m, w3.heap.size = m := ⟨_, rfl⟩
  rw [hm0] at HM0 HP HFIN HND
  rw [hpl, hpr] at HFIN HND
  have HG : Hid (∀ (e : Ending) (W : World), Chg [m0] w4 W → e = .returned (.tuple #[ptrV pl, .agg #[.string (str key), .int .i64 y], ptrV pr]) → ∃ (pl pr : Nat) (x : En) (Fl Fr : List Nat), es[2]? = some x ∧ e = .returned (.tuple #[ptrV pl, .agg #[.string (str x.1), .int .i64 x.2], ptrV pr]) ∧ NdT W (.mk (es.take 2) []) pl Fl ∧ NdT W (.mk (es.drop 3) []) pr Fr ∧ (Fl ++ Fr).Nodup ∧ (∀ b ∈ Fl ++ Fr, w.heap.size ≤ b) ∧ Below w.heap.size w W) := Lib.hid (fun e W hW he => by
    obtain ⟨n1, n2, n3⟩ := HFIN.out W hW
    exact ⟨pl, pr, (key, y), _, _, HX2.out, he, n1, n2, HND.out.1, by rw [hm0]; exact HND.out.2, by rw [hm0]; exact n3⟩)
  clear HFIN HND HX2
  have HPR := Lib.hid hm0
  rw [hm0, hpl, hpr]
  clear hm0 hpl hpr
  refine wp_region_chain 11 [10] (by kernel_rfl) (by kernel_rfl) (by kernel_rfl) (PtF6 pl pr p g ce key y) (fun s W => Chg [m0] w4 W ∧ ∃ a b, Blk W m0 73 [a, b] ∧ (s = 1 → a = .string (str key) ∧ b = .int .i64 y)) (fun _ _ _ => True) ?hF ?h0 ?hstep ?hcall ?hdone
  case hF =>
    intro s i hs j v W W' hjn hne hpb h he
    rcases (show j = 0 ∨ j = 1 ∨ j = 2 ∨ j = 3 ∨ j = 4 ∨ j = 5 ∨ j = 6 ∨ j = 7 ∨ j = 8 ∨ j = 9 ∨ j = 10 by omega) with rfl | rfl | rfl | rfl | rfl | rfl | rfl | rfl | rfl | rfl | rfl
    · exact h
    · exact h
    · exact h
    · exact h
    · exact h
    · exact h
    · exact h
    · exact h
    · exact h
    · exact h
    · exact h
  case h0 => exact ⟨.ofBelow _ (Below.drew (Below.refl _ _)), _, _, HM0.out, fun h => by cases h⟩
  case hstep =>
    intro j hj hni s vs act W K ha' hst hd hu hK
    simp only [fillF, Act.put, List.take_succ_cons, List.take_zero, List.setIfInBounds_toArray, List.set_cons_zero, List.set_cons_succ] at ha'
    subst ha'
    obtain ⟨y0, y1, y2⟩ := HP.out W hst.1
    rcases (show j = 0 ∨ j = 1 ∨ j = 2 ∨ j = 3 ∨ j = 4 ∨ j = 5 ∨ j = 6 ∨ j = 7 ∨ j = 8 ∨ j = 9 ∨ j = 10 by omega) with rfl | rfl | rfl | rfl | rfl | rfl | rfl | rfl | rfl | rfl | rfl
    · have u9 : vs 9 = ptrV pl := hu 9 _ rfl (.inr (by kernel_rfl))
      clear hu
      simp only [u9] at hK ⊢
      refine wpOp_step rfl (fun K' hK' => ?_)
      go_simp
      exact hK' _ _ (hK _ rfl)
    · refine wpOp_step rfl (fun K' hK' => ?_)
      go_simp
      exact hK' _ _ (hK _ rfl)
    · have e1 : vs 1 = .pointer (some ⟨p, 0, none⟩) := hd 1 (by kernel_rfl)
      simp only [e1] at hK ⊢
      refine wpOp_step rfl (fun K' hK' => ?_)
      go_simp
      exact hK' _ _ (hK _ rfl)
    · have e2 : vs 2 = .pointer (some ⟨p, 0, none⟩) := hd 2 (by kernel_rfl)
      simp only [e2] at hK ⊢
      refine wpOp_step rfl (fun K' hK' => ?_)
      go_simp
      exact hK' _ _ (hK _ rfl)
    · have e3 : vs 3 = .pointer (some ⟨p, 0, none⟩) := hd 3 (by kernel_rfl)
      simp only [e3] at hK ⊢
      refine wpOp_step rfl (fun K' hK' => ?_)
      go_simp
      exact hK' _ _ (hK _ rfl)
    · refine wpOp_step rfl (fun K' hK' => ?_)
      go_simp
      exact hK' _ _ (hK _ rfl)
    · have e4 : vs 4 = .slice (some ⟨g, 0, none⟩) 4 ce := hd 4 (by kernel_rfl)
      have e5 : vs 5 = .int .i64 2 := hd 5 (by kernel_rfl)
      simp only [e4, e5] at hK ⊢
      refine wpOp_step rfl (fun K' hK' => ?_)
      go_simp
      exact hK' _ _ (hK _ rfl)
    · have e6 : vs 6 = .pointer (some ⟨g, 4, none⟩) := hd 6 (by kernel_rfl)
      simp only [e6] at hK ⊢
      refine wpOp_step rfl (fun K' hK' => ?_)
      go_simp
      exact hK' _ _ (hK _ rfl)
    · refine wpOp_step rfl (fun K' hK' => ?_)
      go_simp
      exact hK' _ _ (hK _ rfl)
    · have e0 : vs 0 = ptrV pl := hd 0 (by kernel_rfl)
      simp only [e0] at hK ⊢
      refine wpOp_step rfl (fun K' hK' => ?_)
      go_simp
      exact hK' _ _ (hK _ rfl)
    · exact (hni (by decide)).elim
  case hcall =>
    intro s j hs vs act W K ha' hst hd hK
    simp only [fillF, Act.put, List.take_succ_cons, List.take_zero, List.setIfInBounds_toArray, List.set_cons_zero, List.set_cons_succ] at ha'
    subst ha'
    rcases s with _ | s
    · obtain rfl : 10 = j := by simpa using hs
      have e7 : vs 7 = .agg #[.string (str key), .int .i64 y] := hd 7 (by kernel_rfl)
      simp only [e7] at hK ⊢
      obtain ⟨hst1, a, b, hbl, -⟩ := hst
      have q0 := hbl.cell (j := 0) rfl
      have q1 := hbl.cell (j := 1) rfl
      have q2 := hbl.free 0
      have q3 := hbl.free 1
      refine wpOp_step rfl (fun K' hK' => ?_)
      go_simp
      exact hK' _ _ (hK undef _ trivial trivial ⟨(hst1.trans (Chg.setCell _ _ (by simp)) (fun _ h => .inl h)).trans (Chg.setCell _ _ (by simp)) (fun _ h => .inl h), _, _, (hbl.set 0 _).set 1 _, fun _ => ⟨rfl, rfl⟩⟩)
    · simp at hs
  case hdone =>
    intro vs act W ha' hst hfs
    simp only [fillF, Act.put, List.take_succ_cons, List.take_zero, List.drop_succ_cons, List.drop_zero, List.setIfInBounds_toArray, List.set_cons_zero, List.set_cons_succ] at ha' ⊢
    subst ha'
    have f8 : vs 8 = ptrV pr := hfs 8 (by decide)
    have f9 : vs 9 = ptrV pl := hfs 9 (by decide)
    simp only [Nat.zero_add, Nat.reduceAdd, f8, f9]
    obtain ⟨hc, a, b, hbl, hab⟩ := hst
    obtain ⟨rfl, rfl⟩ := hab rfl
    clear hfs f8 f9 hab
    go_wp2_with fail
    refine bodyPost_ret (results_ptr_row rfl _ _ m0 [.string (str key), .int .i64 y] rfl hbl rfl rfl (by kernel_rfl)) rfl ?_
    exact HG.out _ W hc rfl
end Go.Proofs.Ytopgakdgifmecaa

/-! PLAIN LEMMAS for package tree's parted at a node with kids. CONDITIONS: each theorem's own hypotheses. -/
namespace Go.Proofs.Ytopgakdgifmecaa
open Go.RowKit
set_option linter.unusedVariables false
set_option maxRecDepth 100000

/-- The kids ahead of a place and those behind it. -/
theorem NdL.cut {w : World} : ∀ {ts : List Tr} {ps F : List Nat}, NdL w ts ps F → ∀ i : Nat, ∃ A B, F = A ++ B ∧ NdL w (ts.take i) (ps.take i) A ∧ NdL w (ts.drop i) (ps.drop i) B
  | ts, ps, F, h, 0 => ⟨[], F, rfl, NdL.nil w, h⟩
  | [], ps, F, h, i + 1 => by
    simp only [NdL] at h
    obtain ⟨rfl, rfl⟩ := h
    exact ⟨[], [], rfl, NdL.nil w, NdL.nil w⟩
  | t :: ts, ps, F, h, i + 1 => by
    simp only [NdL] at h
    obtain ⟨p, ps', F1, F2, rfl, rfl, h1, h2⟩ := h
    obtain ⟨A, B, rfl, e1, e2⟩ := NdL.cut h2 i
    refine ⟨F1 ++ A, B, by rw [List.append_assoc], ?_, e2⟩
    simp only [List.take_succ_cons, NdL]
    exact ⟨p, ps'.take i, F1, A, rfl, rfl, h1, e1⟩
theorem NdT.mem {w : World} {t : Tr} {p : Nat} {F : List Nat} (h : NdT w t p F) : p ∈ F := by
  cases t
  simp only [NdT] at h
  obtain ⟨_, _, _, _, _, _, _, _, rfl⟩ := h
  exact List.mem_cons_self ..
theorem NdL.mem {w : World} : ∀ {ts : List Tr} {ps F : List Nat}, NdL w ts ps F → ∀ q ∈ ps, q ∈ F
  | [], ps, F, h, q, hq => by
    simp only [NdL] at h
    rw [h.1] at hq; cases hq
  | t :: ts, ps, F, h, q, hq => by
    simp only [NdL] at h
    obtain ⟨p, ps', F1, F2, rfl, rfl, h1, h2⟩ := h
    rcases List.mem_cons.1 hq with rfl | hq
    · exact List.mem_append_left _ h1.mem
    · exact List.mem_append_right _ (NdL.mem h2 q hq)
theorem nod4 {L1 A L2 B : List Nat} (h1 : (L1 ++ L2).Nodup) (h2 : (A ++ B).Nodup) (h3 : ∀ x ∈ L1 ++ L2, ∀ y ∈ A ++ B, x ≠ y) : ((L1 ++ A) ++ (L2 ++ B)).Nodup := by
  have hp : ((L1 ++ A) ++ (L2 ++ B)).Perm ((L1 ++ L2) ++ (A ++ B)) := by
    simp only [List.append_assoc]
    refine List.Perm.append_left L1 ?_
    rw [← List.append_assoc, ← List.append_assoc]
    exact List.Perm.append_right B List.perm_append_comm
  exact hp.nodup_iff.2 (List.nodup_append.2 ⟨h1, h2, h3⟩)
theorem part_nodupK (a b c d : Option Nat) (A pl pr n : Nat) (ha : ∀ x, a = some x → A ≤ x ∧ x < pl) (hb : ∀ x, b = some x → pl + 1 ≤ x ∧ x < pr) (hc : ∀ x, c = some x → n ≤ x) (hd : ∀ x, d = some x → n ≤ x) (hcd : ∀ x, c = some x → d ≠ some x) (h1 : A ≤ pl) (h2 : pl + 1 ≤ pr) (h3 : pr + 1 ≤ n) : ((pl :: (a.toList ++ c.toList)) ++ (pr :: (b.toList ++ d.toList))).Nodup ∧ ∀ x ∈ (pl :: (a.toList ++ c.toList)) ++ (pr :: (b.toList ++ d.toList)), A ≤ x := by
  have ha' : ∀ x ∈ a.toList, A ≤ x ∧ x < pl := fun x hx => ha x (by simpa using hx)
  have hb' : ∀ x ∈ b.toList, pl + 1 ≤ x ∧ x < pr := fun x hx => hb x (by simpa using hx)
  have hc' : ∀ x ∈ c.toList, n ≤ x := fun x hx => hc x (by simpa using hx)
  have hd' : ∀ x ∈ d.toList, n ≤ x := fun x hx => hd x (by simpa using hx)
  have hcd' : ∀ x ∈ c.toList, ∀ y ∈ d.toList, x ≠ y := fun x hx y hy e => hcd x (by simpa using hx) (by rw [e]; simpa using hy)
  have n1 : ∀ o : Option Nat, o.toList.Nodup := fun o => by cases o <;> simp
  refine ⟨?_, fun x hx => ?_⟩
  · refine List.nodup_append.2 ⟨List.nodup_cons.2 ⟨fun h => ?_, List.nodup_append.2 ⟨n1 _, n1 _, fun x hx y hy e => ?_⟩⟩, List.nodup_cons.2 ⟨fun h => ?_, List.nodup_append.2 ⟨n1 _, n1 _, fun x hx y hy e => ?_⟩⟩, fun x hx y hy e => ?_⟩
    · rcases List.mem_append.1 h with h | h
      · have := ha' _ h; omega
      · have := hc' _ h; omega
    · have := ha' _ hx; have := hc' _ hy; omega
    · rcases List.mem_append.1 h with h | h
      · have := hb' _ h; omega
      · have := hd' _ h; omega
    · have := hb' _ hx; have := hd' _ hy; omega
    · simp only [List.mem_cons, List.mem_append] at hx hy
      rcases hx with rfl | hx | hx <;> rcases hy with hy | hy | hy
      · omega
      · have := hb' _ hy; omega
      · have := hd' _ hy; omega
      · have := ha' _ hx; omega
      · have := ha' _ hx; have := hb' _ hy; omega
      · have := ha' _ hx; have := hd' _ hy; omega
      · have := hc' _ hx; omega
      · have := hc' _ hx; have := hb' _ hy; omega
      · exact hcd' _ hx _ hy e
  · simp only [List.mem_cons, List.mem_append] at hx
    rcases hx with (rfl | hx | hx) | rfl | hx | hx
    · exact h1
    · exact (ha' _ hx).1
    · have := hc' _ hx; omega
    · omega
    · have := hb' _ hx; omega
    · have := hd' _ hx; omega
/-- A row of five kids: its block and its cells. -/
theorem kid_slot (ps : List Nat) (v : Value) (w : World) (h5 : ps.length = 5) (hK : OwnK w 0 v ps) : ∃ g ck, v = .slice (some ⟨g, 0, none⟩) 5 ck ∧ g < w.heap.size ∧ 5 ≤ ck ∧ ck ≤ 9223372036854775807 ∧ ∀ j q, ps[j]? = some q → w.cell? ⟨g, j, none⟩ = some (ptrV q) := by
  obtain ⟨ao, ck, rfl, h1, h2, h3, h4⟩ := owns_shape hK
  obtain ⟨g, hg, hgl, _⟩ := hK.cell (j := 0) (p := ps[0]'(by omega)) (List.getElem?_eq_getElem (by omega))
  subst hg
  refine ⟨g, ck, by rw [h5], hgl, by omega, h2, fun j q hj => ?_⟩
  obtain ⟨b, hb, _, _, hc⟩ := hK.cell hj
  cases hb
  exact hc
/-- A row that stays where the kids' links are written. -/
theorem own_chg {w w' : World} {n : Nat} {v : Value} {ps L : List Nat} (h : OwnK w n v ps) (hC : Chg L w w') (hL : ∀ b ∈ L, b < n) : OwnK w' n v ps := owns_same h (fun b e => hC.block b (h.lt b e).2 (fun hb => by have := hL b hb; have := (h.lt b e).1; omega))
/-- Two rows whose first kids differ lie in two blocks. -/
theorem own_apart {W : World} {n : Nat} {v v' : Value} {ps ps' : List Nat} {p q : Nat} (h : OwnK W n v ps) (h' : OwnK W n v' ps') (h0 : ps[0]? = some p) (h0' : ps'[0]? = some q) (hne : p ≠ q) : ∀ x, v.ownBlock = some x → v'.ownBlock ≠ some x := by
  intro x hx hx'
  obtain ⟨ao, c, rfl, -, -, -, -⟩ := owns_shape h
  obtain ⟨ao', c', rfl, -, -, -, -⟩ := owns_shape h'
  obtain ⟨b, rfl, -, -, hc⟩ := h.cell h0
  obtain ⟨b', rfl, -, -, hc'⟩ := h'.cell h0'
  cases hx
  cases hx'
  rw [hc] at hc'
  cases hc'
  exact hne rfl
end Go.Proofs.Ytopgakdgifmecaa

/-! CONTRACT of package tree's parted at a node with kids. CONDITIONS: each theorem's own hypotheses. -/
namespace Go.Proofs.Ytopgakdgifmecaa
open Go.RowKit
set_option linter.unusedVariables false
set_option maxRecDepth 100000

def PtF5 (pl pr p gk ck n4 : Nat) (kps : List Nat) : Nat → Value → World → Prop
  | 0, v, _ => v = ptrV pl
  | 1, v, _ => v = ptrV pr
  | 2, v, _ => v = .pointer (some ⟨p, 0, none⟩)
  | 3, v, _ => v = .pointer (some ⟨p, 0, none⟩)
  | 4, v, _ => v = .pointer (some ⟨p, 1, none⟩)
  | 5, v, _ => v = .slice (some ⟨gk, 0, none⟩) 5 ck
  | 6, v, _ => v = .int .i64 2
  | 7, v, _ => v = .int .i64 3
  | 8, v, _ => v = .slice (some ⟨gk, 0, none⟩) 3 ck
  | 9, v, w => OwnK w n4 v (kps.take 3)
  | 10, v, _ => v = .pointer (some ⟨p, 0, none⟩)
  | 11, v, _ => v = .pointer (some ⟨p, 0, none⟩)
  | 12, v, _ => v = .pointer (some ⟨p, 1, none⟩)
  | 13, v, _ => v = .slice (some ⟨gk, 0, none⟩) 5 ck
  | 14, v, _ => v = .int .i64 2
  | 15, v, _ => v = .int .i64 3
  | 16, v, _ => v = .slice (some ⟨gk, 3, none⟩) 2 (ck - 3)
  | 17, v, w => OwnK w n4 v (kps.drop 3)
  | 18, v, _ => v = ptrV pl
  | 19, v, _ => v = .pointer (some ⟨pl, 1, none⟩)
  | 20, _, _ => True
  | 21, v, _ => v = ptrV pr
  | 22, v, _ => v = .pointer (some ⟨pr, 1, none⟩)
  | 23, _, _ => True
  | _, _, _ => True
set_option maxHeartbeats 16000000 in
theorem parted_kids (es : List En) (ks : List Tr) (p : Nat) (F : List Nat) (w : World) (h : NdT w (.mk es ks) p F) (hnd : F.Nodup) (h4 : es.length = 4) (h5 : ks.length = 5) :
    Calls Try.prog 69 #[.pointer (some ⟨p, 0, none⟩)] w fun e w' => ∃ (pl pr : Nat) (x : En) (Fl Fr : List Nat), es[2]? = some x ∧ e = .returned (.tuple #[ptrV pl, .agg #[.string (str x.1), .int .i64 x.2], ptrV pr]) ∧ NdT w' (.mk (es.take 2) (ks.take 3)) pl Fl ∧ NdT w' (.mk (es.drop 3) (ks.drop 3)) pr Fr ∧ (Fl ++ Fr).Nodup ∧ (∀ b ∈ Fl ++ Fr, b ∈ F ∨ w.heap.size ≤ b) ∧ Below w.heap.size w w' := by
  simp only [NdT] at h
  obtain ⟨vE, vK, kps, Fk, hB, hE, hK, hL, rfl⟩ := h
  have hp := hB.lt
  obtain ⟨ae, ce, rfl, -, -, -, -⟩ := owns_shape hE
  obtain ⟨gk, ck, rfl, hgk, hck, hck2, hkc⟩ := kid_slot kps vK w (by rw [NdL.len hL, h5]) hK
  have hlk : kps.length = 5 := by rw [NdL.len hL, h5]
  obtain ⟨g, rfl, hgl, hce, hce2, hcell⟩ := part_slot es ae ce w h4 hE
  have hnk : Fk.Nodup := by
    have := (List.nodup_cons.1 hnd).2
    exact (List.nodup_append.1 (List.nodup_append.1 this).2.1).2.1
  have hkl : ∀ b ∈ Fk, b < w.heap.size := hL.lt
  obtain ⟨FA, FB, rfl, hLA, hLB⟩ := hL.cut 3
  have hkA : kps[0]'(by omega) ∈ FA := NdL.mem hLA _ (by rw [← List.getElem_take (i := 0) (j := 3) (h := by rw [List.length_take]; omega)]; exact List.getElem_mem _)
  have hkB : kps[3]'(by omega) ∈ FB := NdL.mem hLB _ (by
    have : (kps.drop 3)[0]'(by rw [List.length_drop]; omega) = kps[3]'(by omega) := by rw [List.getElem_drop]
    rw [← this]; exact List.getElem_mem _)
  have hne : kps[0]'(by omega) ≠ kps[3]'(by omega) := (List.nodup_append.1 hnk).2.2 _ hkA _ hkB
  have hk0 : (kps.take 3)[0]? = some (kps[0]'(by omega)) := by rw [List.getElem?_take, if_pos (by decide)]; exact List.getElem?_eq_getElem _
  have hk3 : (kps.drop 3)[0]? = some (kps[3]'(by omega)) := by rw [List.getElem?_drop]; exact List.getElem?_eq_getElem _
  obtain ⟨q0, hq0⟩ : ∃ q, kps[0]'(by omega) = q := ⟨_, rfl⟩
  obtain ⟨q3, hq3⟩ : ∃ q, kps[3]'(by omega) = q := ⟨_, rfl⟩
  rw [hq0] at hk0 hne
  rw [hq3] at hk3 hne
  clear hkA hkB hq0 hq3 hL
  have HNK := Lib.hid hnk
  have HKL0 := Lib.hid hkl
  have HLA := Lib.hid hLA
  have HLB := Lib.hid hLB
  have HQ0 := Lib.hid (And.intro hk0 (And.intro hk3 hne))
  have hl3 : (kps.take 3).length = 3 := by rw [List.length_take]; omega
  have hl2 : (kps.drop 3).length = 2 := by rw [List.length_drop]; omega
  have kL : ∀ W, Below w.heap.size w W → Calls Try.prog 75 #[.slice (some ⟨gk, 0, none⟩) 3 ck] W fun e w' => ∃ v', e = .returned v' ∧ OwnK w' W.heap.size v' (kps.take 3) ∧ Below W.heap.size W w' := fun W hW => by
    have := clone_k gk 0 3 ck ((kps.take 3).map ptrV) W (by omega) (by rw [List.length_map, hl3]) (fun j v hj => by
      rw [List.getElem?_map] at hj
      obtain ⟨q, hq, rfl⟩ := Option.map_eq_some_iff.1 hj
      rw [List.getElem?_take] at hq
      split at hq
      · rw [Nat.zero_add]; exact (hW.cell (p := ⟨gk, j, none⟩) hgk).trans (hkc j q hq)
      · cases hq) (fun v hv => by obtain ⟨q, _, rfl⟩ := List.mem_map.1 hv; rfl)
    refine this.mono ?_
    rintro e W' ⟨v', rfl, ho, hb⟩
    exact ⟨v', rfl, by unfold OwnK; rw [hl3]; exact ho, hb⟩
  have kR : ∀ W, Below w.heap.size w W → Calls Try.prog 75 #[.slice (some ⟨gk, 3, none⟩) 2 (ck - 3)] W fun e w' => ∃ v', e = .returned v' ∧ OwnK w' W.heap.size v' (kps.drop 3) ∧ Below W.heap.size W w' := fun W hW => by
    have := clone_k gk 3 2 (ck - 3) ((kps.drop 3).map ptrV) W (by omega) (by rw [List.length_map, hl2]) (fun j v hj => by
      rw [List.getElem?_map] at hj
      obtain ⟨q, hq, rfl⟩ := Option.map_eq_some_iff.1 hj
      rw [List.getElem?_drop] at hq
      exact (hW.cell (p := ⟨gk, 3 + j, none⟩) hgk).trans (hkc _ q hq)) (fun v hv => by obtain ⟨q, _, rfl⟩ := List.mem_map.1 hv; rfl)
    refine this.mono ?_
    rintro e W' ⟨v', rfl, ho, hb⟩
    exact ⟨v', rfl, by unfold OwnK; rw [hl2]; exact ho, hb⟩
  have hnode1 : ∀ W, Below w.heap.size w W → W.cell? ⟨p, 1, none⟩ = some (.slice (some ⟨gk, 0, none⟩) 5 ck) := fun W hW => (hB.keep hW hp).cell (j := 1) rfl
  have HNODE1 := Lib.hid hnode1
  have HXL := Lib.hid kL
  have HXR := Lib.hid kR
  have hsk : ¬ (ck = 3) := by omega
  have hik : (3 : Int) ≤ (ck : Int) := by omega
  have HLL := Lib.hid (And.intro hl3 hl2)
  clear kL kR hnode1 hck hck2 hkc hLA hLB hk0 hk3 hne hkl hnk hl3 hl2
  obtain ⟨x, hx⟩ : ∃ x, es[2]? = some x := ⟨es[2]'(by omega), List.getElem?_eq_getElem _⟩
  have cL := fun W (hW : Below w.heap.size w W) => clone_e g 0 2 ce (cellsE (es.take 2)) W (by omega) (by rw [cellsE_length, List.length_take]; omega) (fun j v hj => by
    rw [Nat.zero_add]
    rw [← cellsE_take, List.getElem?_take] at hj
    split at hj
    · exact (hW.cell (p := ⟨g, j, none⟩) hgl).trans (hcell j v hj)
    · cases hj) (cellsE_oneT _)
  have cR := fun W (hW : Below w.heap.size w W) => clone_e g 6 1 (ce - 3) (cellsE (es.drop 3)) W (by omega) (by rw [cellsE_length, List.length_drop]; omega) (fun j v hj => by
    rw [← cellsE_drop, List.getElem?_drop] at hj
    exact (hW.cell (p := ⟨g, 6 + j, none⟩) hgl).trans (hcell _ v hj)) (cellsE_oneT _)
  have cF := fun W (hW : Below w.heap.size w W) => leaf_any p (some ⟨g, 0, none⟩) (some ⟨gk, 0, none⟩) es.length 5 ce ck W (hB.keep hW hp)
  have hnode : ∀ W, Below w.heap.size w W → W.cell? ⟨p, 0, none⟩ = some (.slice (some ⟨g, 0, none⟩) 4 ce) := fun W hW => by
    rw [← h4]; exact (hB.keep hW hp).cell (j := 0) rfl
  have hx0 : ∀ W, Below w.heap.size w W → W.cell? ⟨g, 4, none⟩ = some (.string (str x.1)) ∧ W.cell? ⟨g, 5, none⟩ = some (.int .i64 x.2) := fun W hW => ⟨(hW.cell (p := ⟨g, 4, none⟩) hgl).trans (hcell 4 _ (cellsE_at es 2 0 x hx (by decide))), (hW.cell (p := ⟨g, 5, none⟩) hgl).trans (hcell 5 _ (cellsE_at es 2 1 x hx (by decide)))⟩
  have HNODE := Lib.hid hnode
  have HX := Lib.hid hx0
  have HCL := Lib.hid cL
  have HCR := Lib.hid cR
  have HCF := Lib.hid cF
  have HX2 := Lib.hid hx
  have z0 : Blk _ _ _ [_, _] := Blk.new w #[.string ⟨#[]⟩, .int .i64 0] 73
  have hb0 := (Below.refl w.heap.size w).alloc (Nat.le_refl _) (.cells #[.string ⟨#[]⟩, .int .i64 0] 73)
  obtain ⟨w0, hw0⟩ : ∃ V, w.alloc (.cells #[.string ⟨#[]⟩, .int .i64 0] 73) = V := ⟨_, rfl⟩
  rw [hw0] at z0 hb0
  have HW0 := Lib.hid hw0
  have HZ0 := Lib.hid z0
  have HB0 := Lib.hid hb0
  have p0 := hnode w0 hb0
  have c0 := cL w0 hb0
  have hs0 : ¬ (ce = 3) := by omega
  have hi1 : (2 : Int) ≤ (ce : Int) := by omega
  have hi2 : IntKind.i64.wrap ((2 : Int) + 1) = 3 := by rw [IntKind.wrap_i64]; omega
  clear hB hE hK hcell hnode hx0 cL cR cF hw0 z0 hb0 hx
  go_enter Try.func69, Try.ntmps69
  go_upto_region 1 with fail
  rw [HW0.out]
  go_upto_region 2 with fail
  go_wp2_with fail
  refine c0.mono ?_
  rintro e w1 ⟨vl, rfl, ho1, hb1⟩
  clear c0 p0
  obtain ⟨al, cl, ev, -, -, -, hal⟩ := owns_shape ho1
  subst ev
  have HB1 := Lib.hid (below_stepE HB0.out HB0.out.size hb1)
  have hb1b := (Below.refl w1.heap.size w1).alloc (Nat.le_refl _) (.cells #[.slice al 2 cl, .slice none 0 0] 83)
  have z1 : Blk _ _ _ [_, _] := Blk.new w1 #[.slice al 2 cl, .slice none 0 0] 83
  have n1 : (w1.alloc (.cells #[.slice al 2 cl, .slice none 0 0] 83)).heap.size = w1.heap.size + 1 := by simp
  obtain ⟨w2, hw2⟩ : ∃ V, w1.alloc (.cells #[.slice al 2 cl, .slice none 0 0] 83) = V := ⟨_, rfl⟩
  rw [hw2] at hb1b z1 n1
  have HW2 := Lib.hid hw2
  have HB2 := Lib.hid (below_stepE HB1.out HB1.out.size hb1b)
  have HO2 := Lib.hid (owns_same ho1 (fun b e => hb1b.block b (ho1.lt b e).2))
  have HL2 : Hid (∀ b, (Value.slice al 2 cl).ownBlock = some b → w0.heap.size ≤ b ∧ b < w1.heap.size) := Lib.hid (fun b e => ho1.lt b e)
  have HZ2 := Lib.hid z1
  have HN1 := Lib.hid n1
  have HM1 := Lib.hid (below_stepE hb1 hb1.size hb1b)
  have p1 := HNODE.out w2 HB2.out
  have c1 := HCR.out w2 HB2.out
  have HS1 := Lib.hid hb1.size
  clear hb1 ho1 hb1b z1 n1 hw2 hal
  go_upto_region 3 with fail
  rw [HW2.out]
  go_wp2_with fail
  refine c1.mono ?_
  rintro e w3 ⟨vr, rfl, ho3, hb3⟩
  clear c1 p1
  obtain ⟨ar, cr, ev, -, -, -, har⟩ := owns_shape ho3
  subst ev
  have HB3 := Lib.hid (below_stepE HB2.out HB2.out.size hb3)
  have hb3b := (Below.refl w3.heap.size w3).alloc (Nat.le_refl _) (.cells #[.slice ar 1 cr, .slice none 0 0] 83)
  have z3 : Blk _ _ _ [_, _] := Blk.new w3 #[.slice ar 1 cr, .slice none 0 0] 83
  have n3 : (w3.alloc (.cells #[.slice ar 1 cr, .slice none 0 0] 83)).heap.size = w3.heap.size + 1 := by simp
  obtain ⟨w4, hw4⟩ : ∃ V, w3.alloc (.cells #[.slice ar 1 cr, .slice none 0 0] 83) = V := ⟨_, rfl⟩
  rw [hw4] at hb3b z3 n3
  have HW4 := Lib.hid hw4
  have HB4 := Lib.hid (below_stepE HB3.out HB3.out.size hb3b)
  have HO4 := Lib.hid (owns_same ho3 (fun b e => hb3b.block b (ho3.lt b e).2))
  have HL4 : Hid (∀ b, (Value.slice ar 1 cr).ownBlock = some b → w2.heap.size ≤ b ∧ b < w3.heap.size) := Lib.hid (fun b e => ho3.lt b e)
  have HZ4 := Lib.hid z3
  have HM3 := Lib.hid (hb3.trans (hb3b.mono hb3.size))
  have HN3 := Lib.hid n3
  have HS3 := Lib.hid hb3.size
  have c2 := HCF.out w4 HB4.out
  clear hb3 ho3 hb3b z3 n3 hw4 har
  go_upto_region 4 with fail
  rw [HW4.out]
  have c2' : Calls Try.prog 47 #[.pointer (some ⟨p, 0, none⟩)] w4 fun e w' => e = .returned (.bool false) ∧ w' = w4 := c2
  clear c2
  go_wp2_with fail
  refine c2'.mono ?_
  rintro e w4 ⟨rfl, rfl⟩
  clear c2'
  go_upto_region 5 with fail
  obtain ⟨n4, hn4⟩ : ∃ m, w4.heap.size = m := ⟨_, rfl⟩
  obtain ⟨pl, hpl⟩ : ∃ m, w1.heap.size = m := ⟨_, rfl⟩
  obtain ⟨pr, hpr⟩ : ∃ m, w3.heap.size = m := ⟨_, rfl⟩
  have l0 := HZ0.out.lt
  have l1 := HS1.out
  have l2 := HN1.out
  have l3 := HS3.out
  have l4 := HN3.out
  have hsz := HB4.out.size
  rw [hpl] at l1 l2
  rw [hpr] at l3 l4
  rw [hn4] at l4
  have HLOW : Hid (∀ W, Chg [pl, pr] w4 W → Below w.heap.size w W) := Lib.hid (fun W hW => HB4.out.trans (hW.below (B := w.heap.size) (by simp; omega) HB4.out.size))
  have HN1 : Hid (∀ W, Chg [pl, pr] w4 W → W.cell? ⟨p, 1, none⟩ = some (.slice (some ⟨gk, 0, none⟩) 5 ck)) := Lib.hid (fun W hW => HNODE1.out W (HLOW.out W hW))
  have HKL : Hid (∀ W, Chg [pl, pr] w4 W → Calls Try.prog 75 #[.slice (some ⟨gk, 0, none⟩) 3 ck] W fun e w' => ∃ v', e = .returned v' ∧ OwnK w' n4 v' (kps.take 3) ∧ Below W.heap.size W w') := Lib.hid (fun W hW => (HXL.out W (HLOW.out W hW)).mono (by
    rintro e W' ⟨v', rfl, ho, hb⟩
    exact ⟨v', rfl, owns_base ho (by rw [← hn4]; exact hW.size), hb⟩))
  have HKR : Hid (∀ W, Chg [pl, pr] w4 W → Calls Try.prog 75 #[.slice (some ⟨gk, 3, none⟩) 2 (ck - 3)] W fun e w' => ∃ v', e = .returned v' ∧ OwnK w' n4 v' (kps.drop 3) ∧ Below W.heap.size W w') := Lib.hid (fun W hW => (HXR.out W (HLOW.out W hW)).mono (by
    rintro e W' ⟨v', rfl, ho, hb⟩
    exact ⟨v', rfl, owns_base ho (by rw [← hn4]; exact hW.size), hb⟩))
  have HPLR : Hid (∀ b ∈ [pl, pr], b < n4) := Lib.hid (by simp; omega)
  have HNE : Hid (pl ≠ pr) := Lib.hid (by omega)
  have HBL : Hid (Blk w4 pl 83 [.slice al 2 cl, .slice none 0 0]) := Lib.hid (by rw [← hpl]; exact HZ2.out.call HM3.out)
  have HBR : Hid (Blk w4 pr 83 [.slice ar 1 cr, .slice none 0 0]) := Lib.hid (by rw [← hpr]; exact HZ4.out)
  rw [hpl, hpr]
  have HHN := Lib.hid (And.intro hn4 (And.intro hpl (And.intro hpr (And.intro l1 (And.intro l2 (And.intro l3 l4))))))
  clear hn4 hpl hpr l0 l1 l2 l3 l4 hsz
  refine wp_region_chain 24 [9, 17, 20, 23] (by kernel_rfl) (by kernel_rfl) (by kernel_rfl) (PtF5 pl pr p gk ck n4 kps) (fun s W => Chg [pl, pr] w4 W ∧ ∃ vL vR, Blk W pl 83 [.slice al 2 cl, vL] ∧ Blk W pr 83 [.slice ar 1 cr, vR] ∧ (3 ≤ s → OwnK W n4 vL (kps.take 3)) ∧ (4 ≤ s → OwnK W n4 vR (kps.drop 3))) (fun _ W W' => Chg [pl, pr] W W') ?hF ?h0 ?hstep ?hcall ?hdone
  case hF =>
    intro s i hs j v W W' hjn hne hpb h he
    rcases (show j = 0 ∨ j = 1 ∨ j = 2 ∨ j = 3 ∨ j = 4 ∨ j = 5 ∨ j = 6 ∨ j = 7 ∨ j = 8 ∨ j = 9 ∨ j = 10 ∨ j = 11 ∨ j = 12 ∨ j = 13 ∨ j = 14 ∨ j = 15 ∨ j = 16 ∨ j = 17 ∨ j = 18 ∨ j = 19 ∨ j = 20 ∨ j = 21 ∨ j = 22 ∨ j = 23 by omega) with rfl | rfl | rfl | rfl | rfl | rfl | rfl | rfl | rfl | rfl | rfl | rfl | rfl | rfl | rfl | rfl | rfl | rfl | rfl | rfl | rfl | rfl | rfl | rfl
    · exact h
    · exact h
    · exact h
    · exact h
    · exact h
    · exact h
    · exact h
    · exact h
    · exact h
    · exact own_chg h he HPLR.out
    · exact h
    · exact h
    · exact h
    · exact h
    · exact h
    · exact h
    · exact h
    · exact own_chg h he HPLR.out
    · exact h
    · exact h
    · exact h
    · exact h
    · exact h
    · exact h
  case h0 => exact ⟨.ofBelow _ (Below.drew (Below.refl _ _)), _, _, HBL.out, HBR.out, fun h => absurd h (by decide), fun h => absurd h (by decide)⟩
  case hstep =>
    intro j hj hni s vs act W K ha' hst hd hu hK
    simp only [fillF, Act.put, List.take_succ_cons, List.take_zero, List.setIfInBounds_toArray, List.set_cons_zero, List.set_cons_succ] at ha'
    subst ha'
    clear hu
    have z1 := HN1.out W hst.1
    rcases (show j = 0 ∨ j = 1 ∨ j = 2 ∨ j = 3 ∨ j = 4 ∨ j = 5 ∨ j = 6 ∨ j = 7 ∨ j = 8 ∨ j = 9 ∨ j = 10 ∨ j = 11 ∨ j = 12 ∨ j = 13 ∨ j = 14 ∨ j = 15 ∨ j = 16 ∨ j = 17 ∨ j = 18 ∨ j = 19 ∨ j = 20 ∨ j = 21 ∨ j = 22 ∨ j = 23 by omega) with rfl | rfl | rfl | rfl | rfl | rfl | rfl | rfl | rfl | rfl | rfl | rfl | rfl | rfl | rfl | rfl | rfl | rfl | rfl | rfl | rfl | rfl | rfl | rfl
    · refine wpOp_step rfl (fun K' hK' => ?_)
      go_simp
      exact hK' _ _ (hK _ rfl)
    · refine wpOp_step rfl (fun K' hK' => ?_)
      go_simp
      exact hK' _ _ (hK _ rfl)
    · refine wpOp_step rfl (fun K' hK' => ?_)
      go_simp
      exact hK' _ _ (hK _ rfl)
    · have e2 : vs 2 = .pointer (some ⟨p, 0, none⟩) := hd 2 (by kernel_rfl)
      simp only [e2] at hK ⊢
      refine wpOp_step rfl (fun K' hK' => ?_)
      go_simp
      exact hK' _ _ (hK _ rfl)
    · have e3 : vs 3 = .pointer (some ⟨p, 0, none⟩) := hd 3 (by kernel_rfl)
      simp only [e3] at hK ⊢
      refine wpOp_step rfl (fun K' hK' => ?_)
      go_simp
      exact hK' _ _ (hK _ rfl)
    · have e4 : vs 4 = .pointer (some ⟨p, 1, none⟩) := hd 4 (by kernel_rfl)
      simp only [e4] at hK ⊢
      refine wpOp_step rfl (fun K' hK' => ?_)
      go_simp
      exact hK' _ _ (hK _ rfl)
    · refine wpOp_step rfl (fun K' hK' => ?_)
      go_simp
      exact hK' _ _ (hK _ rfl)
    · have e6 : vs 6 = .int .i64 2 := hd 6 (by kernel_rfl)
      simp only [e6] at hK ⊢
      refine wpOp_step rfl (fun K' hK' => ?_)
      go_simp
      exact hK' _ _ (hK _ rfl)
    · have e5 : vs 5 = .slice (some ⟨gk, 0, none⟩) 5 ck := hd 5 (by kernel_rfl)
      have e7 : vs 7 = .int .i64 3 := hd 7 (by kernel_rfl)
      simp only [e5, e7] at hK ⊢
      refine wpOp_step rfl (fun K' hK' => ?_)
      go_simp
      exact hK' _ _ (hK _ rfl)
    · exact (hni (by decide)).elim
    · refine wpOp_step rfl (fun K' hK' => ?_)
      go_simp
      exact hK' _ _ (hK _ rfl)
    · have e10 : vs 10 = .pointer (some ⟨p, 0, none⟩) := hd 10 (by kernel_rfl)
      simp only [e10] at hK ⊢
      refine wpOp_step rfl (fun K' hK' => ?_)
      go_simp
      exact hK' _ _ (hK _ rfl)
    · have e11 : vs 11 = .pointer (some ⟨p, 0, none⟩) := hd 11 (by kernel_rfl)
      simp only [e11] at hK ⊢
      refine wpOp_step rfl (fun K' hK' => ?_)
      go_simp
      exact hK' _ _ (hK _ rfl)
    · have e12 : vs 12 = .pointer (some ⟨p, 1, none⟩) := hd 12 (by kernel_rfl)
      simp only [e12] at hK ⊢
      refine wpOp_step rfl (fun K' hK' => ?_)
      go_simp
      exact hK' _ _ (hK _ rfl)
    · refine wpOp_step rfl (fun K' hK' => ?_)
      go_simp
      exact hK' _ _ (hK _ rfl)
    · have e14 : vs 14 = .int .i64 2 := hd 14 (by kernel_rfl)
      simp only [e14] at hK ⊢
      refine wpOp_step rfl (fun K' hK' => ?_)
      go_simp
      exact hK' _ _ (hK _ rfl)
    · have e13 : vs 13 = .slice (some ⟨gk, 0, none⟩) 5 ck := hd 13 (by kernel_rfl)
      have e15 : vs 15 = .int .i64 3 := hd 15 (by kernel_rfl)
      simp only [e13, e15] at hK ⊢
      refine wpOp_step rfl (fun K' hK' => ?_)
      go_simp
      exact hK' _ _ (hK _ rfl)
    · exact (hni (by decide)).elim
    · have e0 : vs 0 = ptrV pl := hd 0 (by kernel_rfl)
      simp only [e0] at hK ⊢
      refine wpOp_step rfl (fun K' hK' => ?_)
      go_simp
      exact hK' _ _ (hK _ rfl)
    · have e18 : vs 18 = ptrV pl := hd 18 (by kernel_rfl)
      simp only [e18] at hK ⊢
      refine wpOp_step rfl (fun K' hK' => ?_)
      go_simp
      exact hK' _ _ (hK _ rfl)
    · exact (hni (by decide)).elim
    · have e1 : vs 1 = ptrV pr := hd 1 (by kernel_rfl)
      simp only [e1] at hK ⊢
      refine wpOp_step rfl (fun K' hK' => ?_)
      go_simp
      exact hK' _ _ (hK _ rfl)
    · have e21 : vs 21 = ptrV pr := hd 21 (by kernel_rfl)
      simp only [e21] at hK ⊢
      refine wpOp_step rfl (fun K' hK' => ?_)
      go_simp
      exact hK' _ _ (hK _ rfl)
    · exact (hni (by decide)).elim
  case hcall =>
    intro s j hs vs act W K ha' hst hd hK
    simp only [fillF, Act.put, List.take_succ_cons, List.take_zero, List.setIfInBounds_toArray, List.set_cons_zero, List.set_cons_succ] at ha'
    subst ha'
    rcases s with _ | _ | _ | _ | s
    · obtain rfl : 9 = j := by simpa using hs
      have e8 : vs 8 = .slice (some ⟨gk, 0, none⟩) 3 ck := hd 8 (by kernel_rfl)
      simp only [e8] at hK ⊢
      obtain ⟨hc, vL, vR, hbl, hbr, -, -⟩ := hst
      refine wpOp_step rfl (fun K' hK' => ?_)
      go_simp
      refine (HKL.out W hc).mono ?_
      rintro e W' ⟨v', rfl, ho, hb⟩
      exact hK' _ _ (hK _ _ ho (.ofBelow _ hb) ⟨hc.trans (.ofBelow [pl, pr] hb) (fun _ h => .inl h), vL, vR, hbl.call hb, hbr.call hb, fun h => absurd h (by decide), fun h => absurd h (by decide)⟩)
    · obtain rfl : 17 = j := by simpa using hs
      have e16 : vs 16 = .slice (some ⟨gk, 3, none⟩) 2 (ck - 3) := hd 16 (by kernel_rfl)
      simp only [e16] at hK ⊢
      obtain ⟨hc, vL, vR, hbl, hbr, -, -⟩ := hst
      refine wpOp_step rfl (fun K' hK' => ?_)
      go_simp
      refine (HKR.out W hc).mono ?_
      rintro e W' ⟨v', rfl, ho, hb⟩
      exact hK' _ _ (hK _ _ ho (.ofBelow _ hb) ⟨hc.trans (.ofBelow [pl, pr] hb) (fun _ h => .inl h), vL, vR, hbl.call hb, hbr.call hb, fun h => absurd h (by decide), fun h => absurd h (by decide)⟩)
    · obtain rfl : 20 = j := by simpa using hs
      have y9 : OwnK W n4 (vs 9) (kps.take 3) := hd 9 (by kernel_rfl)
      have e19 : vs 19 = .pointer (some ⟨pl, 1, none⟩) := hd 19 (by kernel_rfl)
      simp only [e19] at hK ⊢
      obtain ⟨hc, vL, vR, hbl, hbr, -, -⟩ := hst
      have q0 := hbl.cell (j := 1) rfl
      have q1 := hbl.free 1
      obtain ⟨a9, c9, e9, -, -, -, -⟩ := owns_shape y9
      rw [HLL.out.1] at e9
      have hs : Chg [pl, pr] W (W.setCell ⟨pl, 1, none⟩ (vs 9)) := Chg.setCell _ _ (by simp)
      have hst' : OwnK (W.setCell ⟨pl, 1, none⟩ (vs 9)) n4 (vs 9) (kps.take 3) := own_chg y9 hs HPLR.out
      have hbl' := hbl.set 1 (vs 9)
      have hbr' := hbr.other ⟨pl, 1, none⟩ (vs 9) (fun h => HNE.out h.symm)
      rw [e9] at hK hs hst' hbl' hbr' ⊢
      refine wpOp_step rfl (fun K' hK' => ?_)
      go_simp
      exact hK' _ _ (hK undef _ trivial hs ⟨hc.trans hs (fun _ h => .inl h), _, _, hbl', hbr', fun _ => hst', fun h => absurd h (by decide)⟩)
    · obtain rfl : 23 = j := by simpa using hs
      have y17 : OwnK W n4 (vs 17) (kps.drop 3) := hd 17 (by kernel_rfl)
      have e22 : vs 22 = .pointer (some ⟨pr, 1, none⟩) := hd 22 (by kernel_rfl)
      simp only [e22] at hK ⊢
      obtain ⟨hc, vL, vR, hbl, hbr, ho, -⟩ := hst
      have q0 := hbr.cell (j := 1) rfl
      have q1 := hbr.free 1
      obtain ⟨a9, c9, e9, -, -, -, -⟩ := owns_shape y17
      rw [HLL.out.2] at e9
      have hs : Chg [pl, pr] W (W.setCell ⟨pr, 1, none⟩ (vs 17)) := Chg.setCell _ _ (by simp)
      have hst' : OwnK (W.setCell ⟨pr, 1, none⟩ (vs 17)) n4 (vs 17) (kps.drop 3) := own_chg y17 hs HPLR.out
      have hstL : OwnK (W.setCell ⟨pr, 1, none⟩ (vs 17)) n4 vL (kps.take 3) := own_chg (ho (by decide)) hs HPLR.out
      have hbr' := hbr.set 1 (vs 17)
      have hbl' := hbl.other ⟨pr, 1, none⟩ (vs 17) HNE.out
      rw [e9] at hK hs hst' hstL hbl' hbr' ⊢
      refine wpOp_step rfl (fun K' hK' => ?_)
      go_simp
      exact hK' _ _ (hK undef _ trivial hs ⟨hc.trans hs (fun _ h => .inl h), _, _, hbl', hbr', fun _ => hstL, fun _ => hst'⟩)
    · simp at hs
  case hdone =>
    intro vs act W5 ha' hst hfs
    simp only [fillF, Act.put, List.take_succ_cons, List.take_zero, List.drop_succ_cons, List.drop_zero, List.setIfInBounds_toArray, List.set_cons_zero, List.set_cons_succ] at ha' ⊢
    subst ha'
    obtain ⟨hc5, vL, vR, hbl, hbr, hoL, hoR⟩ := hst
    clear hfs
    have HBL5 := Lib.hid hbl
    have HBR5 := Lib.hid hbr
    have HOL := Lib.hid (hoL (by decide))
    have HOR := Lib.hid (hoR (by decide))
    have HC5 := Lib.hid hc5
    clear hbl hbr hoL hoR hc5
    go_upto_region 6 with fail
    obtain ⟨hn4, hpl, hpr, l1, l2, l3, l4⟩ := HHN.out
    have l0 := HZ0.out.lt
    have hB5 : Below w.heap.size w W5 := HLOW.out W5 HC5.out
    have HM0 : Hid (Blk W5 w.heap.size 73 [.string ⟨#[]⟩, .int .i64 0]) := Lib.hid (((HZ0.out.call HM1.out).call HM3.out).same (HC5.out.block _ (by omega) (by simp; omega)))
    have HP : Hid (∀ W, Chg [w.heap.size] W5 W → W.cell? ⟨p, 0, none⟩ = some (.slice (some ⟨g, 0, none⟩) 4 ce) ∧ W.cell? ⟨g, 4, none⟩ = some (.string (str x.1)) ∧ W.cell? ⟨g, 5, none⟩ = some (.int .i64 x.2)) := Lib.hid (fun W hW => by
      have hs := hB5.size
      have c : ∀ b j, b < w.heap.size → W.cell? ⟨b, j, none⟩ = W5.cell? ⟨b, j, none⟩ := fun b j hb => World.cell?_of_block (w := W5) (hW.block b (by omega) (by simp; omega))
      rw [c p 0 hp, c g 4 hgl, c g 5 hgl]
      exact ⟨HNODE.out W5 hB5, HX.out W5 hB5⟩)
    have HFIN : Hid (∀ W, Chg [w.heap.size] W5 W → NdT W (.mk (es.take 2) (ks.take 3)) pl (pl :: ((Value.slice al 2 cl).ownBlock.toList ++ (vL.ownBlock.toList ++ FA))) ∧ NdT W (.mk (es.drop 3) (ks.drop 3)) pr (pr :: ((Value.slice ar 1 cr).ownBlock.toList ++ (vR.ownBlock.toList ++ FB))) ∧ Below w.heap.size w W) := Lib.hid (fun W hW => by
      have hs5 := HC5.out.size
      have k : ∀ b, b < W5.heap.size → w.heap.size < b → W.heap[b]? = W5.heap[b]? := fun b hb hn => hW.block b hb (by simp; omega)
      have k4 : ∀ b, b < n4 → b ≠ pl → b ≠ pr → W5.heap[b]? = w4.heap[b]? := fun b hb h1 h2 => HC5.out.block b (by omega) (by simp [h1, h2])
      have t2 : (es.take 2).length = 2 := by rw [List.length_take]; omega
      have t3 : (es.drop 3).length = 1 := by rw [List.length_drop]; omega
      have hbw : Below w.heap.size w W := hB5.trans (hW.below (B := w.heap.size) (by simp) hB5.size)
      have eL : OwnE W 0 (.slice al 2 cl) (es.take 2) := by
        unfold OwnE
        rw [t2]
        exact owns_base (owns_same HO2.out (fun b e => by
          have := HL2.out b e
          rw [k b (by omega) (by omega), k4 b (by omega) (by omega) (by omega)]
          exact HM3.out.block b (by omega))) (Nat.zero_le _)
      have eR : OwnE W 0 (.slice ar 1 cr) (es.drop 3) := by
        unfold OwnE
        rw [t3]
        exact owns_base (owns_same HO4.out (fun b e => by
          have := HL4.out b e
          rw [k b (by omega) (by omega), k4 b (by omega) (by omega) (by omega)])) (Nat.zero_le _)
      have oL : OwnK W 0 vL (kps.take 3) := owns_base (own_chg HOL.out hW (by simp; omega)) (Nat.zero_le _)
      have oR : OwnK W 0 vR (kps.drop 3) := owns_base (own_chg HOR.out hW (by simp; omega)) (Nat.zero_le _)
      refine ⟨?_, ?_, hbw⟩
      · simp only [NdT]
        exact ⟨_, _, kps.take 3, FA, HBL5.out.same (k _ HBL5.out.lt (by omega)), eL, oL, HLA.out.same (fun b hb => hbw.block b (HKL0.out b (List.mem_append_left _ hb))), rfl⟩
      · simp only [NdT]
        exact ⟨_, _, kps.drop 3, FB, HBR5.out.same (k _ HBR5.out.lt (by omega)), eR, oR, HLB.out.same (fun b hb => hbw.block b (HKL0.out b (List.mem_append_right _ hb))), rfl⟩)
    have HND := Lib.hid (part_nodupK (Value.slice al 2 cl).ownBlock (Value.slice ar 1 cr).ownBlock vL.ownBlock vR.ownBlock w.heap.size pl pr n4 (fun b e => by
      have := HL2.out b e
      omega) (fun b e => by
      have := HL4.out b e
      omega) (fun b e => (HOL.out.lt b e).1) (fun b e => (HOR.out.lt b e).1) (own_apart HOL.out HOR.out HQ0.out.1 HQ0.out.2.1 HQ0.out.2.2) (by omega) (by omega) (by omega))
    have HND2 := Lib.hid (nod4 HND.out.1 HNK.out (fun a ha b hb e => by
      have h1 := HND.out.2 a ha
      have h2 := HKL0.out b hb
      omega))
    obtain ⟨m0, hm0⟩ : ∃ m, w.heap.size = m := ⟨_, rfl⟩
    obtain ⟨key, y⟩ := x
    simp only at HP
    rw [hm0] at HM0 HP HFIN
    have HG : Hid (∀ (e : Ending) (W : World), Chg [m0] W5 W → e = .returned (.tuple #[ptrV pl, .agg #[.string (str key), .int .i64 y], ptrV pr]) → ∃ (pl pr : Nat) (x : En) (Fl Fr : List Nat), es[2]? = some x ∧ e = .returned (.tuple #[ptrV pl, .agg #[.string (str x.1), .int .i64 x.2], ptrV pr]) ∧ NdT W (.mk (es.take 2) (ks.take 3)) pl Fl ∧ NdT W (.mk (es.drop 3) (ks.drop 3)) pr Fr ∧ (Fl ++ Fr).Nodup ∧ (∀ b ∈ Fl ++ Fr, b ∈ p :: ((Value.slice (some ⟨g, 0, none⟩) es.length ce).ownBlock.toList ++ ((Value.slice (some ⟨gk, 0, none⟩) 5 ck).ownBlock.toList ++ (FA ++ FB))) ∨ w.heap.size ≤ b) ∧ Below w.heap.size w W) := Lib.hid (fun e W hW he => by
      obtain ⟨n1, n2, n3⟩ := HFIN.out W hW
      refine ⟨pl, pr, (key, y), _, _, HX2.out, he, n1, n2, by simpa only [List.cons_append, List.append_assoc] using HND2.out, fun b hb => ?_, by rw [hm0]; exact n3⟩
      have hn := HND.out.2 b
      simp only [List.cons_append, List.mem_cons, List.mem_append] at hb hn ⊢
      rcases hb with h | (h | h | h) | h | h | h | h
      · exact .inr (hn (.inl h))
      · exact .inr (hn (.inr (.inl (.inl h))))
      · exact .inr (hn (.inr (.inl (.inr h))))
      · exact .inl (.inr (.inr (.inr (.inl h))))
      · exact .inr (hn (.inr (.inr (.inl h))))
      · exact .inr (hn (.inr (.inr (.inr (.inl h)))))
      · exact .inr (hn (.inr (.inr (.inr (.inr h)))))
      · exact .inl (.inr (.inr (.inr (.inr h)))))
    clear HFIN HND HND2 HX2 HZ0 HB0 HW0 HB1 HB2 HO2 HL2 HZ2 HM1 HB3 HL4 HO4 HZ4 HM3 HCL HCR HCF HW2 HW4 HNODE HX HHN HBL5 HBR5 HOL HOR HC5 HKL HKR HXL HXR HNODE1 HLOW HN1 HNK HKL0 HLA HLB HQ0 HLL HPLR HNE HBL HBR hn4 hpl hpr l0 l1 l2 l3 l4 hB5
    rw [hm0]
    clear hm0
    refine wp_region_chain 11 [10] (by kernel_rfl) (by kernel_rfl) (by kernel_rfl) (PtF6 pl pr p g ce key y) (fun s W => Chg [m0] W5 W ∧ ∃ a b, Blk W m0 73 [a, b] ∧ (s = 1 → a = .string (str key) ∧ b = .int .i64 y)) (fun _ _ _ => True) ?hF ?h0 ?hstep ?hcall ?hdone
    case hF =>
      intro s i hs j v W W' hjn hne hpb h he
      rcases (show j = 0 ∨ j = 1 ∨ j = 2 ∨ j = 3 ∨ j = 4 ∨ j = 5 ∨ j = 6 ∨ j = 7 ∨ j = 8 ∨ j = 9 ∨ j = 10 by omega) with rfl | rfl | rfl | rfl | rfl | rfl | rfl | rfl | rfl | rfl | rfl
      · exact h
      · exact h
      · exact h
      · exact h
      · exact h
      · exact h
      · exact h
      · exact h
      · exact h
      · exact h
      · exact h
    case h0 => exact ⟨.ofBelow _ (Below.drew (Below.refl _ _)), _, _, HM0.out, fun h => by cases h⟩
    case hstep =>
      intro j hj hni s vs act W K ha' hst hd hu hK
      simp only [fillF, Act.put, List.take_succ_cons, List.take_zero, List.setIfInBounds_toArray, List.set_cons_zero, List.set_cons_succ] at ha'
      subst ha'
      obtain ⟨y0, y1, y2⟩ := HP.out W hst.1
      rcases (show j = 0 ∨ j = 1 ∨ j = 2 ∨ j = 3 ∨ j = 4 ∨ j = 5 ∨ j = 6 ∨ j = 7 ∨ j = 8 ∨ j = 9 ∨ j = 10 by omega) with rfl | rfl | rfl | rfl | rfl | rfl | rfl | rfl | rfl | rfl | rfl
      · have u9 : vs 9 = ptrV pl := hu 9 _ rfl (.inr (by kernel_rfl))
        clear hu
        simp only [u9] at hK ⊢
        refine wpOp_step rfl (fun K' hK' => ?_)
        go_simp
        exact hK' _ _ (hK _ rfl)
      · refine wpOp_step rfl (fun K' hK' => ?_)
        go_simp
        exact hK' _ _ (hK _ rfl)
      · have e1 : vs 1 = .pointer (some ⟨p, 0, none⟩) := hd 1 (by kernel_rfl)
        simp only [e1] at hK ⊢
        refine wpOp_step rfl (fun K' hK' => ?_)
        go_simp
        exact hK' _ _ (hK _ rfl)
      · have e2 : vs 2 = .pointer (some ⟨p, 0, none⟩) := hd 2 (by kernel_rfl)
        simp only [e2] at hK ⊢
        refine wpOp_step rfl (fun K' hK' => ?_)
        go_simp
        exact hK' _ _ (hK _ rfl)
      · have e3 : vs 3 = .pointer (some ⟨p, 0, none⟩) := hd 3 (by kernel_rfl)
        simp only [e3] at hK ⊢
        refine wpOp_step rfl (fun K' hK' => ?_)
        go_simp
        exact hK' _ _ (hK _ rfl)
      · refine wpOp_step rfl (fun K' hK' => ?_)
        go_simp
        exact hK' _ _ (hK _ rfl)
      · have e4 : vs 4 = .slice (some ⟨g, 0, none⟩) 4 ce := hd 4 (by kernel_rfl)
        have e5 : vs 5 = .int .i64 2 := hd 5 (by kernel_rfl)
        simp only [e4, e5] at hK ⊢
        refine wpOp_step rfl (fun K' hK' => ?_)
        go_simp
        exact hK' _ _ (hK _ rfl)
      · have e6 : vs 6 = .pointer (some ⟨g, 4, none⟩) := hd 6 (by kernel_rfl)
        simp only [e6] at hK ⊢
        refine wpOp_step rfl (fun K' hK' => ?_)
        go_simp
        exact hK' _ _ (hK _ rfl)
      · refine wpOp_step rfl (fun K' hK' => ?_)
        go_simp
        exact hK' _ _ (hK _ rfl)
      · have e0 : vs 0 = ptrV pl := hd 0 (by kernel_rfl)
        simp only [e0] at hK ⊢
        refine wpOp_step rfl (fun K' hK' => ?_)
        go_simp
        exact hK' _ _ (hK _ rfl)
      · exact (hni (by decide)).elim
    case hcall =>
      intro s j hs vs act W K ha' hst hd hK
      simp only [fillF, Act.put, List.take_succ_cons, List.take_zero, List.setIfInBounds_toArray, List.set_cons_zero, List.set_cons_succ] at ha'
      subst ha'
      rcases s with _ | s
      · obtain rfl : 10 = j := by simpa using hs
        have e7 : vs 7 = .agg #[.string (str key), .int .i64 y] := hd 7 (by kernel_rfl)
        simp only [e7] at hK ⊢
        obtain ⟨hst1, a, b, hbl, -⟩ := hst
        have q0 := hbl.cell (j := 0) rfl
        have q1 := hbl.cell (j := 1) rfl
        have q2 := hbl.free 0
        have q3 := hbl.free 1
        refine wpOp_step rfl (fun K' hK' => ?_)
        go_simp
        exact hK' _ _ (hK undef _ trivial trivial ⟨(hst1.trans (Chg.setCell _ _ (by simp)) (fun _ h => .inl h)).trans (Chg.setCell _ _ (by simp)) (fun _ h => .inl h), _, _, (hbl.set 0 _).set 1 _, fun _ => ⟨rfl, rfl⟩⟩)
      · simp at hs
    case hdone =>
      intro vs act W ha' hst hfs
      simp only [fillF, Act.put, List.take_succ_cons, List.take_zero, List.drop_succ_cons, List.drop_zero, List.setIfInBounds_toArray, List.set_cons_zero, List.set_cons_succ] at ha' ⊢
      subst ha'
      have f8 : vs 8 = ptrV pr := hfs 8 (by decide)
      have f9 : vs 9 = ptrV pl := hfs 9 (by decide)
      simp only [Nat.zero_add, Nat.reduceAdd, f8, f9]
      obtain ⟨hc, a, b, hbl, hab⟩ := hst
      obtain ⟨rfl, rfl⟩ := hab rfl
      clear hfs f8 f9 hab
      go_wp2_with fail
      refine bodyPost_ret (results_ptr_row rfl _ _ m0 [.string (str key), .int .i64 y] rfl hbl rfl rfl (by kernel_rfl)) rfl ?_
      exact HG.out _ W hc rfl
end Go.Proofs.Ytopgakdgifmecaa

/-! CONTRACT of package tree's parted at any node of four entries, by the parts that the plain text names. CONDITIONS: each theorem's own hypotheses. -/
namespace Go.Proofs.Ytopgakdgifmecaa
open Go.RowKit
set_option linter.unusedVariables false
set_option maxRecDepth 100000

theorem parted_any (k : Tr) (p : Nat) (F : List Nat) (w : World) (h : NdT w k p F) (hnd : F.Nodup) (h4 : k.es.length = 4) (h5 : k.ks = [] ∨ k.ks.length = k.es.length + 1) :
    Calls Try.prog 69 #[.pointer (some ⟨p, 0, none⟩)] w fun e w' => ∃ (pl pr : Nat) (x : En) (Fl Fr : List Nat), k.es[k.es.length / 2]? = some x ∧ e = .returned (.tuple #[ptrV pl, .agg #[.string (str x.1), .int .i64 x.2], ptrV pr]) ∧ NdT w' (leftT k) pl Fl ∧ NdT w' (rightT k) pr Fr ∧ (Fl ++ Fr).Nodup ∧ (∀ b ∈ Fl ++ Fr, b ∈ F ∨ w.heap.size ≤ b) ∧ Below w.heap.size w w' := by
  obtain ⟨es, ks⟩ := k
  simp only [Tr.es, Tr.ks] at h4 h5
  have hm : es.length / 2 = 2 := by omega
  unfold leftT rightT
  simp only [Tr.es, Tr.ks, hm]
  rcases h5 with rfl | h5
  · refine (parted_leaf es p F w h h4).mono ?_
    rintro e w' ⟨pl, pr, x, Fl, Fr, h1, h2, h3, h6, h7, h8, h9⟩
    exact ⟨pl, pr, x, Fl, Fr, h1, h2, h3, h6, h7, fun b hb => .inr (h8 b hb), h9⟩
  · refine (parted_kids es ks p F w h hnd h4 (by omega)).mono ?_
    rintro e w' ⟨pl, pr, x, Fl, Fr, h1, h2, h3, h6, h7, h8, h9⟩
    exact ⟨pl, pr, x, Fl, Fr, h1, h2, h3, h6, h7, h8, h9⟩
end Go.Proofs.Ytopgakdgifmecaa

/-! CONTRACT of package tree's partKid where the kid has few entries. CONDITIONS: each theorem's own hypotheses. -/
namespace Go.Proofs.Ytopgakdgifmecaa
open Go.RowKit
set_option linter.unusedVariables false
set_option maxRecDepth 100000

theorem partKid_small (es : List En) (ks : List Tr) (i : Nat) (k : Tr) (p : Nat) (F : List Nat) (w : World) (h : NdT w (.mk es ks) p F) (hk : ks[i]? = some k) (h3 : k.es.length ≤ 3) :
    Calls Try.prog 61 #[.pointer (some ⟨p, 0, none⟩), .int .i64 (i : Int)] w fun e w' => e = .returned (.tuple #[]) ∧ w' = w := by
  obtain ⟨ae, ak, ce, ck, hB, hp, hc1, hc2, hE, hK⟩ := h.open
  obtain ⟨b, q, G, rfl, hb, hcell, hN⟩ := hK i k hk
  obtain ⟨es', ks'⟩ := k
  obtain ⟨ae', ak', ce', ck', hB', hp', -, -, -, -⟩ := hN.open
  simp only [Tr.es] at h3
  have n1 := hB.cell (j := 1) rfl
  have n0 := hB'.cell (j := 0) rfl
  have hik : i < ks.length := (List.getElem?_eq_some_iff.1 hk).1
  have hiI : (i : Int) < (ks.length : Int) := by omega
  have hi0 : (0 : Int) ≤ (i : Int) := by omega
  have hle : ((es'.length : Int) ≤ 3) := by omega
  generalize ks.length = m at *
  generalize es'.length = n at *
  clear hB hB' hE hK hN h hk hc1 hc2
  go_enter Try.func61, Try.ntmps61
  go_wp2_with fail
  exact bodyPost_ret (results_none rfl _ _ _) rfl ⟨rfl, rfl⟩
end Go.Proofs.Ytopgakdgifmecaa

/-! CONTRACT of package tree's partKid at any kid. CONDITIONS: each theorem's own hypotheses. -/
namespace Go.Proofs.Ytopgakdgifmecaa
open Go.RowKit
set_option linter.unusedVariables false
set_option maxRecDepth 100000

def InsF (n0 p ix : Nat) (vE : Value) (sk : List UInt8) (y : Int) (es' : List En) : Nat → Value → World → Prop
  | 0, v, _ => v = .pointer (some ⟨p, 0, none⟩)
  | 1, v, _ => v = .pointer (some ⟨p, 0, none⟩)
  | 2, v, _ => v = .pointer (some ⟨p, 0, none⟩)
  | 3, v, _ => v = .pointer (some ⟨p, 0, none⟩)
  | 4, v, _ => v = vE
  | 5, v, _ => v = .int .i64 (ix : Int)
  | 6, v, _ => v = .agg #[.string (str sk), .int .i64 y]
  | 7, v, w => ∃ k : Nat, v = .slice (some ⟨k, 0, none⟩) 1 1 ∧ Blk w k 73 [.string (str sk), .int .i64 y] ∧ n0 ≤ k
  | 8, v, w => OwnE w 0 v es' ∧ ∀ b, v.ownBlock = some b → vE.ownBlock = some b ∨ n0 ≤ b
  | 9, v, _ => v = .pointer (some ⟨p, 0, none⟩)
  | 10, v, _ => v = .pointer (some ⟨p, 0, none⟩)
  | _, _, _ => True

/-- The region that puts an entry into a node's row. -/
structure InsSt (w3 : World) (n0 p m : Nat) (vE vK : Value) (sk : List UInt8) (y : Int) (es : List En) (s : Nat) (W : World) : Prop where
  chg : Chg vE.ownBlock.toList w3 W
  size : n0 ≤ W.heap.size
  node : Blk W p 83 [vE, vK]
  row : s < 2 → OwnE W 0 vE es
  box : Blk W m 73 [.string (str sk), .int .i64 y]
theorem InsSt.step1 {w3 : World} {n0 p m : Nat} {vE vK : Value} {sk : List UInt8} {y : Int} {es : List En} {s : Nat} {W W' : World} (h : InsSt w3 n0 p m vE vK sk y es s W) (hs : s < 1) (hv : ∀ b, vE.ownBlock = some b → b < n0) (hb : Below W.heap.size W W') : InsSt w3 n0 p m vE vK sk y es (s + 1) W' :=
  ⟨h.chg.trans (.ofBelow vE.ownBlock.toList hb) (fun _ h => .inl h), Nat.le_trans h.size hb.size, h.node.call hb, fun _ => (h.row (by omega)).keep hb, h.box.call hb⟩
theorem InsSt.step2 {w3 : World} {n0 p m : Nat} {vE vK : Value} {sk : List UInt8} {y : Int} {es : List En} {W W' : World} (h : InsSt w3 n0 p m vE vK sk y es 1 W) (hv : vE.ownBlock ≠ some p ∧ vE.ownBlock ≠ some m) (hb : Chg vE.ownBlock.toList W W') : InsSt w3 n0 p m vE vK sk y es (1 + 1) W' :=
  ⟨h.chg.trans hb (fun _ h => .inl h), Nat.le_trans h.size hb.size, h.node.same (hb.block p h.node.lt (by simpa using hv.1)), fun h => absurd h (by decide), h.box.same (hb.block m h.box.lt (by simpa using hv.2))⟩
theorem nd_apart (p : Nat) (oE oK : Option Nat) (L : List Nat) (h : (p :: (oE.toList ++ (oK.toList ++ L))).Nodup) : (oE ≠ some p ∧ oK ≠ some p) ∧ (∀ b, oE = some b → oK ≠ some b) ∧ ∀ x ∈ L, x ≠ p ∧ oE ≠ some x ∧ oK ≠ some x := by
  simp only [List.nodup_cons, List.nodup_append, List.mem_append, Option.mem_toList] at h
  cases oE <;> cases oK <;> grind
theorem kid_nodup (p : Nat) (oE oK oE' oK' : Option Nat) (A G B FL : List Nat) (n n1 n5 : Nat) (h : (p :: (oE.toList ++ (oK.toList ++ (A ++ (G ++ B))))).Nodup) (hlt : ∀ b ∈ p :: (oE.toList ++ (oK.toList ++ (A ++ (G ++ B)))), b < n) (hF : FL.Nodup) (hFG : ∀ b ∈ FL, b ∈ G ∨ n ≤ b) (hF1 : ∀ b ∈ FL, b < n1) (hn : n ≤ n1)
    (hE : ∀ b, oE' = some b → oE = some b ∨ n1 ≤ b) (hE5 : ∀ b, oE' = some b → b < n5) (hK : ∀ b, oK' = some b → oK = some b ∨ n5 ≤ b) (h5 : n1 ≤ n5) : (p :: (oE'.toList ++ (oK'.toList ++ (A ++ (FL ++ B))))).Nodup ∧ ∀ b ∈ p :: (oE'.toList ++ (oK'.toList ++ (A ++ (FL ++ B)))), b ∈ p :: (oE.toList ++ (oK.toList ++ (A ++ (G ++ B)))) ∨ n ≤ b := by
  simp only [List.nodup_cons, List.nodup_append, List.mem_append, List.mem_cons, Option.mem_toList] at h hlt ⊢
  cases oE' <;> cases oK' <;> cases oE <;> cases oK <;> grind
set_option maxHeartbeats 16000000 in
theorem partKid_any (es : List En) (ks : List Tr) (ix : Nat) (k : Tr) (p : Nat) (F : List Nat) (w : World) (h : NdT w (.mk es ks) p F) (hnd : F.Nodup) (hk : ks[ix]? = some k) (h4 : k.es.length ≤ 4) (hfit : k.ks = [] ∨ k.ks.length = k.es.length + 1) (hi : ix ≤ es.length) (hl : es.length ≤ 1000) (hkl : ks.length ≤ 1000) :
    Calls Try.prog 61 #[.pointer (some ⟨p, 0, none⟩), .int .i64 (ix : Int)] w fun e w' => e = .returned (.tuple #[]) ∧ ∃ F', NdT w' (partK es ks ix) p F' ∧ F'.Nodup ∧ (∀ b ∈ F', b ∈ F ∨ w.heap.size ≤ b) ∧ Chg F w w' := by
  by_cases h3 : k.es.length ≤ 3
  · refine (partKid_small es ks ix k p F w h hk h3).mono ?_
    rintro e w' ⟨rfl, rfl⟩
    refine ⟨rfl, F, ?_, hnd, fun b hb => .inl hb, Chg.refl _ _⟩
    unfold partK
    rw [hk]
    simp only
    rw [if_pos h3]
    exact h
  have h44 : k.es.length = 4 := by omega
  have hpart : ∀ x, k.es[k.es.length / 2]? = some x → partK es ks ix = .mk (es.take ix ++ x :: es.drop ix) (ks.take ix ++ leftT k :: rightT k :: ks.drop (ix + 1)) := fun x hx => by
    unfold partK
    rw [hk]
    simp only
    rw [if_neg h3, hx]
  simp only [NdT] at h
  obtain ⟨vE, vK, ps, Fk, hB, hE, hK, hL, rfl⟩ := h
  have hF := (show ∀ b ∈ p :: (vE.ownBlock.toList ++ (vK.ownBlock.toList ++ Fk)), b < w.heap.size from fun b hb => by
    simp only [List.mem_cons, List.mem_append, Option.mem_toList] at hb
    rcases hb with rfl | hb | hb | hb
    · exact hB.lt
    · exact (hE.lt b hb).2
    · exact (hK.lt b hb).2
    · exact hL.lt b hb)
  have hpl := NdL.len hL
  obtain ⟨q, A, G, B, hq, rfl, hA, hG, hR⟩ := hL.split hk
  have hGn : G.Nodup := by
    simp only [List.nodup_cons, List.nodup_append] at hnd
    exact hnd.2.2.1.2.1.2.1.1
  have cP := parted_any k q G w hG hGn h44 hfit
  obtain ⟨ae, ce, rfl, -, -, -, -⟩ := owns_shape hE
  obtain ⟨ak, ck, rfl, -, hck, -, -⟩ := owns_shape hK
  have hik : ix < ks.length := (List.getElem?_eq_some_iff.1 hk).1
  obtain ⟨g, rfl, hgl, -, hgq⟩ := hK.cell hq
  obtain ⟨es', ks'⟩ := k
  obtain ⟨ae', ak', ce', ck', hB', hp', -, -, -, -⟩ := hG.open
  simp only [Tr.es] at h44
  have n1 := hB.cell (j := 1) rfl
  have n0 := hB'.cell (j := 0) rfl
  rw [h44] at n0
  have hxI : (ix : Int) < (ps.length : Int) := by omega
  have hx0 : (0 : Int) ≤ (ix : Int) := by omega
  have HB := Lib.hid hB
  have HE := Lib.hid hE
  have HK := Lib.hid hK
  have HA := Lib.hid hA
  have HR := Lib.hid hR
  have HF := Lib.hid hF
  have HND := Lib.hid hnd
  have HPART := Lib.hid hpart
  have HLE := Lib.hid (And.intro hl hi)
  have HPL := Lib.hid (And.intro hpl (And.intro hik hkl))
  clear hB hE hK hA hR hF hnd hpart hl hi hpl hik hkl h3 h44 hfit h4 hk hq hG hGn hL hB' hp' hgl
  obtain ⟨E, hEE⟩ : ∃ E, es.length = E := ⟨_, rfl⟩
  obtain ⟨C, hCC⟩ : ∃ C, ps.length = C := ⟨_, rfl⟩
  rw [hEE] at HB
  rw [hCC] at HB n1 hxI
  have HCC := Lib.hid hCC
  have HEE := Lib.hid hEE
  clear hEE hCC hck
  go_enter Try.func61, Try.ntmps61
  go_wp2_with fail
  refine cP.mono ?_
  rintro e w1 ⟨pl, pr, x, Fl, Fr, hx, rfl, hNl, hNr, hFl, hFs, hb1⟩
  have HX := Lib.hid hx
  have HNL := Lib.hid hNl
  have HNR := Lib.hid hNr
  have HFL := Lib.hid hFl
  have HFS := Lib.hid hFs
  have HB1 := Lib.hid hb1
  obtain ⟨sk, y⟩ := x
  simp only
  clear cP n0 n1 hgq hx hNl hNr hFl hFs hb1 hxI
  go_upto_region 2 with fail
  obtain ⟨m5, hm5⟩ : ∃ m, w1.heap.size = m := ⟨_, rfl⟩
  obtain ⟨w3, hw3⟩ : ∃ W, w1.alloc (.cells #[.string (str sk), .int .i64 y] 73) = W := ⟨_, rfl⟩
  have z5 : Blk _ _ _ [_, _] := Blk.new w1 #[.string (str sk), .int .i64 y] 73
  have hb3 := (Below.refl w1.heap.size w1).alloc (Nat.le_refl _) (.cells #[.string (str sk), .int .i64 y] 73)
  have hs3 : (w1.alloc (.cells #[.string (str sk), .int .i64 y] 73)).heap.size = w1.heap.size + 1 := by simp
  rw [hm5] at z5 hs3 ⊢
  rw [hw3] at z5 hb3 hs3 ⊢
  obtain ⟨n0, hn0⟩ : ∃ m, w3.heap.size = m := ⟨_, rfl⟩
  rw [hn0] at hs3
  obtain ⟨vE, hvE⟩ : ∃ v, Value.slice ae E ce = v := ⟨_, rfl⟩
  obtain ⟨vK, hvK⟩ : ∃ v, Value.slice (some ⟨g, 0, none⟩) C ck = v := ⟨_, rfl⟩
  have HB3 := Lib.hid (below_stepE HB1.out HB1.out.size hb3)
  have HF2 := HF.out
  have HND2 := HND.out
  rw [HEE.out, HCC.out, hvE, hvK] at HF2 HND2
  have HE2 := HE.out
  have HK2 := HK.out
  rw [HEE.out, hvE] at HE2
  rw [HCC.out, hvK] at HK2
  have hsz := HB1.out.size
  have HPN : Hid (p < n0) := Lib.hid (by have := HF2 p (List.mem_cons_self ..); omega)
  have HVE : Hid (∀ b, vE.ownBlock = some b → b < n0) := Lib.hid (fun b hb => by have := (HE2.lt b hb).2; omega)
  have HVP : Hid (vE.ownBlock ≠ some p ∧ vE.ownBlock ≠ some m5) := Lib.hid ⟨fun hb => by simp [hb] at HND2, fun hb => by have := (HE2.lt _ hb).2; omega⟩
  have HLEN : Hid (es.length ≤ 1000 ∧ ix ≤ es.length) := HLE
  obtain ⟨es2, hes2⟩ : ∃ l, es.take ix ++ (sk, y) :: es.drop ix = l := ⟨_, rfl⟩
  have HES : Hid (es.take ix ++ (sk, y) :: es.drop ix = es2) := Lib.hid hes2
  have HST : Hid (InsSt w3 n0 p m5 vE vK sk y es 0 { w3 with drawn := w3.drawn + 1 }) := Lib.hid (by
    have hd : Below w3.heap.size w3 { w3 with drawn := w3.drawn + 1 } := Below.drew (Below.refl _ _)
    have hnode : Blk w3 p 83 [vE, vK] := by
      have := HB.out
      rw [hvE, hvK] at this
      exact this.call HB3.out
    exact ⟨.ofBelow _ hd, by rw [← hn0]; exact hd.size, hnode.call hd, fun _ => (HE2.keep HB3.out).keep hd, z5.call hd⟩)
  have HQ : Hid (w1.heap.size = m5 ∧ n0 = m5 + 1 ∧ w3.heap.size = n0 ∧ Below w1.heap.size w1 w3 ∧ w.heap.size ≤ w1.heap.size) := Lib.hid ⟨hm5, hs3, hn0, hb3, hsz⟩
  have HVV : Hid (Value.slice ae E ce = vE ∧ Value.slice (some ⟨g, 0, none⟩) C ck = vK) := Lib.hid ⟨hvE, hvK⟩
  have HE2 := Lib.hid HE2
  have HK2 := Lib.hid HK2
  have HF2 := Lib.hid HF2
  have HND2 := Lib.hid HND2
  clear hm5 hw3 z5 hb3 hs3 hn0 hsz hes2 hvE hvK
  refine wp_region_chain 11 [7, 8] (by kernel_rfl) (by kernel_rfl) (by kernel_rfl) (InsF n0 p ix vE sk y es2) (fun s W => InsSt w3 n0 p m5 vE vK sk y es s W) (fun _ W W' => Chg vE.ownBlock.toList W W') ?hF ?h0 ?hstep ?hcall ?hdone
  case hF =>
    intro s i hs j v W W' hjn hne hpb h he
    rcases (show j = 0 ∨ j = 1 ∨ j = 2 ∨ j = 3 ∨ j = 4 ∨ j = 5 ∨ j = 6 ∨ j = 7 ∨ j = 8 ∨ j = 9 ∨ j = 10 by omega) with rfl | rfl | rfl | rfl | rfl | rfl | rfl | rfl | rfl | rfl | rfl
    · exact h
    · exact h
    · exact h
    · exact h
    · exact h
    · exact h
    · exact h
    · obtain ⟨k, h1, h2, h3⟩ := h
      exact ⟨k, h1, h2.same (he.block k h2.lt (fun hb => by have := HVE.out k (by simpa using hb); omega)), h3⟩
    · rcases s with _ | _ | s
      · obtain rfl : 7 = i := by simpa using hs
        exact absurd (show false = true from hpb.symm.trans (by kernel_rfl)) (by decide)
      · obtain rfl : 8 = i := by simpa using hs
        exact absurd rfl hne
      · simp at hs
    · exact h
    · exact h
  case h0 => exact HST.out
  case hstep =>
    intro j hj hni s vs act W K ha' hst hd hu hK
    simp only [fillF, Act.put, List.take_succ_cons, List.take_zero, List.setIfInBounds_toArray, List.set_cons_zero, List.set_cons_succ] at ha'
    subst ha'
    clear hu
    have q0 := hst.node.cell (j := 0) rfl
    have q1 := hst.box.cell (j := 0) rfl
    have q2 := hst.box.cell (j := 1) rfl
    rcases (show j = 0 ∨ j = 1 ∨ j = 2 ∨ j = 3 ∨ j = 4 ∨ j = 5 ∨ j = 6 ∨ j = 7 ∨ j = 8 ∨ j = 9 ∨ j = 10 by omega) with rfl | rfl | rfl | rfl | rfl | rfl | rfl | rfl | rfl | rfl | rfl
    · refine wpOp_step rfl (fun K' hK' => ?_)
      go_simp
      exact hK' _ _ (hK _ rfl)
    · refine wpOp_step rfl (fun K' hK' => ?_)
      go_simp
      exact hK' _ _ (hK _ rfl)
    · have e1 : vs 1 = .pointer (some ⟨p, 0, none⟩) := hd 1 (by kernel_rfl)
      simp only [e1] at hK ⊢
      refine wpOp_step rfl (fun K' hK' => ?_)
      go_simp
      exact hK' _ _ (hK _ rfl)
    · have e2 : vs 2 = .pointer (some ⟨p, 0, none⟩) := hd 2 (by kernel_rfl)
      simp only [e2] at hK ⊢
      refine wpOp_step rfl (fun K' hK' => ?_)
      go_simp
      exact hK' _ _ (hK _ rfl)
    · have e3 : vs 3 = .pointer (some ⟨p, 0, none⟩) := hd 3 (by kernel_rfl)
      simp only [e3] at hK ⊢
      refine wpOp_step rfl (fun K' hK' => ?_)
      go_simp
      exact hK' _ _ (hK _ rfl)
    · refine wpOp_step rfl (fun K' hK' => ?_)
      go_simp
      exact hK' _ _ (hK _ rfl)
    · refine wpOp_step rfl (fun K' hK' => ?_)
      go_simp
      exact hK' _ _ (hK _ rfl)
    · exact (hni (by decide)).elim
    · exact (hni (by decide)).elim
    · have e0 : vs 0 = .pointer (some ⟨p, 0, none⟩) := hd 0 (by kernel_rfl)
      simp only [e0] at hK ⊢
      refine wpOp_step rfl (fun K' hK' => ?_)
      go_simp
      exact hK' _ _ (hK _ rfl)
    · have e9 : vs 9 = .pointer (some ⟨p, 0, none⟩) := hd 9 (by kernel_rfl)
      simp only [e9] at hK ⊢
      refine wpOp_step rfl (fun K' hK' => ?_)
      go_simp
      exact hK' _ _ (hK _ rfl)
  case hcall =>
    intro s j hs vs act W K ha' hst hd hK
    simp only [fillF, Act.put, List.take_succ_cons, List.take_zero, List.setIfInBounds_toArray, List.set_cons_zero, List.set_cons_succ] at ha'
    subst ha'
    rcases s with _ | _ | s
    · obtain rfl : 7 = j := by simpa using hs
      have e6 : vs 6 = .agg #[.string (str sk), .int .i64 y] := hd 6 (by kernel_rfl)
      simp only [e6] at hK ⊢
      refine wpOp_step rfl (fun K' hK' => ?_)
      go_simp
      have hba : Below W.heap.size W (W.alloc (.cells #[.string (str sk), .int .i64 y] 73)) := (Below.refl _ _).alloc (Nat.le_refl _) _
      exact hK' _ _ (hK _ _ ⟨W.heap.size, rfl, Blk.new W _ _, hst.size⟩ (.ofBelow _ hba) (hst.step1 (by decide) HVE.out hba))
    · obtain rfl : 8 = j := by simpa using hs
      have e4 : vs 4 = vE := hd 4 (by kernel_rfl)
      have e5 : vs 5 = .int .i64 (ix : Int) := hd 5 (by kernel_rfl)
      obtain ⟨k7, e7, x7, l7⟩ := hd 7 (by kernel_rfl)
      simp only [e4, e5, e7] at hK ⊢
      refine wpOp_step rfl (fun K' hK' => ?_)
      go_simp
      refine (insertE_any vE es ix k7 (sk, y) W HLEN.out.1 HLEN.out.2 (hst.row (by decide)) x7 (fun hb => by have := HVE.out k7 hb; omega)).mono ?_
      rintro e W' ⟨v', rfl, ho, hr⟩
      have hz : ∀ b, v'.ownBlock = some b → vE.ownBlock = some b ∨ n0 ≤ b := fun b hb => (hr.own b hb).imp id (fun h => Nat.le_trans hst.size h)
      have hc : Chg vE.ownBlock.toList W W' := .ofGrown _ hr.grown (fun b hb => by simp [hb])
      exact hK' _ _ (hK _ _ ⟨HES.out ▸ ho, hz⟩ hc (hst.step2 HVP.out hc))
    · simp at hs
  case hdone =>
    intro vs act W4 ha' hst hfs
    simp only [fillF, Act.put, List.take_succ_cons, List.take_zero, List.drop_succ_cons, List.drop_zero, List.setIfInBounds_toArray, List.set_cons_zero, List.set_cons_succ] at ha' ⊢
    subst ha'
    have f8 : OwnE W4 0 (vs 8) es2 ∧ ∀ b, (vs 8).ownBlock = some b → vE.ownBlock = some b ∨ n0 ≤ b := hfs 8 (by decide)
    have f10 : vs 10 = .pointer (some ⟨p, 0, none⟩) := hfs 10 (by decide)
    simp only [Nat.zero_add, Nat.reduceAdd, f10]
    clear hfs f10
    generalize vs 8 = v8 at *
    obtain ⟨y8, z8⟩ := f8
    obtain ⟨a8, c8, e8, -, -, -, -⟩ := owns_shape y8
    obtain ⟨L8, hL8⟩ : ∃ L, es2.length = L := ⟨_, rfl⟩
    rw [hL8] at e8
    subst e8
    have q0 := hst.node.cell (j := 0) rfl
    have q2 := hst.node.free 0
    have hc5 : Chg [p] W4 (W4.setCell ⟨p, 0, none⟩ (.slice a8 L8 c8)) := Chg.setCell _ _ (by simp)
    have hB5 := hst.node.set 0 (.slice a8 L8 c8)
    obtain ⟨W5, hW5⟩ : ∃ W, W4.setCell ⟨p, 0, none⟩ (.slice a8 L8 c8) = W := ⟨_, rfl⟩
    rw [hW5] at hc5 hB5
    have hB5 : Blk W5 p 83 [.slice a8 L8 c8, vK] := hB5
    have HW5 := Lib.hid hW5
    have HST4 := Lib.hid hst
    have HY8 := Lib.hid y8
    have HZ8 := Lib.hid z8
    have HC5 := Lib.hid hc5
    have HB5 := Lib.hid hB5
    clear hW5 hst y8 z8 hc5 hB5 hL8
    go_upto_region 3 with fail
    rw [HW5.out]
    clear q0 q2
    obtain ⟨hm5, hn0, hw3, hb13, hsz⟩ := HQ.out
    obtain ⟨hpl, hik, hkl⟩ := HPL.out
    obtain ⟨dP, dE, dK⟩ := nd_apart _ _ _ _ HND2.out
    have hc35 : Chg (p :: vE.ownBlock.toList) w3 W5 := (HST4.out.chg.mono (fun _ h => List.mem_cons_of_mem _ h)).trans HC5.out (fun x hx => .inl (by simp at hx; simp [hx]))
    have hK5 : OwnK W5 0 vK ps := owns_same (HK2.out.keep HB3.out) (fun b e => hc35.block b (by have := (HK2.out.lt b e).2; omega) (by
      intro hb
      simp only [List.mem_cons, Option.mem_toList] at hb
      rcases hb with rfl | hb
      · exact dP.2 e
      · exact dE b hb e))
    have hs35 := hc35.size
    have hne : vK.ownBlock ≠ some W5.heap.size := fun e => by have := (HK2.out.lt _ e).2; omega
    have hb6 : Below W5.heap.size W5 (W5.alloc (.cells #[ptrV pl, ptrV pr] 61)) := (Below.refl _ _).alloc (Nat.le_refl _) _
    have z6 : Blk _ _ _ [_, _] := Blk.new W5 #[ptrV pl, ptrV pr] 61
    have c6 := replaceK_any vK ps ix W5.heap.size pl pr _ (by omega) (by omega) (hK5.keep hb6) z6 hne
    have q1 := HB5.out.cell (j := 1) rfl
    obtain ⟨ps2, hps2⟩ : ∃ l, ps.take ix ++ pl :: pr :: ps.drop (ix + 1) = l := ⟨_, rfl⟩
    obtain ⟨i1, hi1⟩ : ∃ m, ix + 1 = m := ⟨_, rfl⟩
    rw [hps2] at c6
    rw [hi1] at c6
    have HPS2 := Lib.hid hps2
    have hwr : IntKind.i64.wrap ((ix : Int) + 1) = (i1 : Int) := by rw [IntKind.wrap_i64] <;> omega
    have HI1 := Lib.hid hi1
    have HB6 := Lib.hid hb6
    have HC35 := Lib.hid hc35
    have HD := Lib.hid (And.intro dP (And.intro dE dK))
    clear hm5 hn0 hw3 hb13 hsz hpl hik hkl dP dE dK hc35 hK5 hs35 hne hb6 z6 hi1 hps2
    go_wp2_with fail
    refine c6.mono ?_
    rintro e w7 ⟨v9, rfl, ho9, hr9⟩
    clear c6 q1 hwr
    have hc67 : Chg vK.ownBlock.toList (W5.alloc (.cells #[ptrV pl, ptrV pr] 61)) w7 := .ofGrown _ hr9.grown (fun b hb => by simp [hb])
    have hc57 : Chg vK.ownBlock.toList W5 w7 := (Chg.ofBelow vK.ownBlock.toList HB6.out).trans hc67 (fun x hx => .inl hx)
    have hs6 := HB6.out.size
    obtain ⟨a9, c9, e9, -, -, -, -⟩ := owns_shape ho9
    obtain ⟨L9, hL9⟩ : ∃ L, ps2.length = L := ⟨_, rfl⟩
    rw [hL9] at e9
    subst e9
    have hB7 := HB5.out.same (hc57.block p HB5.out.lt (by simpa using HD.out.1.2))
    have hc8 : Chg [p] w7 (w7.setCell ⟨p, 1, none⟩ (.slice a9 L9 c9)) := Chg.setCell _ _ (by simp)
    have hB8 := hB7.set 1 (.slice a9 L9 c9)
    have hB8 : Blk (w7.setCell ⟨p, 1, none⟩ (.slice a9 L9 c9)) p 83 [.slice a8 L8 c8, .slice a9 L9 c9] := hB8
    have q3 := hB7.cell (j := 1) rfl
    have q4 := hB7.free 1
    have HG : Hid (∀ W8, W8 = w7.setCell ⟨p, 1, none⟩ (.slice a9 L9 c9) → ∃ F', NdT W8 (partK es ks ix) p F' ∧ F'.Nodup ∧ (∀ b ∈ F', b ∈ p :: ((Value.slice ae es.length ce).ownBlock.toList ++ ((Value.slice (some ⟨g, 0, none⟩) ps.length ck).ownBlock.toList ++ (A ++ (G ++ B)))) ∨ w.heap.size ≤ b) ∧ Chg (p :: ((Value.slice ae es.length ce).ownBlock.toList ++ ((Value.slice (some ⟨g, 0, none⟩) ps.length ck).ownBlock.toList ++ (A ++ (G ++ B))))) w W8) := Lib.hid (fun W8 hW8 => by
      rw [← hW8] at hc8 hB8
      rw [HEE.out, HCC.out, HVV.out.1, HVV.out.2]
      obtain ⟨hm5, hn0, hw3, hb13, hsz⟩ := HQ.out
      obtain ⟨dP, dE, dK⟩ := HD.out
      have hpn := HPN.out
      have hFl := HF2.out
      have hKl := fun b e => (HK2.out.lt b e).2
      have hEl := fun b e => (HE2.out.lt b e).2
      have hpl : p < w.heap.size := hFl p (List.mem_cons_self ..)
      have s35 := HC35.out.size
      have s13 := hb13.size
      have sub1 : ∀ x ∈ p :: vE.ownBlock.toList, x ∈ p :: (vE.ownBlock.toList ++ vK.ownBlock.toList) := fun x hx => by simp only [List.mem_cons, List.mem_append] at hx ⊢; grind
      have c37 : Chg (p :: (vE.ownBlock.toList ++ vK.ownBlock.toList)) w3 w7 := (HC35.out.mono sub1).trans hc57 (fun x hx => .inl (by simp only [List.mem_cons, List.mem_append]; exact .inr (.inr hx)))
      have c38 : Chg (p :: (vE.ownBlock.toList ++ vK.ownBlock.toList)) w3 W8 := c37.trans hc8 (fun x hx => .inl (by simp only [List.mem_cons, List.not_mem_nil, or_false] at hx; simp [hx]))
      have c57 : Chg (p :: vK.ownBlock.toList) W5 w7 := hc57.mono (fun x hx => List.mem_cons_of_mem _ hx)
      have c47 : Chg (p :: vK.ownBlock.toList) W4 w7 := (HC5.out.mono (G := p :: vK.ownBlock.toList) (fun x hx => by simp only [List.mem_cons, List.not_mem_nil, or_false] at hx; simp [hx])).trans c57 (fun x hx => .inl hx)
      have c48 : Chg (p :: vK.ownBlock.toList) W4 W8 := c47.trans hc8 (fun x hx => .inl (by simp only [List.mem_cons, List.not_mem_nil, or_false] at hx; simp [hx]))
      have s48 := c48.size
      have s57 := hc57.size
      have s45 := HC5.out.size
      have s4 := HST4.out.size
      have eE : OwnE W8 0 (.slice a8 L8 c8) es2 := owns_same HY8.out (fun b e => c48.block b (HY8.out.lt b e).2 (fun hb => by
        simp only [List.mem_cons, Option.mem_toList] at hb
        rcases HZ8.out b e with h1 | h1
        · rcases hb with rfl | hb
          · exact dP.1 h1
          · exact dE b h1 hb
        · rcases hb with rfl | hb
          · omega
          · have := hKl b hb; omega))
      have eK : OwnK W8 0 (.slice a9 L9 c9) ps2 := owns_same ho9 (fun b e => hc8.block b (ho9.lt b e).2 (fun hb => by
        simp only [List.mem_cons, List.not_mem_nil, or_false] at hb
        subst hb
        rcases hr9.own b e with h1 | h1
        · exact dP.2 h1
        · omega))
      have low : ∀ b ∈ A ++ (G ++ B), W8.heap[b]? = w.heap[b]? := fun b hb => by
        have h0 := hFl b (by simp only [List.mem_cons, List.mem_append] at hb ⊢; exact .inr (.inr (.inr hb)))
        have h1 := dK b hb
        rw [c38.block b (by omega) (by simp only [List.mem_cons, List.mem_append, Option.mem_toList]; rintro (h | h | h); exact h1.1 h; exact h1.2.1 h; exact h1.2.2 h), HB3.out.block b h0]
      have new : ∀ b ∈ Fl ++ Fr, b < w1.heap.size → W8.heap[b]? = w1.heap[b]? := fun b hb h0 => by
        rw [c38.block b (by omega) (by
          simp only [List.mem_cons, List.mem_append, Option.mem_toList]
          rcases HFS.out b hb with h2 | h2
          · have h1 := dK b (List.mem_append_right _ (List.mem_append_left _ h2))
            rintro (h | h | h)
            exact h1.1 h
            exact h1.2.1 h
            exact h1.2.2 h
          · rintro (h | h | h)
            · omega
            · have := hEl b h; omega
            · have := hKl b h; omega), hb13.block b h0]
      have ltF : ∀ b ∈ Fl ++ Fr, b < w1.heap.size := fun b hb => by
        rcases List.mem_append.1 hb with hb | hb
        · exact HNL.out.lt b hb
        · exact HNR.out.lt b hb
      obtain ⟨nod, inF⟩ := kid_nodup p vE.ownBlock vK.ownBlock (Value.slice a8 L8 c8).ownBlock (Value.slice a9 L9 c9).ownBlock A G B (Fl ++ Fr) w.heap.size n0 (W5.alloc (.cells #[ptrV pl, ptrV pr] 61)).heap.size HND2.out hFl HFL.out HFS.out (fun b hb => by have := ltF b hb; omega) (by omega) HZ8.out (fun b e => by have := (HY8.out.lt b e).2; omega) hr9.own (by omega)
      refine ⟨_, ?_, nod, inF, ?_⟩
      · rw [HPART.out (sk, y) HX.out, HES.out]
        simp only [NdT]
        refine ⟨_, _, ps2, A ++ ((Fl ++ Fr) ++ B), hB8, eE, eK, ?_, rfl⟩
        rw [← HPS2.out]
        refine NdL.app (HA.out.same (fun b hb => low b (List.mem_append_left _ hb))) ?_
        simp only [NdL]
        exact ⟨pl, _, Fl, Fr ++ B, rfl, by rw [List.append_assoc], HNL.out.same (fun b hb => new b (List.mem_append_left _ hb) (HNL.out.lt b hb)), pr, _, Fr, B, rfl, rfl, HNR.out.same (fun b hb => new b (List.mem_append_right _ hb) (HNR.out.lt b hb)), HR.out.same (fun b hb => low b (List.mem_append_right _ (List.mem_append_right _ hb)))⟩
      · exact (Chg.ofBelow (p :: (vE.ownBlock.toList ++ (vK.ownBlock.toList ++ (A ++ (G ++ B))))) HB3.out).trans c38 (fun x hx => .inl (by simp only [List.mem_cons, List.mem_append] at hx ⊢; grind)))
    clear ho9 hc57 hc67 hc8 hB8 hr9 hB7 hL9 hs6
    go_wp2_with fail
    refine bodyPost_end (results_none rfl _ _ _) rfl ?_
    exact ⟨rfl, HG.out _ rfl⟩
end Go.Proofs.Ytopgakdgifmecaa
