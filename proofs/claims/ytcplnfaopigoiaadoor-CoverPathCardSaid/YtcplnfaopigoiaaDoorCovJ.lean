/-
  CONTRACT of package slots' CoverOf's closure: a single slot; two halves.
  CONDITIONS: each theorem's own hypotheses.
-/
import Derived.Test.YtcplnfaopigoiaaDoorCovI
namespace Go.Proofs.YtcplnfaopigoiaaDoor
open Go.RowKit CodeMath Go.Proofs.YtcplnfaopigoiaaDoor.FrameMath
set_option linter.unusedVariables false
set_option maxRecDepth 100000

def CvSF (g ga oa p B n cl : Nat) (sv : Value) (f : Bool) (a1 : Option Addr) (n1 k1 : Nat) (a2 : Option Addr) (n2 k2 : Nat) (accS : List Sl) (x : Sl) : Nat → Value → World → Prop
  | 0, v, _ => v = .pointer (some ⟨g, 0, none⟩)
  | 1, v, _ => v = sv
  | 2, v, _ => v = .slice (some ⟨ga, oa, none⟩) n cl
  | 3, v, _ => v = .int .i64 (p : Int)
  | 4, v, _ => v = .pointer (some ⟨ga, oa + p * 3, none⟩)
  | 5, v, _ => v = .agg #[.bool f, .slice a1 n1 k1, .slice a2 n2 k2]
  | 6, v, w => ∃ a b, v = .agg #[.bool f, a, b] ∧ RowU w a x.s ∧ RowU w b x.d
  | 7, v, w => ∃ k a b, v = .slice (some ⟨k, 0, none⟩) 1 1 ∧ Blk w k 44 [.bool f, a, b] ∧ RowU w a x.s ∧ RowU w b x.d ∧ sv.ownBlock ≠ some k
  | 8, v, w => OwnSl w B v (accS ++ [x])
  | 9, v, _ => v = .pointer (some ⟨g, 0, none⟩)
  | _, _, _ => True
set_option maxHeartbeats 4000000 in
theorem cover1_leaf (w0 Wb : World) (go gt gl : Nat) (m : Int) (n H : Nat) (l : List Sl) (rows : List (List UInt8)) (o : List Bool) (hS : CvS w0 go gt gl m n H l rows o) (h p : Nat) (hh0 : h = 0) (hH : h ≤ H) (hp : (p + 1) * 2 ^ h ≤ n) (x : Sl) (hx : l[p]? = some x) (accS : List Sl) (accR : List (List UInt8)) (hW : CvW w0 Wb go gt gl accS accR) (hlen : accS.length ≤ 1000000) (hc : (partO o h p).contains true = true) :
    Calls Tryd.prog 29 #[.int .i64 (h : Int), .int .i64 (p : Int), .pointer (some ⟨go, 0, none⟩), .pointer (some ⟨w0.heap.size, 0, none⟩), .pointer (some ⟨gt, 0, none⟩), .pointer (some ⟨gl, 0, none⟩), .pointer (some ⟨w0.heap.size + 1, 0, none⟩)] Wb fun e W => e = .returned (.tuple #[]) ∧ CvW w0 W go gt gl (accS ++ [x]) accR := by
  obtain ⟨⟨ao, co, a1, a2, a3, a4⟩, ⟨al, cl, b1, b2, b3, b4⟩, -, k1, k2, k3, k4, k5, hgood⟩ := id hS
  have h6 : h ≤ 6 := by omega
  have e6 : 2 ^ 6 = 64 := by decide
  have h64 : 2 ^ H ≤ 2 ^ 6 := Nat.pow_le_pow_right (by decide) k5
  obtain ⟨w1, w2⟩ := bits0 h p h6 (by omega)
  have hgx := hgood x (List.mem_of_getElem? hx)
  have eP : (p + 1) * 2 ^ h = p * 2 ^ h + 2 ^ h := by rw [Nat.add_mul, Nat.one_mul]
  have hk0 : 0 < 2 ^ h := Nat.pow_pos (by decide)
  rcases b4 with b4 | ⟨ga, oa, rfl, b5, b6⟩
  · rw [b4] at hx; simp at hx
  obtain ⟨us, ud, d0, d1, d2, d3, d4⟩ := b6 p x hx
  obtain ⟨ar1, ku1, rfl, -⟩ := id d3
  obtain ⟨ar2, ku2, rfl, -⟩ := id d4
  have hpn0 : p < l.length := (List.getElem?_eq_some_iff.1 hx).1
  have cC := fun W (hW : Below w0.heap.size w0 W) => containsO_any (partO o h p) (pieceO ao (p * 2 ^ h) co) (co - p * 2 ^ h) W (by unfold partO; rw [List.length_take]; omega) (((a4.keep hW).drop _ _ (by omega)).take _)
  rw [show (partO o h p).length = 2 ^ h by unfold partO; rw [List.length_take, List.length_drop]; omega, hc] at cC
  have sl := fun W => sliceO_mid ao n co (p * 2 ^ h) (p * 2 ^ h + 2 ^ h) _ _ rfl rfl (by omega) (by omega) W
  rw [show p * 2 ^ h + 2 ^ h - p * 2 ^ h = 2 ^ h by omega] at sl
  obtain ⟨sv, rv, hCv, hSl, hRl⟩ := hW.cov
  have hB2 := hW.size
  have hbW := hW.below
  have kq : ∀ {q : Addr} {v : Value}, w0.cell? q = some v → ∀ W, Below w0.heap.size w0 W → W.cell? q = some v := fun hq W hW => (hW.cell (World.block_lt_of_cell? w0 _ hq)).trans hq
  have A1 := kq a1
  have HX := Lib.hid (fun W (hW : Below w0.heap.size w0 W) => clone_any x.f (.slice ar1 x.s.length ku1) (.slice ar2 x.d.length ku2) x.s x.d W (d3.keep hW) (d4.keep hW) (by omega) (by omega))
  have HF := Lib.hid hW.fn
  have HW := Lib.hid hW
  have hz : ((h : Int) == 0) = true := by simp [hh0]
  have hnI : (n : Int) ≤ 64 := by omega
  have hpI : (p : Int) < (n : Int) := by omega
  have hhI2 : (h : Int) ≤ 64 := by omega
  have hpI2 : (p : Int) ≤ 64 := by omega
  have hkI : ((p * 2 ^ h : Nat) : Int) ≤ 64 := by omega
  have Q : ∀ W, Below (w0.heap.size + 2) Wb W → W.cell? ⟨w0.heap.size, 0, none⟩ = some sv ∧ W.cell? ⟨gl, 0, none⟩ = some (.slice (some ⟨ga, oa, none⟩) n cl) ∧ W.cell? ⟨ga, oa + p * 3, none⟩ = some (.bool x.f) ∧ W.cell? ⟨ga, oa + p * 3 + 1, none⟩ = some (.slice ar1 x.s.length ku1) ∧ W.cell? ⟨ga, oa + p * 3 + 2, none⟩ = some (.slice ar2 x.d.length ku2) := fun W hq => by
    have hb := hbW.trans (hq.mono (Nat.le_add_right _ _))
    exact ⟨(hq.cell (p := ⟨w0.heap.size, 0, none⟩) (show w0.heap.size < w0.heap.size + 2 by omega)).trans (Blk.cell hCv rfl), kq b1 W hb, kq d0 W hb, kq d1 W hb, kq d2 W hb⟩
  have hp1 : IntKind.i64.wrap ((p : Int) + 1) = (p : Int) + 1 := by rw [IntKind.wrap_i64]; omega
  generalize p * 2 ^ h = A at *
  generalize A + 2 ^ h = A2 at *
  generalize 2 ^ h = k at *
  generalize pieceO ao A co = ao2 at *
  generalize co - A = co2 at *
  have HE : Hid (∀ W, Wb.heap.size ≤ W.heap.size → Below w0.heap.size Wb W → W.cell? ⟨w0.heap.size + 1, 0, none⟩ = some (cvF go w0.heap.size gt gl) → ∀ sv' rv', CovB W w0.heap.size sv' rv' → OwnSl W (w0.heap.size + 2) sv' (accS ++ [x]) → OwnL W (w0.heap.size + 2) rv' accR → CvW w0 W go gt gl (accS ++ [x]) accR) := fun W q1 q2 q3 sv' rv' q4 q5 q6 => HW.out.step q1 q2 q3 ⟨sv', rv', q4, q5, q6⟩
  clear hS a1 a2 a3 a4 b1 b2 b3 b5 b6 k1 k2 k3 k4 k5 h6 e6 h64 d0 d1 d2 d3 d4 eP hk0 hpn0 hc hp hH kq hW hgood hgx hx hh0
  generalize hg : w0.heap.size = g at *
  clear hg HW
  have hl1 : x.s.length = x.s.length := rfl
  obtain ⟨n1, hn1⟩ : ∃ k, x.s.length = k := ⟨_, rfl⟩
  obtain ⟨n2, hn2⟩ : ∃ k, x.d.length = k := ⟨_, rfl⟩
  rw [hn1, hn2] at Q HX
  clear hl1 hn1 hn2
  go_enter Tryd.func29, Tryd.ntmps29
  go_upto_region 0 with fail
  refine wp_region_det 9 (by kernel_rfl) (by kernel_rfl) (by kernel_rfl) ?_
  simp only [List.take_succ_cons, List.take_zero, List.drop_succ_cons, List.drop_zero]
  apply wpDet_plain _ rfl; (focus (intro W hq; have q1 := A1 W (hbW.trans (hq.mono (by omega))); go_simp; exact ⟨rfl, Below.refl _ _⟩)); simp only [Act.put, List.setIfInBounds_toArray, List.set_cons_zero, List.set_cons_succ]
  iterate 7 (apply wpDet_plain _ rfl; (focus (intro W hq; go_simp; exact ⟨rfl, Below.refl _ _⟩)); simp only [Act.put, List.setIfInBounds_toArray, List.set_cons_zero, List.set_cons_succ])
  apply wpDet_plain _ rfl; (focus (intro W hq; have q1 := sl W; go_simp; exact ⟨rfl, Below.refl _ _⟩)); simp only [Act.put, List.setIfInBounds_toArray, List.set_cons_zero, List.set_cons_succ]
  refine wpDet_nil ?_; intro W0 hq0
  have hbg0 : Below g w0 W0 := hbW.trans (hq0.mono (by omega))
  have c0 := cC W0 hbg0
  clear cC sl A1 w1 w2 hp1
  go_wp2_with fail
  refine c0.mono ?_
  rintro e W1 ⟨rfl, rfl⟩
  clear c0
  have Q : ∀ W, Below (g + 2) W0 W → _ := fun W hq => Q W ((hq0.mono hB2).trans hq)
  have hSl := hSl.keep hq0
  have hRl := hRl.keep hq0
  have hCv := hCv.keep hq0
  have hB2' := Nat.le_trans hB2 hq0.size
  have HF0 : Hid (W0.cell? ⟨g + 1, 0, none⟩ = some (cvF go g gt gl)) := (hq0.cell (p := ⟨g + 1, 0, none⟩) (show g + 1 < Wb.heap.size by omega)).trans HF.out
  have hEb : Hid (Below g Wb W0 ∧ Wb.heap.size ≤ W0.heap.size) := ⟨hq0.mono (by omega), hq0.size⟩
  have hbW := hbg0
  clear hq0 hB2 HF hbg0
  go_upto_region 6 with fail
  refine wp_region_chain 10 [6, 7, 8] (by kernel_rfl) (by kernel_rfl) (by kernel_rfl) (CvSF g ga oa p (g + 2) n cl sv x.f ar1 n1 ku1 ar2 n2 ku2 accS x) (fun s W => W0.heap.size ≤ W.heap.size ∧ Below (g + 2) W0 W ∧ OwnL W (g + 2) rv accR ∧ (s < 3 → OwnSl W (g + 2) sv accS)) (fun s w w' => if s < 2 then Below w.heap.size w w' else w.grownBy w' sv.ownBlock ∧ ∀ b, sv.ownBlock = some b → ∃ cur T fz, w.heap[b]? = some (.cells cur T fz) ∧ T ≠ 5) ?hF ?h0 ?hstep ?hcall ?hdone
  case hF =>
    intro s i hs j v W W' hjn hne hpb h he
    rcases (show j = 0 ∨ j = 1 ∨ j = 2 ∨ j = 3 ∨ j = 4 ∨ j = 5 ∨ j = 6 ∨ j = 7 ∨ j = 8 ∨ j = 9 by omega) with rfl | rfl | rfl | rfl | rfl | rfl | rfl | rfl | rfl | rfl
    · exact h
    · exact h
    · exact h
    · exact h
    · exact h
    · exact h
    · rcases s with _ | _ | _ | s
      · obtain rfl : 6 = i := by simpa using hs
        exact absurd rfl hne
      · obtain ⟨a, b, h1, h2, h3⟩ := h
        exact ⟨a, b, h1, h2.keep he, h3.keep he⟩
      · obtain ⟨a, b, h1, h2, h3⟩ := h
        exact ⟨a, b, h1, h2.grown he.1 he.2, h3.grown he.1 he.2⟩
      · simp at hs
    · rcases s with _ | _ | _ | s
      · obtain ⟨k, a, b, h1, h2, h3, h4, h5⟩ := h
        exact ⟨k, a, b, h1, h2.call he, h3.keep he, h4.keep he, h5⟩
      · obtain rfl : 7 = i := by simpa using hs
        exact absurd rfl hne
      · obtain ⟨k, a, b, h1, h2, h3, h4, h5⟩ := h
        exact ⟨k, a, b, h1, h2.same (World.grownBy.block he.1 k h2.lt (fun hh => h5 hh.symm)), h3.grown he.1 he.2, h4.grown he.1 he.2, h5⟩
      · simp at hs
    · rcases s with _ | _ | _ | s
      · exact OwnSl.keep h he
      · exact OwnSl.keep h he
      · obtain rfl : 8 = i := by simpa using hs
        exact absurd rfl hne
      · simp at hs
    · exact h
  case h0 => exact ⟨Nat.le_refl _, Below.drew (Below.refl _ _), hRl.keep (Below.drew (Below.refl _ _)), fun _ => hSl.keep (Below.drew (Below.refl _ _))⟩
  case hstep =>
    intro j hj hni s vs act W K ha' hst hd hu hK
    simp only [fillF, Act.put, List.take_succ_cons, List.take_zero, List.setIfInBounds_toArray, List.set_cons_zero, List.set_cons_succ] at ha'
    subst ha'
    clear hu
    have q1 := (Q W hst.2.1).1
    have q2 := (Q W hst.2.1).2.1
    obtain ⟨q3, q4, q5⟩ := (Q W hst.2.1).2.2
    rcases (show j = 0 ∨ j = 1 ∨ j = 2 ∨ j = 3 ∨ j = 4 ∨ j = 5 ∨ j = 6 ∨ j = 7 ∨ j = 8 ∨ j = 9 by omega) with rfl | rfl | rfl | rfl | rfl | rfl | rfl | rfl | rfl | rfl
    · refine wpOp_step rfl (fun K' hK' => ?_)
      go_simp
      exact hK' _ _ (hK _ rfl)
    · have e0 : vs 0 = .pointer (some ⟨g, 0, none⟩) := hd 0 (by kernel_rfl)
      simp only [e0] at hK ⊢
      refine wpOp_step rfl (fun K' hK' => ?_)
      go_simp
      exact hK' _ _ (hK _ rfl)
    · refine wpOp_step rfl (fun K' hK' => ?_)
      go_simp
      exact hK' _ _ (hK _ rfl)
    · refine wpOp_step rfl (fun K' hK' => ?_)
      go_simp
      exact hK' _ _ (hK _ rfl)
    · have e2 : vs 2 = .slice (some ⟨ga, oa, none⟩) n cl := hd 2 (by kernel_rfl)
      have e3 : vs 3 = .int .i64 (p : Int) := hd 3 (by kernel_rfl)
      simp only [e2, e3] at hK ⊢
      refine wpOp_step rfl (fun K' hK' => ?_)
      go_simp
      exact hK' _ _ (hK _ rfl)
    · have e4 : vs 4 = .pointer (some ⟨ga, oa + p * 3, none⟩) := hd 4 (by kernel_rfl)
      simp only [e4] at hK ⊢
      refine wpOp_step rfl (fun K' hK' => ?_)
      go_simp
      exact hK' _ _ (hK _ rfl)
    · exact (hni (by decide)).elim
    · exact (hni (by decide)).elim
    · exact (hni (by decide)).elim
    · refine wpOp_step rfl (fun K' hK' => ?_)
      go_simp
      exact hK' _ _ (hK _ rfl)
  case hcall =>
    intro s j hs vs act W K ha' hst hd hK
    simp only [fillF, Act.put, List.take_succ_cons, List.take_zero, List.setIfInBounds_toArray, List.set_cons_zero, List.set_cons_succ] at ha'
    subst ha'
    rcases s with _ | _ | _ | s
    · obtain rfl : 6 = j := by simpa using hs
      have e5 : vs 5 = .agg #[.bool x.f, .slice ar1 n1 ku1, .slice ar2 n2 ku2] := hd 5 (by kernel_rfl)
      simp only [e5] at hK ⊢
      refine wpOp_step rfl (fun K' hK' => ?_)
      go_simp
      refine (HX.out W (hbW.trans (hst.2.1.mono (Nat.le_add_right _ _)))).mono ?_
      rintro e W' ⟨a, b, rfl, ha, hb, hbel⟩
      exact hK' _ _ (hK _ _ ⟨a, b, rfl, ha, hb⟩ hbel ⟨Nat.le_trans hst.1 hbel.size, hst.2.1.trans (hbel.mono (Nat.le_trans hB2' hst.1)), hst.2.2.1.keep hbel, fun _ => (hst.2.2.2 (by decide)).keep hbel⟩)
    · obtain rfl : 7 = j := by simpa using hs
      obtain ⟨a6, b6, e6, y6, z6⟩ := hd 6 (by kernel_rfl)
      simp only [e6] at hK ⊢
      have HK := Lib.hid hK
      clear hK
      obtain ⟨aa, ka, rfl, -⟩ := id y6
      obtain ⟨ab, kb, rfl, -⟩ := id z6
      have hK := HK.out
      refine wpOp_step rfl (fun K' hK' => ?_)
      go_simp
      have hown : sv.ownBlock ≠ some W.heap.size := fun hh => by have := (hst.2.2.2 (by decide)).typed _ hh; omega
      have hba := (Below.refl W.heap.size W).alloc (Nat.le_refl _) (.cells #[.bool x.f, .slice aa x.s.length ka, .slice ab x.d.length kb] 44)
      exact hK' _ _ (hK _ _ ⟨_, _, _, rfl, Blk.new W _ _, y6.keep hba, z6.keep hba, hown⟩ hba ⟨Nat.le_trans hst.1 hba.size, hst.2.1.alloc (Nat.le_trans hB2' hst.1) _, hst.2.2.1.keep hba, fun _ => (hst.2.2.2 (by decide)).keep hba⟩)
    · obtain rfl : 8 = j := by simpa using hs
      have e1 : vs 1 = sv := hd 1 (by kernel_rfl)
      obtain ⟨k7, a7, b7, e7, x7, y7, z7, o7⟩ := hd 7 (by kernel_rfl)
      simp only [e1, e7] at hK ⊢
      refine wpOp_step rfl (fun K' hK' => ?_)
      rw [if_pos (by simp [Region.wanted])]
      refine wp_append_sl (.tmp 52) (.tmp 58) rfl (g + 2) sv accS rfl (hst.2.2.2 (by decide)) x a7 b7 k7 rfl x7 y7 z7 hlen (Nat.le_trans hB2' hst.1) ?_
      intro v' w' ho hg
      have hty := fun b (hb : sv.ownBlock = some b) => (hst.2.2.2 (by decide)).typed b hb
      exact hK' _ _ (hK v' w' ho ⟨hg, fun b hb => by obtain ⟨⟨cur, fz, q⟩, -⟩ := hty b hb; exact ⟨cur, _, fz, q, by decide⟩⟩ ⟨Nat.le_trans hst.1 hg.size, hst.2.1.grown hg (Nat.le_trans hB2' hst.1) (fun b hb => (hty b hb).2.1), hst.2.2.1.beside hg (fun b hb => by obtain ⟨⟨cur, fz, q⟩, -⟩ := hty b hb; exact ⟨cur, _, fz, q, by unfold ByteT; decide, by decide⟩), fun hh => absurd hh (by decide)⟩)
    · simp at hs
  case hdone =>
    intro vs act W ha' hst hf
    simp only [fillF, Act.put, List.take_succ_cons, List.take_zero, List.drop_succ_cons, List.drop_zero, List.setIfInBounds_toArray, List.set_cons_zero, List.set_cons_succ] at ha' ⊢
    subst ha'
    have f9 : vs 9 = .pointer (some ⟨g, 0, none⟩) := hf 9 (by decide)
    have f8 : OwnSl W (g + 2) (vs 8) (accS ++ [x]) := hf 8 (by decide)
    simp only [Nat.zero_add, Nat.reduceAdd, f9]
    obtain ⟨q1, q2, q3, -⟩ := hst
    obtain ⟨av, cv, ev, -⟩ := f8.slots
    generalize vs 8 = v10 at *
    subst ev
    have hCW : CovB W g sv rv := (q2.block g (by omega)).trans hCv
    have hfr := Blk.free hCW 0
    have hc1 := Blk.cell hCW (j := 0) rfl
    have hfn : W.cell? ⟨g + 1, 0, none⟩ = some (cvF go g gt gl) := (q2.cell (p := ⟨g + 1, 0, none⟩) (show g + 1 < g + 2 by omega)).trans HF0.out
    have hend : Hid (CvW w0 (W.setCell ⟨g, 0, none⟩ (.slice av (accS ++ [x]).length cv)) go gt gl (accS ++ [x]) accR) := by
      have hm := mv_cell W g 0 (.slice av (accS ++ [x]).length cv)
      have htg : ∀ b, some g = some b → ∃ cur T fz, W.heap[b]? = some (.cells cur T fz) ∧ T ≠ 5 ∧ T ≠ 44 := fun b hb => by cases hb; exact ⟨_, _, _, hCW, by decide, by decide⟩
      have htg2 : ∀ b, some g = some b → ∃ cur T fz, W.heap[b]? = some (.cells cur T fz) ∧ ¬ ByteT T ∧ T ≠ 32 := fun b hb => by cases hb; exact ⟨_, _, _, hCW, by unfold ByteT; decide, by decide⟩
      exact HE.out _ (Nat.le_trans hEb.out.2 (Nat.le_trans q1 hm.size)) (hEb.out.1.trans ((q2.mono (by omega)).grown hm (by omega) (fun b hb => by cases hb; exact Nat.le_refl _))) (hm.cell hfn (by simp)) _ _ (hCW.setS _) (f8.beside hm htg) (q3.beside hm htg2)
    clear hf f8 q1 q2 q3 hCW hfn Q hSl hRl hCv hbW hEb HF0 HE HX hB2'
    generalize (accS ++ [x]).length = lx at *
    go_wp2_with fail
    first | go_ret | go_end0
    exact ⟨rfl, hend.out⟩
end Go.Proofs.YtcplnfaopigoiaaDoor
