/-
  MERGED: CovI, CovJ, CovK, CovL.
  CONDITIONS: each theorem's own hypotheses.
-/
import Derived.Test.YtcnemacakjemjaaDoorCovH

/-! CONTRACT of package slots' CoverOf: its closure, by induction on the height. CONDITIONS: each theorem's own hypotheses. -/
namespace Go.Proofs.YtcnemacakjemjaaDoor
open Go.RowKit CodeMath Go.Proofs.YtcnemacakjemjaaDoor.FrameMath
set_option linter.unusedVariables false
set_option maxRecDepth 100000

/-- The closure. -/
abbrev cvF (go g gt gl : Nat) : Value := .func (.func 8) #[] #[.pointer (some ⟨go, 0, none⟩), .pointer (some ⟨g, 0, none⟩), .pointer (some ⟨gt, 0, none⟩), .pointer (some ⟨gl, 0, none⟩), .pointer (some ⟨g + 1, 0, none⟩)]
/-- What the closure reads, all of it laid ahead of the cover. -/
structure CvS (w0 : World) (go gt gl : Nat) (m : Int) (n H : Nat) (l : List Sl) (rows : List (List UInt8)) (o : List Bool) : Prop where
  op : ∃ ao co, w0.cell? ⟨go, 0, none⟩ = some (.slice ao n co) ∧ n ≤ co ∧ co ≤ 9223372036854775807 ∧ Bools w0 ao o
  ls : ∃ al cl, w0.cell? ⟨gl, 0, none⟩ = some (.slice al n cl) ∧ n ≤ cl ∧ cl ≤ 9223372036854775807 ∧ Slots w0 al l
  tr : ∃ gT cT, w0.cell? ⟨gt, 0, none⟩ = some (.slice (some ⟨gT, 0, none⟩) (H + 1) cT) ∧ ∀ h, h ≤ H → ∃ gL, w0.cell? ⟨gT, h, none⟩ = some (.slice (some ⟨gL, 0, none⟩) (2 ^ (H - h)) (2 ^ (H - h))) ∧ ∀ p, (p + 1) * 2 ^ h ≤ n → ∃ u, w0.cell? ⟨gL, p, none⟩ = some u ∧ RowT w0 u (blockB m rows h p)
  ol : o.length = n
  ll : l.length = n
  rl : rows.length = n
  n64 : n = 2 ^ H
  h6 : H ≤ 6
  good : ∀ x ∈ l, x.s.length ≤ 80 ∧ x.d.length ≤ 400
/-- What it writes. -/
structure CvW (w0 W : World) (go gt gl : Nat) (accS : List Sl) (accR : List (List UInt8)) : Prop where
  below : Below w0.heap.size w0 W
  size : w0.heap.size + 2 ≤ W.heap.size
  fn : W.cell? ⟨w0.heap.size + 1, 0, none⟩ = some (cvF go w0.heap.size gt gl)
  cov : ∃ sv rv, CovB W w0.heap.size sv rv ∧ OwnSl W (w0.heap.size + 2) sv accS ∧ OwnL W (w0.heap.size + 2) rv accR
def partO (o : List Bool) (h p : Nat) : List Bool := (o.drop (p * 2 ^ h)).take (2 ^ h)
def partR (r : List (List UInt8)) (h p : Nat) : List (List UInt8) := (r.drop (p * 2 ^ h)).take (2 ^ h)
def partS (l : List Sl) (h p : Nat) : List Sl := (l.drop (p * 2 ^ h)).take (2 ^ h)
theorem half_one {α : Type} (l : List α) (h p : Nat) : ((l.drop (p * 2 ^ (h + 1))).take (2 ^ (h + 1))).take (2 ^ h) = (l.drop (2 * p * 2 ^ h)).take (2 ^ h) := by
  have e1 : 2 ^ (h + 1) = 2 * 2 ^ h := by rw [Nat.pow_succ, Nat.mul_comm]
  rw [List.take_take, e1, show min (2 ^ h) (2 * 2 ^ h) = 2 ^ h by omega, show p * (2 * 2 ^ h) = 2 * p * 2 ^ h by rw [← Nat.mul_assoc, Nat.mul_comm p 2]]
theorem half_two {α : Type} (l : List α) (h p : Nat) : ((l.drop (p * 2 ^ (h + 1))).take (2 ^ (h + 1))).drop (2 ^ h) = (l.drop ((2 * p + 1) * 2 ^ h)).take (2 ^ h) := by
  have e1 : 2 ^ (h + 1) = 2 * 2 ^ h := by rw [Nat.pow_succ, Nat.mul_comm]
  rw [List.drop_take, List.drop_drop, e1, show 2 * 2 ^ h - 2 ^ h = 2 ^ h by omega, show p * (2 * 2 ^ h) + 2 ^ h = (2 * p + 1) * 2 ^ h by rw [Nat.add_mul, Nat.one_mul, ← Nat.mul_assoc, Nat.mul_comm p 2]]
theorem cvS_keep {w0 W : World} {go gt gl : Nat} {m : Int} {n H : Nat} {l : List Sl} {rows : List (List UInt8)} {o : List Bool} (h : CvS w0 go gt gl m n H l rows o) (hb : Below w0.heap.size w0 W) : CvS W go gt gl m n H l rows o := by
  obtain ⟨⟨ao, co, a1, a2, a3, a4⟩, ⟨al, cl, b1, b2, b3, b4⟩, ⟨gT, cT, c1, c2⟩, h1, h2, h3, h4, h5, h6⟩ := h
  have kp : ∀ {q : Addr} {v : Value}, w0.cell? q = some v → W.cell? q = some v := fun hq => (hb.cell (World.block_lt_of_cell? w0 _ hq)).trans hq
  refine ⟨⟨ao, co, kp a1, a2, a3, a4.keep hb⟩, ⟨al, cl, kp b1, b2, b3, b4.keep hb⟩, ⟨gT, cT, kp c1, fun k hk => ?_⟩, h1, h2, h3, h4, h5, h6⟩
  obtain ⟨gL, d1, d2⟩ := c2 k hk
  refine ⟨gL, kp d1, fun p hp => ?_⟩
  obtain ⟨u, e1, e2⟩ := d2 p hp
  exact ⟨u, kp e1, e2.keep hb⟩
theorem CvW.step {w0 Wb W : World} {go gt gl : Nat} {accS accS' : List Sl} {accR accR' : List (List UInt8)} (h : CvW w0 Wb go gt gl accS accR) (hsz : Wb.heap.size ≤ W.heap.size) (hb : Below (w0.heap.size) Wb W) (hf : W.cell? ⟨w0.heap.size + 1, 0, none⟩ = some (cvF go w0.heap.size gt gl))
    (hc : ∃ sv rv, CovB W w0.heap.size sv rv ∧ OwnSl W (w0.heap.size + 2) sv accS' ∧ OwnL W (w0.heap.size + 2) rv accR') : CvW w0 W go gt gl accS' accR' :=
  ⟨h.below.trans hb, Nat.le_trans h.size hsz, hf, hc⟩
theorem CvW.keep {w0 Wb W : World} {go gt gl : Nat} {accS : List Sl} {accR : List (List UInt8)} (h : CvW w0 Wb go gt gl accS accR) (hb : Below Wb.heap.size Wb W) : CvW w0 W go gt gl accS accR := by
  obtain ⟨sv, rv, h1, h2, h3⟩ := h.cov
  have hs := h.size
  exact h.step hb.size (hb.mono (by omega)) ((hb.cell (p := ⟨w0.heap.size + 1, 0, none⟩) (show w0.heap.size + 1 < Wb.heap.size by omega)).trans h.fn) ⟨sv, rv, h1.keep hb, h2.keep hb, h3.keep hb⟩
theorem bits0 : ∀ (h p : Nat), h ≤ 6 → (p + 1) * 2 ^ h ≤ 64 → IntKind.i64.wrap ((p : Int) * 2 ^ h) = ((p * 2 ^ h : Nat) : Int) ∧ IntKind.i64.wrap (((p : Int) + 1) * 2 ^ h) = ((p * 2 ^ h + 2 ^ h : Nat) : Int) := by
  intro h p h6 hp
  have h0 : 0 < 2 ^ h := Nat.pow_pos (by decide)
  have e : (p + 1) * 2 ^ h = p * 2 ^ h + 2 ^ h := by rw [Nat.add_mul, Nat.one_mul]
  have e1 : ((p : Int) * 2 ^ h) = ((p * 2 ^ h : Nat) : Int) := by simp
  have e2 : (((p : Int) + 1) * 2 ^ h) = ((p * 2 ^ h + 2 ^ h : Nat) : Int) := by rw [← e]; simp
  rw [e1, e2, IntKind.wrap_i64, IntKind.wrap_i64]
  constructor <;> omega
def CvRF (g gT gL h p B nT cT nL : Nat) (rv : Value) (au : Option Addr) (nu ku : Nat) (accR : List (List UInt8)) (x : List UInt8) : Nat → Value → World → Prop
  | 0, v, _ => v = .pointer (some ⟨g, 1, none⟩)
  | 1, v, _ => v = rv
  | 2, v, _ => v = .slice (some ⟨gT, 0, none⟩) nT cT
  | 3, v, _ => v = .int .i64 (h : Int)
  | 4, v, _ => v = .pointer (some ⟨gT, h, none⟩)
  | 5, v, _ => v = .slice (some ⟨gL, 0, none⟩) nL nL
  | 6, v, _ => v = .int .i64 (p : Int)
  | 7, v, _ => v = .pointer (some ⟨gL, p, none⟩)
  | 8, v, _ => v = .slice au nu ku
  | 9, v, w => ∃ k, v = .slice (some ⟨k, 0, none⟩) 1 1 ∧ Blk w k 37 [.slice au nu ku] ∧ rv.ownBlock ≠ some k
  | 10, v, w => OwnL w B v (accR ++ [x])
  | 11, v, _ => v = .pointer (some ⟨g, 1, none⟩)
  | _, _, _ => True

set_option maxHeartbeats 4000000 in
theorem cover1_rest (w0 Wb : World) (go gt gl : Nat) (m : Int) (n H : Nat) (l : List Sl) (rows : List (List UInt8)) (o : List Bool) (hS : CvS w0 go gt gl m n H l rows o) (h p : Nat) (hH : h ≤ H) (hp : (p + 1) * 2 ^ h ≤ n) (accS : List Sl) (accR : List (List UInt8)) (hW : CvW w0 Wb go gt gl accS accR) (hlen : accR.length ≤ 1000000) (hc : (partO o h p).contains true = false) :
    Calls Tryd.prog 8 #[.int .i64 (h : Int), .int .i64 (p : Int), .pointer (some ⟨go, 0, none⟩), .pointer (some ⟨w0.heap.size, 0, none⟩), .pointer (some ⟨gt, 0, none⟩), .pointer (some ⟨gl, 0, none⟩), .pointer (some ⟨w0.heap.size + 1, 0, none⟩)] Wb fun e W => e = .returned (.tuple #[]) ∧ CvW w0 W go gt gl accS (accR ++ [blockB m rows h p]) := by
  obtain ⟨⟨ao, co, a1, a2, a3, a4⟩, -, ⟨gT, cT, c1, c2⟩, k1, k2, k3, k4, k5, -⟩ := id hS
  have h6 : h ≤ 6 := by omega
  have e6 : 2 ^ 6 = 64 := by decide
  have h64 : 2 ^ H ≤ 2 ^ 6 := Nat.pow_le_pow_right (by decide) k5
  obtain ⟨w1, w2⟩ := bits0 h p h6 (by omega)
  obtain ⟨gL, d1, d2⟩ := c2 h hH
  obtain ⟨u, u1, u2⟩ := d2 p hp
  obtain ⟨au, ku, rfl, -⟩ := id u2
  have eP : (p + 1) * 2 ^ h = p * 2 ^ h + 2 ^ h := by rw [Nat.add_mul, Nat.one_mul]
  have hk0 : 0 < 2 ^ h := Nat.pow_pos (by decide)
  have hpn : p < 2 ^ (H - h) := by
    have hm : 2 ^ H = 2 ^ (H - h) * 2 ^ h := by rw [← Nat.pow_add]; congr 1; omega
    have h1 : (p + 1) * 2 ^ h ≤ 2 ^ (H - h) * 2 ^ h := by rw [← hm]; omega
    have := Nat.le_of_mul_le_mul_right h1 hk0
    omega
  have cC := fun W (hW : Below w0.heap.size w0 W) => containsO_any (partO o h p) (pieceO ao (p * 2 ^ h) co) (co - p * 2 ^ h) W (by unfold partO; rw [List.length_take]; omega) (((a4.keep hW).drop _ _ (by omega)).take _)
  rw [show (partO o h p).length = 2 ^ h by unfold partO; rw [List.length_take, List.length_drop]; omega, hc] at cC
  have sl := fun W => sliceO_mid ao n co (p * 2 ^ h) (p * 2 ^ h + 2 ^ h) _ _ rfl rfl (by omega) (by omega) W
  rw [show p * 2 ^ h + 2 ^ h - p * 2 ^ h = 2 ^ h by omega] at sl
  obtain ⟨sv, rv, hCv, hSl, hRl⟩ := hW.cov
  have hB2 := hW.size
  have hbW := hW.below
  have kq : ∀ {q : Addr} {v : Value}, w0.cell? q = some v → ∀ W, Below w0.heap.size w0 W → W.cell? q = some v := fun hq W hW => (hW.cell (World.block_lt_of_cell? w0 _ hq)).trans hq
  have A1 := kq a1
  have HX := Lib.hid (fun W (hW : Below w0.heap.size w0 W) => u2.keep hW)
  have HF := Lib.hid hW.fn
  have HW := Lib.hid hW
  have hnI : (n : Int) ≤ 64 := by omega
  have hpI : (p : Int) < ((2 ^ (H - h) : Nat) : Int) := by omega
  have hhI : (h : Int) < ((H + 1 : Nat) : Int) := by omega
  have hhI2 : (h : Int) ≤ 64 := by omega
  have hpI2 : (p : Int) ≤ 64 := by
    have : p * 1 ≤ p * 2 ^ h := Nat.mul_le_mul_left p hk0
    omega
  have hkI : ((p * 2 ^ h : Nat) : Int) ≤ 64 := by omega
  have Q : ∀ W, Below (w0.heap.size + 2) Wb W → W.cell? ⟨w0.heap.size, 1, none⟩ = some rv ∧ W.cell? ⟨gt, 0, none⟩ = some (.slice (some ⟨gT, 0, none⟩) (H + 1) cT) ∧ W.cell? ⟨gT, h, none⟩ = some (.slice (some ⟨gL, 0, none⟩) (2 ^ (H - h)) (2 ^ (H - h))) ∧ W.cell? ⟨gL, p, none⟩ = some (.slice au (blockB m rows h p).length ku) := fun W hq => by
    have hb := hbW.trans (hq.mono (Nat.le_add_right _ _))
    exact ⟨(hq.cell (p := ⟨w0.heap.size, 1, none⟩) (show w0.heap.size < w0.heap.size + 2 by omega)).trans (Blk.cell hCv rfl), kq c1 W hb, kq d1 W hb, kq u1 W hb⟩
  generalize blockB m rows h p = x at *
  generalize x.length = nu at *
  generalize 2 ^ (H - h) = nL at *
  generalize hnT : H + 1 = nT at *
  generalize p * 2 ^ h = A at *
  generalize A + 2 ^ h = A2 at *
  generalize 2 ^ h = k at *
  generalize pieceO ao A co = ao2 at *
  generalize co - A = co2 at *
  have hp1 : IntKind.i64.wrap ((p : Int) + 1) = (p : Int) + 1 := by rw [IntKind.wrap_i64]; omega
  clear hS a1 a2 a3 a4 c1 c2 k1 k2 k3 k4 k5 h6 e6 h64 d1 d2 u1 u2 eP hk0 hpn hc hp hH kq hnT hW
  have HE : Hid (∀ W, Wb.heap.size ≤ W.heap.size → Below w0.heap.size Wb W → W.cell? ⟨w0.heap.size + 1, 0, none⟩ = some (cvF go w0.heap.size gt gl) → ∀ sv' rv', CovB W w0.heap.size sv' rv' → OwnSl W (w0.heap.size + 2) sv' accS → OwnL W (w0.heap.size + 2) rv' (accR ++ [x]) → CvW w0 W go gt gl accS (accR ++ [x])) := fun W q1 q2 q3 sv' rv' q4 q5 q6 => HW.out.step q1 q2 q3 ⟨sv', rv', q4, q5, q6⟩
  generalize hg : w0.heap.size = g at *
  clear hg HW
  go_enter Tryd.func8, Tryd.ntmps8
  go_upto_region 0 with fail
  refine wp_region_det 9 (by kernel_rfl) (by kernel_rfl) (by kernel_rfl) ?_
  simp only [List.take_succ_cons, List.take_zero, List.drop_succ_cons, List.drop_zero]
  apply wpDet_plain _ rfl; (focus (intro W hq; have q1 := A1 W (hbW.trans (hq.mono (by omega))); go_simp; exact ⟨rfl, Below.refl _ _⟩)); simp only [Act.put, List.setIfInBounds_toArray, List.set_cons_zero, List.set_cons_succ]
  iterate 7 (apply wpDet_plain _ rfl; (focus (intro W hq; go_simp; exact ⟨rfl, Below.refl _ _⟩)); simp only [Act.put, List.setIfInBounds_toArray, List.set_cons_zero, List.set_cons_succ])
  apply wpDet_plain _ rfl; (focus (intro W hq; have q1 := sl W; go_simp; exact ⟨rfl, Below.refl _ _⟩)); simp only [Act.put, List.setIfInBounds_toArray, List.set_cons_zero, List.set_cons_succ]
  refine wpDet_nil ?_; intro W0 hq0
  have hbg0 : Below g w0 W0 := hbW.trans (hq0.mono (by omega))
  have c0 := cC W0 hbg0
  clear cC sl A1 w1 w2 hp1
  go_wp2_with fail
  refine c0.mono ?_
  rintro e W1 ⟨rfl, rfl⟩
  clear c0
  have Q : ∀ W, Below (g + 2) W0 W → _ := fun W hq => Q W ((hq0.mono hB2).trans hq)
  have hSl := hSl.keep hq0
  have hRl := hRl.keep hq0
  have hCv := hCv.keep hq0
  have hB2' := Nat.le_trans hB2 hq0.size
  have HF0 : Hid (W0.cell? ⟨g + 1, 0, none⟩ = some (cvF go g gt gl)) := (hq0.cell (p := ⟨g + 1, 0, none⟩) (show g + 1 < Wb.heap.size by omega)).trans HF.out
  have hEb : Hid (Below g Wb W0 ∧ Wb.heap.size ≤ W0.heap.size) := ⟨hq0.mono (by omega), hq0.size⟩
  have hbW := hbg0
  clear hq0 hB2 HF hbg0
  go_upto_region 4 with fail
  refine wp_region_chain 12 [9, 10] (by kernel_rfl) (by kernel_rfl) (by kernel_rfl) (CvRF g gT gL h p (g + 2) nT cT nL rv au nu ku accR x) (fun s W => W0.heap.size ≤ W.heap.size ∧ Below (g + 2) W0 W ∧ OwnSl W (g + 2) sv accS ∧ (s < 2 → OwnL W (g + 2) rv accR)) (fun s w w' => if s = 0 then Below w.heap.size w w' else w.grownBy w' rv.ownBlock) ?hF ?h0 ?hstep ?hcall ?hdone
  case hF =>
    intro s i hs j v W W' hjn hne hpb h he
    rcases (show j = 0 ∨ j = 1 ∨ j = 2 ∨ j = 3 ∨ j = 4 ∨ j = 5 ∨ j = 6 ∨ j = 7 ∨ j = 8 ∨ j = 9 ∨ j = 10 ∨ j = 11 by omega) with rfl | rfl | rfl | rfl | rfl | rfl | rfl | rfl | rfl | rfl | rfl | rfl
    · exact h
    · exact h
    · exact h
    · exact h
    · exact h
    · exact h
    · exact h
    · exact h
    · exact h
    · rcases s with _ | _ | s
      · obtain rfl : 9 = i := by simpa using hs
        exact absurd rfl hne
      · obtain rfl : 10 = i := by simpa using hs
        obtain ⟨k, h1, h2, h3⟩ := h
        exact ⟨k, h1, h2.same (World.grownBy.block he k h2.lt (fun hh => h3 hh.symm)), h3⟩
      · simp at hs
    · rcases s with _ | _ | s
      · exact OwnL.keep h he
      · obtain rfl : 10 = i := by simpa using hs
        exact absurd rfl hne
      · simp at hs
    · exact h
  case h0 => exact ⟨Nat.le_refl _, Below.drew (Below.refl _ _), hSl.keep (Below.drew (Below.refl _ _)), fun _ => hRl.keep (Below.drew (Below.refl _ _))⟩
  case hstep =>
    intro j hj hni s vs act W K ha' hst hd hu hK
    simp only [fillF, Act.put, List.take_succ_cons, List.take_zero, List.setIfInBounds_toArray, List.set_cons_zero, List.set_cons_succ] at ha'
    subst ha'
    clear hu
    have q1 := (Q W hst.2.1).1
    have q2 := (Q W hst.2.1).2.1
    have q3 := (Q W hst.2.1).2.2.1
    have q4 := (Q W hst.2.1).2.2.2
    rcases (show j = 0 ∨ j = 1 ∨ j = 2 ∨ j = 3 ∨ j = 4 ∨ j = 5 ∨ j = 6 ∨ j = 7 ∨ j = 8 ∨ j = 9 ∨ j = 10 ∨ j = 11 by omega) with rfl | rfl | rfl | rfl | rfl | rfl | rfl | rfl | rfl | rfl | rfl | rfl
    · refine wpOp_step rfl (fun K' hK' => ?_)
      go_simp
      exact hK' _ _ (hK _ rfl)
    · have e0 : vs 0 = .pointer (some ⟨g, 1, none⟩) := hd 0 (by kernel_rfl)
      simp only [e0] at hK ⊢
      refine wpOp_step rfl (fun K' hK' => ?_)
      go_simp
      exact hK' _ _ (hK _ rfl)
    · refine wpOp_step rfl (fun K' hK' => ?_)
      go_simp
      exact hK' _ _ (hK _ rfl)
    · refine wpOp_step rfl (fun K' hK' => ?_)
      go_simp
      exact hK' _ _ (hK _ rfl)
    · have e2 : vs 2 = .slice (some ⟨gT, 0, none⟩) nT cT := hd 2 (by kernel_rfl)
      have e3 : vs 3 = .int .i64 (h : Int) := hd 3 (by kernel_rfl)
      simp only [e2, e3] at hK ⊢
      refine wpOp_step rfl (fun K' hK' => ?_)
      go_simp
      exact hK' _ _ (hK _ rfl)
    · have e4 : vs 4 = .pointer (some ⟨gT, h, none⟩) := hd 4 (by kernel_rfl)
      simp only [e4] at hK ⊢
      refine wpOp_step rfl (fun K' hK' => ?_)
      go_simp
      exact hK' _ _ (hK _ rfl)
    · refine wpOp_step rfl (fun K' hK' => ?_)
      go_simp
      exact hK' _ _ (hK _ rfl)
    · have e5 : vs 5 = .slice (some ⟨gL, 0, none⟩) nL nL := hd 5 (by kernel_rfl)
      have e6 : vs 6 = .int .i64 (p : Int) := hd 6 (by kernel_rfl)
      simp only [e5, e6] at hK ⊢
      refine wpOp_step rfl (fun K' hK' => ?_)
      go_simp
      exact hK' _ _ (hK _ rfl)
    · have e7 : vs 7 = .pointer (some ⟨gL, p, none⟩) := hd 7 (by kernel_rfl)
      simp only [e7] at hK ⊢
      refine wpOp_step rfl (fun K' hK' => ?_)
      go_simp
      exact hK' _ _ (hK _ rfl)
    · exact (hni (by decide)).elim
    · exact (hni (by decide)).elim
    · refine wpOp_step rfl (fun K' hK' => ?_)
      go_simp
      exact hK' _ _ (hK _ rfl)
  case hcall =>
    intro s j hs vs act W K ha' hst hd hK
    simp only [fillF, Act.put, List.take_succ_cons, List.take_zero, List.setIfInBounds_toArray, List.set_cons_zero, List.set_cons_succ] at ha'
    subst ha'
    rcases s with _ | _ | s
    · obtain rfl : 9 = j := by simpa using hs
      have e8 : vs 8 = .slice au nu ku := hd 8 (by kernel_rfl)
      simp only [e8] at hK ⊢
      refine wpOp_step rfl (fun K' hK' => ?_)
      go_simp
      have hown : rv.ownBlock ≠ some W.heap.size := fun hh => by have := (hst.2.2.2 (by decide)).typed _ hh; omega
      have hba : Below W.heap.size W (W.alloc (.cells #[.slice au nu ku] 37)) := (Below.refl _ _).alloc (Nat.le_refl _) _
      exact hK' _ _ (hK _ _ ⟨_, rfl, Blk.new W _ _, hown⟩ hba ⟨Nat.le_trans hst.1 hba.size, hst.2.1.alloc (Nat.le_trans hB2' hst.1) _, hst.2.2.1.keep hba, fun _ => (hst.2.2.2 (by decide)).keep hba⟩)
    · obtain rfl : 10 = j := by simpa using hs
      have e1 : vs 1 = rv := hd 1 (by kernel_rfl)
      obtain ⟨k9, e9, y9, z9⟩ := hd 9 (by kernel_rfl)
      simp only [e1, e9] at hK ⊢
      refine wpOp_step rfl (fun K' hK' => ?_)
      rw [if_pos (by simp [Region.wanted])]
      have hrw := HX.out W (hbW.trans (hst.2.1.mono (Nat.le_add_right _ _)))
      refine wp_append_row (.tmp 37) (.tmp 45) rfl (g + 2) rv accR rfl (hst.2.2.2 (by decide)) (.slice au nu ku) x k9 rfl (y9.cell rfl) hrw hlen (Nat.le_trans hB2' hst.1) ?_
      intro v' w' ho hg
      have hty := fun b (hb : rv.ownBlock = some b) => (hst.2.2.2 (by decide)).typed b hb
      exact hK' _ _ (hK v' w' ho hg ⟨Nat.le_trans hst.1 hg.size, hst.2.1.grown hg (Nat.le_trans hB2' hst.1) (fun b hb => (hty b hb).2.1), hst.2.2.1.beside hg (fun b hb => by obtain ⟨⟨cur, fz, q⟩, -⟩ := hty b hb; exact ⟨cur, _, fz, q, by decide, by decide⟩), fun hh => absurd hh (by decide)⟩)
    · simp at hs
  case hdone =>
    intro vs act W ha' hst hf
    simp only [fillF, Act.put, List.take_succ_cons, List.take_zero, List.drop_succ_cons, List.drop_zero, List.setIfInBounds_toArray, List.set_cons_zero, List.set_cons_succ] at ha' ⊢
    subst ha'
    have f11 : vs 11 = .pointer (some ⟨g, 1, none⟩) := hf 11 (by decide)
    have f10 : OwnL W (g + 2) (vs 10) (accR ++ [x]) := hf 10 (by decide)
    simp only [Nat.zero_add, Nat.reduceAdd, f11]
    obtain ⟨q1, q2, q3, -⟩ := hst
    obtain ⟨av, cv, ev, -⟩ := f10.lines
    generalize vs 10 = v10 at *
    subst ev
    have hCW : CovB W g sv rv := (q2.block g (by omega)).trans hCv
    have hfr := Blk.free hCW 1
    have hc1 := Blk.cell hCW (j := 1) rfl
    have hfn : W.cell? ⟨g + 1, 0, none⟩ = some (cvF go g gt gl) := (q2.cell (p := ⟨g + 1, 0, none⟩) (show g + 1 < g + 2 by omega)).trans HF0.out
    have hend : Hid (CvW w0 (W.setCell ⟨g, 1, none⟩ (.slice av (accR ++ [x]).length cv)) go gt gl accS (accR ++ [x])) := by
      have hm := mv_cell W g 1 (.slice av (accR ++ [x]).length cv)
      have htg : ∀ b, some g = some b → ∃ cur T fz, W.heap[b]? = some (.cells cur T fz) ∧ T ≠ 5 ∧ T ≠ 39 := fun b hb => by cases hb; exact ⟨_, _, _, hCW, by decide, by decide⟩
      have htg2 : ∀ b, some g = some b → ∃ cur T fz, W.heap[b]? = some (.cells cur T fz) ∧ ¬ ByteT T ∧ T ≠ 37 := fun b hb => by cases hb; exact ⟨_, _, _, hCW, by unfold ByteT; decide, by decide⟩
      exact HE.out _ (Nat.le_trans hEb.out.2 (Nat.le_trans q1 hm.size)) (hEb.out.1.trans ((q2.mono (by omega)).grown hm (by omega) (fun b hb => by cases hb; exact Nat.le_refl _))) (hm.cell hfn (by simp)) _ _ (hCW.setR _) (q3.beside hm htg) (f10.beside hm htg2)
    clear hf f10 q1 q2 q3 hCW hfn Q hSl hRl hCv hbW hEb HF0 HE HX hB2'
    generalize (accR ++ [x]).length = lx at *
    go_wp2_with fail
    first | go_ret | go_end0
    exact ⟨rfl, hend.out⟩
end Go.Proofs.YtcnemacakjemjaaDoor

/-! CONTRACT of package slots' CoverOf's closure: a single slot; two halves. CONDITIONS: each theorem's own hypotheses. -/
namespace Go.Proofs.YtcnemacakjemjaaDoor
open Go.RowKit CodeMath Go.Proofs.YtcnemacakjemjaaDoor.FrameMath
set_option linter.unusedVariables false
set_option maxRecDepth 100000

def CvSF (g ga oa p B n cl : Nat) (sv : Value) (f : Bool) (a1 : Option Addr) (n1 k1 : Nat) (a2 : Option Addr) (n2 k2 : Nat) (accS : List Sl) (x : Sl) : Nat → Value → World → Prop
  | 0, v, _ => v = .pointer (some ⟨g, 0, none⟩)
  | 1, v, _ => v = sv
  | 2, v, _ => v = .slice (some ⟨ga, oa, none⟩) n cl
  | 3, v, _ => v = .int .i64 (p : Int)
  | 4, v, _ => v = .pointer (some ⟨ga, oa + p * 3, none⟩)
  | 5, v, _ => v = .agg #[.bool f, .slice a1 n1 k1, .slice a2 n2 k2]
  | 6, v, w => ∃ a b, v = .agg #[.bool f, a, b] ∧ RowU w a x.s ∧ RowU w b x.d
  | 7, v, w => ∃ k a b, v = .slice (some ⟨k, 0, none⟩) 1 1 ∧ Blk w k 39 [.bool f, a, b] ∧ RowU w a x.s ∧ RowU w b x.d ∧ sv.ownBlock ≠ some k
  | 8, v, w => OwnSl w B v (accS ++ [x])
  | 9, v, _ => v = .pointer (some ⟨g, 0, none⟩)
  | _, _, _ => True
set_option maxHeartbeats 4000000 in
theorem cover1_leaf (w0 Wb : World) (go gt gl : Nat) (m : Int) (n H : Nat) (l : List Sl) (rows : List (List UInt8)) (o : List Bool) (hS : CvS w0 go gt gl m n H l rows o) (h p : Nat) (hh0 : h = 0) (hH : h ≤ H) (hp : (p + 1) * 2 ^ h ≤ n) (x : Sl) (hx : l[p]? = some x) (accS : List Sl) (accR : List (List UInt8)) (hW : CvW w0 Wb go gt gl accS accR) (hlen : accS.length ≤ 1000000) (hc : (partO o h p).contains true = true) :
    Calls Tryd.prog 8 #[.int .i64 (h : Int), .int .i64 (p : Int), .pointer (some ⟨go, 0, none⟩), .pointer (some ⟨w0.heap.size, 0, none⟩), .pointer (some ⟨gt, 0, none⟩), .pointer (some ⟨gl, 0, none⟩), .pointer (some ⟨w0.heap.size + 1, 0, none⟩)] Wb fun e W => e = .returned (.tuple #[]) ∧ CvW w0 W go gt gl (accS ++ [x]) accR := by
  obtain ⟨⟨ao, co, a1, a2, a3, a4⟩, ⟨al, cl, b1, b2, b3, b4⟩, -, k1, k2, k3, k4, k5, hgood⟩ := id hS
  have h6 : h ≤ 6 := by omega
  have e6 : 2 ^ 6 = 64 := by decide
  have h64 : 2 ^ H ≤ 2 ^ 6 := Nat.pow_le_pow_right (by decide) k5
  obtain ⟨w1, w2⟩ := bits0 h p h6 (by omega)
  have hgx := hgood x (List.mem_of_getElem? hx)
  have eP : (p + 1) * 2 ^ h = p * 2 ^ h + 2 ^ h := by rw [Nat.add_mul, Nat.one_mul]
  have hk0 : 0 < 2 ^ h := Nat.pow_pos (by decide)
  rcases b4 with b4 | ⟨ga, oa, rfl, b5, b6⟩
  · rw [b4] at hx; simp at hx
  obtain ⟨us, ud, d0, d1, d2, d3, d4⟩ := b6 p x hx
  obtain ⟨ar1, ku1, rfl, -⟩ := id d3
  obtain ⟨ar2, ku2, rfl, -⟩ := id d4
  have hpn0 : p < l.length := (List.getElem?_eq_some_iff.1 hx).1
  have cC := fun W (hW : Below w0.heap.size w0 W) => containsO_any (partO o h p) (pieceO ao (p * 2 ^ h) co) (co - p * 2 ^ h) W (by unfold partO; rw [List.length_take]; omega) (((a4.keep hW).drop _ _ (by omega)).take _)
  rw [show (partO o h p).length = 2 ^ h by unfold partO; rw [List.length_take, List.length_drop]; omega, hc] at cC
  have sl := fun W => sliceO_mid ao n co (p * 2 ^ h) (p * 2 ^ h + 2 ^ h) _ _ rfl rfl (by omega) (by omega) W
  rw [show p * 2 ^ h + 2 ^ h - p * 2 ^ h = 2 ^ h by omega] at sl
  obtain ⟨sv, rv, hCv, hSl, hRl⟩ := hW.cov
  have hB2 := hW.size
  have hbW := hW.below
  have kq : ∀ {q : Addr} {v : Value}, w0.cell? q = some v → ∀ W, Below w0.heap.size w0 W → W.cell? q = some v := fun hq W hW => (hW.cell (World.block_lt_of_cell? w0 _ hq)).trans hq
  have A1 := kq a1
  have HX := Lib.hid (fun W (hW : Below w0.heap.size w0 W) => clone_any x.f (.slice ar1 x.s.length ku1) (.slice ar2 x.d.length ku2) x.s x.d W (d3.keep hW) (d4.keep hW) (by omega) (by omega))
  have HF := Lib.hid hW.fn
  have HW := Lib.hid hW
  have hz : ((h : Int) == 0) = true := by simp [hh0]
  have hnI : (n : Int) ≤ 64 := by omega
  have hpI : (p : Int) < (n : Int) := by omega
  have hhI2 : (h : Int) ≤ 64 := by omega
  have hpI2 : (p : Int) ≤ 64 := by omega
  have hkI : ((p * 2 ^ h : Nat) : Int) ≤ 64 := by omega
  have Q : ∀ W, Below (w0.heap.size + 2) Wb W → W.cell? ⟨w0.heap.size, 0, none⟩ = some sv ∧ W.cell? ⟨gl, 0, none⟩ = some (.slice (some ⟨ga, oa, none⟩) n cl) ∧ W.cell? ⟨ga, oa + p * 3, none⟩ = some (.bool x.f) ∧ W.cell? ⟨ga, oa + p * 3 + 1, none⟩ = some (.slice ar1 x.s.length ku1) ∧ W.cell? ⟨ga, oa + p * 3 + 2, none⟩ = some (.slice ar2 x.d.length ku2) := fun W hq => by
    have hb := hbW.trans (hq.mono (Nat.le_add_right _ _))
    exact ⟨(hq.cell (p := ⟨w0.heap.size, 0, none⟩) (show w0.heap.size < w0.heap.size + 2 by omega)).trans (Blk.cell hCv rfl), kq b1 W hb, kq d0 W hb, kq d1 W hb, kq d2 W hb⟩
  have hp1 : IntKind.i64.wrap ((p : Int) + 1) = (p : Int) + 1 := by rw [IntKind.wrap_i64]; omega
  generalize p * 2 ^ h = A at *
  generalize A + 2 ^ h = A2 at *
  generalize 2 ^ h = k at *
  generalize pieceO ao A co = ao2 at *
  generalize co - A = co2 at *
  have HE : Hid (∀ W, Wb.heap.size ≤ W.heap.size → Below w0.heap.size Wb W → W.cell? ⟨w0.heap.size + 1, 0, none⟩ = some (cvF go w0.heap.size gt gl) → ∀ sv' rv', CovB W w0.heap.size sv' rv' → OwnSl W (w0.heap.size + 2) sv' (accS ++ [x]) → OwnL W (w0.heap.size + 2) rv' accR → CvW w0 W go gt gl (accS ++ [x]) accR) := fun W q1 q2 q3 sv' rv' q4 q5 q6 => HW.out.step q1 q2 q3 ⟨sv', rv', q4, q5, q6⟩
  clear hS a1 a2 a3 a4 b1 b2 b3 b5 b6 k1 k2 k3 k4 k5 h6 e6 h64 d0 d1 d2 d3 d4 eP hk0 hpn0 hc hp hH kq hW hgood hgx hx hh0
  generalize hg : w0.heap.size = g at *
  clear hg HW
  have hl1 : x.s.length = x.s.length := rfl
  obtain ⟨n1, hn1⟩ : ∃ k, x.s.length = k := ⟨_, rfl⟩
  obtain ⟨n2, hn2⟩ : ∃ k, x.d.length = k := ⟨_, rfl⟩
  rw [hn1, hn2] at Q HX
  clear hl1 hn1 hn2
  go_enter Tryd.func8, Tryd.ntmps8
  go_upto_region 0 with fail
  refine wp_region_det 9 (by kernel_rfl) (by kernel_rfl) (by kernel_rfl) ?_
  simp only [List.take_succ_cons, List.take_zero, List.drop_succ_cons, List.drop_zero]
  apply wpDet_plain _ rfl; (focus (intro W hq; have q1 := A1 W (hbW.trans (hq.mono (by omega))); go_simp; exact ⟨rfl, Below.refl _ _⟩)); simp only [Act.put, List.setIfInBounds_toArray, List.set_cons_zero, List.set_cons_succ]
  iterate 7 (apply wpDet_plain _ rfl; (focus (intro W hq; go_simp; exact ⟨rfl, Below.refl _ _⟩)); simp only [Act.put, List.setIfInBounds_toArray, List.set_cons_zero, List.set_cons_succ])
  apply wpDet_plain _ rfl; (focus (intro W hq; have q1 := sl W; go_simp; exact ⟨rfl, Below.refl _ _⟩)); simp only [Act.put, List.setIfInBounds_toArray, List.set_cons_zero, List.set_cons_succ]
  refine wpDet_nil ?_; intro W0 hq0
  have hbg0 : Below g w0 W0 := hbW.trans (hq0.mono (by omega))
  have c0 := cC W0 hbg0
  clear cC sl A1 w1 w2 hp1
  go_wp2_with fail
  refine c0.mono ?_
  rintro e W1 ⟨rfl, rfl⟩
  clear c0
  have Q : ∀ W, Below (g + 2) W0 W → _ := fun W hq => Q W ((hq0.mono hB2).trans hq)
  have hSl := hSl.keep hq0
  have hRl := hRl.keep hq0
  have hCv := hCv.keep hq0
  have hB2' := Nat.le_trans hB2 hq0.size
  have HF0 : Hid (W0.cell? ⟨g + 1, 0, none⟩ = some (cvF go g gt gl)) := (hq0.cell (p := ⟨g + 1, 0, none⟩) (show g + 1 < Wb.heap.size by omega)).trans HF.out
  have hEb : Hid (Below g Wb W0 ∧ Wb.heap.size ≤ W0.heap.size) := ⟨hq0.mono (by omega), hq0.size⟩
  have hbW := hbg0
  clear hq0 hB2 HF hbg0
  go_upto_region 6 with fail
  refine wp_region_chain 10 [6, 7, 8] (by kernel_rfl) (by kernel_rfl) (by kernel_rfl) (CvSF g ga oa p (g + 2) n cl sv x.f ar1 n1 ku1 ar2 n2 ku2 accS x) (fun s W => W0.heap.size ≤ W.heap.size ∧ Below (g + 2) W0 W ∧ OwnL W (g + 2) rv accR ∧ (s < 3 → OwnSl W (g + 2) sv accS)) (fun s w w' => if s < 2 then Below w.heap.size w w' else w.grownBy w' sv.ownBlock ∧ ∀ b, sv.ownBlock = some b → ∃ cur T fz, w.heap[b]? = some (.cells cur T fz) ∧ T ≠ 5) ?hF ?h0 ?hstep ?hcall ?hdone
  case hF =>
    intro s i hs j v W W' hjn hne hpb h he
    rcases (show j = 0 ∨ j = 1 ∨ j = 2 ∨ j = 3 ∨ j = 4 ∨ j = 5 ∨ j = 6 ∨ j = 7 ∨ j = 8 ∨ j = 9 by omega) with rfl | rfl | rfl | rfl | rfl | rfl | rfl | rfl | rfl | rfl
    · exact h
    · exact h
    · exact h
    · exact h
    · exact h
    · exact h
    · rcases s with _ | _ | _ | s
      · obtain rfl : 6 = i := by simpa using hs
        exact absurd rfl hne
      · obtain ⟨a, b, h1, h2, h3⟩ := h
        exact ⟨a, b, h1, h2.keep he, h3.keep he⟩
      · obtain ⟨a, b, h1, h2, h3⟩ := h
        exact ⟨a, b, h1, h2.grown he.1 he.2, h3.grown he.1 he.2⟩
      · simp at hs
    · rcases s with _ | _ | _ | s
      · obtain ⟨k, a, b, h1, h2, h3, h4, h5⟩ := h
        exact ⟨k, a, b, h1, h2.call he, h3.keep he, h4.keep he, h5⟩
      · obtain rfl : 7 = i := by simpa using hs
        exact absurd rfl hne
      · obtain ⟨k, a, b, h1, h2, h3, h4, h5⟩ := h
        exact ⟨k, a, b, h1, h2.same (World.grownBy.block he.1 k h2.lt (fun hh => h5 hh.symm)), h3.grown he.1 he.2, h4.grown he.1 he.2, h5⟩
      · simp at hs
    · rcases s with _ | _ | _ | s
      · exact OwnSl.keep h he
      · exact OwnSl.keep h he
      · obtain rfl : 8 = i := by simpa using hs
        exact absurd rfl hne
      · simp at hs
    · exact h
  case h0 => exact ⟨Nat.le_refl _, Below.drew (Below.refl _ _), hRl.keep (Below.drew (Below.refl _ _)), fun _ => hSl.keep (Below.drew (Below.refl _ _))⟩
  case hstep =>
    intro j hj hni s vs act W K ha' hst hd hu hK
    simp only [fillF, Act.put, List.take_succ_cons, List.take_zero, List.setIfInBounds_toArray, List.set_cons_zero, List.set_cons_succ] at ha'
    subst ha'
    clear hu
    have q1 := (Q W hst.2.1).1
    have q2 := (Q W hst.2.1).2.1
    obtain ⟨q3, q4, q5⟩ := (Q W hst.2.1).2.2
    rcases (show j = 0 ∨ j = 1 ∨ j = 2 ∨ j = 3 ∨ j = 4 ∨ j = 5 ∨ j = 6 ∨ j = 7 ∨ j = 8 ∨ j = 9 by omega) with rfl | rfl | rfl | rfl | rfl | rfl | rfl | rfl | rfl | rfl
    · refine wpOp_step rfl (fun K' hK' => ?_)
      go_simp
      exact hK' _ _ (hK _ rfl)
    · have e0 : vs 0 = .pointer (some ⟨g, 0, none⟩) := hd 0 (by kernel_rfl)
      simp only [e0] at hK ⊢
      refine wpOp_step rfl (fun K' hK' => ?_)
      go_simp
      exact hK' _ _ (hK _ rfl)
    · refine wpOp_step rfl (fun K' hK' => ?_)
      go_simp
      exact hK' _ _ (hK _ rfl)
    · refine wpOp_step rfl (fun K' hK' => ?_)
      go_simp
      exact hK' _ _ (hK _ rfl)
    · have e2 : vs 2 = .slice (some ⟨ga, oa, none⟩) n cl := hd 2 (by kernel_rfl)
      have e3 : vs 3 = .int .i64 (p : Int) := hd 3 (by kernel_rfl)
      simp only [e2, e3] at hK ⊢
      refine wpOp_step rfl (fun K' hK' => ?_)
      go_simp
      exact hK' _ _ (hK _ rfl)
    · have e4 : vs 4 = .pointer (some ⟨ga, oa + p * 3, none⟩) := hd 4 (by kernel_rfl)
      simp only [e4] at hK ⊢
      refine wpOp_step rfl (fun K' hK' => ?_)
      go_simp
      exact hK' _ _ (hK _ rfl)
    · exact (hni (by decide)).elim
    · exact (hni (by decide)).elim
    · exact (hni (by decide)).elim
    · refine wpOp_step rfl (fun K' hK' => ?_)
      go_simp
      exact hK' _ _ (hK _ rfl)
  case hcall =>
    intro s j hs vs act W K ha' hst hd hK
    simp only [fillF, Act.put, List.take_succ_cons, List.take_zero, List.setIfInBounds_toArray, List.set_cons_zero, List.set_cons_succ] at ha'
    subst ha'
    rcases s with _ | _ | _ | s
    · obtain rfl : 6 = j := by simpa using hs
      have e5 : vs 5 = .agg #[.bool x.f, .slice ar1 n1 ku1, .slice ar2 n2 ku2] := hd 5 (by kernel_rfl)
      simp only [e5] at hK ⊢
      refine wpOp_step rfl (fun K' hK' => ?_)
      go_simp
      refine (HX.out W (hbW.trans (hst.2.1.mono (Nat.le_add_right _ _)))).mono ?_
      rintro e W' ⟨a, b, rfl, ha, hb, hbel⟩
      exact hK' _ _ (hK _ _ ⟨a, b, rfl, ha, hb⟩ hbel ⟨Nat.le_trans hst.1 hbel.size, hst.2.1.trans (hbel.mono (Nat.le_trans hB2' hst.1)), hst.2.2.1.keep hbel, fun _ => (hst.2.2.2 (by decide)).keep hbel⟩)
    · obtain rfl : 7 = j := by simpa using hs
      obtain ⟨a6, b6, e6, y6, z6⟩ := hd 6 (by kernel_rfl)
      simp only [e6] at hK ⊢
      have HK := Lib.hid hK
      clear hK
      obtain ⟨aa, ka, rfl, -⟩ := id y6
      obtain ⟨ab, kb, rfl, -⟩ := id z6
      have hK := HK.out
      refine wpOp_step rfl (fun K' hK' => ?_)
      go_simp
      have hown : sv.ownBlock ≠ some W.heap.size := fun hh => by have := (hst.2.2.2 (by decide)).typed _ hh; omega
      have hba := (Below.refl W.heap.size W).alloc (Nat.le_refl _) (.cells #[.bool x.f, .slice aa x.s.length ka, .slice ab x.d.length kb] 39)
      exact hK' _ _ (hK _ _ ⟨_, _, _, rfl, Blk.new W _ _, y6.keep hba, z6.keep hba, hown⟩ hba ⟨Nat.le_trans hst.1 hba.size, hst.2.1.alloc (Nat.le_trans hB2' hst.1) _, hst.2.2.1.keep hba, fun _ => (hst.2.2.2 (by decide)).keep hba⟩)
    · obtain rfl : 8 = j := by simpa using hs
      have e1 : vs 1 = sv := hd 1 (by kernel_rfl)
      obtain ⟨k7, a7, b7, e7, x7, y7, z7, o7⟩ := hd 7 (by kernel_rfl)
      simp only [e1, e7] at hK ⊢
      refine wpOp_step rfl (fun K' hK' => ?_)
      rw [if_pos (by simp [Region.wanted])]
      refine wp_append_sl (.tmp 52) (.tmp 58) rfl (g + 2) sv accS rfl (hst.2.2.2 (by decide)) x a7 b7 k7 rfl x7 y7 z7 hlen (Nat.le_trans hB2' hst.1) ?_
      intro v' w' ho hg
      have hty := fun b (hb : sv.ownBlock = some b) => (hst.2.2.2 (by decide)).typed b hb
      exact hK' _ _ (hK v' w' ho ⟨hg, fun b hb => by obtain ⟨⟨cur, fz, q⟩, -⟩ := hty b hb; exact ⟨cur, _, fz, q, by decide⟩⟩ ⟨Nat.le_trans hst.1 hg.size, hst.2.1.grown hg (Nat.le_trans hB2' hst.1) (fun b hb => (hty b hb).2.1), hst.2.2.1.beside hg (fun b hb => by obtain ⟨⟨cur, fz, q⟩, -⟩ := hty b hb; exact ⟨cur, _, fz, q, by unfold ByteT; decide, by decide⟩), fun hh => absurd hh (by decide)⟩)
    · simp at hs
  case hdone =>
    intro vs act W ha' hst hf
    simp only [fillF, Act.put, List.take_succ_cons, List.take_zero, List.drop_succ_cons, List.drop_zero, List.setIfInBounds_toArray, List.set_cons_zero, List.set_cons_succ] at ha' ⊢
    subst ha'
    have f9 : vs 9 = .pointer (some ⟨g, 0, none⟩) := hf 9 (by decide)
    have f8 : OwnSl W (g + 2) (vs 8) (accS ++ [x]) := hf 8 (by decide)
    simp only [Nat.zero_add, Nat.reduceAdd, f9]
    obtain ⟨q1, q2, q3, -⟩ := hst
    obtain ⟨av, cv, ev, -⟩ := f8.slots
    generalize vs 8 = v10 at *
    subst ev
    have hCW : CovB W g sv rv := (q2.block g (by omega)).trans hCv
    have hfr := Blk.free hCW 0
    have hc1 := Blk.cell hCW (j := 0) rfl
    have hfn : W.cell? ⟨g + 1, 0, none⟩ = some (cvF go g gt gl) := (q2.cell (p := ⟨g + 1, 0, none⟩) (show g + 1 < g + 2 by omega)).trans HF0.out
    have hend : Hid (CvW w0 (W.setCell ⟨g, 0, none⟩ (.slice av (accS ++ [x]).length cv)) go gt gl (accS ++ [x]) accR) := by
      have hm := mv_cell W g 0 (.slice av (accS ++ [x]).length cv)
      have htg : ∀ b, some g = some b → ∃ cur T fz, W.heap[b]? = some (.cells cur T fz) ∧ T ≠ 5 ∧ T ≠ 39 := fun b hb => by cases hb; exact ⟨_, _, _, hCW, by decide, by decide⟩
      have htg2 : ∀ b, some g = some b → ∃ cur T fz, W.heap[b]? = some (.cells cur T fz) ∧ ¬ ByteT T ∧ T ≠ 37 := fun b hb => by cases hb; exact ⟨_, _, _, hCW, by unfold ByteT; decide, by decide⟩
      exact HE.out _ (Nat.le_trans hEb.out.2 (Nat.le_trans q1 hm.size)) (hEb.out.1.trans ((q2.mono (by omega)).grown hm (by omega) (fun b hb => by cases hb; exact Nat.le_refl _))) (hm.cell hfn (by simp)) _ _ (hCW.setS _) (f8.beside hm htg) (q3.beside hm htg2)
    clear hf f8 q1 q2 q3 hCW hfn Q hSl hRl hCv hbW hEb HF0 HE HX hB2'
    generalize (accS ++ [x]).length = lx at *
    go_wp2_with fail
    first | go_ret | go_end0
    exact ⟨rfl, hend.out⟩
end Go.Proofs.YtcnemacakjemjaaDoor

/-! CONTRACT of package slots' CoverOf. CONDITIONS: package sum's roundWords hold what their initialiser lays ('KW'). -/
namespace Go.Proofs.YtcnemacakjemjaaDoor
open Go.RowKit CodeMath Go.Proofs.YtcnemacakjemjaaDoor.FrameMath
set_option linter.unusedVariables false
set_option maxRecDepth 100000

theorem part_one {α : Type} (l : List α) (p : Nat) (x : α) (hx : l[p]? = some x) : (l.drop (p * 2 ^ 0)).take (2 ^ 0) = [x] := by
  have hp := (List.getElem?_eq_some_iff.1 hx).1
  rw [Nat.pow_zero, Nat.mul_one, List.drop_eq_getElem_cons hp, (List.getElem?_eq_some_iff.1 hx).2]
  rfl
theorem selO_few : ∀ (l : List Sl) (o : List Bool), (selO l o).length ≤ l.length
  | [], o => by cases o <;> simp [selO]
  | x :: l, [] => by simp [selO]
  | x :: l, b :: o => by
    have := selO_few l o
    cases b <;> simp [selO] <;> omega
theorem resN_few : ∀ (h : Nat) (o : List Bool), resN h o ≤ 2 ^ h
  | 0, o => by unfold resN; split <;> simp
  | h + 1, o => by
    unfold resN
    split
    · have h1 := resN_few h (o.take (2 ^ h))
      have h2 := resN_few h (o.drop (2 ^ h))
      rw [Nat.pow_succ]; omega
    · exact Nat.pow_pos (by decide)
set_option maxHeartbeats 4000000 in
theorem cover1_any (w0 : World) (go gt gl : Nat) (m : Int) (n H : Nat) (l : List Sl) (rows : List (List UInt8)) (o : List Bool) (hS : CvS w0 go gt gl m n H l rows o) : ∀ (h p : Nat), h ≤ H → (p + 1) * 2 ^ h ≤ n → ∀ (accS : List Sl) (accR : List (List UInt8)) (Wb : World), CvW w0 Wb go gt gl accS accR → accS.length + 2 ^ h ≤ 1000 → accR.length + 2 ^ h ≤ 1000 →
    Calls Tryd.prog 8 #[.int .i64 (h : Int), .int .i64 (p : Int), .pointer (some ⟨go, 0, none⟩), .pointer (some ⟨w0.heap.size, 0, none⟩), .pointer (some ⟨gt, 0, none⟩), .pointer (some ⟨gl, 0, none⟩), .pointer (some ⟨w0.heap.size + 1, 0, none⟩)] Wb fun e W => e = .returned (.tuple #[]) ∧ CvW w0 W go gt gl (accS ++ selO (partS l h p) (partO o h p)) (accR ++ covR m h (partR rows h p) (partO o h p)) := by
  intro h
  induction h with
  | zero =>
    intro p hH hp accS accR Wb hW hlS hlR
    cases hc : (partO o 0 p).contains true with
    | false =>
      rw [covR_none m 0 _ _ hc, selO_none _ _ hc, List.append_nil]
      exact cover1_rest w0 Wb go gt gl m n H l rows o hS 0 p hH hp accS accR hW (by omega) hc
    | true =>
      have hpn : p < l.length := by have := hS.ll; simp at hp; omega
      obtain ⟨x, hx⟩ : ∃ x, l[p]? = some x := ⟨_, List.getElem?_eq_getElem hpn⟩
      have hpo : p < o.length := by have := hS.ol; simp at hp; omega
      obtain ⟨b, hb⟩ : ∃ x, o[p]? = some x := ⟨_, List.getElem?_eq_getElem hpo⟩
      have ho : partO o 0 p = [b] := part_one o p b hb
      have hl : partS l 0 p = [x] := part_one l p x hx
      rw [ho] at hc
      cases b with
      | false => cases hc
      | true =>
        have e1 : selO (partS l 0 p) (partO o 0 p) = [x] := by rw [ho, hl]; rfl
        have e2 : covR m 0 (partR rows 0 p) (partO o 0 p) = [] := by rw [ho]; rfl
        rw [e1, e2, List.append_nil]
        exact cover1_leaf w0 Wb go gt gl m n H l rows o hS 0 p rfl hH hp x hx accS accR hW (by omega) (by rw [ho]; rfl)
  | succ h ih =>
    intro p hH hp accS accR Wb hW hlS hlR
    have e1 : 2 ^ (h + 1) = 2 * 2 ^ h := by rw [Nat.pow_succ, Nat.mul_comm]
    have hk0 : 0 < 2 ^ h := Nat.pow_pos (by decide)
    cases hc : (partO o (h + 1) p).contains true with
    | false =>
      rw [covR_none m _ _ _ hc, selO_none _ _ hc, List.append_nil]
      exact cover1_rest w0 Wb go gt gl m n H l rows o hS (h + 1) p hH hp accS accR hW (by omega) hc
    | true =>
      obtain ⟨⟨ao, co, a1, a2, a3, a4⟩, -, -, k1, k2, k3, k4, k5, -⟩ := id hS
      have h6 : h + 1 ≤ 6 := by omega
      have e6 : 2 ^ 6 = 64 := by decide
      have h64 : 2 ^ H ≤ 2 ^ 6 := Nat.pow_le_pow_right (by decide) k5
      have hpa : (2 * p + 1) * 2 ^ h ≤ n := by
        have : (2 * p + 1) * 2 ^ h ≤ (2 * (p + 1)) * 2 ^ h := Nat.mul_le_mul_right _ (by omega)
        rw [e1, ← Nat.mul_assoc, Nat.mul_comm (p + 1) 2] at hp
        omega
      have hpb : (2 * p + 1 + 1) * 2 ^ h ≤ n := by
        rw [e1, ← Nat.mul_assoc, Nat.mul_comm (p + 1) 2] at hp
        exact hp
      have lA : (partO o h (2 * p)).length = 2 ^ h := by
        have h1 : (2 * p + 1) * 2 ^ h = 2 * p * 2 ^ h + 2 ^ h := by rw [Nat.add_mul, Nat.one_mul]
        unfold partO; rw [List.length_take, List.length_drop]; omega
      have lB : (partS l h (2 * p)).length = 2 ^ h := by
        have h1 : (2 * p + 1) * 2 ^ h = 2 * p * 2 ^ h + 2 ^ h := by rw [Nat.add_mul, Nat.one_mul]
        unfold partS; rw [List.length_take, List.length_drop]; omega
      have f1 := selO_few (partS l h (2 * p)) (partO o h (2 * p))
      have f2 := resN_few h (partO o h (2 * p))
      have f3 := covR_length m h (partR rows h (2 * p)) (partO o h (2 * p))
      have c1 := fun W hW => ih (2 * p) (by omega) hpa accS accR W hW (by omega) (by omega)
      have c2 := fun W hW => ih (2 * p + 1) (by omega) hpb (accS ++ selO (partS l h (2 * p)) (partO o h (2 * p))) (accR ++ covR m h (partR rows h (2 * p)) (partO o h (2 * p))) W hW (by rw [List.length_append]; omega) (by rw [List.length_append]; omega)
      have eS : selO (partS l (h + 1) p) (partO o (h + 1) p) = selO (partS l h (2 * p)) (partO o h (2 * p)) ++ selO (partS l h (2 * p + 1)) (partO o h (2 * p + 1)) := by
        rw [← selO_append _ _ _ _ (by rw [lA, lB])]
        congr 1
        · rw [← List.take_append_drop (2 ^ h) (partS l (h + 1) p)]
          exact congr (congrArg _ (half_one l h p)) (half_two l h p)
        · rw [← List.take_append_drop (2 ^ h) (partO o (h + 1) p)]
          exact congr (congrArg _ (half_one o h p)) (half_two o h p)
      have eR : covR m (h + 1) (partR rows (h + 1) p) (partO o (h + 1) p) = covR m h (partR rows h (2 * p)) (partO o h (2 * p)) ++ covR m h (partR rows h (2 * p + 1)) (partO o h (2 * p + 1)) := by
        show (if (partO o (h + 1) p).contains true then covR m h ((partR rows (h + 1) p).take (2 ^ h)) ((partO o (h + 1) p).take (2 ^ h)) ++ covR m h ((partR rows (h + 1) p).drop (2 ^ h)) ((partO o (h + 1) p).drop (2 ^ h)) else _) = _
        rw [hc]
        simp only [if_true]
        rw [show (partR rows (h + 1) p).take (2 ^ h) = partR rows h (2 * p) from half_one rows h p, show (partR rows (h + 1) p).drop (2 ^ h) = partR rows h (2 * p + 1) from half_two rows h p, show (partO o (h + 1) p).take (2 ^ h) = partO o h (2 * p) from half_one o h p, show (partO o (h + 1) p).drop (2 ^ h) = partO o h (2 * p + 1) from half_two o h p]
      rw [eS, eR, ← List.append_assoc, ← List.append_assoc]
      generalize accS ++ selO (partS l h (2 * p)) (partO o h (2 * p)) = accS1 at *
      generalize accR ++ covR m h (partR rows h (2 * p)) (partO o h (2 * p)) = accR1 at *
      generalize accS1 ++ selO (partS l h (2 * p + 1)) (partO o h (2 * p + 1)) = accS2 at *
      generalize accR1 ++ covR m h (partR rows h (2 * p + 1)) (partO o h (2 * p + 1)) = accR2 at *
      obtain ⟨w1, w2⟩ := bits0 (h + 1) p h6 (by omega)
      have eP : (p + 1) * 2 ^ (h + 1) = p * 2 ^ (h + 1) + 2 ^ (h + 1) := by rw [Nat.add_mul, Nat.one_mul]
      have cC := fun W (hW : Below w0.heap.size w0 W) => containsO_any (partO o (h + 1) p) (pieceO ao (p * 2 ^ (h + 1)) co) (co - p * 2 ^ (h + 1)) W (by unfold partO; rw [List.length_take]; omega) (((a4.keep hW).drop _ _ (by omega)).take _)
      rw [show (partO o (h + 1) p).length = 2 ^ (h + 1) by unfold partO; rw [List.length_take, List.length_drop]; omega, hc] at cC
      have sl := fun W => sliceO_mid ao n co (p * 2 ^ (h + 1)) (p * 2 ^ (h + 1) + 2 ^ (h + 1)) _ _ rfl rfl (by omega) (by omega) W
      rw [show p * 2 ^ (h + 1) + 2 ^ (h + 1) - p * 2 ^ (h + 1) = 2 ^ (h + 1) by omega] at sl
      have hB2 := hW.size
      have hbW := hW.below
      have kq : ∀ {q : Addr} {v : Value}, w0.cell? q = some v → ∀ W, Below w0.heap.size w0 W → W.cell? q = some v := fun hq W hW => (hW.cell (World.block_lt_of_cell? w0 _ hq)).trans hq
      have A1 := kq a1
      have hnI : (n : Int) ≤ 64 := by omega
      have hhI2 : ((h + 1 : Nat) : Int) ≤ 64 := by omega
      have hpI2 : (p : Int) ≤ 64 := by
        have : p * 1 ≤ p * 2 ^ (h + 1) := Nat.mul_le_mul_left p (by omega)
        omega
      have hkI : ((p * 2 ^ (h + 1) : Nat) : Int) ≤ 64 := by omega
      have hp1 : IntKind.i64.wrap ((p : Int) + 1) = (p : Int) + 1 := by rw [IntKind.wrap_i64]; omega
      clear ih e1
      generalize hh' : h + 1 = h' at *
      have hz : ((h' : Int) == 0) = false := by simp; omega
      have hh1 : (h' : Int) - 1 = (h : Int) := by omega
      obtain ⟨pa, hpa2⟩ : ∃ k, 2 * p = k := ⟨_, rfl⟩
      obtain ⟨pb, hpb2⟩ : ∃ k, 2 * p + 1 = k := ⟨_, rfl⟩
      have e2 : 2 * (p : Int) = (pa : Int) := by omega
      have e3 : (pa : Int) + 1 = (pb : Int) := by omega
      have hpaI : (pa : Int) ≤ 128 := by omega
      rw [hpb2] at c2
      rw [hpa2] at c1
      have HW := Lib.hid hW
      have C1 := Lib.hid c1
      have C2 := Lib.hid c2
      generalize p * 2 ^ h' = A at *
      generalize A + 2 ^ h' = A2 at *
      generalize 2 ^ h' = k at *
      generalize pieceO ao A co = ao2 at *
      generalize co - A = co2 at *
      clear hS a1 a2 a3 a4 k1 k2 k3 k4 k5 h6 e6 h64 eP hk0 hc hp hH kq hW hpa hpb hpa2 hpb2 f1 f2 f3 lA lB eS eR c1 c2 hlS hlR hh'
      generalize hg : w0.heap.size = g at *
      have HG := Lib.hid hg
      clear hg
      go_enter Tryd.func8, Tryd.ntmps8
      go_upto_region 0 with fail
      refine wp_region_det 9 (by kernel_rfl) (by kernel_rfl) (by kernel_rfl) ?_
      simp only [List.take_succ_cons, List.take_zero, List.drop_succ_cons, List.drop_zero]
      apply wpDet_plain _ rfl; (focus (intro W hq; have q1 := A1 W (hbW.trans (hq.mono (by omega))); go_simp; exact ⟨rfl, Below.refl _ _⟩)); simp only [Act.put, List.setIfInBounds_toArray, List.set_cons_zero, List.set_cons_succ]
      iterate 7 (apply wpDet_plain _ rfl; (focus (intro W hq; go_simp; exact ⟨rfl, Below.refl _ _⟩)); simp only [Act.put, List.setIfInBounds_toArray, List.set_cons_zero, List.set_cons_succ])
      apply wpDet_plain _ rfl; (focus (intro W hq; have q1 := sl W; go_simp; exact ⟨rfl, Below.refl _ _⟩)); simp only [Act.put, List.setIfInBounds_toArray, List.set_cons_zero, List.set_cons_succ]
      refine wpDet_nil ?_; intro W0 hq0
      have hW0 := HW.out.keep hq0
      have c0 := cC W0 (hbW.trans (hq0.mono (by omega)))
      clear cC sl A1 w1 w2 hp1 hq0 hB2 hbW HW
      go_wp2_with fail
      refine c0.mono ?_
      rintro e W1 ⟨rfl, rfl⟩
      clear c0
      have c1 := C1.out W0 hW0
      have hfn : W0.cell? ⟨g + 1, 0, none⟩ = some (cvF go g gt gl) := by have := hW0.fn; rw [HG.out] at this; exact this
      clear hW0 C1
      go_wp2_with fail
      refine c1.mono ?_
      rintro e W2 ⟨rfl, hW2⟩
      have c2 := C2.out W2 hW2
      have hfn : W2.cell? ⟨g + 1, 0, none⟩ = some (cvF go g gt gl) := by have := hW2.fn; rw [HG.out] at this; exact this
      clear c1 hW2 C2
      go_wp2_with fail
      refine c2.mono ?_
      rintro e W3 ⟨rfl, hW3⟩
      clear c2
      go_wp2_with fail
      first | go_ret | go_end0
      exact ⟨rfl, hW3⟩
end Go.Proofs.YtcnemacakjemjaaDoor

/-! CONTRACT of package slots' CoverOf. CONDITIONS: package sum's roundWords hold what their initialiser lays ('KW'). -/
namespace Go.Proofs.YtcnemacakjemjaaDoor
open Go.RowKit CodeMath Go.Proofs.YtcnemacakjemjaaDoor.FrameMath
set_option linter.unusedVariables false
set_option maxRecDepth 100000

theorem leavesR_small (m : Int) : ∀ (l : List Sl) (rows : List (List UInt8)), leavesR m l = .ok rows → ∀ x ∈ l, x.s.length ≤ 80 ∧ x.d.length ≤ 400
  | [], rows, h, x, hx => by cases hx
  | y :: l, rows, h, x, hx => by
    cases hy : leafR m y.f y.s y.d with
    | err e => simp [leavesR, hy] at h
    | ok b0 =>
      simp only [leavesR, hy] at h
      cases hr : leavesR m l with
      | err e => rw [hr] at h; cases h
      | ok r0 =>
        rcases List.mem_cons.1 hx with rfl | hx
        · unfold leafR at hy
          split at hy
          · cases hy
          · split at hy
            · cases hy
            · split at hy
              · cases hy
              · omega
        · exact leavesR_small m l r0 hr x hx
theorem take_all {α : Type} (l : List α) (h : Nat) (hl : l.length = 2 ^ h) : (l.drop (0 * 2 ^ h)).take (2 ^ h) = l := by
  rw [Nat.zero_mul, List.drop_zero, List.take_of_length_le (by omega)]
theorem part_all (l : List Sl) (h : Nat) (hl : l.length = 2 ^ h) : partS l h 0 = l := take_all l h hl
theorem part_all' (l : List Bool) (h : Nat) (hl : l.length = 2 ^ h) : partO l h 0 = l := take_all l h hl
theorem part_allR (l : List (List UInt8)) (h : Nat) (hl : l.length = 2 ^ h) : partR l h 0 = l := take_all l h hl
def CovPost (m : Int) (h : Nat) (l : List Sl) (o : List Bool) (w : World) (e : Ending) (w' : World) : Prop := (match levelsR m l with
  | .err c => e = .returned (.tuple #[.agg #[.slice none 0 0, .slice none 0 0], .int .i64 c])
  | .ok rows => if o.length = l.length then ∃ sv rv, e = .returned (.tuple #[.agg #[sv, rv], .int .i64 0]) ∧ OwnSl w' w.heap.size sv (selO l o) ∧ OwnL w' w.heap.size rv (covR m h rows o) else e = .returned (.tuple #[.agg #[.slice none 0 0, .slice none 0 0], .int .i64 1])) ∧ Below w.heap.size w w'
theorem cvS_start {w w2 w3 : World} {go gl gt : Nat} {m : Int} {h : Nat} {l : List Sl} {rows : List (List UInt8)} {o : List Bool} {v2 : Value} (hb : Below w2.heap.size w2 w3) (hlv : leavesR m l = .ok rows) (hlh : l.length = 2 ^ h) (h6 : h ≤ 6) (ho : o.length = l.length)
    {al : Option Addr} {cl : Nat} (c1 : w3.cell? ⟨gl, 0, none⟩ = some (.slice al l.length cl)) (hc : l.length ≤ cl) (hq : cl ≤ 9223372036854775807) (hS : Slots w3 al l)
    {ao : Option Addr} {co : Nat} (c2 : w3.cell? ⟨go, 0, none⟩ = some (.slice ao o.length co)) (hco : o.length ≤ co) (hqo : co ≤ 9223372036854775807) (hO : Bools w3 ao o)
    {base : Nat} (c3 : w3.cell? ⟨gt, 0, none⟩ = some v2) (hot : OwnT w2 base v2 (tower m h rows)) : ∃ gT cT, v2 = .slice (some ⟨gT, 0, none⟩) (h + 1) cT ∧ CvS w3 go gt gl m l.length h l rows o := by
  have hrl := leavesR_length m l rows hlv
  have htl := tower_length m h rows
  obtain ⟨us, hown, hlev⟩ := hot
  rw [htl] at hown
  rcases hown.2 with ⟨_, h0⟩ | ⟨gT, cT, cur, rfl, k1, k2, k3, k4, k5, k6⟩
  · omega
  · refine ⟨gT, cT, rfl, ⟨ao, co, by rw [← ho]; exact c2, by omega, hqo, hO⟩, ⟨al, cl, c1, hc, hq, hS⟩, ⟨gT, cT, c3, fun t ht => ?_⟩, ho, rfl, hrl, hlh, h6, leavesR_small m l rows hlv⟩
    have ht1 := tower_at m h t rows ht
    obtain ⟨gL, e1, hl1⟩ := hlev t _ ht1
    have hln : (topL m t rows).length = 2 ^ (h - t) := topL_length m t (2 ^ (h - t)) rows (by rw [hrl, hlh, ← Nat.pow_add]; congr 1; omega)
    rw [hln] at e1
    have hgT : gT < w2.heap.size := (Array.getElem?_eq_some_iff.1 k2).1
    have hcell : w2.cell? ⟨gT, t, none⟩ = some (.slice (some ⟨gL, 0, none⟩) (2 ^ (h - t)) (2 ^ (h - t))) := by
      rw [cell_of_block k2]
      rw [← k6, List.getElem?_take_of_lt (by omega)] at e1
      simpa using e1
    refine ⟨gL, (hb.cell (p := ⟨gT, t, none⟩) hgT).trans hcell, fun p hp => ?_⟩
    have hat := topL_at m t p rows (by rw [hrl]; exact hp)
    obtain ⟨us2, b1, b2, b3⟩ := hl1
    obtain ⟨u, hu, hr⟩ := b3 p _ hat
    exact ⟨u, (hb.cell (p := ⟨gL, p, none⟩) b1.lt).trans (b1.cell hu), hr.keep hb⟩
set_option maxHeartbeats 4000000 in
theorem CoverOf_any (m : Int) (l : List Sl) (al : Option Addr) (cl : Nat) (o : List Bool) (ao : Option Addr) (co : Nat) (w : World) (m0 : -9223372036854775808 ≤ m) (m1 : m ≤ 9223372036854775807) (hc : l.length ≤ cl) (hq : cl ≤ 9223372036854775807) (hS : Slots w al l) (hco : o.length ≤ co) (hqo : co ≤ 9223372036854775807) (hO : Bools w ao o) (hT : KW w) (h : Nat) (h6 : h ≤ 6) (hh : isPow l.length = true → l.length = 2 ^ h) :
    Calls Tryd.prog 4 #[.int .i64 m, .slice al l.length cl, .slice ao o.length co] w (CovPost m h l o w) := by
  obtain ⟨w1, hw1⟩ : ∃ w1, ((w.alloc (.cells #[.slice al l.length cl] 22)).alloc (.cells #[.slice ao o.length co] 23)).alloc (.cells #[.slice none 0 0, .slice none 0 0] 26) = w1 := ⟨_, rfl⟩
  have b1 := (Below.refl w.heap.size w).alloc (Nat.le_refl _) (.cells #[.slice al l.length cl] 22)
  have b2 := b1.alloc b1.size (.cells #[.slice ao o.length co] 23)
  have hb1 : Below w.heap.size w w1 := by rw [← hw1]; exact b2.alloc b2.size _
  have zl : Blk w1 w.heap.size 22 [.slice al l.length cl] := by rw [← hw1]; exact ((Blk.new w #[.slice al l.length cl] 22).alloc _).alloc _
  have zo : Blk w1 (w.heap.size + 1) 23 [.slice ao o.length co] := by rw [← hw1]; exact (Blk.atNew #[.slice ao o.length co] 23 (by simp)).alloc _
  have zr : Blk w1 (w.heap.size + 2) 26 [.slice none 0 0, .slice none 0 0] := by rw [← hw1]; exact Blk.atNew #[.slice none 0 0, .slice none 0 0] 26 (by simp)
  have cL := levels_any m l al cl w1 m0 m1 hc hq (hS.keep hb1) (hT.keep hb1 (Nat.le_refl _)) h hh
  have q0 := zl.cell (j := 0) rfl
  clear b1 b2
  unfold CovPost
  cases hR : levelsR m l with
  | err q =>
    rw [hR] at cL
    have q1 := levelsR_ne hR
    have hqn : (q != 0) = true := by simpa using q1
    clear hh hc hR hS hco hO hT q1
    generalize l.length = n at *
    generalize o.length = n2 at *
    go_enter Tryd.func4, Tryd.ntmps4
    go_upto_region 1 with fail
    clear hw1
    go_wp2_with fail
    refine cL.mono ?_
    rintro e w2 ⟨rfl, hb2⟩
    have z2 := zr.call hb2
    have hba : Below w2.heap.size w2 (w2.alloc (.cells #[.slice none 0 0] 32)) := (Below.refl _ _).alloc (Nat.le_refl _) _
    have z3 := z2.call hba
    have c0 := z3.cell (j := 0) rfl
    have c1 := z3.cell (j := 1) rfl
    have y0 := z3.free 0
    have y1 := z3.free 1
    have hbb := below_step hb1 hb1.size (below_step hb2 hb2.size hba)
    have z4 : Blk (((w2.alloc (.cells #[.slice none 0 0] 32)).setCell ⟨w.heap.size + 2, 0, none⟩ (.slice none 0 0)).setCell ⟨w.heap.size + 2, 1, none⟩ (.slice none 0 0)) (w.heap.size + 2) 26 [.slice none 0 0, .slice none 0 0] := (z3.set 0 _).set 1 _
    have hE : Hid (Below w.heap.size w (((w2.alloc (.cells #[.slice none 0 0] 32)).setCell ⟨w.heap.size + 2, 0, none⟩ (.slice none 0 0)).setCell ⟨w.heap.size + 2, 1, none⟩ (.slice none 0 0))) := (hbb.setCell (p := ⟨w.heap.size + 2, 0, none⟩) (show w.heap.size ≤ w.heap.size + 2 by omega) _).setCell (p := ⟨w.heap.size + 2, 1, none⟩) (show w.heap.size ≤ w.heap.size + 2 by omega) _
    clear cL zl zo zr z2 z3 hb1 hb2 hba hbb q0
    go_wp2_with fail
    refine bodyPost_ret (results_arr_tmp rfl _ _ (w.heap.size + 2) [.slice none 0 0, .slice none 0 0] rfl z4 rfl rfl (by kernel_rfl)) rfl ⟨rfl, hE.out⟩
  | ok rows =>
    rw [hR] at cL
    obtain ⟨hm, hp, hlv⟩ := levelsR_ok hR
    have hlh := hh hp
    have e6 : 2 ^ 6 = 64 := by decide
    have h64 : 2 ^ h ≤ 2 ^ 6 := Nat.pow_le_pow_right (by decide) h6
    have hnI : (l.length : Int) ≤ 64 := by omega
    have hO1 := hO.keep hb1
    have hS1 := hS.keep hb1
    have ql := zl.cell (j := 0) rfl
    have qo := zo.cell (j := 0) rfl
    by_cases hlo : o.length = l.length
    · simp only [if_pos hlo]
      have hoI : ((o.length : Int) != (l.length : Int)) = false := by simp; omega
      have HH := Lib.hid (And.intro hlv (And.intro hlh (And.intro hc hco)))
      have HL := Lib.hid hlo
      have hhI : (h : Int) ≤ 6 := by omega
      have HZ := Lib.hid (And.intro zl (And.intro zo zr))
      have HB := Lib.hid hb1
      have HSO := Lib.hid (And.intro hS1 hO1)
      obtain ⟨n, hn⟩ : ∃ n, l.length = n := ⟨_, rfl⟩
      obtain ⟨n2, hn2⟩ : ∃ n, o.length = n := ⟨_, rfl⟩
      have HN := Lib.hid (And.intro hn hn2)
      rw [hn] at hw1 q0 cL hnI hoI ql ⊢
      rw [hn2] at hw1 hoI qo ⊢
      clear hh hc hS hO hT hm hp hlh e6 h64 hS1 hO1 hlo zl zo zr hb1 hn hn2 hco hR hlv
      go_enter Tryd.func4, Tryd.ntmps4
      go_upto_region 1 with fail
      clear hw1
      go_wp2_with fail
      refine cL.mono ?_
      rintro e w2 ⟨v2, rfl, hot, hb2⟩
      have hba : Below w2.heap.size w2 (w2.alloc (.cells #[v2] 32)) := (Below.refl _ _).alloc (Nat.le_refl _) _
      have zt : Blk (w2.alloc (.cells #[v2] 32)) w2.heap.size 32 [v2] := Blk.new w2 #[v2] _
      have hb3 := below_step hb2 hb2.size hba
      obtain ⟨zl, zo, zr⟩ := HZ.out
      have zl3 := (zl.call hb3)
      have zo3 := (zo.call hb3)
      have zr3 := (zr.call hb3)
      obtain ⟨gT, cT, hv2, hS0⟩ := cvS_start (w := w) (go := w.heap.size + 1) (gl := w.heap.size) (gt := w2.heap.size) hba HH.out.1 HH.out.2.1 h6 HL.out (zl3.cell rfl) HH.out.2.2.1 hq (HSO.out.1.keep hb3) (zo3.cell rfl) HH.out.2.2.2 hqo (HSO.out.2.keep hb3) (zt.cell rfl) hot
      subst hv2
      rw [HN.out.1] at zl3
      rw [HN.out.2] at zo3
      have ql3 := zl3.cell (j := 0) rfl
      have qo3 := zo3.cell (j := 0) rfl
      have hbw3 := below_step HB.out HB.out.size hb3
      obtain ⟨w3, hw3⟩ : ∃ w3, w2.alloc (.cells #[.slice (some ⟨gT, 0, none⟩) (h + 1) cT] 32) = w3 := ⟨_, rfl⟩
      rw [hw3] at hba zt hb3 zl3 zo3 zr3 hS0 ql3 qo3 hbw3
      have hle : w.heap.size + 2 < w1.heap.size := zr.lt
      have hw13 := hb3.size
      clear cL ql qo q0 hot hb2 zl zo zr HZ
      go_upto_region 4 with fail
      clear hw3 hba
      have g1 := (Below.refl w3.heap.size w3).alloc (Nat.le_refl _) (.cells #[.slice none 0 0, .slice none 0 0] 26)
      have g2 := g1.alloc g1.size (.cells #[cvF (w.heap.size + 1) w3.heap.size w2.heap.size w.heap.size] 35)
      have zc : Blk _ w3.heap.size 26 [.slice none 0 0, .slice none 0 0] := (Blk.new w3 #[.slice none 0 0, .slice none 0 0] 26).alloc (.cells #[cvF (w.heap.size + 1) w3.heap.size w2.heap.size w.heap.size] 35)
      have zf : Blk _ (w3.heap.size + 1) 35 [cvF (w.heap.size + 1) w3.heap.size w2.heap.size w.heap.size] := Blk.atNew (w := w3.alloc (.cells #[.slice none 0 0, .slice none 0 0] 26)) #[cvF (w.heap.size + 1) w3.heap.size w2.heap.size w.heap.size] 35 (by simp)
      have hW5 : CvW w3 _ (w.heap.size + 1) w2.heap.size w.heap.size [] [] := ⟨g2, by simp, zf.cell rfl, _, _, zc, OwnSl.nil _ _, OwnL.nil _ _⟩
      have hk0 : 2 ^ h ≤ 64 := by
        have e6 : 2 ^ 6 = 64 := by decide
        have h64 : 2 ^ h ≤ 2 ^ 6 := Nat.pow_le_pow_right (by decide) h6
        omega
      have c9 := cover1_any w3 (w.heap.size + 1) w2.heap.size w.heap.size m l.length h l rows o hS0 h 0 (Nat.le_refl _) (by have := HH.out.2.1; omega) [] [] _ hW5 (by simp; omega) (by simp; omega)
      rw [part_all l h HH.out.2.1, part_all' o h (by rw [HL.out]; exact HH.out.2.1), part_allR rows h (by rw [leavesR_length m l rows HH.out.1]; exact HH.out.2.1), List.nil_append, List.nil_append] at c9
      have qt5 := (g2.cell (p := ⟨w2.heap.size, 0, none⟩) zt.lt).trans (zt.cell (j := 0) rfl)
      have qf5 := zf.cell (j := 0) rfl
      have hI1 : ((h + 1 : Nat) : Int) - 1 = (h : Int) := by omega
      have hlt3 : w.heap.size + 2 < w3.heap.size := by omega
      have HZR := Lib.hid zr3
      have HBW := Lib.hid hbw3
      clear g1 g2 zc zf hW5 hk0 hS0 zt zl3 zo3 zr3 hbw3 hb3 hle hw13
      go_upto_region 9 with fail
      generalize (w3.alloc (.cells #[.slice none 0 0, .slice none 0 0] 26)).alloc (.cells #[cvF (w.heap.size + 1) w3.heap.size w2.heap.size w.heap.size] 35) = w5 at *
      go_wp2_with fail
      refine c9.mono ?_
      rintro e w6 ⟨rfl, hW6⟩
      obtain ⟨sv, rv, hC6, hSl, hRl⟩ := hW6.cov
      have q0 := Blk.cell hC6 (j := 0) rfl
      have q1 := Blk.cell hC6 (j := 1) rfl
      have hb6 := hW6.below
      have z6 : Blk w6 (w.heap.size + 2) 26 [.slice none 0 0, .slice none 0 0] := HZR.out.keep hb6 hlt3
      have c0 := z6.cell (j := 0) rfl
      have c1 := z6.cell (j := 1) rfl
      have y0 := z6.free 0
      have y1 := z6.free 1
      obtain ⟨av, cv, hsv, -⟩ := hSl.slots
      obtain ⟨ar, cr, hrv, -⟩ := hRl.lines
      subst hsv hrv
      have hbb := HBW.out.trans (hb6.mono HBW.out.size)
      have hm : w6.grownBy ((w6.setCell ⟨w.heap.size + 2, 0, none⟩ (.slice av (selO l o).length cv)).setCell ⟨w.heap.size + 2, 1, none⟩ (.slice ar (covR m h rows o).length cr)) (some (w.heap.size + 2)) := grown_trans (mv_cell _ _ _ _) (mv_cell _ _ _ _)
      have htg : ∀ b, some (w.heap.size + 2) = some b → ∃ cur T fz, w6.heap[b]? = some (.cells cur T fz) ∧ T ≠ 5 ∧ T ≠ 39 := fun b hb => by cases hb; exact ⟨_, _, _, z6, by decide, by decide⟩
      have htg2 : ∀ b, some (w.heap.size + 2) = some b → ∃ cur T fz, w6.heap[b]? = some (.cells cur T fz) ∧ ¬ ByteT T ∧ T ≠ 37 := fun b hb => by cases hb; exact ⟨_, _, _, z6, by unfold ByteT; decide, by decide⟩
      have hE : Hid (OwnSl _ w.heap.size (.slice av (selO l o).length cv) (selO l o) ∧ OwnL _ w.heap.size (.slice ar (covR m h rows o).length cr) (covR m h rows o) ∧ Below w.heap.size w _) := ⟨(hSl.beside hm htg).base (by omega), (hRl.beside hm htg2).base (by omega), hbb.grown hm hbb.size (fun b hb => by cases hb; omega)⟩
      have z7 : Blk ((w6.setCell ⟨w.heap.size + 2, 0, none⟩ (.slice av (selO l o).length cv)).setCell ⟨w.heap.size + 2, 1, none⟩ (.slice ar (covR m h rows o).length cr)) (w.heap.size + 2) 26 [.slice av (selO l o).length cv, .slice ar (covR m h rows o).length cr] := (z6.set 0 _).set 1 _
      clear c9 hW6 hC6 hSl hRl hb6 z6 hbb hm htg htg2 qt5 qf5 HBW HZR
      generalize (selO l o).length = ls at *
      generalize (covR m h rows o).length = lr at *
      go_wp2_with fail
      refine bodyPost_ret (results_arr_tmp rfl _ _ (w.heap.size + 2) [.slice av ls cv, .slice ar lr cr] rfl z7 rfl rfl (by kernel_rfl)) rfl ⟨⟨_, _, rfl, hE.out.1, hE.out.2.1⟩, hE.out.2.2⟩
    · simp only [if_neg hlo]
      have hoI : ((o.length : Int) != (l.length : Int)) = true := by simp; omega
      clear hh hc hR hS hco hO hT hm hp hlv hlh e6 h64 hS1 hO1 hlo zl zo
      generalize l.length = n at *
      generalize o.length = n2 at *
      go_enter Tryd.func4, Tryd.ntmps4
      go_upto_region 1 with fail
      clear hw1
      go_wp2_with fail
      refine cL.mono ?_
      rintro e w2 ⟨v2, rfl, hot, hb2⟩
      obtain ⟨us, hown, -⟩ := hot
      obtain ⟨a2, n9, c9, rfl⟩ : ∃ a n c, v2 = .slice a n c := by
        rcases hown.2 with ⟨h0, _⟩ | ⟨g9, cc, cur, h0, _⟩
        · exact ⟨_, _, _, h0⟩
        · exact ⟨_, _, _, h0⟩
      clear hown
      have z2 := zr.call hb2
      have hba : Below w2.heap.size w2 (w2.alloc (.cells #[.slice a2 n9 c9] 32)) := (Below.refl _ _).alloc (Nat.le_refl _) _
      have ql3 := ((below_step hb2 hb2.size hba).cell (p := ⟨w.heap.size, 0, none⟩) (World.block_lt_of_cell? w1 _ ql)).trans ql
      have qo3 := ((below_step hb2 hb2.size hba).cell (p := ⟨w.heap.size + 1, 0, none⟩) (World.block_lt_of_cell? w1 _ qo)).trans qo
      have z3 := z2.call hba
      have c0 := z3.cell (j := 0) rfl
      have c1 := z3.cell (j := 1) rfl
      have y0 := z3.free 0
      have y1 := z3.free 1
      have hbb := below_step hb1 hb1.size (below_step hb2 hb2.size hba)
      have z4 : Blk (((w2.alloc (.cells #[.slice a2 n9 c9] 32)).setCell ⟨w.heap.size + 2, 0, none⟩ (.slice none 0 0)).setCell ⟨w.heap.size + 2, 1, none⟩ (.slice none 0 0)) (w.heap.size + 2) 26 [.slice none 0 0, .slice none 0 0] := (z3.set 0 _).set 1 _
      have hE : Hid (Below w.heap.size w (((w2.alloc (.cells #[.slice a2 n9 c9] 32)).setCell ⟨w.heap.size + 2, 0, none⟩ (.slice none 0 0)).setCell ⟨w.heap.size + 2, 1, none⟩ (.slice none 0 0))) := (hbb.setCell (p := ⟨w.heap.size + 2, 0, none⟩) (show w.heap.size ≤ w.heap.size + 2 by omega) _).setCell (p := ⟨w.heap.size + 2, 1, none⟩) (show w.heap.size ≤ w.heap.size + 2 by omega) _
      clear cL zr z2 z3 hb1 hb2 hba hbb q0 ql qo
      go_wp2_with fail
      refine bodyPost_ret (results_arr_tmp rfl _ _ (w.heap.size + 2) [.slice none 0 0, .slice none 0 0] rfl z4 rfl rfl (by kernel_rfl)) rfl ⟨rfl, hE.out⟩
end Go.Proofs.YtcnemacakjemjaaDoor
