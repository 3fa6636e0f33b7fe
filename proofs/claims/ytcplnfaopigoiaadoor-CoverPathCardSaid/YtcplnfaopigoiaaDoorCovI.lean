/-
  CONTRACT of package slots' CoverOf: its closure, by induction on the height.
  CONDITIONS: each theorem's own hypotheses.
-/
import Derived.Test.YtcplnfaopigoiaaDoorCovH
namespace Go.Proofs.YtcplnfaopigoiaaDoor
open Go.RowKit CodeMath Go.Proofs.YtcplnfaopigoiaaDoor.FrameMath
set_option linter.unusedVariables false
set_option maxRecDepth 100000

/-- The closure. -/
abbrev cvF (go g gt gl : Nat) : Value := .func (.func 29) #[] #[.pointer (some ⟨go, 0, none⟩), .pointer (some ⟨g, 0, none⟩), .pointer (some ⟨gt, 0, none⟩), .pointer (some ⟨gl, 0, none⟩), .pointer (some ⟨g + 1, 0, none⟩)]
/-- What the closure reads, all of it laid ahead of the cover. -/
structure CvS (w0 : World) (go gt gl : Nat) (m : Int) (n H : Nat) (l : List Sl) (rows : List (List UInt8)) (o : List Bool) : Prop where
  op : ∃ ao co, w0.cell? ⟨go, 0, none⟩ = some (.slice ao n co) ∧ n ≤ co ∧ co ≤ 9223372036854775807 ∧ Bools w0 ao o
  ls : ∃ al cl, w0.cell? ⟨gl, 0, none⟩ = some (.slice al n cl) ∧ n ≤ cl ∧ cl ≤ 9223372036854775807 ∧ Slots w0 al l
  tr : ∃ gT cT, w0.cell? ⟨gt, 0, none⟩ = some (.slice (some ⟨gT, 0, none⟩) (H + 1) cT) ∧ ∀ h, h ≤ H → ∃ gL, w0.cell? ⟨gT, h, none⟩ = some (.slice (some ⟨gL, 0, none⟩) (2 ^ (H - h)) (2 ^ (H - h))) ∧ ∀ p, (p + 1) * 2 ^ h ≤ n → ∃ u, w0.cell? ⟨gL, p, none⟩ = some u ∧ RowT w0 u (blockB m rows h p)
  ol : o.length = n
  ll : l.length = n
  rl : rows.length = n
  n64 : n = 2 ^ H
  h6 : H ≤ 6
  good : ∀ x ∈ l, x.s.length ≤ 80 ∧ x.d.length ≤ 400
/-- What it writes. -/
structure CvW (w0 W : World) (go gt gl : Nat) (accS : List Sl) (accR : List (List UInt8)) : Prop where
  below : Below w0.heap.size w0 W
  size : w0.heap.size + 2 ≤ W.heap.size
  fn : W.cell? ⟨w0.heap.size + 1, 0, none⟩ = some (cvF go w0.heap.size gt gl)
  cov : ∃ sv rv, CovB W w0.heap.size sv rv ∧ OwnSl W (w0.heap.size + 2) sv accS ∧ OwnL W (w0.heap.size + 2) rv accR
def partO (o : List Bool) (h p : Nat) : List Bool := (o.drop (p * 2 ^ h)).take (2 ^ h)
def partR (r : List (List UInt8)) (h p : Nat) : List (List UInt8) := (r.drop (p * 2 ^ h)).take (2 ^ h)
def partS (l : List Sl) (h p : Nat) : List Sl := (l.drop (p * 2 ^ h)).take (2 ^ h)
theorem half_one {α : Type} (l : List α) (h p : Nat) : ((l.drop (p * 2 ^ (h + 1))).take (2 ^ (h + 1))).take (2 ^ h) = (l.drop (2 * p * 2 ^ h)).take (2 ^ h) := by
  have e1 : 2 ^ (h + 1) = 2 * 2 ^ h := by rw [Nat.pow_succ, Nat.mul_comm]
  rw [List.take_take, e1, show min (2 ^ h) (2 * 2 ^ h) = 2 ^ h by omega, show p * (2 * 2 ^ h) = 2 * p * 2 ^ h by rw [← Nat.mul_assoc, Nat.mul_comm p 2]]
theorem half_two {α : Type} (l : List α) (h p : Nat) : ((l.drop (p * 2 ^ (h + 1))).take (2 ^ (h + 1))).drop (2 ^ h) = (l.drop ((2 * p + 1) * 2 ^ h)).take (2 ^ h) := by
  have e1 : 2 ^ (h + 1) = 2 * 2 ^ h := by rw [Nat.pow_succ, Nat.mul_comm]
  rw [List.drop_take, List.drop_drop, e1, show 2 * 2 ^ h - 2 ^ h = 2 ^ h by omega, show p * (2 * 2 ^ h) + 2 ^ h = (2 * p + 1) * 2 ^ h by rw [Nat.add_mul, Nat.one_mul, ← Nat.mul_assoc, Nat.mul_comm p 2]]
theorem cvS_keep {w0 W : World} {go gt gl : Nat} {m : Int} {n H : Nat} {l : List Sl} {rows : List (List UInt8)} {o : List Bool} (h : CvS w0 go gt gl m n H l rows o) (hb : Below w0.heap.size w0 W) : CvS W go gt gl m n H l rows o := by
  obtain ⟨⟨ao, co, a1, a2, a3, a4⟩, ⟨al, cl, b1, b2, b3, b4⟩, ⟨gT, cT, c1, c2⟩, h1, h2, h3, h4, h5, h6⟩ := h
  have kp : ∀ {q : Addr} {v : Value}, w0.cell? q = some v → W.cell? q = some v := fun hq => (hb.cell (World.block_lt_of_cell? w0 _ hq)).trans hq
  refine ⟨⟨ao, co, kp a1, a2, a3, a4.keep hb⟩, ⟨al, cl, kp b1, b2, b3, b4.keep hb⟩, ⟨gT, cT, kp c1, fun k hk => ?_⟩, h1, h2, h3, h4, h5, h6⟩
  obtain ⟨gL, d1, d2⟩ := c2 k hk
  refine ⟨gL, kp d1, fun p hp => ?_⟩
  obtain ⟨u, e1, e2⟩ := d2 p hp
  exact ⟨u, kp e1, e2.keep hb⟩
theorem CvW.step {w0 Wb W : World} {go gt gl : Nat} {accS accS' : List Sl} {accR accR' : List (List UInt8)} (h : CvW w0 Wb go gt gl accS accR) (hsz : Wb.heap.size ≤ W.heap.size) (hb : Below (w0.heap.size) Wb W) (hf : W.cell? ⟨w0.heap.size + 1, 0, none⟩ = some (cvF go w0.heap.size gt gl))
    (hc : ∃ sv rv, CovB W w0.heap.size sv rv ∧ OwnSl W (w0.heap.size + 2) sv accS' ∧ OwnL W (w0.heap.size + 2) rv accR') : CvW w0 W go gt gl accS' accR' :=
  ⟨h.below.trans hb, Nat.le_trans h.size hsz, hf, hc⟩
theorem CvW.keep {w0 Wb W : World} {go gt gl : Nat} {accS : List Sl} {accR : List (List UInt8)} (h : CvW w0 Wb go gt gl accS accR) (hb : Below Wb.heap.size Wb W) : CvW w0 W go gt gl accS accR := by
  obtain ⟨sv, rv, h1, h2, h3⟩ := h.cov
  have hs := h.size
  exact h.step hb.size (hb.mono (by omega)) ((hb.cell (p := ⟨w0.heap.size + 1, 0, none⟩) (show w0.heap.size + 1 < Wb.heap.size by omega)).trans h.fn) ⟨sv, rv, h1.keep hb, h2.keep hb, h3.keep hb⟩
theorem bits0 : ∀ (h p : Nat), h ≤ 6 → (p + 1) * 2 ^ h ≤ 64 → IntKind.i64.wrap ((p : Int) * 2 ^ h) = ((p * 2 ^ h : Nat) : Int) ∧ IntKind.i64.wrap (((p : Int) + 1) * 2 ^ h) = ((p * 2 ^ h + 2 ^ h : Nat) : Int) := by
  intro h p h6 hp
  have h0 : 0 < 2 ^ h := Nat.pow_pos (by decide)
  have e : (p + 1) * 2 ^ h = p * 2 ^ h + 2 ^ h := by rw [Nat.add_mul, Nat.one_mul]
  have e1 : ((p : Int) * 2 ^ h) = ((p * 2 ^ h : Nat) : Int) := by simp
  have e2 : (((p : Int) + 1) * 2 ^ h) = ((p * 2 ^ h + 2 ^ h : Nat) : Int) := by rw [← e]; simp
  rw [e1, e2, IntKind.wrap_i64, IntKind.wrap_i64]
  constructor <;> omega
def CvRF (g gT gL h p B nT cT nL : Nat) (rv : Value) (au : Option Addr) (nu ku : Nat) (accR : List (List UInt8)) (x : List UInt8) : Nat → Value → World → Prop
  | 0, v, _ => v = .pointer (some ⟨g, 1, none⟩)
  | 1, v, _ => v = rv
  | 2, v, _ => v = .slice (some ⟨gT, 0, none⟩) nT cT
  | 3, v, _ => v = .int .i64 (h : Int)
  | 4, v, _ => v = .pointer (some ⟨gT, h, none⟩)
  | 5, v, _ => v = .slice (some ⟨gL, 0, none⟩) nL nL
  | 6, v, _ => v = .int .i64 (p : Int)
  | 7, v, _ => v = .pointer (some ⟨gL, p, none⟩)
  | 8, v, _ => v = .slice au nu ku
  | 9, v, w => ∃ k, v = .slice (some ⟨k, 0, none⟩) 1 1 ∧ Blk w k 32 [.slice au nu ku] ∧ rv.ownBlock ≠ some k
  | 10, v, w => OwnL w B v (accR ++ [x])
  | 11, v, _ => v = .pointer (some ⟨g, 1, none⟩)
  | _, _, _ => True

set_option maxHeartbeats 4000000 in
theorem cover1_rest (w0 Wb : World) (go gt gl : Nat) (m : Int) (n H : Nat) (l : List Sl) (rows : List (List UInt8)) (o : List Bool) (hS : CvS w0 go gt gl m n H l rows o) (h p : Nat) (hH : h ≤ H) (hp : (p + 1) * 2 ^ h ≤ n) (accS : List Sl) (accR : List (List UInt8)) (hW : CvW w0 Wb go gt gl accS accR) (hlen : accR.length ≤ 1000000) (hc : (partO o h p).contains true = false) :
    Calls Tryd.prog 29 #[.int .i64 (h : Int), .int .i64 (p : Int), .pointer (some ⟨go, 0, none⟩), .pointer (some ⟨w0.heap.size, 0, none⟩), .pointer (some ⟨gt, 0, none⟩), .pointer (some ⟨gl, 0, none⟩), .pointer (some ⟨w0.heap.size + 1, 0, none⟩)] Wb fun e W => e = .returned (.tuple #[]) ∧ CvW w0 W go gt gl accS (accR ++ [blockB m rows h p]) := by
  obtain ⟨⟨ao, co, a1, a2, a3, a4⟩, -, ⟨gT, cT, c1, c2⟩, k1, k2, k3, k4, k5, -⟩ := id hS
  have h6 : h ≤ 6 := by omega
  have e6 : 2 ^ 6 = 64 := by decide
  have h64 : 2 ^ H ≤ 2 ^ 6 := Nat.pow_le_pow_right (by decide) k5
  obtain ⟨w1, w2⟩ := bits0 h p h6 (by omega)
  obtain ⟨gL, d1, d2⟩ := c2 h hH
  obtain ⟨u, u1, u2⟩ := d2 p hp
  obtain ⟨au, ku, rfl, -⟩ := id u2
  have eP : (p + 1) * 2 ^ h = p * 2 ^ h + 2 ^ h := by rw [Nat.add_mul, Nat.one_mul]
  have hk0 : 0 < 2 ^ h := Nat.pow_pos (by decide)
  have hpn : p < 2 ^ (H - h) := by
    have hm : 2 ^ H = 2 ^ (H - h) * 2 ^ h := by rw [← Nat.pow_add]; congr 1; omega
    have h1 : (p + 1) * 2 ^ h ≤ 2 ^ (H - h) * 2 ^ h := by rw [← hm]; omega
    have := Nat.le_of_mul_le_mul_right h1 hk0
    omega
  have cC := fun W (hW : Below w0.heap.size w0 W) => containsO_any (partO o h p) (pieceO ao (p * 2 ^ h) co) (co - p * 2 ^ h) W (by unfold partO; rw [List.length_take]; omega) (((a4.keep hW).drop _ _ (by omega)).take _)
  rw [show (partO o h p).length = 2 ^ h by unfold partO; rw [List.length_take, List.length_drop]; omega, hc] at cC
  have sl := fun W => sliceO_mid ao n co (p * 2 ^ h) (p * 2 ^ h + 2 ^ h) _ _ rfl rfl (by omega) (by omega) W
  rw [show p * 2 ^ h + 2 ^ h - p * 2 ^ h = 2 ^ h by omega] at sl
  obtain ⟨sv, rv, hCv, hSl, hRl⟩ := hW.cov
  have hB2 := hW.size
  have hbW := hW.below
  have kq : ∀ {q : Addr} {v : Value}, w0.cell? q = some v → ∀ W, Below w0.heap.size w0 W → W.cell? q = some v := fun hq W hW => (hW.cell (World.block_lt_of_cell? w0 _ hq)).trans hq
  have A1 := kq a1
  have HX := Lib.hid (fun W (hW : Below w0.heap.size w0 W) => u2.keep hW)
  have HF := Lib.hid hW.fn
  have HW := Lib.hid hW
  have hnI : (n : Int) ≤ 64 := by omega
  have hpI : (p : Int) < ((2 ^ (H - h) : Nat) : Int) := by omega
  have hhI : (h : Int) < ((H + 1 : Nat) : Int) := by omega
  have hhI2 : (h : Int) ≤ 64 := by omega
  have hpI2 : (p : Int) ≤ 64 := by
    have : p * 1 ≤ p * 2 ^ h := Nat.mul_le_mul_left p hk0
    omega
  have hkI : ((p * 2 ^ h : Nat) : Int) ≤ 64 := by omega
  have Q : ∀ W, Below (w0.heap.size + 2) Wb W → W.cell? ⟨w0.heap.size, 1, none⟩ = some rv ∧ W.cell? ⟨gt, 0, none⟩ = some (.slice (some ⟨gT, 0, none⟩) (H + 1) cT) ∧ W.cell? ⟨gT, h, none⟩ = some (.slice (some ⟨gL, 0, none⟩) (2 ^ (H - h)) (2 ^ (H - h))) ∧ W.cell? ⟨gL, p, none⟩ = some (.slice au (blockB m rows h p).length ku) := fun W hq => by
    have hb := hbW.trans (hq.mono (Nat.le_add_right _ _))
    exact ⟨(hq.cell (p := ⟨w0.heap.size, 1, none⟩) (show w0.heap.size < w0.heap.size + 2 by omega)).trans (Blk.cell hCv rfl), kq c1 W hb, kq d1 W hb, kq u1 W hb⟩
  generalize blockB m rows h p = x at *
  generalize x.length = nu at *
  generalize 2 ^ (H - h) = nL at *
  generalize hnT : H + 1 = nT at *
  generalize p * 2 ^ h = A at *
  generalize A + 2 ^ h = A2 at *
  generalize 2 ^ h = k at *
  generalize pieceO ao A co = ao2 at *
  generalize co - A = co2 at *
  have hp1 : IntKind.i64.wrap ((p : Int) + 1) = (p : Int) + 1 := by rw [IntKind.wrap_i64]; omega
  clear hS a1 a2 a3 a4 c1 c2 k1 k2 k3 k4 k5 h6 e6 h64 d1 d2 u1 u2 eP hk0 hpn hc hp hH kq hnT hW
  have HE : Hid (∀ W, Wb.heap.size ≤ W.heap.size → Below w0.heap.size Wb W → W.cell? ⟨w0.heap.size + 1, 0, none⟩ = some (cvF go w0.heap.size gt gl) → ∀ sv' rv', CovB W w0.heap.size sv' rv' → OwnSl W (w0.heap.size + 2) sv' accS → OwnL W (w0.heap.size + 2) rv' (accR ++ [x]) → CvW w0 W go gt gl accS (accR ++ [x])) := fun W q1 q2 q3 sv' rv' q4 q5 q6 => HW.out.step q1 q2 q3 ⟨sv', rv', q4, q5, q6⟩
  generalize hg : w0.heap.size = g at *
  clear hg HW
  go_enter Tryd.func29, Tryd.ntmps29
  go_upto_region 0 with fail
  refine wp_region_det 9 (by kernel_rfl) (by kernel_rfl) (by kernel_rfl) ?_
  simp only [List.take_succ_cons, List.take_zero, List.drop_succ_cons, List.drop_zero]
  apply wpDet_plain _ rfl; (focus (intro W hq; have q1 := A1 W (hbW.trans (hq.mono (by omega))); go_simp; exact ⟨rfl, Below.refl _ _⟩)); simp only [Act.put, List.setIfInBounds_toArray, List.set_cons_zero, List.set_cons_succ]
  iterate 7 (apply wpDet_plain _ rfl; (focus (intro W hq; go_simp; exact ⟨rfl, Below.refl _ _⟩)); simp only [Act.put, List.setIfInBounds_toArray, List.set_cons_zero, List.set_cons_succ])
  apply wpDet_plain _ rfl; (focus (intro W hq; have q1 := sl W; go_simp; exact ⟨rfl, Below.refl _ _⟩)); simp only [Act.put, List.setIfInBounds_toArray, List.set_cons_zero, List.set_cons_succ]
  refine wpDet_nil ?_; intro W0 hq0
  have hbg0 : Below g w0 W0 := hbW.trans (hq0.mono (by omega))
  have c0 := cC W0 hbg0
  clear cC sl A1 w1 w2 hp1
  go_wp2_with fail
  refine c0.mono ?_
  rintro e W1 ⟨rfl, rfl⟩
  clear c0
  have Q : ∀ W, Below (g + 2) W0 W → _ := fun W hq => Q W ((hq0.mono hB2).trans hq)
  have hSl := hSl.keep hq0
  have hRl := hRl.keep hq0
  have hCv := hCv.keep hq0
  have hB2' := Nat.le_trans hB2 hq0.size
  have HF0 : Hid (W0.cell? ⟨g + 1, 0, none⟩ = some (cvF go g gt gl)) := (hq0.cell (p := ⟨g + 1, 0, none⟩) (show g + 1 < Wb.heap.size by omega)).trans HF.out
  have hEb : Hid (Below g Wb W0 ∧ Wb.heap.size ≤ W0.heap.size) := ⟨hq0.mono (by omega), hq0.size⟩
  have hbW := hbg0
  clear hq0 hB2 HF hbg0
  go_upto_region 4 with fail
  refine wp_region_chain 12 [9, 10] (by kernel_rfl) (by kernel_rfl) (by kernel_rfl) (CvRF g gT gL h p (g + 2) nT cT nL rv au nu ku accR x) (fun s W => W0.heap.size ≤ W.heap.size ∧ Below (g + 2) W0 W ∧ OwnSl W (g + 2) sv accS ∧ (s < 2 → OwnL W (g + 2) rv accR)) (fun s w w' => if s = 0 then Below w.heap.size w w' else w.grownBy w' rv.ownBlock) ?hF ?h0 ?hstep ?hcall ?hdone
  case hF =>
    intro s i hs j v W W' hjn hne hpb h he
    rcases (show j = 0 ∨ j = 1 ∨ j = 2 ∨ j = 3 ∨ j = 4 ∨ j = 5 ∨ j = 6 ∨ j = 7 ∨ j = 8 ∨ j = 9 ∨ j = 10 ∨ j = 11 by omega) with rfl | rfl | rfl | rfl | rfl | rfl | rfl | rfl | rfl | rfl | rfl | rfl
    · exact h
    · exact h
    · exact h
    · exact h
    · exact h
    · exact h
    · exact h
    · exact h
    · exact h
    · rcases s with _ | _ | s
      · obtain rfl : 9 = i := by simpa using hs
        exact absurd rfl hne
      · obtain rfl : 10 = i := by simpa using hs
        obtain ⟨k, h1, h2, h3⟩ := h
        exact ⟨k, h1, h2.same (World.grownBy.block he k h2.lt (fun hh => h3 hh.symm)), h3⟩
      · simp at hs
    · rcases s with _ | _ | s
      · exact OwnL.keep h he
      · obtain rfl : 10 = i := by simpa using hs
        exact absurd rfl hne
      · simp at hs
    · exact h
  case h0 => exact ⟨Nat.le_refl _, Below.drew (Below.refl _ _), hSl.keep (Below.drew (Below.refl _ _)), fun _ => hRl.keep (Below.drew (Below.refl _ _))⟩
  case hstep =>
    intro j hj hni s vs act W K ha' hst hd hu hK
    simp only [fillF, Act.put, List.take_succ_cons, List.take_zero, List.setIfInBounds_toArray, List.set_cons_zero, List.set_cons_succ] at ha'
    subst ha'
    clear hu
    have q1 := (Q W hst.2.1).1
    have q2 := (Q W hst.2.1).2.1
    have q3 := (Q W hst.2.1).2.2.1
    have q4 := (Q W hst.2.1).2.2.2
    rcases (show j = 0 ∨ j = 1 ∨ j = 2 ∨ j = 3 ∨ j = 4 ∨ j = 5 ∨ j = 6 ∨ j = 7 ∨ j = 8 ∨ j = 9 ∨ j = 10 ∨ j = 11 by omega) with rfl | rfl | rfl | rfl | rfl | rfl | rfl | rfl | rfl | rfl | rfl | rfl
    · refine wpOp_step rfl (fun K' hK' => ?_)
      go_simp
      exact hK' _ _ (hK _ rfl)
    · have e0 : vs 0 = .pointer (some ⟨g, 1, none⟩) := hd 0 (by kernel_rfl)
      simp only [e0] at hK ⊢
      refine wpOp_step rfl (fun K' hK' => ?_)
      go_simp
      exact hK' _ _ (hK _ rfl)
    · refine wpOp_step rfl (fun K' hK' => ?_)
      go_simp
      exact hK' _ _ (hK _ rfl)
    · refine wpOp_step rfl (fun K' hK' => ?_)
      go_simp
      exact hK' _ _ (hK _ rfl)
    · have e2 : vs 2 = .slice (some ⟨gT, 0, none⟩) nT cT := hd 2 (by kernel_rfl)
      have e3 : vs 3 = .int .i64 (h : Int) := hd 3 (by kernel_rfl)
      simp only [e2, e3] at hK ⊢
      refine wpOp_step rfl (fun K' hK' => ?_)
      go_simp
      exact hK' _ _ (hK _ rfl)
    · have e4 : vs 4 = .pointer (some ⟨gT, h, none⟩) := hd 4 (by kernel_rfl)
      simp only [e4] at hK ⊢
      refine wpOp_step rfl (fun K' hK' => ?_)
      go_simp
      exact hK' _ _ (hK _ rfl)
    · refine wpOp_step rfl (fun K' hK' => ?_)
      go_simp
      exact hK' _ _ (hK _ rfl)
    · have e5 : vs 5 = .slice (some ⟨gL, 0, none⟩) nL nL := hd 5 (by kernel_rfl)
      have e6 : vs 6 = .int .i64 (p : Int) := hd 6 (by kernel_rfl)
      simp only [e5, e6] at hK ⊢
      refine wpOp_step rfl (fun K' hK' => ?_)
      go_simp
      exact hK' _ _ (hK _ rfl)
    · have e7 : vs 7 = .pointer (some ⟨gL, p, none⟩) := hd 7 (by kernel_rfl)
      simp only [e7] at hK ⊢
      refine wpOp_step rfl (fun K' hK' => ?_)
      go_simp
      exact hK' _ _ (hK _ rfl)
    · exact (hni (by decide)).elim
    · exact (hni (by decide)).elim
    · refine wpOp_step rfl (fun K' hK' => ?_)
      go_simp
      exact hK' _ _ (hK _ rfl)
  case hcall =>
    intro s j hs vs act W K ha' hst hd hK
    simp only [fillF, Act.put, List.take_succ_cons, List.take_zero, List.setIfInBounds_toArray, List.set_cons_zero, List.set_cons_succ] at ha'
    subst ha'
    rcases s with _ | _ | s
    · obtain rfl : 9 = j := by simpa using hs
      have e8 : vs 8 = .slice au nu ku := hd 8 (by kernel_rfl)
      simp only [e8] at hK ⊢
      refine wpOp_step rfl (fun K' hK' => ?_)
      go_simp
      have hown : rv.ownBlock ≠ some W.heap.size := fun hh => by have := (hst.2.2.2 (by decide)).typed _ hh; omega
      have hba : Below W.heap.size W (W.alloc (.cells #[.slice au nu ku] 32)) := (Below.refl _ _).alloc (Nat.le_refl _) _
      exact hK' _ _ (hK _ _ ⟨_, rfl, Blk.new W _ _, hown⟩ hba ⟨Nat.le_trans hst.1 hba.size, hst.2.1.alloc (Nat.le_trans hB2' hst.1) _, hst.2.2.1.keep hba, fun _ => (hst.2.2.2 (by decide)).keep hba⟩)
    · obtain rfl : 10 = j := by simpa using hs
      have e1 : vs 1 = rv := hd 1 (by kernel_rfl)
      obtain ⟨k9, e9, y9, z9⟩ := hd 9 (by kernel_rfl)
      simp only [e1, e9] at hK ⊢
      refine wpOp_step rfl (fun K' hK' => ?_)
      rw [if_pos (by simp [Region.wanted])]
      have hrw := HX.out W (hbW.trans (hst.2.1.mono (Nat.le_add_right _ _)))
      refine wp_append_row (.tmp 37) (.tmp 45) rfl (g + 2) rv accR rfl (hst.2.2.2 (by decide)) (.slice au nu ku) x k9 rfl (y9.cell rfl) hrw hlen (Nat.le_trans hB2' hst.1) ?_
      intro v' w' ho hg
      have hty := fun b (hb : rv.ownBlock = some b) => (hst.2.2.2 (by decide)).typed b hb
      exact hK' _ _ (hK v' w' ho hg ⟨Nat.le_trans hst.1 hg.size, hst.2.1.grown hg (Nat.le_trans hB2' hst.1) (fun b hb => (hty b hb).2.1), hst.2.2.1.beside hg (fun b hb => by obtain ⟨⟨cur, fz, q⟩, -⟩ := hty b hb; exact ⟨cur, _, fz, q, by decide, by decide⟩), fun hh => absurd hh (by decide)⟩)
    · simp at hs
  case hdone =>
    intro vs act W ha' hst hf
    simp only [fillF, Act.put, List.take_succ_cons, List.take_zero, List.drop_succ_cons, List.drop_zero, List.setIfInBounds_toArray, List.set_cons_zero, List.set_cons_succ] at ha' ⊢
    subst ha'
    have f11 : vs 11 = .pointer (some ⟨g, 1, none⟩) := hf 11 (by decide)
    have f10 : OwnL W (g + 2) (vs 10) (accR ++ [x]) := hf 10 (by decide)
    simp only [Nat.zero_add, Nat.reduceAdd, f11]
    obtain ⟨q1, q2, q3, -⟩ := hst
    obtain ⟨av, cv, ev, -⟩ := f10.lines
    generalize vs 10 = v10 at *
    subst ev
    have hCW : CovB W g sv rv := (q2.block g (by omega)).trans hCv
    have hfr := Blk.free hCW 1
    have hc1 := Blk.cell hCW (j := 1) rfl
    have hfn : W.cell? ⟨g + 1, 0, none⟩ = some (cvF go g gt gl) := (q2.cell (p := ⟨g + 1, 0, none⟩) (show g + 1 < g + 2 by omega)).trans HF0.out
    have hend : Hid (CvW w0 (W.setCell ⟨g, 1, none⟩ (.slice av (accR ++ [x]).length cv)) go gt gl accS (accR ++ [x])) := by
      have hm := mv_cell W g 1 (.slice av (accR ++ [x]).length cv)
      have htg : ∀ b, some g = some b → ∃ cur T fz, W.heap[b]? = some (.cells cur T fz) ∧ T ≠ 5 ∧ T ≠ 44 := fun b hb => by cases hb; exact ⟨_, _, _, hCW, by decide, by decide⟩
      have htg2 : ∀ b, some g = some b → ∃ cur T fz, W.heap[b]? = some (.cells cur T fz) ∧ ¬ ByteT T ∧ T ≠ 32 := fun b hb => by cases hb; exact ⟨_, _, _, hCW, by unfold ByteT; decide, by decide⟩
      exact HE.out _ (Nat.le_trans hEb.out.2 (Nat.le_trans q1 hm.size)) (hEb.out.1.trans ((q2.mono (by omega)).grown hm (by omega) (fun b hb => by cases hb; exact Nat.le_refl _))) (hm.cell hfn (by simp)) _ _ (hCW.setR _) (q3.beside hm htg) (f10.beside hm htg2)
    clear hf f10 q1 q2 q3 hCW hfn Q hSl hRl hCv hbW hEb HF0 HE HX hB2'
    generalize (accR ++ [x]).length = lx at *
    go_wp2_with fail
    first | go_ret | go_end0
    exact ⟨rfl, hend.out⟩
end Go.Proofs.YtcplnfaopigoiaaDoor
