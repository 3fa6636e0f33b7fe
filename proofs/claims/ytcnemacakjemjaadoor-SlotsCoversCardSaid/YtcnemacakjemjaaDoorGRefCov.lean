/-
  MERGED: RefCopy, RefCovA, RefCovB, RefCovC, RefCovD.
  CONDITIONS: each theorem's own hypotheses.
-/
import Derived.Test.YtcnemacakjemjaaDoorCovH
import Derived.Test.YtcnemacakjemjaaDoorSlotK
import Derived.Test.YtcnemacakjemjaaDoorCovF
import Derived.Test.YtcnemacakjemjaaDoorGCovL
import Derived.Test.YtcnemacakjemjaaDoorRegI
import Derived.Test.YtcnemacakjemjaaDoorRegG
import Derived.Test.YtcnemacakjemjaaDoorAppS
import Derived.Test.YtcnemacakjemjaaDoorLawCovA

/-! CONTRACT of the reference's slotCopy. CONDITIONS: each theorem's own hypotheses. -/
namespace Go.Proofs.YtcnemacakjemjaaDoor
open Go.RowKit CodeMath Go.Proofs.YtcnemacakjemjaaDoor.FrameMath
set_option linter.unusedVariables false
set_option maxRecDepth 100000

set_option maxHeartbeats 2000000 in
theorem slotCopy_any (f : Bool) (us ud : Value) (s d : List UInt8) (w : World) (hs : RowV w us s) (hd : RowV w ud d) (ls : s.length ≤ 140737488351232) (ld : d.length ≤ 140737488351232) :
    Calls Tryd.prog 26 #[.agg #[.bool f, us, ud]] w fun e w' => ∃ a b, e = .returned (.agg #[.bool f, a, b]) ∧ RowU w' a s ∧ RowU w' b d ∧ Below w.heap.size w w' := by
  obtain ⟨w2, hw2⟩ : ∃ w2, (w.alloc (.cells #[.bool f, us, ud] 39)).alloc (.cells #[.bool false, .slice none 0 0, .slice none 0 0] 39) = w2 := ⟨_, rfl⟩
  have hb1 : Below w.heap.size w (w.alloc (.cells #[.bool f, us, ud] 39)) := (Below.refl _ _).alloc (Nat.le_refl _) _
  have hb2 : Below w.heap.size w w2 := by rw [← hw2]; exact hb1.alloc hb1.size _
  have z1 : Blk w2 w.heap.size 39 [.bool f, us, ud] := by rw [← hw2]; exact (Blk.new w #[.bool f, us, ud] 39).alloc _
  have z2 : Blk w2 (w.heap.size + 1) 39 [.bool false, .slice none 0 0, .slice none 0 0] := by rw [← hw2]; exact Blk.atNew _ _ (by simp)
  obtain ⟨a1, k1, hus, -, -, -, sb⟩ := hs.keep hb2
  obtain ⟨a2, k2, hud, -, -, -, db⟩ := hd.keep hb2
  obtain ⟨g1, cap1, W3, v1, ra0, hb3⟩ := bytesOf_U s w2 (by omega)
  obtain ⟨g2, cap2, W, v2, rb, hb4⟩ := bytesOf_U d W3 (by omega)
  have f1 := bytes_string (cap := k1) sb
  have f2 := bytes_string (cap := k2) (db.keep hb3)
  have hc := below_step hb3 hb3.size hb4
  have ra := ra0.keep hb4
  have q0 := z1.cell (j := 0) rfl
  have q1 := z1.cell (j := 1) rfl
  have q2 := (z1.call hb3).cell (j := 2) rfl
  have Z2 := Lib.hid z2
  have HB2 := Lib.hid hb2
  have HC3 := Lib.hid hc
  have HRA := Lib.hid ra
  have HRB := Lib.hid rb
  subst hus hud
  clear hs hd ls ld sb db hb1 hb2 hb3 hb4 z1 z2 ra0 ra rb hc
  have e1 : (⟨s.toArray⟩ : ByteArray) = str s := rfl
  have e2 : (⟨d.toArray⟩ : ByteArray) = str d := rfl
  rw [e1] at f1
  rw [e2] at f2
  clear e1 e2
  generalize str s = SS at *
  generalize str d = DD at *
  obtain ⟨sl, hsl⟩ : ∃ k, s.length = k := ⟨_, rfl⟩
  obtain ⟨dl, hdl⟩ : ∃ k, d.length = k := ⟨_, rfl⟩
  have HSL := Lib.hid hsl
  have HDL := Lib.hid hdl
  rw [hsl] at f1 v1 q1 hw2 ⊢
  rw [hdl] at f2 v2 q2 hw2 ⊢
  clear hsl hdl
  go_enter Tryd.func26, Tryd.ntmps26
  go_upto_region 1 with fail
  try rw [hw2]
  clear hw2
  have z2W := Z2.out.call HC3.out
  have c0 := z2W.cell (j := 0) rfl
  have c1 := z2W.cell (j := 1) rfl
  have c2 := z2W.cell (j := 2) rfl
  have y0 := z2W.free 0
  have y1 := z2W.free 1
  have y2 := z2W.free 2
  have z3 : Blk (((W.setCell ⟨w.heap.size + 1, 0, none⟩ (.bool f)).setCell ⟨w.heap.size + 1, 1, none⟩ (.slice (some g1) sl cap1)).setCell ⟨w.heap.size + 1, 2, none⟩ (.slice (some g2) dl cap2)) (w.heap.size + 1) 39 [.bool f, .slice (some g1) sl cap1, .slice (some g2) dl cap2] := ((z2W.set 0 _).set 1 _).set 2 _
  have hE : Hid (RowU (((W.setCell ⟨w.heap.size + 1, 0, none⟩ (.bool f)).setCell ⟨w.heap.size + 1, 1, none⟩ (.slice (some g1) sl cap1)).setCell ⟨w.heap.size + 1, 2, none⟩ (.slice (some g2) dl cap2)) (.slice (some g1) sl cap1) s ∧ RowU (((W.setCell ⟨w.heap.size + 1, 0, none⟩ (.bool f)).setCell ⟨w.heap.size + 1, 1, none⟩ (.slice (some g1) sl cap1)).setCell ⟨w.heap.size + 1, 2, none⟩ (.slice (some g2) dl cap2)) (.slice (some g2) dl cap2) d ∧ Below w.heap.size w (((W.setCell ⟨w.heap.size + 1, 0, none⟩ (.bool f)).setCell ⟨w.heap.size + 1, 1, none⟩ (.slice (some g1) sl cap1)).setCell ⟨w.heap.size + 1, 2, none⟩ (.slice (some g2) dl cap2))) := by
    have hbW := below_step HB2.out HB2.out.size HC3.out
    have hty : ∀ b, some (w.heap.size + 1) = some b → ∃ cur T fz, W.heap[b]? = some (.cells cur T fz) ∧ T ≠ 5 := fun b hb => by cases hb; exact ⟨_, _, _, z2W, by decide⟩
    have hg : W.grownBy (((W.setCell ⟨w.heap.size + 1, 0, none⟩ (.bool f)).setCell ⟨w.heap.size + 1, 1, none⟩ (.slice (some g1) sl cap1)).setCell ⟨w.heap.size + 1, 2, none⟩ (.slice (some g2) dl cap2)) (some (w.heap.size + 1)) := grown_trans (grown_trans (mv_cell _ _ _ _) (mv_cell _ _ _ _)) (mv_cell _ _ _ _)
    have hra := HRA.out
    have hrb := HRB.out
    rw [HSL.out] at hra
    rw [HDL.out] at hrb
    exact ⟨hra.grown hg hty, hrb.grown hg hty, hbW.grown hg hbW.size (fun k h => by cases h; exact Nat.le_succ _)⟩
  clear z2W Z2 HB2 HC3 HRA HRB
  go_wp2_with fail
  refine bodyPost_ret (results_arr rfl _ _ (w.heap.size + 1) [.bool f, .slice (some g1) sl cap1, .slice (some g2) dl cap2] rfl z3 rfl rfl (by kernel_rfl)) rfl ⟨_, _, rfl, hE.out⟩
end Go.Proofs.YtcnemacakjemjaaDoor

/-! CONTRACT of the reference's covered, where nothing is open. CONDITIONS: each theorem's own hypotheses. -/
namespace Go.Proofs.YtcnemacakjemjaaDoor
open Go.RowKit CodeMath Go.Proofs.YtcnemacakjemjaaDoor.FrameMath
set_option linter.unusedVariables false
set_option maxRecDepth 100000

/-- What covered leaves. -/
def CvdPost (m : Int) (h : Nat) (l : List Sl) (rows : List (List UInt8)) (o : List Bool) (w : World) (e : Ending) (w' : World) : Prop := ∃ sv rv, e = .returned (.agg #[sv, rv]) ∧ OwnSl w' w.heap.size sv (selO l o) ∧ OwnL w' w.heap.size rv (covR m h rows o) ∧ Below w.heap.size w w'
set_option maxHeartbeats 2000000 in
theorem covd_none (m : Int) (hm : isMode m = true) (m0 : -9223372036854775808 ≤ m) (m1 : m ≤ 9223372036854775807) (h : Nat) (h6 : h ≤ 6) (l : List Sl) (rows : List (List UInt8)) (o : List Bool) (al : Option Addr) (cl : Nat) (ao : Option Addr) (co : Nat) (w : World) (hl : l.length = 2 ^ h) (hr : leavesR m l = .ok rows) (hc : l.length ≤ cl) (hq : cl ≤ 9223372036854775807) (hS : Slots w al l) (hco : o.length ≤ co) (hqo : co ≤ 9223372036854775807) (hO : Bools w ao o) (hno : o.contains true = false) :
    Calls Tryd.prog 12 #[.int .i64 m, .slice al l.length cl, .slice ao o.length co] w (CvdPost m h l rows o w) := by
  obtain ⟨w2, hw2⟩ : ∃ w2, w.alloc (.cells #[.slice none 0 0, .slice none 0 0] 26) = w2 := ⟨_, rfl⟩
  have hb2 : Below w.heap.size w w2 := by rw [← hw2]; exact (Below.refl _ _).alloc (Nat.le_refl _) _
  have z2 : Blk w2 w.heap.size 26 [.slice none 0 0, .slice none 0 0] := by rw [← hw2]; exact Blk.new w #[.slice none 0 0, .slice none 0 0] _
  have cC := count_any o ao co w2 (by omega) (hO.keep hb2)
  rw [count_none hno] at cC
  have cR := rootOf_any m hm m0 m1 h h6 l rows al cl w2 hl hr hc hq (hS.keep hb2)
  unfold CvdPost
  rw [selO_none l o hno, covR_none m h rows o hno]
  generalize rootB m h rows = RB at *
  generalize l.length = n at *
  generalize o.length = k at *
  have HB2 := Lib.hid hb2
  have Z2 := Lib.hid z2
  clear hl hr hc hq hS hco hqo hO hno hb2 z2
  go_enter Tryd.func12, Tryd.ntmps12
  go_upto_region 1 with fail
  try rw [hw2]
  clear hw2
  go_wp2_with fail
  refine cC.mono ?_
  rintro e w3 ⟨rfl, rfl⟩
  clear cC
  go_wp2_with fail
  refine cR.mono ?_
  rintro e w3 ⟨v, rfl, hrow, hb3⟩
  clear cR
  obtain ⟨a3, k3, rfl, -⟩ := id hrow
  obtain ⟨w4, hw4⟩ : ∃ w4, w3.alloc (.cells #[.slice a3 RB.length k3] 37) = w4 := ⟨_, rfl⟩
  have hb4 : Below w3.heap.size w3 w4 := by rw [← hw4]; exact (Below.refl _ _).alloc (Nat.le_refl _) _
  have hb24 := below_step hb3 hb3.size hb4
  have z4 := Z2.out.call hb24
  have c0 := z4.cell (j := 0) rfl
  have c1 := z4.cell (j := 1) rfl
  have y0 := z4.free 0
  have y1 := z4.free 1
  have hszz : w.heap.size < w2.heap.size := Z2.out.lt
  have hown : OwnL w4 w.heap.size (.slice (some ⟨w3.heap.size, 0, none⟩) 1 1) [RB] := by
    rw [← hw4]
    refine ⟨[.slice a3 RB.length k3], World.ownsRow_lit w3 #[.slice a3 RB.length k3] 1 (Nat.le_trans HB2.out.size hb3.size) (by unfold maxLen; omega) rfl, fun i r hi => ?_⟩
    match i, hi with
    | 0, hi => simp at hi; subst hi; exact ⟨_, rfl, hrow.keep ((Below.refl _ _).alloc (Nat.le_refl _) _)⟩
  have hb04 := below_step HB2.out HB2.out.size hb24
  have hE : Hid (OwnL ((w4.setCell ⟨w.heap.size, 0, none⟩ (.slice none 0 0)).setCell ⟨w.heap.size, 1, none⟩ (.slice (some ⟨w3.heap.size, 0, none⟩) 1 1)) w.heap.size (.slice (some ⟨w3.heap.size, 0, none⟩) 1 1) [RB] ∧ Below w.heap.size w ((w4.setCell ⟨w.heap.size, 0, none⟩ (.slice none 0 0)).setCell ⟨w.heap.size, 1, none⟩ (.slice (some ⟨w3.heap.size, 0, none⟩) 1 1))) := by
    have hg : w4.grownBy ((w4.setCell ⟨w.heap.size, 0, none⟩ (.slice none 0 0)).setCell ⟨w.heap.size, 1, none⟩ (.slice (some ⟨w3.heap.size, 0, none⟩) 1 1)) (some w.heap.size) := grown_trans (mv_cell _ _ _ _) (mv_cell _ _ _ _)
    exact ⟨hown.beside hg (fun b hb => by cases hb; exact ⟨_, _, _, z4, by unfold ByteT; decide, by decide⟩), hb04.grown hg hb04.size (fun k h => by cases h; exact Nat.le_refl _)⟩
  have z5 : Blk ((w4.setCell ⟨w.heap.size, 0, none⟩ (.slice none 0 0)).setCell ⟨w.heap.size, 1, none⟩ (.slice (some ⟨w3.heap.size, 0, none⟩) 1 1)) w.heap.size 26 [.slice none 0 0, .slice (some ⟨w3.heap.size, 0, none⟩) 1 1] := (z4.set 0 _).set 1 _
  clear Z2 HB2 hb3 hb4 hb24 z4 hown hb04 hrow
  generalize RB.length = rb at *
  go_wp2_with fail
  try rw [hw4]
  refine bodyPost_ret (results_arr rfl _ _ w.heap.size [.slice none 0 0, .slice (some ⟨w3.heap.size, 0, none⟩) 1 1] rfl z5 rfl rfl (by kernel_rfl)) rfl ⟨_, _, rfl, OwnSl.nil _ _, hE.out.1, hE.out.2⟩
end Go.Proofs.YtcnemacakjemjaaDoor

/-! CONTRACT of the reference's covered, at one slot that is open. CONDITIONS: each theorem's own hypotheses. -/
namespace Go.Proofs.YtcnemacakjemjaaDoor
open Go.RowKit CodeMath Go.Proofs.YtcnemacakjemjaaDoor.FrameMath
set_option linter.unusedVariables false
set_option maxRecDepth 100000

theorem leaf_few {m : Int} {f : Bool} {s d b : List UInt8} (h : leafR m f s d = .ok b) : s.length ≤ 80 ∧ d.length ≤ 400 := by
  unfold leafR at h
  split at h
  · cases h
  · split at h
    · cases h
    · split at h
      · cases h
      · omega
theorem leaves_few (m : Int) : ∀ (l : List Sl) (rows : List (List UInt8)), leavesR m l = .ok rows → ∀ x ∈ l, x.s.length ≤ 80 ∧ x.d.length ≤ 400
  | [], rows, h, x, hx => by cases hx
  | y :: l, rows, h, x, hx => by
    cases hy : leafR m y.f y.s y.d with
    | err e => simp [leavesR, hy] at h
    | ok b0 =>
      simp only [leavesR, hy] at h
      cases hr : leavesR m l with
      | err e => rw [hr] at h; cases h
      | ok r0 =>
        rcases List.mem_cons.1 hx with rfl | hx
        · exact leaf_few hy
        · exact leaves_few m l r0 hr x hx
set_option maxHeartbeats 2000000 in
theorem covd_leaf (m : Int) (m0 : -9223372036854775808 ≤ m) (m1 : m ≤ 9223372036854775807) (x : Sl) (rows : List (List UInt8)) (al : Option Addr) (cl : Nat) (ao : Option Addr) (co : Nat) (w : World) (hr : leavesR m [x] = .ok rows) (hc : 1 ≤ cl) (hq : cl ≤ 9223372036854775807) (hS : Slots w al [x]) (hco : 1 ≤ co) (hqo : co ≤ 9223372036854775807) (hO : Bools w ao [true]) :
    Calls Tryd.prog 12 #[.int .i64 m, .slice al 1 cl, .slice ao 1 co] w (CvdPost m 0 [x] rows [true] w) := by
  obtain ⟨w2, hw2⟩ : ∃ w2, w.alloc (.cells #[.slice none 0 0, .slice none 0 0] 26) = w2 := ⟨_, rfl⟩
  have hb2 : Below w.heap.size w w2 := by rw [← hw2]; exact (Below.refl _ _).alloc (Nat.le_refl _) _
  have z2 : Blk w2 w.heap.size 26 [.slice none 0 0, .slice none 0 0] := by rw [← hw2]; exact Blk.new w #[.slice none 0 0, .slice none 0 0] _
  have cC := count_any [true] ao co w2 (by decide) (hO.keep hb2)
  rw [show ([true] : List Bool).count true = 1 from rfl, show [true].length = 1 from rfl] at cC
  obtain ⟨l1, l2⟩ := leaves_few m [x] rows hr x (by simp)
  rcases hS with h0 | ⟨g, p, rfl, hg, hat⟩
  · cases h0
  obtain ⟨ua, ub, s0, s1, s2, s3, s4⟩ := hat 0 x rfl
  have t0 := (hb2.cell (p := ⟨g, p + 0 * 3, none⟩) hg).trans s0
  have t1 := (hb2.cell (p := ⟨g, p + 0 * 3 + 1, none⟩) hg).trans s1
  have t2 := (hb2.cell (p := ⟨g, p + 0 * 3 + 2, none⟩) hg).trans s2
  rw [Nat.zero_mul, Nat.add_zero] at t0 t1 t2
  have cY := slotCopy_any x.f ua ub x.s x.d w2 (s3.keep hb2) (s4.keep hb2) (by omega) (by omega)
  obtain ⟨a1, k1, rfl, -⟩ := id s3
  obtain ⟨a2, k2, rfl, -⟩ := id s4
  unfold CvdPost
  have e1 : selO [x] [true] = [x] := rfl
  have e2 : covR m 0 rows [true] = [] := rfl
  rw [e1, e2]
  have HB2 := Lib.hid hb2
  have Z2 := Lib.hid z2
  obtain ⟨xf, xs, xd⟩ := x
  simp only at t0 t1 t2 cY l1 l2
  obtain ⟨ls, hls⟩ : ∃ k, xs.length = k := ⟨_, rfl⟩
  obtain ⟨ld, hld⟩ : ∃ k, xd.length = k := ⟨_, rfl⟩
  have HLS := Lib.hid hls
  have HLD := Lib.hid hld
  simp only [hls] at t1 cY
  simp only [hld] at t2 cY
  clear hr hq hco hqo hO hb2 z2 s0 s1 s2 s3 s4 hat hg e1 e2 hls hld l1 l2
  go_enter Tryd.func12, Tryd.ntmps12
  go_upto_region 1 with fail
  try rw [hw2]
  clear hw2
  go_wp2_with fail
  refine cC.mono ?_
  rintro e w3 ⟨rfl, rfl⟩
  clear cC
  go_wp2_with fail
  refine cY.mono ?_
  rintro e w3 ⟨va, vb, rfl, ra, rb, hb3⟩
  clear cY t0 t1 t2
  obtain ⟨a3, n3, k3, rfl⟩ : ∃ a n k, va = .slice a n k := by obtain ⟨a, k, e, _⟩ := id ra; exact ⟨_, _, _, e⟩
  obtain ⟨a4, n4, k4, rfl⟩ : ∃ a n k, vb = .slice a n k := by obtain ⟨a, k, e, _⟩ := id rb; exact ⟨_, _, _, e⟩
  obtain ⟨w4, hw4⟩ : ∃ w4, w3.alloc (.cells #[.bool xf, .slice a3 n3 k3, .slice a4 n4 k4] 39) = w4 := ⟨_, rfl⟩
  have hb4 : Below w3.heap.size w3 w4 := by rw [← hw4]; exact (Below.refl _ _).alloc (Nat.le_refl _) _
  have hb24 := below_step hb3 hb3.size hb4
  have z4 := Z2.out.call hb24
  have c0 := z4.cell (j := 0) rfl
  have c1 := z4.cell (j := 1) rfl
  have y0 := z4.free 0
  have y1 := z4.free 1
  have hszz : w.heap.size < w2.heap.size := Z2.out.lt
  have hown : OwnSl w4 w.heap.size (.slice (some ⟨w3.heap.size, 0, none⟩) 1 1) [⟨xf, xs, xd⟩] := by
    have ra4 := ra.keep hb4
    have rb4 := rb.keep hb4
    rw [← hw4] at ra4 rb4 ⊢
    refine ⟨[.bool xf, .slice a3 n3 k3, .slice a4 n4 k4], World.ownsRow_lit w3 #[.bool xf, .slice a3 n3 k3, .slice a4 n4 k4] 1 (Nat.le_trans HB2.out.size hb3.size) (by unfold maxLen; omega) rfl, fun i r hi => ?_⟩
    match i, hi with
    | 0, hi => simp at hi; subst hi; exact ⟨_, _, rfl, rfl, rfl, ra4, rb4⟩
  have hb04 := below_step HB2.out HB2.out.size hb24
  have hE : Hid (OwnSl ((w4.setCell ⟨w.heap.size, 0, none⟩ (.slice (some ⟨w3.heap.size, 0, none⟩) 1 1)).setCell ⟨w.heap.size, 1, none⟩ (.slice none 0 0)) w.heap.size (.slice (some ⟨w3.heap.size, 0, none⟩) 1 1) [⟨xf, xs, xd⟩] ∧ Below w.heap.size w ((w4.setCell ⟨w.heap.size, 0, none⟩ (.slice (some ⟨w3.heap.size, 0, none⟩) 1 1)).setCell ⟨w.heap.size, 1, none⟩ (.slice none 0 0))) := by
    have hg : w4.grownBy ((w4.setCell ⟨w.heap.size, 0, none⟩ (.slice (some ⟨w3.heap.size, 0, none⟩) 1 1)).setCell ⟨w.heap.size, 1, none⟩ (.slice none 0 0)) (some w.heap.size) := grown_trans (mv_cell _ _ _ _) (mv_cell _ _ _ _)
    exact ⟨hown.beside hg (fun b hb => by cases hb; exact ⟨_, _, _, z4, by decide, by decide⟩), hb04.grown hg hb04.size (fun k h => by cases h; exact Nat.le_refl _)⟩
  have z5 : Blk ((w4.setCell ⟨w.heap.size, 0, none⟩ (.slice (some ⟨w3.heap.size, 0, none⟩) 1 1)).setCell ⟨w.heap.size, 1, none⟩ (.slice none 0 0)) w.heap.size 26 [.slice (some ⟨w3.heap.size, 0, none⟩) 1 1, .slice none 0 0] := (z4.set 0 _).set 1 _
  clear Z2 HB2 hb3 hb4 hb24 z4 hown hb04 ra rb HLS HLD
  go_wp2_with fail
  try rw [hw4]
  refine bodyPost_ret (results_arr rfl _ _ w.heap.size [.slice (some ⟨w3.heap.size, 0, none⟩) 1 1, .slice none 0 0] rfl z5 rfl rfl (by kernel_rfl)) rfl ⟨_, _, rfl, hE.out.1, OwnL.nil _ _, hE.out.2⟩
end Go.Proofs.YtcnemacakjemjaaDoor

/-! CONTRACT of the reference's covered. CONDITIONS: each theorem's own hypotheses. -/
namespace Go.Proofs.YtcnemacakjemjaaDoor
open Go.RowKit CodeMath Go.Proofs.YtcnemacakjemjaaDoor.FrameMath
set_option linter.unusedVariables false
set_option maxRecDepth 100000

def cvP (m : Int) (n k : Nat) (al : Option Addr) (cl : Nat) (ao : Option Addr) (co : Nat) (al2 : Option Addr) (cl2 : Nat) (ao2 : Option Addr) (co2 : Nat) : Nat → Option Value
  | 0 => some (.int .i64 m)
  | 1 => some (.slice al n cl)
  | 2 => some (.int .i64 (k : Int))
  | 3 => some (.slice al k cl)
  | 4 => some (.slice ao n co)
  | 5 => some (.int .i64 (k : Int))
  | 6 => some (.slice ao k co)
  | 8 => some (.int .i64 m)
  | 9 => some (.slice al n cl)
  | 10 => some (.int .i64 (k : Int))
  | 11 => some (.slice al2 k cl2)
  | 12 => some (.slice ao n co)
  | 13 => some (.int .i64 (k : Int))
  | 14 => some (.slice ao2 k co2)
  | _ => none
theorem lset {ls : Array Bool} {i j : Nat} (h : (ls.setIfInBounds i true).getD j false = true) (hne : j ≠ i) : ls.getD j false = true := by
  rw [getD_set_ne false (Ne.symm hne)] at h; exact h
theorem upd_ne {vs : Nat → Value} {i j : Nat} {v : Value} (h : j ≠ i) : upd vs i v j = vs j := by simp [upd, h]
theorem upd_eq {vs : Nat → Value} {i : Nat} {v : Value} : upd vs i v i = v := by simp [upd]
/-- A cover as a value. -/
def CovVl (w : World) (B : Nat) (v : Value) (l : List Sl) (r : List (List UInt8)) : Prop := ∃ sv rv, v = .agg #[sv, rv] ∧ OwnSl w B sv l ∧ OwnL w B rv r
theorem CovVl.keep {w w' : World} {B : Nat} {v : Value} {l : List Sl} {r : List (List UInt8)} (h : CovVl w B v l r) (hb : Below w.heap.size w w') : CovVl w' B v l r := by
  obtain ⟨sv, rv, e, h1, h2⟩ := h
  exact ⟨sv, rv, e, h1.keep hb, h2.keep hb⟩
theorem CovVl.beside {w w' : World} {B g : Nat} {v : Value} {l : List Sl} {r : List (List UInt8)} {cs : List Value} (h : CovVl w B v l r) (hg : w.grownBy w' (some g)) (z : Blk w g 26 cs) : CovVl w' B v l r := by
  obtain ⟨sv, rv, e, h1, h2⟩ := h
  exact ⟨sv, rv, e, h1.beside hg (fun b hb => by cases hb; exact ⟨_, _, _, z, by decide, by decide⟩), h2.beside hg (fun b hb => by cases hb; exact ⟨_, _, _, z, by unfold ByteT; decide, by decide⟩)⟩
/-- A block that waits for a cover, or has it. -/
def CovBk (w : World) (B : Nat) (p v : Value) (st : Prop) : Prop := ∃ g x y, p = .pointer (some ⟨g, 0, none⟩) ∧ B ≤ g ∧ Blk w g 26 [x, y] ∧ (st → v = .agg #[x, y])
theorem CovBk.keep {w w' : World} {B : Nat} {p v : Value} {st : Prop} (h : CovBk w B p v st) (hb : Below w.heap.size w w') : CovBk w' B p v st := by
  obtain ⟨g, x, y, e, h1, h2, h3⟩ := h
  exact ⟨g, x, y, e, h1, h2.call hb, h3⟩
theorem CovBk.imp {w : World} {B : Nat} {p v v' : Value} {st st' : Prop} (h : CovBk w B p v st) (hi : st' → st ∧ v' = v) : CovBk w B p v' st' := by
  obtain ⟨g, x, y, e, h1, h2, h3⟩ := h
  exact ⟨g, x, y, e, h1, h2, fun s => by rw [(hi s).2]; exact h3 (hi s).1⟩
structure CvI (w0 : World) (pv : Nat → Option Value) (l1 : List Sl) (r1 : List (List UInt8)) (l2 : List Sl) (r2 : List (List UInt8)) (ls : Array Bool) (vs : Nat → Value) (w : World) : Prop where
  bel : Below w0.heap.size w0 w
  pure : ∀ j v, pv j = some v → ls.getD j false = true → vs j = v
  c7 : ls.getD 7 false = true → CovVl w w0.heap.size (vs 7) l1 r1
  c15 : ls.getD 15 false = true → CovVl w w0.heap.size (vs 15) l2 r2
  a16 : ls.getD 16 false = true → CovBk w w0.heap.size (vs 16) (vs 7) (ls.getD 18 false = true)
  a17 : ls.getD 17 false = true → CovBk w w0.heap.size (vs 17) (vs 15) (ls.getD 19 false = true)
  ne : ls.getD 16 false = true → ls.getD 17 false = true → vs 16 ≠ vs 17
section
variable {w0 : World} {pv : Nat → Option Value} {l1 l2 : List Sl} {r1 r2 : List (List UInt8)} {ls : Array Bool} {vs : Nat → Value} {w w' : World}
theorem CvI.keep (h : CvI w0 pv l1 r1 l2 r2 ls vs w) (hb : Below w.heap.size w w') : CvI w0 pv l1 r1 l2 r2 ls vs w' :=
  ⟨below_step h.bel h.bel.size hb, h.pure, fun a => (h.c7 a).keep hb, fun a => (h.c15 a).keep hb, fun a => (h.a16 a).keep hb, fun a => (h.a17 a).keep hb, h.ne⟩
theorem CvI.quiet (h : CvI w0 pv l1 r1 l2 r2 ls vs w) (i : Nat) (v : Value) (hv : pv i = some v) (h1 : i < 15) (h2 : i ≠ 7) : CvI w0 pv l1 r1 l2 r2 (ls.setIfInBounds i true) (upd vs i v) w := by
  refine ⟨h.bel, fun j u hj hl => ?_, fun a => ?_, fun a => ?_, fun a => ?_, fun a => ?_, fun a b => ?_⟩
  · by_cases e : j = i
    · subst e; rw [upd_eq]; rw [hv] at hj; exact Option.some.inj hj
    · rw [upd_ne e]; exact h.pure j u hj (lset hl e)
  · rw [upd_ne (Ne.symm h2)]; exact h.c7 (lset a (Ne.symm h2))
  · rw [upd_ne (by omega)]; exact h.c15 (lset a (by omega))
  · rw [upd_ne (by omega), upd_ne (Ne.symm h2)]; exact (h.a16 (lset a (by omega))).imp fun s => ⟨lset s (by omega), rfl⟩
  · rw [upd_ne (by omega), upd_ne (by omega)]; exact (h.a17 (lset a (by omega))).imp fun s => ⟨lset s (by omega), rfl⟩
  · rw [upd_ne (by omega), upd_ne (by omega)]; exact h.ne (lset a (by omega)) (lset b (by omega))
theorem CvI.call7 (h : CvI w0 pv l1 r1 l2 r2 ls vs w) (v : Value) (hv : CovVl w w0.heap.size v l1 r1) (hp : pv 7 = none) (h18 : ls.getD 18 false = true → False) : CvI w0 pv l1 r1 l2 r2 (ls.setIfInBounds 7 true) (upd vs 7 v) w := by
  refine ⟨h.bel, fun j u hj hl => ?_, fun a => ?_, fun a => ?_, fun a => ?_, fun a => ?_, fun a b => ?_⟩
  · by_cases e : j = 7
    · subst e; rw [hp] at hj; cases hj
    · rw [upd_ne e]; exact h.pure j u hj (lset hl e)
  · rw [upd_eq]; exact hv
  · rw [upd_ne (by decide)]; exact h.c15 (lset a (by decide))
  · rw [upd_ne (by decide)]; exact (h.a16 (lset a (by decide))).imp fun s => (h18 (lset s (by decide))).elim
  · rw [upd_ne (by decide), upd_ne (by decide)]; exact (h.a17 (lset a (by decide))).imp fun s => ⟨lset s (by decide), rfl⟩
  · rw [upd_ne (by decide), upd_ne (by decide)]; exact h.ne (lset a (by decide)) (lset b (by decide))
theorem CvI.call15 (h : CvI w0 pv l1 r1 l2 r2 ls vs w) (v : Value) (hv : CovVl w w0.heap.size v l2 r2) (hp : pv 15 = none) (h19 : ls.getD 19 false = true → False) : CvI w0 pv l1 r1 l2 r2 (ls.setIfInBounds 15 true) (upd vs 15 v) w := by
  refine ⟨h.bel, fun j u hj hl => ?_, fun a => ?_, fun a => ?_, fun a => ?_, fun a => ?_, fun a b => ?_⟩
  · by_cases e : j = 15
    · subst e; rw [hp] at hj; cases hj
    · rw [upd_ne e]; exact h.pure j u hj (lset hl e)
  · rw [upd_ne (by decide)]; exact h.c7 (lset a (by decide))
  · rw [upd_eq]; exact hv
  · rw [upd_ne (by decide), upd_ne (by decide)]; exact (h.a16 (lset a (by decide))).imp fun s => ⟨lset s (by decide), rfl⟩
  · rw [upd_ne (by decide)]; exact (h.a17 (lset a (by decide))).imp fun s => (h19 (lset s (by decide))).elim
  · rw [upd_ne (by decide), upd_ne (by decide)]; exact h.ne (lset a (by decide)) (lset b (by decide))
theorem CovBk.lt {B : Nat} {p v : Value} {st : Prop} (h : CovBk w B p v st) (g : Nat) (hg : w.heap.size ≤ g) : p ≠ .pointer (some ⟨g, 0, none⟩) := by
  obtain ⟨g', x, y, e, -, h2, -⟩ := h
  have := h2.lt
  rintro rfl
  first
    | (simp at e; done)
    | (simp at e; omega)
theorem CvI.new16 (h : CvI w0 pv l1 r1 l2 r2 ls vs w) (hp : pv 16 = none) (h18 : ls.getD 18 false = true → False) : CvI w0 pv l1 r1 l2 r2 (ls.setIfInBounds 16 true) (upd vs 16 (.pointer (some ⟨w.heap.size, 0, none⟩))) (w.alloc (.cells #[.slice none 0 0, .slice none 0 0] 26)) := by
  have k := h.keep ((Below.refl w.heap.size w).alloc (Nat.le_refl _) (.cells #[.slice none 0 0, .slice none 0 0] 26))
  refine ⟨k.bel, fun j u hj hl => ?_, fun a => ?_, fun a => ?_, fun a => ?_, fun a => ?_, fun a b => ?_⟩
  · by_cases e : j = 16
    · subst e; rw [hp] at hj; cases hj
    · rw [upd_ne e]; exact h.pure j u hj (lset hl e)
  · rw [upd_ne (by decide)]; exact k.c7 (lset a (by decide))
  · rw [upd_ne (by decide)]; exact k.c15 (lset a (by decide))
  · rw [upd_eq, upd_ne (by decide)]; exact ⟨_, _, _, rfl, h.bel.size, Blk.new w _ _, fun s => (h18 (lset s (by decide))).elim⟩
  · rw [upd_ne (by decide), upd_ne (by decide)]; exact (k.a17 (lset a (by decide))).imp fun s => ⟨lset s (by decide), rfl⟩
  · rw [upd_eq, upd_ne (by decide)]; exact ((h.a17 (lset b (by decide))).lt w.heap.size (Nat.le_refl _)).symm
theorem CvI.new17 (h : CvI w0 pv l1 r1 l2 r2 ls vs w) (hp : pv 17 = none) (h19 : ls.getD 19 false = true → False) : CvI w0 pv l1 r1 l2 r2 (ls.setIfInBounds 17 true) (upd vs 17 (.pointer (some ⟨w.heap.size, 0, none⟩))) (w.alloc (.cells #[.slice none 0 0, .slice none 0 0] 26)) := by
  have k := h.keep ((Below.refl w.heap.size w).alloc (Nat.le_refl _) (.cells #[.slice none 0 0, .slice none 0 0] 26))
  refine ⟨k.bel, fun j u hj hl => ?_, fun a => ?_, fun a => ?_, fun a => ?_, fun a => ?_, fun a b => ?_⟩
  · by_cases e : j = 17
    · subst e; rw [hp] at hj; cases hj
    · rw [upd_ne e]; exact h.pure j u hj (lset hl e)
  · rw [upd_ne (by decide)]; exact k.c7 (lset a (by decide))
  · rw [upd_ne (by decide)]; exact k.c15 (lset a (by decide))
  · rw [upd_ne (by decide), upd_ne (by decide)]; exact (k.a16 (lset a (by decide))).imp fun s => ⟨lset s (by decide), rfl⟩
  · rw [upd_eq, upd_ne (by decide)]; exact ⟨_, _, _, rfl, h.bel.size, Blk.new w _ _, fun s => (h19 (lset s (by decide))).elim⟩
  · rw [upd_ne (by decide), upd_eq]; exact (h.a16 (lset a (by decide))).lt w.heap.size (Nat.le_refl _)
theorem OwnSl.one {w : World} {B : Nat} {v : Value} {l : List Sl} (h : OwnSl w B v l) : v.oneCell' = true := by
  obtain ⟨a, k, e, _⟩ := h.slots; rw [e]; rfl
theorem OwnL.one {w : World} {B : Nat} {v : Value} {l : List (List UInt8)} (h : OwnL w B v l) : v.oneCell' = true := by
  obtain ⟨a, k, e, _⟩ := h.lines; rw [e]; rfl
theorem put2_grown (w : World) (g : Nat) (x y : Value) : w.grownBy ((w.setCell ⟨g, 0, none⟩ x).setCell ⟨g, 1, none⟩ y) (some g) := grown_trans (mv_cell _ _ _ _) (mv_cell _ _ _ _)
end

/-- What region 7's slots hold. -/
def CvF (B gA gB : Nat) (x y x2 y2 : Value) (l1 l2 : List Sl) (r1 r2 : List (List UInt8)) : Nat → Nat → Value → World → Prop
  | _, 0, v, _ => v = .pointer (some ⟨gA, 0, none⟩)
  | _, 1, v, _ => v = x
  | _, 2, v, _ => v = .pointer (some ⟨gB, 0, none⟩)
  | _, 3, v, _ => v = x2
  | _, 4, v, w => OwnSl w B v (l1 ++ l2)
  | _, 5, v, _ => v = .pointer (some ⟨gA, 1, none⟩)
  | _, 6, v, _ => v = y
  | _, 7, v, _ => v = .pointer (some ⟨gB, 1, none⟩)
  | _, 8, v, _ => v = y2
  | _, 9, v, w => OwnL w B v (r1 ++ r2)
  | _, 10, v, w => ∃ a b, v = .agg #[a, b] ∧ OwnSl w B a (l1 ++ l2) ∧ OwnL w B b (r1 ++ r2)
  | _, _, _, _ => True
set_option maxHeartbeats 8000000 in
theorem covered_step (m : Int) (h : Nat) (l1 l2 : List Sl) (r1 r2 : List (List UInt8)) (n k : Nat) (o1 o2 : List Bool) (cn : Nat) (al : Option Addr) (cl : Nat) (ao : Option Addr) (co : Nat) (al2 : Option Addr) (cl2 : Nat) (ao2 : Option Addr) (co2 : Nat) (w w2 : World)
    (hw2 : w.alloc (.cells #[.slice none 0 0, .slice none 0 0] 26) = w2) (cC : Calls Tryd.prog 24 #[.slice ao n co] w2 fun e w' => e = .returned (.int .i64 (cn : Int)) ∧ w2 = w') (hcI : ((cn : Int) == 0) = false) (hNI : ((n : Int) == 1) = false) (hqI : (n : Int) / 2 = (k : Int)) (h64I : (n : Int) ≤ 64)
    (SA : (∀ W, (Instr.slice 22 (.slice al n cl) none (some (.int .i64 (k : Int))) none).run Tryd.prog W = .ok (.slice al k cl) W) ∧ (∀ W, (Instr.slice 23 (.slice ao n co) none (some (.int .i64 (k : Int))) none).run Tryd.prog W = .ok (.slice ao k co) W) ∧ (∀ W, (Instr.slice 22 (.slice al n cl) (some (.int .i64 (k : Int))) none none).run Tryd.prog W = .ok (.slice al2 k cl2) W) ∧ (∀ W, (Instr.slice 23 (.slice ao n co) (some (.int .i64 (k : Int))) none none).run Tryd.prog W = .ok (.slice ao2 k co2) W))
    (HC1 : ∀ W, Below w2.heap.size w2 W → Calls Tryd.prog 12 #[.int .i64 m, .slice al k cl, .slice ao k co] W fun e W' => ∃ sv rv, e = .returned (.agg #[sv, rv]) ∧ OwnSl W' W.heap.size sv l1 ∧ OwnL W' W.heap.size rv r1 ∧ Below W.heap.size W W')
    (HC2 : ∀ W, Below w2.heap.size w2 W → Calls Tryd.prog 12 #[.int .i64 m, .slice al2 k cl2, .slice ao2 k co2] W fun e W' => ∃ sv rv, e = .returned (.agg #[sv, rv]) ∧ OwnSl W' W.heap.size sv l2 ∧ OwnL W' W.heap.size rv r2 ∧ Below W.heap.size W W')
    (few : l1.length + l2.length ≤ 1000 ∧ r1.length + r2.length ≤ 1000) :
    Calls Tryd.prog 12 #[.int .i64 m, .slice al n cl, .slice ao n co] w fun e w' => ∃ sv rv, e = .returned (.agg #[sv, rv]) ∧ OwnSl w' w.heap.size sv (l1 ++ l2) ∧ OwnL w' w.heap.size rv (r1 ++ r2) ∧ Below w.heap.size w w' := by
  have hb2 : Below w.heap.size w w2 := by rw [← hw2]; exact (Below.refl _ _).alloc (Nat.le_refl _) _
  have z2 : Blk w2 w.heap.size 26 [.slice none 0 0, .slice none 0 0] := by rw [← hw2]; exact Blk.new w #[.slice none 0 0, .slice none 0 0] _
  have HB2 := Lib.hid hb2
  have Z2 := Lib.hid z2
  have FEW := Lib.hid few
  clear hb2 z2 few
  go_enter Tryd.func12, Tryd.ntmps12
  go_upto_region 1 with fail
  try rw [hw2]
  clear hw2
  go_wp2_with fail
  refine cC.mono ?_
  rintro e w3 ⟨rfl, rfl⟩
  clear cC
  go_upto_region 6 with fail
  refine wp_region_joined 18 (by kernel_rfl) (by kernel_rfl) (CvI w2 (cvP m n k al cl ao co al2 cl2 ao2 co2) l1 r1 l2 r2) ?h0 ?hstep ?hdone
  case h0 =>
    intro vs
    have hno : ∀ (N j : Nat), (Array.replicate N false).getD j false = true → False := fun N j hh => by rw [getD_replicate_false] at hh; cases hh
    exact ⟨Below.drew (Below.refl _ _), fun j v _ hl => (hno _ _ hl).elim, fun a => (hno _ _ a).elim, fun a => (hno _ _ a).elim, fun a => (hno _ _ a).elim, fun a => (hno _ _ a).elim, fun a _ => (hno _ _ a).elim⟩
  case hstep =>
    intro i hi ls vs W K h hsz hun hcl hd hu hK
    clear hu
    simp only [fillF, Act.put, List.take_succ_cons, List.take_zero, List.setIfInBounds_toArray, List.set_cons_zero, List.set_cons_succ] at hK ⊢
    rcases (show i = 0 ∨ i = 1 ∨ i = 2 ∨ i = 3 ∨ i = 4 ∨ i = 5 ∨ i = 6 ∨ i = 7 ∨ i = 8 ∨ i = 9 ∨ i = 10 ∨ i = 11 ∨ i = 12 ∨ i = 13 ∨ i = 14 ∨ i = 15 ∨ i = 16 ∨ i = 17 by omega) with rfl | rfl | rfl | rfl | rfl | rfl | rfl | rfl | rfl | rfl | rfl | rfl | rfl | rfl | rfl | rfl | rfl | rfl
    · refine wpOp_step rfl (fun K' hK' => ?_)
      go_simp
      exact hK' _ _ (hK _ _ (h.quiet 0 _ rfl (by decide) (by decide)))
    · refine wpOp_step rfl (fun K' hK' => ?_)
      go_simp
      exact hK' _ _ (hK _ _ (h.quiet 1 _ rfl (by decide) (by decide)))
    · refine wpOp_step rfl (fun K' hK' => ?_)
      go_simp
      exact hK' _ _ (hK _ _ (h.quiet 2 _ rfl (by decide) (by decide)))
    · have e1 := h.pure 1 _ rfl (hd 1 (by kernel_rfl))
      have e2 := h.pure 2 _ rfl (hd 2 (by kernel_rfl))
      simp only [e1, e2] at hK ⊢
      have q1 := SA.1 W
      refine wpOp_step rfl (fun K' hK' => ?_)
      go_simp
      exact hK' _ _ (hK _ _ (h.quiet 3 _ rfl (by decide) (by decide)))
    · refine wpOp_step rfl (fun K' hK' => ?_)
      go_simp
      exact hK' _ _ (hK _ _ (h.quiet 4 _ rfl (by decide) (by decide)))
    · refine wpOp_step rfl (fun K' hK' => ?_)
      go_simp
      exact hK' _ _ (hK _ _ (h.quiet 5 _ rfl (by decide) (by decide)))
    · have e1 := h.pure 4 _ rfl (hd 4 (by kernel_rfl))
      have e2 := h.pure 5 _ rfl (hd 5 (by kernel_rfl))
      simp only [e1, e2] at hK ⊢
      have q1 := SA.2.1 W
      refine wpOp_step rfl (fun K' hK' => ?_)
      go_simp
      exact hK' _ _ (hK _ _ (h.quiet 6 _ rfl (by decide) (by decide)))
    · have e1 := h.pure 0 _ rfl (hd 0 (by kernel_rfl))
      have e2 := h.pure 3 _ rfl (hd 3 (by kernel_rfl))
      have e3 := h.pure 6 _ rfl (hd 6 (by kernel_rfl))
      simp only [e1, e2, e3] at hK ⊢
      refine wpOp_step rfl (fun K' hK' => ?_)
      go_simp
      refine (HC1 W h.bel).mono ?_
      rintro e W' ⟨sv, rv, rfl, ho1, ho2, hb⟩
      exact hK' _ _ (hK _ _ ((h.keep hb).call7 _ ⟨sv, rv, rfl, ho1.base h.bel.size, ho2.base h.bel.size⟩ rfl (fun s => by have := hcl 18 7 s (by kernel_rfl); rw [getD_both hun] at this; cases this)))
    · refine wpOp_step rfl (fun K' hK' => ?_)
      go_simp
      exact hK' _ _ (hK _ _ (h.quiet 8 _ rfl (by decide) (by decide)))
    · refine wpOp_step rfl (fun K' hK' => ?_)
      go_simp
      exact hK' _ _ (hK _ _ (h.quiet 9 _ rfl (by decide) (by decide)))
    · refine wpOp_step rfl (fun K' hK' => ?_)
      go_simp
      exact hK' _ _ (hK _ _ (h.quiet 10 _ rfl (by decide) (by decide)))
    · have e1 := h.pure 9 _ rfl (hd 9 (by kernel_rfl))
      have e2 := h.pure 10 _ rfl (hd 10 (by kernel_rfl))
      simp only [e1, e2] at hK ⊢
      have q1 := SA.2.2.1 W
      refine wpOp_step rfl (fun K' hK' => ?_)
      go_simp
      exact hK' _ _ (hK _ _ (h.quiet 11 _ rfl (by decide) (by decide)))
    · refine wpOp_step rfl (fun K' hK' => ?_)
      go_simp
      exact hK' _ _ (hK _ _ (h.quiet 12 _ rfl (by decide) (by decide)))
    · refine wpOp_step rfl (fun K' hK' => ?_)
      go_simp
      exact hK' _ _ (hK _ _ (h.quiet 13 _ rfl (by decide) (by decide)))
    · have e1 := h.pure 12 _ rfl (hd 12 (by kernel_rfl))
      have e2 := h.pure 13 _ rfl (hd 13 (by kernel_rfl))
      simp only [e1, e2] at hK ⊢
      have q1 := SA.2.2.2 W
      refine wpOp_step rfl (fun K' hK' => ?_)
      go_simp
      exact hK' _ _ (hK _ _ (h.quiet 14 _ rfl (by decide) (by decide)))
    · have e1 := h.pure 8 _ rfl (hd 8 (by kernel_rfl))
      have e2 := h.pure 11 _ rfl (hd 11 (by kernel_rfl))
      have e3 := h.pure 14 _ rfl (hd 14 (by kernel_rfl))
      simp only [e1, e2, e3] at hK ⊢
      refine wpOp_step rfl (fun K' hK' => ?_)
      go_simp
      refine (HC2 W h.bel).mono ?_
      rintro e W' ⟨sv, rv, rfl, ho1, ho2, hb⟩
      exact hK' _ _ (hK _ _ ((h.keep hb).call15 _ ⟨sv, rv, rfl, ho1.base h.bel.size, ho2.base h.bel.size⟩ rfl (fun s => by have := hcl 19 15 s (by kernel_rfl); rw [getD_both hun] at this; cases this)))
    · refine wpOp_step rfl (fun K' hK' => ?_)
      go_simp
      exact hK' _ _ (hK _ _ (h.new16 rfl (fun s => by have := hcl 18 16 s (by kernel_rfl); rw [getD_both hun] at this; cases this)))
    · refine wpOp_step rfl (fun K' hK' => ?_)
      go_simp
      exact hK' _ _ (hK _ _ (h.new17 rfl (fun s => by have := hcl 19 17 s (by kernel_rfl); rw [getD_both hun] at this; cases this)))
  case hdone =>
    intro ls vs W h hall
    simp only [fillF, Act.put, List.take_succ_cons, List.take_zero, List.drop_succ_cons, List.drop_zero, List.setIfInBounds_toArray, List.set_cons_zero, List.set_cons_succ]
    obtain ⟨gA, nA1, nA2, eA, hBA, zA, -⟩ := h.a16 (hall 16 (by decide))
    obtain ⟨gB, nB1, nB2, eB, hBB, zB, -⟩ := h.a17 (hall 17 (by decide))
    have hne : gA ≠ gB := fun he => h.ne (hall 16 (by decide)) (hall 17 (by decide)) (by rw [eA, eB, he])
    have hne' : gB ≠ gA := fun he => hne he.symm
    obtain ⟨x, y, e1, gS1, gR1⟩ := h.c7 (hall 7 (by decide))
    obtain ⟨x2, y2, e2, gS2, gR2⟩ := h.c15 (hall 15 (by decide))
    simp only [Nat.zero_add, Nat.reduceAdd, eA, eB, e1, e2]
    have hg1 := put2_grown W gA x y
    have hg2 := put2_grown ((W.setCell ⟨gA, 0, none⟩ x).setCell ⟨gA, 1, none⟩ y) gB x2 y2
    have zA1 := (zA.set 0 x).set 1 y
    have zB1 := (zB.other ⟨gA, 0, none⟩ x hne').other ⟨gA, 1, none⟩ y hne'
    have zA2 := (zA1.other ⟨gB, 0, none⟩ x2 hne).other ⟨gB, 1, none⟩ y2 hne
    have zB2 := (zB1.set 0 x2).set 1 y2
    have v1 : CovVl W w2.heap.size (.agg #[x, y]) l1 r1 := ⟨x, y, rfl, gS1, gR1⟩
    have v2 : CovVl W w2.heap.size (.agg #[x2, y2]) l2 r2 := ⟨x2, y2, rfl, gS2, gR2⟩
    have v1' := (v1.beside hg1 zA).beside hg2 zB1
    have v2' := (v2.beside hg1 zA).beside hg2 zB1
    have hbW5 := (h.bel.grown hg1 h.bel.size (fun k hk => by cases hk; exact hBA)).grown hg2 (Nat.le_trans h.bel.size hg1.size) (fun k hk => by cases hk; exact hBB)
    have sx1 := gS1.one
    have sx2 := gR1.one
    have sx3 := gS2.one
    have sx4 := gR2.one
    have q0 := zA.cell (j := 0) rfl
    have q1 := zA.cell (j := 1) rfl
    have q2 := zB.cell (j := 0) rfl
    have q3 := zB.cell (j := 1) rfl
    have f0 := zA.free 0
    have f1 := zA.free 1
    have f2 := zB.free 0
    have f3 := zB.free 1
    obtain ⟨W5, hW5⟩ : ∃ W5, (((W.setCell ⟨gA, 0, none⟩ x).setCell ⟨gA, 1, none⟩ y).setCell ⟨gB, 0, none⟩ x2).setCell ⟨gB, 1, none⟩ y2 = W5 := ⟨_, rfl⟩
    rw [hW5] at zA2 zB2 v1' v2' hbW5
    have hbW := Lib.hid hbW5
    obtain ⟨x', y', e1', hS1, hR1⟩ := v1'
    obtain ⟨x2', y2', e2', hS2, hR2⟩ := v2'
    simp only [Value.agg.injEq, Array.mk.injEq, List.cons.injEq, and_true] at e1' e2'
    obtain ⟨rfl, rfl⟩ := e1'
    obtain ⟨rfl, rfl⟩ := e2'
    have ZA2 := Lib.hid zA2
    have ZB2 := Lib.hid zB2
    have VV := Lib.hid (And.intro (And.intro hS1 hR1) (And.intro hS2 hR2))
    clear h hall e1 e2 eA eB HC1 HC2 SA hBA hBB zA zB zA1 zB1 zA2 zB2 v1 v2 hg1 hg2 hbW5 hS1 hR1 hS2 hR2 gS1 gR1 gS2 gR2
    generalize vs 0 = u0 at *
    generalize vs 1 = u1 at *
    generalize vs 2 = u2 at *
    generalize vs 3 = u3 at *
    generalize vs 4 = u4 at *
    generalize vs 5 = u5 at *
    generalize vs 6 = u6 at *
    generalize vs 8 = u8 at *
    generalize vs 9 = u9 at *
    generalize vs 10 = u10 at *
    generalize vs 11 = u11 at *
    generalize vs 12 = u12 at *
    generalize vs 13 = u13 at *
    generalize vs 14 = u14 at *
    have s1 := fun (w : World) (a : Addr) (m : Mode) => run_store Tryd.prog w a x m sx1
    have s2 := fun (w : World) (a : Addr) (m : Mode) => run_store Tryd.prog w a y m sx2
    have s3 := fun (w : World) (a : Addr) (m : Mode) => run_store Tryd.prog w a x2 m sx3
    have s4 := fun (w : World) (a : Addr) (m : Mode) => run_store Tryd.prog w a y2 m sx4
    go_upto_region 7 with fail
    try rw [hW5]
    clear s1 s2 s3 s4 sx1 sx2 sx3 sx4
    clear hW5 q0 q1 q2 q3 f0 f1 f2 f3
    obtain ⟨⟨hS1, hR1⟩, hS2, hR2⟩ := VV.out
    have zA := ZA2.out
    have zB := ZB2.out
    clear VV ZA2 ZB2
    obtain ⟨B, hB⟩ : ∃ B, w2.heap.size = B := ⟨_, rfl⟩
    have HBe := Lib.hid hB
    rw [hB] at hS1 hR1 hS2 hR2
    have hBW : B ≤ W5.heap.size := by rw [← hB]; exact hbW.out.size
    clear hB
    refine wp_region_chain2 11 [4, 9] (by kernel_rfl) (by kernel_rfl) (by kernel_rfl) (CvF B gA gB x y x2 y2 l1 l2 r1 r2) (fun s W' => Hid (B ≤ W'.heap.size) ∧ Below B W5 W' ∧ Blk W' gA 26 [x, y] ∧ Blk W' gB 26 [x2, y2] ∧ (s = 0 → OwnSl W' B x l1 ∧ OwnSl W' B x2 l2) ∧ (s ≤ 1 → OwnL W' B y r1 ∧ OwnL W' B y2 r2)) (fun s w w' => (s = 0 → w.grownBy w' x.ownBlock ∧ ∀ b, x.ownBlock = some b → ∃ cur fz, w.heap[b]? = some (.cells cur 39 fz)) ∧ (s = 1 → w.grownBy w' y.ownBlock ∧ ∀ b, y.ownBlock = some b → ∃ cur fz, w.heap[b]? = some (.cells cur 37 fz))) ?hF ?h0 ?hstep ?hcall ?hdone
    case hF =>
      intro s i hs j v w w' hjn hne hpb h he
      rcases (show j = 0 ∨ j = 1 ∨ j = 2 ∨ j = 3 ∨ j = 4 ∨ j = 5 ∨ j = 6 ∨ j = 7 ∨ j = 8 ∨ j = 9 ∨ j = 10 by omega) with rfl | rfl | rfl | rfl | rfl | rfl | rfl | rfl | rfl | rfl | rfl
      · exact h
      · exact h
      · exact h
      · exact h
      · rcases s with _ | _ | s
        · obtain rfl : 4 = i := by simpa using hs
          exact absurd rfl hne
        · obtain ⟨hg, ht⟩ := he.2 rfl
          exact OwnSl.beside h hg (fun b hb => by obtain ⟨cur, fz, q⟩ := ht b hb; exact ⟨cur, _, fz, q, by decide, by decide⟩)
        · simp at hs
      · exact h
      · exact h
      · exact h
      · exact h
      · rcases s with _ | _ | s
        · obtain ⟨hg, ht⟩ := he.1 rfl
          exact OwnL.beside h hg (fun b hb => by obtain ⟨cur, fz, q⟩ := ht b hb; exact ⟨cur, _, fz, q, by unfold ByteT; decide, by decide⟩)
        · obtain rfl : 9 = i := by simpa using hs
          exact absurd rfl hne
        · simp at hs
      · rcases s with _ | _ | s
        · obtain rfl : 4 = i := by simpa using hs
          exact absurd (hpb.symm.trans (by kernel_rfl) : false = true) (by decide)
        · obtain rfl : 9 = i := by simpa using hs
          exact absurd (hpb.symm.trans (by kernel_rfl) : false = true) (by decide)
        · simp at hs
    case h0 => exact ⟨Lib.hid hBW, Below.drew (Below.refl _ _), zA.drew, zB.drew, fun _ => ⟨hS1.keep (Below.drew (Below.refl _ _)), hS2.keep (Below.drew (Below.refl _ _))⟩, fun _ => ⟨hR1.keep (Below.drew (Below.refl _ _)), hR2.keep (Below.drew (Below.refl _ _))⟩⟩
    case hstep =>
      intro j hj hni s vs act w3 K ha' hst hd hu hK
      simp only [fillF, Act.put, List.take_succ_cons, List.take_zero, List.setIfInBounds_toArray, List.set_cons_zero, List.set_cons_succ] at ha'
      subst ha'
      clear hu
      rcases (show j = 0 ∨ j = 1 ∨ j = 2 ∨ j = 3 ∨ j = 4 ∨ j = 5 ∨ j = 6 ∨ j = 7 ∨ j = 8 ∨ j = 9 ∨ j = 10 by omega) with rfl | rfl | rfl | rfl | rfl | rfl | rfl | rfl | rfl | rfl | rfl
      · refine wpOp_step rfl (fun K' hK' => ?_)
        go_simp
        exact hK' _ _ (hK _ rfl)
      · have e0 : vs 0 = .pointer (some ⟨gA, 0, none⟩) := hd 0 (by kernel_rfl)
        have q0 := hst.2.2.1.cell (j := 0) rfl
        simp only [e0] at hK ⊢
        refine wpOp_step rfl (fun K' hK' => ?_)
        go_simp
        exact hK' _ _ (hK _ rfl)
      · refine wpOp_step rfl (fun K' hK' => ?_)
        go_simp
        exact hK' _ _ (hK _ rfl)
      · have e0 : vs 2 = .pointer (some ⟨gB, 0, none⟩) := hd 2 (by kernel_rfl)
        have q0 := hst.2.2.2.1.cell (j := 0) rfl
        simp only [e0] at hK ⊢
        refine wpOp_step rfl (fun K' hK' => ?_)
        go_simp
        exact hK' _ _ (hK _ rfl)
      · exact (hni (by decide)).elim
      · refine wpOp_step rfl (fun K' hK' => ?_)
        go_simp
        exact hK' _ _ (hK _ rfl)
      · have e0 : vs 5 = .pointer (some ⟨gA, 1, none⟩) := hd 5 (by kernel_rfl)
        have q0 := hst.2.2.1.cell (j := 1) rfl
        simp only [e0] at hK ⊢
        refine wpOp_step rfl (fun K' hK' => ?_)
        go_simp
        exact hK' _ _ (hK _ rfl)
      · refine wpOp_step rfl (fun K' hK' => ?_)
        go_simp
        exact hK' _ _ (hK _ rfl)
      · have e0 : vs 7 = .pointer (some ⟨gB, 1, none⟩) := hd 7 (by kernel_rfl)
        have q0 := hst.2.2.2.1.cell (j := 1) rfl
        simp only [e0] at hK ⊢
        refine wpOp_step rfl (fun K' hK' => ?_)
        go_simp
        exact hK' _ _ (hK _ rfl)
      · exact (hni (by decide)).elim
      · have h4 : OwnSl w3 B (vs 4) (l1 ++ l2) := hd 4 (by kernel_rfl)
        have h9 : OwnL w3 B (vs 9) (r1 ++ r2) := hd 9 (by kernel_rfl)
        obtain ⟨aa, na, ka, e4⟩ : ∃ a n k, vs 4 = .slice a n k := by obtain ⟨a, k, e, _⟩ := h4.slots; exact ⟨_, _, _, e⟩
        obtain ⟨ab, nb, kb, e9⟩ : ∃ a n k, vs 9 = .slice a n k := by obtain ⟨a, k, e, _⟩ := h9.lines; exact ⟨_, _, _, e⟩
        refine wpOp_step rfl (fun K' hK' => ?_)
        simp only [e4, e9] at hK ⊢
        rw [e4] at h4
        rw [e9] at h9
        go_simp
        exact hK' _ _ (hK _ ⟨_, _, rfl, h4, h9⟩)
    case hcall =>
      intro s j hs vs act w3 K ha' hst hd hK
      simp only [fillF, Act.put, List.take_succ_cons, List.take_zero, List.setIfInBounds_toArray, List.set_cons_zero, List.set_cons_succ] at ha'
      subst ha'
      rcases s with _ | _ | s
      · obtain rfl : 4 = j := by simpa using hs
        have e1 : vs 1 = x := hd 1 (by kernel_rfl)
        have e3 : vs 3 = x2 := hd 3 (by kernel_rfl)
        obtain ⟨s1, s2⟩ := hst.2.2.2.2.1 rfl
        obtain ⟨t1, t2⟩ := hst.2.2.2.2.2 (by decide)
        simp only [e1, e3] at hK ⊢
        refine wpOp_step rfl (fun K' hK' => ?_)
        rw [if_pos (by simp [Region.wanted])]
        refine wp_append_slots2 (.tmp 47) (.tmp 49) rfl B x l1 rfl s1 B x2 l2 rfl s2 (by have := FEW.out.1; omega) hst.1.out ?_
        intro v' w' ho hg _
        have hty := fun b (hb : x.ownBlock = some b) => s1.typed b hb
        have hr : ∀ b, x.ownBlock = some b → ∃ cur T fz, w3.heap[b]? = some (.cells cur T fz) ∧ ¬ ByteT T ∧ T ≠ 37 := fun b hb => by obtain ⟨⟨cur, fz, q⟩, -⟩ := hty b hb; exact ⟨cur, _, fz, q, by unfold ByteT; decide, by decide⟩
        have hz : ∀ {g : Nat} {cs : List Value}, Blk w3 g 26 cs → Blk w' g 26 cs := fun {g cs} z => z.same (World.grownBy.block hg g z.lt (fun hh => by obtain ⟨⟨cur, fz, q⟩, -⟩ := hty g hh.symm; unfold Blk at z; rw [q] at z; simp at z))
        exact hK' _ _ (hK v' w' ho ⟨fun _ => ⟨hg, fun b hb => (hty b hb).1⟩, fun hh => absurd hh (by decide)⟩ ⟨Lib.hid (Nat.le_trans hst.1.out hg.size), hst.2.1.grown hg hst.1.out (fun b hb => (hty b hb).2.1), hz hst.2.2.1, hz hst.2.2.2.1, fun hh => absurd hh (by decide), fun _ => ⟨t1.beside hg hr, t2.beside hg hr⟩⟩)
      · obtain rfl : 9 = j := by simpa using hs
        have e1 : vs 6 = y := hd 6 (by kernel_rfl)
        have e3 : vs 8 = y2 := hd 8 (by kernel_rfl)
        obtain ⟨t1, t2⟩ := hst.2.2.2.2.2 (by decide)
        obtain ⟨aP, kP, e2, p1, -, p3, pL⟩ := t2.linesT
        simp only [e1, e3] at hK ⊢
        have hst2 := hst
        rw [e2] at hst2 hK ⊢
        refine wpOp_step rfl (fun K' hK' => ?_)
        rw [if_pos (by simp [Region.wanted])]
        refine wp_append_rows (.tmp 52) (.tmp 54) rfl B y r1 rfl t1 r2 aP r2.length kP rfl rfl p3 p1 pL (by have := FEW.out.2; omega) hst.1.out ?_
        intro v' w' ho hg
        have hty := fun b (hb : y.ownBlock = some b) => t1.typed b hb
        have hz : ∀ {g : Nat} {cs : List Value}, Blk w3 g 26 cs → Blk w' g 26 cs := fun {g cs} z => z.same (World.grownBy.block hg g z.lt (fun hh => by obtain ⟨⟨cur, fz, q⟩, -⟩ := hty g hh.symm; unfold Blk at z; rw [q] at z; simp at z))
        exact hK' _ _ (hK v' w' ho ⟨fun hh => absurd hh (by decide), fun _ => ⟨hg, fun b hb => (hty b hb).1⟩⟩ ⟨Lib.hid (Nat.le_trans hst.1.out hg.size), hst2.2.1.grown hg hst.1.out (fun b hb => (hty b hb).2.1), hz hst2.2.2.1, hz hst2.2.2.2.1, fun hh => absurd hh (by decide), fun hh => absurd hh (by decide)⟩)
      · simp at hs
    case hdone =>
      intro vs act w3 ha' hst hf
      simp only [fillF, Act.put, List.take_succ_cons, List.take_zero, List.drop_succ_cons, List.drop_zero, List.setIfInBounds_toArray, List.set_cons_zero, List.set_cons_succ] at ha' ⊢
      subst ha'
      obtain ⟨a, b, e10, hSa, hRb⟩ := hf 10 (by decide)
      simp only [Nat.zero_add, Nat.reduceAdd, e10]
      have hbe := hst.2.1
      clear hf hst hS1 hR1 hS2 hR2 zA zB hBW e10
      generalize vs 0 = t0 at *
      generalize vs 1 = t1 at *
      generalize vs 2 = t2 at *
      generalize vs 3 = t3 at *
      generalize vs 4 = t4 at *
      generalize vs 5 = t5 at *
      generalize vs 6 = t6 at *
      generalize vs 7 = t7 at *
      generalize vs 8 = t8 at *
      generalize vs 9 = t9 at *
      rw [← HBe.out] at hbe
      have hb23 : Below w2.heap.size w2 w3 := hbW.out.trans hbe
      have z4 := Z2.out.call hb23
      have c0 := z4.cell (j := 0) rfl
      have c1 := z4.cell (j := 1) rfl
      have y0 := z4.free 0
      have y1 := z4.free 1
      have hB1 : w.heap.size ≤ B := by rw [← HBe.out]; exact HB2.out.size
      have hb03 := below_step HB2.out HB2.out.size hb23
      have hE : Hid (OwnSl ((w3.setCell ⟨w.heap.size, 0, none⟩ a).setCell ⟨w.heap.size, 1, none⟩ b) w.heap.size a (l1 ++ l2) ∧ OwnL ((w3.setCell ⟨w.heap.size, 0, none⟩ a).setCell ⟨w.heap.size, 1, none⟩ b) w.heap.size b (r1 ++ r2) ∧ Below w.heap.size w ((w3.setCell ⟨w.heap.size, 0, none⟩ a).setCell ⟨w.heap.size, 1, none⟩ b)) := by
        have hg := put2_grown w3 w.heap.size a b
        exact ⟨(hSa.base hB1).beside hg (fun b hb => by cases hb; exact ⟨_, _, _, z4, by decide, by decide⟩), (hRb.base hB1).beside hg (fun b hb => by cases hb; exact ⟨_, _, _, z4, by unfold ByteT; decide, by decide⟩), hb03.grown hg hb03.size (fun k h => by cases h; exact Nat.le_refl _)⟩
      have z5 : Blk ((w3.setCell ⟨w.heap.size, 0, none⟩ a).setCell ⟨w.heap.size, 1, none⟩ b) w.heap.size 26 [a, b] := (z4.set 0 _).set 1 _
      have sa1 := hSa.one
      have sb1 := hRb.one
      have s1 := fun (w : World) (d : Addr) (m : Mode) => run_store Tryd.prog w d a m sa1
      have s2 := fun (w : World) (d : Addr) (m : Mode) => run_store Tryd.prog w d b m sb1
      clear Z2 HB2 hb23 z4 hSa hRb hb03 hbe hbW HBe FEW hB1
      go_wp2_with fail
      refine bodyPost_ret (results_arr rfl _ _ w.heap.size [a, b] rfl z5 rfl rfl (by kernel_rfl)) rfl ⟨_, _, rfl, hE.out.1, hE.out.2.1, hE.out.2.2⟩
/-- ████ covered. -/
theorem covered_any (m : Int) (hm : isMode m = true) (m0 : -9223372036854775808 ≤ m) (m1 : m ≤ 9223372036854775807) : ∀ (h : Nat), h ≤ 6 → ∀ (l : List Sl) (rows : List (List UInt8)) (o : List Bool) (al : Option Addr) (cl : Nat) (ao : Option Addr) (co : Nat) (w : World), l.length = 2 ^ h → leavesR m l = .ok rows → l.length ≤ cl → cl ≤ 9223372036854775807 → Slots w al l → o.length = 2 ^ h → o.length ≤ co → co ≤ 9223372036854775807 → Bools w ao o →
    Calls Tryd.prog 12 #[.int .i64 m, .slice al l.length cl, .slice ao o.length co] w (CvdPost m h l rows o w) := by
  intro h
  induction h with
  | zero =>
    intro h6 l rows o al cl ao co w hl hr hc hq hS ho hco hqo hO
    cases hno : o.contains true with
    | false => exact covd_none m hm m0 m1 0 (by decide) l rows o al cl ao co w hl hr hc hq hS hco hqo hO hno
    | true =>
      obtain rfl := bools_one o ho hno
      match l, hl with
      | [x], _ => exact covd_leaf m m0 m1 x rows al cl ao co w hr hc hq hS hco hqo hO
  | succ h ih =>
    intro h6 l rows o al cl ao co w hl hr hc hq hS ho hco hqo hO
    cases hno : o.contains true with
    | false => exact covd_none m hm m0 m1 (h + 1) h6 l rows o al cl ao co w hl hr hc hq hS hco hqo hO hno
    | true =>
      have hcnt := count_some hno
      have e1 : 2 ^ (h + 1) = 2 * 2 ^ h := by rw [Nat.pow_succ, Nat.mul_comm]
      have hp : 0 < 2 ^ h := Nat.pow_pos (by decide)
      have h64 : 2 ^ (h + 1) ≤ 2 ^ 6 := Nat.pow_le_pow_right (by decide) h6
      have e6 : 2 ^ 6 = 64 := by decide
      have ho1 : (o.take (2 ^ h)).length = 2 ^ h := by rw [List.length_take]; omega
      have ho2 : (o.drop (2 ^ h)).length = 2 ^ h := by rw [List.length_drop]; omega
      have hl1 : (l.take (2 ^ h)).length = 2 ^ h := by rw [List.length_take]; omega
      have hl2 : (l.drop (2 ^ h)).length = 2 ^ h := by rw [List.length_drop]; omega
      obtain ⟨hr1, hr2⟩ := leavesR_take m (2 ^ h) l rows hr
      have hrl := leavesR_length m l rows hr
      have hb2 : ∀ W, Below (w.alloc (.cells #[.slice none 0 0, .slice none 0 0] 26)).heap.size (w.alloc (.cells #[.slice none 0 0, .slice none 0 0] 26)) W → Below w.heap.size w W := fun W hW => below_step ((Below.refl _ _).alloc (Nat.le_refl _) _) (((Below.refl w.heap.size w).alloc (Nat.le_refl _) _).size) hW
      have cC := count_any o ao co (w.alloc (.cells #[.slice none 0 0, .slice none 0 0] 26)) (by omega) (hO.keep ((Below.refl _ _).alloc (Nat.le_refl _) _))
      have c1 := fun W hW => ih (by omega) (l.take (2 ^ h)) (rows.take (2 ^ h)) (o.take (2 ^ h)) al cl ao co W hl1 hr1 (by omega) hq ((hS.keep (hb2 W hW)).take _) ho1 (by omega) hqo ((hO.keep (hb2 W hW)).take _)
      have c2 := fun W hW => ih (by omega) (l.drop (2 ^ h)) (rows.drop (2 ^ h)) (o.drop (2 ^ h)) (pieceS al (2 ^ h) cl) (cl - 2 ^ h) (pieceO ao (2 ^ h) co) (co - 2 ^ h) W hl2 hr2 (by omega) (by omega) ((hS.keep (hb2 W hW)).drop _ _ hc) ho2 (by omega) (by omega) ((hO.keep (hb2 W hW)).drop _ _ hco)
      have eS : selO l o = selO (l.take (2 ^ h)) (o.take (2 ^ h)) ++ selO (l.drop (2 ^ h)) (o.drop (2 ^ h)) := by
        rw [← selO_append _ _ _ _ (by rw [hl1, ho1]), List.take_append_drop, List.take_append_drop]
      have eR : covR m (h + 1) rows o = covR m h (rows.take (2 ^ h)) (o.take (2 ^ h)) ++ covR m h (rows.drop (2 ^ h)) (o.drop (2 ^ h)) := by
        show (if o.contains true then _ else _) = _
        rw [hno]; rfl
      have f1 := selO_few (l.take (2 ^ h)) (o.take (2 ^ h))
      have f2 := selO_few (l.drop (2 ^ h)) (o.drop (2 ^ h))
      have f3 := covR_length m h (rows.take (2 ^ h)) (o.take (2 ^ h))
      have f4 := covR_length m h (rows.drop (2 ^ h)) (o.drop (2 ^ h))
      have f5 := resN_few h (o.take (2 ^ h))
      have f6 := resN_few h (o.drop (2 ^ h))
      have sl1 := fun W => sliceS_first al l.length cl (2 ^ h) (by omega) W
      have sl2 := fun W => sliceO_first ao o.length co (2 ^ h) (by omega) W
      have sl3 := fun W => sliceS_last al l.length cl (2 ^ h) (by omega) W
      have sl4 := fun W => sliceO_last ao o.length co (2 ^ h) (by omega) W
      unfold CvdPost at c1 c2 ⊢
      rw [eS, eR]
      rw [hl1, ho1] at c1
      rw [hl2, ho2] at c2
      rw [show l.length - 2 ^ h = 2 ^ h by omega] at sl3
      rw [show o.length - 2 ^ h = 2 ^ h by omega] at sl4
      have hlo : o.length = l.length := by omega
      rw [hlo] at cC sl2 sl4 ⊢
      exact covered_step m h _ _ _ _ l.length (2 ^ h) (o.take (2 ^ h)) (o.drop (2 ^ h)) (o.count true) al cl ao co _ _ _ _ w _ rfl cC (by simp; omega) (by simp; omega) (by omega) (by omega) ⟨sl1, sl2, sl3, sl4⟩ c1 c2 ⟨by omega, by omega⟩
end Go.Proofs.YtcnemacakjemjaaDoor

/-! CONTRACT of the reference's CoverOf, and THE WALK of the law 'chirographlaw.SlotsCovers'. CONDITIONS: package sum's roundWords hold what their initialiser lays ('KW'). -/
namespace Go.Proofs.YtcnemacakjemjaaDoor
open Go.RowKit CodeMath Go.Proofs.YtcnemacakjemjaaDoor.FrameMath
set_option linter.unusedVariables false
set_option maxRecDepth 100000

set_option maxHeartbeats 4000000 in
theorem CoverOfRef_any (m : Int) (l : List Sl) (al : Option Addr) (cl : Nat) (o : List Bool) (ao : Option Addr) (co : Nat) (w : World) (m0 : -9223372036854775808 ≤ m) (m1 : m ≤ 9223372036854775807) (hc : l.length ≤ cl) (hq : cl ≤ 9223372036854775807) (hS : Slots w al l) (hco : o.length ≤ co) (hqo : co ≤ 9223372036854775807) (hO : Bools w ao o) (h : Nat) (h6 : h ≤ 6) (hh : isPow l.length = true → l.length = 2 ^ h) :
    Calls Tryd.prog 5 #[.int .i64 m, .slice al l.length cl, .slice ao o.length co] w (CovPost m h l o w) := by
  obtain ⟨w1, hw1⟩ : ∃ w1, w.alloc (.cells #[.slice none 0 0, .slice none 0 0] 26) = w1 := ⟨_, rfl⟩
  have hb1 : Below w.heap.size w w1 := by rw [← hw1]; exact (Below.refl _ _).alloc (Nat.le_refl _) _
  have zr : Blk w1 w.heap.size 26 [.slice none 0 0, .slice none 0 0] := by rw [← hw1]; exact Blk.new w #[.slice none 0 0, .slice none 0 0] _
  have cL := slotsFault_any m l al cl w1 m0 m1 hc hq (hS.keep hb1)
  unfold CovPost
  cases hR : levelsR m l with
  | err q =>
    rw [hR] at cL
    have q1 := levelsR_ne hR
    have hqn : (q != 0) = true := by simpa using q1
    have eF : faultOf (.err q) = q := rfl
    rw [eF] at cL
    clear hh hc hR hS hco hO q1 eF
    generalize l.length = n at *
    generalize o.length = n2 at *
    go_enter Tryd.func5, Tryd.ntmps5
    go_upto_region 1 with fail
    try rw [hw1]
    clear hw1
    go_wp2_with fail
    refine cL.mono ?_
    rintro e w2 ⟨rfl, hb2⟩
    have z3 := zr.call hb2
    have c0 := z3.cell (j := 0) rfl
    have c1 := z3.cell (j := 1) rfl
    have y0 := z3.free 0
    have y1 := z3.free 1
    have hbb := below_step hb1 hb1.size hb2
    have z4 : Blk ((w2.setCell ⟨w.heap.size, 0, none⟩ (.slice none 0 0)).setCell ⟨w.heap.size, 1, none⟩ (.slice none 0 0)) w.heap.size 26 [.slice none 0 0, .slice none 0 0] := (z3.set 0 _).set 1 _
    have hE : Hid (Below w.heap.size w ((w2.setCell ⟨w.heap.size, 0, none⟩ (.slice none 0 0)).setCell ⟨w.heap.size, 1, none⟩ (.slice none 0 0))) := (hbb.setCell (p := ⟨w.heap.size, 0, none⟩) (Nat.le_refl _) _).setCell (p := ⟨w.heap.size, 1, none⟩) (Nat.le_refl _) _
    clear cL zr z3 hb1 hb2 hbb
    go_wp2_with fail
    refine bodyPost_ret (results_arr_tmp rfl _ _ w.heap.size [.slice none 0 0, .slice none 0 0] rfl z4 rfl rfl (by kernel_rfl)) rfl ⟨rfl, hE.out⟩
  | ok rows =>
    rw [hR] at cL
    have eF : faultOf (.ok rows) = 0 := rfl
    rw [eF] at cL
    obtain ⟨hm, hp, hlv⟩ := levelsR_ok hR
    have hlh := hh hp
    have e6 : 2 ^ 6 = 64 := by decide
    have h64 : 2 ^ h ≤ 2 ^ 6 := Nat.pow_le_pow_right (by decide) h6
    have hnI : (l.length : Int) ≤ 64 := by omega
    by_cases hlo : o.length = l.length
    · simp only [if_pos hlo]
      have hoI : ((o.length : Int) != (l.length : Int)) = false := by simp; omega
      have cC := fun W (hW : Below w.heap.size w W) => covered_any m hm m0 m1 h h6 l rows o al cl ao co W hlh hlv hc hq (hS.keep hW) (by omega) hco hqo (hO.keep hW)
      unfold CvdPost at cC
      clear hh hc hS hO hm hp hlh e6 h64 hlo hco hR hlv eF
      generalize l.length = n at *
      generalize o.length = n2 at *
      generalize selO l o = SS at *
      generalize covR m h rows o = RR at *
      go_enter Tryd.func5, Tryd.ntmps5
      go_upto_region 1 with fail
      try rw [hw1]
      clear hw1
      go_wp2_with fail
      refine cL.mono ?_
      rintro e w2 ⟨rfl, hb2⟩
      have hbb := below_step hb1 hb1.size hb2
      have cc := cC w2 hbb
      clear cL cC
      go_wp2_with fail
      refine cc.mono ?_
      rintro e w3 ⟨sv, rv, rfl, hSl, hRl, hb3⟩
      have z3 := (zr.call hb2).call hb3
      have c0 := z3.cell (j := 0) rfl
      have c1 := z3.cell (j := 1) rfl
      have y0 := z3.free 0
      have y1 := z3.free 1
      have hb03 := below_step hbb hbb.size hb3
      have hg := put2_grown w3 w.heap.size sv rv
      have z4 : Blk ((w3.setCell ⟨w.heap.size, 0, none⟩ sv).setCell ⟨w.heap.size, 1, none⟩ rv) w.heap.size 26 [sv, rv] := (z3.set 0 _).set 1 _
      have hE : Hid (OwnSl _ w.heap.size sv SS ∧ OwnL _ w.heap.size rv RR ∧ Below w.heap.size w ((w3.setCell ⟨w.heap.size, 0, none⟩ sv).setCell ⟨w.heap.size, 1, none⟩ rv)) := ⟨(hSl.base hbb.size).beside hg (fun b hb => by cases hb; exact ⟨_, _, _, z3, by decide, by decide⟩), (hRl.base hbb.size).beside hg (fun b hb => by cases hb; exact ⟨_, _, _, z3, by unfold ByteT; decide, by decide⟩), hb03.grown hg hb03.size (fun k h => by cases h; exact Nat.le_refl _)⟩
      have sa1 := hSl.one
      have sb1 := hRl.one
      have s1 := fun (w : World) (d : Addr) (m : Mode) => run_store Tryd.prog w d sv m sa1
      have s2 := fun (w : World) (d : Addr) (m : Mode) => run_store Tryd.prog w d rv m sb1
      clear cc zr z3 hb1 hb2 hbb hb3 hb03 hg hSl hRl
      go_wp2_with fail
      refine bodyPost_ret (results_arr_tmp rfl _ _ w.heap.size [sv, rv] rfl z4 rfl rfl (by kernel_rfl)) rfl ⟨⟨_, _, rfl, hE.out.1, hE.out.2.1⟩, hE.out.2.2⟩
    · simp only [if_neg hlo]
      have hoI : ((o.length : Int) != (l.length : Int)) = true := by simp; omega
      clear hh hc hS hO hm hp hlh e6 h64 hlo hco hR hlv eF
      generalize l.length = n at *
      generalize o.length = n2 at *
      go_enter Tryd.func5, Tryd.ntmps5
      go_upto_region 1 with fail
      try rw [hw1]
      clear hw1
      go_wp2_with fail
      refine cL.mono ?_
      rintro e w2 ⟨rfl, hb2⟩
      have z3 := zr.call hb2
      have c0 := z3.cell (j := 0) rfl
      have c1 := z3.cell (j := 1) rfl
      have y0 := z3.free 0
      have y1 := z3.free 1
      have hbb := below_step hb1 hb1.size hb2
      have z4 : Blk ((w2.setCell ⟨w.heap.size, 0, none⟩ (.slice none 0 0)).setCell ⟨w.heap.size, 1, none⟩ (.slice none 0 0)) w.heap.size 26 [.slice none 0 0, .slice none 0 0] := (z3.set 0 _).set 1 _
      have hE : Hid (Below w.heap.size w ((w2.setCell ⟨w.heap.size, 0, none⟩ (.slice none 0 0)).setCell ⟨w.heap.size, 1, none⟩ (.slice none 0 0))) := (hbb.setCell (p := ⟨w.heap.size, 0, none⟩) (Nat.le_refl _) _).setCell (p := ⟨w.heap.size, 1, none⟩) (Nat.le_refl _) _
      clear cL zr z3 hb1 hb2 hbb
      go_wp2_with fail
      refine bodyPost_ret (results_arr_tmp rfl _ _ w.heap.size [.slice none 0 0, .slice none 0 0] rfl z4 rfl rfl (by kernel_rfl)) rfl ⟨rfl, hE.out⟩
theorem pow_heightC (n : Nat) : ∃ h, h ≤ 6 ∧ (isPow (n : Int) = true → n = 2 ^ h) := by
  cases hp : isPow (n : Int) with
  | false => exact ⟨0, by decide, fun h => by cases h⟩
  | true =>
    obtain ⟨k, h6, hk⟩ := pow_of hp
    exact ⟨k, h6, fun _ => hk⟩
/-- What both calls leave. -/
def BothC (R : Option (List Sl × List (List UInt8))) (c : Int) (w : World) (e : Ending) (w' : World) : Prop := ∃ a1 k1 n1 a2 k2 n2, e = .returned (.tuple #[.agg #[.slice a1 n1 k1, .slice a2 n2 k2], .int .i64 c]) ∧ Hid (match R with | none => n1 = 0 ∧ n2 = 0 | some (S, L) => n1 = S.length ∧ n2 = L.length ∧ Slots w' a1 S ∧ Lines w' a2 L) ∧ Below w.heap.size w w'
theorem both_of {m : Int} {h : Nat} {l : List Sl} {o : List Bool} {w : World} {e : Ending} {w' : World} (p : CovPost m h l o w e w') : BothC (match levelsR m l with | .err _ => none | .ok rows => if o.length = l.length then some (selO l o, covR m h rows o) else none) (match levelsR m l with | .err c => c | .ok rows => if o.length = l.length then 0 else 1) w e w' := by
  unfold CovPost at p
  obtain ⟨p, hb⟩ := p
  cases hR : levelsR m l with
  | err c =>
    rw [hR] at p
    exact ⟨none, 0, 0, none, 0, 0, p, Lib.hid ⟨rfl, rfl⟩, hb⟩
  | ok rows =>
    rw [hR] at p
    by_cases hlo : o.length = l.length
    · simp only [if_pos hlo] at p ⊢
      obtain ⟨sv, rv, rfl, hS, hL⟩ := p
      obtain ⟨a1, k1, rfl, -, -, -, h1⟩ := hS.slots
      obtain ⟨a2, k2, rfl, -, -, -, h2⟩ := hL.lines
      exact ⟨a1, k1, _, a2, k2, _, rfl, Lib.hid ⟨rfl, rfl, h1, h2⟩, hb⟩
    · simp only [if_neg hlo] at p ⊢
      exact ⟨none, 0, 0, none, 0, 0, p, Lib.hid ⟨rfl, rfl⟩, hb⟩
set_option maxHeartbeats 2000000 in
theorem slotsCovers_walk (m : Int) (l : List Sl) (al : Option Addr) (cl : Nat) (o : List Bool) (ao : Option Addr) (co : Nat) (w : World) (hT : KW w) (m0 : -9223372036854775808 ≤ m) (m1 : m ≤ 9223372036854775807) (hc : l.length ≤ cl) (hq : cl ≤ 9223372036854775807) (hr : l.length ≤ 140737488351232 ∧ ∀ x ∈ l, x.s.length ≤ 140737488351232 ∧ x.d.length ≤ 140737488351232) (hS : Slots w al l) (hco : o.length ≤ co) (hqo : co ≤ 9223372036854775807) (hO : Bools w ao o) :
    Calls Tryd.prog 3 #[.int .i64 m, .slice al l.length cl, .slice ao o.length co] w fun e w' => e = .returned (.bool true) ∧ Below w.heap.size w w' := by
  obtain ⟨h, h6, hh⟩ := pow_heightC l.length
  have cA := (CoverOf_any m l al cl o ao co w m0 m1 hc hq hS hco hqo hO hT h h6 hh).mono fun _ _ p => both_of p
  have cB := fun W (hW : Below w.heap.size w W) => (CoverOfRef_any m l al cl o ao co W m0 m1 hc hq (hS.keep hW) hco hqo (hO.keep hW) h h6 hh).mono fun _ _ p => both_of p
  have hfew : (match levelsR m l with | .err _ => (none : Option (List Sl × List (List UInt8))) | .ok rows => if o.length = l.length then some (selO l o, covR m h rows o) else none) = none ∨ ∃ S L, (match levelsR m l with | .err _ => (none : Option (List Sl × List (List UInt8))) | .ok rows => if o.length = l.length then some (selO l o, covR m h rows o) else none) = some (S, L) ∧ S.length ≤ 100 ∧ L.length ≤ 100 := by
    cases hR : levelsR m l with
    | err c => exact .inl rfl
    | ok rows =>
      simp only
      by_cases hlo : o.length = l.length
      · rw [if_pos hlo]
        obtain ⟨hm, hp, hlv⟩ := levelsR_ok hR
        have hlh := hh hp
        have e6 : 2 ^ 6 = 64 := by decide
        have h64 : 2 ^ h ≤ 2 ^ 6 := Nat.pow_le_pow_right (by decide) h6
        have f1 := selO_few l o
        have f2 := covR_length m h rows o
        have f3 := resN_few h o
        exact .inr ⟨_, _, rfl, by omega, by omega⟩
      · rw [if_neg hlo]; exact .inl rfl
  generalize (match levelsR m l with | .err _ => (none : Option (List Sl × List (List UInt8))) | .ok rows => if o.length = l.length then some (selO l o, covR m h rows o) else none) = R at *
  generalize (match levelsR m l with | .err c => c | .ok rows => if o.length = l.length then (0 : Int) else 1) = C at *
  unfold BothC at cA cB
  have CB := Lib.hid cB
  have HF := Lib.hid hfew
  clear hh h6 hT hc hr hS hco hO cB hfew
  generalize l.length = n at *
  generalize o.length = n2 at *
  go_enter Tryd.func3, Tryd.ntmps3
  go_wp2_with fail
  refine cA.mono ?_
  rintro e w1 ⟨a1, k1, n1, a2, k2, n2', rfl, hA, hb1⟩
  obtain ⟨w2, hw2⟩ : ∃ w2, w1.alloc (.cells #[.slice a1 n1 k1, .slice a2 n2' k2] 26) = w2 := ⟨_, rfl⟩
  have zA : Blk w2 w1.heap.size 26 [.slice a1 n1 k1, .slice a2 n2' k2] := by rw [← hw2]; exact Blk.new w1 #[.slice a1 n1 k1, .slice a2 n2' k2] _
  have hb12 : Below w1.heap.size w1 w2 := by rw [← hw2]; exact (Below.refl _ _).alloc (Nat.le_refl _) _
  have hb02 := below_step hb1 hb1.size hb12
  have cB := CB.out w2 hb02
  clear cA CB hb1
  go_upto_region 2 with fail
  try rw [hw2]
  clear hw2
  obtain ⟨gA, hgA⟩ : ∃ g, w1.heap.size = g := ⟨_, rfl⟩
  rw [hgA] at zA ⊢
  clear hgA
  go_wp2_with fail
  refine cB.mono ?_
  rintro e w3 ⟨a3, k3, n3, a4, k4, n4, rfl, hB, hb3⟩
  obtain ⟨w4, hw4⟩ : ∃ w4, w3.alloc (.cells #[.slice a3 n3 k3, .slice a4 n4 k4] 26) = w4 := ⟨_, rfl⟩
  have zB : Blk w4 w3.heap.size 26 [.slice a3 n3 k3, .slice a4 n4 k4] := by rw [← hw4]; exact Blk.new w3 #[.slice a3 n3 k3, .slice a4 n4 k4] _
  have hb34 : Below w3.heap.size w3 w4 := by rw [← hw4]; exact (Below.refl _ _).alloc (Nat.le_refl _) _
  have hb24 := below_step hb3 hb3.size hb34
  have hb14 := below_step hb12 hb12.size hb24
  have hb04 := below_step hb02 hb02.size hb24
  have zA4 := zA.call hb24
  clear cB
  go_upto_region 3 with fail
  try rw [hw4]
  clear hw4
  obtain ⟨gB, hgB⟩ : ∃ g, w3.heap.size = g := ⟨_, rfl⟩
  rw [hgB] at zB ⊢
  clear hgB
  have q0 := zA4.cell (j := 0) rfl
  have q1 := zA4.cell (j := 1) rfl
  have q2 := zB.cell (j := 0) rfl
  have q3 := zB.cell (j := 1) rfl
  have hCC : (C == C) = true := by simp
  have cS : Calls Tryd.prog 6 #[.agg #[.slice a1 n1 k1, .slice a2 n2' k2], .agg #[.slice a3 n3 k3, .slice a4 n4 k4]] w4 fun e w' => e = .returned (.bool true) ∧ Below w4.heap.size w4 w' := by
    rcases HF.out with rfl | ⟨S, L, rfl, s1, s2⟩
    · obtain ⟨rfl, rfl⟩ := hA.out
      obtain ⟨rfl, rfl⟩ := hB.out
      exact lawCover_same [] [] a1 k1 a2 k2 a3 k3 a4 k4 w4 (.inl rfl) (.inl rfl) (.inl rfl) (.inl rfl) (by simp) (by simp)
    · obtain ⟨rfl, rfl, t1, t2⟩ := hA.out
      obtain ⟨rfl, rfl, t3, t4⟩ := hB.out
      exact lawCover_same S L a1 k1 a2 k2 a3 k3 a4 k4 w4 (t1.keep hb14) (t2.keep hb14) (t3.keep hb34) (t4.keep hb34) (by omega) (by omega)
  clear HF hA hB zA zB zA4 hb12 hb3 hb34 hb24 hb14
  go_wp2_with fail
  refine cS.mono ?_
  rintro e w5 ⟨rfl, hb5⟩
  have hbb := below_step hb04 hb04.size hb5
  clear cS
  go_wp2_with fail
  go_ret
  exact ⟨by first | rfl | simp, hbb⟩
end Go.Proofs.YtcnemacakjemjaaDoor
