/-
  CONTRACT of the reference's did: what an operation says of the values of its parts.
  CONDITIONS: each theorem's own hypotheses.
-/
import Derived.Test.YtfedlchncngafaaGreatDoorRevC
import Derived.Test.YtfedlchncngafaaGreatDoorGKindE
namespace Go.Proofs.YtfedlchncngafaaGreatDoor
open Go.RowKit
set_option linter.unusedVariables false
set_option maxRecDepth 100000

theorem tolE_V (t : Int) (h : t = 0 ∨ t = 1 ∨ t = 2) : tolE t = okE (tolV t) := by rcases h with rfl | rfl | rfl <;> rfl
def fkA (A k : Int) : Prop := k = 0 ∨ k = A
theorem fkA_no {A k : Int} (h1 : (k != 0) = true) (h2 : (k != A) = true) : ¬ fkA A k := by
  unfold fkA; simp at h1 h2; omega
theorem fkA_yes1 {A k : Int} (h1 : (k != 0) = false) : fkA A k := by
  unfold fkA; simp at h1; omega
theorem fkA_yes2 {A k : Int} (h1 : (k != A) = false) : fkA A k := by
  unfold fkA; simp at h1; omega
theorem fit_fk (v : Vl) (A : Int) : fitE v A = true ↔ fkA A v.k := by
  unfold fitE fkA; simp only [Bool.or_eq_true, beq_iff_eq]; omega
theorem trT_ref (v : Vl) (hv : OkV v) (h : fkA 1 v.k) : trT v = refT v ∧ (trT v = 0 ∨ trT v = 1 ∨ trT v = 2) ∧ (v.k ≠ 0 → 0 ≤ v.i ∧ v.i ≤ 1) := by
  rcases hv.cases with rfl | ⟨b, rfl⟩ | ⟨n, rfl, _⟩ | ⟨h3, _⟩ | ⟨s, rfl, _⟩
  · exact ⟨rfl, .inr (.inl rfl), fun h => absurd rfl h⟩
  · cases b
    · exact ⟨rfl, .inl rfl, fun _ => by decide⟩
    · exact ⟨rfl, .inr (.inr rfl), fun _ => by decide⟩
  · unfold fkA at h; exact absurd h (by show ¬ ((2 : Int) = 0 ∨ (2 : Int) = 1); decide)
  · unfold fkA at h; omega
  · unfold fkA at h; exact absurd h (by show ¬ ((4 : Int) = 0 ∨ (4 : Int) = 1); decide)
theorem andT_rng (a b : Int) (ha : a = 0 ∨ a = 1 ∨ a = 2) (hb : b = 0 ∨ b = 1 ∨ b = 2) : (andT a b = 0 ∨ andT a b = 1 ∨ andT a b = 2) ∧ (orT a b = 0 ∨ orT a b = 1 ∨ orT a b = 2) := by
  rcases ha with rfl | rfl | rfl <;> rcases hb with rfl | rfl | rfl <;> decide
set_option maxHeartbeats 16000000 in
theorem didNull_any (v u : Vl) (hv : OkV v) (hu : OkV u) (hnul : u = nulV) (w : World) : Calls Tryz.prog 73 #[.int .i64 17, valV v, valV u] w (RekOk (op1E 17 v) w) := by
  unfold RekOk
  obtain ⟨k, i, b, s⟩ := v
  obtain ⟨k', i', b', s'⟩ := u
  obtain ⟨rfl, rfl, rfl, rfl⟩ : k' = 0 ∧ i' = 0 ∧ b' = 0 ∧ s' = [] := by unfold nulV at hnul; simpa using hnul
  have cQ : ∀ W, Calls Tryz.prog 109 #[.int .i64 17] W fun e w' => e = .returned (.tuple #[.int .i64 0, .int .i64 1]) ∧ w' = W := fun W => asksFor_any 17 W (by decide)
  have cB := fun t ht W => rboolOf_any t ht W
  unfold valV at cB
  obtain ⟨R, hR⟩ : ∃ R, op1E 17 ⟨k, i, b, s⟩ = R := ⟨_, rfl⟩
  rw [hR]
  have hRO : R = okE (booV (k == 0)) := by rw [← hR]; rfl
  have HRO := Lib.hid hRO
  have HV := Lib.hid hv
  have HU := Lib.hid hu
  clear hRO hv hu
  unfold valV
  simp only
  obtain ⟨S, hS⟩ : ∃ S, str s = S := ⟨_, rfl⟩
  obtain ⟨S', hS'⟩ : ∃ S', str ([] : List UInt8) = S' := ⟨_, rfl⟩
  rw [hS, hS']
  have HS := Lib.hid hS
  have HS' := Lib.hid hS'
  clear hS hS' hR
  obtain ⟨z0, z1, z2, hb3⟩ := three_new w #[.int .i64 k, .int .i64 i, .int .u64 b, .string S] #[.int .i64 0, .int .i64 0, .int .u64 0, .string S'] #[.int .i64 0, .int .i64 0, .int .u64 0, .string ⟨#[]⟩] 24 24 24
  generalize hw3 : ((w.alloc (.cells #[.int .i64 k, .int .i64 i, .int .u64 b, .string S] 24)).alloc (.cells #[.int .i64 0, .int .i64 0, .int .u64 0, .string S'] 24)).alloc (.cells #[.int .i64 0, .int .i64 0, .int .u64 0, .string ⟨#[]⟩] 24) = w3 at z0 z1 z2 hb3
  have x0 := z0.alloc (.cells #[.int .i64 k, .int .i64 i, .int .u64 b, .string S, .int .i64 0, .int .i64 0, .int .u64 0, .string S'] 24)
  have x1 := z1.alloc (.cells #[.int .i64 k, .int .i64 i, .int .u64 b, .string S, .int .i64 0, .int .i64 0, .int .u64 0, .string S'] 24)
  have x2 := z2.alloc (.cells #[.int .i64 k, .int .i64 i, .int .u64 b, .string S, .int .i64 0, .int .i64 0, .int .u64 0, .string S'] 24)
  have x3 : Blk (w3.alloc (.cells #[.int .i64 k, .int .i64 i, .int .u64 b, .string S, .int .i64 0, .int .i64 0, .int .u64 0, .string S'] 24)) w3.heap.size 24 [.int .i64 k, .int .i64 i, .int .u64 b, .string S, .int .i64 0, .int .i64 0, .int .u64 0, .string S'] := Blk.new w3 #[.int .i64 k, .int .i64 i, .int .u64 b, .string S, .int .i64 0, .int .i64 0, .int .u64 0, .string S'] 24
  have hb4 := hb3.alloc hb3.size (.cells #[.int .i64 k, .int .i64 i, .int .u64 b, .string S, .int .i64 0, .int .i64 0, .int .u64 0, .string S'] 24)
  obtain ⟨⟨p0, p1, p2, p3⟩, _⟩ := z0.four
  obtain ⟨⟨q0, q1, q2, q3⟩, _⟩ := z1.four
  clear z0 z1 z2
  go_enter Tryz.func73, Tryz.ntmps73
  go_upto_region 1 with fail
  try rw [hw3]
  clear hw3
  go_wp2_with fail
  refine (cQ _).mono ?_
  rintro e w3' ⟨rfl, rfl⟩
  clear cQ
  go_wp2_with fail
  clear p0 p1 p2 p3 q0 q1 q2 q3 hb3
  go_loopw [28] (fun ix wr => ∃ (j : Nat), j ≤ 2 ∧ ix = .int .i64 j ∧ True ∧ Hid (Blk wr w.heap.size 24 [.int .i64 k, .int .i64 i, .int .u64 b, .string S]) ∧ Hid (Blk wr (w.heap.size + 1) 24 [.int .i64 0, .int .i64 0, .int .u64 0, .string S']) ∧ Hid (Blk wr (w.heap.size + 1 + 1) 24 [.int .i64 0, .int .i64 0, .int .u64 0, .string ⟨#[]⟩]) ∧ Hid (Blk wr w3'.heap.size 24 [.int .i64 k, .int .i64 i, .int .u64 b, .string S, .int .i64 0, .int .i64 0, .int .u64 0, .string S']) ∧ Hid (Below w.heap.size w wr)) (fun ix _ => 2 - (intOf ix).toNat)
  case atStart => exact ⟨0, by decide, rfl, trivial, Lib.hid x0, Lib.hid x1, Lib.hid x2, Lib.hid x3, Lib.hid hb4⟩
  case round =>
    obtain ⟨j, hj, rfl, _, hz0, hz1, hz2, hz3, hbw⟩ := hrel
    clear x0 x1 x2 x3 hb4
    by_cases hlt : j < 2
    · rcases (show j = 0 ∨ j = 1 by omega) with rfl | rfl
      · have p0 := hz3.out.cell (j := 0) rfl
        have p1 := hz3.out.cell (j := 1) rfl
        have p2 := hz3.out.cell (j := 2) rfl
        have p3 := hz3.out.cell (j := 3) rfl
        have y0 := hz0.out.alloc (.cells #[.int .i64 k, .int .i64 i, .int .u64 b, .string S] 24)
        have y1 := hz1.out.alloc (.cells #[.int .i64 k, .int .i64 i, .int .u64 b, .string S] 24)
        have y2 := hz2.out.alloc (.cells #[.int .i64 k, .int .i64 i, .int .u64 b, .string S] 24)
        have y3 := hz3.out.alloc (.cells #[.int .i64 k, .int .i64 i, .int .u64 b, .string S] 24)
        have yb := hbw.out.alloc hbw.out.size (.cells #[.int .i64 k, .int .i64 i, .int .u64 b, .string S] 24)
        have zt := Blk.new wr #[.int .i64 k, .int .i64 i, .int .u64 b, .string S] 24
        go_upto_region 5 with fail
        generalize hwa : wr.alloc (.cells #[.int .i64 k, .int .i64 i, .int .u64 b, .string S] 24) = wa at *
        clear hwa p0 p1 p2 p3 hz0 hz1 hz2 hz3 hbw
        generalize wr.heap.size = gt at *
        have t0 := zt.cell (j := 0) rfl
        clear zt
        have Y0 := Lib.hid y0
        have Y1 := Lib.hid y1
        have Y2 := Lib.hid y2
        have Y3 := Lib.hid y3
        have YB := Lib.hid yb
        clear y0 y1 y2 y3 yb
        go_wp2_with fail
        go_roundw
        case rel => exact ⟨1, by decide, rfl, trivial, Y0, Y1, Y2, Y3, YB⟩
        case measure => simp [intOf]
      · have p0 := hz3.out.cell (j := 4) rfl
        have p1 := hz3.out.cell (j := 5) rfl
        have p2 := hz3.out.cell (j := 6) rfl
        have p3 := hz3.out.cell (j := 7) rfl
        have y0 := hz0.out.alloc (.cells #[.int .i64 0, .int .i64 0, .int .u64 0, .string S'] 24)
        have y1 := hz1.out.alloc (.cells #[.int .i64 0, .int .i64 0, .int .u64 0, .string S'] 24)
        have y2 := hz2.out.alloc (.cells #[.int .i64 0, .int .i64 0, .int .u64 0, .string S'] 24)
        have y3 := hz3.out.alloc (.cells #[.int .i64 0, .int .i64 0, .int .u64 0, .string S'] 24)
        have yb := hbw.out.alloc hbw.out.size (.cells #[.int .i64 0, .int .i64 0, .int .u64 0, .string S'] 24)
        have zt := Blk.new wr #[.int .i64 0, .int .i64 0, .int .u64 0, .string S'] 24
        go_upto_region 5 with fail
        generalize hwa : wr.alloc (.cells #[.int .i64 0, .int .i64 0, .int .u64 0, .string S'] 24) = wa at *
        clear hwa p0 p1 p2 p3 hz0 hz1 hz2 hz3 hbw
        generalize wr.heap.size = gt at *
        have t0 := zt.cell (j := 0) rfl
        clear zt
        have Y0 := Lib.hid y0
        have Y1 := Lib.hid y1
        have Y2 := Lib.hid y2
        have Y3 := Lib.hid y3
        have YB := Lib.hid yb
        clear y0 y1 y2 y3 yb
        go_wp2_with fail
        go_roundw
        case rel => exact ⟨2, by decide, rfl, trivial, Y0, Y1, Y2, Y3, YB⟩
        case measure => simp [intOf]
    · obtain rfl : j = 2 := by omega
      have hR := HRO.out
      clear hz3 HRO
      have y0 := hz0.out
      have y1 := hz1.out
      have y2 := hz2.out
      have yb := hbw.out
      clear hz0 hz1 hz2 hbw
      obtain ⟨⟨p0, p1, p2, p3⟩, _⟩ := y0.four
      obtain ⟨⟨q0, q1, q2, q3⟩, _⟩ := y1.four
      obtain ⟨⟨r0, r1, r2, r3⟩, f0, f1, f2, f3⟩ := y2.four
      obtain ⟨kz, ek⟩ : ∃ z, (k == 0) = z := ⟨_, rfl⟩
      rw [ek] at hR
      cases kz
      · go_wp2_with fail
        refine (cB 0 (.inl rfl) _).mono ?_
        rintro e w5 ⟨rfl, hb5⟩
        have y3 := y2.call hb5
        have yc := below_stepE yb yb.size hb5
        clear y0 y1 y2 yb hb5 p0 p1 p2 p3 q0 q1 q2 q3 r0 r1 r2 r3 f0 f1 f2 f3
        obtain ⟨⟨r0, r1, r2, r3⟩, f0, f1, f2, f3⟩ := y3.four
        go_wp2_with fail
        exact bodyPost_ret (results_val rfl _ _ (w.heap.size + 1 + 1) _ _ _ _ rfl y3.set4) rfl ⟨by rw [hR]; rfl, below_set4 yc (by omega)⟩
      · go_wp2_with fail
        refine (cB 2 (.inr (.inr rfl)) _).mono ?_
        rintro e w5 ⟨rfl, hb5⟩
        have y3 := y2.call hb5
        have yc := below_stepE yb yb.size hb5
        clear y0 y1 y2 yb hb5 p0 p1 p2 p3 q0 q1 q2 q3 r0 r1 r2 r3 f0 f1 f2 f3
        obtain ⟨⟨r0, r1, r2, r3⟩, f0, f1, f2, f3⟩ := y3.four
        go_wp2_with fail
        exact bodyPost_ret (results_val rfl _ _ (w.heap.size + 1 + 1) _ _ _ _ rfl y3.set4) rfl ⟨by rw [hR]; rfl, below_set4 yc (by omega)⟩
set_option maxHeartbeats 16000000 in
theorem didCoal_any (v u : Vl) (hv : OkV v) (hu : OkV u) (w : World) : Calls Tryz.prog 73 #[.int .i64 20, valV v, valV u] w (RekOk (op2E 20 v u) w) := by
  unfold RekOk
  obtain ⟨k, i, b, s⟩ := v
  obtain ⟨k', i', b', s'⟩ := u
  have cQ : ∀ W, Calls Tryz.prog 109 #[.int .i64 20] W fun e w' => e = .returned (.tuple #[.int .i64 0, .int .i64 0]) ∧ w' = W := fun W => asksFor_any 20 W (by decide)
  obtain ⟨R, hR⟩ : ∃ R, op2E 20 ⟨k, i, b, s⟩ ⟨k', i', b', s'⟩ = R := ⟨_, rfl⟩
  rw [hR]
  have hRO : R = okE ⟨k', i', b', s'⟩ := by rw [← hR]; rfl
  have HRO := Lib.hid hRO
  have HV := Lib.hid hv
  have HU := Lib.hid hu
  clear hRO hv hu
  unfold valV
  simp only
  obtain ⟨S, hS⟩ : ∃ S, str s = S := ⟨_, rfl⟩
  obtain ⟨S', hS'⟩ : ∃ S', str s' = S' := ⟨_, rfl⟩
  rw [hS, hS']
  have HS := Lib.hid hS
  have HS' := Lib.hid hS'
  clear hS hS' hR
  obtain ⟨z0, z1, z2, hb3⟩ := three_new w #[.int .i64 k, .int .i64 i, .int .u64 b, .string S] #[.int .i64 k', .int .i64 i', .int .u64 b', .string S'] #[.int .i64 0, .int .i64 0, .int .u64 0, .string ⟨#[]⟩] 24 24 24
  generalize hw3 : ((w.alloc (.cells #[.int .i64 k, .int .i64 i, .int .u64 b, .string S] 24)).alloc (.cells #[.int .i64 k', .int .i64 i', .int .u64 b', .string S'] 24)).alloc (.cells #[.int .i64 0, .int .i64 0, .int .u64 0, .string ⟨#[]⟩] 24) = w3 at z0 z1 z2 hb3
  have x0 := z0.alloc (.cells #[.int .i64 k, .int .i64 i, .int .u64 b, .string S, .int .i64 k', .int .i64 i', .int .u64 b', .string S'] 24)
  have x1 := z1.alloc (.cells #[.int .i64 k, .int .i64 i, .int .u64 b, .string S, .int .i64 k', .int .i64 i', .int .u64 b', .string S'] 24)
  have x2 := z2.alloc (.cells #[.int .i64 k, .int .i64 i, .int .u64 b, .string S, .int .i64 k', .int .i64 i', .int .u64 b', .string S'] 24)
  have x3 : Blk (w3.alloc (.cells #[.int .i64 k, .int .i64 i, .int .u64 b, .string S, .int .i64 k', .int .i64 i', .int .u64 b', .string S'] 24)) w3.heap.size 24 [.int .i64 k, .int .i64 i, .int .u64 b, .string S, .int .i64 k', .int .i64 i', .int .u64 b', .string S'] := Blk.new w3 #[.int .i64 k, .int .i64 i, .int .u64 b, .string S, .int .i64 k', .int .i64 i', .int .u64 b', .string S'] 24
  have hb4 := hb3.alloc hb3.size (.cells #[.int .i64 k, .int .i64 i, .int .u64 b, .string S, .int .i64 k', .int .i64 i', .int .u64 b', .string S'] 24)
  obtain ⟨⟨p0, p1, p2, p3⟩, _⟩ := z0.four
  obtain ⟨⟨q0, q1, q2, q3⟩, _⟩ := z1.four
  clear z0 z1 z2
  go_enter Tryz.func73, Tryz.ntmps73
  go_upto_region 1 with fail
  try rw [hw3]
  clear hw3
  go_wp2_with fail
  refine (cQ _).mono ?_
  rintro e w3' ⟨rfl, rfl⟩
  clear cQ
  go_wp2_with fail
  clear p0 p1 p2 p3 q0 q1 q2 q3 hb3
  go_loopw [28] (fun ix wr => ∃ (j : Nat), j ≤ 2 ∧ ix = .int .i64 j ∧ True ∧ Hid (Blk wr w.heap.size 24 [.int .i64 k, .int .i64 i, .int .u64 b, .string S]) ∧ Hid (Blk wr (w.heap.size + 1) 24 [.int .i64 k', .int .i64 i', .int .u64 b', .string S']) ∧ Hid (Blk wr (w.heap.size + 1 + 1) 24 [.int .i64 0, .int .i64 0, .int .u64 0, .string ⟨#[]⟩]) ∧ Hid (Blk wr w3'.heap.size 24 [.int .i64 k, .int .i64 i, .int .u64 b, .string S, .int .i64 k', .int .i64 i', .int .u64 b', .string S']) ∧ Hid (Below w.heap.size w wr)) (fun ix _ => 2 - (intOf ix).toNat)
  case atStart => exact ⟨0, by decide, rfl, trivial, Lib.hid x0, Lib.hid x1, Lib.hid x2, Lib.hid x3, Lib.hid hb4⟩
  case round =>
    obtain ⟨j, hj, rfl, _, hz0, hz1, hz2, hz3, hbw⟩ := hrel
    clear x0 x1 x2 x3 hb4
    by_cases hlt : j < 2
    · rcases (show j = 0 ∨ j = 1 by omega) with rfl | rfl
      · have p0 := hz3.out.cell (j := 0) rfl
        have p1 := hz3.out.cell (j := 1) rfl
        have p2 := hz3.out.cell (j := 2) rfl
        have p3 := hz3.out.cell (j := 3) rfl
        have y0 := hz0.out.alloc (.cells #[.int .i64 k, .int .i64 i, .int .u64 b, .string S] 24)
        have y1 := hz1.out.alloc (.cells #[.int .i64 k, .int .i64 i, .int .u64 b, .string S] 24)
        have y2 := hz2.out.alloc (.cells #[.int .i64 k, .int .i64 i, .int .u64 b, .string S] 24)
        have y3 := hz3.out.alloc (.cells #[.int .i64 k, .int .i64 i, .int .u64 b, .string S] 24)
        have yb := hbw.out.alloc hbw.out.size (.cells #[.int .i64 k, .int .i64 i, .int .u64 b, .string S] 24)
        have zt := Blk.new wr #[.int .i64 k, .int .i64 i, .int .u64 b, .string S] 24
        go_upto_region 5 with fail
        generalize hwa : wr.alloc (.cells #[.int .i64 k, .int .i64 i, .int .u64 b, .string S] 24) = wa at *
        clear hwa p0 p1 p2 p3 hz0 hz1 hz2 hz3 hbw
        generalize wr.heap.size = gt at *
        have t0 := zt.cell (j := 0) rfl
        clear zt
        have Y0 := Lib.hid y0
        have Y1 := Lib.hid y1
        have Y2 := Lib.hid y2
        have Y3 := Lib.hid y3
        have YB := Lib.hid yb
        clear y0 y1 y2 y3 yb
        go_wp2_with fail
        go_roundw
        case rel => exact ⟨1, by decide, rfl, trivial, Y0, Y1, Y2, Y3, YB⟩
        case measure => simp [intOf]
      · have p0 := hz3.out.cell (j := 4) rfl
        have p1 := hz3.out.cell (j := 5) rfl
        have p2 := hz3.out.cell (j := 6) rfl
        have p3 := hz3.out.cell (j := 7) rfl
        have y0 := hz0.out.alloc (.cells #[.int .i64 k', .int .i64 i', .int .u64 b', .string S'] 24)
        have y1 := hz1.out.alloc (.cells #[.int .i64 k', .int .i64 i', .int .u64 b', .string S'] 24)
        have y2 := hz2.out.alloc (.cells #[.int .i64 k', .int .i64 i', .int .u64 b', .string S'] 24)
        have y3 := hz3.out.alloc (.cells #[.int .i64 k', .int .i64 i', .int .u64 b', .string S'] 24)
        have yb := hbw.out.alloc hbw.out.size (.cells #[.int .i64 k', .int .i64 i', .int .u64 b', .string S'] 24)
        have zt := Blk.new wr #[.int .i64 k', .int .i64 i', .int .u64 b', .string S'] 24
        go_upto_region 5 with fail
        generalize hwa : wr.alloc (.cells #[.int .i64 k', .int .i64 i', .int .u64 b', .string S'] 24) = wa at *
        clear hwa p0 p1 p2 p3 hz0 hz1 hz2 hz3 hbw
        generalize wr.heap.size = gt at *
        have t0 := zt.cell (j := 0) rfl
        clear zt
        have Y0 := Lib.hid y0
        have Y1 := Lib.hid y1
        have Y2 := Lib.hid y2
        have Y3 := Lib.hid y3
        have YB := Lib.hid yb
        clear y0 y1 y2 y3 yb
        go_wp2_with fail
        go_roundw
        case rel => exact ⟨2, by decide, rfl, trivial, Y0, Y1, Y2, Y3, YB⟩
        case measure => simp [intOf]
    · obtain rfl : j = 2 := by omega
      have hR := HRO.out
      clear hz3 HRO
      have y0 := hz0.out
      have y1 := hz1.out
      have y2 := hz2.out
      have yb := hbw.out
      clear hz0 hz1 hz2 hbw
      obtain ⟨⟨p0, p1, p2, p3⟩, _⟩ := y0.four
      obtain ⟨⟨q0, q1, q2, q3⟩, _⟩ := y1.four
      obtain ⟨⟨r0, r1, r2, r3⟩, f0, f1, f2, f3⟩ := y2.four
      have hR2 : R = okE ⟨k', i', b', s'⟩ := hR
      clear hR
      go_wp2_with fail
      exact bodyPost_ret (results_val rfl _ _ (w.heap.size + 1 + 1) _ _ _ _ rfl y2.set4) rfl ⟨by rw [hR2, ← HS'.out]; rfl, below_set4 yb (by omega)⟩
set_option maxHeartbeats 16000000 in
theorem didNot_any (v u : Vl) (hv : OkV v) (hu : OkV u) (hnul : u = nulV) (w : World) : Calls Tryz.prog 73 #[.int .i64 4, valV v, valV u] w (RekOk (op1E 4 v) w) := by
  unfold RekOk
  obtain ⟨k, i, b, s⟩ := v
  obtain ⟨k', i', b', s'⟩ := u
  obtain ⟨rfl, rfl, rfl, rfl⟩ : k' = 0 ∧ i' = 0 ∧ b' = 0 ∧ s' = [] := by unfold nulV at hnul; simpa using hnul
  have cQ : ∀ W, Calls Tryz.prog 109 #[.int .i64 4] W fun e w' => e = .returned (.tuple #[.int .i64 1, .int .i64 1]) ∧ w' = W := fun W => asksFor_any 4 W (by decide)
  obtain ⟨R, hR⟩ : ∃ R, op1E 4 ⟨k, i, b, s⟩ = R := ⟨_, rfl⟩
  rw [hR]
  have hRB : (¬ fkA 1 k) ∨ (¬ fkA 1 0) → R = badE 2 := by
    rw [← hR]
    intro h
    unfold op1E
    rw [if_neg (by decide), if_pos rfl, if_neg]
    intro hc
    rw [fit_fk] at hc
    rcases h with h | h
    · exact h hc
    · exact h (.inl rfl)
  have HRB := Lib.hid hRB
  clear hRB
  have hRO : fkA 1 k → fkA 1 0 → R = okE (tolV (2 - refT ⟨k, i, b, s⟩)) ∧ (refT ⟨k, i, b, s⟩ = 0 ∨ refT ⟨k, i, b, s⟩ = 1 ∨ refT ⟨k, i, b, s⟩ = 2) ∧ (k ≠ 0 → 0 ≤ i ∧ i ≤ 1) := fun h _ => by
    obtain ⟨e1, e2, e3⟩ := trT_ref ⟨k, i, b, s⟩ hv h
    rw [← e1]
    refine ⟨?_, e2, e3⟩
    rw [← hR]
    unfold op1E
    rw [if_neg (by decide), if_pos rfl, if_pos ((fit_fk _ _).2 h), tolE_V _ (by omega)]
  have HRO := Lib.hid hRO
  have HV := Lib.hid hv
  have HU := Lib.hid hu
  clear hRO hv hu
  unfold valV
  simp only
  obtain ⟨S, hS⟩ : ∃ S, str s = S := ⟨_, rfl⟩
  obtain ⟨S', hS'⟩ : ∃ S', str ([] : List UInt8) = S' := ⟨_, rfl⟩
  rw [hS, hS']
  have HS := Lib.hid hS
  have HS' := Lib.hid hS'
  clear hS hS' hR
  obtain ⟨z0, z1, z2, hb3⟩ := three_new w #[.int .i64 k, .int .i64 i, .int .u64 b, .string S] #[.int .i64 0, .int .i64 0, .int .u64 0, .string S'] #[.int .i64 0, .int .i64 0, .int .u64 0, .string ⟨#[]⟩] 24 24 24
  generalize hw3 : ((w.alloc (.cells #[.int .i64 k, .int .i64 i, .int .u64 b, .string S] 24)).alloc (.cells #[.int .i64 0, .int .i64 0, .int .u64 0, .string S'] 24)).alloc (.cells #[.int .i64 0, .int .i64 0, .int .u64 0, .string ⟨#[]⟩] 24) = w3 at z0 z1 z2 hb3
  have x0 := z0.alloc (.cells #[.int .i64 k, .int .i64 i, .int .u64 b, .string S, .int .i64 0, .int .i64 0, .int .u64 0, .string S'] 24)
  have x1 := z1.alloc (.cells #[.int .i64 k, .int .i64 i, .int .u64 b, .string S, .int .i64 0, .int .i64 0, .int .u64 0, .string S'] 24)
  have x2 := z2.alloc (.cells #[.int .i64 k, .int .i64 i, .int .u64 b, .string S, .int .i64 0, .int .i64 0, .int .u64 0, .string S'] 24)
  have x3 : Blk (w3.alloc (.cells #[.int .i64 k, .int .i64 i, .int .u64 b, .string S, .int .i64 0, .int .i64 0, .int .u64 0, .string S'] 24)) w3.heap.size 24 [.int .i64 k, .int .i64 i, .int .u64 b, .string S, .int .i64 0, .int .i64 0, .int .u64 0, .string S'] := Blk.new w3 #[.int .i64 k, .int .i64 i, .int .u64 b, .string S, .int .i64 0, .int .i64 0, .int .u64 0, .string S'] 24
  have hb4 := hb3.alloc hb3.size (.cells #[.int .i64 k, .int .i64 i, .int .u64 b, .string S, .int .i64 0, .int .i64 0, .int .u64 0, .string S'] 24)
  obtain ⟨⟨p0, p1, p2, p3⟩, _⟩ := z0.four
  obtain ⟨⟨q0, q1, q2, q3⟩, _⟩ := z1.four
  clear z0 z1 z2
  go_enter Tryz.func73, Tryz.ntmps73
  go_upto_region 1 with fail
  try rw [hw3]
  clear hw3
  go_wp2_with fail
  refine (cQ _).mono ?_
  rintro e w3' ⟨rfl, rfl⟩
  clear cQ
  go_wp2_with fail
  clear p0 p1 p2 p3 q0 q1 q2 q3 hb3
  go_loopw [28] (fun ix wr => ∃ (j : Nat), j ≤ 2 ∧ ix = .int .i64 j ∧ Hid (1 ≤ j → fkA 1 k) ∧ Hid (2 ≤ j → fkA 1 0) ∧ Hid (Blk wr w.heap.size 24 [.int .i64 k, .int .i64 i, .int .u64 b, .string S]) ∧ Hid (Blk wr (w.heap.size + 1) 24 [.int .i64 0, .int .i64 0, .int .u64 0, .string S']) ∧ Hid (Blk wr (w.heap.size + 1 + 1) 24 [.int .i64 0, .int .i64 0, .int .u64 0, .string ⟨#[]⟩]) ∧ Hid (Blk wr w3'.heap.size 24 [.int .i64 k, .int .i64 i, .int .u64 b, .string S, .int .i64 0, .int .i64 0, .int .u64 0, .string S']) ∧ Hid (Below w.heap.size w wr)) (fun ix _ => 2 - (intOf ix).toNat)
  case atStart => exact ⟨0, by decide, rfl, Lib.hid (fun h => absurd h (by decide)), Lib.hid (fun h => absurd h (by decide)), Lib.hid x0, Lib.hid x1, Lib.hid x2, Lib.hid x3, Lib.hid hb4⟩
  case round =>
    obtain ⟨j, hj, rfl, hf1, hf2, hz0, hz1, hz2, hz3, hbw⟩ := hrel
    clear x0 x1 x2 x3 hb4
    by_cases hlt : j < 2
    · rcases (show j = 0 ∨ j = 1 by omega) with rfl | rfl
      · have p0 := hz3.out.cell (j := 0) rfl
        have p1 := hz3.out.cell (j := 1) rfl
        have p2 := hz3.out.cell (j := 2) rfl
        have p3 := hz3.out.cell (j := 3) rfl
        have y0 := hz0.out.alloc (.cells #[.int .i64 k, .int .i64 i, .int .u64 b, .string S] 24)
        have y1 := hz1.out.alloc (.cells #[.int .i64 k, .int .i64 i, .int .u64 b, .string S] 24)
        have y2 := hz2.out.alloc (.cells #[.int .i64 k, .int .i64 i, .int .u64 b, .string S] 24)
        have y3 := hz3.out.alloc (.cells #[.int .i64 k, .int .i64 i, .int .u64 b, .string S] 24)
        have yb := hbw.out.alloc hbw.out.size (.cells #[.int .i64 k, .int .i64 i, .int .u64 b, .string S] 24)
        have zt := Blk.new wr #[.int .i64 k, .int .i64 i, .int .u64 b, .string S] 24
        go_upto_region 5 with fail
        generalize hwa : wr.alloc (.cells #[.int .i64 k, .int .i64 i, .int .u64 b, .string S] 24) = wa at *
        clear hwa p0 p1 p2 p3 hz0 hz1 hz2 hz3 hbw
        generalize wr.heap.size = gt at *
        have t0 := zt.cell (j := 0) rfl
        clear zt
        obtain ⟨n1, e1⟩ : ∃ n, (k != 0) = n := ⟨_, rfl⟩
        obtain ⟨n2, e2⟩ : ∃ n, (k != 1) = n := ⟨_, rfl⟩
        cases n1
        · have FK : fkA 1 k := fkA_yes1 e1
          have HFK := Lib.hid FK
          clear FK
          have Y0 := Lib.hid y0
          have Y1 := Lib.hid y1
          have Y2 := Lib.hid y2
          have Y3 := Lib.hid y3
          have YB := Lib.hid yb
          clear y0 y1 y2 y3 yb
          go_wp2_with fail
          go_roundw
          case rel => exact ⟨1, by decide, rfl, Lib.hid (fun _ => HFK.out), Lib.hid (fun h => absurd h (by decide)), Y0, Y1, Y2, Y3, YB⟩
          case measure => simp [intOf]
        · cases n2
          · have FK : fkA 1 k := fkA_yes2 e2
            have HFK := Lib.hid FK
            clear FK
            have Y0 := Lib.hid y0
            have Y1 := Lib.hid y1
            have Y2 := Lib.hid y2
            have Y3 := Lib.hid y3
            have YB := Lib.hid yb
            clear y0 y1 y2 y3 yb
            go_wp2_with fail
            go_roundw
            case rel => exact ⟨1, by decide, rfl, Lib.hid (fun _ => HFK.out), Lib.hid (fun h => absurd h (by decide)), Y0, Y1, Y2, Y3, YB⟩
            case measure => simp [intOf]
          · have hRB := HRB.out (.inl (fkA_no e1 e2))
            clear HRO
            obtain ⟨⟨r0, r1, r2, r3⟩, f0, f1, f2, f3⟩ := y2.four
            clear y0 y1 y3
            go_wp2_with fail
            exact bodyPost_ret (results_val rfl _ _ (w.heap.size + 1 + 1) _ _ _ _ rfl y2.set4) rfl ⟨by rw [hRB]; rfl, below_set4 yb (by omega)⟩
      · have p0 := hz3.out.cell (j := 4) rfl
        have p1 := hz3.out.cell (j := 5) rfl
        have p2 := hz3.out.cell (j := 6) rfl
        have p3 := hz3.out.cell (j := 7) rfl
        have y0 := hz0.out.alloc (.cells #[.int .i64 0, .int .i64 0, .int .u64 0, .string S'] 24)
        have y1 := hz1.out.alloc (.cells #[.int .i64 0, .int .i64 0, .int .u64 0, .string S'] 24)
        have y2 := hz2.out.alloc (.cells #[.int .i64 0, .int .i64 0, .int .u64 0, .string S'] 24)
        have y3 := hz3.out.alloc (.cells #[.int .i64 0, .int .i64 0, .int .u64 0, .string S'] 24)
        have yb := hbw.out.alloc hbw.out.size (.cells #[.int .i64 0, .int .i64 0, .int .u64 0, .string S'] 24)
        have zt := Blk.new wr #[.int .i64 0, .int .i64 0, .int .u64 0, .string S'] 24
        go_upto_region 5 with fail
        generalize hwa : wr.alloc (.cells #[.int .i64 0, .int .i64 0, .int .u64 0, .string S'] 24) = wa at *
        clear hwa p0 p1 p2 p3 hz0 hz1 hz2 hz3 hbw
        generalize wr.heap.size = gt at *
        have t0 := zt.cell (j := 0) rfl
        clear zt
        have HFK := Lib.hid (show fkA 1 0 from .inl rfl)
        have Y0 := Lib.hid y0
        have Y1 := Lib.hid y1
        have Y2 := Lib.hid y2
        have Y3 := Lib.hid y3
        have YB := Lib.hid yb
        clear y0 y1 y2 y3 yb
        go_wp2_with fail
        go_roundw
        case rel => exact ⟨2, by decide, rfl, Lib.hid (fun _ => hf1.out (by decide)), Lib.hid (fun _ => HFK.out), Y0, Y1, Y2, Y3, YB⟩
        case measure => simp [intOf]
    · obtain rfl : j = 2 := by omega
      have hR := HRO.out (hf1.out (by decide)) (hf2.out (by decide))
      have FK1 := hf1.out (by decide)
      have FK2 := hf2.out (by decide)
      clear HRB hf1 hf2
      clear hz3 HRO
      have y0 := hz0.out
      have y1 := hz1.out
      have y2 := hz2.out
      have yb := hbw.out
      clear hz0 hz1 hz2 hbw
      obtain ⟨⟨p0, p1, p2, p3⟩, _⟩ := y0.four
      obtain ⟨⟨q0, q1, q2, q3⟩, _⟩ := y1.four
      obtain ⟨⟨r0, r1, r2, r3⟩, f0, f1, f2, f3⟩ := y2.four
      obtain ⟨hR, hx, hi⟩ := hR
      have cT := fun W => rtruthOf_any ⟨k, i, b, s⟩ hi W
      unfold valV at cT
      simp only at cT
      rw [HS.out] at cT
      generalize refT ⟨k, i, b, s⟩ = X at *
      have cO := fun W => rOpposite_any X hx W
      have cB := fun W => rboolOf_any (2 - X) (by omega) W
      generalize 2 - X = Y at *
      generalize tolV Y = Q at *
      obtain ⟨zk, zi, zb, zs⟩ := Q
      unfold valV at cB
      simp only at cB
      obtain ⟨ZS, hZS⟩ : ∃ Z, str zs = Z := ⟨_, rfl⟩
      rw [hZS] at cB
      have HZS := Lib.hid hZS
      have HR := Lib.hid hR
      clear hZS hR hx hi FK1 FK2
      go_wp2_with fail
      refine (cT _).mono ?_
      rintro e w4 ⟨rfl, hb4⟩
      have x2 := y2.call hb4
      have xb := below_stepE yb yb.size hb4
      clear y0 y1 y2 yb hb4 p0 p1 p2 p3 q0 q1 q2 q3 r0 r1 r2 r3 f0 f1 f2 f3 cT
      go_wp2_with fail
      refine (cO _).mono ?_
      rintro e w4' ⟨rfl, rfl⟩
      clear cO
      go_wp2_with fail
      refine (cB _).mono ?_
      rintro e w5 ⟨rfl, hb5⟩
      have y3 := x2.call hb5
      have yc := below_stepE xb xb.size hb5
      clear x2 xb hb5 cB
      obtain ⟨⟨r0, r1, r2, r3⟩, f0, f1, f2, f3⟩ := y3.four
      go_wp2_with fail
      exact bodyPost_ret (results_val rfl _ _ (w.heap.size + 1 + 1) _ _ _ _ rfl y3.set4) rfl ⟨by rw [HR.out, ← HZS.out]; rfl, below_set4 yc (by omega)⟩
set_option maxHeartbeats 16000000 in
theorem didLog15_any (v u : Vl) (hv : OkV v) (hu : OkV u) (w : World) : Calls Tryz.prog 73 #[.int .i64 15, valV v, valV u] w (RekOk (op2E 15 v u) w) := by
  unfold RekOk
  obtain ⟨k, i, b, s⟩ := v
  obtain ⟨k', i', b', s'⟩ := u
  have cQ : ∀ W, Calls Tryz.prog 109 #[.int .i64 15] W fun e w' => e = .returned (.tuple #[.int .i64 1, .int .i64 1]) ∧ w' = W := fun W => asksFor_any 15 W (by decide)
  obtain ⟨R, hR⟩ : ∃ R, op2E 15 ⟨k, i, b, s⟩ ⟨k', i', b', s'⟩ = R := ⟨_, rfl⟩
  rw [hR]
  have hRB : (¬ fkA 1 k) ∨ (¬ fkA 1 k') → R = badE 2 := by
    rw [← hR]
    intro h
    unfold op2E
    rw [if_neg (by decide), if_pos rfl]
    rw [if_neg]
    intro hc
    simp only [Bool.and_eq_true, fit_fk] at hc
    rcases h with h | h
    · exact h hc.1
    · exact h hc.2
  have HRB := Lib.hid hRB
  clear hRB
  have hRO : fkA 1 k → fkA 1 k' → R = okE (tolV (andT (refT ⟨k, i, b, s⟩) (refT ⟨k', i', b', s'⟩))) ∧ ((refT ⟨k, i, b, s⟩ = 0 ∨ refT ⟨k, i, b, s⟩ = 1 ∨ refT ⟨k, i, b, s⟩ = 2) ∧ (k ≠ 0 → 0 ≤ i ∧ i ≤ 1)) ∧ ((refT ⟨k', i', b', s'⟩ = 0 ∨ refT ⟨k', i', b', s'⟩ = 1 ∨ refT ⟨k', i', b', s'⟩ = 2) ∧ (k' ≠ 0 → 0 ≤ i' ∧ i' ≤ 1)) := fun h h' => by
    obtain ⟨e1, e2, e3⟩ := trT_ref ⟨k, i, b, s⟩ hv h
    obtain ⟨g1, g2, g3⟩ := trT_ref ⟨k', i', b', s'⟩ hu h'
    rw [← e1, ← g1]
    refine ⟨?_, ⟨e2, e3⟩, ⟨g2, g3⟩⟩
    rw [← hR]
    unfold op2E
    rw [if_neg (by decide), if_pos rfl, if_pos (by rw [Bool.and_eq_true]; exact ⟨(fit_fk _ _).2 h, (fit_fk _ _).2 h'⟩), tolE_V _ (andT_rng _ _ e2 g2).1]
  have HRO := Lib.hid hRO
  have HV := Lib.hid hv
  have HU := Lib.hid hu
  clear hRO hv hu
  unfold valV
  simp only
  obtain ⟨S, hS⟩ : ∃ S, str s = S := ⟨_, rfl⟩
  obtain ⟨S', hS'⟩ : ∃ S', str s' = S' := ⟨_, rfl⟩
  rw [hS, hS']
  have HS := Lib.hid hS
  have HS' := Lib.hid hS'
  clear hS hS' hR
  obtain ⟨z0, z1, z2, hb3⟩ := three_new w #[.int .i64 k, .int .i64 i, .int .u64 b, .string S] #[.int .i64 k', .int .i64 i', .int .u64 b', .string S'] #[.int .i64 0, .int .i64 0, .int .u64 0, .string ⟨#[]⟩] 24 24 24
  generalize hw3 : ((w.alloc (.cells #[.int .i64 k, .int .i64 i, .int .u64 b, .string S] 24)).alloc (.cells #[.int .i64 k', .int .i64 i', .int .u64 b', .string S'] 24)).alloc (.cells #[.int .i64 0, .int .i64 0, .int .u64 0, .string ⟨#[]⟩] 24) = w3 at z0 z1 z2 hb3
  have x0 := z0.alloc (.cells #[.int .i64 k, .int .i64 i, .int .u64 b, .string S, .int .i64 k', .int .i64 i', .int .u64 b', .string S'] 24)
  have x1 := z1.alloc (.cells #[.int .i64 k, .int .i64 i, .int .u64 b, .string S, .int .i64 k', .int .i64 i', .int .u64 b', .string S'] 24)
  have x2 := z2.alloc (.cells #[.int .i64 k, .int .i64 i, .int .u64 b, .string S, .int .i64 k', .int .i64 i', .int .u64 b', .string S'] 24)
  have x3 : Blk (w3.alloc (.cells #[.int .i64 k, .int .i64 i, .int .u64 b, .string S, .int .i64 k', .int .i64 i', .int .u64 b', .string S'] 24)) w3.heap.size 24 [.int .i64 k, .int .i64 i, .int .u64 b, .string S, .int .i64 k', .int .i64 i', .int .u64 b', .string S'] := Blk.new w3 #[.int .i64 k, .int .i64 i, .int .u64 b, .string S, .int .i64 k', .int .i64 i', .int .u64 b', .string S'] 24
  have hb4 := hb3.alloc hb3.size (.cells #[.int .i64 k, .int .i64 i, .int .u64 b, .string S, .int .i64 k', .int .i64 i', .int .u64 b', .string S'] 24)
  obtain ⟨⟨p0, p1, p2, p3⟩, _⟩ := z0.four
  obtain ⟨⟨q0, q1, q2, q3⟩, _⟩ := z1.four
  clear z0 z1 z2
  go_enter Tryz.func73, Tryz.ntmps73
  go_upto_region 1 with fail
  try rw [hw3]
  clear hw3
  go_wp2_with fail
  refine (cQ _).mono ?_
  rintro e w3' ⟨rfl, rfl⟩
  clear cQ
  go_wp2_with fail
  clear p0 p1 p2 p3 q0 q1 q2 q3 hb3
  go_loopw [28] (fun ix wr => ∃ (j : Nat), j ≤ 2 ∧ ix = .int .i64 j ∧ Hid (1 ≤ j → fkA 1 k) ∧ Hid (2 ≤ j → fkA 1 k') ∧ Hid (Blk wr w.heap.size 24 [.int .i64 k, .int .i64 i, .int .u64 b, .string S]) ∧ Hid (Blk wr (w.heap.size + 1) 24 [.int .i64 k', .int .i64 i', .int .u64 b', .string S']) ∧ Hid (Blk wr (w.heap.size + 1 + 1) 24 [.int .i64 0, .int .i64 0, .int .u64 0, .string ⟨#[]⟩]) ∧ Hid (Blk wr w3'.heap.size 24 [.int .i64 k, .int .i64 i, .int .u64 b, .string S, .int .i64 k', .int .i64 i', .int .u64 b', .string S']) ∧ Hid (Below w.heap.size w wr)) (fun ix _ => 2 - (intOf ix).toNat)
  case atStart => exact ⟨0, by decide, rfl, Lib.hid (fun h => absurd h (by decide)), Lib.hid (fun h => absurd h (by decide)), Lib.hid x0, Lib.hid x1, Lib.hid x2, Lib.hid x3, Lib.hid hb4⟩
  case round =>
    obtain ⟨j, hj, rfl, hf1, hf2, hz0, hz1, hz2, hz3, hbw⟩ := hrel
    clear x0 x1 x2 x3 hb4
    by_cases hlt : j < 2
    · rcases (show j = 0 ∨ j = 1 by omega) with rfl | rfl
      · have p0 := hz3.out.cell (j := 0) rfl
        have p1 := hz3.out.cell (j := 1) rfl
        have p2 := hz3.out.cell (j := 2) rfl
        have p3 := hz3.out.cell (j := 3) rfl
        have y0 := hz0.out.alloc (.cells #[.int .i64 k, .int .i64 i, .int .u64 b, .string S] 24)
        have y1 := hz1.out.alloc (.cells #[.int .i64 k, .int .i64 i, .int .u64 b, .string S] 24)
        have y2 := hz2.out.alloc (.cells #[.int .i64 k, .int .i64 i, .int .u64 b, .string S] 24)
        have y3 := hz3.out.alloc (.cells #[.int .i64 k, .int .i64 i, .int .u64 b, .string S] 24)
        have yb := hbw.out.alloc hbw.out.size (.cells #[.int .i64 k, .int .i64 i, .int .u64 b, .string S] 24)
        have zt := Blk.new wr #[.int .i64 k, .int .i64 i, .int .u64 b, .string S] 24
        go_upto_region 5 with fail
        generalize hwa : wr.alloc (.cells #[.int .i64 k, .int .i64 i, .int .u64 b, .string S] 24) = wa at *
        clear hwa p0 p1 p2 p3 hz0 hz1 hz2 hz3 hbw
        generalize wr.heap.size = gt at *
        have t0 := zt.cell (j := 0) rfl
        clear zt
        obtain ⟨n1, e1⟩ : ∃ n, (k != 0) = n := ⟨_, rfl⟩
        obtain ⟨n2, e2⟩ : ∃ n, (k != 1) = n := ⟨_, rfl⟩
        cases n1
        · have FK : fkA 1 k := fkA_yes1 e1
          have HFK := Lib.hid FK
          clear FK
          have Y0 := Lib.hid y0
          have Y1 := Lib.hid y1
          have Y2 := Lib.hid y2
          have Y3 := Lib.hid y3
          have YB := Lib.hid yb
          clear y0 y1 y2 y3 yb
          go_wp2_with fail
          go_roundw
          case rel => exact ⟨1, by decide, rfl, Lib.hid (fun _ => HFK.out), Lib.hid (fun h => absurd h (by decide)), Y0, Y1, Y2, Y3, YB⟩
          case measure => simp [intOf]
        · cases n2
          · have FK : fkA 1 k := fkA_yes2 e2
            have HFK := Lib.hid FK
            clear FK
            have Y0 := Lib.hid y0
            have Y1 := Lib.hid y1
            have Y2 := Lib.hid y2
            have Y3 := Lib.hid y3
            have YB := Lib.hid yb
            clear y0 y1 y2 y3 yb
            go_wp2_with fail
            go_roundw
            case rel => exact ⟨1, by decide, rfl, Lib.hid (fun _ => HFK.out), Lib.hid (fun h => absurd h (by decide)), Y0, Y1, Y2, Y3, YB⟩
            case measure => simp [intOf]
          · have hRB := HRB.out (.inl (fkA_no e1 e2))
            clear HRO
            obtain ⟨⟨r0, r1, r2, r3⟩, f0, f1, f2, f3⟩ := y2.four
            clear y0 y1 y3
            go_wp2_with fail
            exact bodyPost_ret (results_val rfl _ _ (w.heap.size + 1 + 1) _ _ _ _ rfl y2.set4) rfl ⟨by rw [hRB]; rfl, below_set4 yb (by omega)⟩
      · have p0 := hz3.out.cell (j := 4) rfl
        have p1 := hz3.out.cell (j := 5) rfl
        have p2 := hz3.out.cell (j := 6) rfl
        have p3 := hz3.out.cell (j := 7) rfl
        have y0 := hz0.out.alloc (.cells #[.int .i64 k', .int .i64 i', .int .u64 b', .string S'] 24)
        have y1 := hz1.out.alloc (.cells #[.int .i64 k', .int .i64 i', .int .u64 b', .string S'] 24)
        have y2 := hz2.out.alloc (.cells #[.int .i64 k', .int .i64 i', .int .u64 b', .string S'] 24)
        have y3 := hz3.out.alloc (.cells #[.int .i64 k', .int .i64 i', .int .u64 b', .string S'] 24)
        have yb := hbw.out.alloc hbw.out.size (.cells #[.int .i64 k', .int .i64 i', .int .u64 b', .string S'] 24)
        have zt := Blk.new wr #[.int .i64 k', .int .i64 i', .int .u64 b', .string S'] 24
        go_upto_region 5 with fail
        generalize hwa : wr.alloc (.cells #[.int .i64 k', .int .i64 i', .int .u64 b', .string S'] 24) = wa at *
        clear hwa p0 p1 p2 p3 hz0 hz1 hz2 hz3 hbw
        generalize wr.heap.size = gt at *
        have t0 := zt.cell (j := 0) rfl
        clear zt
        obtain ⟨n1, e1⟩ : ∃ n, (k' != 0) = n := ⟨_, rfl⟩
        obtain ⟨n2, e2⟩ : ∃ n, (k' != 1) = n := ⟨_, rfl⟩
        cases n1
        · have FK : fkA 1 k' := fkA_yes1 e1
          have HFK := Lib.hid FK
          clear FK
          have Y0 := Lib.hid y0
          have Y1 := Lib.hid y1
          have Y2 := Lib.hid y2
          have Y3 := Lib.hid y3
          have YB := Lib.hid yb
          clear y0 y1 y2 y3 yb
          go_wp2_with fail
          go_roundw
          case rel => exact ⟨2, by decide, rfl, Lib.hid (fun _ => hf1.out (by decide)), Lib.hid (fun _ => HFK.out), Y0, Y1, Y2, Y3, YB⟩
          case measure => simp [intOf]
        · cases n2
          · have FK : fkA 1 k' := fkA_yes2 e2
            have HFK := Lib.hid FK
            clear FK
            have Y0 := Lib.hid y0
            have Y1 := Lib.hid y1
            have Y2 := Lib.hid y2
            have Y3 := Lib.hid y3
            have YB := Lib.hid yb
            clear y0 y1 y2 y3 yb
            go_wp2_with fail
            go_roundw
            case rel => exact ⟨2, by decide, rfl, Lib.hid (fun _ => hf1.out (by decide)), Lib.hid (fun _ => HFK.out), Y0, Y1, Y2, Y3, YB⟩
            case measure => simp [intOf]
          · have hRB := HRB.out (.inr (fkA_no e1 e2))
            clear HRO
            obtain ⟨⟨r0, r1, r2, r3⟩, f0, f1, f2, f3⟩ := y2.four
            clear y0 y1 y3
            go_wp2_with fail
            exact bodyPost_ret (results_val rfl _ _ (w.heap.size + 1 + 1) _ _ _ _ rfl y2.set4) rfl ⟨by rw [hRB]; rfl, below_set4 yb (by omega)⟩
    · obtain rfl : j = 2 := by omega
      have hR := HRO.out (hf1.out (by decide)) (hf2.out (by decide))
      have FK1 := hf1.out (by decide)
      have FK2 := hf2.out (by decide)
      clear HRB hf1 hf2
      clear hz3 HRO
      have y0 := hz0.out
      have y1 := hz1.out
      have y2 := hz2.out
      have yb := hbw.out
      clear hz0 hz1 hz2 hbw
      obtain ⟨⟨p0, p1, p2, p3⟩, _⟩ := y0.four
      obtain ⟨⟨q0, q1, q2, q3⟩, _⟩ := y1.four
      obtain ⟨⟨r0, r1, r2, r3⟩, f0, f1, f2, f3⟩ := y2.four
      obtain ⟨hR, ⟨hx, hi⟩, hx', hi'⟩ := hR
      have cT := fun W => rtruthOf_any ⟨k, i, b, s⟩ hi W
      have cU := fun W => rtruthOf_any ⟨k', i', b', s'⟩ hi' W
      unfold valV at cT cU
      simp only at cT cU
      rw [HS.out] at cT
      rw [HS'.out] at cU
      generalize refT ⟨k, i, b, s⟩ = X at *
      generalize refT ⟨k', i', b', s'⟩ = Y at *
      have cL : ∀ W, Calls Tryz.prog 110 #[.int .i64 1, .int .i64 X, .int .i64 Y] W fun e w' => e = .returned (.tuple #[.int .i64 (andT X Y), .int .i64 0]) ∧ Below W.heap.size W w' := fun W => (rLogic_any 1 X Y (by decide) hx hx' W).mono fun e w' ⟨h1, h2⟩ => ⟨by rw [h1]; rfl, by rw [h2]; exact Below.refl _ _⟩
      have cB := fun W => rboolOf_any (andT X Y) (andT_rng X Y hx hx').1 W
      generalize andT X Y = Z at *
      generalize tolV Z = Q at *
      obtain ⟨zk, zi, zb, zs⟩ := Q
      unfold valV at cB
      simp only at cB
      obtain ⟨ZS, hZS⟩ : ∃ Z, str zs = Z := ⟨_, rfl⟩
      rw [hZS] at cB
      have HZS := Lib.hid hZS
      have HR := Lib.hid hR
      clear hZS hR hx hi hx' hi' FK1 FK2 p0 p1 p2 p3 q0 q1 q2 q3 r0 r1 r2 r3 f0 f1 f2 f3
      go_upto_region 15 with fail
      refine wp_region_det 12 (by kernel_rfl) (by kernel_rfl) (by kernel_rfl) ?_
      simp only [List.take_succ_cons, List.take_zero, List.drop_succ_cons, List.drop_zero]
      apply wpDet_plain _ rfl; (focus (intro W hW; go_simp; exact ⟨rfl, Below.refl _ _⟩)); simp only [Act.put, List.setIfInBounds_toArray, List.set_cons_zero, List.set_cons_succ]
      apply wpDet_plain _ rfl; (focus (intro W hW; go_simp; exact ⟨rfl, Below.refl _ _⟩)); simp only [Act.put, List.setIfInBounds_toArray, List.set_cons_zero, List.set_cons_succ]
      apply wpDet_plain _ rfl; (focus (intro W hW; go_simp; exact ⟨rfl, Below.refl _ _⟩)); simp only [Act.put, List.setIfInBounds_toArray, List.set_cons_zero, List.set_cons_succ]
      apply wpDet_plain _ rfl; (focus (intro W hW; have c0 := (y0.call hW).cell (j := 0) rfl; have c1 := (y0.call hW).cell (j := 1) rfl; have c2 := (y0.call hW).cell (j := 2) rfl; have c3 := (y0.call hW).cell (j := 3) rfl; go_simp; exact ⟨rfl, Below.refl _ _⟩)); simp only [Act.put, List.setIfInBounds_toArray, List.set_cons_zero, List.set_cons_succ]
      apply wpDet_plain _ rfl; (focus (intro W hW; go_simp; exact cT W)); simp only [Act.put, List.setIfInBounds_toArray, List.set_cons_zero, List.set_cons_succ]
      apply wpDet_plain _ rfl; (focus (intro W hW; have c0 := (y1.call hW).cell (j := 0) rfl; have c1 := (y1.call hW).cell (j := 1) rfl; have c2 := (y1.call hW).cell (j := 2) rfl; have c3 := (y1.call hW).cell (j := 3) rfl; go_simp; exact ⟨rfl, Below.refl _ _⟩)); simp only [Act.put, List.setIfInBounds_toArray, List.set_cons_zero, List.set_cons_succ]
      apply wpDet_plain _ rfl; (focus (intro W hW; go_simp; exact cU W)); simp only [Act.put, List.setIfInBounds_toArray, List.set_cons_zero, List.set_cons_succ]
      apply wpDet_plain _ rfl; (focus (intro W hW; go_simp; exact cL W)); simp only [Act.put, List.setIfInBounds_toArray, List.set_cons_zero, List.set_cons_succ]
      apply wpDet_plain _ rfl; (focus (intro W hW; go_simp; exact ⟨rfl, Below.refl _ _⟩)); simp only [Act.put, List.setIfInBounds_toArray, List.set_cons_zero, List.set_cons_succ]
      apply wpDet_plain _ rfl; (focus (intro W hW; go_simp; exact ⟨rfl, Below.refl _ _⟩)); simp only [Act.put, List.setIfInBounds_toArray, List.set_cons_zero, List.set_cons_succ]
      apply wpDet_plain _ rfl; (focus (intro W hW; go_simp; exact ⟨rfl, Below.refl _ _⟩)); simp only [Act.put, List.setIfInBounds_toArray, List.set_cons_zero, List.set_cons_succ]
      apply wpDet_plain _ rfl; (focus (intro W hW; go_simp; exact ⟨rfl, Below.refl _ _⟩)); simp only [Act.put, List.setIfInBounds_toArray, List.set_cons_zero, List.set_cons_succ]
      refine wpDet_nil ?_; intro W hW
      have x2 := y2.call hW
      have xb := below_stepE yb yb.size hW
      clear y0 y1 y2 yb hW cT cU cL
      go_wp2_with fail
      refine (cB _).mono ?_
      rintro e w5 ⟨rfl, hb5⟩
      have y3 := x2.call hb5
      have yc := below_stepE xb xb.size hb5
      clear x2 xb hb5 cB
      obtain ⟨⟨r0, r1, r2, r3⟩, f0, f1, f2, f3⟩ := y3.four
      go_wp2_with fail
      exact bodyPost_ret (results_val rfl _ _ (w.heap.size + 1 + 1) _ _ _ _ rfl y3.set4) rfl ⟨by rw [HR.out, ← HZS.out]; rfl, below_set4 yc (by omega)⟩
set_option maxHeartbeats 16000000 in
theorem didLog16_any (v u : Vl) (hv : OkV v) (hu : OkV u) (w : World) : Calls Tryz.prog 73 #[.int .i64 16, valV v, valV u] w (RekOk (op2E 16 v u) w) := by
  unfold RekOk
  obtain ⟨k, i, b, s⟩ := v
  obtain ⟨k', i', b', s'⟩ := u
  have cQ : ∀ W, Calls Tryz.prog 109 #[.int .i64 16] W fun e w' => e = .returned (.tuple #[.int .i64 1, .int .i64 1]) ∧ w' = W := fun W => asksFor_any 16 W (by decide)
  obtain ⟨R, hR⟩ : ∃ R, op2E 16 ⟨k, i, b, s⟩ ⟨k', i', b', s'⟩ = R := ⟨_, rfl⟩
  rw [hR]
  have hRB : (¬ fkA 1 k) ∨ (¬ fkA 1 k') → R = badE 2 := by
    rw [← hR]
    intro h
    unfold op2E
    rw [if_neg (by decide), if_neg (by decide), if_pos rfl]
    rw [if_neg]
    intro hc
    simp only [Bool.and_eq_true, fit_fk] at hc
    rcases h with h | h
    · exact h hc.1
    · exact h hc.2
  have HRB := Lib.hid hRB
  clear hRB
  have hRO : fkA 1 k → fkA 1 k' → R = okE (tolV (orT (refT ⟨k, i, b, s⟩) (refT ⟨k', i', b', s'⟩))) ∧ ((refT ⟨k, i, b, s⟩ = 0 ∨ refT ⟨k, i, b, s⟩ = 1 ∨ refT ⟨k, i, b, s⟩ = 2) ∧ (k ≠ 0 → 0 ≤ i ∧ i ≤ 1)) ∧ ((refT ⟨k', i', b', s'⟩ = 0 ∨ refT ⟨k', i', b', s'⟩ = 1 ∨ refT ⟨k', i', b', s'⟩ = 2) ∧ (k' ≠ 0 → 0 ≤ i' ∧ i' ≤ 1)) := fun h h' => by
    obtain ⟨e1, e2, e3⟩ := trT_ref ⟨k, i, b, s⟩ hv h
    obtain ⟨g1, g2, g3⟩ := trT_ref ⟨k', i', b', s'⟩ hu h'
    rw [← e1, ← g1]
    refine ⟨?_, ⟨e2, e3⟩, ⟨g2, g3⟩⟩
    rw [← hR]
    unfold op2E
    rw [if_neg (by decide), if_neg (by decide), if_pos rfl, if_pos (by rw [Bool.and_eq_true]; exact ⟨(fit_fk _ _).2 h, (fit_fk _ _).2 h'⟩), tolE_V _ (andT_rng _ _ e2 g2).2]
  have HRO := Lib.hid hRO
  have HV := Lib.hid hv
  have HU := Lib.hid hu
  clear hRO hv hu
  unfold valV
  simp only
  obtain ⟨S, hS⟩ : ∃ S, str s = S := ⟨_, rfl⟩
  obtain ⟨S', hS'⟩ : ∃ S', str s' = S' := ⟨_, rfl⟩
  rw [hS, hS']
  have HS := Lib.hid hS
  have HS' := Lib.hid hS'
  clear hS hS' hR
  obtain ⟨z0, z1, z2, hb3⟩ := three_new w #[.int .i64 k, .int .i64 i, .int .u64 b, .string S] #[.int .i64 k', .int .i64 i', .int .u64 b', .string S'] #[.int .i64 0, .int .i64 0, .int .u64 0, .string ⟨#[]⟩] 24 24 24
  generalize hw3 : ((w.alloc (.cells #[.int .i64 k, .int .i64 i, .int .u64 b, .string S] 24)).alloc (.cells #[.int .i64 k', .int .i64 i', .int .u64 b', .string S'] 24)).alloc (.cells #[.int .i64 0, .int .i64 0, .int .u64 0, .string ⟨#[]⟩] 24) = w3 at z0 z1 z2 hb3
  have x0 := z0.alloc (.cells #[.int .i64 k, .int .i64 i, .int .u64 b, .string S, .int .i64 k', .int .i64 i', .int .u64 b', .string S'] 24)
  have x1 := z1.alloc (.cells #[.int .i64 k, .int .i64 i, .int .u64 b, .string S, .int .i64 k', .int .i64 i', .int .u64 b', .string S'] 24)
  have x2 := z2.alloc (.cells #[.int .i64 k, .int .i64 i, .int .u64 b, .string S, .int .i64 k', .int .i64 i', .int .u64 b', .string S'] 24)
  have x3 : Blk (w3.alloc (.cells #[.int .i64 k, .int .i64 i, .int .u64 b, .string S, .int .i64 k', .int .i64 i', .int .u64 b', .string S'] 24)) w3.heap.size 24 [.int .i64 k, .int .i64 i, .int .u64 b, .string S, .int .i64 k', .int .i64 i', .int .u64 b', .string S'] := Blk.new w3 #[.int .i64 k, .int .i64 i, .int .u64 b, .string S, .int .i64 k', .int .i64 i', .int .u64 b', .string S'] 24
  have hb4 := hb3.alloc hb3.size (.cells #[.int .i64 k, .int .i64 i, .int .u64 b, .string S, .int .i64 k', .int .i64 i', .int .u64 b', .string S'] 24)
  obtain ⟨⟨p0, p1, p2, p3⟩, _⟩ := z0.four
  obtain ⟨⟨q0, q1, q2, q3⟩, _⟩ := z1.four
  clear z0 z1 z2
  go_enter Tryz.func73, Tryz.ntmps73
  go_upto_region 1 with fail
  try rw [hw3]
  clear hw3
  go_wp2_with fail
  refine (cQ _).mono ?_
  rintro e w3' ⟨rfl, rfl⟩
  clear cQ
  go_wp2_with fail
  clear p0 p1 p2 p3 q0 q1 q2 q3 hb3
  go_loopw [28] (fun ix wr => ∃ (j : Nat), j ≤ 2 ∧ ix = .int .i64 j ∧ Hid (1 ≤ j → fkA 1 k) ∧ Hid (2 ≤ j → fkA 1 k') ∧ Hid (Blk wr w.heap.size 24 [.int .i64 k, .int .i64 i, .int .u64 b, .string S]) ∧ Hid (Blk wr (w.heap.size + 1) 24 [.int .i64 k', .int .i64 i', .int .u64 b', .string S']) ∧ Hid (Blk wr (w.heap.size + 1 + 1) 24 [.int .i64 0, .int .i64 0, .int .u64 0, .string ⟨#[]⟩]) ∧ Hid (Blk wr w3'.heap.size 24 [.int .i64 k, .int .i64 i, .int .u64 b, .string S, .int .i64 k', .int .i64 i', .int .u64 b', .string S']) ∧ Hid (Below w.heap.size w wr)) (fun ix _ => 2 - (intOf ix).toNat)
  case atStart => exact ⟨0, by decide, rfl, Lib.hid (fun h => absurd h (by decide)), Lib.hid (fun h => absurd h (by decide)), Lib.hid x0, Lib.hid x1, Lib.hid x2, Lib.hid x3, Lib.hid hb4⟩
  case round =>
    obtain ⟨j, hj, rfl, hf1, hf2, hz0, hz1, hz2, hz3, hbw⟩ := hrel
    clear x0 x1 x2 x3 hb4
    by_cases hlt : j < 2
    · rcases (show j = 0 ∨ j = 1 by omega) with rfl | rfl
      · have p0 := hz3.out.cell (j := 0) rfl
        have p1 := hz3.out.cell (j := 1) rfl
        have p2 := hz3.out.cell (j := 2) rfl
        have p3 := hz3.out.cell (j := 3) rfl
        have y0 := hz0.out.alloc (.cells #[.int .i64 k, .int .i64 i, .int .u64 b, .string S] 24)
        have y1 := hz1.out.alloc (.cells #[.int .i64 k, .int .i64 i, .int .u64 b, .string S] 24)
        have y2 := hz2.out.alloc (.cells #[.int .i64 k, .int .i64 i, .int .u64 b, .string S] 24)
        have y3 := hz3.out.alloc (.cells #[.int .i64 k, .int .i64 i, .int .u64 b, .string S] 24)
        have yb := hbw.out.alloc hbw.out.size (.cells #[.int .i64 k, .int .i64 i, .int .u64 b, .string S] 24)
        have zt := Blk.new wr #[.int .i64 k, .int .i64 i, .int .u64 b, .string S] 24
        go_upto_region 5 with fail
        generalize hwa : wr.alloc (.cells #[.int .i64 k, .int .i64 i, .int .u64 b, .string S] 24) = wa at *
        clear hwa p0 p1 p2 p3 hz0 hz1 hz2 hz3 hbw
        generalize wr.heap.size = gt at *
        have t0 := zt.cell (j := 0) rfl
        clear zt
        obtain ⟨n1, e1⟩ : ∃ n, (k != 0) = n := ⟨_, rfl⟩
        obtain ⟨n2, e2⟩ : ∃ n, (k != 1) = n := ⟨_, rfl⟩
        cases n1
        · have FK : fkA 1 k := fkA_yes1 e1
          have HFK := Lib.hid FK
          clear FK
          have Y0 := Lib.hid y0
          have Y1 := Lib.hid y1
          have Y2 := Lib.hid y2
          have Y3 := Lib.hid y3
          have YB := Lib.hid yb
          clear y0 y1 y2 y3 yb
          go_wp2_with fail
          go_roundw
          case rel => exact ⟨1, by decide, rfl, Lib.hid (fun _ => HFK.out), Lib.hid (fun h => absurd h (by decide)), Y0, Y1, Y2, Y3, YB⟩
          case measure => simp [intOf]
        · cases n2
          · have FK : fkA 1 k := fkA_yes2 e2
            have HFK := Lib.hid FK
            clear FK
            have Y0 := Lib.hid y0
            have Y1 := Lib.hid y1
            have Y2 := Lib.hid y2
            have Y3 := Lib.hid y3
            have YB := Lib.hid yb
            clear y0 y1 y2 y3 yb
            go_wp2_with fail
            go_roundw
            case rel => exact ⟨1, by decide, rfl, Lib.hid (fun _ => HFK.out), Lib.hid (fun h => absurd h (by decide)), Y0, Y1, Y2, Y3, YB⟩
            case measure => simp [intOf]
          · have hRB := HRB.out (.inl (fkA_no e1 e2))
            clear HRO
            obtain ⟨⟨r0, r1, r2, r3⟩, f0, f1, f2, f3⟩ := y2.four
            clear y0 y1 y3
            go_wp2_with fail
            exact bodyPost_ret (results_val rfl _ _ (w.heap.size + 1 + 1) _ _ _ _ rfl y2.set4) rfl ⟨by rw [hRB]; rfl, below_set4 yb (by omega)⟩
      · have p0 := hz3.out.cell (j := 4) rfl
        have p1 := hz3.out.cell (j := 5) rfl
        have p2 := hz3.out.cell (j := 6) rfl
        have p3 := hz3.out.cell (j := 7) rfl
        have y0 := hz0.out.alloc (.cells #[.int .i64 k', .int .i64 i', .int .u64 b', .string S'] 24)
        have y1 := hz1.out.alloc (.cells #[.int .i64 k', .int .i64 i', .int .u64 b', .string S'] 24)
        have y2 := hz2.out.alloc (.cells #[.int .i64 k', .int .i64 i', .int .u64 b', .string S'] 24)
        have y3 := hz3.out.alloc (.cells #[.int .i64 k', .int .i64 i', .int .u64 b', .string S'] 24)
        have yb := hbw.out.alloc hbw.out.size (.cells #[.int .i64 k', .int .i64 i', .int .u64 b', .string S'] 24)
        have zt := Blk.new wr #[.int .i64 k', .int .i64 i', .int .u64 b', .string S'] 24
        go_upto_region 5 with fail
        generalize hwa : wr.alloc (.cells #[.int .i64 k', .int .i64 i', .int .u64 b', .string S'] 24) = wa at *
        clear hwa p0 p1 p2 p3 hz0 hz1 hz2 hz3 hbw
        generalize wr.heap.size = gt at *
        have t0 := zt.cell (j := 0) rfl
        clear zt
        obtain ⟨n1, e1⟩ : ∃ n, (k' != 0) = n := ⟨_, rfl⟩
        obtain ⟨n2, e2⟩ : ∃ n, (k' != 1) = n := ⟨_, rfl⟩
        cases n1
        · have FK : fkA 1 k' := fkA_yes1 e1
          have HFK := Lib.hid FK
          clear FK
          have Y0 := Lib.hid y0
          have Y1 := Lib.hid y1
          have Y2 := Lib.hid y2
          have Y3 := Lib.hid y3
          have YB := Lib.hid yb
          clear y0 y1 y2 y3 yb
          go_wp2_with fail
          go_roundw
          case rel => exact ⟨2, by decide, rfl, Lib.hid (fun _ => hf1.out (by decide)), Lib.hid (fun _ => HFK.out), Y0, Y1, Y2, Y3, YB⟩
          case measure => simp [intOf]
        · cases n2
          · have FK : fkA 1 k' := fkA_yes2 e2
            have HFK := Lib.hid FK
            clear FK
            have Y0 := Lib.hid y0
            have Y1 := Lib.hid y1
            have Y2 := Lib.hid y2
            have Y3 := Lib.hid y3
            have YB := Lib.hid yb
            clear y0 y1 y2 y3 yb
            go_wp2_with fail
            go_roundw
            case rel => exact ⟨2, by decide, rfl, Lib.hid (fun _ => hf1.out (by decide)), Lib.hid (fun _ => HFK.out), Y0, Y1, Y2, Y3, YB⟩
            case measure => simp [intOf]
          · have hRB := HRB.out (.inr (fkA_no e1 e2))
            clear HRO
            obtain ⟨⟨r0, r1, r2, r3⟩, f0, f1, f2, f3⟩ := y2.four
            clear y0 y1 y3
            go_wp2_with fail
            exact bodyPost_ret (results_val rfl _ _ (w.heap.size + 1 + 1) _ _ _ _ rfl y2.set4) rfl ⟨by rw [hRB]; rfl, below_set4 yb (by omega)⟩
    · obtain rfl : j = 2 := by omega
      have hR := HRO.out (hf1.out (by decide)) (hf2.out (by decide))
      have FK1 := hf1.out (by decide)
      have FK2 := hf2.out (by decide)
      clear HRB hf1 hf2
      clear hz3 HRO
      have y0 := hz0.out
      have y1 := hz1.out
      have y2 := hz2.out
      have yb := hbw.out
      clear hz0 hz1 hz2 hbw
      obtain ⟨⟨p0, p1, p2, p3⟩, _⟩ := y0.four
      obtain ⟨⟨q0, q1, q2, q3⟩, _⟩ := y1.four
      obtain ⟨⟨r0, r1, r2, r3⟩, f0, f1, f2, f3⟩ := y2.four
      obtain ⟨hR, ⟨hx, hi⟩, hx', hi'⟩ := hR
      have cT := fun W => rtruthOf_any ⟨k, i, b, s⟩ hi W
      have cU := fun W => rtruthOf_any ⟨k', i', b', s'⟩ hi' W
      unfold valV at cT cU
      simp only at cT cU
      rw [HS.out] at cT
      rw [HS'.out] at cU
      generalize refT ⟨k, i, b, s⟩ = X at *
      generalize refT ⟨k', i', b', s'⟩ = Y at *
      have cL : ∀ W, Calls Tryz.prog 110 #[.int .i64 2, .int .i64 X, .int .i64 Y] W fun e w' => e = .returned (.tuple #[.int .i64 (orT X Y), .int .i64 0]) ∧ Below W.heap.size W w' := fun W => (rLogic_any 2 X Y (by decide) hx hx' W).mono fun e w' ⟨h1, h2⟩ => ⟨by rw [h1]; rfl, by rw [h2]; exact Below.refl _ _⟩
      have cB := fun W => rboolOf_any (orT X Y) (andT_rng X Y hx hx').2 W
      generalize orT X Y = Z at *
      generalize tolV Z = Q at *
      obtain ⟨zk, zi, zb, zs⟩ := Q
      unfold valV at cB
      simp only at cB
      obtain ⟨ZS, hZS⟩ : ∃ Z, str zs = Z := ⟨_, rfl⟩
      rw [hZS] at cB
      have HZS := Lib.hid hZS
      have HR := Lib.hid hR
      clear hZS hR hx hi hx' hi' FK1 FK2 p0 p1 p2 p3 q0 q1 q2 q3 r0 r1 r2 r3 f0 f1 f2 f3
      go_upto_region 15 with fail
      refine wp_region_det 12 (by kernel_rfl) (by kernel_rfl) (by kernel_rfl) ?_
      simp only [List.take_succ_cons, List.take_zero, List.drop_succ_cons, List.drop_zero]
      apply wpDet_plain _ rfl; (focus (intro W hW; go_simp; exact ⟨rfl, Below.refl _ _⟩)); simp only [Act.put, List.setIfInBounds_toArray, List.set_cons_zero, List.set_cons_succ]
      apply wpDet_plain _ rfl; (focus (intro W hW; go_simp; exact ⟨rfl, Below.refl _ _⟩)); simp only [Act.put, List.setIfInBounds_toArray, List.set_cons_zero, List.set_cons_succ]
      apply wpDet_plain _ rfl; (focus (intro W hW; go_simp; exact ⟨rfl, Below.refl _ _⟩)); simp only [Act.put, List.setIfInBounds_toArray, List.set_cons_zero, List.set_cons_succ]
      apply wpDet_plain _ rfl; (focus (intro W hW; have c0 := (y0.call hW).cell (j := 0) rfl; have c1 := (y0.call hW).cell (j := 1) rfl; have c2 := (y0.call hW).cell (j := 2) rfl; have c3 := (y0.call hW).cell (j := 3) rfl; go_simp; exact ⟨rfl, Below.refl _ _⟩)); simp only [Act.put, List.setIfInBounds_toArray, List.set_cons_zero, List.set_cons_succ]
      apply wpDet_plain _ rfl; (focus (intro W hW; go_simp; exact cT W)); simp only [Act.put, List.setIfInBounds_toArray, List.set_cons_zero, List.set_cons_succ]
      apply wpDet_plain _ rfl; (focus (intro W hW; have c0 := (y1.call hW).cell (j := 0) rfl; have c1 := (y1.call hW).cell (j := 1) rfl; have c2 := (y1.call hW).cell (j := 2) rfl; have c3 := (y1.call hW).cell (j := 3) rfl; go_simp; exact ⟨rfl, Below.refl _ _⟩)); simp only [Act.put, List.setIfInBounds_toArray, List.set_cons_zero, List.set_cons_succ]
      apply wpDet_plain _ rfl; (focus (intro W hW; go_simp; exact cU W)); simp only [Act.put, List.setIfInBounds_toArray, List.set_cons_zero, List.set_cons_succ]
      apply wpDet_plain _ rfl; (focus (intro W hW; go_simp; exact cL W)); simp only [Act.put, List.setIfInBounds_toArray, List.set_cons_zero, List.set_cons_succ]
      apply wpDet_plain _ rfl; (focus (intro W hW; go_simp; exact ⟨rfl, Below.refl _ _⟩)); simp only [Act.put, List.setIfInBounds_toArray, List.set_cons_zero, List.set_cons_succ]
      apply wpDet_plain _ rfl; (focus (intro W hW; go_simp; exact ⟨rfl, Below.refl _ _⟩)); simp only [Act.put, List.setIfInBounds_toArray, List.set_cons_zero, List.set_cons_succ]
      apply wpDet_plain _ rfl; (focus (intro W hW; go_simp; exact ⟨rfl, Below.refl _ _⟩)); simp only [Act.put, List.setIfInBounds_toArray, List.set_cons_zero, List.set_cons_succ]
      apply wpDet_plain _ rfl; (focus (intro W hW; go_simp; exact ⟨rfl, Below.refl _ _⟩)); simp only [Act.put, List.setIfInBounds_toArray, List.set_cons_zero, List.set_cons_succ]
      refine wpDet_nil ?_; intro W hW
      have x2 := y2.call hW
      have xb := below_stepE yb yb.size hW
      clear y0 y1 y2 yb hW cT cU cL
      go_wp2_with fail
      refine (cB _).mono ?_
      rintro e w5 ⟨rfl, hb5⟩
      have y3 := x2.call hb5
      have yc := below_stepE xb xb.size hb5
      clear x2 xb hb5 cB
      obtain ⟨⟨r0, r1, r2, r3⟩, f0, f1, f2, f3⟩ := y3.four
      go_wp2_with fail
      exact bodyPost_ret (results_val rfl _ _ (w.heap.size + 1 + 1) _ _ _ _ rfl y3.set4) rfl ⟨by rw [HR.out, ← HZS.out]; rfl, below_set4 yc (by omega)⟩
set_option maxHeartbeats 16000000 in
theorem didNeg_any (v u : Vl) (hv : OkV v) (hu : OkV u) (hnul : u = nulV) (w : World) : Calls Tryz.prog 73 #[.int .i64 3, valV v, valV u] w (RekOk (op1E 3 v) w) := by
  unfold RekOk
  obtain ⟨k, i, b, s⟩ := v
  obtain ⟨k', i', b', s'⟩ := u
  obtain ⟨rfl, rfl, rfl, rfl⟩ : k' = 0 ∧ i' = 0 ∧ b' = 0 ∧ s' = [] := by unfold nulV at hnul; simpa using hnul
  have cQ : ∀ W, Calls Tryz.prog 109 #[.int .i64 3] W fun e w' => e = .returned (.tuple #[.int .i64 2, .int .i64 2]) ∧ w' = W := fun W => asksFor_any 3 W (by decide)
  obtain ⟨R, hR⟩ : ∃ R, op1E 3 ⟨k, i, b, s⟩ = R := ⟨_, rfl⟩
  rw [hR]
  have hRB : (¬ fkA 2 k) ∨ (¬ fkA 2 0) → R = badE 2 := by
    rw [← hR]
    intro h
    unfold op1E
    rw [if_pos rfl, if_neg]
    intro hc
    rw [fit_fk] at hc
    rcases h with h | h
    · exact h hc
    · exact h (.inl rfl)
  have HRB := Lib.hid hRB
  clear hRB
  have hRO : fkA 2 k → fkA 2 0 → (((k == 0) = true → R = okE nulV) ∧ ((k == 0) = false → R = numE (0 - i))) := fun h _ => by
    have e : R = if k = 0 then okE nulV else numE (0 - i) := by
      rw [← hR]; unfold op1E; rw [if_pos rfl, if_pos ((fit_fk _ _).2 h)]
    rw [e]
    exact ⟨fun h => if_pos (by simpa using h), fun h => if_neg (by simpa using h)⟩
  have HRO := Lib.hid hRO
  have HV := Lib.hid hv
  have HU := Lib.hid hu
  clear hRO hv hu
  unfold valV
  simp only
  obtain ⟨S, hS⟩ : ∃ S, str s = S := ⟨_, rfl⟩
  obtain ⟨S', hS'⟩ : ∃ S', str ([] : List UInt8) = S' := ⟨_, rfl⟩
  rw [hS, hS']
  have HS := Lib.hid hS
  have HS' := Lib.hid hS'
  clear hS hS' hR
  obtain ⟨z0, z1, z2, hb3⟩ := three_new w #[.int .i64 k, .int .i64 i, .int .u64 b, .string S] #[.int .i64 0, .int .i64 0, .int .u64 0, .string S'] #[.int .i64 0, .int .i64 0, .int .u64 0, .string ⟨#[]⟩] 24 24 24
  generalize hw3 : ((w.alloc (.cells #[.int .i64 k, .int .i64 i, .int .u64 b, .string S] 24)).alloc (.cells #[.int .i64 0, .int .i64 0, .int .u64 0, .string S'] 24)).alloc (.cells #[.int .i64 0, .int .i64 0, .int .u64 0, .string ⟨#[]⟩] 24) = w3 at z0 z1 z2 hb3
  have x0 := z0.alloc (.cells #[.int .i64 k, .int .i64 i, .int .u64 b, .string S, .int .i64 0, .int .i64 0, .int .u64 0, .string S'] 24)
  have x1 := z1.alloc (.cells #[.int .i64 k, .int .i64 i, .int .u64 b, .string S, .int .i64 0, .int .i64 0, .int .u64 0, .string S'] 24)
  have x2 := z2.alloc (.cells #[.int .i64 k, .int .i64 i, .int .u64 b, .string S, .int .i64 0, .int .i64 0, .int .u64 0, .string S'] 24)
  have x3 : Blk (w3.alloc (.cells #[.int .i64 k, .int .i64 i, .int .u64 b, .string S, .int .i64 0, .int .i64 0, .int .u64 0, .string S'] 24)) w3.heap.size 24 [.int .i64 k, .int .i64 i, .int .u64 b, .string S, .int .i64 0, .int .i64 0, .int .u64 0, .string S'] := Blk.new w3 #[.int .i64 k, .int .i64 i, .int .u64 b, .string S, .int .i64 0, .int .i64 0, .int .u64 0, .string S'] 24
  have hb4 := hb3.alloc hb3.size (.cells #[.int .i64 k, .int .i64 i, .int .u64 b, .string S, .int .i64 0, .int .i64 0, .int .u64 0, .string S'] 24)
  obtain ⟨⟨p0, p1, p2, p3⟩, _⟩ := z0.four
  obtain ⟨⟨q0, q1, q2, q3⟩, _⟩ := z1.four
  clear z0 z1 z2
  go_enter Tryz.func73, Tryz.ntmps73
  go_upto_region 1 with fail
  try rw [hw3]
  clear hw3
  go_wp2_with fail
  refine (cQ _).mono ?_
  rintro e w3' ⟨rfl, rfl⟩
  clear cQ
  go_wp2_with fail
  clear p0 p1 p2 p3 q0 q1 q2 q3 hb3
  go_loopw [28] (fun ix wr => ∃ (j : Nat), j ≤ 2 ∧ ix = .int .i64 j ∧ Hid (1 ≤ j → fkA 2 k) ∧ Hid (2 ≤ j → fkA 2 0) ∧ Hid (Blk wr w.heap.size 24 [.int .i64 k, .int .i64 i, .int .u64 b, .string S]) ∧ Hid (Blk wr (w.heap.size + 1) 24 [.int .i64 0, .int .i64 0, .int .u64 0, .string S']) ∧ Hid (Blk wr (w.heap.size + 1 + 1) 24 [.int .i64 0, .int .i64 0, .int .u64 0, .string ⟨#[]⟩]) ∧ Hid (Blk wr w3'.heap.size 24 [.int .i64 k, .int .i64 i, .int .u64 b, .string S, .int .i64 0, .int .i64 0, .int .u64 0, .string S']) ∧ Hid (Below w.heap.size w wr)) (fun ix _ => 2 - (intOf ix).toNat)
  case atStart => exact ⟨0, by decide, rfl, Lib.hid (fun h => absurd h (by decide)), Lib.hid (fun h => absurd h (by decide)), Lib.hid x0, Lib.hid x1, Lib.hid x2, Lib.hid x3, Lib.hid hb4⟩
  case round =>
    obtain ⟨j, hj, rfl, hf1, hf2, hz0, hz1, hz2, hz3, hbw⟩ := hrel
    clear x0 x1 x2 x3 hb4
    by_cases hlt : j < 2
    · rcases (show j = 0 ∨ j = 1 by omega) with rfl | rfl
      · have p0 := hz3.out.cell (j := 0) rfl
        have p1 := hz3.out.cell (j := 1) rfl
        have p2 := hz3.out.cell (j := 2) rfl
        have p3 := hz3.out.cell (j := 3) rfl
        have y0 := hz0.out.alloc (.cells #[.int .i64 k, .int .i64 i, .int .u64 b, .string S] 24)
        have y1 := hz1.out.alloc (.cells #[.int .i64 k, .int .i64 i, .int .u64 b, .string S] 24)
        have y2 := hz2.out.alloc (.cells #[.int .i64 k, .int .i64 i, .int .u64 b, .string S] 24)
        have y3 := hz3.out.alloc (.cells #[.int .i64 k, .int .i64 i, .int .u64 b, .string S] 24)
        have yb := hbw.out.alloc hbw.out.size (.cells #[.int .i64 k, .int .i64 i, .int .u64 b, .string S] 24)
        have zt := Blk.new wr #[.int .i64 k, .int .i64 i, .int .u64 b, .string S] 24
        go_upto_region 5 with fail
        generalize hwa : wr.alloc (.cells #[.int .i64 k, .int .i64 i, .int .u64 b, .string S] 24) = wa at *
        clear hwa p0 p1 p2 p3 hz0 hz1 hz2 hz3 hbw
        generalize wr.heap.size = gt at *
        have t0 := zt.cell (j := 0) rfl
        clear zt
        obtain ⟨n1, e1⟩ : ∃ n, (k != 0) = n := ⟨_, rfl⟩
        obtain ⟨n2, e2⟩ : ∃ n, (k != 2) = n := ⟨_, rfl⟩
        cases n1
        · have FK : fkA 2 k := fkA_yes1 e1
          have HFK := Lib.hid FK
          clear FK
          have Y0 := Lib.hid y0
          have Y1 := Lib.hid y1
          have Y2 := Lib.hid y2
          have Y3 := Lib.hid y3
          have YB := Lib.hid yb
          clear y0 y1 y2 y3 yb
          go_wp2_with fail
          go_roundw
          case rel => exact ⟨1, by decide, rfl, Lib.hid (fun _ => HFK.out), Lib.hid (fun h => absurd h (by decide)), Y0, Y1, Y2, Y3, YB⟩
          case measure => simp [intOf]
        · cases n2
          · have FK : fkA 2 k := fkA_yes2 e2
            have HFK := Lib.hid FK
            clear FK
            have Y0 := Lib.hid y0
            have Y1 := Lib.hid y1
            have Y2 := Lib.hid y2
            have Y3 := Lib.hid y3
            have YB := Lib.hid yb
            clear y0 y1 y2 y3 yb
            go_wp2_with fail
            go_roundw
            case rel => exact ⟨1, by decide, rfl, Lib.hid (fun _ => HFK.out), Lib.hid (fun h => absurd h (by decide)), Y0, Y1, Y2, Y3, YB⟩
            case measure => simp [intOf]
          · have hRB := HRB.out (.inl (fkA_no e1 e2))
            clear HRO
            obtain ⟨⟨r0, r1, r2, r3⟩, f0, f1, f2, f3⟩ := y2.four
            clear y0 y1 y3
            go_wp2_with fail
            exact bodyPost_ret (results_val rfl _ _ (w.heap.size + 1 + 1) _ _ _ _ rfl y2.set4) rfl ⟨by rw [hRB]; rfl, below_set4 yb (by omega)⟩
      · have p0 := hz3.out.cell (j := 4) rfl
        have p1 := hz3.out.cell (j := 5) rfl
        have p2 := hz3.out.cell (j := 6) rfl
        have p3 := hz3.out.cell (j := 7) rfl
        have y0 := hz0.out.alloc (.cells #[.int .i64 0, .int .i64 0, .int .u64 0, .string S'] 24)
        have y1 := hz1.out.alloc (.cells #[.int .i64 0, .int .i64 0, .int .u64 0, .string S'] 24)
        have y2 := hz2.out.alloc (.cells #[.int .i64 0, .int .i64 0, .int .u64 0, .string S'] 24)
        have y3 := hz3.out.alloc (.cells #[.int .i64 0, .int .i64 0, .int .u64 0, .string S'] 24)
        have yb := hbw.out.alloc hbw.out.size (.cells #[.int .i64 0, .int .i64 0, .int .u64 0, .string S'] 24)
        have zt := Blk.new wr #[.int .i64 0, .int .i64 0, .int .u64 0, .string S'] 24
        go_upto_region 5 with fail
        generalize hwa : wr.alloc (.cells #[.int .i64 0, .int .i64 0, .int .u64 0, .string S'] 24) = wa at *
        clear hwa p0 p1 p2 p3 hz0 hz1 hz2 hz3 hbw
        generalize wr.heap.size = gt at *
        have t0 := zt.cell (j := 0) rfl
        clear zt
        have HFK := Lib.hid (show fkA 2 0 from .inl rfl)
        have Y0 := Lib.hid y0
        have Y1 := Lib.hid y1
        have Y2 := Lib.hid y2
        have Y3 := Lib.hid y3
        have YB := Lib.hid yb
        clear y0 y1 y2 y3 yb
        go_wp2_with fail
        go_roundw
        case rel => exact ⟨2, by decide, rfl, Lib.hid (fun _ => hf1.out (by decide)), Lib.hid (fun _ => HFK.out), Y0, Y1, Y2, Y3, YB⟩
        case measure => simp [intOf]
    · obtain rfl : j = 2 := by omega
      have hR := HRO.out (hf1.out (by decide)) (hf2.out (by decide))
      have FK1 := hf1.out (by decide)
      have FK2 := hf2.out (by decide)
      clear HRB hf1 hf2
      clear hz3 HRO
      have y0 := hz0.out
      have y1 := hz1.out
      have y2 := hz2.out
      have yb := hbw.out
      clear hz0 hz1 hz2 hbw
      obtain ⟨⟨p0, p1, p2, p3⟩, _⟩ := y0.four
      obtain ⟨⟨q0, q1, q2, q3⟩, _⟩ := y1.four
      obtain ⟨⟨r0, r1, r2, r3⟩, f0, f1, f2, f3⟩ := y2.four
      have hin : in64 i := ⟨HV.out.fit.i0, HV.out.fit.i1⟩
      obtain ⟨kz, ek⟩ : ∃ z, (k == 0) = z := ⟨_, rfl⟩
      cases kz
      · have hR := hR.2 ek
        have cG := fun W => reckSub_any 0 i (by decide) hin W
        unfold RekOk at cG
        generalize numE (0 - i) = Q at *
        obtain ⟨⟨zk, zi, zb, zs⟩, zf⟩ := Q
        unfold valV at cG
        simp only at cG
        obtain ⟨ZS, hZS⟩ : ∃ Z, str zs = Z := ⟨_, rfl⟩
        rw [hZS] at cG
        have HZS := Lib.hid hZS
        have HR := Lib.hid hR
        clear hZS hR hin FK1 FK2 HV HU
        go_wp2_with fail
        refine (cG _).mono ?_
        rintro e w5 ⟨rfl, hb5⟩
        have y3 := y2.call hb5
        have yc := below_stepE yb yb.size hb5
        clear y0 y1 y2 yb hb5 p0 p1 p2 p3 q0 q1 q2 q3 r0 r1 r2 r3 f0 f1 f2 f3
        obtain ⟨⟨r0, r1, r2, r3⟩, f0, f1, f2, f3⟩ := y3.four
        go_wp2_with fail
        exact bodyPost_ret (results_val rfl _ _ (w.heap.size + 1 + 1) _ _ _ _ rfl y3.set4) rfl ⟨by rw [HR.out, ← HZS.out]; rfl, below_set4 yc (by omega)⟩
      · have hR := hR.1 ek
        clear FK1 FK2 hin
        clear HV HU
        go_wp2_with fail
        exact bodyPost_ret (results_val rfl _ _ (w.heap.size + 1 + 1) _ _ _ _ rfl y2.set4) rfl ⟨by rw [hR]; rfl, below_set4 yb (by omega)⟩
set_option maxHeartbeats 16000000 in
theorem didLen_any (v u : Vl) (hv : OkV v) (hu : OkV u) (hnul : u = nulV) (w : World) : Calls Tryz.prog 73 #[.int .i64 18, valV v, valV u] w (RekOk (op1E 18 v) w) := by
  unfold RekOk
  obtain ⟨k, i, b, s⟩ := v
  obtain ⟨k', i', b', s'⟩ := u
  obtain ⟨rfl, rfl, rfl, rfl⟩ : k' = 0 ∧ i' = 0 ∧ b' = 0 ∧ s' = [] := by unfold nulV at hnul; simpa using hnul
  have cQ : ∀ W, Calls Tryz.prog 109 #[.int .i64 18] W fun e w' => e = .returned (.tuple #[.int .i64 4, .int .i64 2]) ∧ w' = W := fun W => asksFor_any 18 W (by decide)
  obtain ⟨R, hR⟩ : ∃ R, op1E 18 ⟨k, i, b, s⟩ = R := ⟨_, rfl⟩
  rw [hR]
  have hRB : (¬ fkA 4 k) ∨ (¬ fkA 4 0) → R = badE 2 := by
    rw [← hR]
    intro h
    unfold op1E
    rw [if_neg (by decide), if_neg (by decide), if_neg (by decide), if_neg]
    intro hc
    rw [fit_fk] at hc
    rcases h with h | h
    · exact h hc
    · exact h (.inl rfl)
  have HRB := Lib.hid hRB
  clear hRB
  have hRO : fkA 4 k → fkA 4 0 → (((k == 0) = true → R = okE nulV) ∧ ((k == 0) = false → R = okE (intV (runesL s)))) := fun h _ => by
    have e : R = if k = 0 then okE nulV else okE (intV (runesL s)) := by
      rw [← hR]; unfold op1E; rw [if_neg (by decide), if_neg (by decide), if_neg (by decide), if_pos ((fit_fk _ _).2 h)]
    rw [e]
    exact ⟨fun h => if_pos (by simpa using h), fun h => if_neg (by simpa using h)⟩
  have HRO := Lib.hid hRO
  have HV := Lib.hid hv
  have HU := Lib.hid hu
  clear hRO hv hu
  unfold valV
  simp only
  obtain ⟨S, hS⟩ : ∃ S, str s = S := ⟨_, rfl⟩
  obtain ⟨S', hS'⟩ : ∃ S', str ([] : List UInt8) = S' := ⟨_, rfl⟩
  rw [hS, hS']
  have HS := Lib.hid hS
  have HS' := Lib.hid hS'
  clear hS hS' hR
  obtain ⟨z0, z1, z2, hb3⟩ := three_new w #[.int .i64 k, .int .i64 i, .int .u64 b, .string S] #[.int .i64 0, .int .i64 0, .int .u64 0, .string S'] #[.int .i64 0, .int .i64 0, .int .u64 0, .string ⟨#[]⟩] 24 24 24
  generalize hw3 : ((w.alloc (.cells #[.int .i64 k, .int .i64 i, .int .u64 b, .string S] 24)).alloc (.cells #[.int .i64 0, .int .i64 0, .int .u64 0, .string S'] 24)).alloc (.cells #[.int .i64 0, .int .i64 0, .int .u64 0, .string ⟨#[]⟩] 24) = w3 at z0 z1 z2 hb3
  have x0 := z0.alloc (.cells #[.int .i64 k, .int .i64 i, .int .u64 b, .string S, .int .i64 0, .int .i64 0, .int .u64 0, .string S'] 24)
  have x1 := z1.alloc (.cells #[.int .i64 k, .int .i64 i, .int .u64 b, .string S, .int .i64 0, .int .i64 0, .int .u64 0, .string S'] 24)
  have x2 := z2.alloc (.cells #[.int .i64 k, .int .i64 i, .int .u64 b, .string S, .int .i64 0, .int .i64 0, .int .u64 0, .string S'] 24)
  have x3 : Blk (w3.alloc (.cells #[.int .i64 k, .int .i64 i, .int .u64 b, .string S, .int .i64 0, .int .i64 0, .int .u64 0, .string S'] 24)) w3.heap.size 24 [.int .i64 k, .int .i64 i, .int .u64 b, .string S, .int .i64 0, .int .i64 0, .int .u64 0, .string S'] := Blk.new w3 #[.int .i64 k, .int .i64 i, .int .u64 b, .string S, .int .i64 0, .int .i64 0, .int .u64 0, .string S'] 24
  have hb4 := hb3.alloc hb3.size (.cells #[.int .i64 k, .int .i64 i, .int .u64 b, .string S, .int .i64 0, .int .i64 0, .int .u64 0, .string S'] 24)
  obtain ⟨⟨p0, p1, p2, p3⟩, _⟩ := z0.four
  obtain ⟨⟨q0, q1, q2, q3⟩, _⟩ := z1.four
  clear z0 z1 z2
  go_enter Tryz.func73, Tryz.ntmps73
  go_upto_region 1 with fail
  try rw [hw3]
  clear hw3
  go_wp2_with fail
  refine (cQ _).mono ?_
  rintro e w3' ⟨rfl, rfl⟩
  clear cQ
  go_wp2_with fail
  clear p0 p1 p2 p3 q0 q1 q2 q3 hb3
  go_loopw [28] (fun ix wr => ∃ (j : Nat), j ≤ 2 ∧ ix = .int .i64 j ∧ Hid (1 ≤ j → fkA 4 k) ∧ Hid (2 ≤ j → fkA 4 0) ∧ Hid (Blk wr w.heap.size 24 [.int .i64 k, .int .i64 i, .int .u64 b, .string S]) ∧ Hid (Blk wr (w.heap.size + 1) 24 [.int .i64 0, .int .i64 0, .int .u64 0, .string S']) ∧ Hid (Blk wr (w.heap.size + 1 + 1) 24 [.int .i64 0, .int .i64 0, .int .u64 0, .string ⟨#[]⟩]) ∧ Hid (Blk wr w3'.heap.size 24 [.int .i64 k, .int .i64 i, .int .u64 b, .string S, .int .i64 0, .int .i64 0, .int .u64 0, .string S']) ∧ Hid (Below w.heap.size w wr)) (fun ix _ => 2 - (intOf ix).toNat)
  case atStart => exact ⟨0, by decide, rfl, Lib.hid (fun h => absurd h (by decide)), Lib.hid (fun h => absurd h (by decide)), Lib.hid x0, Lib.hid x1, Lib.hid x2, Lib.hid x3, Lib.hid hb4⟩
  case round =>
    obtain ⟨j, hj, rfl, hf1, hf2, hz0, hz1, hz2, hz3, hbw⟩ := hrel
    clear x0 x1 x2 x3 hb4
    by_cases hlt : j < 2
    · rcases (show j = 0 ∨ j = 1 by omega) with rfl | rfl
      · have p0 := hz3.out.cell (j := 0) rfl
        have p1 := hz3.out.cell (j := 1) rfl
        have p2 := hz3.out.cell (j := 2) rfl
        have p3 := hz3.out.cell (j := 3) rfl
        have y0 := hz0.out.alloc (.cells #[.int .i64 k, .int .i64 i, .int .u64 b, .string S] 24)
        have y1 := hz1.out.alloc (.cells #[.int .i64 k, .int .i64 i, .int .u64 b, .string S] 24)
        have y2 := hz2.out.alloc (.cells #[.int .i64 k, .int .i64 i, .int .u64 b, .string S] 24)
        have y3 := hz3.out.alloc (.cells #[.int .i64 k, .int .i64 i, .int .u64 b, .string S] 24)
        have yb := hbw.out.alloc hbw.out.size (.cells #[.int .i64 k, .int .i64 i, .int .u64 b, .string S] 24)
        have zt := Blk.new wr #[.int .i64 k, .int .i64 i, .int .u64 b, .string S] 24
        go_upto_region 5 with fail
        generalize hwa : wr.alloc (.cells #[.int .i64 k, .int .i64 i, .int .u64 b, .string S] 24) = wa at *
        clear hwa p0 p1 p2 p3 hz0 hz1 hz2 hz3 hbw
        generalize wr.heap.size = gt at *
        have t0 := zt.cell (j := 0) rfl
        clear zt
        obtain ⟨n1, e1⟩ : ∃ n, (k != 0) = n := ⟨_, rfl⟩
        obtain ⟨n2, e2⟩ : ∃ n, (k != 4) = n := ⟨_, rfl⟩
        cases n1
        · have FK : fkA 4 k := fkA_yes1 e1
          have HFK := Lib.hid FK
          clear FK
          have Y0 := Lib.hid y0
          have Y1 := Lib.hid y1
          have Y2 := Lib.hid y2
          have Y3 := Lib.hid y3
          have YB := Lib.hid yb
          clear y0 y1 y2 y3 yb
          go_wp2_with fail
          go_roundw
          case rel => exact ⟨1, by decide, rfl, Lib.hid (fun _ => HFK.out), Lib.hid (fun h => absurd h (by decide)), Y0, Y1, Y2, Y3, YB⟩
          case measure => simp [intOf]
        · cases n2
          · have FK : fkA 4 k := fkA_yes2 e2
            have HFK := Lib.hid FK
            clear FK
            have Y0 := Lib.hid y0
            have Y1 := Lib.hid y1
            have Y2 := Lib.hid y2
            have Y3 := Lib.hid y3
            have YB := Lib.hid yb
            clear y0 y1 y2 y3 yb
            go_wp2_with fail
            go_roundw
            case rel => exact ⟨1, by decide, rfl, Lib.hid (fun _ => HFK.out), Lib.hid (fun h => absurd h (by decide)), Y0, Y1, Y2, Y3, YB⟩
            case measure => simp [intOf]
          · have hRB := HRB.out (.inl (fkA_no e1 e2))
            clear HRO
            obtain ⟨⟨r0, r1, r2, r3⟩, f0, f1, f2, f3⟩ := y2.four
            clear y0 y1 y3
            go_wp2_with fail
            exact bodyPost_ret (results_val rfl _ _ (w.heap.size + 1 + 1) _ _ _ _ rfl y2.set4) rfl ⟨by rw [hRB]; rfl, below_set4 yb (by omega)⟩
      · have p0 := hz3.out.cell (j := 4) rfl
        have p1 := hz3.out.cell (j := 5) rfl
        have p2 := hz3.out.cell (j := 6) rfl
        have p3 := hz3.out.cell (j := 7) rfl
        have y0 := hz0.out.alloc (.cells #[.int .i64 0, .int .i64 0, .int .u64 0, .string S'] 24)
        have y1 := hz1.out.alloc (.cells #[.int .i64 0, .int .i64 0, .int .u64 0, .string S'] 24)
        have y2 := hz2.out.alloc (.cells #[.int .i64 0, .int .i64 0, .int .u64 0, .string S'] 24)
        have y3 := hz3.out.alloc (.cells #[.int .i64 0, .int .i64 0, .int .u64 0, .string S'] 24)
        have yb := hbw.out.alloc hbw.out.size (.cells #[.int .i64 0, .int .i64 0, .int .u64 0, .string S'] 24)
        have zt := Blk.new wr #[.int .i64 0, .int .i64 0, .int .u64 0, .string S'] 24
        go_upto_region 5 with fail
        generalize hwa : wr.alloc (.cells #[.int .i64 0, .int .i64 0, .int .u64 0, .string S'] 24) = wa at *
        clear hwa p0 p1 p2 p3 hz0 hz1 hz2 hz3 hbw
        generalize wr.heap.size = gt at *
        have t0 := zt.cell (j := 0) rfl
        clear zt
        have HFK := Lib.hid (show fkA 4 0 from .inl rfl)
        have Y0 := Lib.hid y0
        have Y1 := Lib.hid y1
        have Y2 := Lib.hid y2
        have Y3 := Lib.hid y3
        have YB := Lib.hid yb
        clear y0 y1 y2 y3 yb
        go_wp2_with fail
        go_roundw
        case rel => exact ⟨2, by decide, rfl, Lib.hid (fun _ => hf1.out (by decide)), Lib.hid (fun _ => HFK.out), Y0, Y1, Y2, Y3, YB⟩
        case measure => simp [intOf]
    · obtain rfl : j = 2 := by omega
      have hR := HRO.out (hf1.out (by decide)) (hf2.out (by decide))
      have FK1 := hf1.out (by decide)
      have FK2 := hf2.out (by decide)
      clear HRB hf1 hf2
      clear hz3 HRO
      have y0 := hz0.out
      have y1 := hz1.out
      have y2 := hz2.out
      have yb := hbw.out
      clear hz0 hz1 hz2 hbw
      obtain ⟨⟨p0, p1, p2, p3⟩, _⟩ := y0.four
      obtain ⟨⟨q0, q1, q2, q3⟩, _⟩ := y1.four
      obtain ⟨⟨r0, r1, r2, r3⟩, f0, f1, f2, f3⟩ := y2.four
      obtain ⟨kz, ek⟩ : ∃ z, (k == 0) = z := ⟨_, rfl⟩
      cases kz
      · have hR := hR.2 ek
        have hsz : S.size < 9223372036854775807 := by
          have h40 := (chkV_open _ HV.out.chk).2.2.1
          simp only at h40
          rw [← HS.out, str_size]; omega
        have cN := fun W => Any.utf8_RuneCountInString Tryz.laysRune S W hsz
        have hrn : Lib.runeCount S = runesL s := by rw [← HS.out]; exact runes_str s
        rw [hrn] at cN
        have cM := fun W => rintOf_any (runesL s : Int) W
        generalize runesL s = nn at *
        unfold valV intV at cM
        simp only at cM
        rw [str_nil] at cM
        have HR := Lib.hid hR
        clear hR HU HV HS hsz hrn FK1 FK2
        go_wp2_with fail
        refine (cN _).mono ?_
        rintro e w7 ⟨rfl, ps, rfl⟩
        have z8 := y2.call (below_iterE wr S ps)
        have hb08 := below_stepE yb yb.size (below_iterE wr S ps)
        clear cN yb y0 y1 y2 p0 p1 p2 p3 q0 q1 q2 q3 r0 r1 r2 r3 f0 f1 f2 f3
        generalize wr.iter S ps = w8 at *
        go_wp2_with fail
        refine (cM _).mono ?_
        rintro e w6 ⟨rfl, hb6⟩
        clear cM
        have z7 := z8.call hb6
        have hb06 := below_stepE hb08 hb08.size hb6
        clear hb6 hb08 z8
        obtain ⟨⟨q0, q1, q2, q3⟩, f0, f1, f2, f3⟩ := z7.four
        go_wp2_with fail
        exact bodyPost_ret (results_val rfl _ _ (w.heap.size + 1 + 1) _ _ _ _ rfl z7.set4) rfl ⟨by rw [HR.out]; rfl, below_set4 hb06 (by omega)⟩
      · have hR := hR.1 ek
        clear FK1 FK2
        clear HV HU
        go_wp2_with fail
        exact bodyPost_ret (results_val rfl _ _ (w.heap.size + 1 + 1) _ _ _ _ rfl y2.set4) rfl ⟨by rw [hR]; rfl, below_set4 yb (by omega)⟩
set_option maxHeartbeats 16000000 in
theorem didJoin_any (v u : Vl) (hv : OkV v) (hu : OkV u) (w : World) : Calls Tryz.prog 73 #[.int .i64 19, valV v, valV u] w (RekOk (op2E 19 v u) w) := by
  unfold RekOk
  obtain ⟨k, i, b, s⟩ := v
  obtain ⟨k', i', b', s'⟩ := u
  have cQ : ∀ W, Calls Tryz.prog 109 #[.int .i64 19] W fun e w' => e = .returned (.tuple #[.int .i64 4, .int .i64 4]) ∧ w' = W := fun W => asksFor_any 19 W (by decide)
  obtain ⟨R, hR⟩ : ∃ R, op2E 19 ⟨k, i, b, s⟩ ⟨k', i', b', s'⟩ = R := ⟨_, rfl⟩
  rw [hR]
  have hRB : (¬ fkA 4 k) ∨ (¬ fkA 4 k') → R = badE 2 := by
    rw [← hR]
    intro h
    unfold op2E joiE
    rw [if_neg (by decide), if_neg (by decide), if_neg (by decide), if_pos rfl]
    rw [if_neg]
    intro hc
    simp only [Bool.and_eq_true, fit_fk] at hc
    rcases h with h | h
    · exact h hc.1
    · exact h hc.2
  have HRB := Lib.hid hRB
  clear hRB
  have hRO : fkA 4 k → fkA 4 k' → (((k == 0) = true ∨ (k' == 0) = true → R = okE nulV) ∧ ((k == 0) = false → (k' == 0) = false → R = (if 40 < s.length + s'.length then badE 1 else okE (txtV (s ++ s'))))) := fun h h' => by
    have e : R = if k = 0 ∨ k' = 0 then okE nulV else (if 40 < s.length + s'.length then badE 1 else okE (txtV (s ++ s'))) := by
      rw [← hR]; unfold op2E; rw [if_neg (by decide), if_neg (by decide), if_neg (by decide), if_pos rfl]; unfold joiE; rw [if_pos (by rw [Bool.and_eq_true]; exact ⟨(fit_fk _ _).2 h, (fit_fk _ _).2 h'⟩)]
    rw [e]
    refine ⟨fun h => if_pos (by simpa using h), fun h h2 => if_neg (by simp at h h2; omega)⟩
  have HRO := Lib.hid hRO
  have HV := Lib.hid hv
  have HU := Lib.hid hu
  clear hRO hv hu
  unfold valV
  simp only
  obtain ⟨S, hS⟩ : ∃ S, str s = S := ⟨_, rfl⟩
  obtain ⟨S', hS'⟩ : ∃ S', str s' = S' := ⟨_, rfl⟩
  rw [hS, hS']
  have HS := Lib.hid hS
  have HS' := Lib.hid hS'
  clear hS hS' hR
  obtain ⟨z0, z1, z2, hb3⟩ := three_new w #[.int .i64 k, .int .i64 i, .int .u64 b, .string S] #[.int .i64 k', .int .i64 i', .int .u64 b', .string S'] #[.int .i64 0, .int .i64 0, .int .u64 0, .string ⟨#[]⟩] 24 24 24
  generalize hw3 : ((w.alloc (.cells #[.int .i64 k, .int .i64 i, .int .u64 b, .string S] 24)).alloc (.cells #[.int .i64 k', .int .i64 i', .int .u64 b', .string S'] 24)).alloc (.cells #[.int .i64 0, .int .i64 0, .int .u64 0, .string ⟨#[]⟩] 24) = w3 at z0 z1 z2 hb3
  have x0 := z0.alloc (.cells #[.int .i64 k, .int .i64 i, .int .u64 b, .string S, .int .i64 k', .int .i64 i', .int .u64 b', .string S'] 24)
  have x1 := z1.alloc (.cells #[.int .i64 k, .int .i64 i, .int .u64 b, .string S, .int .i64 k', .int .i64 i', .int .u64 b', .string S'] 24)
  have x2 := z2.alloc (.cells #[.int .i64 k, .int .i64 i, .int .u64 b, .string S, .int .i64 k', .int .i64 i', .int .u64 b', .string S'] 24)
  have x3 : Blk (w3.alloc (.cells #[.int .i64 k, .int .i64 i, .int .u64 b, .string S, .int .i64 k', .int .i64 i', .int .u64 b', .string S'] 24)) w3.heap.size 24 [.int .i64 k, .int .i64 i, .int .u64 b, .string S, .int .i64 k', .int .i64 i', .int .u64 b', .string S'] := Blk.new w3 #[.int .i64 k, .int .i64 i, .int .u64 b, .string S, .int .i64 k', .int .i64 i', .int .u64 b', .string S'] 24
  have hb4 := hb3.alloc hb3.size (.cells #[.int .i64 k, .int .i64 i, .int .u64 b, .string S, .int .i64 k', .int .i64 i', .int .u64 b', .string S'] 24)
  obtain ⟨⟨p0, p1, p2, p3⟩, _⟩ := z0.four
  obtain ⟨⟨q0, q1, q2, q3⟩, _⟩ := z1.four
  clear z0 z1 z2
  go_enter Tryz.func73, Tryz.ntmps73
  go_upto_region 1 with fail
  try rw [hw3]
  clear hw3
  go_wp2_with fail
  refine (cQ _).mono ?_
  rintro e w3' ⟨rfl, rfl⟩
  clear cQ
  go_wp2_with fail
  clear p0 p1 p2 p3 q0 q1 q2 q3 hb3
  go_loopw [28] (fun ix wr => ∃ (j : Nat), j ≤ 2 ∧ ix = .int .i64 j ∧ Hid (1 ≤ j → fkA 4 k) ∧ Hid (2 ≤ j → fkA 4 k') ∧ Hid (Blk wr w.heap.size 24 [.int .i64 k, .int .i64 i, .int .u64 b, .string S]) ∧ Hid (Blk wr (w.heap.size + 1) 24 [.int .i64 k', .int .i64 i', .int .u64 b', .string S']) ∧ Hid (Blk wr (w.heap.size + 1 + 1) 24 [.int .i64 0, .int .i64 0, .int .u64 0, .string ⟨#[]⟩]) ∧ Hid (Blk wr w3'.heap.size 24 [.int .i64 k, .int .i64 i, .int .u64 b, .string S, .int .i64 k', .int .i64 i', .int .u64 b', .string S']) ∧ Hid (Below w.heap.size w wr)) (fun ix _ => 2 - (intOf ix).toNat)
  case atStart => exact ⟨0, by decide, rfl, Lib.hid (fun h => absurd h (by decide)), Lib.hid (fun h => absurd h (by decide)), Lib.hid x0, Lib.hid x1, Lib.hid x2, Lib.hid x3, Lib.hid hb4⟩
  case round =>
    obtain ⟨j, hj, rfl, hf1, hf2, hz0, hz1, hz2, hz3, hbw⟩ := hrel
    clear x0 x1 x2 x3 hb4
    by_cases hlt : j < 2
    · rcases (show j = 0 ∨ j = 1 by omega) with rfl | rfl
      · have p0 := hz3.out.cell (j := 0) rfl
        have p1 := hz3.out.cell (j := 1) rfl
        have p2 := hz3.out.cell (j := 2) rfl
        have p3 := hz3.out.cell (j := 3) rfl
        have y0 := hz0.out.alloc (.cells #[.int .i64 k, .int .i64 i, .int .u64 b, .string S] 24)
        have y1 := hz1.out.alloc (.cells #[.int .i64 k, .int .i64 i, .int .u64 b, .string S] 24)
        have y2 := hz2.out.alloc (.cells #[.int .i64 k, .int .i64 i, .int .u64 b, .string S] 24)
        have y3 := hz3.out.alloc (.cells #[.int .i64 k, .int .i64 i, .int .u64 b, .string S] 24)
        have yb := hbw.out.alloc hbw.out.size (.cells #[.int .i64 k, .int .i64 i, .int .u64 b, .string S] 24)
        have zt := Blk.new wr #[.int .i64 k, .int .i64 i, .int .u64 b, .string S] 24
        go_upto_region 5 with fail
        generalize hwa : wr.alloc (.cells #[.int .i64 k, .int .i64 i, .int .u64 b, .string S] 24) = wa at *
        clear hwa p0 p1 p2 p3 hz0 hz1 hz2 hz3 hbw
        generalize wr.heap.size = gt at *
        have t0 := zt.cell (j := 0) rfl
        clear zt
        obtain ⟨n1, e1⟩ : ∃ n, (k != 0) = n := ⟨_, rfl⟩
        obtain ⟨n2, e2⟩ : ∃ n, (k != 4) = n := ⟨_, rfl⟩
        cases n1
        · have FK : fkA 4 k := fkA_yes1 e1
          have HFK := Lib.hid FK
          clear FK
          have Y0 := Lib.hid y0
          have Y1 := Lib.hid y1
          have Y2 := Lib.hid y2
          have Y3 := Lib.hid y3
          have YB := Lib.hid yb
          clear y0 y1 y2 y3 yb
          go_wp2_with fail
          go_roundw
          case rel => exact ⟨1, by decide, rfl, Lib.hid (fun _ => HFK.out), Lib.hid (fun h => absurd h (by decide)), Y0, Y1, Y2, Y3, YB⟩
          case measure => simp [intOf]
        · cases n2
          · have FK : fkA 4 k := fkA_yes2 e2
            have HFK := Lib.hid FK
            clear FK
            have Y0 := Lib.hid y0
            have Y1 := Lib.hid y1
            have Y2 := Lib.hid y2
            have Y3 := Lib.hid y3
            have YB := Lib.hid yb
            clear y0 y1 y2 y3 yb
            go_wp2_with fail
            go_roundw
            case rel => exact ⟨1, by decide, rfl, Lib.hid (fun _ => HFK.out), Lib.hid (fun h => absurd h (by decide)), Y0, Y1, Y2, Y3, YB⟩
            case measure => simp [intOf]
          · have hRB := HRB.out (.inl (fkA_no e1 e2))
            clear HRO
            obtain ⟨⟨r0, r1, r2, r3⟩, f0, f1, f2, f3⟩ := y2.four
            clear y0 y1 y3
            go_wp2_with fail
            exact bodyPost_ret (results_val rfl _ _ (w.heap.size + 1 + 1) _ _ _ _ rfl y2.set4) rfl ⟨by rw [hRB]; rfl, below_set4 yb (by omega)⟩
      · have p0 := hz3.out.cell (j := 4) rfl
        have p1 := hz3.out.cell (j := 5) rfl
        have p2 := hz3.out.cell (j := 6) rfl
        have p3 := hz3.out.cell (j := 7) rfl
        have y0 := hz0.out.alloc (.cells #[.int .i64 k', .int .i64 i', .int .u64 b', .string S'] 24)
        have y1 := hz1.out.alloc (.cells #[.int .i64 k', .int .i64 i', .int .u64 b', .string S'] 24)
        have y2 := hz2.out.alloc (.cells #[.int .i64 k', .int .i64 i', .int .u64 b', .string S'] 24)
        have y3 := hz3.out.alloc (.cells #[.int .i64 k', .int .i64 i', .int .u64 b', .string S'] 24)
        have yb := hbw.out.alloc hbw.out.size (.cells #[.int .i64 k', .int .i64 i', .int .u64 b', .string S'] 24)
        have zt := Blk.new wr #[.int .i64 k', .int .i64 i', .int .u64 b', .string S'] 24
        go_upto_region 5 with fail
        generalize hwa : wr.alloc (.cells #[.int .i64 k', .int .i64 i', .int .u64 b', .string S'] 24) = wa at *
        clear hwa p0 p1 p2 p3 hz0 hz1 hz2 hz3 hbw
        generalize wr.heap.size = gt at *
        have t0 := zt.cell (j := 0) rfl
        clear zt
        obtain ⟨n1, e1⟩ : ∃ n, (k' != 0) = n := ⟨_, rfl⟩
        obtain ⟨n2, e2⟩ : ∃ n, (k' != 4) = n := ⟨_, rfl⟩
        cases n1
        · have FK : fkA 4 k' := fkA_yes1 e1
          have HFK := Lib.hid FK
          clear FK
          have Y0 := Lib.hid y0
          have Y1 := Lib.hid y1
          have Y2 := Lib.hid y2
          have Y3 := Lib.hid y3
          have YB := Lib.hid yb
          clear y0 y1 y2 y3 yb
          go_wp2_with fail
          go_roundw
          case rel => exact ⟨2, by decide, rfl, Lib.hid (fun _ => hf1.out (by decide)), Lib.hid (fun _ => HFK.out), Y0, Y1, Y2, Y3, YB⟩
          case measure => simp [intOf]
        · cases n2
          · have FK : fkA 4 k' := fkA_yes2 e2
            have HFK := Lib.hid FK
            clear FK
            have Y0 := Lib.hid y0
            have Y1 := Lib.hid y1
            have Y2 := Lib.hid y2
            have Y3 := Lib.hid y3
            have YB := Lib.hid yb
            clear y0 y1 y2 y3 yb
            go_wp2_with fail
            go_roundw
            case rel => exact ⟨2, by decide, rfl, Lib.hid (fun _ => hf1.out (by decide)), Lib.hid (fun _ => HFK.out), Y0, Y1, Y2, Y3, YB⟩
            case measure => simp [intOf]
          · have hRB := HRB.out (.inr (fkA_no e1 e2))
            clear HRO
            obtain ⟨⟨r0, r1, r2, r3⟩, f0, f1, f2, f3⟩ := y2.four
            clear y0 y1 y3
            go_wp2_with fail
            exact bodyPost_ret (results_val rfl _ _ (w.heap.size + 1 + 1) _ _ _ _ rfl y2.set4) rfl ⟨by rw [hRB]; rfl, below_set4 yb (by omega)⟩
    · obtain rfl : j = 2 := by omega
      have hR := HRO.out (hf1.out (by decide)) (hf2.out (by decide))
      have FK1 := hf1.out (by decide)
      have FK2 := hf2.out (by decide)
      clear HRB hf1 hf2
      clear hz3 HRO
      have y0 := hz0.out
      have y1 := hz1.out
      have y2 := hz2.out
      have yb := hbw.out
      clear hz0 hz1 hz2 hbw
      obtain ⟨⟨p0, p1, p2, p3⟩, _⟩ := y0.four
      obtain ⟨⟨q0, q1, q2, q3⟩, _⟩ := y1.four
      obtain ⟨⟨r0, r1, r2, r3⟩, f0, f1, f2, f3⟩ := y2.four
      obtain ⟨kz, ek⟩ : ∃ z, (k == 0) = z := ⟨_, rfl⟩
      obtain ⟨kz', ek'⟩ : ∃ z, (k' == 0) = z := ⟨_, rfl⟩
      cases kz
      · cases kz'
        · replace hR := hR.2 ek ek'
          have happ := str_app s s'
          obtain ⟨T, hT⟩ : ∃ T, str (s ++ s') = T := ⟨_, rfl⟩
          have hsS := str_size s
          have hsS' := str_size s'
          rw [HS.out, HS'.out, hT] at happ
          rw [HS.out] at hsS
          rw [HS'.out] at hsS'
          have l1 := (chkV_open _ HV.out.chk).2.2.1
          have l2 := (chkV_open _ HU.out.chk).2.2.1
          simp only at l1 l2
          have hTs := str_size (s ++ s')
          rw [hT, List.length_append] at hTs
          have hsz1 : S.size ≤ 40 := by omega
          have hsz2 : S'.size ≤ 40 := by omega
          have HT := Lib.hid hT
          have hTI : (T.size : Int) = ((s.length + s'.length : Nat) : Int) := by omega
          by_cases hlong : 40 < s.length + s'.length
          · rw [if_pos hlong] at hR
            have i1 : (40 : Int) < (T.size : Int) := by omega
            clear hTI hTs hsS hsS' l1 l2 hlong hT FK1 FK2 HV HU
            go_wp2_with fail
            exact bodyPost_ret (results_val rfl _ _ (w.heap.size + 1 + 1) _ _ _ _ rfl y2.set4) rfl ⟨by rw [hR]; rfl, below_set4 yb (by omega)⟩
          · rw [if_neg hlong] at hR
            have i1 : ¬ (40 : Int) < (T.size : Int) := by omega
            have HR := Lib.hid hR
            clear hTI hTs hsS hsS' l1 l2 hlong hT FK1 FK2 HV HU hR
            go_wp2_with fail
            exact bodyPost_ret (results_val rfl _ _ (w.heap.size + 1 + 1) _ _ _ _ rfl y2.set4) rfl ⟨by rw [HR.out, ← HT.out]; rfl, below_set4 yb (by omega)⟩
        · have hR := hR.1 (.inr ek')
          clear FK1 FK2
          clear HV HU
          go_wp2_with fail
          exact bodyPost_ret (results_val rfl _ _ (w.heap.size + 1 + 1) _ _ _ _ rfl y2.set4) rfl ⟨by rw [hR]; rfl, below_set4 yb (by omega)⟩
      · have hR := hR.1 (.inl ek)
        clear FK1 FK2
        clear HV HU
        go_wp2_with fail
        exact bodyPost_ret (results_val rfl _ _ (w.heap.size + 1 + 1) _ _ _ _ rfl y2.set4) rfl ⟨by rw [hR]; rfl, below_set4 yb (by omega)⟩
set_option maxHeartbeats 16000000 in
theorem didAr5_any (v u : Vl) (hv : OkV v) (hu : OkV u) (w : World) : Calls Tryz.prog 73 #[.int .i64 5, valV v, valV u] w (RekOk (op2E 5 v u) w) := by
  unfold RekOk
  obtain ⟨k, i, b, s⟩ := v
  obtain ⟨k', i', b', s'⟩ := u
  have cQ : ∀ W, Calls Tryz.prog 109 #[.int .i64 5] W fun e w' => e = .returned (.tuple #[.int .i64 2, .int .i64 2]) ∧ w' = W := fun W => asksFor_any 5 W (by decide)
  obtain ⟨R, hR⟩ : ∃ R, op2E 5 ⟨k, i, b, s⟩ ⟨k', i', b', s'⟩ = R := ⟨_, rfl⟩
  rw [hR]
  have hRB : (¬ fkA 2 k) ∨ (¬ fkA 2 k') → R = badE 2 := by
    rw [← hR]
    intro h
    unfold op2E
    rw [if_pos (by decide)]
    rw [if_neg]
    intro hc
    simp only [Bool.and_eq_true, fit_fk] at hc
    rcases h with h | h
    · exact h hc.1
    · exact h hc.2
  have HRB := Lib.hid hRB
  clear hRB
  have hRO : fkA 2 k → fkA 2 k' → (((k == 0) = true ∨ (k' == 0) = true → R = okE nulV) ∧ ((k == 0) = false → (k' == 0) = false → R = numE (i + i'))) := fun h h' => by
    have e : R = if k = 0 ∨ k' = 0 then okE nulV else numE (i + i') := by
      rw [← hR]; unfold op2E; rw [if_pos (by decide), if_pos (by rw [Bool.and_eq_true]; exact ⟨(fit_fk _ _).2 h, (fit_fk _ _).2 h'⟩)]; rfl
    rw [e]
    refine ⟨fun h => if_pos (by simpa using h), fun h h2 => if_neg (by simp at h h2; omega)⟩
  have HRO := Lib.hid hRO
  have HV := Lib.hid hv
  have HU := Lib.hid hu
  clear hRO hv hu
  unfold valV
  simp only
  obtain ⟨S, hS⟩ : ∃ S, str s = S := ⟨_, rfl⟩
  obtain ⟨S', hS'⟩ : ∃ S', str s' = S' := ⟨_, rfl⟩
  rw [hS, hS']
  have HS := Lib.hid hS
  have HS' := Lib.hid hS'
  clear hS hS' hR
  obtain ⟨z0, z1, z2, hb3⟩ := three_new w #[.int .i64 k, .int .i64 i, .int .u64 b, .string S] #[.int .i64 k', .int .i64 i', .int .u64 b', .string S'] #[.int .i64 0, .int .i64 0, .int .u64 0, .string ⟨#[]⟩] 24 24 24
  generalize hw3 : ((w.alloc (.cells #[.int .i64 k, .int .i64 i, .int .u64 b, .string S] 24)).alloc (.cells #[.int .i64 k', .int .i64 i', .int .u64 b', .string S'] 24)).alloc (.cells #[.int .i64 0, .int .i64 0, .int .u64 0, .string ⟨#[]⟩] 24) = w3 at z0 z1 z2 hb3
  have x0 := z0.alloc (.cells #[.int .i64 k, .int .i64 i, .int .u64 b, .string S, .int .i64 k', .int .i64 i', .int .u64 b', .string S'] 24)
  have x1 := z1.alloc (.cells #[.int .i64 k, .int .i64 i, .int .u64 b, .string S, .int .i64 k', .int .i64 i', .int .u64 b', .string S'] 24)
  have x2 := z2.alloc (.cells #[.int .i64 k, .int .i64 i, .int .u64 b, .string S, .int .i64 k', .int .i64 i', .int .u64 b', .string S'] 24)
  have x3 : Blk (w3.alloc (.cells #[.int .i64 k, .int .i64 i, .int .u64 b, .string S, .int .i64 k', .int .i64 i', .int .u64 b', .string S'] 24)) w3.heap.size 24 [.int .i64 k, .int .i64 i, .int .u64 b, .string S, .int .i64 k', .int .i64 i', .int .u64 b', .string S'] := Blk.new w3 #[.int .i64 k, .int .i64 i, .int .u64 b, .string S, .int .i64 k', .int .i64 i', .int .u64 b', .string S'] 24
  have hb4 := hb3.alloc hb3.size (.cells #[.int .i64 k, .int .i64 i, .int .u64 b, .string S, .int .i64 k', .int .i64 i', .int .u64 b', .string S'] 24)
  obtain ⟨⟨p0, p1, p2, p3⟩, _⟩ := z0.four
  obtain ⟨⟨q0, q1, q2, q3⟩, _⟩ := z1.four
  clear z0 z1 z2
  go_enter Tryz.func73, Tryz.ntmps73
  go_upto_region 1 with fail
  try rw [hw3]
  clear hw3
  go_wp2_with fail
  refine (cQ _).mono ?_
  rintro e w3' ⟨rfl, rfl⟩
  clear cQ
  go_wp2_with fail
  clear p0 p1 p2 p3 q0 q1 q2 q3 hb3
  go_loopw [28] (fun ix wr => ∃ (j : Nat), j ≤ 2 ∧ ix = .int .i64 j ∧ Hid (1 ≤ j → fkA 2 k) ∧ Hid (2 ≤ j → fkA 2 k') ∧ Hid (Blk wr w.heap.size 24 [.int .i64 k, .int .i64 i, .int .u64 b, .string S]) ∧ Hid (Blk wr (w.heap.size + 1) 24 [.int .i64 k', .int .i64 i', .int .u64 b', .string S']) ∧ Hid (Blk wr (w.heap.size + 1 + 1) 24 [.int .i64 0, .int .i64 0, .int .u64 0, .string ⟨#[]⟩]) ∧ Hid (Blk wr w3'.heap.size 24 [.int .i64 k, .int .i64 i, .int .u64 b, .string S, .int .i64 k', .int .i64 i', .int .u64 b', .string S']) ∧ Hid (Below w.heap.size w wr)) (fun ix _ => 2 - (intOf ix).toNat)
  case atStart => exact ⟨0, by decide, rfl, Lib.hid (fun h => absurd h (by decide)), Lib.hid (fun h => absurd h (by decide)), Lib.hid x0, Lib.hid x1, Lib.hid x2, Lib.hid x3, Lib.hid hb4⟩
  case round =>
    obtain ⟨j, hj, rfl, hf1, hf2, hz0, hz1, hz2, hz3, hbw⟩ := hrel
    clear x0 x1 x2 x3 hb4
    by_cases hlt : j < 2
    · rcases (show j = 0 ∨ j = 1 by omega) with rfl | rfl
      · have p0 := hz3.out.cell (j := 0) rfl
        have p1 := hz3.out.cell (j := 1) rfl
        have p2 := hz3.out.cell (j := 2) rfl
        have p3 := hz3.out.cell (j := 3) rfl
        have y0 := hz0.out.alloc (.cells #[.int .i64 k, .int .i64 i, .int .u64 b, .string S] 24)
        have y1 := hz1.out.alloc (.cells #[.int .i64 k, .int .i64 i, .int .u64 b, .string S] 24)
        have y2 := hz2.out.alloc (.cells #[.int .i64 k, .int .i64 i, .int .u64 b, .string S] 24)
        have y3 := hz3.out.alloc (.cells #[.int .i64 k, .int .i64 i, .int .u64 b, .string S] 24)
        have yb := hbw.out.alloc hbw.out.size (.cells #[.int .i64 k, .int .i64 i, .int .u64 b, .string S] 24)
        have zt := Blk.new wr #[.int .i64 k, .int .i64 i, .int .u64 b, .string S] 24
        go_upto_region 5 with fail
        generalize hwa : wr.alloc (.cells #[.int .i64 k, .int .i64 i, .int .u64 b, .string S] 24) = wa at *
        clear hwa p0 p1 p2 p3 hz0 hz1 hz2 hz3 hbw
        generalize wr.heap.size = gt at *
        have t0 := zt.cell (j := 0) rfl
        clear zt
        obtain ⟨n1, e1⟩ : ∃ n, (k != 0) = n := ⟨_, rfl⟩
        obtain ⟨n2, e2⟩ : ∃ n, (k != 2) = n := ⟨_, rfl⟩
        cases n1
        · have FK : fkA 2 k := fkA_yes1 e1
          have HFK := Lib.hid FK
          clear FK
          have Y0 := Lib.hid y0
          have Y1 := Lib.hid y1
          have Y2 := Lib.hid y2
          have Y3 := Lib.hid y3
          have YB := Lib.hid yb
          clear y0 y1 y2 y3 yb
          go_wp2_with fail
          go_roundw
          case rel => exact ⟨1, by decide, rfl, Lib.hid (fun _ => HFK.out), Lib.hid (fun h => absurd h (by decide)), Y0, Y1, Y2, Y3, YB⟩
          case measure => simp [intOf]
        · cases n2
          · have FK : fkA 2 k := fkA_yes2 e2
            have HFK := Lib.hid FK
            clear FK
            have Y0 := Lib.hid y0
            have Y1 := Lib.hid y1
            have Y2 := Lib.hid y2
            have Y3 := Lib.hid y3
            have YB := Lib.hid yb
            clear y0 y1 y2 y3 yb
            go_wp2_with fail
            go_roundw
            case rel => exact ⟨1, by decide, rfl, Lib.hid (fun _ => HFK.out), Lib.hid (fun h => absurd h (by decide)), Y0, Y1, Y2, Y3, YB⟩
            case measure => simp [intOf]
          · have hRB := HRB.out (.inl (fkA_no e1 e2))
            clear HRO
            obtain ⟨⟨r0, r1, r2, r3⟩, f0, f1, f2, f3⟩ := y2.four
            clear y0 y1 y3
            go_wp2_with fail
            exact bodyPost_ret (results_val rfl _ _ (w.heap.size + 1 + 1) _ _ _ _ rfl y2.set4) rfl ⟨by rw [hRB]; rfl, below_set4 yb (by omega)⟩
      · have p0 := hz3.out.cell (j := 4) rfl
        have p1 := hz3.out.cell (j := 5) rfl
        have p2 := hz3.out.cell (j := 6) rfl
        have p3 := hz3.out.cell (j := 7) rfl
        have y0 := hz0.out.alloc (.cells #[.int .i64 k', .int .i64 i', .int .u64 b', .string S'] 24)
        have y1 := hz1.out.alloc (.cells #[.int .i64 k', .int .i64 i', .int .u64 b', .string S'] 24)
        have y2 := hz2.out.alloc (.cells #[.int .i64 k', .int .i64 i', .int .u64 b', .string S'] 24)
        have y3 := hz3.out.alloc (.cells #[.int .i64 k', .int .i64 i', .int .u64 b', .string S'] 24)
        have yb := hbw.out.alloc hbw.out.size (.cells #[.int .i64 k', .int .i64 i', .int .u64 b', .string S'] 24)
        have zt := Blk.new wr #[.int .i64 k', .int .i64 i', .int .u64 b', .string S'] 24
        go_upto_region 5 with fail
        generalize hwa : wr.alloc (.cells #[.int .i64 k', .int .i64 i', .int .u64 b', .string S'] 24) = wa at *
        clear hwa p0 p1 p2 p3 hz0 hz1 hz2 hz3 hbw
        generalize wr.heap.size = gt at *
        have t0 := zt.cell (j := 0) rfl
        clear zt
        obtain ⟨n1, e1⟩ : ∃ n, (k' != 0) = n := ⟨_, rfl⟩
        obtain ⟨n2, e2⟩ : ∃ n, (k' != 2) = n := ⟨_, rfl⟩
        cases n1
        · have FK : fkA 2 k' := fkA_yes1 e1
          have HFK := Lib.hid FK
          clear FK
          have Y0 := Lib.hid y0
          have Y1 := Lib.hid y1
          have Y2 := Lib.hid y2
          have Y3 := Lib.hid y3
          have YB := Lib.hid yb
          clear y0 y1 y2 y3 yb
          go_wp2_with fail
          go_roundw
          case rel => exact ⟨2, by decide, rfl, Lib.hid (fun _ => hf1.out (by decide)), Lib.hid (fun _ => HFK.out), Y0, Y1, Y2, Y3, YB⟩
          case measure => simp [intOf]
        · cases n2
          · have FK : fkA 2 k' := fkA_yes2 e2
            have HFK := Lib.hid FK
            clear FK
            have Y0 := Lib.hid y0
            have Y1 := Lib.hid y1
            have Y2 := Lib.hid y2
            have Y3 := Lib.hid y3
            have YB := Lib.hid yb
            clear y0 y1 y2 y3 yb
            go_wp2_with fail
            go_roundw
            case rel => exact ⟨2, by decide, rfl, Lib.hid (fun _ => hf1.out (by decide)), Lib.hid (fun _ => HFK.out), Y0, Y1, Y2, Y3, YB⟩
            case measure => simp [intOf]
          · have hRB := HRB.out (.inr (fkA_no e1 e2))
            clear HRO
            obtain ⟨⟨r0, r1, r2, r3⟩, f0, f1, f2, f3⟩ := y2.four
            clear y0 y1 y3
            go_wp2_with fail
            exact bodyPost_ret (results_val rfl _ _ (w.heap.size + 1 + 1) _ _ _ _ rfl y2.set4) rfl ⟨by rw [hRB]; rfl, below_set4 yb (by omega)⟩
    · obtain rfl : j = 2 := by omega
      have hR := HRO.out (hf1.out (by decide)) (hf2.out (by decide))
      have FK1 := hf1.out (by decide)
      have FK2 := hf2.out (by decide)
      clear HRB hf1 hf2
      clear hz3 HRO
      have y0 := hz0.out
      have y1 := hz1.out
      have y2 := hz2.out
      have yb := hbw.out
      clear hz0 hz1 hz2 hbw
      obtain ⟨⟨p0, p1, p2, p3⟩, _⟩ := y0.four
      obtain ⟨⟨q0, q1, q2, q3⟩, _⟩ := y1.four
      obtain ⟨⟨r0, r1, r2, r3⟩, f0, f1, f2, f3⟩ := y2.four
      have hin : in64 i := ⟨HV.out.fit.i0, HV.out.fit.i1⟩
      have hin' : in64 i' := ⟨HU.out.fit.i0, HU.out.fit.i1⟩
      obtain ⟨kz, ek⟩ : ∃ z, (k == 0) = z := ⟨_, rfl⟩
      obtain ⟨kz', ek'⟩ : ∃ z, (k' == 0) = z := ⟨_, rfl⟩
      cases kz
      · cases kz'
        · have hR := hR.2 ek ek'
          have cG := fun W => reckAdd_any i i' hin hin' W
          unfold RekOk at cG
          generalize numE (i + i') = Q at *
          obtain ⟨⟨zk, zi, zb, zs⟩, zf⟩ := Q
          unfold valV at cG
          simp only at cG
          obtain ⟨ZS, hZS⟩ : ∃ Z, str zs = Z := ⟨_, rfl⟩
          rw [hZS] at cG
          have HZS := Lib.hid hZS
          have HR := Lib.hid hR
          clear hZS hR hin hin' FK1 FK2 HV HU
          go_wp2_with fail
          refine (cG _).mono ?_
          rintro e w5 ⟨rfl, hb5⟩
          have y3 := y2.call hb5
          have yc := below_stepE yb yb.size hb5
          clear y0 y1 y2 yb hb5 p0 p1 p2 p3 q0 q1 q2 q3 r0 r1 r2 r3 f0 f1 f2 f3
          obtain ⟨⟨r0, r1, r2, r3⟩, f0, f1, f2, f3⟩ := y3.four
          go_wp2_with fail
          exact bodyPost_ret (results_val rfl _ _ (w.heap.size + 1 + 1) _ _ _ _ rfl y3.set4) rfl ⟨by rw [HR.out, ← HZS.out]; rfl, below_set4 yc (by omega)⟩
        · have hR := hR.1 (.inr ek')
          clear FK1 FK2 hin hin'
          clear HV HU
          go_wp2_with fail
          exact bodyPost_ret (results_val rfl _ _ (w.heap.size + 1 + 1) _ _ _ _ rfl y2.set4) rfl ⟨by rw [hR]; rfl, below_set4 yb (by omega)⟩
      · have hR := hR.1 (.inl ek)
        clear FK1 FK2 hin hin'
        clear HV HU
        go_wp2_with fail
        exact bodyPost_ret (results_val rfl _ _ (w.heap.size + 1 + 1) _ _ _ _ rfl y2.set4) rfl ⟨by rw [hR]; rfl, below_set4 yb (by omega)⟩
set_option maxHeartbeats 16000000 in
theorem didAr6_any (v u : Vl) (hv : OkV v) (hu : OkV u) (w : World) : Calls Tryz.prog 73 #[.int .i64 6, valV v, valV u] w (RekOk (op2E 6 v u) w) := by
  unfold RekOk
  obtain ⟨k, i, b, s⟩ := v
  obtain ⟨k', i', b', s'⟩ := u
  have cQ : ∀ W, Calls Tryz.prog 109 #[.int .i64 6] W fun e w' => e = .returned (.tuple #[.int .i64 2, .int .i64 2]) ∧ w' = W := fun W => asksFor_any 6 W (by decide)
  obtain ⟨R, hR⟩ : ∃ R, op2E 6 ⟨k, i, b, s⟩ ⟨k', i', b', s'⟩ = R := ⟨_, rfl⟩
  rw [hR]
  have hRB : (¬ fkA 2 k) ∨ (¬ fkA 2 k') → R = badE 2 := by
    rw [← hR]
    intro h
    unfold op2E
    rw [if_pos (by decide)]
    rw [if_neg]
    intro hc
    simp only [Bool.and_eq_true, fit_fk] at hc
    rcases h with h | h
    · exact h hc.1
    · exact h hc.2
  have HRB := Lib.hid hRB
  clear hRB
  have hRO : fkA 2 k → fkA 2 k' → (((k == 0) = true ∨ (k' == 0) = true → R = okE nulV) ∧ ((k == 0) = false → (k' == 0) = false → R = numE (i - i'))) := fun h h' => by
    have e : R = if k = 0 ∨ k' = 0 then okE nulV else numE (i - i') := by
      rw [← hR]; unfold op2E; rw [if_pos (by decide), if_pos (by rw [Bool.and_eq_true]; exact ⟨(fit_fk _ _).2 h, (fit_fk _ _).2 h'⟩)]; rfl
    rw [e]
    refine ⟨fun h => if_pos (by simpa using h), fun h h2 => if_neg (by simp at h h2; omega)⟩
  have HRO := Lib.hid hRO
  have HV := Lib.hid hv
  have HU := Lib.hid hu
  clear hRO hv hu
  unfold valV
  simp only
  obtain ⟨S, hS⟩ : ∃ S, str s = S := ⟨_, rfl⟩
  obtain ⟨S', hS'⟩ : ∃ S', str s' = S' := ⟨_, rfl⟩
  rw [hS, hS']
  have HS := Lib.hid hS
  have HS' := Lib.hid hS'
  clear hS hS' hR
  obtain ⟨z0, z1, z2, hb3⟩ := three_new w #[.int .i64 k, .int .i64 i, .int .u64 b, .string S] #[.int .i64 k', .int .i64 i', .int .u64 b', .string S'] #[.int .i64 0, .int .i64 0, .int .u64 0, .string ⟨#[]⟩] 24 24 24
  generalize hw3 : ((w.alloc (.cells #[.int .i64 k, .int .i64 i, .int .u64 b, .string S] 24)).alloc (.cells #[.int .i64 k', .int .i64 i', .int .u64 b', .string S'] 24)).alloc (.cells #[.int .i64 0, .int .i64 0, .int .u64 0, .string ⟨#[]⟩] 24) = w3 at z0 z1 z2 hb3
  have x0 := z0.alloc (.cells #[.int .i64 k, .int .i64 i, .int .u64 b, .string S, .int .i64 k', .int .i64 i', .int .u64 b', .string S'] 24)
  have x1 := z1.alloc (.cells #[.int .i64 k, .int .i64 i, .int .u64 b, .string S, .int .i64 k', .int .i64 i', .int .u64 b', .string S'] 24)
  have x2 := z2.alloc (.cells #[.int .i64 k, .int .i64 i, .int .u64 b, .string S, .int .i64 k', .int .i64 i', .int .u64 b', .string S'] 24)
  have x3 : Blk (w3.alloc (.cells #[.int .i64 k, .int .i64 i, .int .u64 b, .string S, .int .i64 k', .int .i64 i', .int .u64 b', .string S'] 24)) w3.heap.size 24 [.int .i64 k, .int .i64 i, .int .u64 b, .string S, .int .i64 k', .int .i64 i', .int .u64 b', .string S'] := Blk.new w3 #[.int .i64 k, .int .i64 i, .int .u64 b, .string S, .int .i64 k', .int .i64 i', .int .u64 b', .string S'] 24
  have hb4 := hb3.alloc hb3.size (.cells #[.int .i64 k, .int .i64 i, .int .u64 b, .string S, .int .i64 k', .int .i64 i', .int .u64 b', .string S'] 24)
  obtain ⟨⟨p0, p1, p2, p3⟩, _⟩ := z0.four
  obtain ⟨⟨q0, q1, q2, q3⟩, _⟩ := z1.four
  clear z0 z1 z2
  go_enter Tryz.func73, Tryz.ntmps73
  go_upto_region 1 with fail
  try rw [hw3]
  clear hw3
  go_wp2_with fail
  refine (cQ _).mono ?_
  rintro e w3' ⟨rfl, rfl⟩
  clear cQ
  go_wp2_with fail
  clear p0 p1 p2 p3 q0 q1 q2 q3 hb3
  go_loopw [28] (fun ix wr => ∃ (j : Nat), j ≤ 2 ∧ ix = .int .i64 j ∧ Hid (1 ≤ j → fkA 2 k) ∧ Hid (2 ≤ j → fkA 2 k') ∧ Hid (Blk wr w.heap.size 24 [.int .i64 k, .int .i64 i, .int .u64 b, .string S]) ∧ Hid (Blk wr (w.heap.size + 1) 24 [.int .i64 k', .int .i64 i', .int .u64 b', .string S']) ∧ Hid (Blk wr (w.heap.size + 1 + 1) 24 [.int .i64 0, .int .i64 0, .int .u64 0, .string ⟨#[]⟩]) ∧ Hid (Blk wr w3'.heap.size 24 [.int .i64 k, .int .i64 i, .int .u64 b, .string S, .int .i64 k', .int .i64 i', .int .u64 b', .string S']) ∧ Hid (Below w.heap.size w wr)) (fun ix _ => 2 - (intOf ix).toNat)
  case atStart => exact ⟨0, by decide, rfl, Lib.hid (fun h => absurd h (by decide)), Lib.hid (fun h => absurd h (by decide)), Lib.hid x0, Lib.hid x1, Lib.hid x2, Lib.hid x3, Lib.hid hb4⟩
  case round =>
    obtain ⟨j, hj, rfl, hf1, hf2, hz0, hz1, hz2, hz3, hbw⟩ := hrel
    clear x0 x1 x2 x3 hb4
    by_cases hlt : j < 2
    · rcases (show j = 0 ∨ j = 1 by omega) with rfl | rfl
      · have p0 := hz3.out.cell (j := 0) rfl
        have p1 := hz3.out.cell (j := 1) rfl
        have p2 := hz3.out.cell (j := 2) rfl
        have p3 := hz3.out.cell (j := 3) rfl
        have y0 := hz0.out.alloc (.cells #[.int .i64 k, .int .i64 i, .int .u64 b, .string S] 24)
        have y1 := hz1.out.alloc (.cells #[.int .i64 k, .int .i64 i, .int .u64 b, .string S] 24)
        have y2 := hz2.out.alloc (.cells #[.int .i64 k, .int .i64 i, .int .u64 b, .string S] 24)
        have y3 := hz3.out.alloc (.cells #[.int .i64 k, .int .i64 i, .int .u64 b, .string S] 24)
        have yb := hbw.out.alloc hbw.out.size (.cells #[.int .i64 k, .int .i64 i, .int .u64 b, .string S] 24)
        have zt := Blk.new wr #[.int .i64 k, .int .i64 i, .int .u64 b, .string S] 24
        go_upto_region 5 with fail
        generalize hwa : wr.alloc (.cells #[.int .i64 k, .int .i64 i, .int .u64 b, .string S] 24) = wa at *
        clear hwa p0 p1 p2 p3 hz0 hz1 hz2 hz3 hbw
        generalize wr.heap.size = gt at *
        have t0 := zt.cell (j := 0) rfl
        clear zt
        obtain ⟨n1, e1⟩ : ∃ n, (k != 0) = n := ⟨_, rfl⟩
        obtain ⟨n2, e2⟩ : ∃ n, (k != 2) = n := ⟨_, rfl⟩
        cases n1
        · have FK : fkA 2 k := fkA_yes1 e1
          have HFK := Lib.hid FK
          clear FK
          have Y0 := Lib.hid y0
          have Y1 := Lib.hid y1
          have Y2 := Lib.hid y2
          have Y3 := Lib.hid y3
          have YB := Lib.hid yb
          clear y0 y1 y2 y3 yb
          go_wp2_with fail
          go_roundw
          case rel => exact ⟨1, by decide, rfl, Lib.hid (fun _ => HFK.out), Lib.hid (fun h => absurd h (by decide)), Y0, Y1, Y2, Y3, YB⟩
          case measure => simp [intOf]
        · cases n2
          · have FK : fkA 2 k := fkA_yes2 e2
            have HFK := Lib.hid FK
            clear FK
            have Y0 := Lib.hid y0
            have Y1 := Lib.hid y1
            have Y2 := Lib.hid y2
            have Y3 := Lib.hid y3
            have YB := Lib.hid yb
            clear y0 y1 y2 y3 yb
            go_wp2_with fail
            go_roundw
            case rel => exact ⟨1, by decide, rfl, Lib.hid (fun _ => HFK.out), Lib.hid (fun h => absurd h (by decide)), Y0, Y1, Y2, Y3, YB⟩
            case measure => simp [intOf]
          · have hRB := HRB.out (.inl (fkA_no e1 e2))
            clear HRO
            obtain ⟨⟨r0, r1, r2, r3⟩, f0, f1, f2, f3⟩ := y2.four
            clear y0 y1 y3
            go_wp2_with fail
            exact bodyPost_ret (results_val rfl _ _ (w.heap.size + 1 + 1) _ _ _ _ rfl y2.set4) rfl ⟨by rw [hRB]; rfl, below_set4 yb (by omega)⟩
      · have p0 := hz3.out.cell (j := 4) rfl
        have p1 := hz3.out.cell (j := 5) rfl
        have p2 := hz3.out.cell (j := 6) rfl
        have p3 := hz3.out.cell (j := 7) rfl
        have y0 := hz0.out.alloc (.cells #[.int .i64 k', .int .i64 i', .int .u64 b', .string S'] 24)
        have y1 := hz1.out.alloc (.cells #[.int .i64 k', .int .i64 i', .int .u64 b', .string S'] 24)
        have y2 := hz2.out.alloc (.cells #[.int .i64 k', .int .i64 i', .int .u64 b', .string S'] 24)
        have y3 := hz3.out.alloc (.cells #[.int .i64 k', .int .i64 i', .int .u64 b', .string S'] 24)
        have yb := hbw.out.alloc hbw.out.size (.cells #[.int .i64 k', .int .i64 i', .int .u64 b', .string S'] 24)
        have zt := Blk.new wr #[.int .i64 k', .int .i64 i', .int .u64 b', .string S'] 24
        go_upto_region 5 with fail
        generalize hwa : wr.alloc (.cells #[.int .i64 k', .int .i64 i', .int .u64 b', .string S'] 24) = wa at *
        clear hwa p0 p1 p2 p3 hz0 hz1 hz2 hz3 hbw
        generalize wr.heap.size = gt at *
        have t0 := zt.cell (j := 0) rfl
        clear zt
        obtain ⟨n1, e1⟩ : ∃ n, (k' != 0) = n := ⟨_, rfl⟩
        obtain ⟨n2, e2⟩ : ∃ n, (k' != 2) = n := ⟨_, rfl⟩
        cases n1
        · have FK : fkA 2 k' := fkA_yes1 e1
          have HFK := Lib.hid FK
          clear FK
          have Y0 := Lib.hid y0
          have Y1 := Lib.hid y1
          have Y2 := Lib.hid y2
          have Y3 := Lib.hid y3
          have YB := Lib.hid yb
          clear y0 y1 y2 y3 yb
          go_wp2_with fail
          go_roundw
          case rel => exact ⟨2, by decide, rfl, Lib.hid (fun _ => hf1.out (by decide)), Lib.hid (fun _ => HFK.out), Y0, Y1, Y2, Y3, YB⟩
          case measure => simp [intOf]
        · cases n2
          · have FK : fkA 2 k' := fkA_yes2 e2
            have HFK := Lib.hid FK
            clear FK
            have Y0 := Lib.hid y0
            have Y1 := Lib.hid y1
            have Y2 := Lib.hid y2
            have Y3 := Lib.hid y3
            have YB := Lib.hid yb
            clear y0 y1 y2 y3 yb
            go_wp2_with fail
            go_roundw
            case rel => exact ⟨2, by decide, rfl, Lib.hid (fun _ => hf1.out (by decide)), Lib.hid (fun _ => HFK.out), Y0, Y1, Y2, Y3, YB⟩
            case measure => simp [intOf]
          · have hRB := HRB.out (.inr (fkA_no e1 e2))
            clear HRO
            obtain ⟨⟨r0, r1, r2, r3⟩, f0, f1, f2, f3⟩ := y2.four
            clear y0 y1 y3
            go_wp2_with fail
            exact bodyPost_ret (results_val rfl _ _ (w.heap.size + 1 + 1) _ _ _ _ rfl y2.set4) rfl ⟨by rw [hRB]; rfl, below_set4 yb (by omega)⟩
    · obtain rfl : j = 2 := by omega
      have hR := HRO.out (hf1.out (by decide)) (hf2.out (by decide))
      have FK1 := hf1.out (by decide)
      have FK2 := hf2.out (by decide)
      clear HRB hf1 hf2
      clear hz3 HRO
      have y0 := hz0.out
      have y1 := hz1.out
      have y2 := hz2.out
      have yb := hbw.out
      clear hz0 hz1 hz2 hbw
      obtain ⟨⟨p0, p1, p2, p3⟩, _⟩ := y0.four
      obtain ⟨⟨q0, q1, q2, q3⟩, _⟩ := y1.four
      obtain ⟨⟨r0, r1, r2, r3⟩, f0, f1, f2, f3⟩ := y2.four
      have hin : in64 i := ⟨HV.out.fit.i0, HV.out.fit.i1⟩
      have hin' : in64 i' := ⟨HU.out.fit.i0, HU.out.fit.i1⟩
      obtain ⟨kz, ek⟩ : ∃ z, (k == 0) = z := ⟨_, rfl⟩
      obtain ⟨kz', ek'⟩ : ∃ z, (k' == 0) = z := ⟨_, rfl⟩
      cases kz
      · cases kz'
        · have hR := hR.2 ek ek'
          have cG := fun W => reckSub_any i i' hin hin' W
          unfold RekOk at cG
          generalize numE (i - i') = Q at *
          obtain ⟨⟨zk, zi, zb, zs⟩, zf⟩ := Q
          unfold valV at cG
          simp only at cG
          obtain ⟨ZS, hZS⟩ : ∃ Z, str zs = Z := ⟨_, rfl⟩
          rw [hZS] at cG
          have HZS := Lib.hid hZS
          have HR := Lib.hid hR
          clear hZS hR hin hin' FK1 FK2 HV HU
          go_wp2_with fail
          refine (cG _).mono ?_
          rintro e w5 ⟨rfl, hb5⟩
          have y3 := y2.call hb5
          have yc := below_stepE yb yb.size hb5
          clear y0 y1 y2 yb hb5 p0 p1 p2 p3 q0 q1 q2 q3 r0 r1 r2 r3 f0 f1 f2 f3
          obtain ⟨⟨r0, r1, r2, r3⟩, f0, f1, f2, f3⟩ := y3.four
          go_wp2_with fail
          exact bodyPost_ret (results_val rfl _ _ (w.heap.size + 1 + 1) _ _ _ _ rfl y3.set4) rfl ⟨by rw [HR.out, ← HZS.out]; rfl, below_set4 yc (by omega)⟩
        · have hR := hR.1 (.inr ek')
          clear FK1 FK2 hin hin'
          clear HV HU
          go_wp2_with fail
          exact bodyPost_ret (results_val rfl _ _ (w.heap.size + 1 + 1) _ _ _ _ rfl y2.set4) rfl ⟨by rw [hR]; rfl, below_set4 yb (by omega)⟩
      · have hR := hR.1 (.inl ek)
        clear FK1 FK2 hin hin'
        clear HV HU
        go_wp2_with fail
        exact bodyPost_ret (results_val rfl _ _ (w.heap.size + 1 + 1) _ _ _ _ rfl y2.set4) rfl ⟨by rw [hR]; rfl, below_set4 yb (by omega)⟩
set_option maxHeartbeats 16000000 in
theorem didAr7_any (v u : Vl) (hv : OkV v) (hu : OkV u) (w : World) : Calls Tryz.prog 73 #[.int .i64 7, valV v, valV u] w (RekOk (op2E 7 v u) w) := by
  unfold RekOk
  obtain ⟨k, i, b, s⟩ := v
  obtain ⟨k', i', b', s'⟩ := u
  have cQ : ∀ W, Calls Tryz.prog 109 #[.int .i64 7] W fun e w' => e = .returned (.tuple #[.int .i64 2, .int .i64 2]) ∧ w' = W := fun W => asksFor_any 7 W (by decide)
  obtain ⟨R, hR⟩ : ∃ R, op2E 7 ⟨k, i, b, s⟩ ⟨k', i', b', s'⟩ = R := ⟨_, rfl⟩
  rw [hR]
  have hRB : (¬ fkA 2 k) ∨ (¬ fkA 2 k') → R = badE 2 := by
    rw [← hR]
    intro h
    unfold op2E
    rw [if_pos (by decide)]
    rw [if_neg]
    intro hc
    simp only [Bool.and_eq_true, fit_fk] at hc
    rcases h with h | h
    · exact h hc.1
    · exact h hc.2
  have HRB := Lib.hid hRB
  clear hRB
  have hRO : fkA 2 k → fkA 2 k' → (((k == 0) = true ∨ (k' == 0) = true → R = okE nulV) ∧ ((k == 0) = false → (k' == 0) = false → R = numE (i * i'))) := fun h h' => by
    have e : R = if k = 0 ∨ k' = 0 then okE nulV else numE (i * i') := by
      rw [← hR]; unfold op2E; rw [if_pos (by decide), if_pos (by rw [Bool.and_eq_true]; exact ⟨(fit_fk _ _).2 h, (fit_fk _ _).2 h'⟩)]; rfl
    rw [e]
    refine ⟨fun h => if_pos (by simpa using h), fun h h2 => if_neg (by simp at h h2; omega)⟩
  have HRO := Lib.hid hRO
  have HV := Lib.hid hv
  have HU := Lib.hid hu
  clear hRO hv hu
  unfold valV
  simp only
  obtain ⟨S, hS⟩ : ∃ S, str s = S := ⟨_, rfl⟩
  obtain ⟨S', hS'⟩ : ∃ S', str s' = S' := ⟨_, rfl⟩
  rw [hS, hS']
  have HS := Lib.hid hS
  have HS' := Lib.hid hS'
  clear hS hS' hR
  obtain ⟨z0, z1, z2, hb3⟩ := three_new w #[.int .i64 k, .int .i64 i, .int .u64 b, .string S] #[.int .i64 k', .int .i64 i', .int .u64 b', .string S'] #[.int .i64 0, .int .i64 0, .int .u64 0, .string ⟨#[]⟩] 24 24 24
  generalize hw3 : ((w.alloc (.cells #[.int .i64 k, .int .i64 i, .int .u64 b, .string S] 24)).alloc (.cells #[.int .i64 k', .int .i64 i', .int .u64 b', .string S'] 24)).alloc (.cells #[.int .i64 0, .int .i64 0, .int .u64 0, .string ⟨#[]⟩] 24) = w3 at z0 z1 z2 hb3
  have x0 := z0.alloc (.cells #[.int .i64 k, .int .i64 i, .int .u64 b, .string S, .int .i64 k', .int .i64 i', .int .u64 b', .string S'] 24)
  have x1 := z1.alloc (.cells #[.int .i64 k, .int .i64 i, .int .u64 b, .string S, .int .i64 k', .int .i64 i', .int .u64 b', .string S'] 24)
  have x2 := z2.alloc (.cells #[.int .i64 k, .int .i64 i, .int .u64 b, .string S, .int .i64 k', .int .i64 i', .int .u64 b', .string S'] 24)
  have x3 : Blk (w3.alloc (.cells #[.int .i64 k, .int .i64 i, .int .u64 b, .string S, .int .i64 k', .int .i64 i', .int .u64 b', .string S'] 24)) w3.heap.size 24 [.int .i64 k, .int .i64 i, .int .u64 b, .string S, .int .i64 k', .int .i64 i', .int .u64 b', .string S'] := Blk.new w3 #[.int .i64 k, .int .i64 i, .int .u64 b, .string S, .int .i64 k', .int .i64 i', .int .u64 b', .string S'] 24
  have hb4 := hb3.alloc hb3.size (.cells #[.int .i64 k, .int .i64 i, .int .u64 b, .string S, .int .i64 k', .int .i64 i', .int .u64 b', .string S'] 24)
  obtain ⟨⟨p0, p1, p2, p3⟩, _⟩ := z0.four
  obtain ⟨⟨q0, q1, q2, q3⟩, _⟩ := z1.four
  clear z0 z1 z2
  go_enter Tryz.func73, Tryz.ntmps73
  go_upto_region 1 with fail
  try rw [hw3]
  clear hw3
  go_wp2_with fail
  refine (cQ _).mono ?_
  rintro e w3' ⟨rfl, rfl⟩
  clear cQ
  go_wp2_with fail
  clear p0 p1 p2 p3 q0 q1 q2 q3 hb3
  go_loopw [28] (fun ix wr => ∃ (j : Nat), j ≤ 2 ∧ ix = .int .i64 j ∧ Hid (1 ≤ j → fkA 2 k) ∧ Hid (2 ≤ j → fkA 2 k') ∧ Hid (Blk wr w.heap.size 24 [.int .i64 k, .int .i64 i, .int .u64 b, .string S]) ∧ Hid (Blk wr (w.heap.size + 1) 24 [.int .i64 k', .int .i64 i', .int .u64 b', .string S']) ∧ Hid (Blk wr (w.heap.size + 1 + 1) 24 [.int .i64 0, .int .i64 0, .int .u64 0, .string ⟨#[]⟩]) ∧ Hid (Blk wr w3'.heap.size 24 [.int .i64 k, .int .i64 i, .int .u64 b, .string S, .int .i64 k', .int .i64 i', .int .u64 b', .string S']) ∧ Hid (Below w.heap.size w wr)) (fun ix _ => 2 - (intOf ix).toNat)
  case atStart => exact ⟨0, by decide, rfl, Lib.hid (fun h => absurd h (by decide)), Lib.hid (fun h => absurd h (by decide)), Lib.hid x0, Lib.hid x1, Lib.hid x2, Lib.hid x3, Lib.hid hb4⟩
  case round =>
    obtain ⟨j, hj, rfl, hf1, hf2, hz0, hz1, hz2, hz3, hbw⟩ := hrel
    clear x0 x1 x2 x3 hb4
    by_cases hlt : j < 2
    · rcases (show j = 0 ∨ j = 1 by omega) with rfl | rfl
      · have p0 := hz3.out.cell (j := 0) rfl
        have p1 := hz3.out.cell (j := 1) rfl
        have p2 := hz3.out.cell (j := 2) rfl
        have p3 := hz3.out.cell (j := 3) rfl
        have y0 := hz0.out.alloc (.cells #[.int .i64 k, .int .i64 i, .int .u64 b, .string S] 24)
        have y1 := hz1.out.alloc (.cells #[.int .i64 k, .int .i64 i, .int .u64 b, .string S] 24)
        have y2 := hz2.out.alloc (.cells #[.int .i64 k, .int .i64 i, .int .u64 b, .string S] 24)
        have y3 := hz3.out.alloc (.cells #[.int .i64 k, .int .i64 i, .int .u64 b, .string S] 24)
        have yb := hbw.out.alloc hbw.out.size (.cells #[.int .i64 k, .int .i64 i, .int .u64 b, .string S] 24)
        have zt := Blk.new wr #[.int .i64 k, .int .i64 i, .int .u64 b, .string S] 24
        go_upto_region 5 with fail
        generalize hwa : wr.alloc (.cells #[.int .i64 k, .int .i64 i, .int .u64 b, .string S] 24) = wa at *
        clear hwa p0 p1 p2 p3 hz0 hz1 hz2 hz3 hbw
        generalize wr.heap.size = gt at *
        have t0 := zt.cell (j := 0) rfl
        clear zt
        obtain ⟨n1, e1⟩ : ∃ n, (k != 0) = n := ⟨_, rfl⟩
        obtain ⟨n2, e2⟩ : ∃ n, (k != 2) = n := ⟨_, rfl⟩
        cases n1
        · have FK : fkA 2 k := fkA_yes1 e1
          have HFK := Lib.hid FK
          clear FK
          have Y0 := Lib.hid y0
          have Y1 := Lib.hid y1
          have Y2 := Lib.hid y2
          have Y3 := Lib.hid y3
          have YB := Lib.hid yb
          clear y0 y1 y2 y3 yb
          go_wp2_with fail
          go_roundw
          case rel => exact ⟨1, by decide, rfl, Lib.hid (fun _ => HFK.out), Lib.hid (fun h => absurd h (by decide)), Y0, Y1, Y2, Y3, YB⟩
          case measure => simp [intOf]
        · cases n2
          · have FK : fkA 2 k := fkA_yes2 e2
            have HFK := Lib.hid FK
            clear FK
            have Y0 := Lib.hid y0
            have Y1 := Lib.hid y1
            have Y2 := Lib.hid y2
            have Y3 := Lib.hid y3
            have YB := Lib.hid yb
            clear y0 y1 y2 y3 yb
            go_wp2_with fail
            go_roundw
            case rel => exact ⟨1, by decide, rfl, Lib.hid (fun _ => HFK.out), Lib.hid (fun h => absurd h (by decide)), Y0, Y1, Y2, Y3, YB⟩
            case measure => simp [intOf]
          · have hRB := HRB.out (.inl (fkA_no e1 e2))
            clear HRO
            obtain ⟨⟨r0, r1, r2, r3⟩, f0, f1, f2, f3⟩ := y2.four
            clear y0 y1 y3
            go_wp2_with fail
            exact bodyPost_ret (results_val rfl _ _ (w.heap.size + 1 + 1) _ _ _ _ rfl y2.set4) rfl ⟨by rw [hRB]; rfl, below_set4 yb (by omega)⟩
      · have p0 := hz3.out.cell (j := 4) rfl
        have p1 := hz3.out.cell (j := 5) rfl
        have p2 := hz3.out.cell (j := 6) rfl
        have p3 := hz3.out.cell (j := 7) rfl
        have y0 := hz0.out.alloc (.cells #[.int .i64 k', .int .i64 i', .int .u64 b', .string S'] 24)
        have y1 := hz1.out.alloc (.cells #[.int .i64 k', .int .i64 i', .int .u64 b', .string S'] 24)
        have y2 := hz2.out.alloc (.cells #[.int .i64 k', .int .i64 i', .int .u64 b', .string S'] 24)
        have y3 := hz3.out.alloc (.cells #[.int .i64 k', .int .i64 i', .int .u64 b', .string S'] 24)
        have yb := hbw.out.alloc hbw.out.size (.cells #[.int .i64 k', .int .i64 i', .int .u64 b', .string S'] 24)
        have zt := Blk.new wr #[.int .i64 k', .int .i64 i', .int .u64 b', .string S'] 24
        go_upto_region 5 with fail
        generalize hwa : wr.alloc (.cells #[.int .i64 k', .int .i64 i', .int .u64 b', .string S'] 24) = wa at *
        clear hwa p0 p1 p2 p3 hz0 hz1 hz2 hz3 hbw
        generalize wr.heap.size = gt at *
        have t0 := zt.cell (j := 0) rfl
        clear zt
        obtain ⟨n1, e1⟩ : ∃ n, (k' != 0) = n := ⟨_, rfl⟩
        obtain ⟨n2, e2⟩ : ∃ n, (k' != 2) = n := ⟨_, rfl⟩
        cases n1
        · have FK : fkA 2 k' := fkA_yes1 e1
          have HFK := Lib.hid FK
          clear FK
          have Y0 := Lib.hid y0
          have Y1 := Lib.hid y1
          have Y2 := Lib.hid y2
          have Y3 := Lib.hid y3
          have YB := Lib.hid yb
          clear y0 y1 y2 y3 yb
          go_wp2_with fail
          go_roundw
          case rel => exact ⟨2, by decide, rfl, Lib.hid (fun _ => hf1.out (by decide)), Lib.hid (fun _ => HFK.out), Y0, Y1, Y2, Y3, YB⟩
          case measure => simp [intOf]
        · cases n2
          · have FK : fkA 2 k' := fkA_yes2 e2
            have HFK := Lib.hid FK
            clear FK
            have Y0 := Lib.hid y0
            have Y1 := Lib.hid y1
            have Y2 := Lib.hid y2
            have Y3 := Lib.hid y3
            have YB := Lib.hid yb
            clear y0 y1 y2 y3 yb
            go_wp2_with fail
            go_roundw
            case rel => exact ⟨2, by decide, rfl, Lib.hid (fun _ => hf1.out (by decide)), Lib.hid (fun _ => HFK.out), Y0, Y1, Y2, Y3, YB⟩
            case measure => simp [intOf]
          · have hRB := HRB.out (.inr (fkA_no e1 e2))
            clear HRO
            obtain ⟨⟨r0, r1, r2, r3⟩, f0, f1, f2, f3⟩ := y2.four
            clear y0 y1 y3
            go_wp2_with fail
            exact bodyPost_ret (results_val rfl _ _ (w.heap.size + 1 + 1) _ _ _ _ rfl y2.set4) rfl ⟨by rw [hRB]; rfl, below_set4 yb (by omega)⟩
    · obtain rfl : j = 2 := by omega
      have hR := HRO.out (hf1.out (by decide)) (hf2.out (by decide))
      have FK1 := hf1.out (by decide)
      have FK2 := hf2.out (by decide)
      clear HRB hf1 hf2
      clear hz3 HRO
      have y0 := hz0.out
      have y1 := hz1.out
      have y2 := hz2.out
      have yb := hbw.out
      clear hz0 hz1 hz2 hbw
      obtain ⟨⟨p0, p1, p2, p3⟩, _⟩ := y0.four
      obtain ⟨⟨q0, q1, q2, q3⟩, _⟩ := y1.four
      obtain ⟨⟨r0, r1, r2, r3⟩, f0, f1, f2, f3⟩ := y2.four
      have hin : in64 i := ⟨HV.out.fit.i0, HV.out.fit.i1⟩
      have hin' : in64 i' := ⟨HU.out.fit.i0, HU.out.fit.i1⟩
      obtain ⟨kz, ek⟩ : ∃ z, (k == 0) = z := ⟨_, rfl⟩
      obtain ⟨kz', ek'⟩ : ∃ z, (k' == 0) = z := ⟨_, rfl⟩
      cases kz
      · cases kz'
        · have hR := hR.2 ek ek'
          have cG := fun W => reckMul_any i i' hin hin' W
          unfold RekOk at cG
          generalize numE (i * i') = Q at *
          obtain ⟨⟨zk, zi, zb, zs⟩, zf⟩ := Q
          unfold valV at cG
          simp only at cG
          obtain ⟨ZS, hZS⟩ : ∃ Z, str zs = Z := ⟨_, rfl⟩
          rw [hZS] at cG
          have HZS := Lib.hid hZS
          have HR := Lib.hid hR
          clear hZS hR hin hin' FK1 FK2 HV HU
          go_wp2_with fail
          refine (cG _).mono ?_
          rintro e w5 ⟨rfl, hb5⟩
          have y3 := y2.call hb5
          have yc := below_stepE yb yb.size hb5
          clear y0 y1 y2 yb hb5 p0 p1 p2 p3 q0 q1 q2 q3 r0 r1 r2 r3 f0 f1 f2 f3
          obtain ⟨⟨r0, r1, r2, r3⟩, f0, f1, f2, f3⟩ := y3.four
          go_wp2_with fail
          exact bodyPost_ret (results_val rfl _ _ (w.heap.size + 1 + 1) _ _ _ _ rfl y3.set4) rfl ⟨by rw [HR.out, ← HZS.out]; rfl, below_set4 yc (by omega)⟩
        · have hR := hR.1 (.inr ek')
          clear FK1 FK2 hin hin'
          clear HV HU
          go_wp2_with fail
          exact bodyPost_ret (results_val rfl _ _ (w.heap.size + 1 + 1) _ _ _ _ rfl y2.set4) rfl ⟨by rw [hR]; rfl, below_set4 yb (by omega)⟩
      · have hR := hR.1 (.inl ek)
        clear FK1 FK2 hin hin'
        clear HV HU
        go_wp2_with fail
        exact bodyPost_ret (results_val rfl _ _ (w.heap.size + 1 + 1) _ _ _ _ rfl y2.set4) rfl ⟨by rw [hR]; rfl, below_set4 yb (by omega)⟩
set_option maxHeartbeats 16000000 in
theorem didAr8_any (v u : Vl) (hv : OkV v) (hu : OkV u) (w : World) : Calls Tryz.prog 73 #[.int .i64 8, valV v, valV u] w (RekOk (op2E 8 v u) w) := by
  unfold RekOk
  obtain ⟨k, i, b, s⟩ := v
  obtain ⟨k', i', b', s'⟩ := u
  have cQ : ∀ W, Calls Tryz.prog 109 #[.int .i64 8] W fun e w' => e = .returned (.tuple #[.int .i64 2, .int .i64 2]) ∧ w' = W := fun W => asksFor_any 8 W (by decide)
  obtain ⟨R, hR⟩ : ∃ R, op2E 8 ⟨k, i, b, s⟩ ⟨k', i', b', s'⟩ = R := ⟨_, rfl⟩
  rw [hR]
  have hRB : (¬ fkA 2 k) ∨ (¬ fkA 2 k') → R = badE 2 := by
    rw [← hR]
    intro h
    unfold op2E
    rw [if_pos (by decide)]
    rw [if_neg]
    intro hc
    simp only [Bool.and_eq_true, fit_fk] at hc
    rcases h with h | h
    · exact h hc.1
    · exact h hc.2
  have HRB := Lib.hid hRB
  clear hRB
  have hRO : fkA 2 k → fkA 2 k' → (((k == 0) = true ∨ (k' == 0) = true → R = okE nulV) ∧ ((k == 0) = false → (k' == 0) = false → R = (if i' = 0 then badE 7 else numE (i.tdiv i')))) := fun h h' => by
    have e : R = if k = 0 ∨ k' = 0 then okE nulV else (if i' = 0 then badE 7 else numE (i.tdiv i')) := by
      rw [← hR]; unfold op2E; rw [if_pos (by decide), if_pos (by rw [Bool.and_eq_true]; exact ⟨(fit_fk _ _).2 h, (fit_fk _ _).2 h'⟩)]; rfl
    rw [e]
    refine ⟨fun h => if_pos (by simpa using h), fun h h2 => if_neg (by simp at h h2; omega)⟩
  have HRO := Lib.hid hRO
  have HV := Lib.hid hv
  have HU := Lib.hid hu
  clear hRO hv hu
  unfold valV
  simp only
  obtain ⟨S, hS⟩ : ∃ S, str s = S := ⟨_, rfl⟩
  obtain ⟨S', hS'⟩ : ∃ S', str s' = S' := ⟨_, rfl⟩
  rw [hS, hS']
  have HS := Lib.hid hS
  have HS' := Lib.hid hS'
  clear hS hS' hR
  obtain ⟨z0, z1, z2, hb3⟩ := three_new w #[.int .i64 k, .int .i64 i, .int .u64 b, .string S] #[.int .i64 k', .int .i64 i', .int .u64 b', .string S'] #[.int .i64 0, .int .i64 0, .int .u64 0, .string ⟨#[]⟩] 24 24 24
  generalize hw3 : ((w.alloc (.cells #[.int .i64 k, .int .i64 i, .int .u64 b, .string S] 24)).alloc (.cells #[.int .i64 k', .int .i64 i', .int .u64 b', .string S'] 24)).alloc (.cells #[.int .i64 0, .int .i64 0, .int .u64 0, .string ⟨#[]⟩] 24) = w3 at z0 z1 z2 hb3
  have x0 := z0.alloc (.cells #[.int .i64 k, .int .i64 i, .int .u64 b, .string S, .int .i64 k', .int .i64 i', .int .u64 b', .string S'] 24)
  have x1 := z1.alloc (.cells #[.int .i64 k, .int .i64 i, .int .u64 b, .string S, .int .i64 k', .int .i64 i', .int .u64 b', .string S'] 24)
  have x2 := z2.alloc (.cells #[.int .i64 k, .int .i64 i, .int .u64 b, .string S, .int .i64 k', .int .i64 i', .int .u64 b', .string S'] 24)
  have x3 : Blk (w3.alloc (.cells #[.int .i64 k, .int .i64 i, .int .u64 b, .string S, .int .i64 k', .int .i64 i', .int .u64 b', .string S'] 24)) w3.heap.size 24 [.int .i64 k, .int .i64 i, .int .u64 b, .string S, .int .i64 k', .int .i64 i', .int .u64 b', .string S'] := Blk.new w3 #[.int .i64 k, .int .i64 i, .int .u64 b, .string S, .int .i64 k', .int .i64 i', .int .u64 b', .string S'] 24
  have hb4 := hb3.alloc hb3.size (.cells #[.int .i64 k, .int .i64 i, .int .u64 b, .string S, .int .i64 k', .int .i64 i', .int .u64 b', .string S'] 24)
  obtain ⟨⟨p0, p1, p2, p3⟩, _⟩ := z0.four
  obtain ⟨⟨q0, q1, q2, q3⟩, _⟩ := z1.four
  clear z0 z1 z2
  go_enter Tryz.func73, Tryz.ntmps73
  go_upto_region 1 with fail
  try rw [hw3]
  clear hw3
  go_wp2_with fail
  refine (cQ _).mono ?_
  rintro e w3' ⟨rfl, rfl⟩
  clear cQ
  go_wp2_with fail
  clear p0 p1 p2 p3 q0 q1 q2 q3 hb3
  go_loopw [28] (fun ix wr => ∃ (j : Nat), j ≤ 2 ∧ ix = .int .i64 j ∧ Hid (1 ≤ j → fkA 2 k) ∧ Hid (2 ≤ j → fkA 2 k') ∧ Hid (Blk wr w.heap.size 24 [.int .i64 k, .int .i64 i, .int .u64 b, .string S]) ∧ Hid (Blk wr (w.heap.size + 1) 24 [.int .i64 k', .int .i64 i', .int .u64 b', .string S']) ∧ Hid (Blk wr (w.heap.size + 1 + 1) 24 [.int .i64 0, .int .i64 0, .int .u64 0, .string ⟨#[]⟩]) ∧ Hid (Blk wr w3'.heap.size 24 [.int .i64 k, .int .i64 i, .int .u64 b, .string S, .int .i64 k', .int .i64 i', .int .u64 b', .string S']) ∧ Hid (Below w.heap.size w wr)) (fun ix _ => 2 - (intOf ix).toNat)
  case atStart => exact ⟨0, by decide, rfl, Lib.hid (fun h => absurd h (by decide)), Lib.hid (fun h => absurd h (by decide)), Lib.hid x0, Lib.hid x1, Lib.hid x2, Lib.hid x3, Lib.hid hb4⟩
  case round =>
    obtain ⟨j, hj, rfl, hf1, hf2, hz0, hz1, hz2, hz3, hbw⟩ := hrel
    clear x0 x1 x2 x3 hb4
    by_cases hlt : j < 2
    · rcases (show j = 0 ∨ j = 1 by omega) with rfl | rfl
      · have p0 := hz3.out.cell (j := 0) rfl
        have p1 := hz3.out.cell (j := 1) rfl
        have p2 := hz3.out.cell (j := 2) rfl
        have p3 := hz3.out.cell (j := 3) rfl
        have y0 := hz0.out.alloc (.cells #[.int .i64 k, .int .i64 i, .int .u64 b, .string S] 24)
        have y1 := hz1.out.alloc (.cells #[.int .i64 k, .int .i64 i, .int .u64 b, .string S] 24)
        have y2 := hz2.out.alloc (.cells #[.int .i64 k, .int .i64 i, .int .u64 b, .string S] 24)
        have y3 := hz3.out.alloc (.cells #[.int .i64 k, .int .i64 i, .int .u64 b, .string S] 24)
        have yb := hbw.out.alloc hbw.out.size (.cells #[.int .i64 k, .int .i64 i, .int .u64 b, .string S] 24)
        have zt := Blk.new wr #[.int .i64 k, .int .i64 i, .int .u64 b, .string S] 24
        go_upto_region 5 with fail
        generalize hwa : wr.alloc (.cells #[.int .i64 k, .int .i64 i, .int .u64 b, .string S] 24) = wa at *
        clear hwa p0 p1 p2 p3 hz0 hz1 hz2 hz3 hbw
        generalize wr.heap.size = gt at *
        have t0 := zt.cell (j := 0) rfl
        clear zt
        obtain ⟨n1, e1⟩ : ∃ n, (k != 0) = n := ⟨_, rfl⟩
        obtain ⟨n2, e2⟩ : ∃ n, (k != 2) = n := ⟨_, rfl⟩
        cases n1
        · have FK : fkA 2 k := fkA_yes1 e1
          have HFK := Lib.hid FK
          clear FK
          have Y0 := Lib.hid y0
          have Y1 := Lib.hid y1
          have Y2 := Lib.hid y2
          have Y3 := Lib.hid y3
          have YB := Lib.hid yb
          clear y0 y1 y2 y3 yb
          go_wp2_with fail
          go_roundw
          case rel => exact ⟨1, by decide, rfl, Lib.hid (fun _ => HFK.out), Lib.hid (fun h => absurd h (by decide)), Y0, Y1, Y2, Y3, YB⟩
          case measure => simp [intOf]
        · cases n2
          · have FK : fkA 2 k := fkA_yes2 e2
            have HFK := Lib.hid FK
            clear FK
            have Y0 := Lib.hid y0
            have Y1 := Lib.hid y1
            have Y2 := Lib.hid y2
            have Y3 := Lib.hid y3
            have YB := Lib.hid yb
            clear y0 y1 y2 y3 yb
            go_wp2_with fail
            go_roundw
            case rel => exact ⟨1, by decide, rfl, Lib.hid (fun _ => HFK.out), Lib.hid (fun h => absurd h (by decide)), Y0, Y1, Y2, Y3, YB⟩
            case measure => simp [intOf]
          · have hRB := HRB.out (.inl (fkA_no e1 e2))
            clear HRO
            obtain ⟨⟨r0, r1, r2, r3⟩, f0, f1, f2, f3⟩ := y2.four
            clear y0 y1 y3
            go_wp2_with fail
            exact bodyPost_ret (results_val rfl _ _ (w.heap.size + 1 + 1) _ _ _ _ rfl y2.set4) rfl ⟨by rw [hRB]; rfl, below_set4 yb (by omega)⟩
      · have p0 := hz3.out.cell (j := 4) rfl
        have p1 := hz3.out.cell (j := 5) rfl
        have p2 := hz3.out.cell (j := 6) rfl
        have p3 := hz3.out.cell (j := 7) rfl
        have y0 := hz0.out.alloc (.cells #[.int .i64 k', .int .i64 i', .int .u64 b', .string S'] 24)
        have y1 := hz1.out.alloc (.cells #[.int .i64 k', .int .i64 i', .int .u64 b', .string S'] 24)
        have y2 := hz2.out.alloc (.cells #[.int .i64 k', .int .i64 i', .int .u64 b', .string S'] 24)
        have y3 := hz3.out.alloc (.cells #[.int .i64 k', .int .i64 i', .int .u64 b', .string S'] 24)
        have yb := hbw.out.alloc hbw.out.size (.cells #[.int .i64 k', .int .i64 i', .int .u64 b', .string S'] 24)
        have zt := Blk.new wr #[.int .i64 k', .int .i64 i', .int .u64 b', .string S'] 24
        go_upto_region 5 with fail
        generalize hwa : wr.alloc (.cells #[.int .i64 k', .int .i64 i', .int .u64 b', .string S'] 24) = wa at *
        clear hwa p0 p1 p2 p3 hz0 hz1 hz2 hz3 hbw
        generalize wr.heap.size = gt at *
        have t0 := zt.cell (j := 0) rfl
        clear zt
        obtain ⟨n1, e1⟩ : ∃ n, (k' != 0) = n := ⟨_, rfl⟩
        obtain ⟨n2, e2⟩ : ∃ n, (k' != 2) = n := ⟨_, rfl⟩
        cases n1
        · have FK : fkA 2 k' := fkA_yes1 e1
          have HFK := Lib.hid FK
          clear FK
          have Y0 := Lib.hid y0
          have Y1 := Lib.hid y1
          have Y2 := Lib.hid y2
          have Y3 := Lib.hid y3
          have YB := Lib.hid yb
          clear y0 y1 y2 y3 yb
          go_wp2_with fail
          go_roundw
          case rel => exact ⟨2, by decide, rfl, Lib.hid (fun _ => hf1.out (by decide)), Lib.hid (fun _ => HFK.out), Y0, Y1, Y2, Y3, YB⟩
          case measure => simp [intOf]
        · cases n2
          · have FK : fkA 2 k' := fkA_yes2 e2
            have HFK := Lib.hid FK
            clear FK
            have Y0 := Lib.hid y0
            have Y1 := Lib.hid y1
            have Y2 := Lib.hid y2
            have Y3 := Lib.hid y3
            have YB := Lib.hid yb
            clear y0 y1 y2 y3 yb
            go_wp2_with fail
            go_roundw
            case rel => exact ⟨2, by decide, rfl, Lib.hid (fun _ => hf1.out (by decide)), Lib.hid (fun _ => HFK.out), Y0, Y1, Y2, Y3, YB⟩
            case measure => simp [intOf]
          · have hRB := HRB.out (.inr (fkA_no e1 e2))
            clear HRO
            obtain ⟨⟨r0, r1, r2, r3⟩, f0, f1, f2, f3⟩ := y2.four
            clear y0 y1 y3
            go_wp2_with fail
            exact bodyPost_ret (results_val rfl _ _ (w.heap.size + 1 + 1) _ _ _ _ rfl y2.set4) rfl ⟨by rw [hRB]; rfl, below_set4 yb (by omega)⟩
    · obtain rfl : j = 2 := by omega
      have hR := HRO.out (hf1.out (by decide)) (hf2.out (by decide))
      have FK1 := hf1.out (by decide)
      have FK2 := hf2.out (by decide)
      clear HRB hf1 hf2
      clear hz3 HRO
      have y0 := hz0.out
      have y1 := hz1.out
      have y2 := hz2.out
      have yb := hbw.out
      clear hz0 hz1 hz2 hbw
      obtain ⟨⟨p0, p1, p2, p3⟩, _⟩ := y0.four
      obtain ⟨⟨q0, q1, q2, q3⟩, _⟩ := y1.four
      obtain ⟨⟨r0, r1, r2, r3⟩, f0, f1, f2, f3⟩ := y2.four
      have hin : in64 i := ⟨HV.out.fit.i0, HV.out.fit.i1⟩
      have hin' : in64 i' := ⟨HU.out.fit.i0, HU.out.fit.i1⟩
      obtain ⟨kz, ek⟩ : ∃ z, (k == 0) = z := ⟨_, rfl⟩
      obtain ⟨kz', ek'⟩ : ∃ z, (k' == 0) = z := ⟨_, rfl⟩
      cases kz
      · cases kz'
        · have hR := hR.2 ek ek'
          have cG := fun W => reckDiv_any i i' hin hin' W
          unfold RekOk at cG
          generalize (if i' = 0 then badE 7 else numE (i.tdiv i')) = Q at *
          obtain ⟨⟨zk, zi, zb, zs⟩, zf⟩ := Q
          unfold valV at cG
          simp only at cG
          obtain ⟨ZS, hZS⟩ : ∃ Z, str zs = Z := ⟨_, rfl⟩
          rw [hZS] at cG
          have HZS := Lib.hid hZS
          have HR := Lib.hid hR
          clear hZS hR hin hin' FK1 FK2 HV HU
          go_wp2_with fail
          refine (cG _).mono ?_
          rintro e w5 ⟨rfl, hb5⟩
          have y3 := y2.call hb5
          have yc := below_stepE yb yb.size hb5
          clear y0 y1 y2 yb hb5 p0 p1 p2 p3 q0 q1 q2 q3 r0 r1 r2 r3 f0 f1 f2 f3
          obtain ⟨⟨r0, r1, r2, r3⟩, f0, f1, f2, f3⟩ := y3.four
          go_wp2_with fail
          exact bodyPost_ret (results_val rfl _ _ (w.heap.size + 1 + 1) _ _ _ _ rfl y3.set4) rfl ⟨by rw [HR.out, ← HZS.out]; rfl, below_set4 yc (by omega)⟩
        · have hR := hR.1 (.inr ek')
          clear FK1 FK2 hin hin'
          clear HV HU
          go_wp2_with fail
          exact bodyPost_ret (results_val rfl _ _ (w.heap.size + 1 + 1) _ _ _ _ rfl y2.set4) rfl ⟨by rw [hR]; rfl, below_set4 yb (by omega)⟩
      · have hR := hR.1 (.inl ek)
        clear FK1 FK2 hin hin'
        clear HV HU
        go_wp2_with fail
        exact bodyPost_ret (results_val rfl _ _ (w.heap.size + 1 + 1) _ _ _ _ rfl y2.set4) rfl ⟨by rw [hR]; rfl, below_set4 yb (by omega)⟩
set_option maxHeartbeats 16000000 in
theorem didCmp9_any (v u : Vl) (hv : OkV v) (hu : OkV u) (w : World) : Calls Tryz.prog 73 #[.int .i64 9, valV v, valV u] w (RekOk (op2E 9 v u) w) := by
  unfold RekOk
  obtain ⟨k, i, b, s⟩ := v
  obtain ⟨k', i', b', s'⟩ := u
  have cQ : ∀ W, Calls Tryz.prog 109 #[.int .i64 9] W fun e w' => e = .returned (.tuple #[.int .i64 0, .int .i64 1]) ∧ w' = W := fun W => asksFor_any 9 W (by decide)
  have cO := fun W => refOrder_v (toV ⟨k, i, b, s⟩) (toV ⟨k', i', b', s'⟩) W (toV_fits _ hv) (toV_fits _ hu) (good_of _ (toV_fits _ hv) hv.chk) (good_of _ (toV_fits _ hu) hu.chk)
  have hrg := ordV_range (toV ⟨k, i, b, s⟩) (toV ⟨k', i', b', s'⟩)
  obtain ⟨R, hR⟩ : ∃ R, op2E 9 ⟨k, i, b, s⟩ ⟨k', i', b', s'⟩ = R := ⟨_, rfl⟩
  rw [hR]
  have hRO : ((k == 0) = true ∨ (k' == 0) = true → R = okE nulV) ∧ ((k == 0) = false → (k' == 0) = false → ((k != k') = true → R = badE 2) ∧ ((k != k') = false → R = okE (booV (whichC 9 (ordV (toV ⟨k, i, b, s⟩) (toV ⟨k', i', b', s'⟩)))))) := by
    have e : R = if k = 0 ∨ k' = 0 then okE nulV else if k = k' then okE (booV (whichC 9 (ordV (toV ⟨k, i, b, s⟩) (toV ⟨k', i', b', s'⟩)))) else badE 2 := by
      rw [← hR]; rfl
    rw [e]
    refine ⟨fun h => if_pos (by simpa using h), fun h h2 => ?_⟩
    rw [if_neg (by simp at h h2; omega)]
    exact ⟨fun h => if_neg (by simpa using h), fun h => if_pos (by simpa using h)⟩
  generalize ordV (toV ⟨k, i, b, s⟩) (toV ⟨k', i', b', s'⟩) = C at *
  simp only [toV] at cO
  have HRO := Lib.hid hRO
  have HV := Lib.hid hv
  have HU := Lib.hid hu
  clear hRO hv hu
  unfold valV
  simp only
  obtain ⟨S, hS⟩ : ∃ S, str s = S := ⟨_, rfl⟩
  obtain ⟨S', hS'⟩ : ∃ S', str s' = S' := ⟨_, rfl⟩
  rw [hS, hS']
  have HS := Lib.hid hS
  have HS' := Lib.hid hS'
  clear hS hS' hR
  obtain ⟨z0, z1, z2, hb3⟩ := three_new w #[.int .i64 k, .int .i64 i, .int .u64 b, .string S] #[.int .i64 k', .int .i64 i', .int .u64 b', .string S'] #[.int .i64 0, .int .i64 0, .int .u64 0, .string ⟨#[]⟩] 24 24 24
  generalize hw3 : ((w.alloc (.cells #[.int .i64 k, .int .i64 i, .int .u64 b, .string S] 24)).alloc (.cells #[.int .i64 k', .int .i64 i', .int .u64 b', .string S'] 24)).alloc (.cells #[.int .i64 0, .int .i64 0, .int .u64 0, .string ⟨#[]⟩] 24) = w3 at z0 z1 z2 hb3
  have x0 := z0.alloc (.cells #[.int .i64 k, .int .i64 i, .int .u64 b, .string S, .int .i64 k', .int .i64 i', .int .u64 b', .string S'] 24)
  have x1 := z1.alloc (.cells #[.int .i64 k, .int .i64 i, .int .u64 b, .string S, .int .i64 k', .int .i64 i', .int .u64 b', .string S'] 24)
  have x2 := z2.alloc (.cells #[.int .i64 k, .int .i64 i, .int .u64 b, .string S, .int .i64 k', .int .i64 i', .int .u64 b', .string S'] 24)
  have x3 : Blk (w3.alloc (.cells #[.int .i64 k, .int .i64 i, .int .u64 b, .string S, .int .i64 k', .int .i64 i', .int .u64 b', .string S'] 24)) w3.heap.size 24 [.int .i64 k, .int .i64 i, .int .u64 b, .string S, .int .i64 k', .int .i64 i', .int .u64 b', .string S'] := Blk.new w3 #[.int .i64 k, .int .i64 i, .int .u64 b, .string S, .int .i64 k', .int .i64 i', .int .u64 b', .string S'] 24
  have hb4 := hb3.alloc hb3.size (.cells #[.int .i64 k, .int .i64 i, .int .u64 b, .string S, .int .i64 k', .int .i64 i', .int .u64 b', .string S'] 24)
  obtain ⟨⟨p0, p1, p2, p3⟩, _⟩ := z0.four
  obtain ⟨⟨q0, q1, q2, q3⟩, _⟩ := z1.four
  clear z0 z1 z2
  go_enter Tryz.func73, Tryz.ntmps73
  go_upto_region 1 with fail
  try rw [hw3]
  clear hw3
  go_wp2_with fail
  refine (cQ _).mono ?_
  rintro e w3' ⟨rfl, rfl⟩
  clear cQ
  go_wp2_with fail
  clear p0 p1 p2 p3 q0 q1 q2 q3 hb3
  go_loopw [28] (fun ix wr => ∃ (j : Nat), j ≤ 2 ∧ ix = .int .i64 j ∧ True ∧ Hid (Blk wr w.heap.size 24 [.int .i64 k, .int .i64 i, .int .u64 b, .string S]) ∧ Hid (Blk wr (w.heap.size + 1) 24 [.int .i64 k', .int .i64 i', .int .u64 b', .string S']) ∧ Hid (Blk wr (w.heap.size + 1 + 1) 24 [.int .i64 0, .int .i64 0, .int .u64 0, .string ⟨#[]⟩]) ∧ Hid (Blk wr w3'.heap.size 24 [.int .i64 k, .int .i64 i, .int .u64 b, .string S, .int .i64 k', .int .i64 i', .int .u64 b', .string S']) ∧ Hid (Below w.heap.size w wr)) (fun ix _ => 2 - (intOf ix).toNat)
  case atStart => exact ⟨0, by decide, rfl, trivial, Lib.hid x0, Lib.hid x1, Lib.hid x2, Lib.hid x3, Lib.hid hb4⟩
  case round =>
    obtain ⟨j, hj, rfl, _, hz0, hz1, hz2, hz3, hbw⟩ := hrel
    clear x0 x1 x2 x3 hb4
    by_cases hlt : j < 2
    · rcases (show j = 0 ∨ j = 1 by omega) with rfl | rfl
      · have p0 := hz3.out.cell (j := 0) rfl
        have p1 := hz3.out.cell (j := 1) rfl
        have p2 := hz3.out.cell (j := 2) rfl
        have p3 := hz3.out.cell (j := 3) rfl
        have y0 := hz0.out.alloc (.cells #[.int .i64 k, .int .i64 i, .int .u64 b, .string S] 24)
        have y1 := hz1.out.alloc (.cells #[.int .i64 k, .int .i64 i, .int .u64 b, .string S] 24)
        have y2 := hz2.out.alloc (.cells #[.int .i64 k, .int .i64 i, .int .u64 b, .string S] 24)
        have y3 := hz3.out.alloc (.cells #[.int .i64 k, .int .i64 i, .int .u64 b, .string S] 24)
        have yb := hbw.out.alloc hbw.out.size (.cells #[.int .i64 k, .int .i64 i, .int .u64 b, .string S] 24)
        have zt := Blk.new wr #[.int .i64 k, .int .i64 i, .int .u64 b, .string S] 24
        go_upto_region 5 with fail
        generalize hwa : wr.alloc (.cells #[.int .i64 k, .int .i64 i, .int .u64 b, .string S] 24) = wa at *
        clear hwa p0 p1 p2 p3 hz0 hz1 hz2 hz3 hbw
        generalize wr.heap.size = gt at *
        have t0 := zt.cell (j := 0) rfl
        clear zt
        have Y0 := Lib.hid y0
        have Y1 := Lib.hid y1
        have Y2 := Lib.hid y2
        have Y3 := Lib.hid y3
        have YB := Lib.hid yb
        clear y0 y1 y2 y3 yb
        go_wp2_with fail
        go_roundw
        case rel => exact ⟨1, by decide, rfl, trivial, Y0, Y1, Y2, Y3, YB⟩
        case measure => simp [intOf]
      · have p0 := hz3.out.cell (j := 4) rfl
        have p1 := hz3.out.cell (j := 5) rfl
        have p2 := hz3.out.cell (j := 6) rfl
        have p3 := hz3.out.cell (j := 7) rfl
        have y0 := hz0.out.alloc (.cells #[.int .i64 k', .int .i64 i', .int .u64 b', .string S'] 24)
        have y1 := hz1.out.alloc (.cells #[.int .i64 k', .int .i64 i', .int .u64 b', .string S'] 24)
        have y2 := hz2.out.alloc (.cells #[.int .i64 k', .int .i64 i', .int .u64 b', .string S'] 24)
        have y3 := hz3.out.alloc (.cells #[.int .i64 k', .int .i64 i', .int .u64 b', .string S'] 24)
        have yb := hbw.out.alloc hbw.out.size (.cells #[.int .i64 k', .int .i64 i', .int .u64 b', .string S'] 24)
        have zt := Blk.new wr #[.int .i64 k', .int .i64 i', .int .u64 b', .string S'] 24
        go_upto_region 5 with fail
        generalize hwa : wr.alloc (.cells #[.int .i64 k', .int .i64 i', .int .u64 b', .string S'] 24) = wa at *
        clear hwa p0 p1 p2 p3 hz0 hz1 hz2 hz3 hbw
        generalize wr.heap.size = gt at *
        have t0 := zt.cell (j := 0) rfl
        clear zt
        have Y0 := Lib.hid y0
        have Y1 := Lib.hid y1
        have Y2 := Lib.hid y2
        have Y3 := Lib.hid y3
        have YB := Lib.hid yb
        clear y0 y1 y2 y3 yb
        go_wp2_with fail
        go_roundw
        case rel => exact ⟨2, by decide, rfl, trivial, Y0, Y1, Y2, Y3, YB⟩
        case measure => simp [intOf]
    · obtain rfl : j = 2 := by omega
      have hR := HRO.out
      clear hz3 HRO
      have y0 := hz0.out
      have y1 := hz1.out
      have y2 := hz2.out
      have yb := hbw.out
      clear hz0 hz1 hz2 hbw
      obtain ⟨⟨p0, p1, p2, p3⟩, _⟩ := y0.four
      obtain ⟨⟨q0, q1, q2, q3⟩, _⟩ := y1.four
      obtain ⟨⟨r0, r1, r2, r3⟩, f0, f1, f2, f3⟩ := y2.four
      obtain ⟨kz, ek⟩ : ∃ z, (k == 0) = z := ⟨_, rfl⟩
      obtain ⟨kz', ek'⟩ : ∃ z, (k' == 0) = z := ⟨_, rfl⟩
      cases kz
      · cases kz'
        · have hR := hR.2 ek ek'
          obtain ⟨nk, en⟩ : ∃ z, (k != k') = z := ⟨_, rfl⟩
          cases nk
          · have hR := hR.2 en
            simp only [HS.out, HS'.out] at cO
            clear HV HU
            have cB := fun t ht W => rboolOf_any t ht W
            unfold valV at cB
            go_wp2_with fail
            refine (cO _).mono ?_
            rintro e w4 ⟨rfl, hb4⟩
            have x2 := y2.call hb4
            have xb := below_stepE yb yb.size hb4
            clear y0 y1 y2 yb hb4 p0 p1 p2 p3 q0 q1 q2 q3 r0 r1 r2 r3 f0 f1 f2 f3 cO
            have hba := (Below.refl w4.heap.size w4).alloc (Nat.le_refl _) (.cells #[.int .i64 2, .int .i64 5, .int .i64 1, .int .i64 3, .int .i64 4, .int .i64 6] 3)
            have zt : Blk _ _ _ [_, _, _, _, _, _] := Blk.new w4 #[.int .i64 2, .int .i64 5, .int .i64 1, .int .i64 3, .int .i64 4, .int .i64 6] 3
            have x3 := x2.call hba
            have xc := below_stepE xb xb.size hba
            go_upto_region 43 with fail
            generalize hwa : w4.alloc (.cells #[.int .i64 2, .int .i64 5, .int .i64 1, .int .i64 3, .int .i64 4, .int .i64 6] 3) = wa at *
            clear hwa x2 xb hba
            generalize w4.heap.size = gt at *
            have t0 := zt.cell (j := 0) rfl
            clear zt
            rcases hrg with rfl | rfl | rfl
            · go_wp2_with fail
              refine (cB _ (by decide) _).mono ?_
              rintro e w5 ⟨rfl, hb5⟩
              have y3 := x3.call hb5
              have yc := below_stepE xc xc.size hb5
              clear x3 xc hb5 cB t0
              obtain ⟨⟨r0, r1, r2, r3⟩, f0, f1, f2, f3⟩ := y3.four
              go_wp2_with fail
              exact bodyPost_ret (results_val rfl _ _ (w.heap.size + 1 + 1) _ _ _ _ rfl y3.set4) rfl ⟨by rw [hR]; rfl, below_set4 yc (by omega)⟩
            · go_wp2_with fail
              refine (cB _ (by decide) _).mono ?_
              rintro e w5 ⟨rfl, hb5⟩
              have y3 := x3.call hb5
              have yc := below_stepE xc xc.size hb5
              clear x3 xc hb5 cB t0
              obtain ⟨⟨r0, r1, r2, r3⟩, f0, f1, f2, f3⟩ := y3.four
              go_wp2_with fail
              exact bodyPost_ret (results_val rfl _ _ (w.heap.size + 1 + 1) _ _ _ _ rfl y3.set4) rfl ⟨by rw [hR]; rfl, below_set4 yc (by omega)⟩
            · go_wp2_with fail
              refine (cB _ (by decide) _).mono ?_
              rintro e w5 ⟨rfl, hb5⟩
              have y3 := x3.call hb5
              have yc := below_stepE xc xc.size hb5
              clear x3 xc hb5 cB t0
              obtain ⟨⟨r0, r1, r2, r3⟩, f0, f1, f2, f3⟩ := y3.four
              go_wp2_with fail
              exact bodyPost_ret (results_val rfl _ _ (w.heap.size + 1 + 1) _ _ _ _ rfl y3.set4) rfl ⟨by rw [hR]; rfl, below_set4 yc (by omega)⟩
          · have hR := hR.1 en
            clear cO hrg
            clear HV HU
            go_wp2_with fail
            exact bodyPost_ret (results_val rfl _ _ (w.heap.size + 1 + 1) _ _ _ _ rfl y2.set4) rfl ⟨by rw [hR]; rfl, below_set4 yb (by omega)⟩
        · have hR := hR.1 (.inr ek')
          clear cO hrg
          clear HV HU
          go_wp2_with fail
          exact bodyPost_ret (results_val rfl _ _ (w.heap.size + 1 + 1) _ _ _ _ rfl y2.set4) rfl ⟨by rw [hR]; rfl, below_set4 yb (by omega)⟩
      · have hR := hR.1 (.inl ek)
        clear cO hrg
        clear HV HU
        go_wp2_with fail
        exact bodyPost_ret (results_val rfl _ _ (w.heap.size + 1 + 1) _ _ _ _ rfl y2.set4) rfl ⟨by rw [hR]; rfl, below_set4 yb (by omega)⟩
set_option maxHeartbeats 16000000 in
theorem didCmp10_any (v u : Vl) (hv : OkV v) (hu : OkV u) (w : World) : Calls Tryz.prog 73 #[.int .i64 10, valV v, valV u] w (RekOk (op2E 10 v u) w) := by
  unfold RekOk
  obtain ⟨k, i, b, s⟩ := v
  obtain ⟨k', i', b', s'⟩ := u
  have cQ : ∀ W, Calls Tryz.prog 109 #[.int .i64 10] W fun e w' => e = .returned (.tuple #[.int .i64 0, .int .i64 1]) ∧ w' = W := fun W => asksFor_any 10 W (by decide)
  have cO := fun W => refOrder_v (toV ⟨k, i, b, s⟩) (toV ⟨k', i', b', s'⟩) W (toV_fits _ hv) (toV_fits _ hu) (good_of _ (toV_fits _ hv) hv.chk) (good_of _ (toV_fits _ hu) hu.chk)
  have hrg := ordV_range (toV ⟨k, i, b, s⟩) (toV ⟨k', i', b', s'⟩)
  obtain ⟨R, hR⟩ : ∃ R, op2E 10 ⟨k, i, b, s⟩ ⟨k', i', b', s'⟩ = R := ⟨_, rfl⟩
  rw [hR]
  have hRO : ((k == 0) = true ∨ (k' == 0) = true → R = okE nulV) ∧ ((k == 0) = false → (k' == 0) = false → ((k != k') = true → R = badE 2) ∧ ((k != k') = false → R = okE (booV (whichC 10 (ordV (toV ⟨k, i, b, s⟩) (toV ⟨k', i', b', s'⟩)))))) := by
    have e : R = if k = 0 ∨ k' = 0 then okE nulV else if k = k' then okE (booV (whichC 10 (ordV (toV ⟨k, i, b, s⟩) (toV ⟨k', i', b', s'⟩)))) else badE 2 := by
      rw [← hR]; rfl
    rw [e]
    refine ⟨fun h => if_pos (by simpa using h), fun h h2 => ?_⟩
    rw [if_neg (by simp at h h2; omega)]
    exact ⟨fun h => if_neg (by simpa using h), fun h => if_pos (by simpa using h)⟩
  generalize ordV (toV ⟨k, i, b, s⟩) (toV ⟨k', i', b', s'⟩) = C at *
  simp only [toV] at cO
  have HRO := Lib.hid hRO
  have HV := Lib.hid hv
  have HU := Lib.hid hu
  clear hRO hv hu
  unfold valV
  simp only
  obtain ⟨S, hS⟩ : ∃ S, str s = S := ⟨_, rfl⟩
  obtain ⟨S', hS'⟩ : ∃ S', str s' = S' := ⟨_, rfl⟩
  rw [hS, hS']
  have HS := Lib.hid hS
  have HS' := Lib.hid hS'
  clear hS hS' hR
  obtain ⟨z0, z1, z2, hb3⟩ := three_new w #[.int .i64 k, .int .i64 i, .int .u64 b, .string S] #[.int .i64 k', .int .i64 i', .int .u64 b', .string S'] #[.int .i64 0, .int .i64 0, .int .u64 0, .string ⟨#[]⟩] 24 24 24
  generalize hw3 : ((w.alloc (.cells #[.int .i64 k, .int .i64 i, .int .u64 b, .string S] 24)).alloc (.cells #[.int .i64 k', .int .i64 i', .int .u64 b', .string S'] 24)).alloc (.cells #[.int .i64 0, .int .i64 0, .int .u64 0, .string ⟨#[]⟩] 24) = w3 at z0 z1 z2 hb3
  have x0 := z0.alloc (.cells #[.int .i64 k, .int .i64 i, .int .u64 b, .string S, .int .i64 k', .int .i64 i', .int .u64 b', .string S'] 24)
  have x1 := z1.alloc (.cells #[.int .i64 k, .int .i64 i, .int .u64 b, .string S, .int .i64 k', .int .i64 i', .int .u64 b', .string S'] 24)
  have x2 := z2.alloc (.cells #[.int .i64 k, .int .i64 i, .int .u64 b, .string S, .int .i64 k', .int .i64 i', .int .u64 b', .string S'] 24)
  have x3 : Blk (w3.alloc (.cells #[.int .i64 k, .int .i64 i, .int .u64 b, .string S, .int .i64 k', .int .i64 i', .int .u64 b', .string S'] 24)) w3.heap.size 24 [.int .i64 k, .int .i64 i, .int .u64 b, .string S, .int .i64 k', .int .i64 i', .int .u64 b', .string S'] := Blk.new w3 #[.int .i64 k, .int .i64 i, .int .u64 b, .string S, .int .i64 k', .int .i64 i', .int .u64 b', .string S'] 24
  have hb4 := hb3.alloc hb3.size (.cells #[.int .i64 k, .int .i64 i, .int .u64 b, .string S, .int .i64 k', .int .i64 i', .int .u64 b', .string S'] 24)
  obtain ⟨⟨p0, p1, p2, p3⟩, _⟩ := z0.four
  obtain ⟨⟨q0, q1, q2, q3⟩, _⟩ := z1.four
  clear z0 z1 z2
  go_enter Tryz.func73, Tryz.ntmps73
  go_upto_region 1 with fail
  try rw [hw3]
  clear hw3
  go_wp2_with fail
  refine (cQ _).mono ?_
  rintro e w3' ⟨rfl, rfl⟩
  clear cQ
  go_wp2_with fail
  clear p0 p1 p2 p3 q0 q1 q2 q3 hb3
  go_loopw [28] (fun ix wr => ∃ (j : Nat), j ≤ 2 ∧ ix = .int .i64 j ∧ True ∧ Hid (Blk wr w.heap.size 24 [.int .i64 k, .int .i64 i, .int .u64 b, .string S]) ∧ Hid (Blk wr (w.heap.size + 1) 24 [.int .i64 k', .int .i64 i', .int .u64 b', .string S']) ∧ Hid (Blk wr (w.heap.size + 1 + 1) 24 [.int .i64 0, .int .i64 0, .int .u64 0, .string ⟨#[]⟩]) ∧ Hid (Blk wr w3'.heap.size 24 [.int .i64 k, .int .i64 i, .int .u64 b, .string S, .int .i64 k', .int .i64 i', .int .u64 b', .string S']) ∧ Hid (Below w.heap.size w wr)) (fun ix _ => 2 - (intOf ix).toNat)
  case atStart => exact ⟨0, by decide, rfl, trivial, Lib.hid x0, Lib.hid x1, Lib.hid x2, Lib.hid x3, Lib.hid hb4⟩
  case round =>
    obtain ⟨j, hj, rfl, _, hz0, hz1, hz2, hz3, hbw⟩ := hrel
    clear x0 x1 x2 x3 hb4
    by_cases hlt : j < 2
    · rcases (show j = 0 ∨ j = 1 by omega) with rfl | rfl
      · have p0 := hz3.out.cell (j := 0) rfl
        have p1 := hz3.out.cell (j := 1) rfl
        have p2 := hz3.out.cell (j := 2) rfl
        have p3 := hz3.out.cell (j := 3) rfl
        have y0 := hz0.out.alloc (.cells #[.int .i64 k, .int .i64 i, .int .u64 b, .string S] 24)
        have y1 := hz1.out.alloc (.cells #[.int .i64 k, .int .i64 i, .int .u64 b, .string S] 24)
        have y2 := hz2.out.alloc (.cells #[.int .i64 k, .int .i64 i, .int .u64 b, .string S] 24)
        have y3 := hz3.out.alloc (.cells #[.int .i64 k, .int .i64 i, .int .u64 b, .string S] 24)
        have yb := hbw.out.alloc hbw.out.size (.cells #[.int .i64 k, .int .i64 i, .int .u64 b, .string S] 24)
        have zt := Blk.new wr #[.int .i64 k, .int .i64 i, .int .u64 b, .string S] 24
        go_upto_region 5 with fail
        generalize hwa : wr.alloc (.cells #[.int .i64 k, .int .i64 i, .int .u64 b, .string S] 24) = wa at *
        clear hwa p0 p1 p2 p3 hz0 hz1 hz2 hz3 hbw
        generalize wr.heap.size = gt at *
        have t0 := zt.cell (j := 0) rfl
        clear zt
        have Y0 := Lib.hid y0
        have Y1 := Lib.hid y1
        have Y2 := Lib.hid y2
        have Y3 := Lib.hid y3
        have YB := Lib.hid yb
        clear y0 y1 y2 y3 yb
        go_wp2_with fail
        go_roundw
        case rel => exact ⟨1, by decide, rfl, trivial, Y0, Y1, Y2, Y3, YB⟩
        case measure => simp [intOf]
      · have p0 := hz3.out.cell (j := 4) rfl
        have p1 := hz3.out.cell (j := 5) rfl
        have p2 := hz3.out.cell (j := 6) rfl
        have p3 := hz3.out.cell (j := 7) rfl
        have y0 := hz0.out.alloc (.cells #[.int .i64 k', .int .i64 i', .int .u64 b', .string S'] 24)
        have y1 := hz1.out.alloc (.cells #[.int .i64 k', .int .i64 i', .int .u64 b', .string S'] 24)
        have y2 := hz2.out.alloc (.cells #[.int .i64 k', .int .i64 i', .int .u64 b', .string S'] 24)
        have y3 := hz3.out.alloc (.cells #[.int .i64 k', .int .i64 i', .int .u64 b', .string S'] 24)
        have yb := hbw.out.alloc hbw.out.size (.cells #[.int .i64 k', .int .i64 i', .int .u64 b', .string S'] 24)
        have zt := Blk.new wr #[.int .i64 k', .int .i64 i', .int .u64 b', .string S'] 24
        go_upto_region 5 with fail
        generalize hwa : wr.alloc (.cells #[.int .i64 k', .int .i64 i', .int .u64 b', .string S'] 24) = wa at *
        clear hwa p0 p1 p2 p3 hz0 hz1 hz2 hz3 hbw
        generalize wr.heap.size = gt at *
        have t0 := zt.cell (j := 0) rfl
        clear zt
        have Y0 := Lib.hid y0
        have Y1 := Lib.hid y1
        have Y2 := Lib.hid y2
        have Y3 := Lib.hid y3
        have YB := Lib.hid yb
        clear y0 y1 y2 y3 yb
        go_wp2_with fail
        go_roundw
        case rel => exact ⟨2, by decide, rfl, trivial, Y0, Y1, Y2, Y3, YB⟩
        case measure => simp [intOf]
    · obtain rfl : j = 2 := by omega
      have hR := HRO.out
      clear hz3 HRO
      have y0 := hz0.out
      have y1 := hz1.out
      have y2 := hz2.out
      have yb := hbw.out
      clear hz0 hz1 hz2 hbw
      obtain ⟨⟨p0, p1, p2, p3⟩, _⟩ := y0.four
      obtain ⟨⟨q0, q1, q2, q3⟩, _⟩ := y1.four
      obtain ⟨⟨r0, r1, r2, r3⟩, f0, f1, f2, f3⟩ := y2.four
      obtain ⟨kz, ek⟩ : ∃ z, (k == 0) = z := ⟨_, rfl⟩
      obtain ⟨kz', ek'⟩ : ∃ z, (k' == 0) = z := ⟨_, rfl⟩
      cases kz
      · cases kz'
        · have hR := hR.2 ek ek'
          obtain ⟨nk, en⟩ : ∃ z, (k != k') = z := ⟨_, rfl⟩
          cases nk
          · have hR := hR.2 en
            simp only [HS.out, HS'.out] at cO
            clear HV HU
            have cB := fun t ht W => rboolOf_any t ht W
            unfold valV at cB
            go_wp2_with fail
            refine (cO _).mono ?_
            rintro e w4 ⟨rfl, hb4⟩
            have x2 := y2.call hb4
            have xb := below_stepE yb yb.size hb4
            clear y0 y1 y2 yb hb4 p0 p1 p2 p3 q0 q1 q2 q3 r0 r1 r2 r3 f0 f1 f2 f3 cO
            have hba := (Below.refl w4.heap.size w4).alloc (Nat.le_refl _) (.cells #[.int .i64 2, .int .i64 5, .int .i64 1, .int .i64 3, .int .i64 4, .int .i64 6] 3)
            have zt : Blk _ _ _ [_, _, _, _, _, _] := Blk.new w4 #[.int .i64 2, .int .i64 5, .int .i64 1, .int .i64 3, .int .i64 4, .int .i64 6] 3
            have x3 := x2.call hba
            have xc := below_stepE xb xb.size hba
            go_upto_region 43 with fail
            generalize hwa : w4.alloc (.cells #[.int .i64 2, .int .i64 5, .int .i64 1, .int .i64 3, .int .i64 4, .int .i64 6] 3) = wa at *
            clear hwa x2 xb hba
            generalize w4.heap.size = gt at *
            have t0 := zt.cell (j := 1) rfl
            clear zt
            rcases hrg with rfl | rfl | rfl
            · go_wp2_with fail
              refine (cB _ (by decide) _).mono ?_
              rintro e w5 ⟨rfl, hb5⟩
              have y3 := x3.call hb5
              have yc := below_stepE xc xc.size hb5
              clear x3 xc hb5 cB t0
              obtain ⟨⟨r0, r1, r2, r3⟩, f0, f1, f2, f3⟩ := y3.four
              go_wp2_with fail
              exact bodyPost_ret (results_val rfl _ _ (w.heap.size + 1 + 1) _ _ _ _ rfl y3.set4) rfl ⟨by rw [hR]; rfl, below_set4 yc (by omega)⟩
            · go_wp2_with fail
              refine (cB _ (by decide) _).mono ?_
              rintro e w5 ⟨rfl, hb5⟩
              have y3 := x3.call hb5
              have yc := below_stepE xc xc.size hb5
              clear x3 xc hb5 cB t0
              obtain ⟨⟨r0, r1, r2, r3⟩, f0, f1, f2, f3⟩ := y3.four
              go_wp2_with fail
              exact bodyPost_ret (results_val rfl _ _ (w.heap.size + 1 + 1) _ _ _ _ rfl y3.set4) rfl ⟨by rw [hR]; rfl, below_set4 yc (by omega)⟩
            · go_wp2_with fail
              refine (cB _ (by decide) _).mono ?_
              rintro e w5 ⟨rfl, hb5⟩
              have y3 := x3.call hb5
              have yc := below_stepE xc xc.size hb5
              clear x3 xc hb5 cB t0
              obtain ⟨⟨r0, r1, r2, r3⟩, f0, f1, f2, f3⟩ := y3.four
              go_wp2_with fail
              exact bodyPost_ret (results_val rfl _ _ (w.heap.size + 1 + 1) _ _ _ _ rfl y3.set4) rfl ⟨by rw [hR]; rfl, below_set4 yc (by omega)⟩
          · have hR := hR.1 en
            clear cO hrg
            clear HV HU
            go_wp2_with fail
            exact bodyPost_ret (results_val rfl _ _ (w.heap.size + 1 + 1) _ _ _ _ rfl y2.set4) rfl ⟨by rw [hR]; rfl, below_set4 yb (by omega)⟩
        · have hR := hR.1 (.inr ek')
          clear cO hrg
          clear HV HU
          go_wp2_with fail
          exact bodyPost_ret (results_val rfl _ _ (w.heap.size + 1 + 1) _ _ _ _ rfl y2.set4) rfl ⟨by rw [hR]; rfl, below_set4 yb (by omega)⟩
      · have hR := hR.1 (.inl ek)
        clear cO hrg
        clear HV HU
        go_wp2_with fail
        exact bodyPost_ret (results_val rfl _ _ (w.heap.size + 1 + 1) _ _ _ _ rfl y2.set4) rfl ⟨by rw [hR]; rfl, below_set4 yb (by omega)⟩
set_option maxHeartbeats 16000000 in
theorem didCmp11_any (v u : Vl) (hv : OkV v) (hu : OkV u) (w : World) : Calls Tryz.prog 73 #[.int .i64 11, valV v, valV u] w (RekOk (op2E 11 v u) w) := by
  unfold RekOk
  obtain ⟨k, i, b, s⟩ := v
  obtain ⟨k', i', b', s'⟩ := u
  have cQ : ∀ W, Calls Tryz.prog 109 #[.int .i64 11] W fun e w' => e = .returned (.tuple #[.int .i64 0, .int .i64 1]) ∧ w' = W := fun W => asksFor_any 11 W (by decide)
  have cO := fun W => refOrder_v (toV ⟨k, i, b, s⟩) (toV ⟨k', i', b', s'⟩) W (toV_fits _ hv) (toV_fits _ hu) (good_of _ (toV_fits _ hv) hv.chk) (good_of _ (toV_fits _ hu) hu.chk)
  have hrg := ordV_range (toV ⟨k, i, b, s⟩) (toV ⟨k', i', b', s'⟩)
  obtain ⟨R, hR⟩ : ∃ R, op2E 11 ⟨k, i, b, s⟩ ⟨k', i', b', s'⟩ = R := ⟨_, rfl⟩
  rw [hR]
  have hRO : ((k == 0) = true ∨ (k' == 0) = true → R = okE nulV) ∧ ((k == 0) = false → (k' == 0) = false → ((k != k') = true → R = badE 2) ∧ ((k != k') = false → R = okE (booV (whichC 11 (ordV (toV ⟨k, i, b, s⟩) (toV ⟨k', i', b', s'⟩)))))) := by
    have e : R = if k = 0 ∨ k' = 0 then okE nulV else if k = k' then okE (booV (whichC 11 (ordV (toV ⟨k, i, b, s⟩) (toV ⟨k', i', b', s'⟩)))) else badE 2 := by
      rw [← hR]; rfl
    rw [e]
    refine ⟨fun h => if_pos (by simpa using h), fun h h2 => ?_⟩
    rw [if_neg (by simp at h h2; omega)]
    exact ⟨fun h => if_neg (by simpa using h), fun h => if_pos (by simpa using h)⟩
  generalize ordV (toV ⟨k, i, b, s⟩) (toV ⟨k', i', b', s'⟩) = C at *
  simp only [toV] at cO
  have HRO := Lib.hid hRO
  have HV := Lib.hid hv
  have HU := Lib.hid hu
  clear hRO hv hu
  unfold valV
  simp only
  obtain ⟨S, hS⟩ : ∃ S, str s = S := ⟨_, rfl⟩
  obtain ⟨S', hS'⟩ : ∃ S', str s' = S' := ⟨_, rfl⟩
  rw [hS, hS']
  have HS := Lib.hid hS
  have HS' := Lib.hid hS'
  clear hS hS' hR
  obtain ⟨z0, z1, z2, hb3⟩ := three_new w #[.int .i64 k, .int .i64 i, .int .u64 b, .string S] #[.int .i64 k', .int .i64 i', .int .u64 b', .string S'] #[.int .i64 0, .int .i64 0, .int .u64 0, .string ⟨#[]⟩] 24 24 24
  generalize hw3 : ((w.alloc (.cells #[.int .i64 k, .int .i64 i, .int .u64 b, .string S] 24)).alloc (.cells #[.int .i64 k', .int .i64 i', .int .u64 b', .string S'] 24)).alloc (.cells #[.int .i64 0, .int .i64 0, .int .u64 0, .string ⟨#[]⟩] 24) = w3 at z0 z1 z2 hb3
  have x0 := z0.alloc (.cells #[.int .i64 k, .int .i64 i, .int .u64 b, .string S, .int .i64 k', .int .i64 i', .int .u64 b', .string S'] 24)
  have x1 := z1.alloc (.cells #[.int .i64 k, .int .i64 i, .int .u64 b, .string S, .int .i64 k', .int .i64 i', .int .u64 b', .string S'] 24)
  have x2 := z2.alloc (.cells #[.int .i64 k, .int .i64 i, .int .u64 b, .string S, .int .i64 k', .int .i64 i', .int .u64 b', .string S'] 24)
  have x3 : Blk (w3.alloc (.cells #[.int .i64 k, .int .i64 i, .int .u64 b, .string S, .int .i64 k', .int .i64 i', .int .u64 b', .string S'] 24)) w3.heap.size 24 [.int .i64 k, .int .i64 i, .int .u64 b, .string S, .int .i64 k', .int .i64 i', .int .u64 b', .string S'] := Blk.new w3 #[.int .i64 k, .int .i64 i, .int .u64 b, .string S, .int .i64 k', .int .i64 i', .int .u64 b', .string S'] 24
  have hb4 := hb3.alloc hb3.size (.cells #[.int .i64 k, .int .i64 i, .int .u64 b, .string S, .int .i64 k', .int .i64 i', .int .u64 b', .string S'] 24)
  obtain ⟨⟨p0, p1, p2, p3⟩, _⟩ := z0.four
  obtain ⟨⟨q0, q1, q2, q3⟩, _⟩ := z1.four
  clear z0 z1 z2
  go_enter Tryz.func73, Tryz.ntmps73
  go_upto_region 1 with fail
  try rw [hw3]
  clear hw3
  go_wp2_with fail
  refine (cQ _).mono ?_
  rintro e w3' ⟨rfl, rfl⟩
  clear cQ
  go_wp2_with fail
  clear p0 p1 p2 p3 q0 q1 q2 q3 hb3
  go_loopw [28] (fun ix wr => ∃ (j : Nat), j ≤ 2 ∧ ix = .int .i64 j ∧ True ∧ Hid (Blk wr w.heap.size 24 [.int .i64 k, .int .i64 i, .int .u64 b, .string S]) ∧ Hid (Blk wr (w.heap.size + 1) 24 [.int .i64 k', .int .i64 i', .int .u64 b', .string S']) ∧ Hid (Blk wr (w.heap.size + 1 + 1) 24 [.int .i64 0, .int .i64 0, .int .u64 0, .string ⟨#[]⟩]) ∧ Hid (Blk wr w3'.heap.size 24 [.int .i64 k, .int .i64 i, .int .u64 b, .string S, .int .i64 k', .int .i64 i', .int .u64 b', .string S']) ∧ Hid (Below w.heap.size w wr)) (fun ix _ => 2 - (intOf ix).toNat)
  case atStart => exact ⟨0, by decide, rfl, trivial, Lib.hid x0, Lib.hid x1, Lib.hid x2, Lib.hid x3, Lib.hid hb4⟩
  case round =>
    obtain ⟨j, hj, rfl, _, hz0, hz1, hz2, hz3, hbw⟩ := hrel
    clear x0 x1 x2 x3 hb4
    by_cases hlt : j < 2
    · rcases (show j = 0 ∨ j = 1 by omega) with rfl | rfl
      · have p0 := hz3.out.cell (j := 0) rfl
        have p1 := hz3.out.cell (j := 1) rfl
        have p2 := hz3.out.cell (j := 2) rfl
        have p3 := hz3.out.cell (j := 3) rfl
        have y0 := hz0.out.alloc (.cells #[.int .i64 k, .int .i64 i, .int .u64 b, .string S] 24)
        have y1 := hz1.out.alloc (.cells #[.int .i64 k, .int .i64 i, .int .u64 b, .string S] 24)
        have y2 := hz2.out.alloc (.cells #[.int .i64 k, .int .i64 i, .int .u64 b, .string S] 24)
        have y3 := hz3.out.alloc (.cells #[.int .i64 k, .int .i64 i, .int .u64 b, .string S] 24)
        have yb := hbw.out.alloc hbw.out.size (.cells #[.int .i64 k, .int .i64 i, .int .u64 b, .string S] 24)
        have zt := Blk.new wr #[.int .i64 k, .int .i64 i, .int .u64 b, .string S] 24
        go_upto_region 5 with fail
        generalize hwa : wr.alloc (.cells #[.int .i64 k, .int .i64 i, .int .u64 b, .string S] 24) = wa at *
        clear hwa p0 p1 p2 p3 hz0 hz1 hz2 hz3 hbw
        generalize wr.heap.size = gt at *
        have t0 := zt.cell (j := 0) rfl
        clear zt
        have Y0 := Lib.hid y0
        have Y1 := Lib.hid y1
        have Y2 := Lib.hid y2
        have Y3 := Lib.hid y3
        have YB := Lib.hid yb
        clear y0 y1 y2 y3 yb
        go_wp2_with fail
        go_roundw
        case rel => exact ⟨1, by decide, rfl, trivial, Y0, Y1, Y2, Y3, YB⟩
        case measure => simp [intOf]
      · have p0 := hz3.out.cell (j := 4) rfl
        have p1 := hz3.out.cell (j := 5) rfl
        have p2 := hz3.out.cell (j := 6) rfl
        have p3 := hz3.out.cell (j := 7) rfl
        have y0 := hz0.out.alloc (.cells #[.int .i64 k', .int .i64 i', .int .u64 b', .string S'] 24)
        have y1 := hz1.out.alloc (.cells #[.int .i64 k', .int .i64 i', .int .u64 b', .string S'] 24)
        have y2 := hz2.out.alloc (.cells #[.int .i64 k', .int .i64 i', .int .u64 b', .string S'] 24)
        have y3 := hz3.out.alloc (.cells #[.int .i64 k', .int .i64 i', .int .u64 b', .string S'] 24)
        have yb := hbw.out.alloc hbw.out.size (.cells #[.int .i64 k', .int .i64 i', .int .u64 b', .string S'] 24)
        have zt := Blk.new wr #[.int .i64 k', .int .i64 i', .int .u64 b', .string S'] 24
        go_upto_region 5 with fail
        generalize hwa : wr.alloc (.cells #[.int .i64 k', .int .i64 i', .int .u64 b', .string S'] 24) = wa at *
        clear hwa p0 p1 p2 p3 hz0 hz1 hz2 hz3 hbw
        generalize wr.heap.size = gt at *
        have t0 := zt.cell (j := 0) rfl
        clear zt
        have Y0 := Lib.hid y0
        have Y1 := Lib.hid y1
        have Y2 := Lib.hid y2
        have Y3 := Lib.hid y3
        have YB := Lib.hid yb
        clear y0 y1 y2 y3 yb
        go_wp2_with fail
        go_roundw
        case rel => exact ⟨2, by decide, rfl, trivial, Y0, Y1, Y2, Y3, YB⟩
        case measure => simp [intOf]
    · obtain rfl : j = 2 := by omega
      have hR := HRO.out
      clear hz3 HRO
      have y0 := hz0.out
      have y1 := hz1.out
      have y2 := hz2.out
      have yb := hbw.out
      clear hz0 hz1 hz2 hbw
      obtain ⟨⟨p0, p1, p2, p3⟩, _⟩ := y0.four
      obtain ⟨⟨q0, q1, q2, q3⟩, _⟩ := y1.four
      obtain ⟨⟨r0, r1, r2, r3⟩, f0, f1, f2, f3⟩ := y2.four
      obtain ⟨kz, ek⟩ : ∃ z, (k == 0) = z := ⟨_, rfl⟩
      obtain ⟨kz', ek'⟩ : ∃ z, (k' == 0) = z := ⟨_, rfl⟩
      cases kz
      · cases kz'
        · have hR := hR.2 ek ek'
          obtain ⟨nk, en⟩ : ∃ z, (k != k') = z := ⟨_, rfl⟩
          cases nk
          · have hR := hR.2 en
            simp only [HS.out, HS'.out] at cO
            clear HV HU
            have cB := fun t ht W => rboolOf_any t ht W
            unfold valV at cB
            go_wp2_with fail
            refine (cO _).mono ?_
            rintro e w4 ⟨rfl, hb4⟩
            have x2 := y2.call hb4
            have xb := below_stepE yb yb.size hb4
            clear y0 y1 y2 yb hb4 p0 p1 p2 p3 q0 q1 q2 q3 r0 r1 r2 r3 f0 f1 f2 f3 cO
            have hba := (Below.refl w4.heap.size w4).alloc (Nat.le_refl _) (.cells #[.int .i64 2, .int .i64 5, .int .i64 1, .int .i64 3, .int .i64 4, .int .i64 6] 3)
            have zt : Blk _ _ _ [_, _, _, _, _, _] := Blk.new w4 #[.int .i64 2, .int .i64 5, .int .i64 1, .int .i64 3, .int .i64 4, .int .i64 6] 3
            have x3 := x2.call hba
            have xc := below_stepE xb xb.size hba
            go_upto_region 43 with fail
            generalize hwa : w4.alloc (.cells #[.int .i64 2, .int .i64 5, .int .i64 1, .int .i64 3, .int .i64 4, .int .i64 6] 3) = wa at *
            clear hwa x2 xb hba
            generalize w4.heap.size = gt at *
            have t0 := zt.cell (j := 2) rfl
            clear zt
            rcases hrg with rfl | rfl | rfl
            · go_wp2_with fail
              refine (cB _ (by decide) _).mono ?_
              rintro e w5 ⟨rfl, hb5⟩
              have y3 := x3.call hb5
              have yc := below_stepE xc xc.size hb5
              clear x3 xc hb5 cB t0
              obtain ⟨⟨r0, r1, r2, r3⟩, f0, f1, f2, f3⟩ := y3.four
              go_wp2_with fail
              exact bodyPost_ret (results_val rfl _ _ (w.heap.size + 1 + 1) _ _ _ _ rfl y3.set4) rfl ⟨by rw [hR]; rfl, below_set4 yc (by omega)⟩
            · go_wp2_with fail
              refine (cB _ (by decide) _).mono ?_
              rintro e w5 ⟨rfl, hb5⟩
              have y3 := x3.call hb5
              have yc := below_stepE xc xc.size hb5
              clear x3 xc hb5 cB t0
              obtain ⟨⟨r0, r1, r2, r3⟩, f0, f1, f2, f3⟩ := y3.four
              go_wp2_with fail
              exact bodyPost_ret (results_val rfl _ _ (w.heap.size + 1 + 1) _ _ _ _ rfl y3.set4) rfl ⟨by rw [hR]; rfl, below_set4 yc (by omega)⟩
            · go_wp2_with fail
              refine (cB _ (by decide) _).mono ?_
              rintro e w5 ⟨rfl, hb5⟩
              have y3 := x3.call hb5
              have yc := below_stepE xc xc.size hb5
              clear x3 xc hb5 cB t0
              obtain ⟨⟨r0, r1, r2, r3⟩, f0, f1, f2, f3⟩ := y3.four
              go_wp2_with fail
              exact bodyPost_ret (results_val rfl _ _ (w.heap.size + 1 + 1) _ _ _ _ rfl y3.set4) rfl ⟨by rw [hR]; rfl, below_set4 yc (by omega)⟩
          · have hR := hR.1 en
            clear cO hrg
            clear HV HU
            go_wp2_with fail
            exact bodyPost_ret (results_val rfl _ _ (w.heap.size + 1 + 1) _ _ _ _ rfl y2.set4) rfl ⟨by rw [hR]; rfl, below_set4 yb (by omega)⟩
        · have hR := hR.1 (.inr ek')
          clear cO hrg
          clear HV HU
          go_wp2_with fail
          exact bodyPost_ret (results_val rfl _ _ (w.heap.size + 1 + 1) _ _ _ _ rfl y2.set4) rfl ⟨by rw [hR]; rfl, below_set4 yb (by omega)⟩
      · have hR := hR.1 (.inl ek)
        clear cO hrg
        clear HV HU
        go_wp2_with fail
        exact bodyPost_ret (results_val rfl _ _ (w.heap.size + 1 + 1) _ _ _ _ rfl y2.set4) rfl ⟨by rw [hR]; rfl, below_set4 yb (by omega)⟩
set_option maxHeartbeats 16000000 in
theorem didCmp12_any (v u : Vl) (hv : OkV v) (hu : OkV u) (w : World) : Calls Tryz.prog 73 #[.int .i64 12, valV v, valV u] w (RekOk (op2E 12 v u) w) := by
  unfold RekOk
  obtain ⟨k, i, b, s⟩ := v
  obtain ⟨k', i', b', s'⟩ := u
  have cQ : ∀ W, Calls Tryz.prog 109 #[.int .i64 12] W fun e w' => e = .returned (.tuple #[.int .i64 0, .int .i64 1]) ∧ w' = W := fun W => asksFor_any 12 W (by decide)
  have cO := fun W => refOrder_v (toV ⟨k, i, b, s⟩) (toV ⟨k', i', b', s'⟩) W (toV_fits _ hv) (toV_fits _ hu) (good_of _ (toV_fits _ hv) hv.chk) (good_of _ (toV_fits _ hu) hu.chk)
  have hrg := ordV_range (toV ⟨k, i, b, s⟩) (toV ⟨k', i', b', s'⟩)
  obtain ⟨R, hR⟩ : ∃ R, op2E 12 ⟨k, i, b, s⟩ ⟨k', i', b', s'⟩ = R := ⟨_, rfl⟩
  rw [hR]
  have hRO : ((k == 0) = true ∨ (k' == 0) = true → R = okE nulV) ∧ ((k == 0) = false → (k' == 0) = false → ((k != k') = true → R = badE 2) ∧ ((k != k') = false → R = okE (booV (whichC 12 (ordV (toV ⟨k, i, b, s⟩) (toV ⟨k', i', b', s'⟩)))))) := by
    have e : R = if k = 0 ∨ k' = 0 then okE nulV else if k = k' then okE (booV (whichC 12 (ordV (toV ⟨k, i, b, s⟩) (toV ⟨k', i', b', s'⟩)))) else badE 2 := by
      rw [← hR]; rfl
    rw [e]
    refine ⟨fun h => if_pos (by simpa using h), fun h h2 => ?_⟩
    rw [if_neg (by simp at h h2; omega)]
    exact ⟨fun h => if_neg (by simpa using h), fun h => if_pos (by simpa using h)⟩
  generalize ordV (toV ⟨k, i, b, s⟩) (toV ⟨k', i', b', s'⟩) = C at *
  simp only [toV] at cO
  have HRO := Lib.hid hRO
  have HV := Lib.hid hv
  have HU := Lib.hid hu
  clear hRO hv hu
  unfold valV
  simp only
  obtain ⟨S, hS⟩ : ∃ S, str s = S := ⟨_, rfl⟩
  obtain ⟨S', hS'⟩ : ∃ S', str s' = S' := ⟨_, rfl⟩
  rw [hS, hS']
  have HS := Lib.hid hS
  have HS' := Lib.hid hS'
  clear hS hS' hR
  obtain ⟨z0, z1, z2, hb3⟩ := three_new w #[.int .i64 k, .int .i64 i, .int .u64 b, .string S] #[.int .i64 k', .int .i64 i', .int .u64 b', .string S'] #[.int .i64 0, .int .i64 0, .int .u64 0, .string ⟨#[]⟩] 24 24 24
  generalize hw3 : ((w.alloc (.cells #[.int .i64 k, .int .i64 i, .int .u64 b, .string S] 24)).alloc (.cells #[.int .i64 k', .int .i64 i', .int .u64 b', .string S'] 24)).alloc (.cells #[.int .i64 0, .int .i64 0, .int .u64 0, .string ⟨#[]⟩] 24) = w3 at z0 z1 z2 hb3
  have x0 := z0.alloc (.cells #[.int .i64 k, .int .i64 i, .int .u64 b, .string S, .int .i64 k', .int .i64 i', .int .u64 b', .string S'] 24)
  have x1 := z1.alloc (.cells #[.int .i64 k, .int .i64 i, .int .u64 b, .string S, .int .i64 k', .int .i64 i', .int .u64 b', .string S'] 24)
  have x2 := z2.alloc (.cells #[.int .i64 k, .int .i64 i, .int .u64 b, .string S, .int .i64 k', .int .i64 i', .int .u64 b', .string S'] 24)
  have x3 : Blk (w3.alloc (.cells #[.int .i64 k, .int .i64 i, .int .u64 b, .string S, .int .i64 k', .int .i64 i', .int .u64 b', .string S'] 24)) w3.heap.size 24 [.int .i64 k, .int .i64 i, .int .u64 b, .string S, .int .i64 k', .int .i64 i', .int .u64 b', .string S'] := Blk.new w3 #[.int .i64 k, .int .i64 i, .int .u64 b, .string S, .int .i64 k', .int .i64 i', .int .u64 b', .string S'] 24
  have hb4 := hb3.alloc hb3.size (.cells #[.int .i64 k, .int .i64 i, .int .u64 b, .string S, .int .i64 k', .int .i64 i', .int .u64 b', .string S'] 24)
  obtain ⟨⟨p0, p1, p2, p3⟩, _⟩ := z0.four
  obtain ⟨⟨q0, q1, q2, q3⟩, _⟩ := z1.four
  clear z0 z1 z2
  go_enter Tryz.func73, Tryz.ntmps73
  go_upto_region 1 with fail
  try rw [hw3]
  clear hw3
  go_wp2_with fail
  refine (cQ _).mono ?_
  rintro e w3' ⟨rfl, rfl⟩
  clear cQ
  go_wp2_with fail
  clear p0 p1 p2 p3 q0 q1 q2 q3 hb3
  go_loopw [28] (fun ix wr => ∃ (j : Nat), j ≤ 2 ∧ ix = .int .i64 j ∧ True ∧ Hid (Blk wr w.heap.size 24 [.int .i64 k, .int .i64 i, .int .u64 b, .string S]) ∧ Hid (Blk wr (w.heap.size + 1) 24 [.int .i64 k', .int .i64 i', .int .u64 b', .string S']) ∧ Hid (Blk wr (w.heap.size + 1 + 1) 24 [.int .i64 0, .int .i64 0, .int .u64 0, .string ⟨#[]⟩]) ∧ Hid (Blk wr w3'.heap.size 24 [.int .i64 k, .int .i64 i, .int .u64 b, .string S, .int .i64 k', .int .i64 i', .int .u64 b', .string S']) ∧ Hid (Below w.heap.size w wr)) (fun ix _ => 2 - (intOf ix).toNat)
  case atStart => exact ⟨0, by decide, rfl, trivial, Lib.hid x0, Lib.hid x1, Lib.hid x2, Lib.hid x3, Lib.hid hb4⟩
  case round =>
    obtain ⟨j, hj, rfl, _, hz0, hz1, hz2, hz3, hbw⟩ := hrel
    clear x0 x1 x2 x3 hb4
    by_cases hlt : j < 2
    · rcases (show j = 0 ∨ j = 1 by omega) with rfl | rfl
      · have p0 := hz3.out.cell (j := 0) rfl
        have p1 := hz3.out.cell (j := 1) rfl
        have p2 := hz3.out.cell (j := 2) rfl
        have p3 := hz3.out.cell (j := 3) rfl
        have y0 := hz0.out.alloc (.cells #[.int .i64 k, .int .i64 i, .int .u64 b, .string S] 24)
        have y1 := hz1.out.alloc (.cells #[.int .i64 k, .int .i64 i, .int .u64 b, .string S] 24)
        have y2 := hz2.out.alloc (.cells #[.int .i64 k, .int .i64 i, .int .u64 b, .string S] 24)
        have y3 := hz3.out.alloc (.cells #[.int .i64 k, .int .i64 i, .int .u64 b, .string S] 24)
        have yb := hbw.out.alloc hbw.out.size (.cells #[.int .i64 k, .int .i64 i, .int .u64 b, .string S] 24)
        have zt := Blk.new wr #[.int .i64 k, .int .i64 i, .int .u64 b, .string S] 24
        go_upto_region 5 with fail
        generalize hwa : wr.alloc (.cells #[.int .i64 k, .int .i64 i, .int .u64 b, .string S] 24) = wa at *
        clear hwa p0 p1 p2 p3 hz0 hz1 hz2 hz3 hbw
        generalize wr.heap.size = gt at *
        have t0 := zt.cell (j := 0) rfl
        clear zt
        have Y0 := Lib.hid y0
        have Y1 := Lib.hid y1
        have Y2 := Lib.hid y2
        have Y3 := Lib.hid y3
        have YB := Lib.hid yb
        clear y0 y1 y2 y3 yb
        go_wp2_with fail
        go_roundw
        case rel => exact ⟨1, by decide, rfl, trivial, Y0, Y1, Y2, Y3, YB⟩
        case measure => simp [intOf]
      · have p0 := hz3.out.cell (j := 4) rfl
        have p1 := hz3.out.cell (j := 5) rfl
        have p2 := hz3.out.cell (j := 6) rfl
        have p3 := hz3.out.cell (j := 7) rfl
        have y0 := hz0.out.alloc (.cells #[.int .i64 k', .int .i64 i', .int .u64 b', .string S'] 24)
        have y1 := hz1.out.alloc (.cells #[.int .i64 k', .int .i64 i', .int .u64 b', .string S'] 24)
        have y2 := hz2.out.alloc (.cells #[.int .i64 k', .int .i64 i', .int .u64 b', .string S'] 24)
        have y3 := hz3.out.alloc (.cells #[.int .i64 k', .int .i64 i', .int .u64 b', .string S'] 24)
        have yb := hbw.out.alloc hbw.out.size (.cells #[.int .i64 k', .int .i64 i', .int .u64 b', .string S'] 24)
        have zt := Blk.new wr #[.int .i64 k', .int .i64 i', .int .u64 b', .string S'] 24
        go_upto_region 5 with fail
        generalize hwa : wr.alloc (.cells #[.int .i64 k', .int .i64 i', .int .u64 b', .string S'] 24) = wa at *
        clear hwa p0 p1 p2 p3 hz0 hz1 hz2 hz3 hbw
        generalize wr.heap.size = gt at *
        have t0 := zt.cell (j := 0) rfl
        clear zt
        have Y0 := Lib.hid y0
        have Y1 := Lib.hid y1
        have Y2 := Lib.hid y2
        have Y3 := Lib.hid y3
        have YB := Lib.hid yb
        clear y0 y1 y2 y3 yb
        go_wp2_with fail
        go_roundw
        case rel => exact ⟨2, by decide, rfl, trivial, Y0, Y1, Y2, Y3, YB⟩
        case measure => simp [intOf]
    · obtain rfl : j = 2 := by omega
      have hR := HRO.out
      clear hz3 HRO
      have y0 := hz0.out
      have y1 := hz1.out
      have y2 := hz2.out
      have yb := hbw.out
      clear hz0 hz1 hz2 hbw
      obtain ⟨⟨p0, p1, p2, p3⟩, _⟩ := y0.four
      obtain ⟨⟨q0, q1, q2, q3⟩, _⟩ := y1.four
      obtain ⟨⟨r0, r1, r2, r3⟩, f0, f1, f2, f3⟩ := y2.four
      obtain ⟨kz, ek⟩ : ∃ z, (k == 0) = z := ⟨_, rfl⟩
      obtain ⟨kz', ek'⟩ : ∃ z, (k' == 0) = z := ⟨_, rfl⟩
      cases kz
      · cases kz'
        · have hR := hR.2 ek ek'
          obtain ⟨nk, en⟩ : ∃ z, (k != k') = z := ⟨_, rfl⟩
          cases nk
          · have hR := hR.2 en
            simp only [HS.out, HS'.out] at cO
            clear HV HU
            have cB := fun t ht W => rboolOf_any t ht W
            unfold valV at cB
            go_wp2_with fail
            refine (cO _).mono ?_
            rintro e w4 ⟨rfl, hb4⟩
            have x2 := y2.call hb4
            have xb := below_stepE yb yb.size hb4
            clear y0 y1 y2 yb hb4 p0 p1 p2 p3 q0 q1 q2 q3 r0 r1 r2 r3 f0 f1 f2 f3 cO
            have hba := (Below.refl w4.heap.size w4).alloc (Nat.le_refl _) (.cells #[.int .i64 2, .int .i64 5, .int .i64 1, .int .i64 3, .int .i64 4, .int .i64 6] 3)
            have zt : Blk _ _ _ [_, _, _, _, _, _] := Blk.new w4 #[.int .i64 2, .int .i64 5, .int .i64 1, .int .i64 3, .int .i64 4, .int .i64 6] 3
            have x3 := x2.call hba
            have xc := below_stepE xb xb.size hba
            go_upto_region 43 with fail
            generalize hwa : w4.alloc (.cells #[.int .i64 2, .int .i64 5, .int .i64 1, .int .i64 3, .int .i64 4, .int .i64 6] 3) = wa at *
            clear hwa x2 xb hba
            generalize w4.heap.size = gt at *
            have t0 := zt.cell (j := 3) rfl
            clear zt
            rcases hrg with rfl | rfl | rfl
            · go_wp2_with fail
              refine (cB _ (by decide) _).mono ?_
              rintro e w5 ⟨rfl, hb5⟩
              have y3 := x3.call hb5
              have yc := below_stepE xc xc.size hb5
              clear x3 xc hb5 cB t0
              obtain ⟨⟨r0, r1, r2, r3⟩, f0, f1, f2, f3⟩ := y3.four
              go_wp2_with fail
              exact bodyPost_ret (results_val rfl _ _ (w.heap.size + 1 + 1) _ _ _ _ rfl y3.set4) rfl ⟨by rw [hR]; rfl, below_set4 yc (by omega)⟩
            · go_wp2_with fail
              refine (cB _ (by decide) _).mono ?_
              rintro e w5 ⟨rfl, hb5⟩
              have y3 := x3.call hb5
              have yc := below_stepE xc xc.size hb5
              clear x3 xc hb5 cB t0
              obtain ⟨⟨r0, r1, r2, r3⟩, f0, f1, f2, f3⟩ := y3.four
              go_wp2_with fail
              exact bodyPost_ret (results_val rfl _ _ (w.heap.size + 1 + 1) _ _ _ _ rfl y3.set4) rfl ⟨by rw [hR]; rfl, below_set4 yc (by omega)⟩
            · go_wp2_with fail
              refine (cB _ (by decide) _).mono ?_
              rintro e w5 ⟨rfl, hb5⟩
              have y3 := x3.call hb5
              have yc := below_stepE xc xc.size hb5
              clear x3 xc hb5 cB t0
              obtain ⟨⟨r0, r1, r2, r3⟩, f0, f1, f2, f3⟩ := y3.four
              go_wp2_with fail
              exact bodyPost_ret (results_val rfl _ _ (w.heap.size + 1 + 1) _ _ _ _ rfl y3.set4) rfl ⟨by rw [hR]; rfl, below_set4 yc (by omega)⟩
          · have hR := hR.1 en
            clear cO hrg
            clear HV HU
            go_wp2_with fail
            exact bodyPost_ret (results_val rfl _ _ (w.heap.size + 1 + 1) _ _ _ _ rfl y2.set4) rfl ⟨by rw [hR]; rfl, below_set4 yb (by omega)⟩
        · have hR := hR.1 (.inr ek')
          clear cO hrg
          clear HV HU
          go_wp2_with fail
          exact bodyPost_ret (results_val rfl _ _ (w.heap.size + 1 + 1) _ _ _ _ rfl y2.set4) rfl ⟨by rw [hR]; rfl, below_set4 yb (by omega)⟩
      · have hR := hR.1 (.inl ek)
        clear cO hrg
        clear HV HU
        go_wp2_with fail
        exact bodyPost_ret (results_val rfl _ _ (w.heap.size + 1 + 1) _ _ _ _ rfl y2.set4) rfl ⟨by rw [hR]; rfl, below_set4 yb (by omega)⟩
set_option maxHeartbeats 16000000 in
theorem didCmp13_any (v u : Vl) (hv : OkV v) (hu : OkV u) (w : World) : Calls Tryz.prog 73 #[.int .i64 13, valV v, valV u] w (RekOk (op2E 13 v u) w) := by
  unfold RekOk
  obtain ⟨k, i, b, s⟩ := v
  obtain ⟨k', i', b', s'⟩ := u
  have cQ : ∀ W, Calls Tryz.prog 109 #[.int .i64 13] W fun e w' => e = .returned (.tuple #[.int .i64 0, .int .i64 1]) ∧ w' = W := fun W => asksFor_any 13 W (by decide)
  have cO := fun W => refOrder_v (toV ⟨k, i, b, s⟩) (toV ⟨k', i', b', s'⟩) W (toV_fits _ hv) (toV_fits _ hu) (good_of _ (toV_fits _ hv) hv.chk) (good_of _ (toV_fits _ hu) hu.chk)
  have hrg := ordV_range (toV ⟨k, i, b, s⟩) (toV ⟨k', i', b', s'⟩)
  obtain ⟨R, hR⟩ : ∃ R, op2E 13 ⟨k, i, b, s⟩ ⟨k', i', b', s'⟩ = R := ⟨_, rfl⟩
  rw [hR]
  have hRO : ((k == 0) = true ∨ (k' == 0) = true → R = okE nulV) ∧ ((k == 0) = false → (k' == 0) = false → ((k != k') = true → R = badE 2) ∧ ((k != k') = false → R = okE (booV (whichC 13 (ordV (toV ⟨k, i, b, s⟩) (toV ⟨k', i', b', s'⟩)))))) := by
    have e : R = if k = 0 ∨ k' = 0 then okE nulV else if k = k' then okE (booV (whichC 13 (ordV (toV ⟨k, i, b, s⟩) (toV ⟨k', i', b', s'⟩)))) else badE 2 := by
      rw [← hR]; rfl
    rw [e]
    refine ⟨fun h => if_pos (by simpa using h), fun h h2 => ?_⟩
    rw [if_neg (by simp at h h2; omega)]
    exact ⟨fun h => if_neg (by simpa using h), fun h => if_pos (by simpa using h)⟩
  generalize ordV (toV ⟨k, i, b, s⟩) (toV ⟨k', i', b', s'⟩) = C at *
  simp only [toV] at cO
  have HRO := Lib.hid hRO
  have HV := Lib.hid hv
  have HU := Lib.hid hu
  clear hRO hv hu
  unfold valV
  simp only
  obtain ⟨S, hS⟩ : ∃ S, str s = S := ⟨_, rfl⟩
  obtain ⟨S', hS'⟩ : ∃ S', str s' = S' := ⟨_, rfl⟩
  rw [hS, hS']
  have HS := Lib.hid hS
  have HS' := Lib.hid hS'
  clear hS hS' hR
  obtain ⟨z0, z1, z2, hb3⟩ := three_new w #[.int .i64 k, .int .i64 i, .int .u64 b, .string S] #[.int .i64 k', .int .i64 i', .int .u64 b', .string S'] #[.int .i64 0, .int .i64 0, .int .u64 0, .string ⟨#[]⟩] 24 24 24
  generalize hw3 : ((w.alloc (.cells #[.int .i64 k, .int .i64 i, .int .u64 b, .string S] 24)).alloc (.cells #[.int .i64 k', .int .i64 i', .int .u64 b', .string S'] 24)).alloc (.cells #[.int .i64 0, .int .i64 0, .int .u64 0, .string ⟨#[]⟩] 24) = w3 at z0 z1 z2 hb3
  have x0 := z0.alloc (.cells #[.int .i64 k, .int .i64 i, .int .u64 b, .string S, .int .i64 k', .int .i64 i', .int .u64 b', .string S'] 24)
  have x1 := z1.alloc (.cells #[.int .i64 k, .int .i64 i, .int .u64 b, .string S, .int .i64 k', .int .i64 i', .int .u64 b', .string S'] 24)
  have x2 := z2.alloc (.cells #[.int .i64 k, .int .i64 i, .int .u64 b, .string S, .int .i64 k', .int .i64 i', .int .u64 b', .string S'] 24)
  have x3 : Blk (w3.alloc (.cells #[.int .i64 k, .int .i64 i, .int .u64 b, .string S, .int .i64 k', .int .i64 i', .int .u64 b', .string S'] 24)) w3.heap.size 24 [.int .i64 k, .int .i64 i, .int .u64 b, .string S, .int .i64 k', .int .i64 i', .int .u64 b', .string S'] := Blk.new w3 #[.int .i64 k, .int .i64 i, .int .u64 b, .string S, .int .i64 k', .int .i64 i', .int .u64 b', .string S'] 24
  have hb4 := hb3.alloc hb3.size (.cells #[.int .i64 k, .int .i64 i, .int .u64 b, .string S, .int .i64 k', .int .i64 i', .int .u64 b', .string S'] 24)
  obtain ⟨⟨p0, p1, p2, p3⟩, _⟩ := z0.four
  obtain ⟨⟨q0, q1, q2, q3⟩, _⟩ := z1.four
  clear z0 z1 z2
  go_enter Tryz.func73, Tryz.ntmps73
  go_upto_region 1 with fail
  try rw [hw3]
  clear hw3
  go_wp2_with fail
  refine (cQ _).mono ?_
  rintro e w3' ⟨rfl, rfl⟩
  clear cQ
  go_wp2_with fail
  clear p0 p1 p2 p3 q0 q1 q2 q3 hb3
  go_loopw [28] (fun ix wr => ∃ (j : Nat), j ≤ 2 ∧ ix = .int .i64 j ∧ True ∧ Hid (Blk wr w.heap.size 24 [.int .i64 k, .int .i64 i, .int .u64 b, .string S]) ∧ Hid (Blk wr (w.heap.size + 1) 24 [.int .i64 k', .int .i64 i', .int .u64 b', .string S']) ∧ Hid (Blk wr (w.heap.size + 1 + 1) 24 [.int .i64 0, .int .i64 0, .int .u64 0, .string ⟨#[]⟩]) ∧ Hid (Blk wr w3'.heap.size 24 [.int .i64 k, .int .i64 i, .int .u64 b, .string S, .int .i64 k', .int .i64 i', .int .u64 b', .string S']) ∧ Hid (Below w.heap.size w wr)) (fun ix _ => 2 - (intOf ix).toNat)
  case atStart => exact ⟨0, by decide, rfl, trivial, Lib.hid x0, Lib.hid x1, Lib.hid x2, Lib.hid x3, Lib.hid hb4⟩
  case round =>
    obtain ⟨j, hj, rfl, _, hz0, hz1, hz2, hz3, hbw⟩ := hrel
    clear x0 x1 x2 x3 hb4
    by_cases hlt : j < 2
    · rcases (show j = 0 ∨ j = 1 by omega) with rfl | rfl
      · have p0 := hz3.out.cell (j := 0) rfl
        have p1 := hz3.out.cell (j := 1) rfl
        have p2 := hz3.out.cell (j := 2) rfl
        have p3 := hz3.out.cell (j := 3) rfl
        have y0 := hz0.out.alloc (.cells #[.int .i64 k, .int .i64 i, .int .u64 b, .string S] 24)
        have y1 := hz1.out.alloc (.cells #[.int .i64 k, .int .i64 i, .int .u64 b, .string S] 24)
        have y2 := hz2.out.alloc (.cells #[.int .i64 k, .int .i64 i, .int .u64 b, .string S] 24)
        have y3 := hz3.out.alloc (.cells #[.int .i64 k, .int .i64 i, .int .u64 b, .string S] 24)
        have yb := hbw.out.alloc hbw.out.size (.cells #[.int .i64 k, .int .i64 i, .int .u64 b, .string S] 24)
        have zt := Blk.new wr #[.int .i64 k, .int .i64 i, .int .u64 b, .string S] 24
        go_upto_region 5 with fail
        generalize hwa : wr.alloc (.cells #[.int .i64 k, .int .i64 i, .int .u64 b, .string S] 24) = wa at *
        clear hwa p0 p1 p2 p3 hz0 hz1 hz2 hz3 hbw
        generalize wr.heap.size = gt at *
        have t0 := zt.cell (j := 0) rfl
        clear zt
        have Y0 := Lib.hid y0
        have Y1 := Lib.hid y1
        have Y2 := Lib.hid y2
        have Y3 := Lib.hid y3
        have YB := Lib.hid yb
        clear y0 y1 y2 y3 yb
        go_wp2_with fail
        go_roundw
        case rel => exact ⟨1, by decide, rfl, trivial, Y0, Y1, Y2, Y3, YB⟩
        case measure => simp [intOf]
      · have p0 := hz3.out.cell (j := 4) rfl
        have p1 := hz3.out.cell (j := 5) rfl
        have p2 := hz3.out.cell (j := 6) rfl
        have p3 := hz3.out.cell (j := 7) rfl
        have y0 := hz0.out.alloc (.cells #[.int .i64 k', .int .i64 i', .int .u64 b', .string S'] 24)
        have y1 := hz1.out.alloc (.cells #[.int .i64 k', .int .i64 i', .int .u64 b', .string S'] 24)
        have y2 := hz2.out.alloc (.cells #[.int .i64 k', .int .i64 i', .int .u64 b', .string S'] 24)
        have y3 := hz3.out.alloc (.cells #[.int .i64 k', .int .i64 i', .int .u64 b', .string S'] 24)
        have yb := hbw.out.alloc hbw.out.size (.cells #[.int .i64 k', .int .i64 i', .int .u64 b', .string S'] 24)
        have zt := Blk.new wr #[.int .i64 k', .int .i64 i', .int .u64 b', .string S'] 24
        go_upto_region 5 with fail
        generalize hwa : wr.alloc (.cells #[.int .i64 k', .int .i64 i', .int .u64 b', .string S'] 24) = wa at *
        clear hwa p0 p1 p2 p3 hz0 hz1 hz2 hz3 hbw
        generalize wr.heap.size = gt at *
        have t0 := zt.cell (j := 0) rfl
        clear zt
        have Y0 := Lib.hid y0
        have Y1 := Lib.hid y1
        have Y2 := Lib.hid y2
        have Y3 := Lib.hid y3
        have YB := Lib.hid yb
        clear y0 y1 y2 y3 yb
        go_wp2_with fail
        go_roundw
        case rel => exact ⟨2, by decide, rfl, trivial, Y0, Y1, Y2, Y3, YB⟩
        case measure => simp [intOf]
    · obtain rfl : j = 2 := by omega
      have hR := HRO.out
      clear hz3 HRO
      have y0 := hz0.out
      have y1 := hz1.out
      have y2 := hz2.out
      have yb := hbw.out
      clear hz0 hz1 hz2 hbw
      obtain ⟨⟨p0, p1, p2, p3⟩, _⟩ := y0.four
      obtain ⟨⟨q0, q1, q2, q3⟩, _⟩ := y1.four
      obtain ⟨⟨r0, r1, r2, r3⟩, f0, f1, f2, f3⟩ := y2.four
      obtain ⟨kz, ek⟩ : ∃ z, (k == 0) = z := ⟨_, rfl⟩
      obtain ⟨kz', ek'⟩ : ∃ z, (k' == 0) = z := ⟨_, rfl⟩
      cases kz
      · cases kz'
        · have hR := hR.2 ek ek'
          obtain ⟨nk, en⟩ : ∃ z, (k != k') = z := ⟨_, rfl⟩
          cases nk
          · have hR := hR.2 en
            simp only [HS.out, HS'.out] at cO
            clear HV HU
            have cB := fun t ht W => rboolOf_any t ht W
            unfold valV at cB
            go_wp2_with fail
            refine (cO _).mono ?_
            rintro e w4 ⟨rfl, hb4⟩
            have x2 := y2.call hb4
            have xb := below_stepE yb yb.size hb4
            clear y0 y1 y2 yb hb4 p0 p1 p2 p3 q0 q1 q2 q3 r0 r1 r2 r3 f0 f1 f2 f3 cO
            have hba := (Below.refl w4.heap.size w4).alloc (Nat.le_refl _) (.cells #[.int .i64 2, .int .i64 5, .int .i64 1, .int .i64 3, .int .i64 4, .int .i64 6] 3)
            have zt : Blk _ _ _ [_, _, _, _, _, _] := Blk.new w4 #[.int .i64 2, .int .i64 5, .int .i64 1, .int .i64 3, .int .i64 4, .int .i64 6] 3
            have x3 := x2.call hba
            have xc := below_stepE xb xb.size hba
            go_upto_region 43 with fail
            generalize hwa : w4.alloc (.cells #[.int .i64 2, .int .i64 5, .int .i64 1, .int .i64 3, .int .i64 4, .int .i64 6] 3) = wa at *
            clear hwa x2 xb hba
            generalize w4.heap.size = gt at *
            have t0 := zt.cell (j := 4) rfl
            clear zt
            rcases hrg with rfl | rfl | rfl
            · go_wp2_with fail
              refine (cB _ (by decide) _).mono ?_
              rintro e w5 ⟨rfl, hb5⟩
              have y3 := x3.call hb5
              have yc := below_stepE xc xc.size hb5
              clear x3 xc hb5 cB t0
              obtain ⟨⟨r0, r1, r2, r3⟩, f0, f1, f2, f3⟩ := y3.four
              go_wp2_with fail
              exact bodyPost_ret (results_val rfl _ _ (w.heap.size + 1 + 1) _ _ _ _ rfl y3.set4) rfl ⟨by rw [hR]; rfl, below_set4 yc (by omega)⟩
            · go_wp2_with fail
              refine (cB _ (by decide) _).mono ?_
              rintro e w5 ⟨rfl, hb5⟩
              have y3 := x3.call hb5
              have yc := below_stepE xc xc.size hb5
              clear x3 xc hb5 cB t0
              obtain ⟨⟨r0, r1, r2, r3⟩, f0, f1, f2, f3⟩ := y3.four
              go_wp2_with fail
              exact bodyPost_ret (results_val rfl _ _ (w.heap.size + 1 + 1) _ _ _ _ rfl y3.set4) rfl ⟨by rw [hR]; rfl, below_set4 yc (by omega)⟩
            · go_wp2_with fail
              refine (cB _ (by decide) _).mono ?_
              rintro e w5 ⟨rfl, hb5⟩
              have y3 := x3.call hb5
              have yc := below_stepE xc xc.size hb5
              clear x3 xc hb5 cB t0
              obtain ⟨⟨r0, r1, r2, r3⟩, f0, f1, f2, f3⟩ := y3.four
              go_wp2_with fail
              exact bodyPost_ret (results_val rfl _ _ (w.heap.size + 1 + 1) _ _ _ _ rfl y3.set4) rfl ⟨by rw [hR]; rfl, below_set4 yc (by omega)⟩
          · have hR := hR.1 en
            clear cO hrg
            clear HV HU
            go_wp2_with fail
            exact bodyPost_ret (results_val rfl _ _ (w.heap.size + 1 + 1) _ _ _ _ rfl y2.set4) rfl ⟨by rw [hR]; rfl, below_set4 yb (by omega)⟩
        · have hR := hR.1 (.inr ek')
          clear cO hrg
          clear HV HU
          go_wp2_with fail
          exact bodyPost_ret (results_val rfl _ _ (w.heap.size + 1 + 1) _ _ _ _ rfl y2.set4) rfl ⟨by rw [hR]; rfl, below_set4 yb (by omega)⟩
      · have hR := hR.1 (.inl ek)
        clear cO hrg
        clear HV HU
        go_wp2_with fail
        exact bodyPost_ret (results_val rfl _ _ (w.heap.size + 1 + 1) _ _ _ _ rfl y2.set4) rfl ⟨by rw [hR]; rfl, below_set4 yb (by omega)⟩
set_option maxHeartbeats 16000000 in
theorem didCmp14_any (v u : Vl) (hv : OkV v) (hu : OkV u) (w : World) : Calls Tryz.prog 73 #[.int .i64 14, valV v, valV u] w (RekOk (op2E 14 v u) w) := by
  unfold RekOk
  obtain ⟨k, i, b, s⟩ := v
  obtain ⟨k', i', b', s'⟩ := u
  have cQ : ∀ W, Calls Tryz.prog 109 #[.int .i64 14] W fun e w' => e = .returned (.tuple #[.int .i64 0, .int .i64 1]) ∧ w' = W := fun W => asksFor_any 14 W (by decide)
  have cO := fun W => refOrder_v (toV ⟨k, i, b, s⟩) (toV ⟨k', i', b', s'⟩) W (toV_fits _ hv) (toV_fits _ hu) (good_of _ (toV_fits _ hv) hv.chk) (good_of _ (toV_fits _ hu) hu.chk)
  have hrg := ordV_range (toV ⟨k, i, b, s⟩) (toV ⟨k', i', b', s'⟩)
  obtain ⟨R, hR⟩ : ∃ R, op2E 14 ⟨k, i, b, s⟩ ⟨k', i', b', s'⟩ = R := ⟨_, rfl⟩
  rw [hR]
  have hRO : ((k == 0) = true ∨ (k' == 0) = true → R = okE nulV) ∧ ((k == 0) = false → (k' == 0) = false → ((k != k') = true → R = badE 2) ∧ ((k != k') = false → R = okE (booV (whichC 14 (ordV (toV ⟨k, i, b, s⟩) (toV ⟨k', i', b', s'⟩)))))) := by
    have e : R = if k = 0 ∨ k' = 0 then okE nulV else if k = k' then okE (booV (whichC 14 (ordV (toV ⟨k, i, b, s⟩) (toV ⟨k', i', b', s'⟩)))) else badE 2 := by
      rw [← hR]; rfl
    rw [e]
    refine ⟨fun h => if_pos (by simpa using h), fun h h2 => ?_⟩
    rw [if_neg (by simp at h h2; omega)]
    exact ⟨fun h => if_neg (by simpa using h), fun h => if_pos (by simpa using h)⟩
  generalize ordV (toV ⟨k, i, b, s⟩) (toV ⟨k', i', b', s'⟩) = C at *
  simp only [toV] at cO
  have HRO := Lib.hid hRO
  have HV := Lib.hid hv
  have HU := Lib.hid hu
  clear hRO hv hu
  unfold valV
  simp only
  obtain ⟨S, hS⟩ : ∃ S, str s = S := ⟨_, rfl⟩
  obtain ⟨S', hS'⟩ : ∃ S', str s' = S' := ⟨_, rfl⟩
  rw [hS, hS']
  have HS := Lib.hid hS
  have HS' := Lib.hid hS'
  clear hS hS' hR
  obtain ⟨z0, z1, z2, hb3⟩ := three_new w #[.int .i64 k, .int .i64 i, .int .u64 b, .string S] #[.int .i64 k', .int .i64 i', .int .u64 b', .string S'] #[.int .i64 0, .int .i64 0, .int .u64 0, .string ⟨#[]⟩] 24 24 24
  generalize hw3 : ((w.alloc (.cells #[.int .i64 k, .int .i64 i, .int .u64 b, .string S] 24)).alloc (.cells #[.int .i64 k', .int .i64 i', .int .u64 b', .string S'] 24)).alloc (.cells #[.int .i64 0, .int .i64 0, .int .u64 0, .string ⟨#[]⟩] 24) = w3 at z0 z1 z2 hb3
  have x0 := z0.alloc (.cells #[.int .i64 k, .int .i64 i, .int .u64 b, .string S, .int .i64 k', .int .i64 i', .int .u64 b', .string S'] 24)
  have x1 := z1.alloc (.cells #[.int .i64 k, .int .i64 i, .int .u64 b, .string S, .int .i64 k', .int .i64 i', .int .u64 b', .string S'] 24)
  have x2 := z2.alloc (.cells #[.int .i64 k, .int .i64 i, .int .u64 b, .string S, .int .i64 k', .int .i64 i', .int .u64 b', .string S'] 24)
  have x3 : Blk (w3.alloc (.cells #[.int .i64 k, .int .i64 i, .int .u64 b, .string S, .int .i64 k', .int .i64 i', .int .u64 b', .string S'] 24)) w3.heap.size 24 [.int .i64 k, .int .i64 i, .int .u64 b, .string S, .int .i64 k', .int .i64 i', .int .u64 b', .string S'] := Blk.new w3 #[.int .i64 k, .int .i64 i, .int .u64 b, .string S, .int .i64 k', .int .i64 i', .int .u64 b', .string S'] 24
  have hb4 := hb3.alloc hb3.size (.cells #[.int .i64 k, .int .i64 i, .int .u64 b, .string S, .int .i64 k', .int .i64 i', .int .u64 b', .string S'] 24)
  obtain ⟨⟨p0, p1, p2, p3⟩, _⟩ := z0.four
  obtain ⟨⟨q0, q1, q2, q3⟩, _⟩ := z1.four
  clear z0 z1 z2
  go_enter Tryz.func73, Tryz.ntmps73
  go_upto_region 1 with fail
  try rw [hw3]
  clear hw3
  go_wp2_with fail
  refine (cQ _).mono ?_
  rintro e w3' ⟨rfl, rfl⟩
  clear cQ
  go_wp2_with fail
  clear p0 p1 p2 p3 q0 q1 q2 q3 hb3
  go_loopw [28] (fun ix wr => ∃ (j : Nat), j ≤ 2 ∧ ix = .int .i64 j ∧ True ∧ Hid (Blk wr w.heap.size 24 [.int .i64 k, .int .i64 i, .int .u64 b, .string S]) ∧ Hid (Blk wr (w.heap.size + 1) 24 [.int .i64 k', .int .i64 i', .int .u64 b', .string S']) ∧ Hid (Blk wr (w.heap.size + 1 + 1) 24 [.int .i64 0, .int .i64 0, .int .u64 0, .string ⟨#[]⟩]) ∧ Hid (Blk wr w3'.heap.size 24 [.int .i64 k, .int .i64 i, .int .u64 b, .string S, .int .i64 k', .int .i64 i', .int .u64 b', .string S']) ∧ Hid (Below w.heap.size w wr)) (fun ix _ => 2 - (intOf ix).toNat)
  case atStart => exact ⟨0, by decide, rfl, trivial, Lib.hid x0, Lib.hid x1, Lib.hid x2, Lib.hid x3, Lib.hid hb4⟩
  case round =>
    obtain ⟨j, hj, rfl, _, hz0, hz1, hz2, hz3, hbw⟩ := hrel
    clear x0 x1 x2 x3 hb4
    by_cases hlt : j < 2
    · rcases (show j = 0 ∨ j = 1 by omega) with rfl | rfl
      · have p0 := hz3.out.cell (j := 0) rfl
        have p1 := hz3.out.cell (j := 1) rfl
        have p2 := hz3.out.cell (j := 2) rfl
        have p3 := hz3.out.cell (j := 3) rfl
        have y0 := hz0.out.alloc (.cells #[.int .i64 k, .int .i64 i, .int .u64 b, .string S] 24)
        have y1 := hz1.out.alloc (.cells #[.int .i64 k, .int .i64 i, .int .u64 b, .string S] 24)
        have y2 := hz2.out.alloc (.cells #[.int .i64 k, .int .i64 i, .int .u64 b, .string S] 24)
        have y3 := hz3.out.alloc (.cells #[.int .i64 k, .int .i64 i, .int .u64 b, .string S] 24)
        have yb := hbw.out.alloc hbw.out.size (.cells #[.int .i64 k, .int .i64 i, .int .u64 b, .string S] 24)
        have zt := Blk.new wr #[.int .i64 k, .int .i64 i, .int .u64 b, .string S] 24
        go_upto_region 5 with fail
        generalize hwa : wr.alloc (.cells #[.int .i64 k, .int .i64 i, .int .u64 b, .string S] 24) = wa at *
        clear hwa p0 p1 p2 p3 hz0 hz1 hz2 hz3 hbw
        generalize wr.heap.size = gt at *
        have t0 := zt.cell (j := 0) rfl
        clear zt
        have Y0 := Lib.hid y0
        have Y1 := Lib.hid y1
        have Y2 := Lib.hid y2
        have Y3 := Lib.hid y3
        have YB := Lib.hid yb
        clear y0 y1 y2 y3 yb
        go_wp2_with fail
        go_roundw
        case rel => exact ⟨1, by decide, rfl, trivial, Y0, Y1, Y2, Y3, YB⟩
        case measure => simp [intOf]
      · have p0 := hz3.out.cell (j := 4) rfl
        have p1 := hz3.out.cell (j := 5) rfl
        have p2 := hz3.out.cell (j := 6) rfl
        have p3 := hz3.out.cell (j := 7) rfl
        have y0 := hz0.out.alloc (.cells #[.int .i64 k', .int .i64 i', .int .u64 b', .string S'] 24)
        have y1 := hz1.out.alloc (.cells #[.int .i64 k', .int .i64 i', .int .u64 b', .string S'] 24)
        have y2 := hz2.out.alloc (.cells #[.int .i64 k', .int .i64 i', .int .u64 b', .string S'] 24)
        have y3 := hz3.out.alloc (.cells #[.int .i64 k', .int .i64 i', .int .u64 b', .string S'] 24)
        have yb := hbw.out.alloc hbw.out.size (.cells #[.int .i64 k', .int .i64 i', .int .u64 b', .string S'] 24)
        have zt := Blk.new wr #[.int .i64 k', .int .i64 i', .int .u64 b', .string S'] 24
        go_upto_region 5 with fail
        generalize hwa : wr.alloc (.cells #[.int .i64 k', .int .i64 i', .int .u64 b', .string S'] 24) = wa at *
        clear hwa p0 p1 p2 p3 hz0 hz1 hz2 hz3 hbw
        generalize wr.heap.size = gt at *
        have t0 := zt.cell (j := 0) rfl
        clear zt
        have Y0 := Lib.hid y0
        have Y1 := Lib.hid y1
        have Y2 := Lib.hid y2
        have Y3 := Lib.hid y3
        have YB := Lib.hid yb
        clear y0 y1 y2 y3 yb
        go_wp2_with fail
        go_roundw
        case rel => exact ⟨2, by decide, rfl, trivial, Y0, Y1, Y2, Y3, YB⟩
        case measure => simp [intOf]
    · obtain rfl : j = 2 := by omega
      have hR := HRO.out
      clear hz3 HRO
      have y0 := hz0.out
      have y1 := hz1.out
      have y2 := hz2.out
      have yb := hbw.out
      clear hz0 hz1 hz2 hbw
      obtain ⟨⟨p0, p1, p2, p3⟩, _⟩ := y0.four
      obtain ⟨⟨q0, q1, q2, q3⟩, _⟩ := y1.four
      obtain ⟨⟨r0, r1, r2, r3⟩, f0, f1, f2, f3⟩ := y2.four
      obtain ⟨kz, ek⟩ : ∃ z, (k == 0) = z := ⟨_, rfl⟩
      obtain ⟨kz', ek'⟩ : ∃ z, (k' == 0) = z := ⟨_, rfl⟩
      cases kz
      · cases kz'
        · have hR := hR.2 ek ek'
          obtain ⟨nk, en⟩ : ∃ z, (k != k') = z := ⟨_, rfl⟩
          cases nk
          · have hR := hR.2 en
            simp only [HS.out, HS'.out] at cO
            clear HV HU
            have cB := fun t ht W => rboolOf_any t ht W
            unfold valV at cB
            go_wp2_with fail
            refine (cO _).mono ?_
            rintro e w4 ⟨rfl, hb4⟩
            have x2 := y2.call hb4
            have xb := below_stepE yb yb.size hb4
            clear y0 y1 y2 yb hb4 p0 p1 p2 p3 q0 q1 q2 q3 r0 r1 r2 r3 f0 f1 f2 f3 cO
            have hba := (Below.refl w4.heap.size w4).alloc (Nat.le_refl _) (.cells #[.int .i64 2, .int .i64 5, .int .i64 1, .int .i64 3, .int .i64 4, .int .i64 6] 3)
            have zt : Blk _ _ _ [_, _, _, _, _, _] := Blk.new w4 #[.int .i64 2, .int .i64 5, .int .i64 1, .int .i64 3, .int .i64 4, .int .i64 6] 3
            have x3 := x2.call hba
            have xc := below_stepE xb xb.size hba
            go_upto_region 43 with fail
            generalize hwa : w4.alloc (.cells #[.int .i64 2, .int .i64 5, .int .i64 1, .int .i64 3, .int .i64 4, .int .i64 6] 3) = wa at *
            clear hwa x2 xb hba
            generalize w4.heap.size = gt at *
            have t0 := zt.cell (j := 5) rfl
            clear zt
            rcases hrg with rfl | rfl | rfl
            · go_wp2_with fail
              refine (cB _ (by decide) _).mono ?_
              rintro e w5 ⟨rfl, hb5⟩
              have y3 := x3.call hb5
              have yc := below_stepE xc xc.size hb5
              clear x3 xc hb5 cB t0
              obtain ⟨⟨r0, r1, r2, r3⟩, f0, f1, f2, f3⟩ := y3.four
              go_wp2_with fail
              exact bodyPost_ret (results_val rfl _ _ (w.heap.size + 1 + 1) _ _ _ _ rfl y3.set4) rfl ⟨by rw [hR]; rfl, below_set4 yc (by omega)⟩
            · go_wp2_with fail
              refine (cB _ (by decide) _).mono ?_
              rintro e w5 ⟨rfl, hb5⟩
              have y3 := x3.call hb5
              have yc := below_stepE xc xc.size hb5
              clear x3 xc hb5 cB t0
              obtain ⟨⟨r0, r1, r2, r3⟩, f0, f1, f2, f3⟩ := y3.four
              go_wp2_with fail
              exact bodyPost_ret (results_val rfl _ _ (w.heap.size + 1 + 1) _ _ _ _ rfl y3.set4) rfl ⟨by rw [hR]; rfl, below_set4 yc (by omega)⟩
            · go_wp2_with fail
              refine (cB _ (by decide) _).mono ?_
              rintro e w5 ⟨rfl, hb5⟩
              have y3 := x3.call hb5
              have yc := below_stepE xc xc.size hb5
              clear x3 xc hb5 cB t0
              obtain ⟨⟨r0, r1, r2, r3⟩, f0, f1, f2, f3⟩ := y3.four
              go_wp2_with fail
              exact bodyPost_ret (results_val rfl _ _ (w.heap.size + 1 + 1) _ _ _ _ rfl y3.set4) rfl ⟨by rw [hR]; rfl, below_set4 yc (by omega)⟩
          · have hR := hR.1 en
            clear cO hrg
            clear HV HU
            go_wp2_with fail
            exact bodyPost_ret (results_val rfl _ _ (w.heap.size + 1 + 1) _ _ _ _ rfl y2.set4) rfl ⟨by rw [hR]; rfl, below_set4 yb (by omega)⟩
        · have hR := hR.1 (.inr ek')
          clear cO hrg
          clear HV HU
          go_wp2_with fail
          exact bodyPost_ret (results_val rfl _ _ (w.heap.size + 1 + 1) _ _ _ _ rfl y2.set4) rfl ⟨by rw [hR]; rfl, below_set4 yb (by omega)⟩
      · have hR := hR.1 (.inl ek)
        clear cO hrg
        clear HV HU
        go_wp2_with fail
        exact bodyPost_ret (results_val rfl _ _ (w.heap.size + 1 + 1) _ _ _ _ rfl y2.set4) rfl ⟨by rw [hR]; rfl, below_set4 yb (by omega)⟩
end Go.Proofs.YtfedlchncngafaaGreatDoor
