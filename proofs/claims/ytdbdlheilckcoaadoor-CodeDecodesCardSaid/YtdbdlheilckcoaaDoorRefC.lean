/-
  CONTRACT of the reference's valueOf.
  CONDITIONS: each theorem's own hypotheses; package unicode/utf8's two tables hold what their initialisers lay ('Tabs').
-/
import Derived.Test.YtdbdlheilckcoaaDoorRefB
namespace Go.Proofs.YtdbdlheilckcoaaDoor
open Go.RowKit CodeMath
set_option linter.unusedVariables false

abbrev zeros : Obj := .cells #[.int .i64 0, .int .i64 0, .int .u64 0, .string ⟨#[]⟩] 40
theorem after3 {w w2 : World} {o2 : Obj} {k i b s : Value} (hb : Below (((w.alloc zeros).alloc o2).alloc (.cells #[k, i, b, s] 40)).heap.size (((w.alloc zeros).alloc o2).alloc (.cells #[k, i, b, s] 40)) w2) :
    Blk w2 w.heap.size (.int .i64 0) (.int .i64 0) (.int .u64 0) (.string ⟨#[]⟩) ∧ Blk w2 (w.heap.size + 1 + 1) k i b s ∧ Below w.heap.size w w2 := by
  refine ⟨?_, ?_, ?_⟩
  · exact (hb.block w.heap.size (by simp; omega)).trans (((Blk.new w _ _ _ _).alloc _).alloc _)
  · have h := Blk.new ((w.alloc zeros).alloc o2) k i b s
    rw [show ((w.alloc zeros).alloc o2).heap.size = w.heap.size + 1 + 1 by simp] at h
    exact (hb.block (w.heap.size + 1 + 1) (by simp)).trans h
  · exact ((((Below.refl _ _).alloc (Nat.le_refl _) _).alloc (by simp) _).alloc (by simp; omega) _).trans (hb.mono (by simp; omega))
theorem stored4 {w w2 : World} (h : Below w.heap.size w w2) (x0 x1 x2 x3 : Value) : Below w.heap.size w ((((w2.setCell ⟨w.heap.size, 0, none⟩ x0).setCell ⟨w.heap.size, 1, none⟩ x1).setCell ⟨w.heap.size, 2, none⟩ x2).setCell ⟨w.heap.size, 3, none⟩ x3) :=
  (((h.setCell (Nat.le_refl _) _).setCell (Nat.le_refl _) _).setCell (Nat.le_refl _) _).setCell (Nat.le_refl _) _
/-- s[i:], the rest of a string. -/
theorem rest_str (c : UInt8) (l : List UInt8) (w : World) : (Instr.slice 9 (.string (str (c :: l))) (some (.int .i64 1)) none none).run Tryd.prog w = .ok (.string (str l)) w := by
  have h := run_slice_string_from_if (P := Tryd.prog) w 9 (str (c :: l)) .i64 1 Tryd.underlying9
  rw [h, if_pos ⟨by decide, by rw [str_size]; simp; omega⟩]
  have e : (str (c :: l)).extract 1 (str (c :: l)).size = str l := by
    rw [str_size, str_extract _ _ _ (by simp)]
    simp
  have e1 : (1 : Int).toNat = 1 := rfl
  rw [e1, e]
theorem int_sub (N : Int) (h0 : 0 ≤ N) (h1 : N ≤ 18446744073709551615) : wrap64 (IntKind.u64.wrap (N - 9223372036854775808)) = N - two63 := by
  rw [IntKind.wrap_u64]
  unfold wrap64 two63
  omega
theorem fin_okV (u : CodeMath.Val) (k : Nat) : fin okV u k = if u.v.chk = 0 then .ok u k else .err 3 := by
  unfold fin okV
  by_cases h : u.v.chk = 0
  · rw [if_pos h, if_pos (by simpa using h)]
  · rw [if_neg h, if_neg (by simpa using h)]

set_option maxRecDepth 100000 in
set_option maxHeartbeats 2000000 in
theorem valueOf_nil (w : World) :
    Calls Tryd.prog 33 #[.string (str [])] w (Ref3 (dec1 okV []) w) := by
  have hB := Blk.new w (.int .i64 0) (.int .i64 0) (.int .u64 0) (.string ⟨#[]⟩)
  have hbw0 : Below w.heap.size w (w.alloc zeros) := (Below.refl _ _).alloc (Nat.le_refl _) _
  obtain ⟨b0, b1, b2, b3⟩ := hB.c
  have hl : (str []).toList = [] := str_toList []
  generalize str [] = S at hl ⊢
  go_enter Tryd.func33, Tryd.ntmps33
  go_wp2
  refine bodyPost_ret (results_blk3 rfl _ _ w.heap.size _ _ _ _ rfl hB) rfl ?_
  exact ⟨rfl, hbw0⟩
set_option maxRecDepth 100000 in
set_option maxHeartbeats 2000000 in
theorem valueOf_null (r : List UInt8) (w : World) (hT : Tabs w) (hl : (1 :: r).length ≤ 4611686018427387904) :
    Calls Tryd.prog 33 #[.string (str (1 :: r))] w (Ref3 (dec1 okV (1 :: r)) w) := by
  have hA : dec1 okV (1 :: r) = fin okV ⟨0, 0, 0, []⟩ 1 := by
    rfl
  obtain ⟨A, hA0⟩ : ∃ A, dec1 okV (1 :: r) = A := ⟨_, rfl⟩
  rw [hA0] at hA ⊢
  have hne : ((str (1 :: r)).toList == []) = false := by rw [str_toList]; rfl
  have hsz := str_size (1 :: r)
  have h0 : ∀ h : 0 < (str (1 :: r)).size, (str (1 :: r))[0] = 1 := fun h => rfl
  rw [fin_okV] at hA
  have hcut := fun w => cut_str (1 :: r) 1 1 1 1 rfl rfl (by decide) (by simp) w
  have e1 : ((1 :: r).drop 1).take (1 - 1) = [] := rfl
  rw [e1] at hcut
  have hnum := fun w => number_any ([]) w (by simp; try omega)
  obtain ⟨S, hS⟩ : ∃ S, str (1 :: r) = S := ⟨_, rfl⟩
  rw [hS] at hne hsz h0 hcut ⊢
  simp only [List.length_cons] at hsz hl
  have hps : 0 < S.size := by omega
  have h00 := h0 hps
  have hs2 : (1 : Int) ≤ (S.size : Int) := by omega
  obtain ⟨C, hC⟩ : ∃ C, str ([]) = C := ⟨_, rfl⟩
  rw [hC] at hcut hnum
  have e2 : num [] 0 = 0 := rfl
  rw [e2] at hnum
  clear e2
  have hT3 : ∀ o1 o2 o3, Tabs (((w.alloc o1).alloc o2).alloc o3) := fun o1 o2 o3 => tabs_below hT ((((Below.refl _ _).alloc (Nat.le_refl _) o1).alloc (by simp) o2).alloc (by simp; omega) o3)
  obtain ⟨CH, hCH⟩ : ∃ CH, chk 0 0 0 ⟨#[]⟩ = CH := ⟨_, rfl⟩
  have hu : (⟨0, 0, 0, []⟩ : CodeMath.Val).v.chk = CH := hCH
  rw [hu] at hA
  have cF := fun w hT => fault_any 0 0 0 ⟨#[]⟩ w (by first | omega | decide | (unfold two63; omega) | (unfold down64 two63 two64; split <;> omega)) (by first | omega | decide | (unfold two63; omega) | (unfold down64 two63 two64; split <;> omega)) (by first | omega | decide | (unfold two63; omega) | (unfold down64 two63 two64; split <;> omega)) (by first | omega | decide | (unfold two63; omega) | (unfold down64 two63 two64; split <;> omega)) hT
  rw [hCH] at cF
  have HA := Lib.hid hA
  clear hS hC e1 h0 hsz hA0 hCH hu hA hT
  by_cases hch : CH = 0
  · have HA2 : Hid (A = .ok ⟨0, 0, 0, []⟩ 1) := by show _ = _; rw [HA.out, if_pos hch]
    rw [hch] at cF
    clear HA hch
    go_enter Tryd.func33, Tryd.ntmps33
    go_wp2_with fail
    refine (hnum _).mono ?_
    rintro e w1 ⟨rfl, rfl⟩
    go_wp2_with fail
    skip
    refine (cF _ (hT3 _ _ _)).mono ?_
    rintro e w2 ⟨rfl, hb⟩
    obtain ⟨hB2, hV2, hbw2⟩ := after3 hb
    obtain ⟨b0, b1, b2, b3⟩ := hB2.c
    obtain ⟨f0, f1, f2, f3⟩ := hB2.f
    obtain ⟨v0, v1, v2, v3⟩ := hV2.c
    clear cF hT3 hnum hb
    go_wp2_with fail
    refine bodyPost_ret (results_blk3 rfl _ _ w.heap.size _ _ _ _ rfl ((((hB2.s0 _).s1 _).s2 _).s3 _)) rfl ?_
    exact ⟨by rw [HA2.out]; rfl, stored4 hbw2 _ _ _ _⟩
  · have HA2 : Hid (A = .err 3) := by show _ = _; rw [HA.out, if_neg hch]
    have hk : (CH != 0) = true := by simpa using hch
    clear HA hch
    go_enter Tryd.func33, Tryd.ntmps33
    go_wp2_with fail
    refine (hnum _).mono ?_
    rintro e w1 ⟨rfl, rfl⟩
    go_wp2_with fail
    skip
    refine (cF _ (hT3 _ _ _)).mono ?_
    rintro e w2 ⟨rfl, hb⟩
    obtain ⟨hB2, hV2, hbw2⟩ := after3 hb
    obtain ⟨b0, b1, b2, b3⟩ := hB2.c
    obtain ⟨f0, f1, f2, f3⟩ := hB2.f
    obtain ⟨v0, v1, v2, v3⟩ := hV2.c
    clear cF hT3 hnum hb
    go_wp2_with fail
    refine bodyPost_ret (results_blk3 rfl _ _ w.heap.size _ _ _ _ rfl ((((hB2.s0 _).s1 _).s2 _).s3 _)) rfl ?_
    exact ⟨by rw [HA2.out]; rfl, stored4 hbw2 _ _ _ _⟩
set_option maxRecDepth 100000 in
set_option maxHeartbeats 2000000 in
theorem valueOf_bool (c : UInt8) (r : List UInt8) (w : World) (hT : Tabs w) (hl : (2 :: c :: r).length ≤ 4611686018427387904) :
    Calls Tryd.prog 33 #[.string (str (2 :: c :: r))] w (Ref3 (dec1 okV (2 :: c :: r)) w) := by
  have hA : dec1 okV (2 :: c :: r) = fin okV ⟨1, c.toNat, 0, []⟩ 2 := by
    rfl
  obtain ⟨A, hA0⟩ : ∃ A, dec1 okV (2 :: c :: r) = A := ⟨_, rfl⟩
  rw [hA0] at hA ⊢
  have hne : ((str (2 :: c :: r)).toList == []) = false := by rw [str_toList]; rfl
  have hsz := str_size (2 :: c :: r)
  have h0 : ∀ h : 0 < (str (2 :: c :: r)).size, (str (2 :: c :: r))[0] = 2 := fun h => rfl
  rw [fin_okV] at hA
  have hcut := fun w => cut_str (2 :: c :: r) 1 2 1 2 rfl rfl (by decide) (by simp) w
  have e1 : ((2 :: c :: r).drop 1).take (2 - 1) = [c] := rfl
  rw [e1] at hcut
  have hnum := fun w => number_any ([c]) w (by simp; try omega)
  obtain ⟨S, hS⟩ : ∃ S, str (2 :: c :: r) = S := ⟨_, rfl⟩
  rw [hS] at hne hsz h0 hcut ⊢
  simp only [List.length_cons] at hsz hl
  have hps : 0 < S.size := by omega
  have h00 := h0 hps
  have hs2 : (2 : Int) ≤ (S.size : Int) := by omega
  obtain ⟨C, hC⟩ : ∃ C, str ([c]) = C := ⟨_, rfl⟩
  rw [hC] at hcut hnum
  have e2 : num [c] 0 = c.toNat := by simp [num]
  rw [e2] at hnum
  have hc := byte_lt c
  clear e2
  have hT3 : ∀ o1 o2 o3, Tabs (((w.alloc o1).alloc o2).alloc o3) := fun o1 o2 o3 => tabs_below hT ((((Below.refl _ _).alloc (Nat.le_refl _) o1).alloc (by simp) o2).alloc (by simp; omega) o3)
  obtain ⟨CH, hCH⟩ : ∃ CH, chk 1 c.toNat 0 ⟨#[]⟩ = CH := ⟨_, rfl⟩
  have hu : (⟨1, c.toNat, 0, []⟩ : CodeMath.Val).v.chk = CH := hCH
  rw [hu] at hA
  have cF := fun w hT => fault_any 1 c.toNat 0 ⟨#[]⟩ w (by first | omega | decide | (unfold two63; omega) | (unfold down64 two63 two64; split <;> omega)) (by first | omega | decide | (unfold two63; omega) | (unfold down64 two63 two64; split <;> omega)) (by first | omega | decide | (unfold two63; omega) | (unfold down64 two63 two64; split <;> omega)) (by first | omega | decide | (unfold two63; omega) | (unfold down64 two63 two64; split <;> omega)) hT
  rw [hCH] at cF
  have HA := Lib.hid hA
  clear hS hC e1 h0 hsz hA0 hCH hu hA hT
  by_cases hch : CH = 0
  · have HA2 : Hid (A = .ok ⟨1, c.toNat, 0, []⟩ 2) := by show _ = _; rw [HA.out, if_pos hch]
    rw [hch] at cF
    clear HA hch
    go_enter Tryd.func33, Tryd.ntmps33
    go_wp2_with fail
    refine (hnum _).mono ?_
    rintro e w1 ⟨rfl, rfl⟩
    go_wp2_with fail
    skip
    refine (cF _ (hT3 _ _ _)).mono ?_
    rintro e w2 ⟨rfl, hb⟩
    obtain ⟨hB2, hV2, hbw2⟩ := after3 hb
    obtain ⟨b0, b1, b2, b3⟩ := hB2.c
    obtain ⟨f0, f1, f2, f3⟩ := hB2.f
    obtain ⟨v0, v1, v2, v3⟩ := hV2.c
    clear cF hT3 hnum hb
    go_wp2_with fail
    refine bodyPost_ret (results_blk3 rfl _ _ w.heap.size _ _ _ _ rfl ((((hB2.s0 _).s1 _).s2 _).s3 _)) rfl ?_
    exact ⟨by rw [HA2.out]; rfl, stored4 hbw2 _ _ _ _⟩
  · have HA2 : Hid (A = .err 3) := by show _ = _; rw [HA.out, if_neg hch]
    have hk : (CH != 0) = true := by simpa using hch
    clear HA hch
    go_enter Tryd.func33, Tryd.ntmps33
    go_wp2_with fail
    refine (hnum _).mono ?_
    rintro e w1 ⟨rfl, rfl⟩
    go_wp2_with fail
    skip
    refine (cF _ (hT3 _ _ _)).mono ?_
    rintro e w2 ⟨rfl, hb⟩
    obtain ⟨hB2, hV2, hbw2⟩ := after3 hb
    obtain ⟨b0, b1, b2, b3⟩ := hB2.c
    obtain ⟨f0, f1, f2, f3⟩ := hB2.f
    obtain ⟨v0, v1, v2, v3⟩ := hV2.c
    clear cF hT3 hnum hb
    go_wp2_with fail
    refine bodyPost_ret (results_blk3 rfl _ _ w.heap.size _ _ _ _ rfl ((((hB2.s0 _).s1 _).s2 _).s3 _)) rfl ?_
    exact ⟨by rw [HA2.out]; rfl, stored4 hbw2 _ _ _ _⟩
set_option maxRecDepth 100000 in
set_option maxHeartbeats 2000000 in
theorem valueOf_bool_short  (w : World) (hT : Tabs w) (hl : ([2]).length ≤ 4611686018427387904) :
    Calls Tryd.prog 33 #[.string (str ([2]))] w (Ref3 (dec1 okV ([2])) w) := by
  have hA : dec1 okV ([2]) = .err 4 := by
    rfl
  obtain ⟨A, hA0⟩ : ∃ A, dec1 okV ([2]) = A := ⟨_, rfl⟩
  rw [hA0] at hA ⊢
  have hne : ((str ([2])).toList == []) = false := by rw [str_toList]; rfl
  have hsz := str_size ([2])
  have h0 : ∀ h : 0 < (str ([2])).size, (str ([2]))[0] = 2 := fun h => rfl
  obtain ⟨S, hS⟩ : ∃ S, str ([2]) = S := ⟨_, rfl⟩
  rw [hS] at hne hsz h0  ⊢
  simp only [List.length_cons, List.length_nil] at hsz hl
  have hps : 0 < S.size := by omega
  have h00 := h0 hps
  have hs2 : (S.size : Int) < 2 := by omega
  have HA := Lib.hid hA
  clear hS h0 hsz hA0 hA hT
  go_enter Tryd.func33, Tryd.ntmps33
  go_wp2
  refine bodyPost_ret (results_blk3 rfl _ _ w.heap.size _ _ _ _ rfl ((Blk.new w _ _ _ _).alloc _)) rfl ?_
  exact ⟨by rw [HA.out]; rfl, ((Below.refl _ _).alloc (Nat.le_refl _) _).alloc (by simp) _⟩
set_option maxRecDepth 100000 in
set_option maxHeartbeats 2000000 in
theorem valueOf_int (r : List UInt8) (w : World) (hT : Tabs w) (hl : (3 :: r).length ≤ 4611686018427387904) (h8 : ¬ r.length < 8) :
    Calls Tryd.prog 33 #[.string (str (3 :: r))] w (Ref3 (dec1 okV (3 :: r)) w) := by
  have hA : dec1 okV (3 :: r) = fin okV ⟨2, num (r.take 8) 0 - two63, 0, []⟩ 9 := by
    simp only [dec1]; rw [if_neg (by decide), if_neg (by decide), if_pos trivial, if_neg h8]
  obtain ⟨A, hA0⟩ : ∃ A, dec1 okV (3 :: r) = A := ⟨_, rfl⟩
  rw [hA0] at hA ⊢
  have hne : ((str (3 :: r)).toList == []) = false := by rw [str_toList]; rfl
  have hsz := str_size (3 :: r)
  have h0 : ∀ h : 0 < (str (3 :: r)).size, (str (3 :: r))[0] = 3 := fun h => rfl
  rw [fin_okV] at hA
  have hcut := fun w => cut_str (3 :: r) 1 9 1 9 rfl rfl (by decide) (by simp; omega) w
  have e1 : ((3 :: r).drop 1).take (9 - 1) = r.take 8 := rfl
  rw [e1] at hcut
  have hnum := fun w => number_any (r.take 8) w (by simp; try omega)
  obtain ⟨S, hS⟩ : ∃ S, str (3 :: r) = S := ⟨_, rfl⟩
  rw [hS] at hne hsz h0 hcut ⊢
  simp only [List.length_cons] at hsz hl
  have hps : 0 < S.size := by omega
  have h00 := h0 hps
  have hs2 : (9 : Int) ≤ (S.size : Int) := by omega
  obtain ⟨C, hC⟩ : ∃ C, str (r.take 8) = C := ⟨_, rfl⟩
  rw [hC] at hcut hnum
  have hN := num8 (r.take 8) (by rw [List.length_take]; omega)
  obtain ⟨N, hN0⟩ : ∃ N, num (r.take 8) 0 = N := ⟨_, rfl⟩
  rw [hN0] at hA hnum hN
  obtain ⟨n0, n1'⟩ := hN
  have n1 : N ≤ 18446744073709551615 := by unfold two64 at n1'; omega
  clear hN0 n1'
  have hI := Lib.hid (int_sub N n0 n1)
  have hT3 : ∀ o1 o2 o3, Tabs (((w.alloc o1).alloc o2).alloc o3) := fun o1 o2 o3 => tabs_below hT ((((Below.refl _ _).alloc (Nat.le_refl _) o1).alloc (by simp) o2).alloc (by simp; omega) o3)
  obtain ⟨CH, hCH⟩ : ∃ CH, chk 2 (N - two63) 0 ⟨#[]⟩ = CH := ⟨_, rfl⟩
  have hu : (⟨2, N - two63, 0, []⟩ : CodeMath.Val).v.chk = CH := hCH
  rw [hu] at hA
  have cF := fun w hT => fault_any 2 (N - two63) 0 ⟨#[]⟩ w (by first | omega | decide | (unfold two63; omega) | (unfold down64 two63 two64; split <;> omega)) (by first | omega | decide | (unfold two63; omega) | (unfold down64 two63 two64; split <;> omega)) (by first | omega | decide | (unfold two63; omega) | (unfold down64 two63 two64; split <;> omega)) (by first | omega | decide | (unfold two63; omega) | (unfold down64 two63 two64; split <;> omega)) hT
  rw [hCH] at cF
  have HA := Lib.hid hA
  clear hS hC e1 h0 hsz hA0 hCH hu hA hT
  by_cases hch : CH = 0
  · have HA2 : Hid (A = .ok ⟨2, N - two63, 0, []⟩ 9) := by show _ = _; rw [HA.out, if_pos hch]
    rw [hch] at cF
    clear HA hch
    go_enter Tryd.func33, Tryd.ntmps33
    go_wp2_with fail
    refine (hnum _).mono ?_
    rintro e w1 ⟨rfl, rfl⟩
    go_wp2_with fail
    rw [hI.out]
    refine (cF _ (hT3 _ _ _)).mono ?_
    rintro e w2 ⟨rfl, hb⟩
    obtain ⟨hB2, hV2, hbw2⟩ := after3 hb
    obtain ⟨b0, b1, b2, b3⟩ := hB2.c
    obtain ⟨f0, f1, f2, f3⟩ := hB2.f
    obtain ⟨v0, v1, v2, v3⟩ := hV2.c
    clear cF hT3 hnum hb
    go_wp2_with fail
    refine bodyPost_ret (results_blk3 rfl _ _ w.heap.size _ _ _ _ rfl ((((hB2.s0 _).s1 _).s2 _).s3 _)) rfl ?_
    exact ⟨by rw [HA2.out]; rfl, stored4 hbw2 _ _ _ _⟩
  · have HA2 : Hid (A = .err 3) := by show _ = _; rw [HA.out, if_neg hch]
    have hk : (CH != 0) = true := by simpa using hch
    clear HA hch
    go_enter Tryd.func33, Tryd.ntmps33
    go_wp2_with fail
    refine (hnum _).mono ?_
    rintro e w1 ⟨rfl, rfl⟩
    go_wp2_with fail
    rw [hI.out]
    refine (cF _ (hT3 _ _ _)).mono ?_
    rintro e w2 ⟨rfl, hb⟩
    obtain ⟨hB2, hV2, hbw2⟩ := after3 hb
    obtain ⟨b0, b1, b2, b3⟩ := hB2.c
    obtain ⟨f0, f1, f2, f3⟩ := hB2.f
    obtain ⟨v0, v1, v2, v3⟩ := hV2.c
    clear cF hT3 hnum hb
    go_wp2_with fail
    refine bodyPost_ret (results_blk3 rfl _ _ w.heap.size _ _ _ _ rfl ((((hB2.s0 _).s1 _).s2 _).s3 _)) rfl ?_
    exact ⟨by rw [HA2.out]; rfl, stored4 hbw2 _ _ _ _⟩
set_option maxRecDepth 100000 in
set_option maxHeartbeats 2000000 in
theorem valueOf_int_short (r : List UInt8) (w : World) (hT : Tabs w) (hl : (3 :: r).length ≤ 4611686018427387904) (h8 : r.length < 8) :
    Calls Tryd.prog 33 #[.string (str (3 :: r))] w (Ref3 (dec1 okV (3 :: r)) w) := by
  have hA : dec1 okV (3 :: r) = .err 4 := by
    simp only [dec1]; rw [if_neg (by decide), if_neg (by decide), if_pos trivial, if_pos h8]
  obtain ⟨A, hA0⟩ : ∃ A, dec1 okV (3 :: r) = A := ⟨_, rfl⟩
  rw [hA0] at hA ⊢
  have hne : ((str (3 :: r)).toList == []) = false := by rw [str_toList]; rfl
  have hsz := str_size (3 :: r)
  have h0 : ∀ h : 0 < (str (3 :: r)).size, (str (3 :: r))[0] = 3 := fun h => rfl
  obtain ⟨S, hS⟩ : ∃ S, str (3 :: r) = S := ⟨_, rfl⟩
  rw [hS] at hne hsz h0  ⊢
  simp only [List.length_cons] at hsz hl
  have hps : 0 < S.size := by omega
  have h00 := h0 hps
  have hs2 : (S.size : Int) < 9 := by omega
  have HA := Lib.hid hA
  clear hS h0 hsz hA0 hA hT
  go_enter Tryd.func33, Tryd.ntmps33
  go_wp2
  refine bodyPost_ret (results_blk3 rfl _ _ w.heap.size _ _ _ _ rfl ((Blk.new w _ _ _ _).alloc _)) rfl ?_
  exact ⟨by rw [HA.out]; rfl, ((Below.refl _ _).alloc (Nat.le_refl _) _).alloc (by simp) _⟩
set_option maxRecDepth 100000 in
set_option maxHeartbeats 2000000 in
theorem valueOf_real_short (r : List UInt8) (w : World) (hT : Tabs w) (hl : (4 :: r).length ≤ 4611686018427387904) (h8 : r.length < 8) :
    Calls Tryd.prog 33 #[.string (str (4 :: r))] w (Ref3 (dec1 okV (4 :: r)) w) := by
  have hA : dec1 okV (4 :: r) = .err 4 := by
    simp only [dec1]; rw [if_neg (by decide), if_neg (by decide), if_neg (by decide), if_pos trivial, if_pos h8]
  obtain ⟨A, hA0⟩ : ∃ A, dec1 okV (4 :: r) = A := ⟨_, rfl⟩
  rw [hA0] at hA ⊢
  have hne : ((str (4 :: r)).toList == []) = false := by rw [str_toList]; rfl
  have hsz := str_size (4 :: r)
  have h0 : ∀ h : 0 < (str (4 :: r)).size, (str (4 :: r))[0] = 4 := fun h => rfl
  obtain ⟨S, hS⟩ : ∃ S, str (4 :: r) = S := ⟨_, rfl⟩
  rw [hS] at hne hsz h0  ⊢
  simp only [List.length_cons] at hsz hl
  have hps : 0 < S.size := by omega
  have h00 := h0 hps
  have hs2 : (S.size : Int) < 9 := by omega
  have HA := Lib.hid hA
  clear hS h0 hsz hA0 hA hT
  go_enter Tryd.func33, Tryd.ntmps33
  go_wp2
  refine bodyPost_ret (results_blk3 rfl _ _ w.heap.size _ _ _ _ rfl ((Blk.new w _ _ _ _).alloc _)) rfl ?_
  exact ⟨by rw [HA.out]; rfl, ((Below.refl _ _).alloc (Nat.le_refl _) _).alloc (by simp) _⟩
set_option maxRecDepth 100000 in
set_option maxHeartbeats 2000000 in
theorem valueOf_real_lo (r : List UInt8) (w : World) (hT : Tabs w) (hl : (4 :: r).length ≤ 4611686018427387904) (h8 : ¬ r.length < 8) (hN : num (r.take 8) 0 < 9223372036854775808) :
    Calls Tryd.prog 33 #[.string (str (4 :: r))] w (Ref3 (dec1 okV (4 :: r)) w) := by
  have hA : dec1 okV (4 :: r) = fin okV ⟨3, 0, down64 (num (r.take 8) 0), []⟩ 9 := by
    simp only [dec1]; rw [if_neg (by decide), if_neg (by decide), if_neg (by decide), if_pos trivial, if_neg h8]
  obtain ⟨A, hA0⟩ : ∃ A, dec1 okV (4 :: r) = A := ⟨_, rfl⟩
  rw [hA0] at hA ⊢
  have hne : ((str (4 :: r)).toList == []) = false := by rw [str_toList]; rfl
  have hsz := str_size (4 :: r)
  have h0 : ∀ h : 0 < (str (4 :: r)).size, (str (4 :: r))[0] = 4 := fun h => rfl
  rw [fin_okV] at hA
  have hcut := fun w => cut_str (4 :: r) 1 9 1 9 rfl rfl (by decide) (by simp; omega) w
  have e1 : ((4 :: r).drop 1).take (9 - 1) = r.take 8 := rfl
  rw [e1] at hcut
  have hnum := fun w => number_any (r.take 8) w (by simp; try omega)
  obtain ⟨S, hS⟩ : ∃ S, str (4 :: r) = S := ⟨_, rfl⟩
  rw [hS] at hne hsz h0 hcut ⊢
  simp only [List.length_cons] at hsz hl
  have hps : 0 < S.size := by omega
  have h00 := h0 hps
  have hs2 : (9 : Int) ≤ (S.size : Int) := by omega
  obtain ⟨C, hC⟩ : ∃ C, str (r.take 8) = C := ⟨_, rfl⟩
  rw [hC] at hcut hnum
  have hN8 := num8 (r.take 8) (by rw [List.length_take]; omega)
  obtain ⟨N, hN0⟩ : ∃ N, num (r.take 8) 0 = N := ⟨_, rfl⟩
  rw [hN0] at hA hnum hN hN8
  obtain ⟨n0, n1'⟩ := hN8
  have n1 : N ≤ 18446744073709551615 := by unfold two64 at n1'; omega
  clear hN0 n1'
  have hI : Hid (bits .xor .u64 IntKind.u64.max N = down64 N) := by
    show _ = _
    rw [show IntKind.u64.max = 18446744073709551615 by decide, max_xor_int N n0 n1]
    unfold down64 two63 two64
    rw [if_pos hN]
    omega
  have hT3 : ∀ o1 o2 o3, Tabs (((w.alloc o1).alloc o2).alloc o3) := fun o1 o2 o3 => tabs_below hT ((((Below.refl _ _).alloc (Nat.le_refl _) o1).alloc (by simp) o2).alloc (by simp; omega) o3)
  obtain ⟨CH, hCH⟩ : ∃ CH, chk 3 0 (down64 N) ⟨#[]⟩ = CH := ⟨_, rfl⟩
  have hu : (⟨3, 0, down64 N, []⟩ : CodeMath.Val).v.chk = CH := hCH
  rw [hu] at hA
  have cF := fun w hT => fault_any 3 0 (down64 N) ⟨#[]⟩ w (by first | omega | decide | (unfold two63; omega) | (unfold down64 two63 two64; split <;> omega)) (by first | omega | decide | (unfold two63; omega) | (unfold down64 two63 two64; split <;> omega)) (by first | omega | decide | (unfold two63; omega) | (unfold down64 two63 two64; split <;> omega)) (by first | omega | decide | (unfold two63; omega) | (unfold down64 two63 two64; split <;> omega)) hT
  rw [hCH] at cF
  have HA := Lib.hid hA
  clear hS hC e1 h0 hsz hA0 hCH hu hA hT
  by_cases hch : CH = 0
  · have HA2 : Hid (A = .ok ⟨3, 0, down64 N, []⟩ 9) := by show _ = _; rw [HA.out, if_pos hch]
    rw [hch] at cF
    clear HA hch
    go_enter Tryd.func33, Tryd.ntmps33
    go_wp2_with fail
    refine (hnum _).mono ?_
    rintro e w1 ⟨rfl, rfl⟩
    go_wp2_with fail
    rw [hI.out]
    refine (cF _ (hT3 _ _ _)).mono ?_
    rintro e w2 ⟨rfl, hb⟩
    obtain ⟨hB2, hV2, hbw2⟩ := after3 hb
    obtain ⟨b0, b1, b2, b3⟩ := hB2.c
    obtain ⟨f0, f1, f2, f3⟩ := hB2.f
    obtain ⟨v0, v1, v2, v3⟩ := hV2.c
    clear cF hT3 hnum hb
    go_wp2_with fail
    refine bodyPost_ret (results_blk3 rfl _ _ w.heap.size _ _ _ _ rfl ((((hB2.s0 _).s1 _).s2 _).s3 _)) rfl ?_
    exact ⟨by rw [HA2.out]; rfl, stored4 hbw2 _ _ _ _⟩
  · have HA2 : Hid (A = .err 3) := by show _ = _; rw [HA.out, if_neg hch]
    have hk : (CH != 0) = true := by simpa using hch
    clear HA hch
    go_enter Tryd.func33, Tryd.ntmps33
    go_wp2_with fail
    refine (hnum _).mono ?_
    rintro e w1 ⟨rfl, rfl⟩
    go_wp2_with fail
    rw [hI.out]
    refine (cF _ (hT3 _ _ _)).mono ?_
    rintro e w2 ⟨rfl, hb⟩
    obtain ⟨hB2, hV2, hbw2⟩ := after3 hb
    obtain ⟨b0, b1, b2, b3⟩ := hB2.c
    obtain ⟨f0, f1, f2, f3⟩ := hB2.f
    obtain ⟨v0, v1, v2, v3⟩ := hV2.c
    clear cF hT3 hnum hb
    go_wp2_with fail
    refine bodyPost_ret (results_blk3 rfl _ _ w.heap.size _ _ _ _ rfl ((((hB2.s0 _).s1 _).s2 _).s3 _)) rfl ?_
    exact ⟨by rw [HA2.out]; rfl, stored4 hbw2 _ _ _ _⟩
set_option maxRecDepth 100000 in
set_option maxHeartbeats 2000000 in
theorem valueOf_real_hi (r : List UInt8) (w : World) (hT : Tabs w) (hl : (4 :: r).length ≤ 4611686018427387904) (h8 : ¬ r.length < 8) (hN : ¬ num (r.take 8) 0 < 9223372036854775808) :
    Calls Tryd.prog 33 #[.string (str (4 :: r))] w (Ref3 (dec1 okV (4 :: r)) w) := by
  have hA : dec1 okV (4 :: r) = fin okV ⟨3, 0, down64 (num (r.take 8) 0), []⟩ 9 := by
    simp only [dec1]; rw [if_neg (by decide), if_neg (by decide), if_neg (by decide), if_pos trivial, if_neg h8]
  obtain ⟨A, hA0⟩ : ∃ A, dec1 okV (4 :: r) = A := ⟨_, rfl⟩
  rw [hA0] at hA ⊢
  have hne : ((str (4 :: r)).toList == []) = false := by rw [str_toList]; rfl
  have hsz := str_size (4 :: r)
  have h0 : ∀ h : 0 < (str (4 :: r)).size, (str (4 :: r))[0] = 4 := fun h => rfl
  rw [fin_okV] at hA
  have hcut := fun w => cut_str (4 :: r) 1 9 1 9 rfl rfl (by decide) (by simp; omega) w
  have e1 : ((4 :: r).drop 1).take (9 - 1) = r.take 8 := rfl
  rw [e1] at hcut
  have hnum := fun w => number_any (r.take 8) w (by simp; try omega)
  obtain ⟨S, hS⟩ : ∃ S, str (4 :: r) = S := ⟨_, rfl⟩
  rw [hS] at hne hsz h0 hcut ⊢
  simp only [List.length_cons] at hsz hl
  have hps : 0 < S.size := by omega
  have h00 := h0 hps
  have hs2 : (9 : Int) ≤ (S.size : Int) := by omega
  obtain ⟨C, hC⟩ : ∃ C, str (r.take 8) = C := ⟨_, rfl⟩
  rw [hC] at hcut hnum
  have hN8 := num8 (r.take 8) (by rw [List.length_take]; omega)
  obtain ⟨N, hN0⟩ : ∃ N, num (r.take 8) 0 = N := ⟨_, rfl⟩
  rw [hN0] at hA hnum hN hN8
  obtain ⟨n0, n1'⟩ := hN8
  have n1 : N ≤ 18446744073709551615 := by unfold two64 at n1'; omega
  clear hN0 n1'
  have hI : Hid (N - 9223372036854775808 = down64 N) := by
    show _ = _
    unfold down64 two63 two64
    rw [if_neg hN]
  have hT3 : ∀ o1 o2 o3, Tabs (((w.alloc o1).alloc o2).alloc o3) := fun o1 o2 o3 => tabs_below hT ((((Below.refl _ _).alloc (Nat.le_refl _) o1).alloc (by simp) o2).alloc (by simp; omega) o3)
  obtain ⟨CH, hCH⟩ : ∃ CH, chk 3 0 (down64 N) ⟨#[]⟩ = CH := ⟨_, rfl⟩
  have hu : (⟨3, 0, down64 N, []⟩ : CodeMath.Val).v.chk = CH := hCH
  rw [hu] at hA
  have cF := fun w hT => fault_any 3 0 (down64 N) ⟨#[]⟩ w (by first | omega | decide | (unfold two63; omega) | (unfold down64 two63 two64; split <;> omega)) (by first | omega | decide | (unfold two63; omega) | (unfold down64 two63 two64; split <;> omega)) (by first | omega | decide | (unfold two63; omega) | (unfold down64 two63 two64; split <;> omega)) (by first | omega | decide | (unfold two63; omega) | (unfold down64 two63 two64; split <;> omega)) hT
  rw [hCH] at cF
  have HA := Lib.hid hA
  clear hS hC e1 h0 hsz hA0 hCH hu hA hT
  by_cases hch : CH = 0
  · have HA2 : Hid (A = .ok ⟨3, 0, down64 N, []⟩ 9) := by show _ = _; rw [HA.out, if_pos hch]
    rw [hch] at cF
    clear HA hch
    go_enter Tryd.func33, Tryd.ntmps33
    go_wp2_with fail
    refine (hnum _).mono ?_
    rintro e w1 ⟨rfl, rfl⟩
    go_wp2_with fail
    rw [hI.out]
    refine (cF _ (hT3 _ _ _)).mono ?_
    rintro e w2 ⟨rfl, hb⟩
    obtain ⟨hB2, hV2, hbw2⟩ := after3 hb
    obtain ⟨b0, b1, b2, b3⟩ := hB2.c
    obtain ⟨f0, f1, f2, f3⟩ := hB2.f
    obtain ⟨v0, v1, v2, v3⟩ := hV2.c
    clear cF hT3 hnum hb
    go_wp2_with fail
    refine bodyPost_ret (results_blk3 rfl _ _ w.heap.size _ _ _ _ rfl ((((hB2.s0 _).s1 _).s2 _).s3 _)) rfl ?_
    exact ⟨by rw [HA2.out]; rfl, stored4 hbw2 _ _ _ _⟩
  · have HA2 : Hid (A = .err 3) := by show _ = _; rw [HA.out, if_neg hch]
    have hk : (CH != 0) = true := by simpa using hch
    clear HA hch
    go_enter Tryd.func33, Tryd.ntmps33
    go_wp2_with fail
    refine (hnum _).mono ?_
    rintro e w1 ⟨rfl, rfl⟩
    go_wp2_with fail
    rw [hI.out]
    refine (cF _ (hT3 _ _ _)).mono ?_
    rintro e w2 ⟨rfl, hb⟩
    obtain ⟨hB2, hV2, hbw2⟩ := after3 hb
    obtain ⟨b0, b1, b2, b3⟩ := hB2.c
    obtain ⟨f0, f1, f2, f3⟩ := hB2.f
    obtain ⟨v0, v1, v2, v3⟩ := hV2.c
    clear cF hT3 hnum hb
    go_wp2_with fail
    refine bodyPost_ret (results_blk3 rfl _ _ w.heap.size _ _ _ _ rfl ((((hB2.s0 _).s1 _).s2 _).s3 _)) rfl ?_
    exact ⟨by rw [HA2.out]; rfl, stored4 hbw2 _ _ _ _⟩
set_option maxRecDepth 100000 in
set_option maxHeartbeats 2000000 in
theorem valueOf_zero (r : List UInt8) (w : World) (hT : Tabs w) (hl : (0 :: r).length ≤ 4611686018427387904) :
    Calls Tryd.prog 33 #[.string (str (0 :: r))] w (Ref3 (dec1 okV (0 :: r)) w) := by
  have hA : dec1 okV (0 :: r) = .err 3 := by
    rfl
  obtain ⟨A, hA0⟩ : ∃ A, dec1 okV (0 :: r) = A := ⟨_, rfl⟩
  rw [hA0] at hA ⊢
  have hne : ((str (0 :: r)).toList == []) = false := by rw [str_toList]; rfl
  have hsz := str_size (0 :: r)
  have h0 : ∀ h : 0 < (str (0 :: r)).size, (str (0 :: r))[0] = 0 := fun h => rfl
  obtain ⟨S, hS⟩ : ∃ S, str (0 :: r) = S := ⟨_, rfl⟩
  rw [hS] at hne hsz h0  ⊢
  simp only [List.length_cons] at hsz hl
  have hps : 0 < S.size := by omega
  have h00 := h0 hps
  skip
  have HA := Lib.hid hA
  clear hS h0 hsz hA0 hA hT
  go_enter Tryd.func33, Tryd.ntmps33
  go_wp2
  refine bodyPost_ret (results_blk3 rfl _ _ w.heap.size _ _ _ _ rfl ((Blk.new w _ _ _ _).alloc _)) rfl ?_
  exact ⟨by rw [HA.out]; rfl, ((Below.refl _ _).alloc (Nat.le_refl _) _).alloc (by simp) _⟩
set_option maxRecDepth 100000 in
set_option maxHeartbeats 2000000 in
theorem valueOf_bad (c : UInt8) (r : List UInt8) (w : World) (hT : Tabs w) (hl : (c :: r).length ≤ 4611686018427387904) (h5 : 5 < c.toNat) :
    Calls Tryd.prog 33 #[.string (str (c :: r))] w (Ref3 (dec1 okV (c :: r)) w) := by
  have hA : dec1 okV (c :: r) = .err 3 := by
    simp only [dec1]; rw [if_neg (by intro e; rw [e] at h5; revert h5; decide), if_neg (by intro e; rw [e] at h5; revert h5; decide), if_neg (by intro e; rw [e] at h5; revert h5; decide), if_neg (by intro e; rw [e] at h5; revert h5; decide), if_neg (by intro e; rw [e] at h5; revert h5; decide)]
  obtain ⟨A, hA0⟩ : ∃ A, dec1 okV (c :: r) = A := ⟨_, rfl⟩
  rw [hA0] at hA ⊢
  have hne : ((str (c :: r)).toList == []) = false := by rw [str_toList]; rfl
  have hsz := str_size (c :: r)
  have h0 : ∀ h : 0 < (str (c :: r)).size, (str (c :: r))[0] = c := fun h => rfl
  obtain ⟨S, hS⟩ : ∃ S, str (c :: r) = S := ⟨_, rfl⟩
  rw [hS] at hne hsz h0  ⊢
  simp only [List.length_cons] at hsz hl
  have hps : 0 < S.size := by omega
  have h00 := h0 hps
  have hc5 : (5 : Int) < (c.toNat : Int) := by omega
  have hc256 := byte_lt c
  have hk : ((c.toNat : Int) - 1 < 0) = False := by simp; omega
  have HA := Lib.hid hA
  clear hS h0 hsz hA0 hA hT hk
  go_enter Tryd.func33, Tryd.ntmps33
  go_wp2
  refine bodyPost_ret (results_blk3 rfl _ _ w.heap.size _ _ _ _ rfl ((Blk.new w _ _ _ _).alloc _)) rfl ?_
  exact ⟨by rw [HA.out]; rfl, ((Below.refl _ _).alloc (Nat.le_refl _) _).alloc (by simp) _⟩
set_option maxRecDepth 100000 in
set_option maxHeartbeats 2000000 in
theorem valueOf_text (r : List UInt8) (w : World) (hT : Tabs w) (hl : (5 :: r).length ≤ 4611686018427387904) :
    Calls Tryd.prog 33 #[.string (str (5 :: r))] w (Ref3 (dec1 okV (5 :: r)) w) := by
  have hA : dec1 okV (5 :: r) = textR (txt r [] 0) := by
    rw [textR_dec]
  obtain ⟨A, hA0⟩ : ∃ A, dec1 okV (5 :: r) = A := ⟨_, rfl⟩
  rw [hA0] at hA ⊢
  have hne : ((str (5 :: r)).toList == []) = false := by rw [str_toList]; rfl
  have hsz := str_size (5 :: r)
  have h0 : ∀ h : 0 < (str (5 :: r)).size, (str (5 :: r))[0] = 5 := fun h => rfl
  have hcut := fun w => rest_str 5 r w
  obtain ⟨S, hS⟩ : ∃ S, str (5 :: r) = S := ⟨_, rfl⟩
  rw [hS] at hne hsz h0 hcut ⊢
  simp only [List.length_cons] at hsz hl
  have hps : 0 < S.size := by omega
  have h00 := h0 hps
  have hs2 : (1 : Int) ≤ (S.size : Int) := by omega
  have hT2 : ∀ o1 o2, Tabs ((w.alloc o1).alloc o2) := fun o1 o2 => tabs_below hT (((Below.refl _ _).alloc (Nat.le_refl _) o1).alloc (by simp) o2)
  have c50 := fun w hT => textOf_any r w (by omega) hT
  rw [← hA] at c50
  obtain ⟨C, hC⟩ : ∃ C, str r = C := ⟨_, rfl⟩
  rw [hC] at hcut c50
  unfold Ref3 at c50
  clear hS hC h0 hsz hA0 hA hT
  go_enter Tryd.func33, Tryd.ntmps33
  go_wp2_with fail
  refine (c50 _ (hT2 _ _)).mono ?_
  rintro e w2 ⟨rfl, hb⟩
  have hB2 : Blk w2 w.heap.size _ _ _ _ := (hb.block w.heap.size (by simp; omega)).trans ((Blk.new w _ _ _ _).alloc _)
  have hbw2 : Below w.heap.size w w2 := (((Below.refl _ _).alloc (Nat.le_refl _) _).alloc (by simp) _).trans (hb.mono (by simp; omega))
  obtain ⟨b0, b1, b2, b3⟩ := hB2.c
  obtain ⟨f0, f1, f2, f3⟩ := hB2.f
  clear c50 hT2 hb
  go_wp2_with fail
  refine bodyPost_ret (results_blk3 rfl _ _ w.heap.size _ _ _ _ rfl ((((hB2.s0 _).s1 _).s2 _).s3 _)) rfl ?_
  exact ⟨rfl, stored4 hbw2 _ _ _ _⟩

theorem valueOf_any (l : List UInt8) (w : World) (hT : Tabs w) (hl : l.length ≤ 4611686018427387904) :
    Calls Tryd.prog 33 #[.string (str l)] w (Ref3 (dec1 okV l) w) := by
  match l with
  | [] => exact valueOf_nil w
  | c :: r =>
    by_cases h0 : c = 0
    · subst h0; exact valueOf_zero r w hT hl
    by_cases h1 : c = 1
    · subst h1; exact valueOf_null r w hT hl
    by_cases h2 : c = 2
    · subst h2
      cases r with
      | nil => exact valueOf_bool_short w hT hl
      | cons c r => exact valueOf_bool c r w hT hl
    by_cases h3 : c = 3
    · subst h3
      by_cases h8 : r.length < 8
      · exact valueOf_int_short r w hT hl h8
      · exact valueOf_int r w hT hl h8
    by_cases h4 : c = 4
    · subst h4
      by_cases h8 : r.length < 8
      · exact valueOf_real_short r w hT hl h8
      · by_cases hN : num (r.take 8) 0 < 9223372036854775808
        · exact valueOf_real_lo r w hT hl h8 hN
        · exact valueOf_real_hi r w hT hl h8 hN
    by_cases h5 : c = 5
    · subst h5; exact valueOf_text r w hT hl
    have ne : ∀ (n : Nat) (d : UInt8), d.toNat = n → ¬ c = d → c.toNat ≠ n := fun n d hd hc e => hc (UInt8.toNat_inj.1 (by omega))
    have g0 := ne 0 0 rfl h0
    have g1 := ne 1 1 rfl h1
    have g2 := ne 2 2 rfl h2
    have g3 := ne 3 3 rfl h3
    have g4 := ne 4 4 rfl h4
    have g5 := ne 5 5 rfl h5
    exact valueOf_bad c r w hT hl (by omega)
end Go.Proofs.YtdbdlheilckcoaaDoor
