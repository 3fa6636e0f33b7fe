/-
  THE WALK of the law 'chirographkeep.ExtendSound'.
  CONDITIONS: package sum's roundWords hold what their initialiser lays ('KW').
-/
import Derived.Test.YtdpfjhhcgaeiiabDoorLawT4
import Derived.Test.YtdpfjhhcgaeiiabDoorListsK
namespace Go.Proofs.YtdpfjhhcgaeiiabDoor
open Go.RowKit CodeMath Go.Proofs.YtdpfjhhcgaeiiabDoor.FrameMath
set_option linter.unusedVariables false
set_option maxRecDepth 100000

theorem ownsRow_shapeK {w : World} {base : Nat} {e : TypeId} {size : Nat} {v : Value} {n : Nat} {xs : List Value} (h : w.ownsRow base e size v n xs) (hn : 0 < n) : ∃ g cap, v = .slice (some ⟨g, 0, none⟩) n cap ∧ n ≤ cap ∧ cap ≤ 9223372036854775807 ∧ base ≤ g ∧ g < w.heap.size := by
  rcases h.2 with ⟨_, h0⟩ | ⟨g, cap, cur, hv, hb, hg, hc, hm, _⟩
  · omega
  · exact ⟨g, cap, hv, hc, by unfold maxLen at hm; omega, hb, (Array.getElem?_eq_some_iff.1 hg).1⟩
theorem OwnL.atK {w : World} {base : Nat} {v : Value} {rows : List (List UInt8)} (h : OwnL w base v rows) (i : Nat) (l : List UInt8) (hi : rows[i]? = some l) : ∃ g cap u, v = .slice (some ⟨g, 0, none⟩) rows.length cap ∧ base ≤ g ∧ g < w.heap.size ∧ w.cell? ⟨g, i, none⟩ = some u ∧ RowT w u l ∧ w.frozen? ⟨g, i, none⟩ = false := by
  obtain ⟨us, h1, h2⟩ := h
  have hil := (List.getElem?_eq_some_iff.1 hi).1
  obtain ⟨g, cap, rfl, hc, hm, hb, hg⟩ := ownsRow_shapeK h1 (by omega)
  obtain ⟨u, k1, k2⟩ := h2 i l hi
  exact ⟨g, cap, u, rfl, hb, hg, by rw [h1.cellAt _ (by omega)]; exact k1, k2, h1.frozenAt i⟩
/-- rows[p] = x. -/
theorem OwnL.put {w : World} {base g cap n : Nat} {rows : List (List UInt8)} (hn : rows.length = n) (h : OwnL w base (.slice (some ⟨g, 0, none⟩) n cap) rows) (p : Nat) (hp : p < rows.length) (x : List UInt8) (u : Value) (hu : RowT w u x) : OwnL (w.setCell ⟨g, p, none⟩ u) base (.slice (some ⟨g, 0, none⟩) n cap) (rows.set p x) := by
  subst hn
  obtain ⟨us, h1, h2⟩ := h
  obtain ⟨s1, s2⟩ := h1.stored p u
  have hty : ∀ b, some g = some b → ∃ cur T fz, w.heap[b]? = some (.cells cur T fz) ∧ (T = 28 ∨ T = 23) := fun b hb => by
    cases hb
    obtain ⟨cur, fz, h⟩ := ownsRow_typed h1 g rfl
    exact ⟨cur, _, fz, h, .inl rfl⟩
  have hul : us.length = rows.length := by have := h1.1; omega
  refine ⟨us.set p u, by rw [List.length_set]; exact s1, fun i l hi => ?_⟩
  by_cases hip : p = i
  · subst hip
    rw [List.getElem?_set_self hp] at hi
    cases hi
    exact ⟨u, List.getElem?_set_self (by omega), hu.grown s2 hty⟩
  · rw [List.getElem?_set_ne hip] at hi
    obtain ⟨v, k1, k2⟩ := h2 i l hi
    exact ⟨v, by rw [List.getElem?_set_ne hip]; exact k1, k2.grown s2 hty⟩
theorem mix_step (A B : List (List UInt8)) (j : Nat) (x : List UInt8) (ha : A[j]? = some x) (hb : j < B.length) : (A.take j ++ B.drop j).set j x = A.take (j + 1) ++ B.drop (j + 1) := by
  have hal := (List.getElem?_eq_some_iff.1 ha).1
  have h1 : (A.take j).length = j := by rw [List.length_take]; omega
  rw [List.set_append, if_neg (by omega), h1, Nat.sub_self, List.drop_eq_getElem_cons hb, List.set_cons_zero, List.take_succ_eq_append_getElem hal, (List.getElem?_eq_some_iff.1 ha).2, List.append_assoc]
  rfl
theorem ext_fault_sound (B : List (List UInt8)) (h64 : B.length ≤ 64) (z z' : List UInt8) (hz : rollR 2 B = .ok z) (A : List (List UInt8)) (hA : A.length ≤ B.length) (hz' : rollR 2 A = .ok z') (path : List (List UInt8)) (h : extFaultR 2 z' (A.length : Int) z (B.length : Int) path = 0) : A = B.take A.length := by
  have e6 : 2 ^ 6 = 64 := by decide
  unfold extFaultR at h
  rw [refR_fit 2 rfl _ h64, if_neg (by decide), if_neg (by omega), Int.toNat_natCast, Int.toNat_natCast] at h
  by_cases hk0 : A.length = 0
  · rw [List.eq_nil_of_length_eq_zero hk0]; rfl
  · rw [if_neg (by omega)] at h
    split at h
    · rename_i hx
      have := ext_sound 6 B A.length true z' z' z path (by omega) (by omega) hA hz hx
      exact rollR_inj A.length A (B.take A.length) z' (Nat.le_refl _) hz' this
    · cases h
set_option maxHeartbeats 8000000 in
theorem extendSound_walk (l : List R) (ao : Option Addr) (cap : Nat) (l2 : List R) (ao2 : Option Addr) (cap2 : Nat) (at_ : Int) (path : List (List UInt8)) (aq : Option Addr) (cq : Nat) (w : World) (hT : KW w) (hc : l.length ≤ cap) (hq : cap ≤ 9223372036854775807) (hR : Raws w ao l) (hc2 : l2.length ≤ cap2) (hq2 : cap2 ≤ 9223372036854775807) (hR2 : Raws w ao2 l2) (a0 : -9223372036854775808 ≤ at_) (a1 : at_ ≤ 9223372036854775807) (hcq : path.length ≤ cq) (hqq : cq ≤ 9223372036854775807) (hrq : path.length ≤ 140737488351232 ∧ ∀ l ∈ path, l.length ≤ 140737488351232) (hlq : Lines w aq path) :
    Calls Tryd.prog 10 #[.slice ao l.length cap, .slice ao2 l2.length cap2, .int .i64 at_, .slice aq path.length cq] w fun e w' => e = .returned (.bool true) ∧ Below w.heap.size w w' := by
  have cS := entK_any l ao cap w hc hq hR
  have cS2 := fun W (hW : Below w.heap.size w W) => entK_any l2 ao2 cap2 W hc2 hq2 (hR2.keep hW)
  have kc := fun (W : World) (C : Array Value) (n c g : Nat) (hg : g = W.heap.size) => Joins.run_convert_bytes_const_at (P := Tryd.prog) W 28 5 C n c g hg Tryd.underlying28 Tryd.underlying5
  have hA20 := entL_length l
  have hA12 := entL_each l
  have hB20 := entL_length l2
  have hB12 := entL_each l2
  generalize entL l = A0 at *
  generalize entL l2 = E at *
  have HALL := Lib.hid (And.intro hA20 (And.intro hA12 (And.intro hB20 hB12)))
  have HPT := Lib.hid (And.intro hcq (And.intro hqq hrq))
  obtain ⟨lq, hlq2⟩ : ∃ k, path.length = k := ⟨_, rfl⟩
  have HLQ := Lib.hid hlq2
  rw [hlq2]
  clear hc hq hR hc2 hq2 hR2 hA20 hA12 hB20 hB12 hcq hqq hrq hlq2
  generalize l.length = n at *
  generalize l2.length = n2 at *
  go_enter Tryd.func10, Tryd.ntmps10
  go_wp2_with fail
  refine cS.mono ?_
  rintro e w1 ⟨v1, rfl, hoA, hb1⟩
  have c2 := cS2 w1 hb1
  clear cS cS2
  obtain ⟨aA, cA, rfl, qA1, qA2, -, hlA⟩ := hoA.lines
  obtain ⟨nA, hnA⟩ : ∃ k, A0.length = k := ⟨_, rfl⟩
  have HNA := Lib.hid hnA
  rw [hnA] at qA1 hoA ⊢
  have HQA := Lib.hid (And.intro qA1 qA2)
  clear hnA qA1 qA2
  go_wp2_with fail
  refine c2.mono ?_
  rintro e w2 ⟨v2, rfl, ho, hb2⟩
  clear c2
  have hba1 : Below w2.heap.size w2 (w2.alloc (.cells #[.int .u8 120] 5 (1, 2))) := (Below.refl _ _).alloc (Nat.le_refl _) _
  have hrow := rowT_litF w2 120 120 rfl (1, 2) w2.heap.size rfl
  have ho1 := ho.keep hba1
  have hb11 := below_step hb2 hb2.size hba1
  have hs11 := hb11.size
  obtain ⟨ao1, ca1, rfl, -⟩ := ho1.lines
  generalize hEn : E.length = en at *
  have HEN := Lib.hid hEn
  clear hEn ho
  go_wp2_with (first
    | (at_builtin; refine wpList_append_line rfl _ _ rfl w1.heap.size _ E rfl ho1 _ [120] _ rfl (by simp) hrow (by have := HALL.out.2.2.1; have := HEN.out; omega) hs11 ?_; intro v5 w5 ho5 hb5)
    | fail)
  have hb15 := hb11.trans hb5
  obtain ⟨B0, hB0⟩ : ∃ B, E ++ [[120]] = B := ⟨_, rfl⟩
  rw [hB0] at ho5
  have hBl : B0.length = en + 1 := by rw [← hB0, List.length_append, HEN.out]; rfl
  have hB12 : ∀ x ∈ B0, x.length ≤ 12 := fun x hx => by
    rw [← hB0] at hx
    rcases List.mem_append.1 hx with h | h
    · exact HALL.out.2.2.2 x h
    · simp at h; subst h; decide
  obtain ⟨nB, hnB⟩ : ∃ k, B0.length = k := ⟨_, rfl⟩
  have hnB1 : 1 ≤ nB ∧ nB ≤ 21 := by have := HALL.out.2.2.1; have := HEN.out; omega
  obtain ⟨y0, hy0⟩ : ∃ y, B0[0]? = some y := ⟨_, List.getElem?_eq_getElem (by omega)⟩
  obtain ⟨gB, cB, -, rfl, hgB, -, -, -, -⟩ := ho5.atK 0 y0 hy0
  rw [hnB] at ho5 ⊢
  have HNB := Lib.hid hnB
  have HB12 := Lib.hid hB12
  have HNB1 := Lib.hid hnB1
  have hnBI : (nB : Int) ≤ 21 := by omega
  have hnAI : (nA : Int) ≤ 20 := by have := HALL.out.1; have := HNA.out; omega
  clear kc ho1 hrow hba1 hb11 hs11 hb5 hB0 hBl hB12 hnB hnB1 hy0 hb2
  obtain ⟨M, hM⟩ : ∃ M, min nA nB = M := ⟨_, rfl⟩
  have hmin : ∀ (ts : Array TypeId) (t : TypeId) (W : World), (Builtin.min_ ts t #[.int .i64 (nA : Int), .int .i64 (nB : Int)]).run Tryd.prog W = .ok (.int .i64 (M : Int)) W := fun ts t W => by
    rw [run_min_int2, ← hM]
    congr 2
    split <;> omega
  have cP := fun W => picked_any at_ ((M : Int) + 1) W (by omega) (by omega) a0 a1
  obtain ⟨q, hqe⟩ : ∃ q : Nat, at_ % ((M : Int) + 1) = q := ⟨(at_ % ((M : Int) + 1)).toNat, by
    have := Int.emod_nonneg at_ (show (M : Int) + 1 ≠ 0 by omega)
    omega⟩
  have hqM : q ≤ M := by
    have := Int.emod_lt_of_pos at_ (show (0 : Int) < (M : Int) + 1 by omega)
    omega
  rw [hqe] at cP
  have HQM := Lib.hid (show q ≤ nA ∧ q ≤ nB by omega)
  have hMI : (M : Int) ≤ 21 := by omega
  have hqI : (q : Int) ≤ 21 := by omega
  have HC1 := Lib.hid (Below.refl w1.heap.size w1)
  clear hM hqM hqe
  go_wp2_with fail
  go_simp
  go_wp2_with fail
  refine (cP _).mono ?_
  rintro e w6 ⟨rfl, rfl⟩
  clear cP hmin
  go_wp2_with fail
  go_loopw [37] (fun ix wr => ∃ j : Nat, ix = .int .i64 j ∧ Hid (j ≤ q) ∧ OwnL wr w1.heap.size (.slice (some ⟨gB, 0, none⟩) nB cB) (A0.take j ++ B0.drop j) ∧ Below w1.heap.size w1 wr) (fun ix _ => q - (intOf ix).toNat)
  case atStart => exact ⟨0, rfl, Lib.hid (Nat.zero_le _), by simpa using ho5, hb15⟩
  case round =>
    obtain ⟨j, rfl, hjq, ho, hb⟩ := hrel
    clear ho5 hb15
    by_cases hlt : j < q
    · have hI : (j : Int) < q := by omega
      have hjA : j < A0.length := by have := HQM.out; have := HNA.out; omega
      have hjB : j < B0.length := by have := HQM.out; have := HNB.out; omega
      obtain ⟨x, hx⟩ : ∃ x, A0[j]? = some x := ⟨_, List.getElem?_eq_getElem hjA⟩
      have hoA' : OwnL w1 w.heap.size (.slice aA A0.length cA) A0 := by rw [HNA.out]; exact hoA
      obtain ⟨gA, cA2, u, eA, -, hgA, hcA, hrA, -⟩ := hoA'.atK j x hx
      obtain ⟨ea, -, -⟩ := Value.slice.inj eA
      subst ea
      have hmixl : (A0.take j ++ B0.drop j).length = nB := by rw [List.length_append, List.length_take, List.length_drop]; have := HNB.out; omega
      obtain ⟨y, hy⟩ : ∃ y, (A0.take j ++ B0.drop j)[j]? = some y := ⟨_, List.getElem?_eq_getElem (by rw [hmixl]; have := HNB.out; omega)⟩
      obtain ⟨gB2, cB2, ub, eB, -, hgBl, hcB, hrB, hfB⟩ := ho.atK j y hy
      obtain ⟨eb, -, -⟩ := Value.slice.inj eB
      simp only [Option.some.injEq, Addr.mk.injEq, and_true] at eb
      subst eb
      have hcA' := (hb.cell (p := ⟨gA, j, none⟩) hgA).trans hcA
      have hrA' := hrA.keep hb
      have hput := ho.put hmixl j (by rw [hmixl]; have := HNB.out; omega) x u hrA'
      rw [mix_step A0 B0 j x hx hjB] at hput
      have hb9 := hb.setCell (p := ⟨gB, j, none⟩) hgB u
      have hjnA : (j : Int) < nA := by have := HNA.out; omega
      have hjnB : (j : Int) < nB := by have := HNB.out; omega
      have HLT := Lib.hid hlt
      obtain ⟨a4, k4, rfl, -⟩ := id hrA
      obtain ⟨a5, k5, rfl, -⟩ := id hrB
      generalize y.length = ly at *
      generalize x.length = lx at *
      clear hlt hx hjA hjB hoA' eA hcA hrA hmixl hy eB hrA' ho hb hrB
      go_wp2_with fail
      go_roundw
      case rel => exact ⟨j + 1, by go_num, Lib.hid HLT.out, hput, hb9⟩
      case measure => have := HLT.out; simp [intOf]; omega
    · have hI : ¬ (j : Int) < q := by omega
      obtain rfl : j = q := by have := hjq.out; omega
      clear hlt hjq
      obtain ⟨B, hB⟩ : ∃ B, A0.take j ++ B0.drop j = B := ⟨_, rfl⟩
      rw [hB] at ho
      have hBl : B.length = nB := by rw [← hB, List.length_append, List.length_take, List.length_drop]; have := HQM.out; have := HNA.out; have := HNB.out; omega
      have hB12 : ∀ x ∈ B, x.length ≤ 12 := fun x hx => by
        rw [← hB] at hx
        rcases List.mem_append.1 hx with h | h
        · exact HALL.out.2.1 x (List.mem_of_mem_take h)
        · exact HB12.out x (List.mem_of_mem_drop h)
      obtain ⟨N, hN⟩ : ∃ N, min nA nB = N := ⟨_, rfl⟩
      have hNA : N ≤ nA := by omega
      have hNB : N ≤ nB := by omega
      obtain ⟨AA, hAA⟩ : ∃ X, A0.take N = X := ⟨_, rfl⟩
      have hAl : AA.length = N := by rw [← hAA, List.length_take]; have := HNA.out; omega
      have hA12 : ∀ x ∈ AA, x.length ≤ 12 := fun x hx => by rw [← hAA] at hx; exact HALL.out.2.1 x (List.mem_of_mem_take hx)
      have hlAA : Lines w1 aA AA := by rw [← hAA]; exact hlA.take N
      have hcs : (nB < nA ∧ N = nB) ∨ (¬ nB < nA ∧ N = nA) := by omega
      obtain ⟨z, hz, hz0, hzl, -⟩ := roll_fits 2 rfl B.length B (Nat.le_refl _) (by have := HNB1.out; omega) hB12
      obtain ⟨z', hz', hz0', hzl', -⟩ := roll_fits 2 rfl AA.length AA (Nat.le_refl _) (by have := HNB1.out; omega) hA12
      have hb1' := HNB1.out
      have hs1 := ext_fault_sound B (by omega) z z' hz AA (by omega) hz' path
      have hs2 := ext_fault_sound B (by omega) z z' hz AA (by omega) hz' (extPath 2 B AA.length)
      have hs3 : AA = B.take AA.length → extFaultR 2 z' (AA.length : Int) z (B.length : Int) (extPath 2 B AA.length) = 0 := fun h => ext_fault_right 2 rfl B (by omega) (by omega) (parts_fit 2 rfl B (by omega) hB12) z z' hz AA.length (by omega) (by rw [← h]; exact hz')
      have hBB : ∀ y ∈ B, y.length ≤ 140737488351232 := fun y hy => by have := hB12 y hy; omega
      have hAB : ∀ y ∈ AA, y.length ≤ 140737488351232 := fun y hy => by have := hA12 y hy; omega
      have hlB := ho.lines
      rw [hBl] at hlB
      obtain ⟨aB2, cB2, eB, qB1, qB2, -, hlBB⟩ := hlB
      obtain ⟨eb, -, ec⟩ := Value.slice.inj eB
      subst eb
      subst ec
      have hb0 := below_step hb1 hb1.size hb
      have cA1 := fun W hl hT => rollTop_any 2 AA aA cA W (by decide) (by decide) (by have := HQA.out.1; omega) HQA.out.2 hAB hl hT
      rw [topR_right 2 rfl AA (by omega) z' hz', hAl] at cA1
      have cB1 := fun W hl hT => rollTop_any 2 B (some ⟨gB, 0, none⟩) cB W (by decide) (by decide) (by omega) qB2 hBB hl hT
      rw [topR_right 2 rfl B (by omega) z hz, hBl] at cB1
      have cI := fun W hl hT => Extend_any 2 B (some ⟨gB, 0, none⟩) cB (AA.length : Int) W (by decide) (by decide) (by omega) qB2 (by omega) (by omega) hBB hl hT
      rw [extTop_right 2 rfl B (by omega) z hz AA.length (by omega), hAl, hBl] at cI
      obtain ⟨hP6, hPB0⟩ := extPath_small 2 B N (by omega)
      have hPB : ∀ y ∈ extPath 2 B N, y.length ≤ 140737488351232 := fun y hy => by have := hPB0 y hy; omega
      have hzz : z'.length ≤ 140737488351232 := by omega
      have cC1 := fun ao_ co at_ ct W ho ht hl hT => CheckExtend_any 2 z' ao_ co (AA.length : Int) z at_ ct (B.length : Int) path aq cq W (by decide) (by decide) (by omega) (by omega) (by omega) (by omega) ho hzz ht HPT.out.1 HPT.out.2.1 HPT.out.2.2.2 hl hT
      have cC2 := fun ao_ co at_ ct ap cp W ho ht hc hq hl hT => CheckExtend_any 2 z' ao_ co (AA.length : Int) z at_ ct (B.length : Int) (extPath 2 B N) ap cp W (by decide) (by decide) (by omega) (by omega) (by omega) (by omega) ho hzz ht hc hq hPB hl hT
      rw [hAl] at hs1 hs2 hs3
      obtain ⟨r1, hr1⟩ : ∃ r, extFaultR 2 z' (N : Int) z (B.length : Int) path = r := ⟨_, rfl⟩
      obtain ⟨r2, hr2⟩ : ∃ r, extFaultR 2 z' (N : Int) z (B.length : Int) (extPath 2 B N) = r := ⟨_, rfl⟩
      rw [hAl, hr1, hBl, HLQ.out] at cC1
      rw [hAl, hr2, hBl] at cC2
      rw [hr1] at hs1
      rw [hr2] at hs2 hs3
      have hBt : (B.take N).length = N := by rw [List.length_take]; omega
      have cK := fun W hl hl' => keepLists_any AA (B.take N) aA (some ⟨gB, 0, none⟩) cA cB W hl hl' (by omega) (by omega)
      rw [hAl, hBt] at cK
      have sB := fun W => sliceL_first (some ⟨gB, 0, none⟩) nB cB N (by omega) W
      obtain ⟨sm, hsm⟩ : ∃ b, decide (AA = B.take N) = b := ⟨_, rfl⟩
      rw [hsm] at cK
      have hcase : (sm = true ∧ r1 = 0 ∧ r2 = 0) ∨ (sm = true ∧ r1 ≠ 0 ∧ r2 = 0) ∨ (sm = false ∧ r1 ≠ 0 ∧ r2 ≠ 0) := by
        by_cases h : AA = B.take N
        · have hs : sm = true := by rw [← hsm]; exact decide_eq_true h
          by_cases h1 : r1 = 0
          · exact .inl ⟨hs, h1, hs3 h⟩
          · exact .inr (.inl ⟨hs, h1, hs3 h⟩)
        · exact .inr (.inr ⟨by rw [← hsm]; exact decide_eq_false h, fun h1 => h (hs1 h1), fun h1 => h (hs2 h1)⟩)
      have HCASE := Lib.hid hcase
      have hlBt := hlBB.take N
      have hlBt9 := hlBB
      have HSA := Lib.hid (fun (hk : nB ≤ nA) W => sliceL_first aA nA cA nB (by have := HQA.out.1; omega) W)
      have hlq1 := hlq.keep hb0
      have hT1 := hT.keep hb0 (Nat.le_refl _)
      have hlAA1 := hlAA.keep hb
      generalize extPath 2 B N = P at *
      obtain ⟨pl, hpl2⟩ : ∃ k, P.length = k := ⟨_, rfl⟩
      have HPL := Lib.hid hpl2
      rw [hpl2] at cC2
      have hgt : 0 < z.length := hz0
      have hNI : (N : Int) ≤ 21 := by omega
      clear hcase hsm hs1 hs2 hs3 hr1 hr2 hN hAA hAl hA12 hz hz' hz0 hz0' hzl hzl' hb1' hBB hAB hb hB hBl hB12 qB1 qB2 eB hP6 hPB hPB0 hzz hBt ho hlAA hoA hlA hpl2 hlBB hlq hT hNA hNB
      rcases hcs with ⟨hlt2, rfl⟩ | ⟨hge2, rfl⟩
      · have hI2 := Int.ofNat_lt.2 hlt2
        have qA := HSA.out (Nat.le_of_lt hlt2)
        clear HSA
        go_wp2_with fail
        refine (cA1 _ hlAA1 hT1).mono ?_
        rintro e w7 ⟨v7, rfl, hr7, hb7⟩
        obtain ⟨az', kz', rfl, -⟩ := id hr7
        have hlB7 := hlBt9.keep hb7
        have hT7 := hT1.keep hb7 (Nat.le_refl _)
        clear cA1
        go_wp2_with fail
        refine (cB1 _ hlB7 hT7).mono ?_
        rintro e w8 ⟨v8, rfl, hr8, hb8⟩
        obtain ⟨az, kz, rfl, -, -, -, z8⟩ := id hr8.row
        have hlB8 := hlB7.keep hb8
        have hT8 := hT7.keep hb8 (Nat.le_refl _)
        clear cB1
        go_wp2_with fail
        refine (cI _ hlB8 hT8).mono ?_
        rintro e w9 ⟨ap9, cp9, rfl, k1, k2, hl9, hb9⟩
        clear cI
        rw [HPL.out] at k1 ⊢
        have hT9 := hT8.keep hb9 (Nat.le_refl _)
        have hb89 := below_step hb8 hb8.size hb9
        have hb79 := below_step hb7 hb7.size hb89
        have c := cC1 az' kz' az kz w9 (hr7.row.keep hb89) (z8.keep hb9) (hlq1.keep hb79) hT9
        clear cC1
        go_wp2_with fail
        refine c.mono ?_
        rintro e w10 ⟨rfl, hb10⟩
        have hb710 := below_step hb79 hb79.size hb10
        have hb810 := below_step hb89 hb89.size hb10
        have hb910 := below_step hb9 hb9.size hb10
        have c := cC2 az' kz' az kz ap9 cp9 w10 (hr7.row.keep hb810) (z8.keep hb910) k1 k2 (hl9.keep hb10) (hT9.keep hb10 (Nat.le_refl _))
        clear cC2 hT9 hl9 k1 k2
        go_wp2_with fail
        refine c.mono ?_
        rintro e w11 ⟨rfl, hb11⟩
        have hb711 := below_step hb710 hb710.size hb11
        have hbb := below_step hb0 hb0.size hb711
        have q9 := sB w11
        have cKK := cK w11 (hlAA1.keep hb711) (hlBt.keep hb711)
        clear cK hr7 hr8 z8
        generalize z.length = zl at *
        generalize z'.length = zl' at *
        have hgtI : (0 : Int) < zl := by omega
        go_wp2_with fail
        refine cKK.mono ?_
        rintro e w12 ⟨rfl, hb12⟩
        have hbb12 := below_step hbb hbb.size hb12
        clear c cKK q9 sB
        rcases HCASE.out with ⟨rfl, rfl, rfl⟩ | ⟨rfl, h1, rfl⟩ | ⟨rfl, h1, h2⟩
        · clear HCASE
          go_wp2_with fail
          go_ret
          exact ⟨rfl, hbb12⟩
        · have hb1 : (r1 == 0) = false := by simp [h1]
          clear HCASE
          go_wp2_with fail
          go_ret
          exact ⟨rfl, hbb12⟩
        · have hb1 : (r1 == 0) = false := by simp [h1]
          have hb2 : (r2 == 0) = false := by simp [h2]
          clear HCASE
          go_wp2_with fail
          go_ret
          exact ⟨rfl, hbb12⟩
      · have hI2 : ¬ _ := fun h => hge2 (Int.ofNat_lt.1 h)
        clear HSA
        go_wp2_with fail
        refine (cA1 _ hlAA1 hT1).mono ?_
        rintro e w7 ⟨v7, rfl, hr7, hb7⟩
        obtain ⟨az', kz', rfl, -⟩ := id hr7
        have hlB7 := hlBt9.keep hb7
        have hT7 := hT1.keep hb7 (Nat.le_refl _)
        clear cA1
        go_wp2_with fail
        refine (cB1 _ hlB7 hT7).mono ?_
        rintro e w8 ⟨v8, rfl, hr8, hb8⟩
        obtain ⟨az, kz, rfl, -, -, -, z8⟩ := id hr8.row
        have hlB8 := hlB7.keep hb8
        have hT8 := hT7.keep hb8 (Nat.le_refl _)
        clear cB1
        go_wp2_with fail
        refine (cI _ hlB8 hT8).mono ?_
        rintro e w9 ⟨ap9, cp9, rfl, k1, k2, hl9, hb9⟩
        clear cI
        rw [HPL.out] at k1 ⊢
        have hT9 := hT8.keep hb9 (Nat.le_refl _)
        have hb89 := below_step hb8 hb8.size hb9
        have hb79 := below_step hb7 hb7.size hb89
        have c := cC1 az' kz' az kz w9 (hr7.row.keep hb89) (z8.keep hb9) (hlq1.keep hb79) hT9
        clear cC1
        go_wp2_with fail
        refine c.mono ?_
        rintro e w10 ⟨rfl, hb10⟩
        have hb710 := below_step hb79 hb79.size hb10
        have hb810 := below_step hb89 hb89.size hb10
        have hb910 := below_step hb9 hb9.size hb10
        have c := cC2 az' kz' az kz ap9 cp9 w10 (hr7.row.keep hb810) (z8.keep hb910) k1 k2 (hl9.keep hb10) (hT9.keep hb10 (Nat.le_refl _))
        clear cC2 hT9 hl9 k1 k2
        go_wp2_with fail
        refine c.mono ?_
        rintro e w11 ⟨rfl, hb11⟩
        have hb711 := below_step hb710 hb710.size hb11
        have hbb := below_step hb0 hb0.size hb711
        have q9 := sB w11
        have cKK := cK w11 (hlAA1.keep hb711) (hlBt.keep hb711)
        clear cK hr7 hr8 z8
        generalize z.length = zl at *
        generalize z'.length = zl' at *
        have hgtI : (0 : Int) < zl := by omega
        go_wp2_with fail
        refine cKK.mono ?_
        rintro e w12 ⟨rfl, hb12⟩
        have hbb12 := below_step hbb hbb.size hb12
        clear c cKK q9 sB
        rcases HCASE.out with ⟨rfl, rfl, rfl⟩ | ⟨rfl, h1, rfl⟩ | ⟨rfl, h1, h2⟩
        · clear HCASE
          go_wp2_with fail
          go_ret
          exact ⟨rfl, hbb12⟩
        · have hb1 : (r1 == 0) = false := by simp [h1]
          clear HCASE
          go_wp2_with fail
          go_ret
          exact ⟨rfl, hbb12⟩
        · have hb1 : (r1 == 0) = false := by simp [h1]
          have hb2 : (r2 == 0) = false := by simp [h2]
          clear HCASE
          go_wp2_with fail
          go_ret
          exact ⟨rfl, hbb12⟩
end Go.Proofs.YtdpfjhhcgaeiiabDoor
