/-
  THE WALK of the law 'chirographkeep.TreeFull'.
  CONDITIONS: each theorem's own hypotheses.
-/
import Derived.Test.YtpefojmjllgfdaaTTr
import Derived.Test.YtpefojmjllgfdaaPicked
namespace Go.Proofs.Ytpefojmjllgfdaa
open Go.RowKit
set_option linter.unusedVariables false
set_option maxRecDepth 100000

def keyN (n : Nat) : List UInt8 := [(48 + n / 10).toUInt8, (48 + n % 10).toUInt8]
theorem keyN_inj : ∀ a, a < 100 → ∀ b, b < 100 → keyN a = keyN b → a = b := by
  have h : (List.range 100).all (fun a => (List.range 100).all (fun b => !(keyN a == keyN b) || a == b)) = true := by decide +kernel
  intro a ha b hb e
  rw [List.all_eq_true] at h
  have h1 := h a (List.mem_range.2 ha)
  rw [List.all_eq_true] at h1
  have h2 := h1 b (List.mem_range.2 hb)
  rw [e] at h2
  simpa using h2
theorem keyN_x : ∀ a, a < 100 → keyN a ≠ [120] := by
  intro a ha h
  simp [keyN] at h
theorem putR_self (s : List UInt8) (v : Int) : ∀ l : List En, (s, v) ∈ putR s v l
  | [] => by simp [putR]
  | a :: l => by
    have := putR_self s v l
    simp only [putR]
    split
    · exact List.mem_cons_self ..
    · split
      · exact List.mem_cons_self ..
      · exact List.mem_cons_of_mem _ this
theorem putR_keep (s : List UInt8) (v : Int) (e : En) (he : e.1 ≠ s) : ∀ l : List En, e ∈ l → e ∈ putR s v l
  | [], h => by cases h
  | a :: l, h => by
    have ih := putR_keep s v e he l
    simp only [putR]
    split
    · exact List.mem_cons_of_mem _ h
    · split
      · next h1 h2 =>
        rcases List.mem_cons.1 h with rfl | h
        · exact absurd (by simpa using h2) he
        · exact List.mem_cons_of_mem _ h
      · rcases List.mem_cons.1 h with rfl | h
        · exact List.mem_cons_self ..
        · exact List.mem_cons_of_mem _ (ih h)
/-- Steps that come to each number. -/
structure GoodK (k : Nat) : Prop where
  le : k ≤ 99
  one : ∀ i, i < 100 → ∀ j, j < i → j * k % 100 ≠ i * k % 100
  all : ∀ n, n < 100 → ∃ j, j < 100 ∧ j * k % 100 = n
theorem goodK_of (k : Nat) (h : (decide (k ≤ 99) && ((List.range 100).all (fun i => (List.range i).all (fun j => !(j * k % 100 == i * k % 100))) && (List.range 100).all (fun n => (List.range 100).any (fun j => j * k % 100 == n)))) = true) : GoodK k := by
  simp only [Bool.and_eq_true, decide_eq_true_eq, List.all_eq_true, List.any_eq_true, List.mem_range, beq_iff_eq, Bool.not_eq_true', beq_eq_false_iff_ne] at h
  exact ⟨h.1, h.2.1, h.2.2⟩
def ksF : List Nat := [1, 3, 7, 9, 11, 99]
theorem ksF_good : ∀ (p k : Nat), ksF[p]? = some k → GoodK k := by
  intro p k h
  have hk := List.mem_of_getElem? h
  simp only [ksF, List.mem_cons, List.not_mem_nil, or_false] at hk
  rcases hk with rfl | rfl | rfl | rfl | rfl | rfl <;> exact goodK_of _ (by decide +kernel)
abbrev enK (k j : Nat) : En := (keyN (j * k % 100), ((j * k % 100 : Nat) : Int))
structure HasK (k i : Nat) (l : List En) : Prop where
  len : l.length = i
  of : ∀ e ∈ l, ∃ j, j < i ∧ e = enK k j
  has : ∀ j, j < i → enK k j ∈ l
theorem HasK.step {k i : Nat} {l : List En} (h : HasK k i l) (hk : GoodK k) (hi : i < 100) (hr : RiseE l) : HasK k (i + 1) (putR (keyN (i * k % 100)) ((i * k % 100 : Nat) : Int) l) := by
  have hno : ¬ ∃ e ∈ l, e.1 = keyN (i * k % 100) := by
    rintro ⟨e, he, h1⟩
    obtain ⟨j, hj, rfl⟩ := h.of e he
    exact hk.one i hi j hj (keyN_inj _ (Nat.mod_lt _ (by decide)) _ (Nat.mod_lt _ (by decide)) h1)
  refine ⟨by rw [putR_len _ _ _ hr, if_neg hno, h.len], fun e he => ?_, fun j hj => ?_⟩
  · rcases putR_mem _ _ _ e he with rfl | he
    · exact ⟨i, by omega, rfl⟩
    · obtain ⟨j, hj, rfl⟩ := h.of e he
      exact ⟨j, by omega, rfl⟩
  · by_cases hji : j = i
    · subst hji; exact putR_self _ _ _
    · exact putR_keep _ _ _ (fun h1 => hno ⟨_, h.has j (by omega), h1⟩) _ (h.has j (by omega))
theorem conv2x (W : World) (g : Nat) (x y : Int) (c d : UInt8) (hg : g = W.heap.size) (hx : x = (c.toNat : Int)) (hy : y = (d.toNat : Int)) : (convert 55 9 (.slice (some ⟨g, 0, none⟩) 2 2)).run Try.prog (W.alloc (.cells #[.int .u8 x, .int .u8 y] 5)) = .ok (.string (str [c, d])) (W.alloc (.cells #[.int .u8 x, .int .u8 y] 5)) := by
  subst hg hx hy
  exact run_convert_bytes_back (P := Try.prog) _ 55 9 5 ⟨W.heap.size, 0, none⟩ 2 [c, d] Try.underlying55 Try.underlying5 Try.underlying9 (fun j hj => by
    rcases (show j = 0 ∨ j = 1 by simp at hj; omega) with rfl | rfl
    · show (W.alloc (.cells #[.int .u8 (c.toNat : Int), .int .u8 (d.toNat : Int)] 5)).cell? ⟨W.heap.size, 0, none⟩ = _
      simp
    · show (W.alloc (.cells #[.int .u8 (c.toNat : Int), .int .u8 (d.toNat : Int)] 5)).cell? ⟨W.heap.size, 1, none⟩ = _
      simp)
/-- The bytes of a number's two digits. -/
theorem digits (n : Nat) (hn : n < 100) : ∃ xa xb : Int, (n : Int) / 10 = ((n / 10 : Nat) : Int) ∧ (n : Int) % 10 = ((n % 10 : Nat) : Int) ∧ IntKind.u8.wrap ((n / 10 : Nat) : Int) = ((n / 10 : Nat) : Int) ∧ IntKind.u8.wrap ((n % 10 : Nat) : Int) = ((n % 10 : Nat) : Int) ∧ IntKind.u8.wrap (48 + ((n / 10 : Nat) : Int)) = xa ∧ IntKind.u8.wrap (48 + ((n % 10 : Nat) : Int)) = xb ∧
    ∀ W : World, (convert 55 9 (.slice (some ⟨W.heap.size, 0, none⟩) 2 2)).run Try.prog (W.alloc (.cells #[.int .u8 xa, .int .u8 xb] 5)) = .ok (.string (str (keyN n))) (W.alloc (.cells #[.int .u8 xa, .int .u8 xb] 5)) := by
  have h1 : n / 10 ≤ 9 := by omega
  have h2 : n % 10 ≤ 9 := by omega
  have hw : ∀ z : Int, 0 ≤ z → z ≤ 255 → IntKind.u8.wrap z = z := fun z h0 h9 => by
    unfold IntKind.wrap
    simp [IntKind.bits, IntKind.signed]
    omega
  refine ⟨((48 + n / 10).toUInt8.toNat : Int), ((48 + n % 10).toUInt8.toNat : Int), by omega, by omega, hw _ (by omega) (by omega), hw _ (by omega) (by omega), ?_, ?_, fun W => conv2x W _ _ _ _ _ rfl rfl rfl⟩
  · rw [hw _ (by omega) (by omega)]
    simp; omega
  · rw [hw _ (by omega) (by omega)]
    simp; omega
/-- The tree that i keys were put in. -/
def FulS (w : World) (m6 k i : Nat) (W : World) : Prop := Below w.heap.size w W ∧ m6 + 1 ≤ W.heap.size ∧ ∃ au nu cu l, Blk W m6 24 [.slice au nu cu] ∧ TrV W au nu cu l ∧ HasK k i l
set_option maxHeartbeats 16000000 in
theorem treeFull_walk (step one : Int) (w : World) (h1 : -9223372036854775808 ≤ step) (h2 : step ≤ 9223372036854775807) (h3 : -9223372036854775808 ≤ one) (h4 : one ≤ 9223372036854775807) :
    Calls Try.prog 12 #[.int .i64 step, .int .i64 one] w fun e w' => e = .returned (.bool true) ∧ Below w.heap.size w w' := by
  have cP := fun W => picked_any step 6 W (by decide) (by decide) h1 h2
  have cQ := fun W => picked_any one 100 W (by decide) (by decide) h3 h4
  obtain ⟨p, hp⟩ : ∃ p : Nat, step % 6 = (p : Int) := ⟨(step % 6).toNat, by omega⟩
  obtain ⟨n, hn⟩ : ∃ n : Nat, one % 100 = (n : Int) := ⟨(one % 100).toNat, by omega⟩
  have hp6 : p < 6 := by omega
  have hn1 : n < 100 := by omega
  rw [hp] at cP
  rw [hn] at cQ
  obtain ⟨k, hk⟩ : ∃ k, ksF[p]? = some k := ⟨ksF[p]'hp6, List.getElem?_eq_getElem _⟩
  have hgk := ksF_good p k hk
  have b0 : Blk _ _ _ _ := Blk.new w #[.int .i64 1, .int .i64 3, .int .i64 7, .int .i64 9, .int .i64 11, .int .i64 99] 3
  have hb0 := (Below.refl w.heap.size w).alloc (Nat.le_refl _) (.cells #[.int .i64 1, .int .i64 3, .int .i64 7, .int .i64 9, .int .i64 11, .int .i64 99] 3)
  have c0 : (w.alloc (.cells #[.int .i64 1, .int .i64 3, .int .i64 7, .int .i64 9, .int .i64 11, .int .i64 99] 3)).cell? ⟨w.heap.size, p, none⟩ = some (.int .i64 (k : Int)) := by
    refine b0.cell ?_
    have : (List.map (fun k : Nat => Value.int .i64 (k : Int)) ksF)[p]? = some (.int .i64 (k : Int)) := by rw [List.getElem?_map, hk]; rfl
    exact this
  have p0 : (0 : Int) ≤ (p : Int) := by omega
  have p6 : (p : Int) < 6 := by omega
  have HGK := Lib.hid hgk
  have HB0 := Lib.hid hb0
  clear h1 h2 h3 h4 hp hn hk hgk b0 hb0
  go_enter Try.func12, Try.ntmps12
  go_wp2_with fail
  refine (cP _).mono ?_
  rintro e w1 ⟨rfl, rfl⟩
  clear cP
  go_upto_region 2 with fail
  generalize w.alloc (.cells #[.int .i64 1, .int .i64 3, .int .i64 7, .int .i64 9, .int .i64 11, .int .i64 99] 3) = w1 at *
  have z6 : Blk _ _ _ [_] := Blk.new w1 #[.slice none 0 0] 24
  have hb6 := (Below.refl w1.heap.size w1).alloc (Nat.le_refl _) (.cells #[.slice none 0 0] 24)
  have hs6 : (w1.alloc (.cells #[.slice none 0 0] 24)).heap.size = w1.heap.size + 1 := by simp
  obtain ⟨w2, hw2⟩ : ∃ W, w1.alloc (.cells #[.slice none 0 0] 24) = W := ⟨_, rfl⟩
  obtain ⟨m6, hm6⟩ : ∃ m, w1.heap.size = m := ⟨_, rfl⟩
  rw [hw2] at z6 hb6 hs6
  rw [hm6] at z6 hs6
  have HB2 : Hid (Below w.heap.size w w2 ∧ w.heap.size ≤ m6 ∧ m6 + 1 ≤ w2.heap.size) := Lib.hid ⟨below_stepE HB0.out HB0.out.size hb6, by have := HB0.out.size; omega, by omega⟩
  have HS0 : Hid (FulS w m6 k 0 w2) := Lib.hid ⟨HB2.out.1, by omega, none, 0, 0, [], z6, TrV.nil _, ⟨rfl, (fun e he => by cases he), (fun j hj => by omega)⟩⟩
  have HW2 := Lib.hid hw2
  have HM6 := Lib.hid hm6
  clear z6 hb6 hs6 hw2 hm6 c0
  go_upto_region 3 with fail
  rw [HW2.out, HM6.out]
  go_wp2_with fail
  go_loopw [25] (fun ix wr => ∃ (i : Nat), i ≤ 100 ∧ ix = .int .i64 i ∧ Hid (FulS w m6 k i wr)) (fun ix _ => 100 - (intOf ix).toNat)
  case atStart => exact ⟨0, Nat.zero_le _, rfl, HS0⟩
  case round =>
    obtain ⟨i, hi, rfl, hS⟩ := hrel
    by_cases hlt : i < 100
    · have iI : (i : Int) < 100 := by omega
      obtain ⟨hlow, hsz, au, nu, cu, l, hz, hT, hK⟩ := hS.out
      have q0 := hz.cell (j := 0) rfl
      have hkl := HGK.out.le
      have hik : i * k ≤ 9900 := Nat.le_trans (Nat.mul_le_mul (show i ≤ 100 by omega) hkl) (by decide)
      obtain ⟨ik, hike⟩ : ∃ x, i * k = x := ⟨_, rfl⟩
      have hmul : IntKind.i64.wrap ((i : Int) * (k : Int)) = (ik : Int) := by
        rw [← Int.natCast_mul, hike, IntKind.wrap_i64] <;> omega
      have HIK := Lib.hid hike
      rw [hike] at hik
      clear hike
      go_upto_region 7 with fail
      obtain ⟨nk, hnk⟩ : ∃ x, ik % 100 = x := ⟨_, rfl⟩
      have hnk1 : nk < 100 := by omega
      have hnkI : (ik : Int) % 100 = (nk : Int) := by omega
      rw [hnkI]
      have HNK : Hid (nk = i * k % 100) := Lib.hid (by rw [HIK.out, hnk])
      obtain ⟨xa, xb, d1, d2, d3, d4, d5, d6, d7⟩ := digits nk hnk1
      replace d7 := d7 wr
      obtain ⟨qa, hqa⟩ : ∃ x, nk / 10 = x := ⟨_, rfl⟩
      obtain ⟨ra, hra⟩ : ∃ x, nk % 10 = x := ⟨_, rfl⟩
      have hqa9 : qa ≤ 9 := by omega
      have hra9 : ra ≤ 9 := by omega
      rw [hqa] at d1 d3 d5
      rw [hra] at d2 d4 d6
      have hba := (Below.refl wr.heap.size wr).alloc (Nat.le_refl _) (.cells #[.int .u8 xa, .int .u8 xb] 5)
      have cPut := treePut_tr au nu cu l (keyN nk) (nk : Int) _ (hT.keep hba) (by simp [keyN]) ⟨by omega, by omega⟩
      have hstep := hK.step HGK.out hlt hT.rise.1
      rw [← HNK.out] at hstep
      rw [if_neg (by rw [hstep.len]; omega)] at cPut
      have hlen : ¬ 100 < (putR (keyN nk) (nk : Int) l).length := by rw [hstep.len]; omega
      have q1 := (hz.call hba).cell (j := 0) rfl
      obtain ⟨S, hSS⟩ : ∃ S, str (keyN nk) = S := ⟨_, rfl⟩
      rw [hSS] at d7 cPut
      have HSTEP := Lib.hid hstep
      have HLEN := Lib.hid hlen
      have HLOW := Lib.hid (And.intro hlow (And.intro hsz hz))
      have HBA := Lib.hid hba
      clear hnk hnk1 hnkI hqa hra hba hstep hlen hSS hlow hsz hz hT hK hmul hik hkl hS
      go_wp2_with fail
      refine cPut.mono ?_
      rintro e w4 ⟨a4, n4, c4, rfl, hgood, hb4⟩
      have HG4 := Lib.hid (hgood HLEN.out)
      have hb34 := below_stepE HBA.out HBA.out.size hb4
      have HB34 := Lib.hid hb34
      have hz4 := HLOW.out.2.2.call hb34
      have q5 := hz4.cell (j := 0) rfl
      have q6 := hz4.free 0
      have b9 : Blk _ _ _ [_] := Blk.new w4 #[.slice a4 n4 c4] 24
      have hb9 := (Below.refl w4.heap.size w4).alloc (Nat.le_refl _) (.cells #[.slice a4 n4 c4] 24)
      obtain ⟨w5, hw5⟩ : ∃ W, w4.alloc (.cells #[.slice a4 n4 c4] 24) = W := ⟨_, rfl⟩
      rw [hw5] at b9 hb9
      obtain ⟨m9, hm9⟩ : ∃ m, w4.heap.size = m := ⟨_, rfl⟩
      rw [hm9] at b9
      have HW5 := Lib.hid hw5
      have HM9 := Lib.hid hm9
      have HB9 := Lib.hid hb9
      have r0 := b9.cell (j := 0) rfl
      have r1 := (hz4.call hb9).cell (j := 0) rfl
      have r2 := (hz4.call hb9).free 0
      have HEND : Hid (FulS w m6 k (i + 1) (w5.setCell ⟨m6, 0, none⟩ (.slice a4 n4 c4))) := Lib.hid (by
        have h1 := HLOW.out
        have hb35 := below_stepE HB34.out HB34.out.size HB9.out
        refine ⟨(below_stepE h1.1 h1.1.size hb35).setCell (p := ⟨m6, 0, none⟩) HB2.out.2.1 _, by simpa [World.setCell] using Nat.le_trans h1.2.1 hb35.size, a4, n4, c4, _, (hz4.call hb9).set 0 _, HG4.out _ (fun b hb1 hb2 => ?_), HSTEP.out⟩
        have h2 := HBA.out.size
        rw [heap_setCell_other w5 ⟨m6, 0, none⟩ b _ (by show b ≠ m6; omega), HB9.out.block b hb2])
      clear cPut hgood hb4 hb34 hz4 q1 b9 hb9 hw5 hm9 q0
      go_upto_region 8 with fail
      rw [HW5.out, HM9.out]
      clear q5 q6
      go_wp2_with fail
      go_roundw
      case rel => exact ⟨i + 1, by omega, by go_num, HEND⟩
      case measure => simp [intOf]; omega
    · have hi100 : i = 100 := by omega
      have iI : ¬ (i : Int) < 100 := by omega
      obtain ⟨hlow, hsz, au, nu, cu, l, hz, hT, hK⟩ := hS.out
      obtain ⟨j, hj, hjn⟩ := HGK.out.all n hn1
      have hmem : (keyN n, (n : Int)) ∈ l := by
        have := hK.has j (by omega)
        unfold enK at this
        rw [hjn] at this
        exact this
      have hl100 : l.length = 100 := by rw [hK.len, hi100]
      have hr := hT.rise.1
      have hnox : ¬ ∃ e ∈ l, e.1 = [120] := by
        rintro ⟨e, he, h1⟩
        obtain ⟨j2, _, rfl⟩ := hK.of e he
        exact keyN_x _ (Nat.mod_lt _ (by decide)) h1
      have cX : ∀ W, Below wr.heap.size wr W → Calls Try.prog 17 #[.agg #[.slice au nu cu], .string ⟨#[120]⟩, .int .i64 1] W fun e w' => ∃ a n c, e = .returned (.tuple #[.agg #[.slice a n c], .int .i64 9]) ∧ Below W.heap.size W w' := fun W hW => by
        have := treePut_tr au nu cu l [120] 1 W (hT.keep hW) (by decide) ⟨by decide, by decide⟩
        rw [if_pos (by rw [putR_len _ _ _ hr, if_neg hnox, hl100]; decide)] at this
        refine this.mono ?_
        rintro e w' ⟨a, n, c, rfl, -, hb⟩
        exact ⟨a, n, c, rfl, hb⟩
      have cK : ∀ W, Below wr.heap.size wr W → Calls Try.prog 17 #[.agg #[.slice au nu cu], .string (str (keyN n)), .int .i64 1000] W fun e w' => ∃ a n c, e = .returned (.tuple #[.agg #[.slice a n c], .int .i64 0]) ∧ Below W.heap.size W w' := fun W hW => by
        have := treePut_tr au nu cu l (keyN n) 1000 W (hT.keep hW) (by simp [keyN]) ⟨by decide, by decide⟩
        rw [if_neg (by rw [putR_len _ _ _ hr, if_pos ⟨_, hmem, rfl⟩, hl100]; decide)] at this
        refine this.mono ?_
        rintro e w' ⟨a, n, c, rfl, -, hb⟩
        exact ⟨a, n, c, rfl, hb⟩
      have cF : ∀ W, Below wr.heap.size wr W → Calls Try.prog 15 #[.agg #[.slice au nu cu], .string (str (keyN n))] W fun e w' => e = .returned (.tuple #[.int .i64 (n : Int), .int .i64 0]) ∧ Below W.heap.size W w' := fun W hW => treeFind_tr au nu cu l (keyN n) n W (hT.keep hW) hmem
      have cC : ∀ W, Below wr.heap.size wr W → Calls Try.prog 13 #[.agg #[.slice au nu cu]] W fun e w' => e = .returned (.int .i64 0) ∧ Below W.heap.size W w' := fun W hW => treeCheck_tr au nu cu l W (hT.keep hW)
      obtain ⟨xa, xb, d1, d2, d3, d4, d5, d6, d7⟩ := digits n hn1
      replace d7 := d7 wr
      obtain ⟨qa, hqa⟩ : ∃ x, n / 10 = x := ⟨_, rfl⟩
      obtain ⟨ra, hra⟩ : ∃ x, n % 10 = x := ⟨_, rfl⟩
      have hqa9 : qa ≤ 9 := by omega
      have hra9 : ra ≤ 9 := by omega
      rw [hqa] at d1 d3 d5
      rw [hra] at d2 d4 d6
      obtain ⟨S, hSS⟩ : ∃ S, str (keyN n) = S := ⟨_, rfl⟩
      rw [hSS] at d7 cK cF
      have e1 : ((n : Int) == (n : Int)) = true := by simp
      have HZ := Lib.hid hz
      have HLOW := Lib.hid hlow
      have HCX := Lib.hid cX
      have HCK := Lib.hid cK
      have HCF := Lib.hid cF
      have HCC := Lib.hid cC
      have hba := (Below.refl wr.heap.size wr).alloc (Nat.le_refl _) (.cells #[.int .u8 xa, .int .u8 xb] 5)
      have HBA := Lib.hid hba
      have q1 := (hz.call hba).cell (j := 0) rfl
      have c1 := cX _ hba
      clear hi100 hlow hsz hz hT hK hmem hl100 hr hnox cX cK cF cC hqa hra hSS hj hjn hS hba
      go_wp2_with fail
      refine (cQ _).mono ?_
      rintro e w3 ⟨rfl, rfl⟩
      clear cQ
      go_wp2_with fail
      refine c1.mono ?_
      rintro e w4 ⟨a4, n4, c4, rfl, hb4⟩
      have hb34 := below_stepE HBA.out HBA.out.size hb4
      have hb35 := below_stepE hb34 hb34.size ((Below.refl w4.heap.size w4).alloc (Nat.le_refl _) (.cells #[.slice a4 n4 c4] 24))
      have HB35 := Lib.hid hb35
      have q2 := (HZ.out.call hb35).cell (j := 0) rfl
      have c2 := HCK.out _ hb35
      clear c1 q1 hb4 hb34 hb35
      go_wp2_with fail
      refine c2.mono ?_
      rintro e w5 ⟨a5, n5, c5, rfl, hb5⟩
      have hb36 := below_stepE HB35.out HB35.out.size hb5
      have hb37 := below_stepE hb36 hb36.size ((Below.refl w5.heap.size w5).alloc (Nat.le_refl _) (.cells #[.slice a5 n5 c5] 24))
      have HB37 := Lib.hid hb37
      have q3 := (HZ.out.call hb37).cell (j := 0) rfl
      have c3 := HCF.out _ hb37
      clear c2 q2 hb5 hb36 hb37
      go_wp2_with fail
      refine c3.mono ?_
      rintro e w6 ⟨rfl, hb6⟩
      have hb38 := below_stepE HB37.out HB37.out.size hb6
      have HB38 := Lib.hid hb38
      have q4 := (HZ.out.call hb38).cell (j := 0) rfl
      have c4 := HCC.out _ hb38
      clear c3 q3 hb6 hb38
      go_wp2_with fail
      refine c4.mono ?_
      rintro e w7 ⟨rfl, hb7⟩
      have HB9 := Lib.hid (below_stepE HLOW.out HLOW.out.size (below_stepE HB38.out HB38.out.size hb7))
      clear c4 q4 hb7
      go_wp2_with fail
      go_ret
      exact ⟨rfl, HB9.out⟩
end Go.Proofs.Ytpefojmjllgfdaa
