/-
  CONTRACTS of the reference's big and valueBytes, and of strings.ReplaceAll at a zero byte.
  CONDITIONS: each theorem's own hypotheses.
-/
import Derived.Test.YtjllecmlabodaabDoorRefA
import Derived.Test.YtjllecmlabodaabDoorShelfR
import Derived.Lib.Replace
namespace Go.Proofs.YtjllecmlabodaabDoor
open Go.RowKit CodeMath
set_option linter.unusedVariables false

/-! ### plain: each zero byte replaced -/
theorem index_zero : ∀ l : List UInt8, Lib.index l [0] = -1 → ∀ c ∈ l, c ≠ 0
  | [], _, c, hc => by cases hc
  | b :: l, h, c, hc => by
    unfold Lib.index at h
    have hge := Lib.index_ge l [0]
    by_cases hb : b = 0
    · subst hb; simp [List.isPrefixOf] at h
    · have hp : ([0] : List UInt8).isPrefixOf (b :: l) = false := by simp [List.isPrefixOf]; exact fun e => hb e.symm
      rw [hp] at h
      simp only [Bool.false_eq_true, if_false] at h
      by_cases hi : Lib.index l [0] = -1
      · rcases List.mem_cons.1 hc with rfl | hc
        · exact hb
        · exact index_zero l hi c hc
      · rw [if_neg (by simpa using hi)] at h
        omega
theorem esc_none : ∀ l : List UInt8, (∀ c ∈ l, c ≠ 0) → esc l = l
  | [], _ => rfl
  | c :: l, h => by
    have := esc_none l (fun x hx => h x (by simp [hx]))
    simp only [esc]
    rw [if_neg (h c (by simp)), this]
theorem esc_hit : ∀ (l : List UInt8) (i : Nat), Lib.index l [0] = i → esc l = l.take i ++ [0, 255] ++ esc (l.drop (i + 1)) ∧ i < l.length
  | [], i, h => by simp [Lib.index] at h
  | b :: l, i, h => by
    unfold Lib.index at h
    by_cases hb : b = 0
    · subst hb
      have hp : ([0] : List UInt8).isPrefixOf ((0 : UInt8) :: l) = true := by simp [List.isPrefixOf]
      rw [hp, if_pos rfl] at h
      obtain rfl : i = 0 := by omega
      simp [esc]
    · have hp : ([0] : List UInt8).isPrefixOf (b :: l) = false := by simp [List.isPrefixOf]; exact fun e => hb e.symm
      rw [hp] at h
      simp only [Bool.false_eq_true, if_false] at h
      have hge := Lib.index_ge l [0]
      by_cases hi : Lib.index l [0] = -1
      · rw [if_pos (by simpa using hi)] at h; omega
      · rw [if_neg (by simpa using hi)] at h
        obtain ⟨j, hj⟩ : ∃ j : Nat, Lib.index l [0] = j := ⟨(Lib.index l [0]).toNat, by omega⟩
        obtain ⟨h1, h2⟩ := esc_hit l j hj
        obtain rfl : i = j + 1 := by omega
        refine ⟨?_, by simp; omega⟩
        simp only [esc, if_neg hb]
        rw [h1]
        simp
theorem replaceK_esc : ∀ (k : Nat) (l : List UInt8), Lib.count l [0] ≤ k → Lib.replaceK [0] [0, 255] k l = esc l
  | 0, l, h => by
    show l = esc l
    refine (esc_none l (index_zero l ?_)).symm
    have hge := Lib.index_ge l [0]
    by_cases hi : Lib.index l [0] = -1
    · exact hi
    · obtain ⟨j, hj⟩ : ∃ j : Nat, Lib.index l [0] = j := ⟨(Lib.index l [0]).toNat, by omega⟩
      have := Lib.count_hit (s := l) (sub := [0]) (i := j) (by simp) hj
      omega
  | k + 1, l, h => by
    have hge := Lib.index_ge l [0]
    by_cases hi : Lib.index l [0] = -1
    · rw [Lib.replaceK, if_pos (by simpa using hi)]
      exact (esc_none l (index_zero l hi)).symm
    · obtain ⟨j, hj⟩ : ∃ j : Nat, Lib.index l [0] = j := ⟨(Lib.index l [0]).toNat, by omega⟩
      have hc := Lib.count_hit (s := l) (sub := [0]) (i := j) (by simp) hj
      rw [Lib.replaceK_hit _ _ k l j hj, (esc_hit l j hj).1]
      congr 1
      exact replaceK_esc k _ (by simp only [List.length_cons, List.length_nil] at hc ⊢; omega)
theorem replaceAll_esc (l : List UInt8) : Lib.replaceAll l [0] [0, 255] = esc l := by
  unfold Lib.replaceAll Lib.replace
  rw [if_neg (by decide)]
  refine replaceK_esc _ l ?_
  unfold Lib.replaceNum
  rw [if_pos (by omega)]
  exact Nat.le_refl _

/-- Package bytealg's variable MaxLen holds some number. -/
def MaxL (w : World) : Prop := ∃ m, w.cell? ⟨Tryd.laysRep_ren.g 1, 0, none⟩ = some (.int .i64 m)
theorem MaxL.keep {w w1 : World} (h : MaxL w) (hb : Below w.heap.size w w1) : MaxL w1 := by
  obtain ⟨m, hm⟩ := h
  exact ⟨m, (hb.cell (p := ⟨Tryd.laysRep_ren.g 1, 0, none⟩) (World.block_lt_of_cell? _ _ hm)).trans hm⟩
theorem repX : Builder.Extra Tryd.prog Tryd.laysRep_ren := {
  sizeBuilder := by kernel_rfl
  liesBuilder := by kernel_rfl
  t5 := Tryd.underlying5
  a5 := Tryd.isAgg5
  z5 := Tryd.sizeOf5
  v5 := Tryd.zeroValue5
  infoByte := by kernel_rfl
  cellsByte := by kernel_rfl
  sizeByte := by kernel_rfl
  neB5 := by decide }
theorem replace_any (l : List UInt8) (w : World) (hl : l.length ≤ 40) (hM : MaxL w) :
    Calls Tryd.prog 46 #[.string (str l), .string (str [0]), .string (str [0, 255])] w fun e w' => e = .returned (.string (str (esc l))) ∧ Below w.heap.size w w' := by
  obtain ⟨m, hm⟩ := hM
  have hcb : Lib.countB (str l) (str [0]) ≤ l.length := by
    have := Lib.countB_mul_le (str [0]) (by simp [str_size]) (str l).size (str l) (Nat.le_refl _)
    rw [str_size, str_size] at this
    simpa using this
  have h := Any.strings_ReplaceAll { Tryd.laysRep with } repX (str l) (str [0]) (str [0, 255]) m w (by rw [str_size]; omega) hm (by simp [str_size]) (by rw [str_size, str_size]; simp only [List.length_cons, List.length_nil]; omega)
  refine h.mono ?_
  rintro e w' ⟨rfl, hb⟩
  refine ⟨?_, hb⟩
  rw [str_data, str_data, str_data, replaceAll_esc]
  rfl

/-! ### the reference's -/
theorem str1_append (c : UInt8) (l : List UInt8) : str [c] ++ str l = str (c :: l) := by rw [str_append]; rfl
theorem div256 (n : Int) (t : Nat) : n / 256 ^ t / 256 = n / 256 ^ (t + 1) := by
  have := @Int.ediv_ediv n (256 ^ t) 256
  have h := pow_pos' t
  rw [if_neg (by omega)] at this
  rw [Int.pow_succ]; omega
theorem div_range (n : Int) (t : Nat) (h0 : 0 ≤ n) (h1 : n ≤ 18446744073709551615) : 0 ≤ n / 256 ^ t ∧ n / 256 ^ t ≤ 18446744073709551615 :=
  ⟨Int.ediv_nonneg h0 (Int.le_of_lt (pow_pos' t)), Int.le_trans (Int.ediv_le_self _ h0) h1⟩
theorem conv1x (W : World) (g : Nat) (x : Int) (c : UInt8) (hg : g = W.heap.size) (hx : x = (c.toNat : Int)) : (convert 23 9 (.slice (some ⟨g, 0, none⟩) 1 1)).run Tryd.prog (W.alloc (.cells #[.int .u8 x] 5)) = .ok (.string (str [c])) (W.alloc (.cells #[.int .u8 x] 5)) := by
  subst hg hx
  exact run_convert_bytes_back (P := Tryd.prog) _ 23 9 5 ⟨W.heap.size, 0, none⟩ 1 [c] Tryd.underlying23 Tryd.underlying5 Tryd.underlying9 (fun j hj => by
    obtain rfl : j = 0 := by simp at hj; exact hj
    show (W.alloc (.cells #[.int .u8 (c.toNat : Int)] 5)).cell? ⟨W.heap.size, 0, none⟩ = _
    rw [World.cell?_alloc_new]
    rfl)
theorem conv1 (W : World) (q : Int) : (convert 23 9 (.slice (some ⟨W.heap.size, 0, none⟩) 1 1)).run Tryd.prog (W.alloc (.cells #[.int .u8 (q % 256)] 5)) = .ok (.string (str [lowB q])) (W.alloc (.cells #[.int .u8 (q % 256)] 5)) :=
  conv1x W _ _ (lowB q) rfl (lowB_toNat q).symm
set_option maxRecDepth 100000 in
set_option maxHeartbeats 1000000 in
theorem big_any (n : Int) (w : World) (h0 : 0 ≤ n) (h1 : n ≤ 18446744073709551615) :
    Calls Tryd.prog 44 #[.int .u64 n, .int .i64 8] w fun e w' => e = .returned (.string (str (be n 8))) ∧ Below w.heap.size w w' := by
  go_enter Tryd.func44, Tryd.ntmps44
  go_wp2
  go_loopw [0, 5, 7] (fun x s i wr => ∃ (t : Nat) (q : Int), t ≤ 8 ∧ i = .int .i64 t ∧ Hid (q = n / 256 ^ t) ∧ x = .int .u64 q ∧ s = .string (str (be n t)) ∧ Below w.heap.size w wr) (fun _ _ i _ => 8 - (intOf i).toNat)
  case atStart => exact ⟨0, n, Nat.zero_le _, rfl, Lib.hid (by simp), rfl, rfl, Below.refl _ _⟩
  case round =>
    obtain ⟨t, q, ht, rfl, hq, rfl, rfl, hbw⟩ := hrel
    have hr := div_range n t h0 h1
    rw [← hq.out] at hr
    have q0 := hr.1
    have q1 := hr.2
    by_cases h8 : t < 8
    · obtain ⟨S, hS⟩ : ∃ S, str (be n t) = S := ⟨_, rfl⟩
      rw [hS]
      have hcv := conv1 wr q
      have happ : str [lowB q] ++ S = str (be n (t + 1)) := by
        rw [← hS, hq.out]; exact str1_append _ _
      have hsz : ¬ 9223372036854775807 < (str [lowB q]).size + S.size := by rw [← hS, str_size, str_size, be_length]; simp; omega
      obtain ⟨B, hB⟩ : ∃ B, str [lowB q] = B := ⟨_, rfl⟩
      obtain ⟨S2, hS2⟩ : ∃ S2, str (be n (t + 1)) = S2 := ⟨_, rfl⟩
      rw [hB] at hcv happ hsz
      rw [hS2] at happ
      have HS2 := Lib.hid hS2
      have hq2 : Hid (q / 256 = n / 256 ^ (t + 1)) := by have := hq.out; show q / 256 = _; rw [this, div256]
      clear hS hB hS2
      go_wp2
      go_roundw
      case rel => exact ⟨t + 1, q / 256, by omega, by go_num, hq2, rfl, by rw [HS2.out], hbw.alloc hbw.size _⟩
      case measure => simp [intOf]; omega
    · have ht8 : t = 8 := by omega
      subst ht8
      go_wp2
      go_ret
      exact ⟨rfl, hbw⟩

theorem esc_len : ∀ l : List UInt8, (esc l).length ≤ 2 * l.length
  | [] => by simp [esc]
  | c :: l => by
    have := esc_len l
    simp only [esc]
    split <;> simp <;> omega
theorem str_bytes (s : ByteArray) : str s.data.toList = s := (str_eq s).symm
set_option maxRecDepth 100000 in
set_option maxHeartbeats 2000000 in
theorem valueBytes_any (k i b : Int) (s : ByteArray) (w : World) (hf : V.Fits ⟨k, i, b, s⟩) (hg : V.chk ⟨k, i, b, s⟩ = 0) (hM : MaxL w) :
    Calls Tryd.prog 27 #[.agg #[.int .i64 k, .int .i64 i, .int .u64 b, .string s]] w fun e w' => e = .returned (.string (str (enc ⟨k, i, b, s.data.toList⟩))) ∧ Below w.heap.size w w' := by
  have hF := facts_of ⟨k, i, b, s⟩ hf hg
  have i0 : -9223372036854775808 ≤ i := hf.i0
  have i1 : i ≤ 9223372036854775807 := hf.i1
  have b0 : 0 ≤ b := hf.b0
  have b1 : b ≤ 18446744073709551615 := hf.b1
  have hs40 : s.data.toList.length ≤ 40 := hF.s40
  have hbool : k = 1 → i = 0 ∨ i = 1 := hF.bool
  have hkk := kinds ⟨k, i, b, s.data.toList⟩ hF
  clear hF hf hg
  rcases hkk with hk | hk | hk | hk | hk <;> (simp only at hk; subst hk)
  · have h := enc0 ⟨0, i, b, s.data.toList⟩ rfl
    rw [h]
    go_enter Tryd.func27, Tryd.ntmps27
    go_wp2
    go_ret
    exact ⟨rfl, (Below.refl _ _).alloc (Nat.le_refl _) _⟩
  · have h := enc1 ⟨1, i, b, s.data.toList⟩ rfl
    rw [h]
    have hi1 : i = 0 ∨ i = 1 := hbool rfl
    have hcv := conv1x (w.alloc (.cells #[.int .i64 1, .int .i64 i, .int .u64 b, .string s] 40)) (w.heap.size + 1) i (lowB i) (by simp) (by rw [lowB_toNat]; omega)
    obtain ⟨B, hB⟩ : ∃ B, str [lowB i] = B := ⟨_, rfl⟩
    have hsz : ¬ 9223372036854775807 < 1 + B.size := by rw [← hB, str_size]; simp
    have happ : (⟨#[2]⟩ : ByteArray) ++ B = str [2, lowB i] := by rw [← hB]; exact str1_append 2 [lowB i]
    rw [hB] at hcv
    obtain ⟨S2, hS2⟩ : ∃ S2, str [2, lowB i] = S2 := ⟨_, rfl⟩
    rw [hS2] at happ
    show Calls _ _ _ _ fun e w' => e = .returned (.string (str [2, lowB i])) ∧ _
    rw [hS2]
    clear hB hS2 h hM
    go_enter Tryd.func27, Tryd.ntmps27
    go_wp2
    go_ret
    exact ⟨rfl, ((Below.refl _ _).alloc (Nat.le_refl _) _).alloc (by simp) _⟩
  · have h := enc2 ⟨2, i, b, s.data.toList⟩ rfl
    rw [h]
    show Calls _ _ _ _ fun e w' => e = .returned (.string (str (3 :: be (i + CodeMath.two63) 8))) ∧ _
    have e : IntKind.u64.wrap (IntKind.u64.wrap i + 9223372036854775808) = i + CodeMath.two63 := by
      rw [IntKind.wrap_u64, IntKind.wrap_u64]; unfold CodeMath.two63; omega
    have r0 : 0 ≤ i + CodeMath.two63 := by unfold CodeMath.two63; omega
    have r1 : i + CodeMath.two63 ≤ 18446744073709551615 := by unfold CodeMath.two63; omega
    have cB : ∀ w, Calls Tryd.prog 44 #[.int .u64 (IntKind.u64.wrap (IntKind.u64.wrap i + 9223372036854775808)), .int .i64 8] w fun e w' => e = .returned (.string (str (be (i + CodeMath.two63) 8))) ∧ Below w.heap.size w w' := fun w => by rw [e]; exact big_any _ w r0 r1
    have hlen := be_length (i + CodeMath.two63) 8
    generalize be (i + CodeMath.two63) 8 = L at cB hlen ⊢
    have hsz : ¬ 9223372036854775807 < 1 + (str L).size := by rw [str_size]; omega
    have happ : (⟨#[3]⟩ : ByteArray) ++ str L = str (3 :: L) := str1_append 3 L
    generalize str L = B at cB hsz happ
    generalize str (3 :: L) = S2 at happ ⊢
    clear h hM hlen e r0 r1 hbool
    go_enter Tryd.func27, Tryd.ntmps27
    go_wp2_with fail
    refine (cB _).mono ?_
    rintro e w1 ⟨rfl, hb⟩
    have hbw := ((Below.refl w.heap.size w).alloc (Nat.le_refl _) (.cells #[.int .i64 2, .int .i64 i, .int .u64 b, .string s] 40)).trans (hb.mono (by simp))
    go_wp2_with fail
    go_ret
    exact ⟨rfl, hbw⟩
  · have h := enc3 ⟨3, i, b, s.data.toList⟩ rfl
    rw [h]
    show Calls _ _ _ _ fun e w' => e = .returned (.string (str (4 :: be (up64 b) 8))) ∧ _
    have e : risen b = up64 b := by unfold up64 risen CodeMath.two63 CodeMath.two64; split <;> omega
    have hr := up64_range b b0 b1
    unfold CodeMath.two64 at hr
    have cR : ∀ w, Calls Tryd.prog 45 #[.int .u64 b] w fun e w' => e = .returned (.int .u64 (up64 b)) ∧ w = w' := fun w => by rw [← e]; exact risen_any b w b0 b1
    have cB := fun w => big_any (up64 b) w hr.1 (by omega)
    have hlen := be_length (up64 b) 8
    generalize be (up64 b) 8 = L at cB hlen ⊢
    have hsz : ¬ 9223372036854775807 < 1 + (str L).size := by rw [str_size]; omega
    have happ : (⟨#[4]⟩ : ByteArray) ++ str L = str (4 :: L) := str1_append 4 L
    generalize str L = B at cB hsz happ
    generalize str (4 :: L) = S2 at happ ⊢
    generalize up64 b = u at cB cR
    clear h hM hlen e hr hbool
    go_enter Tryd.func27, Tryd.ntmps27
    go_wp2_with fail
    refine (cR _).mono ?_
    rintro e w1 ⟨rfl, rfl⟩
    go_wp2_with fail
    refine (cB _).mono ?_
    rintro e w1 ⟨rfl, hb⟩
    have hbw := ((Below.refl w.heap.size w).alloc (Nat.le_refl _) (.cells #[.int .i64 3, .int .i64 i, .int .u64 b, .string s] 40)).trans (hb.mono (by simp))
    go_wp2_with fail
    go_ret
    exact ⟨rfl, hbw⟩
  · have h := enc4 ⟨4, i, b, s.data.toList⟩ rfl
    rw [h]
    show Calls _ _ _ _ fun e w' => e = .returned (.string (str (5 :: (esc s.data.toList ++ [0, 1])))) ∧ _
    have cR : ∀ w, MaxL w → Calls Tryd.prog 46 #[.string s, .string ⟨#[0]⟩, .string ⟨#[0, 255]⟩] w fun e w' => e = .returned (.string (str (esc s.data.toList))) ∧ Below w.heap.size w w' := fun w hM => by
      have := replace_any s.data.toList w hs40 hM
      rw [← str_eq] at this
      exact this
    have hM1 : MaxL (w.alloc (.cells #[.int .i64 4, .int .i64 i, .int .u64 b, .string s] 40)) := hM.keep ((Below.refl w.heap.size w).alloc (Nat.le_refl _) _)
    have hlen := esc_len s.data.toList
    generalize esc s.data.toList = L at cR hlen ⊢
    have hsz : ¬ 9223372036854775807 < 1 + (str L).size := by rw [str_size]; omega
    have happ : (⟨#[5]⟩ : ByteArray) ++ str L = str (5 :: L) := str1_append 5 L
    have hsz2 : ¬ 9223372036854775807 < (str (5 :: L)).size + 2 := by rw [str_size, List.length_cons]; omega
    have happ2 : str (5 :: L) ++ (⟨#[0, 1]⟩ : ByteArray) = str (5 :: (L ++ [0, 1])) := str_append (5 :: L) [0, 1]
    generalize str L = B at cR hsz happ
    generalize str (5 :: L) = S1 at happ hsz2 happ2
    generalize str (5 :: (L ++ [0, 1])) = S2 at happ2 ⊢
    clear h hM hlen hbool
    go_enter Tryd.func27, Tryd.ntmps27
    go_wp2_with fail
    refine (cR _ hM1).mono ?_
    rintro e w1 ⟨rfl, hb⟩
    have hbw := ((Below.refl w.heap.size w).alloc (Nat.le_refl _) (.cells #[.int .i64 4, .int .i64 i, .int .u64 b, .string s] 40)).trans (hb.mono (by simp))
    go_wp2_with fail
    go_ret
    exact ⟨rfl, hbw⟩
end Go.Proofs.YtjllecmlabodaabDoor
