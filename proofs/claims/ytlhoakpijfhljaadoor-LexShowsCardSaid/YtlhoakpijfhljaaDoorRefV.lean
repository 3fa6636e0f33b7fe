/-
  CONTRACT of the reference's tokenText.
  CONDITIONS: each theorem's own hypotheses.
-/
import Derived.Test.YtlhoakpijfhljaaDoorShowT
import Derived.Test.YtlhoakpijfhljaaDoorRefU
namespace Go.Proofs.YtlhoakpijfhljaaDoor
open Go.RowKit
set_option linter.unusedVariables false
set_option maxRecDepth 100000

theorem bodyQ_step (l : List UInt8) (j : Nat) (c : UInt8) (h : l[j]? = some c) : bodyQ (l.take (j + 1)) = bodyQ (l.take j) ++ (if c = 39 then [39, 39] else [c]) := by
  obtain ⟨hj, he⟩ := List.getElem?_eq_some_iff.1 h
  rw [List.take_succ_eq_append_getElem hj, he]
  simp [bodyQ, List.flatMap_append]
set_option maxHeartbeats 4000000 in
theorem text_quote (s : List UInt8) (i b : Int) (w : World) (hs : s.length ≤ 40) :
    Calls Tryd.prog 13 #[.agg #[.int .i64 4, .string (str s), .int .i64 i, .int .u64 b]] w fun e w' => e = .returned (.string (str (39 :: bodyQ s ++ [39]))) ∧ Below w.heap.size w w' := by
  have hfin : ⟨#[39]⟩ ++ str (bodyQ s) ++ ⟨#[39]⟩ = str (39 :: bodyQ s ++ [39]) := by rw [show (39 :: bodyQ s ++ [39]) = ([39] ++ bodyQ s) ++ [39] by simp, ← str_append, ← str_append]; rfl
  have hbl := bodyQ_len s
  have hsz := str_size s
  obtain ⟨n, hn⟩ : ∃ n, s.length = n := ⟨_, rfl⟩
  have hcut := fun (j : Nat) (h : j + 1 ≤ s.length) (x y : Int) (hx : x = j) (hy : y = ((j + 1 : Nat) : Int)) W => cut_str s j (j + 1) x y hx hy (by omega) h W
  obtain ⟨S, hS⟩ : ∃ S, str s = S := ⟨_, rfl⟩
  have hget : ∀ j (h : j < S.size) (h' : j < s.length), S[j] = s[j] := by subst hS; exact fun j h h' => rfl
  rw [hS] at hsz hcut ⊢
  rw [hn] at hs hsz hbl
  have hszI : (S.size : Int) = (n : Int) := by omega
  generalize str (39 :: bodyQ s ++ [39]) = F at *
  have HF := Lib.hid hfin
  have HC := Lib.hid hcut
  have HG := Lib.hid hget
  have HN := Lib.hid hn
  have HSZ := Lib.hid hsz
  obtain ⟨w2, hw2⟩ : ∃ w2, w.alloc (.cells #[.int .i64 4, .string S, .int .i64 i, .int .u64 b] 33) = w2 := ⟨_, rfl⟩
  have hb2 : Below w.heap.size w w2 := by rw [← hw2]; exact (Below.refl _ _).alloc (Nat.le_refl _) _
  have p0 : w2.cell? ⟨w.heap.size, 0, none⟩ = some (.int .i64 4) := by rw [← hw2]; simp
  have p1 : w2.cell? ⟨w.heap.size, 1, none⟩ = some (.string S) := by rw [← hw2]; simp
  clear hfin hcut hget hn hS hsz
  go_enter Tryd.func13, Tryd.ntmps13
  go_upto_region 1 with fail
  try rw [hw2]
  clear hw2
  go_wp2_with fail
  go_loopw [3, 4] (fun x i wr => ∃ j : Nat, j ≤ n ∧ i = .int .i64 j ∧ x = .string (str (bodyQ (s.take j))) ∧ wr = w2) (fun _ i _ => n - (intOf i).toNat)
  case atStart => exact ⟨0, Nat.zero_le _, rfl, rfl, rfl⟩
  case round =>
    obtain ⟨j, hj, rfl, rfl, rfl⟩ := hrel
    have hbj := bodyQ_len (s.take j)
    by_cases hlt : j < n
    · have iI : (j : Int) < (n : Int) := by omega
      have hjl : j < s.length := by rw [HN.out]; exact hlt
      have hjs : j < S.size := by rw [HSZ.out]; exact hlt
      have hc1 := fun W => HC.out j (by omega) (j : Int) ((j : Int) + 1) rfl (by omega) W
      have ec : (s.drop j).take (j + 1 - j) = [s[j]] := by
        rw [List.drop_eq_getElem_cons hjl, show j + 1 - j = 1 by omega]; rfl
      rw [ec] at hc1
      have hst := bodyQ_step s j _ (List.getElem?_eq_getElem hjl)
      have hgI := HG.out j hjs hjl
      have hsz1 : (str (bodyQ (s.take j))).size ≤ 80 := by rw [str_size]; rw [List.length_take] at hbj; omega
      have hsz2 : (str [s[j]]).size = 1 := by rw [str_size]; rfl
      by_cases h39 : s[j] = 39
      · rw [if_pos h39] at hst
        have hx : str (bodyQ (s.take j)) ++ str [s[j]] ++ ⟨#[39]⟩ = str (bodyQ (s.take (j + 1))) := by rw [hst, h39, str_append, show (⟨#[39]⟩ : ByteArray) = str [39] from rfl, str_append]; simp
        have hb : ((S[j].toNat : Int) == 39) = true := by rw [hgI, h39]; rfl
        have HX := Lib.hid hx
        generalize str (bodyQ (s.take j)) = A at *
        generalize str [s[j]] = C at *
        clear hst hgI h39 ec hbj hx
        go_wp2_with fail
        go_roundw
        case rel => exact ⟨j + 1, by omega, by go_num, by rw [← HX.out], by first | rfl | trivial⟩
        case measure => simp [intOf]; omega
      · rw [if_neg h39] at hst
        have hx : str (bodyQ (s.take j)) ++ str [s[j]] = str (bodyQ (s.take (j + 1))) := by rw [hst, str_append]
        have hb : ((S[j].toNat : Int) == 39) = false := by
          rw [hgI]
          have : ¬ s[j].toNat = 39 := fun e => h39 (by have h2 := UInt8.ofNat_toNat (x := s[j]); rw [e] at h2; exact h2.symm)
          simpa using (fun e => this (by omega))
        have HX := Lib.hid hx
        generalize str (bodyQ (s.take j)) = A at *
        generalize str [s[j]] = C at *
        clear hst hgI h39 ec hbj hx
        go_wp2_with fail
        go_roundw
        case rel => exact ⟨j + 1, by omega, by go_num, by rw [← HX.out], by first | rfl | trivial⟩
        case measure => simp [intOf]; omega
    · have iI : ¬ (j : Int) < (n : Int) := by omega
      obtain rfl : j = n := by omega
      have hta : s.take j = s := List.take_of_length_le (by rw [HN.out]; exact Nat.le_refl _)
      rw [hta]
      have hsz1 : (str (bodyQ s)).size ≤ 80 := by rw [str_size]; omega
      have hf := HF.out
      generalize str (bodyQ s) = A at *
      clear hta hbj
      go_wp2_with fail
      go_ret
      exact ⟨by rw [← hf]; rfl, hb2⟩
theorem hexAll_app : ∀ (f u : Nat) (t : List UInt8), hexAll f u t = hexAll f u [] ++ t
  | 0, u, t => rfl
  | f + 1, u, t => by
    simp only [hexAll]
    rw [hexAll_app f (u / 16) (hexD (u % 16) :: t), hexAll_app f (u / 16) [hexD (u % 16)]]
    simp
theorem hexAll_at : ∀ (f u : Nat) (t : List UInt8) (j : Nat), j ≤ f → (hexAll f u t)[j]? = some (hexD (u / 16 ^ (f - j) % 16))
  | 0, u, t, j, h => by
    obtain rfl : j = 0 := by omega
    simp [hexAll]
  | f + 1, u, t, j, h => by
    simp only [hexAll]
    by_cases hj : j ≤ f
    · rw [hexAll_at f (u / 16) _ j hj, Nat.div_div_eq_div_mul, show f + 1 - j = (f - j) + 1 by omega, Nat.pow_succ, Nat.mul_comm]
    · obtain rfl : j = f + 1 := by omega
      rw [hexAll_app, List.getElem?_append_right (by rw [hexAll_len]; simp), hexAll_len]
      simp
theorem and_15i (n : Int) : bits .and .i64 n 15 = n % 16 := by
  have h127 : (BitVec.ofInt 64 15).toNat = 2 ^ 4 - 1 := by decide
  have key : (BitVec.ofInt 64 n &&& BitVec.ofInt 64 15).toNat = (n % ((2 ^ 64 : Nat) : Int)).toNat % 2 ^ 4 := by
    rw [BitVec.toNat_and, BitVec.toNat_ofInt, h127, Nat.and_two_pow_sub_one_eq_mod]
  show IntKind.i64.wrap ((BitVec.ofInt 64 n &&& BitVec.ofInt 64 15).toNat : Nat) = n % 16
  rw [key, IntKind.wrap_i64]
  omega
theorem wrap_16 (z : Nat) : bits .and .i64 (wrap64 (z : Int)) 15 = ((z % 16 : Nat) : Int) := by
  rw [and_15i]
  unfold wrap64
  omega
theorem hex_cut (v : Nat) (h : v < 16) (x y : Int) (hx : x = v) (hy : y = v + 1) (w : World) : (Instr.slice 9 (.string ⟨#[48, 49, 50, 51, 52, 53, 54, 55, 56, 57, 97, 98, 99, 100, 101, 102]⟩) (some (.int .i64 x)) (some (.int .i64 y)) none).run Tryd.prog w = .ok (.string (str [hexD v])) w := by
  have h1 := cut_str hexL16 v (v + 1) x y hx (by rw [hy]; rfl) (by omega) (by show v + 1 ≤ 16; omega) w
  have e : (hexL16.drop v).take (v + 1 - v) = [hexD v] := by
    have : ∀ v : Fin 16, (hexL16.drop v.val).take (v.val + 1 - v.val) = [hexD v.val] := by decide
    exact this ⟨v, h⟩
  rw [e] at h1
  exact h1
/-- The first k of sixteen hexadecimal digits. -/
def hexK (b k : Nat) : List UInt8 := (hex16 b).take k
set_option maxHeartbeats 4000000 in
theorem text_hex (s : ByteArray) (i : Int) (b : Nat) (w : World) (hb : b < 18446744073709551616) :
    Calls Tryd.prog 13 #[.agg #[.int .i64 5, .string s, .int .i64 i, .int .u64 b]] w fun e w' => e = .returned (.string (str (35 :: hex16 b))) ∧ Below w.heap.size w w' := by
  have hbI : (b : Int) < 18446744073709551616 := by omega
  obtain ⟨w2, hw2⟩ : ∃ w2, w.alloc (.cells #[.int .i64 5, .string s, .int .i64 i, .int .u64 b] 33) = w2 := ⟨_, rfl⟩
  have hb2 : Below w.heap.size w w2 := by rw [← hw2]; exact (Below.refl _ _).alloc (Nat.le_refl _) _
  have p0 : w2.cell? ⟨w.heap.size, 0, none⟩ = some (.int .i64 5) := by rw [← hw2]; simp
  have p3 : w2.cell? ⟨w.heap.size, 3, none⟩ = some (.int .u64 b) := by rw [← hw2]; simp
  go_enter Tryd.func13, Tryd.ntmps13
  go_upto_region 1 with fail
  try rw [hw2]
  clear hw2
  go_wp2_with fail
  go_loopw [5, 6] (fun x i wr => ∃ j : Nat, j ≤ 16 ∧ i = .int .i64 (60 - 4 * (j : Int)) ∧ x = .string (str (hexK b j)) ∧ wr = w2) (fun _ i _ => (intOf i + 4).toNat)
  case atStart => exact ⟨0, Nat.zero_le _, rfl, rfl, rfl⟩
  case round =>
    obtain ⟨j, hj, rfl, rfl, rfl⟩ := hrel
    by_cases hlt : j < 16
    · have i0 : 0 ≤ 60 - 4 * (j : Int) := by omega
      have i1 : 60 - 4 * (j : Int) ≤ 60 := by omega
      have hv16 : b / 16 ^ (15 - j) % 16 < 16 := Nat.mod_lt _ (by decide)
      have hd : bits .and .i64 (wrap64 ((b : Int) / 2 ^ (60 - 4 * (j : Int)).toNat)) 15 = ((b / 16 ^ (15 - j) % 16 : Nat) : Int) := by
        have e1 : (60 - 4 * (j : Int)).toNat = 4 * (15 - j) := by omega
        have e2 : (2 : Int) ^ (4 * (15 - j)) = ((16 ^ (15 - j) : Nat) : Int) := by
          rw [Int.pow_mul]; push_cast; rfl
        have e3 : (b : Int) / ((16 ^ (15 - j) : Nat) : Int) = ((b / 16 ^ (15 - j) : Nat) : Int) := by rw [Int.natCast_ediv]
        rw [e1, e2, e3, wrap_16]
      have hst : hexK b (j + 1) = hexK b j ++ [hexD (b / 16 ^ (15 - j) % 16)] := by
        unfold hexK hex16
        rw [List.take_add_one, hexAll_at 15 b [] j (by omega)]; rfl
      have hx : str (hexK b j) ++ str [hexD (b / 16 ^ (15 - j) % 16)] = str (hexK b (j + 1)) := by rw [hst, str_append]
      have hz1 : (str (hexK b j)).size ≤ 16 := by rw [str_size]; unfold hexK; rw [List.length_take]; omega
      have hz2 : (str [hexD (b / 16 ^ (15 - j) % 16)]).size = 1 := by rw [str_size]; rfl
      obtain ⟨D, hD⟩ : ∃ D : Int, ((b / 16 ^ (15 - j) % 16 : Nat) : Int) = D := ⟨_, rfl⟩
      have hc := fun W => hex_cut _ hv16 D (D + 1) hD.symm (by rw [hD]) W
      have hD0 : 0 ≤ D := by omega
      have hD1 : D < 16 := by omega
      rw [hD] at hd
      have HX := Lib.hid hx
      have hnext : 60 - 4 * ((j + 1 : Nat) : Int) = 60 - 4 * (j : Int) - 4 := by omega
      have HNX := Lib.hid hnext
      generalize str (hexK b j) = A at *
      generalize str [hexD (b / 16 ^ (15 - j) % 16)] = C at *
      generalize 60 - 4 * (j : Int) = q at *
      clear hx hst hD hv16 hnext
      go_wp2_with fail
      go_roundw
      case rel => exact ⟨j + 1, by omega, by rw [HNX.out], by rw [← HX.out], by first | rfl | trivial⟩
      case measure => simp [intOf]; omega
    · obtain rfl : j = 16 := by omega
      have hk : hexK b 16 = hex16 b := by unfold hexK; rw [List.take_of_length_le]; unfold hex16; rw [hexAll_len]; simp
      rw [hk]
      have hf : ⟨#[35]⟩ ++ str (hex16 b) = str (35 :: hex16 b) := by rw [show (35 :: hex16 b) = [35] ++ hex16 b from rfl, ← str_append]; rfl
      have hz1 : (str (hex16 b)).size ≤ 16 := by rw [str_size]; unfold hex16; rw [hexAll_len]; simp
      have HF := Lib.hid hf
      generalize str (hex16 b) = A at *
      clear hk hf
      go_wp2_with fail
      go_ret
      exact ⟨by rw [← HF.out]; rfl, hb2⟩
end Go.Proofs.YtlhoakpijfhljaaDoor
