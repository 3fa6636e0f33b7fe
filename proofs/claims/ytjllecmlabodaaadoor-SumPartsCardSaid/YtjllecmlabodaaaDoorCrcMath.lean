/-
  PLAIN MATHEMATICS of CRC-32C over Nat: one step without a bit, its linearity, that it loses nothing, a burst within 32 bits is told.
  CONDITIONS: each theorem's own hypotheses.
-/
import Derived.Below
import Derived.Lib.Hide
import Derived.Lib.Bytealg
namespace Go.Proofs.YtjllecmlabodaaaDoor.CrcMath
set_option linter.unusedVariables false

def poly : Nat := 2197175160
def ones : Nat := 4294967295
def two32 : Nat := 4294967296
/-- One step, no bit coming in. -/
def Z (s : Nat) : Nat := (s >>> 1) ^^^ (s % 2 * poly)
def Zn : Nat → Nat → Nat
  | 0, s => s
  | n + 1, s => Zn n (Z s)
theorem xor4 (a b c d : Nat) : (a ^^^ b) ^^^ (c ^^^ d) = (a ^^^ c) ^^^ (b ^^^ d) := by
  rw [Nat.xor_assoc, ← Nat.xor_assoc b c d, Nat.xor_comm b c, Nat.xor_assoc c b d, ← Nat.xor_assoc]
theorem xor_mod2 (x y : Nat) : (x ^^^ y) % 2 = (x % 2 + y % 2) % 2 := by
  have h := Nat.testBit_xor x y 0
  simp only [Nat.testBit_zero] at h
  have hx := Nat.mod_two_eq_zero_or_one x
  have hy := Nat.mod_two_eq_zero_or_one y
  have hz := Nat.mod_two_eq_zero_or_one (x ^^^ y)
  rcases hx with hx | hx <;> rcases hy with hy | hy <;> rcases hz with hz | hz <;> simp [hx, hy, hz] at h ⊢
theorem Z_xor (x y : Nat) : Z (x ^^^ y) = Z x ^^^ Z y := by
  unfold Z
  rw [Nat.shiftRight_xor_distrib, xor_mod2, xor4]
  congr 1
  have hx := Nat.mod_two_eq_zero_or_one x
  have hy := Nat.mod_two_eq_zero_or_one y
  rcases hx with hx | hx <;> rcases hy with hy | hy <;> simp [hx, hy]
theorem Z_zero : Z 0 = 0 := by decide
theorem Z_lt (s : Nat) (h : s < two32) : Z s < two32 := by
  unfold Z two32
  refine Nat.xor_lt_two_pow (n := 32) ?_ ?_
  · rw [Nat.shiftRight_eq_div_pow]; unfold two32 at h; omega
  · have := Nat.mod_two_eq_zero_or_one s
    unfold poly
    rcases this with h | h <;> rw [h] <;> decide
theorem step_lt (M d : Nat) (h : M < 4294967296) : (M >>> 1) ^^^ (d % 2 * poly) < 4294967296 := by
  refine Nat.xor_lt_two_pow (n := 32) ?_ ?_
  · rw [Nat.shiftRight_eq_div_pow]; omega
  · have := Nat.mod_two_eq_zero_or_one d
    unfold poly
    rcases this with h | h <;> rw [h] <;> decide
theorem Z_eq_zero (d : Nat) (hd : d < two32) (h : Z d = 0) : d = 0 := by
  unfold Z at h
  have h1 : d >>> 1 = d % 2 * poly := by
    have := congrArg (· ^^^ (d % 2 * poly)) h
    simpa [Nat.xor_assoc] using this
  rw [Nat.shiftRight_eq_div_pow] at h1
  unfold two32 at hd
  unfold poly at h1
  rcases Nat.mod_two_eq_zero_or_one d with h2 | h2 <;> rw [h2] at h1 <;> omega
theorem Zn_xor : ∀ (n x y : Nat), Zn n (x ^^^ y) = Zn n x ^^^ Zn n y
  | 0, _, _ => rfl
  | n + 1, x, y => by show Zn n (Z (x ^^^ y)) = _; rw [Z_xor, Zn_xor n]; rfl
theorem Zn_zero : ∀ n, Zn n 0 = 0
  | 0 => rfl
  | n + 1 => by show Zn n (Z 0) = 0; rw [Z_zero, Zn_zero n]
theorem Zn_lt : ∀ (n s : Nat), s < two32 → Zn n s < two32
  | 0, s, h => h
  | n + 1, s, h => Zn_lt n (Z s) (Z_lt s h)
theorem Zn_eq_zero : ∀ (n d : Nat), d < two32 → Zn n d = 0 → d = 0
  | 0, d, _, h => h
  | n + 1, d, hd, h => Z_eq_zero d hd (Zn_eq_zero n (Z d) (Z_lt d hd) h)
theorem Zn_succ : ∀ (n s : Nat), Zn (n + 1) s = Z (Zn n s)
  | 0, s => rfl
  | n + 1, s => by show Zn (n + 1) (Z s) = _; rw [Zn_succ n (Z s)]; rfl
theorem Zn_add : ∀ (m n s : Nat), Zn (m + n) s = Zn n (Zn m s)
  | 0, n, s => by rw [Nat.zero_add]; rfl
  | m + 1, n, s => by rw [Nat.add_right_comm]; show Zn (m + n) (Z s) = _; rw [Zn_add m n]; rfl
/-- n steps of a number whose lower n bits are noughts cut these off. -/
theorem Zn_shift : ∀ (n y : Nat), Zn n (y * 2 ^ n) = y
  | 0, y => by simp [Zn]
  | n + 1, y => by
    show Zn n (Z (y * 2 ^ (n + 1))) = y
    have e : Z (y * 2 ^ (n + 1)) = y * 2 ^ n := by
      unfold Z
      have h2 : y * 2 ^ (n + 1) = (y * 2 ^ n) * 2 := by rw [Nat.pow_succ, Nat.mul_assoc]
      rw [h2, Nat.mul_mod_left, Nat.zero_mul, Nat.xor_zero, Nat.shiftRight_eq_div_pow]
      simp
    rw [e, Zn_shift n y]

/-! ### bytes -/
def crcB (s : Nat) (c : UInt8) : Nat := Zn 8 (s ^^^ c.toNat)
def crcL : Nat → List UInt8 → Nat
  | s, [] => s
  | s, c :: l => crcL (crcB s c) l
def crc (l : List UInt8) : Nat := crcL ones l ^^^ ones
theorem byte_lt32 (c : UInt8) : c.toNat < two32 := by have := c.toNat_lt; unfold two32; omega
theorem xor_lt32 {a b : Nat} (ha : a < two32) (hb : b < two32) : a ^^^ b < two32 := Nat.xor_lt_two_pow (n := 32) ha hb
theorem crcB_lt (s : Nat) (c : UInt8) (h : s < two32) : crcB s c < two32 := Zn_lt _ _ (xor_lt32 h (byte_lt32 c))
theorem crcL_lt : ∀ (l : List UInt8) (s : Nat), s < two32 → crcL s l < two32
  | [], s, h => h
  | c :: l, s, h => crcL_lt l _ (crcB_lt s c h)
theorem crc_lt (l : List UInt8) : crc l < two32 := xor_lt32 (crcL_lt l ones (by decide)) (by decide)
theorem crcL_append : ∀ (l m : List UInt8) (s : Nat), crcL s (l ++ m) = crcL (crcL s l) m
  | [], m, s => rfl
  | c :: l, m, s => crcL_append l m (crcB s c)
def xorL : List UInt8 → List UInt8 → List UInt8
  | a :: l, b :: m => (a ^^^ b) :: xorL l m
  | _, _ => []
theorem crcB_xor (s t : Nat) (a b : UInt8) : crcB (s ^^^ t) (a ^^^ b) = crcB s a ^^^ crcB t b := by
  unfold crcB
  rw [UInt8.toNat_xor, ← Zn_xor, xor4]
theorem crcL_xor : ∀ (l m : List UInt8) (s t : Nat), l.length = m.length → crcL (s ^^^ t) (xorL l m) = crcL s l ^^^ crcL t m
  | [], [], s, t, _ => rfl
  | a :: l, b :: m, s, t, h => by
    show crcL (crcB (s ^^^ t) (a ^^^ b)) (xorL l m) = crcL (crcB s a) l ^^^ crcL (crcB t b) m
    rw [crcB_xor, crcL_xor l m _ _ (by simpa using h)]
  | [], _ :: _, _, _, h => by simp at h
  | _ :: _, [], _, _, h => by simp at h
theorem xorL_length : ∀ (l m : List UInt8), l.length = m.length → (xorL l m).length = l.length
  | [], [], _ => rfl
  | a :: l, b :: m, h => by simp only [xorL, List.length_cons]; rw [xorL_length l m (by simpa using h)]
  | [], _ :: _, h => by simp at h
  | _ :: _, [], h => by simp at h
/-- A SUM OF THREE LINES HAS THE SUM OF THEIR SUMS. -/
theorem crc_xor3 (a b c : List UInt8) (h1 : a.length = b.length) (h2 : a.length = c.length) : crc (xorL (xorL a b) c) = (crc a ^^^ crc b) ^^^ crc c := by
  unfold crc
  have e : ones = (ones ^^^ ones) ^^^ ones := by decide
  have h := crcL_xor (xorL a b) c (ones ^^^ ones) ones (by rw [xorL_length a b h1, h2])
  rw [← e, crcL_xor a b ones ones h1] at h
  rw [h]
  generalize crcL ones a = x
  generalize crcL ones b = y
  generalize crcL ones c = z
  rw [xor4 x ones y ones, Nat.xor_self, Nat.xor_zero, Nat.xor_assoc]
theorem crcL_zeros : ∀ (n : Nat), crcL 0 (List.replicate n 0) = 0
  | 0 => rfl
  | n + 1 => by
    show crcL (crcB 0 0) (List.replicate n 0) = 0
    have : crcB 0 0 = 0 := by decide
    rw [this, crcL_zeros n]
theorem crcL_zeros_eq : ∀ (n s : Nat), s < two32 → crcL s (List.replicate n 0) = 0 → s = 0
  | 0, s, _, h => h
  | n + 1, s, hs, h => by
    have h1 := crcL_zeros_eq n (crcB s 0) (crcB_lt s 0 hs) h
    unfold crcB at h1
    exact Zn_eq_zero 8 s hs (by simpa using h1)
/-- Of few bytes the number that they make, the lowest one first. -/
def le : List UInt8 → Nat
  | [] => 0
  | c :: l => c.toNat + le l * 256
theorem le_lt : ∀ l : List UInt8, le l < 256 ^ l.length
  | [] => by decide
  | c :: l => by
    have := le_lt l
    have hc := c.toNat_lt
    simp only [le, List.length_cons, Nat.pow_succ]
    omega
theorem le_zero : ∀ l : List UInt8, le l = 0 → l = List.replicate l.length 0
  | [], _ => rfl
  | c :: l, h => by
    simp only [le] at h
    have h1 : c = 0 := by
      have : c.toNat = 0 := by omega
      exact UInt8.toNat_inj.1 (by simpa using this)
    have h2 := le_zero l (by omega)
    subst h1
    rw [List.length_cons, List.replicate_succ, ← h2]
theorem add_xor (c y : Nat) (h : c < 256) : c + y * 256 = c ^^^ (y * 256) := by
  have h1 : y * 256 = y <<< 8 := by rw [Nat.shiftLeft_eq]
  rw [h1]
  have h2 := Nat.shiftLeft_add_eq_or_of_lt (i := 8) (b := c) h y
  rw [Nat.add_comm, h2]
  apply Nat.eq_of_testBit_eq
  intro i
  simp only [Nat.testBit_or, Nat.testBit_xor, Nat.testBit_shiftLeft]
  by_cases hi : 8 ≤ i
  · have : c.testBit i = false := Nat.testBit_lt_two_pow (Nat.lt_of_lt_of_le h (show 2 ^ 8 ≤ 2 ^ i from Nat.pow_le_pow_right (by decide) hi))
    simp [this]
  · simp [hi]
/-- What few bytes make of a state: as if they had been in it. -/
theorem crcL_le : ∀ (l : List UInt8) (s : Nat), crcL s l = Zn (8 * l.length) (s ^^^ le l)
  | [], s => by simp [crcL, Zn, le]
  | c :: l, s => by
    show crcL (crcB s c) l = _
    rw [crcL_le l]
    unfold crcB
    rw [List.length_cons, Nat.mul_succ, Nat.add_comm, Zn_add]
    have h : Zn 8 (s ^^^ le (c :: l)) = Zn 8 (s ^^^ c.toNat) ^^^ le l := by
      have h8 := Zn_shift 8 (le l)
      rw [show (2 : Nat) ^ 8 = 256 from rfl] at h8
      show Zn 8 (s ^^^ (c.toNat + le l * 256)) = _
      rw [add_xor c.toNat (le l) c.toNat_lt, ← Nat.xor_assoc, Zn_xor 8 (s ^^^ c.toNat), h8]
    rw [h]
/-- A BURST OF FOUR BYTES OR LESS IS TOLD. -/
theorem crcL_burst (n m : Nat) (d : List UInt8) (hd : d.length ≤ 4) (h : crcL 0 (List.replicate n 0 ++ (d ++ List.replicate m 0)) = 0) : d = List.replicate d.length 0 := by
  rw [crcL_append, crcL_append, crcL_zeros] at h
  have h1 := crcL_zeros_eq m _ (crcL_lt d 0 (by decide)) h
  rw [crcL_le, Nat.zero_xor] at h1
  have h2 : le d < two32 := Nat.lt_of_lt_of_le (le_lt d) (by
    have := Nat.pow_le_pow_right (show 0 < 256 by decide) hd
    exact Nat.le_trans this (by decide))
  exact le_zero d (Zn_eq_zero _ _ h2 h1)
theorem xorL_zero : ∀ (l m : List UInt8), l.length = m.length → xorL l m = List.replicate l.length 0 → l = m
  | [], [], _, _ => rfl
  | a :: l, b :: m, h, e => by
    simp only [xorL, List.length_cons, List.replicate_succ, List.cons.injEq] at e
    have h1 : a = b := by
      have := congrArg UInt8.toNat e.1
      rw [UInt8.toNat_xor] at this
      have h0 : a.toNat ^^^ b.toNat = 0 := by simpa using this
      exact UInt8.toNat_inj.1 (by have := congrArg (· ^^^ b.toNat) h0; simpa [Nat.xor_assoc] using this)
    rw [h1, xorL_zero l m (by simpa using h) e.2]
  | [], _ :: _, h, _ => by simp at h
  | _ :: _, [], h, _ => by simp at h
/-- Two lines that differ within four bytes only have the same sum just if they are the same. -/
theorem crc_burst (b c d : List UInt8) (n m : Nat) (hl : b.length = c.length) (hx : xorL b c = List.replicate n 0 ++ (d ++ List.replicate m 0)) (hd : d.length ≤ 4) : crc b = crc c ↔ b = c := by
  refine ⟨fun h => ?_, fun h => by rw [h]⟩
  have h1 : crcL ones b = crcL ones c := by
    have := congrArg (· ^^^ ones) h
    unfold crc at this
    simpa [Nat.xor_assoc] using this
  have h2 := crcL_xor b c ones ones hl
  rw [h1, Nat.xor_self, Nat.xor_self, hx] at h2
  have h3 := crcL_burst n m d hd h2
  refine xorL_zero b c hl ?_
  have hlen := xorL_length b c hl
  rw [hx] at hlen ⊢
  rw [h3] at hlen ⊢
  simp only [List.length_append, List.length_replicate] at hlen
  rw [← hlen]
  simp [List.replicate_append_replicate]
end Go.Proofs.YtjllecmlabodaaaDoor.CrcMath
