/-
  PLAIN MATHEMATICS: SHA-256 over Nat and lists of bytes, HMAC by it, and their known values.
  CONDITIONS: none.
-/
import Derived.Test.YtmldhnghfdhjmaaDoorShaMath
import Derived.Test.YtmldhnghfdhjmaaDoorCodeMath
namespace Go.Proofs.YtmldhnghfdhjmaaDoor.ShaMath
open CodeMath
set_option linter.unusedVariables false

def w32 : Nat := 4294967296
def rot (x n : Nat) : Nat := (x >>> n) ||| ((x <<< (32 - n)) % w32)
def small0 (x : Nat) : Nat := rot x 7 ^^^ rot x 18 ^^^ (x >>> 3)
def small1 (x : Nat) : Nat := rot x 17 ^^^ rot x 19 ^^^ (x >>> 10)
def big0 (x : Nat) : Nat := rot x 2 ^^^ rot x 13 ^^^ rot x 22
def big1 (x : Nat) : Nat := rot x 6 ^^^ rot x 11 ^^^ rot x 25
/-- Of four bytes the word, the highest one first. -/
def word4 (l : List UInt8) : Nat := l.foldl (fun n c => n * 256 + c.toNat) 0
def words : Nat → List UInt8 → List Nat
  | 0, _ => []
  | n + 1, l => word4 (l.take 4) :: words n (l.drop 4)
def nextW (w : List Nat) : Nat :=
  (w.getD (w.length - 16) 0 + w.getD (w.length - 7) 0 + small0 (w.getD (w.length - 15) 0) + small1 (w.getD (w.length - 2) 0)) % w32
def extend : Nat → List Nat → List Nat
  | 0, w => w
  | n + 1, w => extend n (w ++ [nextW w])
def sched (l : List UInt8) : List Nat := extend 48 (words 16 l)
def kk : List Nat := [1116352408, 1899447441, 3049323471, 3921009573, 961987163, 1508970993, 2453635748, 2870763221, 3624381080, 310598401, 607225278, 1426881987, 1925078388, 2162078206, 2614888103, 3248222580, 3835390401, 4022224774, 264347078, 604807628, 770255983, 1249150122, 1555081692, 1996064986, 2554220882, 2821834349, 2952996808, 3210313671, 3336571891, 3584528711, 113926993, 338241895, 666307205, 773529912, 1294757372, 1396182291, 1695183700, 1986661051, 2177026350, 2456956037, 2730485921, 2820302411, 3259730800, 3345764771, 3516065817, 3600352804, 4094571909, 275423344, 430227734, 506948616, 659060556, 883997877, 958139571, 1322822218, 1537002063, 1747873779, 1955562222, 2024104815, 2227730452, 2361852424, 2428436474, 2756734187, 3204031479, 3329325298]
structure St where
  p : Nat
  q : Nat
  r : Nat
  s : Nat
  t : Nat
  u : Nat
  v : Nat
  x : Nat
def h0 : St := ⟨1779033703, 3144134277, 1013904242, 2773480762, 1359893119, 2600822924, 528734635, 1541459225⟩
def one (h : St) (k w : Nat) : Nat := (h.x + big1 h.t + ((h.t &&& h.u) ||| ((w32 - 1 - h.t) &&& h.v)) + k + w) % w32
def two (h : St) : Nat := (big0 h.p + (((h.p &&& h.q) ||| (h.p &&& h.r)) ||| (h.q &&& h.r))) % w32
def round (h : St) (k w : Nat) : St := ⟨(one h k w + two h) % w32, h.p, h.q, h.r, (h.s + one h k w) % w32, h.t, h.u, h.v⟩
def roundsN : Nat → List Nat → List Nat → St → St
  | 0, _, _, h => h
  | n + 1, k, w, h => roundsN n (k.drop 1) (w.drop 1) (round h (k.getD 0 0) (w.getD 0 0))
def plus (a b : St) : St := ⟨(a.p + b.p) % w32, (a.q + b.q) % w32, (a.r + b.r) % w32, (a.s + b.s) % w32, (a.t + b.t) % w32, (a.u + b.u) % w32, (a.v + b.v) % w32, (a.x + b.x) % w32⟩
def blk (h : St) (l : List UInt8) : St := plus h (roundsN 64 kk (sched l) h)
def St.bytes (h : St) : List UInt8 := be h.p 4 ++ be h.q 4 ++ be h.r 4 ++ be h.s 4 ++ be h.t 4 ++ be h.u 4 ++ be h.v 4 ++ be h.x 4
/-- How many noughts stand behind the byte 128. -/
def noughts (n : Nat) : Nat := (119 - n % 64) % 64
def pad (n : Nat) : List UInt8 := 128 :: (List.replicate (noughts n) 0 ++ be (n * 8 : Nat) 8)
/-- The end of a stream: what was worked in, what is held, how many bytes there were. -/
def fin (h : St) (held : List UInt8) (n : Nat) : List UInt8 := (run blk h (held ++ pad n)).bytes
def sha (l : List UInt8) : List UInt8 := fin (run blk h0 l) (rest l) l.length
def key64 (k : List UInt8) : List UInt8 := let k := if 64 < k.length then sha k else k; k ++ List.replicate (64 - k.length) 0
def hmac (k l : List UInt8) : List UInt8 := sha ((key64 k).map (· ^^^ 92) ++ sha ((key64 k).map (· ^^^ 54) ++ l))

set_option maxRecDepth 1000000 in
theorem sha_none : (sha []).take 8 = [227, 176, 196, 66, 152, 252, 28, 20] := by decide +kernel
set_option maxRecDepth 1000000 in
theorem sha_abc : (sha [97, 98, 99]).take 8 = [186, 120, 22, 191, 143, 1, 207, 234] := by decide +kernel
set_option maxRecDepth 1000000 in
theorem sha_long : (sha [97, 98, 99, 100, 98, 99, 100, 101, 99, 100, 101, 102, 100, 101, 102, 103, 101, 102, 103, 104, 102, 103, 104, 105, 103, 104, 105, 106, 104, 105, 106, 107, 105, 106, 107, 108, 106, 107, 108, 109, 107, 108, 109, 110, 108, 109, 110, 111, 109, 110, 111, 112, 110, 111, 112, 113]).take 8 = [36, 141, 106, 97, 210, 6, 56, 184] := by decide +kernel
set_option maxRecDepth 1000000 in
theorem hmac_known : (hmac [74, 101, 102, 101] [119, 104, 97, 116, 32, 100, 111, 32, 121, 97, 32, 119, 97, 110, 116, 32, 102, 111, 114, 32, 110, 111, 116, 104, 105, 110, 103, 63]).take 4 = [91, 220, 193, 70] := by decide +kernel

theorem be_len (n : Int) (j : Nat) : (be n j).length = j := be_length n j
theorem St.bytes_length (h : St) : h.bytes.length = 32 := by simp [St.bytes, be_length]
theorem sha_length (l : List UInt8) : (sha l).length = 32 := St.bytes_length _
theorem pad_length (n : Nat) : (pad n).length = noughts n + 9 := by simp [pad, be_length]
theorem pad_whole (n : Nat) : (n % 64 + (pad n).length) % 64 = 0 := by rw [pad_length]; unfold noughts; omega
/-- IT DOES NOT MATTER HOW BYTES ARE CUT. -/
theorem fin_cut (h : St) (l : List UInt8) (n : Nat) : fin (run blk h l) (rest l) n = (run blk h (l ++ pad n)).bytes := by
  unfold fin; rw [run_cut]
theorem sha_eq (l : List UInt8) : sha l = (run blk h0 (l ++ pad l.length)).bytes := fin_cut h0 l _
/-- A LONG KEY IS ITS SUM. -/
theorem hmac_long (k l : List UInt8) (h : 64 < k.length) : hmac k l = hmac (sha k) l := by
  have e : key64 k = key64 (sha k) := by
    unfold key64
    simp only [if_pos h, sha_length]
    rfl
  unfold hmac
  rw [e]
theorem key64_short (k : List UInt8) (h : k.length ≤ 64) : key64 k = k ++ List.replicate (64 - k.length) 0 := by
  unfold key64
  have h1 : ¬ 64 < k.length := by omega
  simp only [if_neg h1]
theorem key64_length (k : List UInt8) : (key64 k).length = 64 := by
  by_cases h : 64 < k.length
  · unfold key64
    simp only [if_pos h, List.length_append, sha_length, List.length_replicate]
  · rw [key64_short k (by omega), List.length_append, List.length_replicate]; omega
/-- A SHORT KEY MAY HAVE NOUGHTS BEHIND IT. -/
theorem hmac_short (k l : List UInt8) (n : Nat) (h : k.length + n ≤ 64) : hmac k l = hmac (k ++ List.replicate n 0) l := by
  have e : key64 k = key64 (k ++ List.replicate n 0) := by
    rw [key64_short k (by omega), key64_short (k ++ List.replicate n 0) (by rw [List.length_append, List.length_replicate]; exact h), List.append_assoc, List.replicate_append_replicate, List.length_append, List.length_replicate]
    congr 2
    omega
  unfold hmac
  rw [e]
end Go.Proofs.YtmldhnghfdhjmaaDoor.ShaMath
