/-
  MERGED: ShaMath, ShaDefs, ShaA, ShaB, Arr, ShaT, SpreadMath, Spread, StirMath, Stir, BytesOf, Stream, AddMath.
  CONDITIONS: each theorem's own hypotheses.
-/
import Derived.Below
import Derived.Lib.Hide
import Derived.Lib.Bytealg
import Derived.Test.YtcnemacakjemjaaDoorCodeMath
import Derived.Test.YtcnemacakjemjaaDoorGBase
import Derived.LoopTactic
import Derived.BigQuiet
import Derived.Deep.QuietTactic
import Derived.Deep.RegionWith
import Derived.Deep.RegionHeld3
import Derived.OwnWalk
import Derived.Laws.OwnMore
import Derived.Laws.AppendOwn
import Derived.Laws.Rows
import Derived.Deep.MidRow
import Derived.Deep.WholeRow
import Derived.Deep.Cut
import Derived.Deep.CutRange
import Derived.Deep.DeepCutAuto
import Derived.Outline
import Derived.StillTailTactics
import Derived.Laws.CopyOwn

/-! PLAIN MATHEMATICS of sums that come piece by piece, over any way of working a block in: it does not matter how the bytes are cut. CONDITIONS: each theorem's own hypotheses. -/
namespace Go.Proofs.YtcnemacakjemjaaDoor.ShaMath
set_option linter.unusedVariables false

section
variable {α : Type} (blk : α → List UInt8 → α)
/-- So many blocks of 64 bytes worked in. -/
def runN : Nat → α → List UInt8 → α
  | 0, h, _ => h
  | n + 1, h, l => runN n (blk h (l.take 64)) (l.drop 64)
/-- All whole blocks worked in. -/
def run (h : α) (l : List UInt8) : α := runN blk (l.length / 64) h l
/-- What is behind the whole blocks. -/
def rest (l : List UInt8) : List UInt8 := l.drop (l.length / 64 * 64)
theorem rest_length (l : List UInt8) : (rest l).length = l.length % 64 := by
  unfold rest
  rw [List.length_drop]
  have := Nat.div_add_mod l.length 64
  omega
theorem rest_lt (l : List UInt8) : (rest l).length < 64 := by rw [rest_length]; exact Nat.mod_lt _ (by decide)
theorem run_short (h : α) (l : List UInt8) (hl : l.length < 64) : run blk h l = h := by
  unfold run
  rw [Nat.div_eq_of_lt hl]
  rfl
theorem rest_short (l : List UInt8) (hl : l.length < 64) : rest l = l := by
  unfold rest
  rw [Nat.div_eq_of_lt hl]
  rfl
theorem run_step (h : α) (l : List UInt8) (hl : 64 ≤ l.length) : run blk h l = run blk (blk h (l.take 64)) (l.drop 64) := by
  unfold run
  rw [List.length_drop]
  have e : l.length / 64 = (l.length - 64) / 64 + 1 := by omega
  rw [e]
  rfl
theorem rest_step (l : List UInt8) (hl : 64 ≤ l.length) : rest l = rest (l.drop 64) := by
  unfold rest
  rw [List.length_drop, List.drop_drop]
  congr 1
  omega
theorem run_append : ∀ (n : Nat) (a b : List UInt8) (h : α), a.length = n * 64 → run blk h (a ++ b) = run blk (run blk h a) b
  | 0, a, b, h, e => by
    have : a = [] := List.eq_nil_of_length_eq_zero (by omega)
    subst this
    rw [run_short blk h [] (by simp)]
    rfl
  | n + 1, a, b, h, e => by
    have h64 : 64 ≤ a.length := by omega
    rw [run_step blk h (a ++ b) (by simp; omega), run_step blk h a h64, List.take_append_of_le_length h64, List.drop_append_of_le_length h64]
    exact run_append n (a.drop 64) b _ (by rw [List.length_drop]; omega)
theorem cut_rest (l : List UInt8) : l.take (l.length / 64 * 64) ++ rest l = l := List.take_append_drop _ _
theorem run_rest (h : α) (l : List UInt8) : run blk h l = run blk h (l.take (l.length / 64 * 64)) := by
  have hl : (l.take (l.length / 64 * 64)).length = l.length / 64 * 64 := by rw [List.length_take]; omega
  have := run_append blk (l.length / 64) (l.take (l.length / 64 * 64)) (rest l) h hl
  rw [cut_rest, run_short blk _ (rest l) (rest_lt l)] at this
  exact this
/-- IT DOES NOT MATTER HOW BYTES ARE CUT: what was held goes on. -/
theorem run_cut (h : α) (l m : List UInt8) : run blk (run blk h l) (rest l ++ m) = run blk h (l ++ m) := by
  have hl : (l.take (l.length / 64 * 64)).length = l.length / 64 * 64 := by rw [List.length_take]; omega
  have := run_append blk (l.length / 64) (l.take (l.length / 64 * 64)) (rest l ++ m) h hl
  rw [← List.append_assoc, cut_rest, ← run_rest] at this
  exact this.symm
end
theorem rest_append : ∀ (n : Nat) (a b : List UInt8), a.length = n * 64 → rest (a ++ b) = rest b
  | 0, a, b, e => by
    have : a = [] := List.eq_nil_of_length_eq_zero (by omega)
    subst this
    rfl
  | n + 1, a, b, e => by
    have h64 : 64 ≤ a.length := by omega
    rw [rest_step (a ++ b) (by simp; omega), List.drop_append_of_le_length h64]
    exact rest_append n (a.drop 64) b (by rw [List.length_drop]; omega)
theorem rest_cut (l m : List UInt8) : rest (rest l ++ m) = rest (l ++ m) := by
  have hl : (l.take (l.length / 64 * 64)).length = l.length / 64 * 64 := by rw [List.length_take]; omega
  have := rest_append (l.length / 64) (l.take (l.length / 64 * 64)) (rest l ++ m) hl
  rw [← List.append_assoc, cut_rest] at this
  exact this.symm
end Go.Proofs.YtcnemacakjemjaaDoor.ShaMath

/-! PLAIN MATHEMATICS: SHA-256 over Nat and lists of bytes, HMAC by it, and their known values. CONDITIONS: none. -/
namespace Go.Proofs.YtcnemacakjemjaaDoor.ShaMath
open CodeMath
set_option linter.unusedVariables false

def w32 : Nat := 4294967296
def rot (x n : Nat) : Nat := (x >>> n) ||| ((x <<< (32 - n)) % w32)
def small0 (x : Nat) : Nat := rot x 7 ^^^ rot x 18 ^^^ (x >>> 3)
def small1 (x : Nat) : Nat := rot x 17 ^^^ rot x 19 ^^^ (x >>> 10)
def big0 (x : Nat) : Nat := rot x 2 ^^^ rot x 13 ^^^ rot x 22
def big1 (x : Nat) : Nat := rot x 6 ^^^ rot x 11 ^^^ rot x 25
/-- Of four bytes the word, the highest one first. -/
def word4 (l : List UInt8) : Nat := l.foldl (fun n c => n * 256 + c.toNat) 0
def words : Nat → List UInt8 → List Nat
  | 0, _ => []
  | n + 1, l => word4 (l.take 4) :: words n (l.drop 4)
def nextW (w : List Nat) : Nat :=
  (w.getD (w.length - 16) 0 + w.getD (w.length - 7) 0 + small0 (w.getD (w.length - 15) 0) + small1 (w.getD (w.length - 2) 0)) % w32
def extend : Nat → List Nat → List Nat
  | 0, w => w
  | n + 1, w => extend n (w ++ [nextW w])
def sched (l : List UInt8) : List Nat := extend 48 (words 16 l)
def kk : List Nat := [1116352408, 1899447441, 3049323471, 3921009573, 961987163, 1508970993, 2453635748, 2870763221, 3624381080, 310598401, 607225278, 1426881987, 1925078388, 2162078206, 2614888103, 3248222580, 3835390401, 4022224774, 264347078, 604807628, 770255983, 1249150122, 1555081692, 1996064986, 2554220882, 2821834349, 2952996808, 3210313671, 3336571891, 3584528711, 113926993, 338241895, 666307205, 773529912, 1294757372, 1396182291, 1695183700, 1986661051, 2177026350, 2456956037, 2730485921, 2820302411, 3259730800, 3345764771, 3516065817, 3600352804, 4094571909, 275423344, 430227734, 506948616, 659060556, 883997877, 958139571, 1322822218, 1537002063, 1747873779, 1955562222, 2024104815, 2227730452, 2361852424, 2428436474, 2756734187, 3204031479, 3329325298]
structure St where
  p : Nat
  q : Nat
  r : Nat
  s : Nat
  t : Nat
  u : Nat
  v : Nat
  x : Nat
def h0 : St := ⟨1779033703, 3144134277, 1013904242, 2773480762, 1359893119, 2600822924, 528734635, 1541459225⟩
def one (h : St) (k w : Nat) : Nat := (h.x + big1 h.t + ((h.t &&& h.u) ||| ((w32 - 1 - h.t) &&& h.v)) + k + w) % w32
def two (h : St) : Nat := (big0 h.p + (((h.p &&& h.q) ||| (h.p &&& h.r)) ||| (h.q &&& h.r))) % w32
def round (h : St) (k w : Nat) : St := ⟨(one h k w + two h) % w32, h.p, h.q, h.r, (h.s + one h k w) % w32, h.t, h.u, h.v⟩
def roundsN : Nat → List Nat → List Nat → St → St
  | 0, _, _, h => h
  | n + 1, k, w, h => roundsN n (k.drop 1) (w.drop 1) (round h (k.getD 0 0) (w.getD 0 0))
def plus (a b : St) : St := ⟨(a.p + b.p) % w32, (a.q + b.q) % w32, (a.r + b.r) % w32, (a.s + b.s) % w32, (a.t + b.t) % w32, (a.u + b.u) % w32, (a.v + b.v) % w32, (a.x + b.x) % w32⟩
def blk (h : St) (l : List UInt8) : St := plus h (roundsN 64 kk (sched l) h)
def St.bytes (h : St) : List UInt8 := be h.p 4 ++ be h.q 4 ++ be h.r 4 ++ be h.s 4 ++ be h.t 4 ++ be h.u 4 ++ be h.v 4 ++ be h.x 4
/-- How many noughts stand behind the byte 128. -/
def noughts (n : Nat) : Nat := (119 - n % 64) % 64
def pad (n : Nat) : List UInt8 := 128 :: (List.replicate (noughts n) 0 ++ be (n * 8 : Nat) 8)
/-- The end of a stream: what was worked in, what is held, how many bytes there were. -/
def fin (h : St) (held : List UInt8) (n : Nat) : List UInt8 := (run blk h (held ++ pad n)).bytes
def sha (l : List UInt8) : List UInt8 := fin (run blk h0 l) (rest l) l.length
def key64 (k : List UInt8) : List UInt8 := let k := if 64 < k.length then sha k else k; k ++ List.replicate (64 - k.length) 0
def hmac (k l : List UInt8) : List UInt8 := sha ((key64 k).map (· ^^^ 92) ++ sha ((key64 k).map (· ^^^ 54) ++ l))

set_option maxRecDepth 1000000 in
theorem sha_none : (sha []).take 8 = [227, 176, 196, 66, 152, 252, 28, 20] := by decide +kernel
set_option maxRecDepth 1000000 in
theorem sha_abc : (sha [97, 98, 99]).take 8 = [186, 120, 22, 191, 143, 1, 207, 234] := by decide +kernel
set_option maxRecDepth 1000000 in
theorem sha_long : (sha [97, 98, 99, 100, 98, 99, 100, 101, 99, 100, 101, 102, 100, 101, 102, 103, 101, 102, 103, 104, 102, 103, 104, 105, 103, 104, 105, 106, 104, 105, 106, 107, 105, 106, 107, 108, 106, 107, 108, 109, 107, 108, 109, 110, 108, 109, 110, 111, 109, 110, 111, 112, 110, 111, 112, 113]).take 8 = [36, 141, 106, 97, 210, 6, 56, 184] := by decide +kernel
set_option maxRecDepth 1000000 in
theorem hmac_known : (hmac [74, 101, 102, 101] [119, 104, 97, 116, 32, 100, 111, 32, 121, 97, 32, 119, 97, 110, 116, 32, 102, 111, 114, 32, 110, 111, 116, 104, 105, 110, 103, 63]).take 4 = [91, 220, 193, 70] := by decide +kernel

theorem be_len (n : Int) (j : Nat) : (be n j).length = j := be_length n j
theorem St.bytes_length (h : St) : h.bytes.length = 32 := by simp [St.bytes, be_length]
theorem sha_length (l : List UInt8) : (sha l).length = 32 := St.bytes_length _
theorem pad_length (n : Nat) : (pad n).length = noughts n + 9 := by simp [pad, be_length]
theorem pad_whole (n : Nat) : (n % 64 + (pad n).length) % 64 = 0 := by rw [pad_length]; unfold noughts; omega
/-- IT DOES NOT MATTER HOW BYTES ARE CUT. -/
theorem fin_cut (h : St) (l : List UInt8) (n : Nat) : fin (run blk h l) (rest l) n = (run blk h (l ++ pad n)).bytes := by
  unfold fin; rw [run_cut]
theorem sha_eq (l : List UInt8) : sha l = (run blk h0 (l ++ pad l.length)).bytes := fin_cut h0 l _
/-- A LONG KEY IS ITS SUM. -/
theorem hmac_long (k l : List UInt8) (h : 64 < k.length) : hmac k l = hmac (sha k) l := by
  have e : key64 k = key64 (sha k) := by
    unfold key64
    simp only [if_pos h, sha_length]
    rfl
  unfold hmac
  rw [e]
theorem key64_short (k : List UInt8) (h : k.length ≤ 64) : key64 k = k ++ List.replicate (64 - k.length) 0 := by
  unfold key64
  have h1 : ¬ 64 < k.length := by omega
  simp only [if_neg h1]
theorem key64_length (k : List UInt8) : (key64 k).length = 64 := by
  by_cases h : 64 < k.length
  · unfold key64
    simp only [if_pos h, List.length_append, sha_length, List.length_replicate]
  · rw [key64_short k (by omega), List.length_append, List.length_replicate]; omega
/-- A SHORT KEY MAY HAVE NOUGHTS BEHIND IT. -/
theorem hmac_short (k l : List UInt8) (n : Nat) (h : k.length + n ≤ 64) : hmac k l = hmac (k ++ List.replicate n 0) l := by
  have e : key64 k = key64 (k ++ List.replicate n 0) := by
    rw [key64_short k (by omega), key64_short (k ++ List.replicate n 0) (by rw [List.length_append, List.length_replicate]; exact h), List.append_assoc, List.replicate_append_replicate, List.length_append, List.length_replicate]
    congr 2
    omega
  unfold hmac
  rw [e]
end Go.Proofs.YtcnemacakjemjaaDoor.ShaMath

/-! CONTRACTS of the reference's small functions of SHA-256: rot, hexWord, schedule. CONDITIONS: each theorem's own hypotheses. -/
namespace Go.Proofs.YtcnemacakjemjaaDoor
open Go.RowKit CodeMath
set_option linter.unusedVariables false

theorem rot_bits (x n : Nat) (hx : x < 4294967296) (h1 : 1 ≤ n) (h2 : n ≤ 31) :
    bits .or .u32 ((x : Int) / 2 ^ n) ((x : Int) * 2 ^ (32 - n) % 4294967296) = ((ShaMath.rot x n : Nat) : Int) := by
  have e1 : (x : Int) / 2 ^ n = ((x >>> n : Nat) : Int) := by rw [Nat.shiftRight_eq_div_pow]; simp
  have e2 : (x : Int) * 2 ^ (32 - n) % 4294967296 = (((x <<< (32 - n)) % 4294967296 : Nat) : Int) := by rw [Nat.shiftLeft_eq]; simp
  have l1 : x >>> n < 4294967296 := by rw [Nat.shiftRight_eq_div_pow]; exact Nat.lt_of_le_of_lt (Nat.div_le_self _ _) hx
  rw [e1, e2, u32_or_nat _ _ l1 (Nat.mod_lt _ (by decide))]
  rfl
theorem rot_lt (x n : Nat) (hx : x < 4294967296) : ShaMath.rot x n < 4294967296 := by
  unfold ShaMath.rot ShaMath.w32
  refine Nat.or_lt_two_pow (n := 32) ?_ (Nat.mod_lt _ (by decide))
  rw [Nat.shiftRight_eq_div_pow]; exact Nat.lt_of_le_of_lt (Nat.div_le_self _ _) hx
theorem rot_any (x n : Nat) (w : World) (hx : x < 4294967296) (h1 : 1 ≤ n) (h2 : n ≤ 31) :
    Calls Tryd.prog 62 #[.int .u32 x, .int .i64 n] w fun e w' => e = .returned (.int .u32 (ShaMath.rot x n : Nat)) ∧ ∃ q, w' = w.drewN q := by
  have n0 : (0 : Int) ≤ n := by omega
  have n1 : (n : Int) ≤ 31 := by omega
  have hr := rot_bits x n hx h1 h2
  go_enter Tryd.func62, Tryd.ntmps62
  go_wp2_with fail
  go_quiet (fail)
  go_wp2
  go_ret
  first | exact ⟨rfl, _, rfl⟩ | exact ⟨by rw [hr], _, rfl⟩

/-! ### hexWord -/
def isHex (c : UInt8) : Prop := (48 ≤ c.toNat ∧ c.toNat ≤ 57) ∨ (97 ≤ c.toNat ∧ c.toNat ≤ 102)
def hexd (c : UInt8) : Nat := if 97 ≤ c.toNat then c.toNat - 87 else c.toNat - 48
def hexL (l : List UInt8) : Nat := l.foldl (fun n c => n * 16 + hexd c) 0
theorem hexd_lt (c : UInt8) (h : isHex c) : hexd c < 16 := by
  unfold isHex at h
  unfold hexd
  split <;> omega
theorem hexL_snoc (l : List UInt8) (c : UInt8) : hexL (l ++ [c]) = hexL l * 16 + hexd c := by simp [hexL]
theorem hexL_take (l : List UInt8) (h : ∀ c ∈ l, isHex c) : ∀ j, j ≤ l.length → hexL (l.take j) < 16 ^ j
  | 0, _ => by simp [hexL]
  | j + 1, hj => by
    have h1 := hexL_take l h j (by omega)
    rw [List.take_succ_eq_append_getElem (by omega), hexL_snoc]
    have h2 := hexd_lt _ (h l[j] (List.getElem_mem _))
    rw [Nat.pow_succ]
    omega
set_option maxRecDepth 100000 in
set_option maxHeartbeats 2000000 in
theorem hexWord_any (l : List UInt8) (i : Nat) (w : World) (hi : 8 * i + 8 ≤ l.length) (hl : l.length ≤ 512) (hx : ∀ c ∈ l, isHex c) :
    Calls Tryd.prog 53 #[.string (str l), .int .i64 i] w fun e w' => e = .returned (.int .u32 (hexL ((l.drop (8 * i)).take 8) : Nat)) ∧ Below w.heap.size w w' := by
  have cut := cut_str l (8 * i) (8 * i + 8) (8 * (i : Int)) (8 * (i : Int) + 8) (by omega) (by omega) (by omega) hi w
  rw [Nat.add_sub_cancel_left] at cut
  have hD : ((l.drop (8 * i)).take 8).length = 8 := by rw [List.length_take, List.length_drop]; omega
  have hX : ∀ c ∈ (l.drop (8 * i)).take 8, isHex c := fun c hc => hx c (List.mem_of_mem_drop (List.mem_of_mem_take hc))
  generalize (l.drop (8 * i)).take 8 = D at cut hD hX ⊢
  obtain ⟨cap, W1, hcv, hy, hb⟩ := bytesOf D w
  rw [hD] at hcv
  have hcell : ∀ j x, D[j]? = some x → W1.cell? ⟨w.heap.size, j, none⟩ = some (.int .u8 x.toNat) := by
    rcases hy with h | ⟨a, o, e, _, h⟩
    · rw [h] at hD; simp at hD
    · simp only [Option.some.injEq, Addr.mk.injEq, and_true] at e
      obtain ⟨rfl, rfl⟩ := e
      intro j x hjx
      have := h j x hjx
      rwa [Nat.zero_add] at this
  generalize str D = S at cut hcv
  generalize str l = SL at cut ⊢
  have HC := Lib.hid hcell
  have HX := Lib.hid hX
  have HD := Lib.hid hD
  have hi' : (i : Int) ≤ 63 := by omega
  clear hcell hX hx hy hD
  go_enter Tryd.func53, Tryd.ntmps53
  go_wp2
  go_loopw [5, 18] (fun x k wr => ∃ (j N : Nat), j ≤ 8 ∧ k = .int .i64 j ∧ x = .int .u32 N ∧ Hid (N = hexL (D.take j)) ∧ wr = W1) (fun _ k _ => 8 - (intOf k).toNat)
  case atStart => exact ⟨0, 0, Nat.zero_le _, rfl, rfl, Lib.hid rfl, rfl⟩
  case round =>
    obtain ⟨j, N, hj, rfl, rfl, hN, rfl⟩ := hrel
    by_cases h1 : j < 8
    · have hlt : j < D.length := by rw [HD.out]; exact h1
      obtain ⟨c, hv⟩ : ∃ c, D[j]? = some c := ⟨D[j], List.getElem?_eq_getElem hlt⟩
      have hcj := HC.out j c hv
      have ev : D[j] = c := by rw [List.getElem?_eq_getElem hlt] at hv; exact Option.some.inj hv
      have hh := HX.out c (List.mem_of_getElem? hv)
      have hd16 := hexd_lt c hh
      have hNN := hN.out
      have hNl := hexL_take D HX.out j (by omega)
      rw [← hNN] at hNl
      have hNb : N ≤ 268435455 := by
        have := Nat.pow_le_pow_right (show 0 < 16 by decide) (show j ≤ 7 by omega)
        have e : 16 ^ 7 = 268435456 := by decide
        omega
      have hnext : Hid (N * 16 + hexd c = hexL (D.take (j + 1))) := by
        show _ = _
        rw [List.take_succ_eq_append_getElem hlt, hexL_snoc, ev, ← hNN]
      have hc8 : (c.toNat : Int) ≤ 255 := by have := c.toNat_lt; omega
      unfold isHex at hh
      unfold hexd at hnext hd16
      generalize c.toNat = x at hcj hh hd16 hnext hc8
      clear hNN hNl ev hv hN
      by_cases h97 : 97 ≤ x
      · rw [if_pos h97] at hnext hd16
        have x0 : (97 : Int) ≤ x := by omega
        have x1 : (x : Int) ≤ 102 := by omega
        go_wp2
        go_roundw
        case rel => exact ⟨j + 1, N * 16 + (x - 87), by omega, by go_num, by congr 1; omega, hnext, trivial⟩
        case measure => simp [intOf]; omega
      · rw [if_neg h97] at hnext hd16
        have x0 : (48 : Int) ≤ x := by omega
        have x1 : (x : Int) ≤ 57 := by omega
        go_wp2
        go_roundw
        case rel => exact ⟨j + 1, N * 16 + (x - 48), by omega, by go_num, by congr 1; omega, hnext, trivial⟩
        case measure => simp [intOf]; omega
    · have hj8 : j = 8 := by omega
      have hNN := hN.out
      rw [List.take_of_length_le (by rw [HD.out]; omega)] at hNN
      have HNN := Lib.hid hNN
      clear hNN
      go_wp2
      go_ret
      exact ⟨by have := HNN.out; subst this; rfl, hb⟩
end Go.Proofs.YtcnemacakjemjaaDoor

/-! SLICES OF WORDS of a call's own, and the contract of the reference's schedule. CONDITIONS: each theorem's own hypotheses. -/
namespace Go.Proofs.YtcnemacakjemjaaDoor
open Go.RowKit CodeMath
set_option linter.unusedVariables false

def cellsW (l : List Nat) : List Value := l.map fun x => .int .u32 (x : Nat)
theorem cellsW_append (l m : List Nat) : cellsW (l ++ m) = cellsW l ++ cellsW m := by simp [cellsW]
/-- A slice of words of the call's own. -/
def OwnW (w : World) (base : Nat) (v : Value) (l : List Nat) : Prop := w.ownsRow base 63 1 v l.length (cellsW l)
theorem infoW : (Tryd.prog.info? 63).map (fun i => (i.zero, i.size, i.bytes)) = some (some (.int .u32 0), 1, 4) := by kernel_rfl
theorem OwnW.keep {w w1 : World} {base : Nat} {v : Value} {l : List Nat} (h : OwnW w base v l) (hb : Below w.heap.size w w1) : OwnW w1 base v l :=
  World.ownsRow.kept (row := none) h ⟨hb.os, hb.tape, hb.output, hb.size, fun k hk _ => hb.block k hk⟩ (by cases v.ownBlock <;> simp)
theorem OwnW.shape {w : World} {base : Nat} {v : Value} {l : List Nat} (h : OwnW w base v l) : ∃ ao cap, v = .slice ao l.length cap := by
  rcases h.2 with ⟨rfl, h0⟩ | ⟨g, cap, cur, rfl, _⟩
  · exact ⟨none, 0, by rw [h0]⟩
  · exact ⟨_, _, rfl⟩
theorem OwnW.shape1 {w : World} {base : Nat} {v : Value} {l : List Nat} (h : OwnW w base v l) (hl : 0 < l.length) : ∃ g cap, v = .slice (some ⟨g, 0, none⟩) l.length cap ∧ l.length ≤ cap ∧ cap ≤ 9223372036854775807 := by
  rcases h.2 with ⟨rfl, h0⟩ | ⟨g, cap, cur, rfl, _, _, h1, h2, _⟩
  · omega
  · exact ⟨g, cap, rfl, h1, by unfold maxLen at h2; omega⟩
theorem OwnW.cell {w : World} {base g cap : Nat} {l : List Nat} (h : OwnW w base (.slice (some ⟨g, 0, none⟩) l.length cap) l) (j : Nat) (hj : j < l.length) : w.cell? ⟨g, j, none⟩ = some (.int .u32 (l.getD j 0 : Nat)) := by
  have := World.ownsRow.cellAt h j (by omega)
  rw [this]
  unfold cellsW
  rw [List.getElem?_map, List.getElem?_eq_getElem hj, List.getD_eq_getElem?_getD, List.getElem?_eq_getElem hj]
  rfl
theorem OwnW.nil (w : World) (base : Nat) : OwnW w base (.slice none 0 0) [] := World.ownsRow_nil _ _ _ _
theorem grown_trans' {a b c : World} {row : Option Nat} (h : a.grownBy b row) (k : b.grownBy c row) : a.grownBy c row :=
  ⟨k.os.trans h.os, k.tape.trans h.tape, k.output.trans h.output, Nat.le_trans h.size k.size, fun i hi hn => (k.block i (Nat.lt_of_lt_of_le hi h.size) hn).trans (h.block i hi hn)⟩
theorem addr_zero' (b : Nat) : (⟨b, 0, none⟩ : Addr).add 0 = ⟨b, 0, none⟩ := by simp [Addr.add]
/-- append(w, x), one word. -/
theorem wpList_append_word {ops : Array Oper} {rest : List Oper} {o : Oper} {a : Act} {Q : Exit → Act → World → Prop} {w : World} (hgd : o.guard = none) (s x : Operand)
    (ho : o.op = .call { callee := .builtin .append, args := #[s, x], argTypes := #[91, 91] }) (base : Nat) (v : Value) (l : List Nat) (hs : a.eval s = v) (hown : OwnW w base v l)
    (c : Int) (b : Nat) (m : Nat) (hx : a.eval x = .slice (some ⟨m, 0, none⟩) 1 1) (hm : m = w.heap.size) (hc : c = b) (hl : l.length ≤ 1000000) (hb : base ≤ w.heap.size)
    (h : ∀ v' w', OwnW w' base v' (l ++ [b]) → Below base w w' → w.grownBy w' v.ownBlock → wpList Tryd.prog ops Q rest (a.put o.dst v') w') : wpList Tryd.prog ops Q (o :: rest) a (w.alloc (.cells #[.int .u32 c] 63)) := by
  subst hm
  obtain ⟨i0, hi, hz0, hz1, hz2⟩ := info_parts infoW
  refine wpList_append_own _ hgd s x 91 ho base 63 i0 (.int .u32 0) 1 4 Tryd.underlying91 hi hz0 hz1 hz2 rfl (by decide) v l.length (cellsW l) hs (World.ownsRow.alloc hown _) ⟨w.heap.size, 0, none⟩ 1 1 [.int .u32 c] hx rfl ?_ ?_ (by unfold maxLen; omega) (by omega) (by simp; omega) ?_
  · intro j u hj
    match j, hj with
    | 0, hj =>
      simp at hj; subst hj
      rw [addr_zero', World.cell?_alloc_new]
      rfl
  · intro u hu
    simp at hu; subst hu; rfl
  · intro v' w' h1 h2 _
    refine h v' w' ?_ ?_ (grown_trans' (World.grownBy_alloc w _ _) h2)
    · unfold OwnW
      rw [cellsW_append, List.length_append]
      show w'.ownsRow base 63 1 v' (l.length + 1) (cellsW l ++ [.int .u32 (b : Nat)])
      rw [← hc]; exact h1
    · exact ((Below.refl base w).alloc hb _).grown h2 (by simp; omega) (fun k hk => (hown.lt k hk).1)

/-! ### the first sixteen words -/
theorem words_snoc : ∀ (n : Nat) (l : List UInt8), ShaMath.words (n + 1) l = ShaMath.words n l ++ [ShaMath.word4 ((l.drop (4 * n)).take 4)]
  | 0, l => rfl
  | n + 1, l => by
    show _ :: ShaMath.words (n + 1) (l.drop 4) = _ :: ShaMath.words n (l.drop 4) ++ _
    rw [words_snoc n (l.drop 4), List.drop_drop, show 4 + 4 * n = 4 * (n + 1) by omega]
    rfl
theorem words_length : ∀ (n : Nat) (l : List UInt8), (ShaMath.words n l).length = n
  | 0, _ => rfl
  | n + 1, l => by simp [ShaMath.words, words_length n]
theorem num_word4 (l : List UInt8) : num l 0 = (ShaMath.word4 l : Int) := by
  have h : ∀ (l : List UInt8) (n : Nat), num l (n : Int) = ((l.foldl (fun n c => n * 256 + c.toNat) n : Nat) : Int) := by
    intro l
    induction l with
    | nil => intro n; rfl
    | cons c l ih =>
      intro n
      show num l ((n : Int) * 256 + c.toNat) = _
      rw [show (n : Int) * 256 + (c.toNat : Int) = ((n * 256 + c.toNat : Nat) : Int) by simp]
      exact ih _
  exact h l 0
theorem word4_lt (l : List UInt8) (h : l.length = 4) : ShaMath.word4 l < 4294967296 := by
  have h1 := num_range l 0
  rw [num_word4, h] at h1
  have : (256 : Int) ^ 4 = 4294967296 := by decide
  omega
end Go.Proofs.YtcnemacakjemjaaDoor

/-! ARRAYS AND STRUCTS IN BLOCKS OF THEIR OWN: what a block holds, behind stores, allocs, calls; a whole array in and out; an array's element. CONDITIONS: each theorem's own hypotheses. -/
namespace Go.Proofs.YtcnemacakjemjaaDoor
open Go.RowKit CodeMath
set_option linter.unusedVariables false

/-- A block of cells. -/
def Blk (w : World) (b : Nat) (T : TypeId) (cs : List Value) : Prop := w.heap[b]? = some (.cells cs.toArray T (0, 0))
theorem Blk.new (w : World) (cs : Array Value) (T : TypeId) : Blk (w.alloc (.cells cs T)) w.heap.size T cs.toList := by
  unfold Blk
  rw [heap_alloc_new]
theorem Blk.lt {w : World} {b : Nat} {T : TypeId} {cs : List Value} (h : Blk w b T cs) : b < w.heap.size := by
  unfold Blk at h
  exact (Array.getElem?_eq_some_iff.1 h).1
theorem Blk.same {w w' : World} {b : Nat} {T : TypeId} {cs : List Value} (h : Blk w b T cs) (e : w'.heap[b]? = w.heap[b]?) : Blk w' b T cs := e.trans h
theorem Blk.keep {w w' : World} {M b : Nat} {T : TypeId} {cs : List Value} (h : Blk w b T cs) (hb : Below M w w') (hM : b < M) : Blk w' b T cs := h.same (hb.block b hM)
theorem Blk.call {w w' : World} {b : Nat} {T : TypeId} {cs : List Value} (h : Blk w b T cs) (hb : Below w.heap.size w w') : Blk w' b T cs := h.keep hb h.lt
theorem Blk.cell {w : World} {b : Nat} {T : TypeId} {cs : List Value} (h : Blk w b T cs) {j : Nat} {v : Value} (hv : cs[j]? = some v) : w.cell? ⟨b, j, none⟩ = some v := by
  rw [cell_of_row w b j _ _ _ h]
  simpa using hv
theorem Blk.free {w : World} {b : Nat} {T : TypeId} {cs : List Value} (h : Blk w b T cs) (j : Nat) : w.frozen? ⟨b, j, none⟩ = false := frozen_of_row w b j _ _ h
theorem Blk.set {w : World} {b : Nat} {T : TypeId} {cs : List Value} (h : Blk w b T cs) (j : Nat) (v : Value) : Blk (w.setCell ⟨b, j, none⟩ v) b T (cs.set j v) := by
  unfold Blk
  rw [heap_setCell_same w b j _ _ v h]
  simp
theorem Blk.other {w : World} {b : Nat} {T : TypeId} {cs : List Value} (h : Blk w b T cs) (a : Addr) (v : Value) (ha : b ≠ a.block) : Blk (w.setCell a v) b T cs := h.same (heap_setCell_other w a b v ha)
theorem Blk.alloc {w : World} {b : Nat} {T : TypeId} {cs : List Value} (h : Blk w b T cs) (o : Obj) : Blk (w.alloc o) b T cs := h.same (Below.heap_alloc w o b h.lt)
theorem Blk.drew {w : World} {b : Nat} {T : TypeId} {cs : List Value} (h : Blk w b T cs) : Blk w.drew b T cs := h
theorem Blk.range {w : World} {b : Nat} {T : TypeId} {cs : List Value} (h : Blk w b T cs) (o n : Nat) : w.rangeAt b o ((cs.drop o).take n) := by
  have := World.rangeAt_of_block h o n
  have e : (cs.toArray.extract o (o + n)).toList = (cs.drop o).take n := by
    simp [List.extract]
  rwa [e] at this
theorem Blk.there {w : World} {b : Nat} {T : TypeId} {cs : List Value} (h : Blk w b T cs) (o n : Nat) (hn : o + n ≤ cs.length) : w.there b o n := fun j hj => by
  refine ⟨?_, h.free _⟩
  rw [h.cell (List.getElem?_eq_getElem (by omega : o + j < cs.length))]
  rfl
theorem Blk.sets {T : TypeId} {b : Nat} : ∀ (vs : List Value) {w : World} {cs : List Value} (o : Nat), Blk w b T cs → o + vs.length ≤ cs.length → Blk (w.setCells b o vs) b T (cs.take o ++ (vs ++ cs.drop (o + vs.length)))
  | [], w, cs, o, h, hl => by
    have : cs.take o ++ ([] ++ cs.drop (o + 0)) = cs := by simp
    show Blk w b T _
    rw [List.length_nil, this]; exact h
  | v :: vs, w, cs, o, h, hl => by
    have h1 := Blk.sets vs (o + 1) (h.set o v) (by simp at hl ⊢; omega)
    have ho : o < cs.length := by simp at hl; omega
    have e : (cs.set o v).take (o + 1) ++ (vs ++ (cs.set o v).drop (o + 1 + vs.length)) = cs.take o ++ (v :: vs ++ cs.drop (o + (v :: vs).length)) := by
      rw [List.take_succ_eq_append_getElem (by simpa using ho), List.take_set_of_le (by omega), List.getElem_set_self, List.drop_set_of_lt (by omega), List.append_assoc, List.singleton_append, List.cons_append, List.length_cons]
      rw [show o + 1 + vs.length = o + (vs.length + 1) by omega]
    rw [e] at h1
    exact h1
theorem setCells_block (b : Nat) : ∀ (vs : List Value) (o : Nat) (w : World) (k : Nat), k ≠ b → (w.setCells b o vs).heap[k]? = w.heap[k]?
  | [], o, w, k, h => rfl
  | v :: vs, o, w, k, h => (setCells_block b vs (o + 1) (w.setCell ⟨b, o, none⟩ v) k h).trans (heap_setCell_other w ⟨b, o, none⟩ k v h)
theorem setCells_size (b : Nat) : ∀ (vs : List Value) (o : Nat) (w : World), (w.setCells b o vs).heap.size = w.heap.size
  | [], o, w => rfl
  | v :: vs, o, w => (setCells_size b vs (o + 1) (w.setCell ⟨b, o, none⟩ v)).trans (by unfold World.setCell; simp)
theorem Blk.setsOther {w : World} {b k : Nat} {T : TypeId} {cs : List Value} (h : Blk w b T cs) (o : Nat) (vs : List Value) (hk : b ≠ k) : Blk (w.setCells k o vs) b T cs := h.same (setCells_block k vs o w b hk)
theorem below_sets {B : Nat} {a : World} (b : Nat) (hb : B ≤ b) : ∀ (vs : List Value) (o : Nat) {w : World}, Below B a w → Below B a (w.setCells b o vs)
  | [], o, w, h => h
  | v :: vs, o, w, h => below_sets b hb vs (o + 1) (h.setCell (p := ⟨b, o, none⟩) hb v)

/-! ### lists of numbers as cells -/
def u8s (l : List UInt8) : List Value := l.map fun x => .int .u8 x.toNat
def u32s (l : List Nat) : List Value := l.map fun x => .int .u32 (x : Nat)
theorem u8s_length (l : List UInt8) : (u8s l).length = l.length := by simp [u8s]
theorem u32s_length (l : List Nat) : (u32s l).length = l.length := by simp [u32s]
theorem u8s_get {l : List UInt8} {j : Nat} {c : UInt8} (h : l[j]? = some c) : (u8s l)[j]? = some (.int .u8 c.toNat) := by simp [u8s, h]
theorem u32s_get {l : List Nat} {j : Nat} {c : Nat} (h : l[j]? = some c) : (u32s l)[j]? = some (.int .u32 (c : Nat)) := by simp [u32s, h]
theorem u32s_set (l : List Nat) (j c : Nat) : (u32s l).set j (.int .u32 (c : Nat)) = u32s (l.set j c) := by
  unfold u32s; rw [← List.map_set]
theorem u8s_set (l : List UInt8) (j : Nat) (c : UInt8) : (u8s l).set j (.int .u8 (c.toNat : Nat)) = u8s (l.set j c) := by
  unfold u8s; rw [← List.map_set (f := fun x : UInt8 => Value.int .u8 x.toNat)]
theorem u8s_one (l : List UInt8) : ∀ v ∈ u8s l, v.oneCell' = true := by
  intro v hv; obtain ⟨x, _, rfl⟩ := List.mem_map.1 hv; rfl
theorem u32s_one (l : List Nat) : ∀ v ∈ u32s l, v.oneCell' = true := by
  intro v hv; obtain ⟨x, _, rfl⟩ := List.mem_map.1 hv; rfl

/-- An array's element. -/
theorem run_index_in {P : Program} {t e : TypeId} {n : Nat} (w : World) (cs : List Value) (i : Nat) (v : Value) (ht : P.underlying t = some (.array n e)) (hn : cs.length = n) (hs : ∀ w, (sizeOf e).run P w = .ok 1 w) (ha : ∀ w, (isAgg e).run P w = .ok false w) (hv : cs[i]? = some v) :
    (Instr.index t (.agg cs.toArray) (.int .i64 (i : Int))).run P w = .ok v w := by
  have hi : i < cs.length := (List.getElem?_eq_some_iff.1 hv).1
  have h1 : (0 : Int) ≤ i ∧ (i : Int) < n := by omega
  have h2 : i < n := by omega
  simp [Instr.index, run_underlying ht, asIntOf, h2, hs, ha, hv, go_sem]
theorem size_u8 (w : World) : (sizeOf 5).run Tryd.prog w = .ok 1 w := by kernel_rfl
theorem agg_u8 (w : World) : (isAgg 5).run Tryd.prog w = .ok false w := by kernel_rfl
theorem size_u32 (w : World) : (sizeOf 63).run Tryd.prog w = .ok 1 w := by kernel_rfl
theorem agg_u32 (w : World) : (isAgg 63).run Tryd.prog w = .ok false w := by kernel_rfl
theorem run_index_u8s {t : TypeId} {n : Nat} (ht : Tryd.prog.underlying t = some (.array n 5)) (l : List UInt8) (hn : l.length = n) (i : Nat) (c : UInt8) (hv : l[i]? = some c) (w : World) :
    (Instr.index t (.agg (u8s l).toArray) (.int .i64 (i : Int))).run Tryd.prog w = .ok (.int .u8 c.toNat) w := run_index_in w (u8s l) i _ ht (by rw [u8s_length, hn]) size_u8 agg_u8 (u8s_get hv)
theorem run_index_u32s {t : TypeId} {n : Nat} (ht : Tryd.prog.underlying t = some (.array n 63)) (l : List Nat) (hn : l.length = n) (i : Nat) (c : Nat) (hv : l[i]? = some c) (w : World) :
    (Instr.index t (.agg (u32s l).toArray) (.int .i64 (i : Int))).run Tryd.prog w = .ok (.int .u32 (c : Nat)) w := run_index_in w (u32s l) i _ ht (by rw [u32s_length, hn]) size_u32 agg_u32 (u32s_get hv)
/-- A result that is a whole block. -/
theorem results_arr {fn : Func} {p : Tmp} {T : TypeId} {d : TypeDesc} (h : fn.results = #[.cell p T]) (tmps : Array Value) (w : World) (g : Nat) (cs : List Value) (hp : tmps.getD p undef = .pointer (some ⟨g, 0, none⟩)) (hg : Blk w g T cs)
    (hu : Tryd.prog.underlying T = some d) (hd : d.isRow = true) (hi : (Tryd.prog.info? T).map (·.size) = some cs.length) :
    (results fn tmps).run Tryd.prog w = .ok (.agg cs.toArray) w :=
  results_cell_row h tmps w g T cs.toArray (0, 0) d hp hg hu (by cases d <;> simp_all) (by simpa using hi)
/-- A whole array or struct out of a block. -/
theorem load_arr {T : TypeId} {d : TypeDesc} {w : World} {g : Nat} {cs : List Value} {T0 : TypeId} (hg : Blk w g T0 cs) (o n : Nat) (hn : o + n ≤ cs.length)
    (hu : Tryd.prog.underlying T = some d) (hd : d.isRow = true) (hi : (Tryd.prog.info? T).map (·.size) = some n) :
    (Instr.loadAt T (.pointer (some ⟨g, o, none⟩))).run Tryd.prog w = .ok (.agg ((cs.drop o).take n).toArray) w :=
  run_loadAt_mid w g o T _ d (hg.range o n) hu hd (by simpa [show min n (cs.length - o) = n by omega] using hi)
/-- A whole array or struct into a block. -/
theorem store_arr {T : TypeId} {w : World} {g : Nat} {cs : List Value} {T0 : TypeId} (hg : Blk w g T0 cs) (o : Nat) (vs : List Value) (hn : o + vs.length ≤ cs.length) (hi : (Tryd.prog.info? T).map (·.size) = some vs.length) (h1 : ∀ v ∈ vs, v.oneCell' = true) :
    (Instr.storeAt T (.pointer (some ⟨g, o, none⟩)) (.agg vs.toArray)).run Tryd.prog w = .ok () (w.setCells g o vs) := by
  have := run_storeAt_mid (P := Tryd.prog) w g o T vs.toArray (by simpa using hg.there o vs.length hn) (by simpa using hi) (all_oneCell_toArray h1)
  simpa using this
theorem Blk.atNew {w : World} {g : Nat} (cs : Array Value) (T : TypeId) (h : w.heap.size = g) : Blk (w.alloc (.cells cs T)) g T cs.toList := by
  subst h; exact Blk.new w cs T
theorem load_whole {T : TypeId} {d : TypeDesc} {w : World} {g : Nat} {cs : List Value} {T0 : TypeId} (hg : Blk w g T0 cs)
    (hu : Tryd.prog.underlying T = some d) (hd : d.isRow = true) (hi : (Tryd.prog.info? T).map (·.size) = some cs.length) :
    (Instr.loadAt T (.pointer (some ⟨g, 0, none⟩))).run Tryd.prog w = .ok (.agg cs.toArray) w := by
  have := load_arr (T := T) hg 0 cs.length (by omega) hu hd hi
  simpa using this
/-- A whole array or struct loaded out of a block. -/
theorem wpList_load_blk {ops : Array Oper} {rest : List Oper} {o : Oper} {a : Act} {w : World} {Q : Exit → Act → World → Prop} (hgd : o.guard = none) (T : TypeId) (x : Operand) (ho : o.op = .load T x)
    (g off n : Nat) (hx : a.eval x = .pointer (some ⟨g, off, none⟩)) (T0 : TypeId) (cs : List Value) (hB : Blk w g T0 cs) (hn : off + n ≤ cs.length) (V : Array Value) (hV : ((cs.drop off).take n).toArray = V) (d : TypeDesc)
    (hu : Tryd.prog.underlying T = some d) (hd : d.isRow = true) (hi : (Tryd.prog.info? T).map (·.size) = some n)
    (h : wpList Tryd.prog ops Q rest (a.put o.dst (.agg V)) w) : wpList Tryd.prog ops Q (o :: rest) a w := by
  subst hV
  exact wpList_load_mid hgd T x ho g off hx ((cs.drop off).take n) d (hB.range off n) hu hd (by rw [hi, List.length_take, List.length_drop, Nat.min_eq_left (by omega)]) h
/-- A whole array or struct stored into a block. -/
theorem wpList_store_blk {ops : Array Oper} {rest : List Oper} {o : Oper} {a : Act} {w : World} {Q : Exit → Act → World → Prop} (hgd : o.guard = none) (T : TypeId) (x y : Operand) (ho : o.op = .store T x y)
    (g off : Nat) (hx : a.eval x = .pointer (some ⟨g, off, none⟩)) (T0 : TypeId) (cs : List Value) (hB : Blk w g T0 cs) (vs : List Value) (V : Array Value) (hV : V.toList = vs) (hy : a.eval y = .agg V) (hn : off + vs.length ≤ cs.length)
    (hi : (Tryd.prog.info? T).map (·.size) = some vs.length) (h1 : ∀ v ∈ vs, v.oneCell' = true)
    (h : ∀ w', w.grownBy w' (some g) → w'.heap.size = w.heap.size → Blk w' g T0 (cs.take off ++ (vs ++ cs.drop (off + vs.length))) → wpList Tryd.prog ops Q rest (a.put o.dst undef) w') : wpList Tryd.prog ops Q (o :: rest) a w := by
  subst hV
  refine wpList_store_mid hgd T x y ho g off V hx hy (by simpa using hB.there off V.toList.length hn) (by simpa using hi) (by simpa using all_oneCell_toArray h1) ?_
  have hbz := below_sets (B := 0) g (Nat.zero_le _) V.toList off (Below.refl 0 w)
  refine h _ ⟨hbz.os, hbz.tape, hbz.output, ?_, ?_⟩ (setCells_size _ _ _ _) (Blk.sets _ _ hB hn)
  · rw [setCells_size]; exact Nat.le_refl _
  · intro k hk hne; exact setCells_block g _ _ _ k (fun e => hne (by rw [e]))
/-- The world behind a letter, and what is known of it. -/
theorem wp_gen {P : Program} {c : Code} {Q : Exit → Act → World → Prop} {a : Act} {w : World} (R : World → Prop) (h : R w) (k : ∀ W, R W → Code.wp P c Q a W) : Code.wp P c Q a w := k w h
theorem wp_gen_exit {Q : Exit → Act → World → Prop} {e : Exit} {a : Act} {w : World} (R : World → Prop) (h : R w) (k : ∀ W, R W → Q e a W) : Q e a w := k w h
theorem wpList_gen {P : Program} {ops : Array Oper} {l : List Oper} {Q : Exit → Act → World → Prop} {a : Act} {w : World} (R : World → Prop) (h : R w) (k : ∀ W, R W → wpList P ops Q l a W) : wpList P ops Q l a w := k w h
theorem shl8_or (x c : Nat) (hx : x < 16777216) (hc : c < 256) : bits .or .u32 ((x : Int) * 256 % 4294967296) (c : Int) = ((x * 256 + c : Nat) : Int) := by
  have e : (x : Int) * 256 % 4294967296 = ((x * 256 : Nat) : Int) := by omega
  rw [e, u32_or_nat _ _ (by omega) (by omega)]
  congr 1
  have := Nat.shiftLeft_add_eq_or_of_lt (i := 8) (b := c) hc x
  rw [Nat.shiftLeft_eq] at this
  exact this.symm
end Go.Proofs.YtcnemacakjemjaaDoor

/-! CONTRACTS of package sum's turn, and the words of a block (spread). CONDITIONS: each theorem's own hypotheses. -/
namespace Go.Proofs.YtcnemacakjemjaaDoor
open Go.RowKit CodeMath
set_option linter.unusedVariables false

theorem low5 : ∀ m : Fin 32, 1 ≤ m.val → bits .and .u64 (IntKind.u64.wrap (-((32 - m.val : Nat) : Int))) 31 = (m.val : Int) := by decide +kernel
theorem turned_bits (x m : Nat) (hx : x < 4294967296) (h1 : 1 ≤ m) (h2 : m ≤ 31) :
    bits .or .u32 ((x : Int) * 2 ^ m % 4294967296) ((x : Int) / 2 ^ (32 - m)) = ((ShaMath.rot x (32 - m) : Nat) : Int) := by
  have e1 : (x : Int) / 2 ^ (32 - m) = ((x >>> (32 - m) : Nat) : Int) := by rw [Nat.shiftRight_eq_div_pow]; simp
  have e2 : (x : Int) * 2 ^ m % 4294967296 = (((x <<< m) % 4294967296 : Nat) : Int) := by rw [Nat.shiftLeft_eq]; simp
  have l1 : x >>> (32 - m) < 4294967296 := by rw [Nat.shiftRight_eq_div_pow]; exact Nat.lt_of_le_of_lt (Nat.div_le_self _ _) hx
  rw [e1, e2, u32_or_nat _ _ (Nat.mod_lt _ (by decide)) l1, Nat.or_comm]
  unfold ShaMath.rot ShaMath.w32
  rw [show 32 - (32 - m) = m by omega]
theorem rotl_any (x m : Nat) (w : World) (hx : x < 4294967296) (h1 : 1 ≤ m) (h2 : m ≤ 31) :
    Calls Tryd.prog 66 #[.int .u32 x, .int .i64 (-((32 - m : Nat) : Int))] w fun e w' => e = .returned (.int .u32 (ShaMath.rot x (32 - m) : Nat)) ∧ w = w' := by
  have n0 : (1 : Int) ≤ m := by omega
  have n1 : (m : Int) ≤ 31 := by omega
  have hk := low5 ⟨m, by omega⟩ h1
  simp only at hk
  have hr := turned_bits x m hx h1 h2
  generalize -((32 - m : Nat) : Int) = N at hk
  go_enter Tryd.func66, Tryd.ntmps66
  go_wp2
  go_ret
  exact ⟨rfl, rfl⟩
theorem turn_any (x n : Nat) (w : World) (hx : x < 4294967296) (h1 : 1 ≤ n) (h2 : n ≤ 31) :
    Calls Tryd.prog 64 #[.int .u32 x, .int .i64 n] w fun e w' => e = .returned (.int .u32 (ShaMath.rot x n : Nat)) ∧ w = w' := by
  have c := rotl_any x (32 - n) w hx (by omega) (by omega)
  rw [show 32 - (32 - n) = n by omega] at c
  have n0 : (1 : Int) ≤ n := by omega
  have n1 : (n : Int) ≤ 31 := by omega
  go_enter Tryd.func64, Tryd.ntmps64
  go_wp2_with (go_at_call 66; refine c.mono ?_; rintro e w2 ⟨rfl, rfl⟩)
  go_ret
  exact ⟨rfl, rfl⟩
theorem turn_same (x n : Nat) (w : World) (hx : x < 4294967296) (h1 : 1 ≤ n) (h2 : n ≤ 31) :
    Calls Tryd.prog 64 #[.int .u32 x, .int .i64 n] w fun e w' => e = .returned (.int .u32 (ShaMath.rot x n : Nat)) ∧ w' = w := (turn_any x n w hx h1 h2).mono fun _ _ ⟨h, k⟩ => ⟨h, k.symm⟩
theorem shr_lt (a k : Nat) (h : a < 4294967296) : a >>> k < 4294967296 := by
  rw [Nat.shiftRight_eq_div_pow]; exact Nat.lt_of_le_of_lt (Nat.div_le_self _ _) h
theorem small1_bits (a : Nat) (h : a < 4294967296) : bits .xor .u32 (bits .xor .u32 ((ShaMath.rot a 17 : Nat) : Int) ((ShaMath.rot a 19 : Nat) : Int)) ((a : Int) / 1024) = ((ShaMath.small1 a : Nat) : Int) := by
  have e : (a : Int) / (1024 : Int) = ((a >>> 10 : Nat) : Int) := by rw [Nat.shiftRight_eq_div_pow]; simp
  rw [e, u32_xor_nat _ _ (rot_lt a 17 h) (rot_lt a 19 h), u32_xor_nat _ _ (Nat.xor_lt_two_pow (n := 32) (rot_lt a 17 h) (rot_lt a 19 h)) (shr_lt a 10 h)]
  rfl
theorem small0_bits (a : Nat) (h : a < 4294967296) : bits .xor .u32 (bits .xor .u32 ((ShaMath.rot a 7 : Nat) : Int) ((ShaMath.rot a 18 : Nat) : Int)) ((a : Int) / 8) = ((ShaMath.small0 a : Nat) : Int) := by
  have e : (a : Int) / (8 : Int) = ((a >>> 3 : Nat) : Int) := by rw [Nat.shiftRight_eq_div_pow]; simp
  rw [e, u32_xor_nat _ _ (rot_lt a 7 h) (rot_lt a 18 h), u32_xor_nat _ _ (Nat.xor_lt_two_pow (n := 32) (rot_lt a 7 h) (rot_lt a 18 h)) (shr_lt a 3 h)]
  rfl
theorem small1_lt (a : Nat) (h : a < 4294967296) : ShaMath.small1 a < 4294967296 := Nat.xor_lt_two_pow (n := 32) (Nat.xor_lt_two_pow (n := 32) (rot_lt a 17 h) (rot_lt a 19 h)) (shr_lt a 10 h)
theorem small0_lt (a : Nat) (h : a < 4294967296) : ShaMath.small0 a < 4294967296 := Nat.xor_lt_two_pow (n := 32) (Nat.xor_lt_two_pow (n := 32) (rot_lt a 7 h) (rot_lt a 18 h)) (shr_lt a 3 h)
theorem big1_bits (a : Nat) (h : a < 4294967296) : bits .xor .u32 (bits .xor .u32 ((ShaMath.rot a 6 : Nat) : Int) ((ShaMath.rot a 11 : Nat) : Int)) ((ShaMath.rot a 25 : Nat) : Int) = ((ShaMath.big1 a : Nat) : Int) := by
  rw [u32_xor_nat _ _ (rot_lt a 6 h) (rot_lt a 11 h), u32_xor_nat _ _ (Nat.xor_lt_two_pow (n := 32) (rot_lt a 6 h) (rot_lt a 11 h)) (rot_lt a 25 h)]
  rfl
theorem big0_bits (a : Nat) (h : a < 4294967296) : bits .xor .u32 (bits .xor .u32 ((ShaMath.rot a 2 : Nat) : Int) ((ShaMath.rot a 13 : Nat) : Int)) ((ShaMath.rot a 22 : Nat) : Int) = ((ShaMath.big0 a : Nat) : Int) := by
  rw [u32_xor_nat _ _ (rot_lt a 2 h) (rot_lt a 13 h), u32_xor_nat _ _ (Nat.xor_lt_two_pow (n := 32) (rot_lt a 2 h) (rot_lt a 13 h)) (rot_lt a 22 h)]
  rfl
theorem big1_lt (a : Nat) (h : a < 4294967296) : ShaMath.big1 a < 4294967296 := Nat.xor_lt_two_pow (n := 32) (Nat.xor_lt_two_pow (n := 32) (rot_lt a 6 h) (rot_lt a 11 h)) (rot_lt a 25 h)
theorem big0_lt (a : Nat) (h : a < 4294967296) : ShaMath.big0 a < 4294967296 := Nat.xor_lt_two_pow (n := 32) (Nat.xor_lt_two_pow (n := 32) (rot_lt a 2 h) (rot_lt a 13 h)) (rot_lt a 22 h)
end Go.Proofs.YtcnemacakjemjaaDoor

/-! PLAIN MATHEMATICS of the words of a block, byte by byte and word by word. CONDITIONS: each theorem's own hypotheses. -/
namespace Go.Proofs.YtcnemacakjemjaaDoor
open ShaMath
set_option linter.unusedVariables false

theorem word4_snoc (m : List UInt8) (c : UInt8) : word4 (m ++ [c]) = word4 m * 256 + c.toNat := by simp [word4]
theorem word4_small : ∀ (m : List UInt8), word4 m < 256 ^ m.length := by
  intro m
  have h : ∀ (m : List UInt8) (n k : Nat), n < 256 ^ k → m.foldl (fun n c => n * 256 + c.toNat) n < 256 ^ (k + m.length) := by
    intro m
    induction m with
    | nil => intro n k h; exact h
    | cons c m ih =>
      intro n k h
      have := c.toNat_lt
      have h2 := ih (n * 256 + c.toNat) (k + 1) (by rw [Nat.pow_succ]; omega)
      rw [List.length_cons, show k + (m.length + 1) = k + 1 + m.length by omega]
      exact h2
  have := h m 0 0 (by decide)
  rwa [Nat.zero_add] at this
/-- What word j holds when i bytes are in. -/
def wpart (l : List UInt8) (i j : Nat) : Nat := word4 ((l.drop (4 * j)).take (min 4 (i - 4 * j)))
def W1 (l : List UInt8) (i : Nat) : List Nat := (List.range 64).map (wpart l i)
theorem W1_length (l : List UInt8) (i : Nat) : (W1 l i).length = 64 := by simp [W1]
theorem W1_get (l : List UInt8) (i j : Nat) (h : j < 64) : (W1 l i)[j]? = some (wpart l i j) := by simp [W1, h]
theorem wpart_other (l : List UInt8) (i j : Nat) (h : j ≠ i / 4) : wpart l (i + 1) j = wpart l i j := by
  unfold wpart
  have : min 4 (i + 1 - 4 * j) = min 4 (i - 4 * j) := by omega
  rw [this]
theorem wpart_step (l : List UInt8) (i : Nat) (c : UInt8) (h : l[i]? = some c) : wpart l (i + 1) (i / 4) = wpart l i (i / 4) * 256 + c.toNat := by
  unfold wpart
  have e1 : min 4 (i + 1 - 4 * (i / 4)) = (i - 4 * (i / 4)) + 1 := by omega
  have e2 : min 4 (i - 4 * (i / 4)) = i - 4 * (i / 4) := by omega
  have hi := (List.getElem?_eq_some_iff.1 h).1
  have hl : i - 4 * (i / 4) < (l.drop (4 * (i / 4))).length := by rw [List.length_drop]; omega
  rw [e1, e2, List.take_succ_eq_append_getElem hl, word4_snoc]
  congr 2
  rw [List.getElem_drop]
  have e3 : 4 * (i / 4) + (i - 4 * (i / 4)) = i := by omega
  have := (List.getElem?_eq_some_iff.1 h).2
  simp only [e3]
  exact this
theorem wpart_lt (l : List UInt8) (i : Nat) : wpart l i (i / 4) < 16777216 := by
  unfold wpart
  have h := word4_small ((l.drop (4 * (i / 4))).take (min 4 (i - 4 * (i / 4))))
  have hl : ((l.drop (4 * (i / 4))).take (min 4 (i - 4 * (i / 4)))).length ≤ 3 := by rw [List.length_take]; omega
  have := Nat.pow_le_pow_right (show 0 < 256 by decide) hl
  have e : 256 ^ 3 = 16777216 := by decide
  omega
theorem W1_set (l : List UInt8) (i : Nat) (c : UInt8) (h : l[i]? = some c) (hi : i < 64) : (W1 l i).set (i / 4) (wpart l i (i / 4) * 256 + c.toNat) = W1 l (i + 1) := by
  apply List.ext_getElem?
  intro j
  rw [List.getElem?_set, W1_length]
  by_cases hj : i / 4 = j
  · subst hj
    rw [if_pos rfl, if_pos (by omega), W1_get l (i + 1) _ (by omega), wpart_step l i c h]
  · rw [if_neg hj]
    by_cases h64 : j < 64
    · rw [W1_get _ _ _ h64, W1_get _ _ _ h64, wpart_other l i j (Ne.symm hj)]
    · rw [List.getElem?_eq_none (by rw [W1_length]; omega), List.getElem?_eq_none (by rw [W1_length]; omega)]
theorem words_get : ∀ (n : Nat) (l : List UInt8) (j : Nat), j < n → (words n l)[j]? = some (word4 ((l.drop (4 * j)).take 4))
  | n + 1, l, 0, _ => by simp [words]
  | n + 1, l, j + 1, h => by
    simp only [words, List.getElem?_cons_succ]
    rw [words_get n (l.drop 4) j (by omega), List.drop_drop, show 4 + 4 * j = 4 * (j + 1) by omega]
theorem W1_zero (l : List UInt8) : W1 l 0 = List.replicate 64 0 := by
  apply List.ext_getElem?
  intro j
  by_cases h : j < 64
  · rw [W1_get _ _ _ h, List.getElem?_replicate, if_pos h]
    simp [wpart, word4]
  · rw [List.getElem?_eq_none (by rw [W1_length]; omega), List.getElem?_eq_none (by simp; omega)]
theorem W1_end (l : List UInt8) (hl : l.length = 64) : W1 l 64 = words 16 l ++ List.replicate 48 0 := by
  apply List.ext_getElem?
  intro j
  by_cases h : j < 16
  · rw [W1_get _ _ _ (by omega), List.getElem?_append_left (by rw [words_length]; omega), words_get 16 l j h]
    unfold wpart
    rw [show min 4 (64 - 4 * j) = 4 by omega]
  · by_cases h2 : j < 64
    · rw [W1_get _ _ _ h2, List.getElem?_append_right (by rw [words_length]; omega), words_length, List.getElem?_replicate, if_pos (by omega)]
      unfold wpart
      rw [show min 4 (64 - 4 * j) = 0 by omega]
      rfl
    · rw [List.getElem?_eq_none (by rw [W1_length]; omega), List.getElem?_eq_none (by simp [words_length]; omega)]

/-! ### the later words -/
theorem extend_succ : ∀ (n : Nat) (w : List Nat), extend (n + 1) w = extend n w ++ [nextW (extend n w)]
  | 0, w => rfl
  | n + 1, w => by
    show extend (n + 1) (w ++ [nextW w]) = _
    rw [extend_succ n]
    rfl
theorem extend_length : ∀ (n : Nat) (w : List Nat), (extend n w).length = w.length + n
  | 0, w => rfl
  | n + 1, w => by rw [extend_succ, List.length_append, extend_length n w]; simp; omega
theorem nextW_lt (w : List Nat) : nextW w < 4294967296 := Nat.mod_lt _ (by decide)
theorem words_lt : ∀ (n : Nat) (l : List UInt8), ∀ x ∈ words n l, x < 4294967296
  | 0, _, x, h => by simp [words] at h
  | n + 1, l, x, h => by
    simp only [words, List.mem_cons] at h
    rcases h with rfl | h
    · have h1 := word4_small (l.take 4)
      have hl : (l.take 4).length ≤ 4 := by rw [List.length_take]; omega
      have := Nat.pow_le_pow_right (show 0 < 256 by decide) hl
      have e : 256 ^ 4 = 4294967296 := by decide
      omega
    · exact words_lt n _ x h
theorem extend_lt : ∀ (n : Nat) (w : List Nat), (∀ x ∈ w, x < 4294967296) → ∀ x ∈ extend n w, x < 4294967296
  | 0, w, h, x, hx => h x hx
  | n + 1, w, h, x, hx => by
    rw [extend_succ, List.mem_append] at hx
    rcases hx with hx | hx
    · exact extend_lt n w h x hx
    · simp at hx; subst hx; exact nextW_lt _
/-- All words when so many are made. -/
def E2 (l : List UInt8) (n : Nat) : List Nat := extend n (words 16 l) ++ List.replicate (48 - n) 0
theorem E2_length (l : List UInt8) (n : Nat) (hn : n ≤ 48) : (E2 l n).length = 64 := by
  unfold E2
  rw [List.length_append, extend_length, words_length, List.length_replicate]; omega
theorem E2_get (l : List UInt8) (n j : Nat) (hj : j < 16 + n) : (E2 l n)[j]? = some ((extend n (words 16 l)).getD j 0) := by
  unfold E2
  have hl : j < (extend n (words 16 l)).length := by rw [extend_length, words_length]; omega
  rw [List.getElem?_append_left hl, List.getElem?_eq_getElem hl, List.getD_eq_getElem?_getD, List.getElem?_eq_getElem hl]
  rfl
theorem E2_lt (l : List UInt8) (n j : Nat) : (extend n (words 16 l)).getD j 0 < 4294967296 := by
  rw [List.getD_eq_getElem?_getD]
  cases h : (extend n (words 16 l))[j]? with
  | none => decide
  | some x => exact extend_lt n _ (words_lt 16 l) x (List.mem_of_getElem? h)
theorem E2_set (l : List UInt8) (n : Nat) (hn : n < 48) : (E2 l n).set (16 + n) (nextW (extend n (words 16 l))) = E2 l (n + 1) := by
  unfold E2
  have hl : (extend n (words 16 l)).length = 16 + n := by rw [extend_length, words_length]
  rw [List.set_append_right _ _ (by omega), hl, Nat.sub_self, show 48 - n = (48 - (n + 1)) + 1 by omega, List.replicate_succ, List.set_cons_zero, extend_succ, List.append_assoc]
  rfl
theorem E2_end (l : List UInt8) : E2 l 48 = sched l := by
  unfold E2 sched
  simp
theorem nextW_sum (l : List UInt8) (n a b c d : Nat)
    (ha : (extend n (words 16 l)).getD (14 + n) 0 = a) (hb : (extend n (words 16 l)).getD (9 + n) 0 = b) (hc : (extend n (words 16 l)).getD (1 + n) 0 = c) (hd : (extend n (words 16 l)).getD n 0 = d) :
    (((small1 a + b) % 4294967296 + small0 c) % 4294967296 + d) % 4294967296 = nextW (extend n (words 16 l)) := by
  unfold nextW
  have hl : (extend n (words 16 l)).length = 16 + n := by rw [extend_length, words_length]
  rw [hl, show 16 + n - 16 = n by omega, show 16 + n - 7 = 9 + n by omega, show 16 + n - 15 = 1 + n by omega, show 16 + n - 2 = 14 + n by omega, ha, hb, hc, hd]
  show _ = (d + b + small0 c + small1 a) % 4294967296
  omega
end Go.Proofs.YtcnemacakjemjaaDoor

/-! CONTRACT of package sum's spread: the words of a block. CONDITIONS: each theorem's own hypotheses. -/
namespace Go.Proofs.YtcnemacakjemjaaDoor
open Go.RowKit CodeMath
set_option linter.unusedVariables false

set_option maxRecDepth 100000 in
set_option maxHeartbeats 2000000 in
theorem spread_any (l : List UInt8) (w : World) (hl : l.length = 64) :
    Calls Tryd.prog 63 #[.agg (u8s l).toArray] w fun e w' => e = .returned (.agg (u32s (ShaMath.sched l)).toArray) ∧ Below w.heap.size w w' := by
  obtain ⟨A, hA⟩ : ∃ A, (u8s l).toArray = A := ⟨_, rfl⟩
  rw [hA]
  go_enter Tryd.func63, Tryd.ntmps63
  go_upto_region 2 with fail
  have hV : (((u8s l).drop 0).take 64).toArray = A := by rw [← hA, List.drop_zero, List.take_of_length_le (by rw [u8s_length]; omega)]
  refine wp_gen (fun W => Blk W w.heap.size 72 (u8s l) ∧ Blk W (w.heap.size + 1) 94 (u32s (List.replicate 64 0)) ∧ Blk W (w.heap.size + 1 + 1) 94 (u32s (W1 l 0)) ∧ Below w.heap.size w W) ?_ ?_
  · have e0 : ∀ (a b : Array Value) (S T : TypeId), (((w.alloc (.cells A 72)).alloc (.cells a S)).heap.size = w.heap.size + 1 + 1) ∧ ((w.alloc (.cells A 72)).heap.size = w.heap.size + 1) := fun a b S T => ⟨by simp, by simp⟩
    refine ⟨?_, ?_, ?_, ?_⟩
    · have := ((Blk.new w A 72).alloc (.cells #[] 0)).alloc (.cells #[] 0)
      rw [← hA] at this ⊢
      exact ((Blk.new w (u8s l).toArray 72).alloc _).alloc _
    · exact (Blk.atNew (w := w.alloc (.cells A 72)) (g := w.heap.size + 1) _ _ (e0 #[] #[] 0 0).2).alloc _
    · rw [W1_zero]
      exact Blk.atNew _ _ (e0 _ #[] _ 0).1
    · exact (((Below.refl _ _).alloc (Nat.le_refl _) _).alloc (by simp) _).alloc (by simp; omega) _
  · rintro W ⟨b1, b2, b3, hb⟩
    go_wp2_with (with_reducible refine wpList_load_blk rfl 72 (.tmp 1) rfl w.heap.size 0 64 rfl _ (u8s l) b1 (by rw [u8s_length]; omega) A hV _ rfl rfl (by kernel_rfl) ?_)
    go_loopw [10] (fun ix wr => ∃ i : Nat, i ≤ 64 ∧ ix = .int .i64 i ∧ Hid (Blk wr (w.heap.size + 1 + 1) 94 (u32s (W1 l i))) ∧ Hid (Blk wr (w.heap.size + 1) 94 (u32s (List.replicate 64 0))) ∧ Below w.heap.size w wr) (fun ix _ => 64 - (intOf ix).toNat)
    case atStart => exact ⟨0, by omega, rfl, Lib.hid b3, Lib.hid b2, hb⟩
    case round =>
      obtain ⟨i, hi, rfl, h3, h2, hbw⟩ := hrel
      by_cases h64 : i < 64
      · obtain ⟨c, hc⟩ : ∃ c, l[i]? = some c := ⟨l[i], List.getElem?_eq_getElem (by omega)⟩
        have hidx := fun W => run_index_u8s (t := 72) rfl l hl i c hc W
        rw [hA] at hidx
        have hcell := h3.out.cell (u32s_get (W1_get l i (i / 4) (by omega)))
        have hfz := h3.out.free (i / 4)
        have hx := shl8_or (wpart l i (i / 4)) c.toNat (wpart_lt l i) c.toNat_lt
        have hset := h3.out.set (i / 4) (.int .u32 ((wpart l i (i / 4) * 256 + c.toNat : Nat) : Int))
        rw [u32s_set, W1_set l i c hc h64] at hset
        have hoth := h2.out.other ⟨w.heap.size + 1 + 1, i / 4, none⟩ (.int .u32 ((wpart l i (i / 4) * 256 + c.toNat : Nat) : Int)) (by simp)
        have HS := Lib.hid hset
        have HO := Lib.hid hoth
        generalize wpart l i (i / 4) = X at hcell hx HS HO
        have HX := Lib.hid hx
        have hcI : (c.toNat : Int) ≤ 255 := by have := c.toNat_lt; omega
        clear hset hoth hx hV b1 b2 b3 hb hc
        go_wp2
        go_roundw
        case rel => exact ⟨i + 1, by omega, by go_num, by rw [HX.out]; exact HS, by rw [HX.out]; exact HO, hbw.setCell (by simp; omega) _⟩
        case measure => simp [intOf]; omega
      · have hi64 : i = 64 := by omega
        have h4 := h3.out
        rw [hi64, W1_end l hl] at h4
        clear hi64
        have H4 : Hid (Blk wr (w.heap.size + 1 + 1) 94 (u32s (E2 l 0))) := Lib.hid h4
        clear h3 h4 hV b1 b2 b3 hb
        go_wp2_with fail
        obtain ⟨w0, hw0⟩ : ∃ w0 : World, w0 = wr := ⟨_, rfl⟩
        rw [← hw0] at hbw H4 h2 ⊢
        clear hw0
        go_loopw [6] (fun ix wr => ∃ m : Nat, 16 ≤ m ∧ m ≤ 64 ∧ ix = .int .i64 m ∧ Hid (Blk wr (w.heap.size + 1 + 1) 94 (u32s (E2 l (m - 16)))) ∧ Hid (Blk wr (w.heap.size + 1) 94 (u32s (List.replicate 64 0))) ∧ Below w.heap.size w wr) (fun ix _ => 64 - (intOf ix).toNat)
        case atStart => exact ⟨16, by omega, by omega, rfl, H4, h2, hbw⟩
        case round =>
          obtain ⟨m, hm0, hm1, rfl, h3, h2', hbr⟩ := hrel
          by_cases h64 : m < 64
          · have ga := h3.out.cell (u32s_get (E2_get l (m - 16) (m - 2) (by omega)))
            have gb := h3.out.cell (u32s_get (E2_get l (m - 16) (m - 7) (by omega)))
            have gc := h3.out.cell (u32s_get (E2_get l (m - 16) (m - 15) (by omega)))
            have gd := h3.out.cell (u32s_get (E2_get l (m - 16) (m - 16) (by omega)))
            have la := E2_lt l (m - 16) (m - 2)
            have lb := E2_lt l (m - 16) (m - 7)
            have lc := E2_lt l (m - 16) (m - 15)
            have ld := E2_lt l (m - 16) (m - 16)
            have hsum := nextW_sum l (m - 16) _ _ _ _ (by rw [show 14 + (m - 16) = m - 2 by omega]) (by rw [show 9 + (m - 16) = m - 7 by omega]) (by rw [show 1 + (m - 16) = m - 15 by omega]) rfl
            generalize (ShaMath.extend (m - 16) (ShaMath.words 16 l)).getD (m - 2) 0 = a at ga la hsum
            generalize (ShaMath.extend (m - 16) (ShaMath.words 16 l)).getD (m - 7) 0 = b at gb lb hsum
            generalize (ShaMath.extend (m - 16) (ShaMath.words 16 l)).getD (m - 15) 0 = c at gc lc hsum
            generalize (ShaMath.extend (m - 16) (ShaMath.words 16 l)).getD (m - 16) 0 = d at gd ld hsum
            have HSUM := Lib.hid hsum
            have mI0 : (16 : Int) ≤ m := by omega
            have mI1 : (m : Int) < 64 := by omega
            clear hsum H4 h2 hbw
            go_wp2_with fail
            go_quiet (fail)
            have k3 : Blk (wr.drewN nq) (w.heap.size + 1 + 1) 94 (u32s (E2 l (m - 16))) := h3.out.same rfl
            have k2 : Blk (wr.drewN nq) (w.heap.size + 1) 94 (u32s (List.replicate 64 0)) := h2'.out.same rfl
            have kb : Below w.heap.size w (wr.drewN nq) := ⟨hbr.os, hbr.tape, hbr.output, hbr.size, hbr.block⟩
            have gb' : (wr.drewN nq).cell? ⟨w.heap.size + 1 + 1, m - 7, none⟩ = some (.int .u32 b) := gb
            have gd' : (wr.drewN nq).cell? ⟨w.heap.size + 1 + 1, m - 16, none⟩ = some (.int .u32 d) := gd
            clear h3 h2' hbr ga gb gc gd
            generalize wr.drewN nq = W2 at k3 k2 kb gb' gd' ⊢
            have t17 := fun W => turn_any a 17 W la (by decide) (by decide)
            have t19 := fun W => turn_any a 19 W la (by decide) (by decide)
            have t7 := fun W => turn_any c 7 W lc (by decide) (by decide)
            have t18 := fun W => turn_any c 18 W lc (by decide) (by decide)
            have s1 := small1_bits a la
            have s0 := small0_bits c lc
            have s1l := small1_lt a la
            have s0l := small0_lt c lc
            have hN := nextW_lt (ShaMath.extend (m - 16) (ShaMath.words 16 l))
            have hst := k3.set m (.int .u32 ((ShaMath.nextW (ShaMath.extend (m - 16) (ShaMath.words 16 l)) : Nat) : Int))
            have hE := E2_set l (m - 16) (by omega)
            rw [show 16 + (m - 16) = m by omega, show m - 16 + 1 = m + 1 - 16 by omega] at hE
            rw [u32s_set, hE] at hst
            have hot := k2.other ⟨w.heap.size + 1 + 1, m, none⟩ (.int .u32 ((ShaMath.nextW (ShaMath.extend (m - 16) (ShaMath.words 16 l)) : Nat) : Int)) (by simp)
            have hsm := HSUM.out
            generalize ShaMath.nextW (ShaMath.extend (m - 16) (ShaMath.words 16 l)) = N at hst hot hsm hN
            generalize ShaMath.rot a 17 = ra at t17 s1
            generalize ShaMath.rot a 19 = rb at t19 s1
            generalize ShaMath.rot c 7 = rc at t7 s0
            generalize ShaMath.rot c 18 = rd at t18 s0
            generalize ShaMath.small1 a = S1 at s1 s1l hsm
            generalize ShaMath.small0 c = S0 at s0 s0l hsm
            have hsI : ((S1 : Int) + b + S0 + d) % 4294967296 = (N : Int) := by omega
            have HI := Lib.hid hsI
            have HST := Lib.hid hst
            have HOT := Lib.hid hot
            obtain ⟨u0, hu0⟩ : ∃ u, W2.cell? ⟨w.heap.size + 1 + 1, m, none⟩ = some u := ⟨_, k3.cell (List.getElem?_eq_getElem (by rw [u32s_length, E2_length l _ (by omega)]; omega))⟩
            have hfz := k3.free m
            clear hsm hsI hst hot hE HSUM k3 k2
            go_wp2_with (first
              | (go_at_call_of 64 (Value.int .i64 17); refine (t17 _).mono ?_; rintro e w' ⟨rfl, rfl⟩)
              | (go_at_call_of 64 (Value.int .i64 19); refine (t19 _).mono ?_; rintro e w' ⟨rfl, rfl⟩)
              | (go_at_call_of 64 (Value.int .i64 7); refine (t7 _).mono ?_; rintro e w' ⟨rfl, rfl⟩)
              | (go_at_call_of 64 (Value.int .i64 18); refine (t18 _).mono ?_; rintro e w' ⟨rfl, rfl⟩))
            have w7 : IntKind.i64.wrap ((m : Int) - 7) = ((m - 7 : Nat) : Int) := by simp [IntKind.wrap, IntKind.signed, IntKind.bits]; omega
            have w16 : IntKind.i64.wrap ((m : Int) - 16) = ((m - 16 : Nat) : Int) := by simp [IntKind.wrap, IntKind.signed, IntKind.bits]; omega
            obtain ⟨p7, hp7⟩ : ∃ p, m - 7 = p := ⟨_, rfl⟩
            obtain ⟨p16, hp16⟩ : ∃ p, m - 16 = p := ⟨_, rfl⟩
            rw [hp7] at gb' w7
            rw [hp16] at gd' w16
            have l7 : (p7 : Int) < 64 := by omega
            have l16 : (p16 : Int) < 64 := by omega
            clear hp7 hp16
            go_still_tail 15, (by kernel_rfl)
            change wpList _ _ _ _ _ W2.drew
            go_wp2
            go_roundw
            case rel =>
              refine ⟨m + 1, by omega, by omega, by go_num, Lib.hid ?_, Lib.hid ?_, ?_⟩
              · rw [HI.out]; exact HST.out
              · rw [HI.out]; exact HOT.out
              · exact (kb.setCell (by simp; omega) _).drew
            case measure => simp [intOf]; omega
          · obtain rfl : m = 64 := by omega
            have k3 := h3.out
            have k2 := h2'.out
            rw [show 64 - 16 = 48 from rfl, E2_end] at k3
            have hsl : (ShaMath.sched l).length = 64 := by rw [← E2_end, E2_length l 48 (by omega)]
            have hV2 : (((u32s (ShaMath.sched l)).drop 0).take 64).toArray = (u32s (ShaMath.sched l)).toArray := by rw [List.drop_zero, List.take_of_length_le (by rw [u32s_length]; omega)]
            generalize hS : ShaMath.sched l = S at k3 hsl hV2
            have HS := Lib.hid hS
            obtain ⟨B, hB⟩ : ∃ B, (u32s S).toArray = B := ⟨_, rfl⟩
            rw [hB] at hV2
            clear h3 h2' hS H4 h2 hbw
            go_wp2_with (first
              | (with_reducible refine wpList_load_blk rfl 94 (.tmp 3) rfl (w.heap.size + 1 + 1) 0 64 rfl _ (u32s S) k3 (by rw [u32s_length]; omega) B hV2 _ rfl rfl (by kernel_rfl) ?_)
              | (with_reducible refine wpList_store_blk rfl 94 (.tmp 2) (.tmp 69) rfl (w.heap.size + 1) 0 rfl _ _ k2 (u32s S) B (by rw [← hB]) rfl (by rw [u32s_length, u32s_length, List.length_replicate]; omega) (by rw [u32s_length, hsl]; kernel_rfl) (u32s_one S) ?_; intro w4 hg4 hs4 hB4))
            refine bodyPost_ret (results_arr rfl _ _ (w.heap.size + 1) (u32s S) rfl ?_ rfl rfl (by rw [u32s_length, hsl]; kernel_rfl)) rfl ⟨?_, ?_⟩
            · rw [Nat.zero_add, List.take_zero, List.nil_append, List.drop_of_length_le (by rw [u32s_length, u32s_length, List.length_replicate, hsl]; exact Nat.le_refl _), List.append_nil] at hB4; exact hB4
            · rw [HS.out]
            · exact hbr.grown hg4 hbr.size (fun k h => by cases h; simp)
end Go.Proofs.YtcnemacakjemjaaDoor

/-! PLAIN MATHEMATICS of the rounds: step by step; the code's choice and majority by xor are the ones by or. CONDITIONS: each theorem's own hypotheses. -/
namespace Go.Proofs.YtcnemacakjemjaaDoor
open Go ShaMath
set_option linter.unusedVariables false

structure Ok8 (h : St) : Prop where
  p : h.p < 4294967296
  q : h.q < 4294967296
  r : h.r < 4294967296
  s : h.s < 4294967296
  t : h.t < 4294967296
  u : h.u < 4294967296
  v : h.v < 4294967296
  x : h.x < 4294967296
def lst (h : St) : List Nat := [h.p, h.q, h.r, h.s, h.t, h.u, h.v, h.x]
theorem lst_length (h : St) : (lst h).length = 8 := rfl
theorem rounds_snoc : ∀ (n : Nat) (k w : List Nat) (h : St), roundsN (n + 1) k w h = round (roundsN n k w h) (k.getD n 0) (w.getD n 0)
  | 0, k, w, h => rfl
  | n + 1, k, w, h => by
    show roundsN (n + 1) (k.drop 1) (w.drop 1) (round h (k.getD 0 0) (w.getD 0 0)) = _
    rw [rounds_snoc n]
    simp only [List.getD_eq_getElem?_getD, List.getElem?_drop]
    rw [show 1 + n = n + 1 by omega]
    rfl
theorem round_ok (h : St) (k w : Nat) (o : Ok8 h) : Ok8 (round h k w) :=
  ⟨Nat.mod_lt _ (by decide), o.p, o.q, o.r, Nat.mod_lt _ (by decide), o.t, o.u, o.v⟩
theorem rounds_ok : ∀ (n : Nat) (k w : List Nat) (h : St), Ok8 h → Ok8 (roundsN n k w h)
  | 0, _, _, _, o => o
  | n + 1, k, w, h, o => rounds_ok n _ _ _ (round_ok h _ _ o)
theorem plus_ok (a b : St) : Ok8 (plus a b) :=
  ⟨Nat.mod_lt _ (by decide), Nat.mod_lt _ (by decide), Nat.mod_lt _ (by decide), Nat.mod_lt _ (by decide), Nat.mod_lt _ (by decide), Nat.mod_lt _ (by decide), Nat.mod_lt _ (by decide), Nat.mod_lt _ (by decide)⟩

theorem not_nat (t : Nat) (h : t < 4294967296) : 4294967295 ^^^ t = 4294967295 - t := by
  apply Nat.eq_of_testBit_eq
  intro i
  have h1 := Nat.testBit_two_pow_sub_succ (n := 32) (x := t) h i
  have h2 := Nat.testBit_two_pow_sub_succ (n := 32) (x := 0) (by decide) i
  have e1 : 2 ^ 32 - (t + 1) = 4294967295 - t := by omega
  have e2 : (2 ^ 32 - (0 + 1) : Nat) = 4294967295 := by decide
  rw [e1] at h1
  rw [e2] at h2
  rw [Nat.testBit_xor, h1, h2]
  by_cases hi : i < 32
  · simp [hi]
  · have : t.testBit i = false := Nat.testBit_lt_two_pow (Nat.lt_of_lt_of_le h (show 2 ^ 32 ≤ 2 ^ i from Nat.pow_le_pow_right (by decide) (by omega)))
    simp [hi, this]
def choice (h : St) : Nat := (h.t &&& h.u) ||| ((w32 - 1 - h.t) &&& h.v)
def most (h : St) : Nat := ((h.p &&& h.q) ||| (h.p &&& h.r)) ||| (h.q &&& h.r)
theorem choice_nat (t u v : Nat) (ht : t < 4294967296) : (t &&& u) ^^^ ((4294967295 - t) &&& v) = (t &&& u) ||| ((4294967295 - t) &&& v) := by
  apply Nat.eq_of_testBit_eq
  intro i
  have h1 := Nat.testBit_two_pow_sub_succ (n := 32) (x := t) ht i
  have e1 : 2 ^ 32 - (t + 1) = 4294967295 - t := by omega
  rw [e1] at h1
  rw [Nat.testBit_xor, Nat.testBit_or, Nat.testBit_and, Nat.testBit_and, h1]
  cases t.testBit i <;> cases u.testBit i <;> cases v.testBit i <;> simp
theorem most_nat (p q r : Nat) : ((p &&& q) ^^^ (p &&& r)) ^^^ (q &&& r) = ((p &&& q) ||| (p &&& r)) ||| (q &&& r) := by
  apply Nat.eq_of_testBit_eq
  intro i
  rw [Nat.testBit_xor, Nat.testBit_xor, Nat.testBit_or, Nat.testBit_or, Nat.testBit_and, Nat.testBit_and, Nat.testBit_and]
  cases p.testBit i <;> cases q.testBit i <;> cases r.testBit i <;> rfl
theorem and_lt (a b : Nat) (h : a < 4294967296) : a &&& b < 4294967296 := Nat.lt_of_le_of_lt Nat.and_le_left h
theorem choice_bits (h : St) (o : Ok8 h) : bits .xor .u32 (bits .and .u32 (h.t : Int) (h.u : Int)) (bits .and .u32 (bits .xor .u32 IntKind.u32.max (h.t : Int)) (h.v : Int)) = ((choice h : Nat) : Int) := by
  rw [show IntKind.u32.max = ((4294967295 : Nat) : Int) from rfl, u32_xor_nat _ _ (by decide) o.t, not_nat _ o.t, u32_and_nat _ _ o.t o.u, u32_and_nat _ _ (by omega) o.v, u32_xor_nat _ _ (and_lt _ _ o.t) (and_lt _ _ (by omega)), choice_nat _ _ _ o.t]
  rfl
theorem choice_bits2 (h : St) (o : Ok8 h) : bits .xor .u32 (bits .and .u32 (h.t : Int) (h.u : Int)) (bits .and .u32 (bits .xor .u32 (if IntKind.u32.signed = true then -1 else IntKind.u32.max) (h.t : Int)) (h.v : Int)) = ((choice h : Nat) : Int) := by
  rw [show (if IntKind.u32.signed = true then (-1 : Int) else IntKind.u32.max) = IntKind.u32.max from rfl]
  exact choice_bits h o
theorem most_bits (h : St) (o : Ok8 h) : bits .xor .u32 (bits .xor .u32 (bits .and .u32 (h.p : Int) (h.q : Int)) (bits .and .u32 (h.p : Int) (h.r : Int))) (bits .and .u32 (h.q : Int) (h.r : Int)) = ((most h : Nat) : Int) := by
  rw [u32_and_nat _ _ o.p o.q, u32_and_nat _ _ o.p o.r, u32_and_nat _ _ o.q o.r, u32_xor_nat _ _ (and_lt _ _ o.p) (and_lt _ _ o.p), u32_xor_nat _ _ (Nat.xor_lt_two_pow (n := 32) (and_lt _ _ o.p) (and_lt _ _ o.p)) (and_lt _ _ o.q), most_nat]
  rfl
theorem one_sum (h : St) (k w : Nat) : (((h.x : Int) + (big1 h.t : Nat) + (choice h : Nat) + (k : Nat) + (w : Nat)) % 4294967296 : Int) = ((one h k w : Nat) : Int) := by
  unfold one choice w32
  omega
theorem two_sum (h : St) : (((big0 h.p : Nat) : Int) + (most h : Nat)) % 4294967296 = ((two h : Nat) : Int) := by
  unfold two most w32
  omega

theorem cast_add_mod (a b : Nat) : ((a : Int) + b) % 4294967296 = (((a + b) % 4294967296 : Nat) : Int) := by omega
/-! ### adding what was before -/
def addL (G H : List Nat) (i : Nat) : List Nat := (List.range 8).map fun j => if j < i then (G.getD j 0 + H.getD j 0) % 4294967296 else G.getD j 0
theorem addL_length (G H : List Nat) (i : Nat) : (addL G H i).length = 8 := by simp [addL]
theorem addL_get (G H : List Nat) (i j : Nat) (hj : j < 8) : (addL G H i)[j]? = some (if j < i then (G.getD j 0 + H.getD j 0) % 4294967296 else G.getD j 0) := by simp [addL, hj]
theorem addL_here (G H : List Nat) (i : Nat) (hi : i < 8) : (addL G H i)[i]? = some (G.getD i 0) := by
  rw [addL_get G H i i hi, if_neg (by omega)]
theorem addL_set (G H : List Nat) (i : Nat) (hi : i < 8) : (addL G H i).set i ((G.getD i 0 + H.getD i 0) % 4294967296) = addL G H (i + 1) := by
  apply List.ext_getElem?
  intro j
  rw [List.getElem?_set, addL_length]
  by_cases hj : i = j
  · subst hj
    rw [if_pos rfl, if_pos hi, addL_get G H (i + 1) i hi, if_pos (by omega)]
  · rw [if_neg hj]
    by_cases h8 : j < 8
    · rw [addL_get _ _ _ _ h8, addL_get _ _ _ _ h8]
      by_cases h : j < i
      · rw [if_pos h, if_pos (by omega)]
      · rw [if_neg h, if_neg (by omega)]
    · rw [List.getElem?_eq_none (by rw [addL_length]; omega), List.getElem?_eq_none (by rw [addL_length]; omega)]
theorem addL_zero (g h : St) : addL (lst g) (lst h) 0 = lst g := by simp [addL, lst, List.range_succ]
theorem addL_end (g h : St) : addL (lst g) (lst h) 8 = lst (plus h g) := by
  simp [addL, lst, List.range_succ, plus, w32, Nat.add_comm]
theorem lst_get (h : St) (j : Nat) (hj : j < 8) : (lst h)[j]? = some ((lst h).getD j 0) := by
  rw [List.getD_eq_getElem?_getD, List.getElem?_eq_getElem (by rw [lst_length]; exact hj)]
  rfl
end Go.Proofs.YtcnemacakjemjaaDoor

/-! CONTRACT of package sum's stir: a block worked in. CONDITIONS: package sum's roundWords hold what their initialiser lays ('KW'). -/
namespace Go.Proofs.YtcnemacakjemjaaDoor
open Go.RowKit CodeMath
set_option linter.unusedVariables false

/-- The words of the rounds lie where their variable is. -/
def KW (w : World) : Prop := 0 < w.heap.size ∧ ∀ i x, ShaMath.kk[i]? = some x → w.cell? ⟨0, i, none⟩ = some (.int .u32 (x : Nat))
theorem KW.keep {w w' : World} {B : Nat} (h : KW w) (hb : Below B w w') (hB : w.heap.size ≤ B) : KW w' :=
  ⟨Nat.lt_of_lt_of_le h.1 hb.size, fun i x hx => (hb.cell (p := ⟨0, i, none⟩) (Nat.lt_of_lt_of_le h.1 hB)).trans (h.2 i x hx)⟩
theorem kk_length : ShaMath.kk.length = 64 := rfl
theorem kk_get (i : Nat) (h : i < 64) : ShaMath.kk[i]? = some (ShaMath.kk.getD i 0) := by
  rw [List.getD_eq_getElem?_getD, List.getElem?_eq_getElem (by rw [kk_length]; exact h)]
  rfl
set_option maxRecDepth 100000 in
set_option maxHeartbeats 4000000 in
theorem stir_any (h : ShaMath.St) (o : Ok8 h) (l : List UInt8) (w : World) (hl : l.length = 64) (hT : KW w) :
    Calls Tryd.prog 59 #[.agg (u32s (lst h)).toArray, .agg (u8s l).toArray] w fun e w' => e = .returned (.agg (u32s (lst (ShaMath.blk h l))).toArray) ∧ Below w.heap.size w w' := by
  obtain ⟨A, hA⟩ : ∃ A, (u8s l).toArray = A := ⟨_, rfl⟩
  obtain ⟨H, hH⟩ : ∃ H, (u32s (lst h)).toArray = H := ⟨_, rfl⟩
  rw [hA, hH]
  go_enter Tryd.func59, Tryd.ntmps59
  go_upto_region 1 with fail
  refine wp_gen (fun W => Blk W w.heap.size 71 (u32s (lst h)) ∧ Blk W (w.heap.size + 1) 72 (u8s l) ∧ Blk W (w.heap.size + 1 + 1) 71 (u32s (List.replicate 8 0)) ∧ Below w.heap.size w W) ?_ ?_
  · have e0 : ∀ (a b : Array Value) (S T : TypeId), (((w.alloc (.cells H 71)).alloc (.cells a S)).heap.size = w.heap.size + 1 + 1) ∧ ((w.alloc (.cells H 71)).heap.size = w.heap.size + 1) := fun a b S T => ⟨by simp, by simp⟩
    refine ⟨?_, ?_, ?_, ?_⟩
    · rw [← hH]
      exact ((Blk.new w (u32s (lst h)).toArray 71).alloc _).alloc _
    · rw [← hA]
      exact (Blk.atNew (w := w.alloc (.cells H 71)) (g := w.heap.size + 1) (u8s l).toArray _ (e0 #[] #[] 0 0).2).alloc _
    · exact Blk.atNew _ _ (e0 _ #[] _ 0).1
    · exact (((Below.refl _ _).alloc (Nat.le_refl _) _).alloc (by simp) _).alloc (by simp; omega) _
  · rintro W ⟨b1, b2, b3, hb⟩
    have c0 := b1.cell (u32s_get (show (lst h)[0]? = some h.p from rfl))
    have c1 := b1.cell (u32s_get (show (lst h)[1]? = some h.q from rfl))
    have c2 := b1.cell (u32s_get (show (lst h)[2]? = some h.r from rfl))
    have c3 := b1.cell (u32s_get (show (lst h)[3]? = some h.s from rfl))
    have c4 := b1.cell (u32s_get (show (lst h)[4]? = some h.t from rfl))
    have c5 := b1.cell (u32s_get (show (lst h)[5]? = some h.u from rfl))
    have c6 := b1.cell (u32s_get (show (lst h)[6]? = some h.v from rfl))
    have c7 := b1.cell (u32s_get (show (lst h)[7]? = some h.x from rfl))
    go_quiet (fail)
    go_wp2_with fail
    go_quiet (fail)
    rename_i nq1 nq2
    refine wp_gen_exit (fun W2 => Blk W2 w.heap.size 71 (u32s (lst h)) ∧ Blk W2 (w.heap.size + 1) 72 (u8s l) ∧ Blk W2 (w.heap.size + 1 + 1) 71 (u32s (List.replicate 8 0)) ∧ Below w.heap.size w W2) ⟨b1.same rfl, b2.same rfl, b3.same rfl, ⟨hb.os, hb.tape, hb.output, hb.size, hb.block⟩⟩ ?_
    clear b1 b2 b3 hb c0 c1 c2 c3 c4 c5 c6 c7
    rintro W2 ⟨b1, b2, b3, hb⟩
    have hV : (((u8s l).drop 0).take 64).toArray = A := by rw [← hA, List.drop_zero, List.take_of_length_le (by rw [u8s_length]; omega)]
    have cS := fun W => spread_any l W hl
    rw [hA] at cS
    obtain ⟨B, hB⟩ : ∃ B, (u32s (ShaMath.sched l)).toArray = B := ⟨_, rfl⟩
    rw [hB] at cS
    go_wp2_with (first
      | (with_reducible refine wpList_load_blk rfl 72 (.tmp 3) rfl (w.heap.size + 1) 0 64 rfl _ (u8s l) b2 (by rw [u8s_length]; omega) A hV _ rfl rfl (by kernel_rfl) ?_)
      | (go_at_call 63; refine (cS _).mono ?_; rintro e w4 ⟨rfl, hb4⟩))
    have hsl : (ShaMath.sched l).length = 64 := by rw [← E2_end, E2_length l 48 (by omega)]
    have k1 := b1.call hb4
    have k3 := b3.call hb4
    have kb : Below w.heap.size w w4 := below_step hb hb.size hb4
    clear b1 b2 b3 hb hb4 cS hV
    generalize hS : ShaMath.sched l = S at hsl hB
    have HS := Lib.hid hS
    clear hS
    go_loopw [5, 6, 7, 8, 9, 10, 11, 12, 39] (fun t5 t6 t7 t8 t9 t10 t11 t12 ix wr => ∃ (i : Nat) (g : ShaMath.St), i ≤ 64 ∧ ix = .int .i64 i ∧ Hid (g = ShaMath.roundsN i ShaMath.kk S h) ∧ t5 = .int .u32 (g.p : Nat) ∧ t6 = .int .u32 (g.q : Nat) ∧ t7 = .int .u32 (g.r : Nat) ∧ t8 = .int .u32 (g.s : Nat) ∧ t9 = .int .u32 (g.t : Nat) ∧ t10 = .int .u32 (g.u : Nat) ∧ t11 = .int .u32 (g.v : Nat) ∧ t12 = .int .u32 (g.x : Nat) ∧ Hid (Blk wr w.heap.size 71 (u32s (lst h))) ∧ Hid (Blk wr (w.heap.size + 1 + 1) 71 (u32s (List.replicate 8 0))) ∧ Below w.heap.size w wr) (fun _ _ _ _ _ _ _ _ ix _ => 64 - (intOf ix).toNat)
    case atStart => exact ⟨0, h, by omega, rfl, Lib.hid rfl, rfl, rfl, rfl, rfl, rfl, rfl, rfl, rfl, Lib.hid k1, Lib.hid k3, kb⟩
    case round =>
      obtain ⟨i, g, hi, rfl, hg, rfl, rfl, rfl, rfl, rfl, rfl, rfl, rfl, h1, h3, hbr⟩ := hrel
      by_cases h64 : i < 64
      · have hidx := fun W => run_index_u32s (t := 94) rfl S hsl i (S.getD i 0) (by rw [List.getD_eq_getElem?_getD, List.getElem?_eq_getElem (by omega)]; rfl) W
        rw [hB] at hidx
        have hk := (hT.keep hbr (Nat.le_refl _)).2 i _ (kk_get i h64)
        have hnext : Hid (ShaMath.round g (ShaMath.kk.getD i 0) (S.getD i 0) = ShaMath.roundsN (i + 1) ShaMath.kk S h) := Lib.hid (by rw [rounds_snoc, ← hg.out])
        obtain ⟨sx, hsx⟩ : ∃ sx, S.getD i 0 = sx := ⟨_, rfl⟩
        obtain ⟨kx, hkx⟩ : ∃ kx, ShaMath.kk.getD i 0 = kx := ⟨_, rfl⟩
        rw [hsx] at hidx hnext
        rw [hkx] at hk hnext
        clear hsx hkx
        have og : Ok8 g := by rw [hg.out]; exact rounds_ok _ _ _ _ o
        have z1 := choice_bits2 g og
        have z2 := most_bits g og
        have z3 := big1_bits g.t og.t
        have z4 := big0_bits g.p og.p
        have z5 := Lib.hid (one_sum g kx sx)
        have z6 := Lib.hid (two_sum g)
        have t6 := fun W => turn_same g.t 6 W og.t (by decide) (by decide)
        have t11 := fun W => turn_same g.t 11 W og.t (by decide) (by decide)
        have t25 := fun W => turn_same g.t 25 W og.t (by decide) (by decide)
        have t2 := fun W => turn_any g.p 2 W og.p (by decide) (by decide)
        have t13 := fun W => turn_any g.p 13 W og.p (by decide) (by decide)
        have t22 := fun W => turn_any g.p 22 W og.p (by decide) (by decide)
        have hr : (ShaMath.round g kx sx).p = (ShaMath.one g kx sx + ShaMath.two g) % 4294967296 ∧ (ShaMath.round g kx sx).t = (g.s + ShaMath.one g kx sx) % 4294967296 := ⟨rfl, rfl⟩
        generalize ShaMath.rot g.t 6 = r6 at t6 z3
        generalize ShaMath.rot g.t 11 = r11 at t11 z3
        generalize ShaMath.rot g.t 25 = r25 at t25 z3
        generalize ShaMath.rot g.p 2 = r2 at t2 z4
        generalize ShaMath.rot g.p 13 = r13 at t13 z4
        generalize ShaMath.rot g.p 22 = r22 at t22 z4
        have HR := Lib.hid hr
        have iI : (i : Int) < 64 := by omega
        clear hr hg k1 k3 kb og
        go_upto_region 8 with fail
        go_quiet (first
          | (go_at_call_of 64 (Value.int .i64 6); refine Calls.quiet_of_same (t6 _))
          | (go_at_call_of 64 (Value.int .i64 11); refine Calls.quiet_of_same (t11 _))
          | (go_at_call_of 64 (Value.int .i64 25); refine Calls.quiet_of_same (t25 _)))
        have k1 : Blk (wr.drewN nq) w.heap.size 71 (u32s (lst h)) := h1.out.same rfl
        have k3 : Blk (wr.drewN nq) (w.heap.size + 1 + 1) 71 (u32s (List.replicate 8 0)) := h3.out.same rfl
        have kb : Below w.heap.size w (wr.drewN nq) := ⟨hbr.os, hbr.tape, hbr.output, hbr.size, hbr.block⟩
        have K1 := Lib.hid k1
        have K3 := Lib.hid k3
        clear k1 k3 h1 h3 hbr
        generalize wr.drewN nq = W5 at K1 K3 kb ⊢
        go_wp2_with (first
          | (go_at_call_of 64 (Value.int .i64 2); refine (t2 _).mono ?_; rintro e w' ⟨rfl, rfl⟩)
          | (go_at_call_of 64 (Value.int .i64 13); refine (t13 _).mono ?_; rintro e w' ⟨rfl, rfl⟩)
          | (go_at_call_of 64 (Value.int .i64 22); refine (t22 _).mono ?_; rintro e w' ⟨rfl, rfl⟩))
        go_roundw
        case rel =>
          refine ⟨i + 1, ShaMath.round g kx sx, by omega, by go_num, hnext, ?_, rfl, rfl, rfl, ?_, rfl, rfl, rfl, K1, K3, kb⟩
          · rw [z5.out, z6.out, HR.out.1, cast_add_mod]
          · rw [z5.out, HR.out.2, cast_add_mod]
        case measure => simp [intOf]; omega
      · have hi64 : i = 64 := by omega
        have hgE := hg.out
        rw [hi64] at hgE
        have hblk : Hid (ShaMath.plus h g = ShaMath.blk h l) := Lib.hid (by rw [hgE, ← HS.out]; rfl)
        have iI : ¬ ((i : Int) < 64) := by omega
        clear hi64 hgE hg k1 k3 kb hsl
        go_upto_region 14 with fail
        have hsz := h3.out.lt
        refine wp_gen (fun W => Blk W wr.heap.size 71 (u32s (addL (lst g) (lst h) 0)) ∧ Blk W w.heap.size 71 (u32s (lst h)) ∧ Blk W (w.heap.size + 1 + 1) 71 (u32s (List.replicate 8 0)) ∧ Below w.heap.size w W) ⟨by rw [addL_zero]; exact Blk.new wr _ _, h1.out.alloc _, h3.out.alloc _, hbr.alloc hbr.size _⟩ ?_
        rintro W6 ⟨d1, d2, d3, db⟩
        generalize wr.heap.size = A6 at hsz d1 ⊢
        clear h1 h3 hbr h64 iI hi
        go_wp2_with fail
        go_loopw [112] (fun ix wr => ∃ j : Nat, j ≤ 8 ∧ ix = .int .i64 j ∧ Hid (Blk wr A6 71 (u32s (addL (lst g) (lst h) j))) ∧ Hid (Blk wr w.heap.size 71 (u32s (lst h))) ∧ Hid (Blk wr (w.heap.size + 1 + 1) 71 (u32s (List.replicate 8 0))) ∧ Below w.heap.size w wr) (fun ix _ => 8 - (intOf ix).toNat)
        case atStart => exact ⟨0, by omega, rfl, Lib.hid d1, Lib.hid d2, Lib.hid d3, db⟩
        case round =>
          obtain ⟨j, hj, rfl, e1, e2, e3, eb⟩ := hrel
          by_cases h8 : j < 8
          · have jI : (j : Int) < 8 := by omega
            have ca := e1.out.cell (u32s_get (addL_here (lst g) (lst h) j h8))
            have cb := e2.out.cell (u32s_get (lst_get h j h8))
            have cf := e1.out.free j
            have hst := e1.out.set j (.int .u32 ((((lst g).getD j 0 + (lst h).getD j 0) % 4294967296 : Nat) : Int))
            rw [u32s_set, addL_set _ _ _ h8] at hst
            have ho2 := e2.out.other ⟨A6, j, none⟩ (.int .u32 ((((lst g).getD j 0 + (lst h).getD j 0) % 4294967296 : Nat) : Int)) (by simp; omega)
            have ho3 := e3.out.other ⟨A6, j, none⟩ (.int .u32 ((((lst g).getD j 0 + (lst h).getD j 0) % 4294967296 : Nat) : Int)) (by simp; omega)
            generalize (lst g).getD j 0 = x at ca hst ho2 ho3
            generalize (lst h).getD j 0 = y at cb hst ho2 ho3
            rw [← cast_add_mod] at hst ho2 ho3
            have S1 := Lib.hid hst
            have S2 := Lib.hid ho2
            have S3 := Lib.hid ho3
            clear hst ho2 ho3 e1 e2 e3 d1 d2 d3 db
            go_upto_region 17 with fail
            go_still_tail 8, (by kernel_rfl)
            change wpList _ _ _ _ _ wr.drew
            go_wp2
            go_roundw
            case rel => exact ⟨j + 1, by omega, by go_num, S1, S2, S3, (eb.setCell (by simp; omega) _).drew⟩
            case measure => simp [intOf]; omega
          · have h8e : j = 8 := by omega
            have jI : ¬ ((j : Int) < 8) := by omega
            have k1 := e1.out
            have k3 := e3.out
            rw [h8e, addL_end, hblk.out] at k1
            clear h8e h8 e1 e2 e3 d1 d2 d3 db
            have hV : (((u32s (lst (ShaMath.blk h l))).drop 0).take 8).toArray = (u32s (lst (ShaMath.blk h l))).toArray := rfl
            obtain ⟨R, hR⟩ : ∃ R, (u32s (lst (ShaMath.blk h l))).toArray = R := ⟨_, rfl⟩
            rw [hR] at hV
            go_wp2_with (first
              | (with_reducible refine wpList_load_blk rfl 71 (.tmp 19) rfl A6 0 8 rfl _ (u32s (lst (ShaMath.blk h l))) k1 (by rw [u32s_length, lst_length]; omega) R hV _ rfl rfl (by kernel_rfl) ?_)
              | (with_reducible refine wpList_store_blk rfl 71 (.tmp 4) (.tmp 124) rfl (w.heap.size + 1 + 1) 0 rfl _ _ k3 (u32s (lst (ShaMath.blk h l))) R (by rw [← hR]) rfl (by rw [u32s_length, u32s_length, List.length_replicate, lst_length]; omega) (by rw [u32s_length, lst_length]; kernel_rfl) (u32s_one _) ?_; intro w7 hg7 hs7 hB7))
            refine bodyPost_ret (results_arr rfl _ _ (w.heap.size + 1 + 1) (u32s (lst (ShaMath.blk h l))) rfl ?_ rfl rfl (by rw [u32s_length, lst_length]; kernel_rfl)) rfl ⟨by rw [hR], ?_⟩
            · rw [Nat.zero_add, List.take_zero, List.nil_append, List.drop_of_length_le (by rw [u32s_length, u32s_length, List.length_replicate, lst_length]; exact Nat.le_refl _), List.append_nil] at hB7; exact hB7
            · exact eb.grown hg7 eb.size (fun k h => by cases h; omega)
end Go.Proofs.YtcnemacakjemjaaDoor

/-! CONTRACT of package sum's bytesOf: words as bytes. CONDITIONS: each theorem's own hypotheses. -/
namespace Go.Proofs.YtcnemacakjemjaaDoor
open Go.RowKit CodeMath
set_option linter.unusedVariables false

/-- The first bytes of a line, noughts behind them. -/
def fillZ (L : List UInt8) (i : Nat) : List UInt8 := L.take i ++ List.replicate (L.length - i) 0
theorem fillZ_length (L : List UInt8) (i : Nat) (h : i ≤ L.length) : (fillZ L i).length = L.length := by
  unfold fillZ; rw [List.length_append, List.length_take, List.length_replicate]; omega
theorem fillZ_set (L : List UInt8) (i : Nat) (c : UInt8) (h : L[i]? = some c) : (fillZ L i).set i c = fillZ L (i + 1) := by
  have hi := (List.getElem?_eq_some_iff.1 h).1
  have hc := (List.getElem?_eq_some_iff.1 h).2
  unfold fillZ
  rw [List.take_succ_eq_append_getElem hi, hc, List.set_append_right _ _ (by rw [List.length_take]; omega), List.length_take, Nat.min_eq_left (by omega), Nat.sub_self, show L.length - i = (L.length - (i + 1)) + 1 by omega, List.replicate_succ, List.set_cons_zero]
  simp
theorem fillZ_end (L : List UInt8) : fillZ L L.length = L := by simp [fillZ]
theorem fillZ_zero (L : List UInt8) : fillZ L 0 = List.replicate L.length 0 := by simp [fillZ]
theorem fillZ_some (L : List UInt8) (i : Nat) (h : i < L.length) : ∃ c, (fillZ L i)[i]? = some c := ⟨_, List.getElem?_eq_getElem (by rw [fillZ_length _ _ (by omega)]; exact h)⟩
/-- A byte of words. -/
theorem bytes_at4 (h : ShaMath.St) (i : Nat) (hi : i < 32) : h.bytes[i]? = some (lowB (((lst h).getD (i / 4) 0 : Nat) / 256 ^ (3 - i % 4))) := by
  have hq : i / 4 < 8 := by omega
  have e : i = 4 * (i / 4) + i % 4 := by omega
  have hr : i % 4 < 4 := by omega
  generalize i / 4 = q at e hq ⊢
  generalize i % 4 = r at e hr ⊢
  subst e
  rcases (show q = 0 ∨ q = 1 ∨ q = 2 ∨ q = 3 ∨ q = 4 ∨ q = 5 ∨ q = 6 ∨ q = 7 by omega) with rfl | rfl | rfl | rfl | rfl | rfl | rfl | rfl <;>
  rcases (show r = 0 ∨ r = 1 ∨ r = 2 ∨ r = 3 by omega) with rfl | rfl | rfl | rfl <;> rfl
theorem shifted' (n : Int) (j : Nat) : n / 2 ^ (8 * j) % 256 = ((lowB (n / 256 ^ j)).toNat : Int) := by
  rw [lowB_toNat, Int.pow_mul]; rfl
set_option maxRecDepth 100000 in
set_option maxHeartbeats 2000000 in
theorem bytesOf_any (h : ShaMath.St) (w : World) :
    Calls Tryd.prog 60 #[.agg (u32s (lst h)).toArray] w fun e w' => e = .returned (.agg (u8s h.bytes).toArray) ∧ Below w.heap.size w w' := by
  obtain ⟨H, hH⟩ : ∃ H, (u32s (lst h)).toArray = H := ⟨_, rfl⟩
  rw [hH]
  go_enter Tryd.func60, Tryd.ntmps60
  go_upto_region 2 with fail
  refine wp_gen (fun W => Blk W w.heap.size 71 (u32s (lst h)) ∧ Blk W (w.heap.size + 1) 68 (u8s (List.replicate 32 0)) ∧ Blk W (w.heap.size + 1 + 1) 68 (u8s (fillZ h.bytes 0)) ∧ Below w.heap.size w W) ?_ ?_
  · have e0 : ∀ (a b : Array Value) (S T : TypeId), (((w.alloc (.cells H 71)).alloc (.cells a S)).heap.size = w.heap.size + 1 + 1) ∧ ((w.alloc (.cells H 71)).heap.size = w.heap.size + 1) := fun a b S T => ⟨by simp, by simp⟩
    refine ⟨?_, ?_, ?_, ?_⟩
    · rw [← hH]
      exact ((Blk.new w (u32s (lst h)).toArray 71).alloc _).alloc _
    · exact (Blk.atNew (w := w.alloc (.cells H 71)) (g := w.heap.size + 1) _ _ (e0 #[] #[] 0 0).2).alloc _
    · rw [fillZ_zero, ShaMath.St.bytes_length]
      exact Blk.atNew _ _ (e0 _ #[] _ 0).1
    · exact (((Below.refl _ _).alloc (Nat.le_refl _) _).alloc (by simp) _).alloc (by simp; omega) _
  · rintro W ⟨b1, b2, b3, hb⟩
    have hbl := h.bytes_length
    go_wp2_with fail
    go_loopw [5] (fun ix wr => ∃ i : Nat, i ≤ 32 ∧ ix = .int .i64 i ∧ Hid (Blk wr w.heap.size 71 (u32s (lst h))) ∧ Hid (Blk wr (w.heap.size + 1) 68 (u8s (List.replicate 32 0))) ∧ Hid (Blk wr (w.heap.size + 1 + 1) 68 (u8s (fillZ h.bytes i))) ∧ Below w.heap.size w wr) (fun ix _ => 32 - (intOf ix).toNat)
    case atStart => exact ⟨0, by omega, rfl, Lib.hid b1, Lib.hid b2, Lib.hid b3, hb⟩
    case round =>
      obtain ⟨i, hi, rfl, h1, h2, h3, hbr⟩ := hrel
      by_cases h32 : i < 32
      · have iI : (i : Int) < 32 := by omega
        have ca := h1.out.cell (u32s_get (lst_get h (i / 4) (by omega)))
        obtain ⟨c0, hc0⟩ := fillZ_some h.bytes i (by omega)
        have cb := h3.out.cell (u8s_get hc0)
        have cf := h3.out.free i
        have hbyte := bytes_at4 h i h32
        generalize (lst h).getD (i / 4) 0 = x at ca hbyte
        have hst := h3.out.set i (.int .u8 (((lowB ((x : Nat) / 256 ^ (3 - i % 4))).toNat : Nat) : Int))
        rw [u8s_set, fillZ_set _ _ _ hbyte] at hst
        have ho1 := h1.out.other ⟨w.heap.size + 1 + 1, i, none⟩ (.int .u8 (((lowB ((x : Nat) / 256 ^ (3 - i % 4))).toNat : Nat) : Int)) (show w.heap.size ≠ w.heap.size + 1 + 1 by omega)
        have ho2 := h2.out.other ⟨w.heap.size + 1 + 1, i, none⟩ (.int .u8 (((lowB ((x : Nat) / 256 ^ (3 - i % 4))).toNat : Nat) : Int)) (by simp)
        rw [← shifted'] at hst ho1 ho2
        have S1 := Lib.hid hst
        have S2 := Lib.hid ho1
        have S3 := Lib.hid ho2
        clear b1 b2 b3 hb hc0 hst ho1 ho2 h1 h2 h3 hbyte
        go_wp2
        go_roundw
        case rel => exact ⟨i + 1, by omega, by go_num, S2, S3, S1, hbr.setCell (by simp; omega) _⟩
        case measure => simp [intOf]; omega
      · have h32e : i = 32 := by omega
        have iI : ¬ ((i : Int) < 32) := by omega
        have k3 := h3.out
        have k2 := h2.out
        rw [h32e, ← hbl, fillZ_end] at k3
        obtain ⟨R, hR⟩ : ∃ R, (u8s h.bytes).toArray = R := ⟨_, rfl⟩
        have hV : (((u8s h.bytes).drop 0).take 32).toArray = R := by rw [← hR, List.drop_zero, List.take_of_length_le (by rw [u8s_length, hbl]; exact Nat.le_refl _)]
        clear h32e h32 h1 h2 h3 b1 b2 b3 hb
        go_wp2_with (first
          | (with_reducible refine wpList_load_blk rfl 68 (.tmp 3) rfl (w.heap.size + 1 + 1) 0 32 rfl _ (u8s h.bytes) k3 (by rw [u8s_length, hbl]; omega) R hV _ rfl rfl (by kernel_rfl) ?_)
          | (with_reducible refine wpList_store_blk rfl 68 (.tmp 2) (.tmp 21) rfl (w.heap.size + 1) 0 rfl _ _ k2 (u8s h.bytes) R (by rw [← hR]) rfl (by rw [u8s_length, u8s_length, List.length_replicate, hbl]; omega) (by rw [u8s_length, hbl]; kernel_rfl) (u8s_one _) ?_; intro w7 hg7 hs7 hB7))
        refine bodyPost_ret (results_arr rfl _ _ (w.heap.size + 1) (u8s h.bytes) rfl ?_ rfl rfl (by rw [u8s_length, hbl]; kernel_rfl)) rfl ⟨by rw [hR], ?_⟩
        · rw [Nat.zero_add, List.take_zero, List.nil_append, List.drop_of_length_le (by rw [u8s_length, u8s_length, List.length_replicate, hbl]; exact Nat.le_refl _), List.append_nil] at hB7; exact hB7
        · exact hbr.grown hg7 hbr.size (fun k h => by cases h; omega)
end Go.Proofs.YtcnemacakjemjaaDoor

/-! STREAMS as cells, and the contract of package sum's isStream. CONDITIONS: each theorem's own hypotheses. -/
namespace Go.Proofs.YtcnemacakjemjaaDoor
open Go.RowKit CodeMath
set_option linter.unusedVariables false
set_option maxRecDepth 100000

/-- A stream. -/
structure Stm where
  h : ShaMath.St
  held : List UInt8
  n : Int
  len : Int
structure Stm.Fit (s : Stm) : Prop where
  h : Ok8 s.h
  held : s.held.length = 64
  n0 : -9223372036854775808 ≤ s.n
  n1 : s.n ≤ 9223372036854775807
  l0 : -9223372036854775808 ≤ s.len
  l1 : s.len ≤ 9223372036854775807
def Stm.cells (s : Stm) : List Value := u32s (lst s.h) ++ (u8s s.held ++ [.int .i64 s.n, .int .i64 s.len])
theorem Stm.cells_length (s : Stm) (hf : s.held.length = 64) : s.cells.length = 74 := by
  unfold Stm.cells
  rw [List.length_append, List.length_append, u32s_length, lst_length, u8s_length, hf]
  rfl
theorem Stm.get_held (s : Stm) (j : Nat) (c : UInt8) (h : s.held[j]? = some c) : s.cells[8 + j]? = some (.int .u8 c.toNat) := by
  unfold Stm.cells
  have hj := (List.getElem?_eq_some_iff.1 h).1
  rw [List.getElem?_append_right (by rw [u32s_length, lst_length]; omega), u32s_length, lst_length, Nat.add_sub_cancel_left, List.getElem?_append_left (by rw [u8s_length]; exact hj)]
  exact u8s_get h
theorem Stm.get_n (s : Stm) (hf : s.held.length = 64) : s.cells[72]? = some (.int .i64 s.n) := by
  unfold Stm.cells
  rw [List.getElem?_append_right (by rw [u32s_length, lst_length]; omega), u32s_length, lst_length, List.getElem?_append_right (by rw [u8s_length]; omega), u8s_length, hf]
  rfl
theorem Stm.get_len (s : Stm) (hf : s.held.length = 64) : s.cells[73]? = some (.int .i64 s.len) := by
  unfold Stm.cells
  rw [List.getElem?_append_right (by rw [u32s_length, lst_length]; omega), u32s_length, lst_length, List.getElem?_append_right (by rw [u8s_length]; omega), u8s_length, hf]
  rfl
/-- Whether a stream may be, but for its words. -/
def Stm.good (s : Stm) : Bool := decide (0 ≤ s.len) && decide (s.len ≤ 1152921504606846976) && decide (s.n = s.len % 64) && (s.held.drop s.n.toNat).all (· == 0)
theorem Stm.bad_len (s : Stm) (h : ¬ (0 ≤ s.len ∧ s.len ≤ 1152921504606846976 ∧ s.n = s.len % 64)) : s.good = false := by
  unfold Stm.good
  have e : (decide (0 ≤ s.len) && decide (s.len ≤ 1152921504606846976) && decide (s.n = s.len % 64)) = false := by
    rw [Bool.eq_false_iff]
    intro e
    simp only [Bool.and_eq_true, decide_eq_true_eq] at e
    exact h ⟨e.1.1, e.1.2, e.2⟩
  rw [e]; rfl
theorem Stm.good_len (s : Stm) (h : 0 ≤ s.len ∧ s.len ≤ 1152921504606846976 ∧ s.n = s.len % 64) : s.good = (s.held.drop s.n.toNat).all (· == 0) := by
  unfold Stm.good
  have e : (decide (0 ≤ s.len) && decide (s.len ≤ 1152921504606846976) && decide (s.n = s.len % 64)) = true := by
    simp only [Bool.and_eq_true, decide_eq_true_eq]
    exact ⟨⟨h.1, h.2.1⟩, h.2.2⟩
  rw [e, Bool.true_and]
theorem all_take (l : List UInt8) (i : Nat) (c : UInt8) (h : l[i]? = some c) : (l.take (i + 1)).all (· == 0) = ((l.take i).all (· == 0) && (c == 0)) := by
  have hi := (List.getElem?_eq_some_iff.1 h).1
  have hc := (List.getElem?_eq_some_iff.1 h).2
  rw [List.take_succ_eq_append_getElem hi, hc, List.all_append]
  simp
theorem all_here (l : List UInt8) (i : Nat) (c : UInt8) (h : l[i]? = some c) (hc : (c == 0) = false) : l.all (· == 0) = false := by
  rw [List.all_eq_false]
  exact ⟨c, List.mem_of_getElem? h, by simp [hc]⟩

/-- x[k:], x an array of 64 bytes in a block. -/
theorem slice_from (b o k : Nat) (hk : k < 64) (W : World) : (Instr.sliceAt 72 (.pointer (some ⟨b, o, none⟩)) (some (.int .i64 (k : Int))) none none).run Tryd.prog W = .ok (.slice (some ⟨b, o + k, none⟩) (64 - k) (64 - k)) W := by
  have h := run_sliceAt_array_l (P := Tryd.prog) W 72 ⟨b, o, none⟩ (by kernel_rfl) .i64 (k : Int) (by omega) (by show (k : Int) ≤ ((64 : Nat) : Int); omega)
  rw [h]
  have hs : (sizeOf (Tryd.prog.elem 72)).run Tryd.prog W = .ok 1 W := by kernel_rfl
  have hl : Tryd.prog.arrayLen 72 = 64 := by kernel_rfl
  rw [hs, hl]
  have hne : ¬ (64 = k) := by omega
  simp [Result.andThen, slicedAt, hne, Addr.add]
end Go.Proofs.YtcnemacakjemjaaDoor

/-! PLAIN MATHEMATICS of a stream's cells: what each store makes of them; canonical streams. CONDITIONS: each theorem's own hypotheses. -/
namespace Go.Proofs.YtcnemacakjemjaaDoor
open Go Go.RowKit CodeMath ShaMath
set_option linter.unusedVariables false
set_option maxRecDepth 100000

theorem lenH (h : St) : (u32s (lst h)).length = 8 := by rw [u32s_length, lst_length]
theorem Stm.set_n (s : Stm) (hf : s.held.length = 64) (x : Int) : s.cells.set 72 (.int .i64 x) = ({ s with n := x } : Stm).cells := by
  unfold Stm.cells
  rw [List.set_append_right _ _ (by rw [lenH]; omega), lenH, List.set_append_right _ _ (by rw [u8s_length]; omega), u8s_length, hf]
  rfl
theorem Stm.set_len (s : Stm) (hf : s.held.length = 64) (x : Int) : s.cells.set 73 (.int .i64 x) = ({ s with len := x } : Stm).cells := by
  unfold Stm.cells
  rw [List.set_append_right _ _ (by rw [lenH]; omega), lenH, List.set_append_right _ _ (by rw [u8s_length]; omega), u8s_length, hf]
  rfl
theorem Stm.put_h (s : Stm) (h : St) : s.cells.take 0 ++ (u32s (lst h) ++ s.cells.drop (0 + (u32s (lst h)).length)) = ({ s with h := h } : Stm).cells := by
  unfold Stm.cells
  rw [List.take_zero, List.nil_append, lenH, Nat.zero_add, List.drop_append_of_le_length (by rw [lenH]; exact Nat.le_refl _), List.drop_of_length_le (by rw [lenH]; exact Nat.le_refl _), List.nil_append]
theorem Stm.put_held (s : Stm) (hf : s.held.length = 64) (z : List UInt8) (hz : z.length = 64) : s.cells.take 8 ++ (u8s z ++ s.cells.drop (8 + (u8s z).length)) = ({ s with held := z } : Stm).cells := by
  unfold Stm.cells
  have e1 : (u32s (lst s.h) ++ (u8s s.held ++ [Value.int .i64 s.n, Value.int .i64 s.len])).take 8 = u32s (lst s.h) := by
    rw [List.take_append_of_le_length (by rw [lenH]; exact Nat.le_refl _), List.take_of_length_le (by rw [lenH]; exact Nat.le_refl _)]
  have e2 : (u32s (lst s.h) ++ (u8s s.held ++ [Value.int .i64 s.n, Value.int .i64 s.len])).drop (8 + (u8s z).length) = [Value.int .i64 s.n, Value.int .i64 s.len] := by
    rw [← List.append_assoc, List.drop_append_of_le_length (by rw [List.length_append, lenH, u8s_length, u8s_length, hf, hz]; exact Nat.le_refl _), List.drop_of_length_le (by rw [List.length_append, lenH, u8s_length, u8s_length, hf, hz]; exact Nat.le_refl _), List.nil_append]
  rw [e1, e2]
theorem Stm.get_h (s : Stm) : (s.cells.drop 0).take 8 = u32s (lst s.h) := by
  unfold Stm.cells
  rw [List.drop_zero, List.take_append_of_le_length (by rw [lenH]; exact Nat.le_refl _), List.take_of_length_le (by rw [lenH]; exact Nat.le_refl _)]
theorem Stm.get_all (s : Stm) (hf : s.held.length = 64) : (s.cells.drop 8).take 64 = u8s s.held := by
  unfold Stm.cells
  rw [List.drop_append_of_le_length (by rw [lenH]; exact Nat.le_refl _), List.drop_of_length_le (by rw [lenH]; exact Nat.le_refl _), List.nil_append, List.take_append_of_le_length (by rw [u8s_length, hf]; exact Nat.le_refl _), List.take_of_length_le (by rw [u8s_length, hf]; exact Nat.le_refl _)]
theorem u8s_append (l m : List UInt8) : u8s (l ++ m) = u8s l ++ u8s m := by simp [u8s]
theorem u8s_take (l : List UInt8) (n : Nat) : (u8s l).take n = u8s (l.take n) := by simp [u8s, List.map_take]
theorem u8s_drop (l : List UInt8) (n : Nat) : (u8s l).drop n = u8s (l.drop n) := by simp [u8s, List.map_drop]
theorem Stm.copy_held (s : Stm) (hf : s.held.length = 64) (k : Nat) (c : List UInt8) (hk : k + c.length ≤ 64) : splice s.cells (8 + k) (u8s c) = ({ s with held := splice s.held k c } : Stm).cells := by
  unfold Stm.cells splice
  simp only
  have e1 : (u32s (lst s.h) ++ (u8s s.held ++ [Value.int .i64 s.n, Value.int .i64 s.len])).take (8 + k) = u32s (lst s.h) ++ u8s (s.held.take k) := by
    rw [List.take_append, lenH, List.take_of_length_le (by rw [lenH]; omega), Nat.add_sub_cancel_left, List.take_append_of_le_length (by rw [u8s_length]; omega), u8s_take]
  have e2 : (u32s (lst s.h) ++ (u8s s.held ++ [Value.int .i64 s.n, Value.int .i64 s.len])).drop (8 + k + (u8s c).length) = u8s (s.held.drop (k + c.length)) ++ [Value.int .i64 s.n, Value.int .i64 s.len] := by
    rw [List.drop_append, lenH, List.drop_of_length_le (by rw [lenH]; omega), List.nil_append, u8s_length, show 8 + k + c.length - 8 = k + c.length by omega, List.drop_append_of_le_length (by rw [u8s_length]; omega), u8s_drop]
  rw [e1, e2, u8s_append, u8s_append]
  simp only [List.append_assoc]

/-- A stream that may be: what is held, noughts behind it. -/
def can (h : St) (m : List UInt8) (L : Int) : Stm := ⟨h, m ++ List.replicate (64 - m.length) 0, m.length, L⟩
theorem can_held (h : St) (m : List UInt8) (L : Int) (hm : m.length ≤ 64) : (can h m L).held.length = 64 := by
  unfold can
  simp only
  rw [List.length_append, List.length_replicate]; omega
theorem can_copy (h : St) (m c : List UInt8) (L : Int) (hm : m.length + c.length ≤ 64) : splice (can h m L).held m.length c = (can h (m ++ c) L).held := by
  unfold can splice
  simp only
  rw [List.take_append_of_le_length (Nat.le_refl _), List.take_of_length_le (Nat.le_refl _), List.drop_append, List.drop_of_length_le (by omega), List.nil_append, Nat.add_sub_cancel_left, List.drop_replicate, List.append_assoc, List.length_append]
  congr 3
  omega
theorem can_grown (h : St) (m c : List UInt8) (L : Int) (hm : m.length + c.length ≤ 64) : ({ ({ can h m L with held := splice (can h m L).held m.length c } : Stm) with n := ((m.length + c.length : Nat) : Int) } : Stm) = can h (m ++ c) L := by
  rw [can_copy h m c L hm]
  unfold can
  simp
theorem can_full (h : St) (M : List UInt8) (L : Int) (hM : M.length = 64) : (can h M L).held = M := by
  unfold can
  simp [hM]
theorem can_empty (h h' : St) (M : List UInt8) (L : Int) : ({ ({ ({ can h M L with h := h' } : Stm) with held := List.replicate 64 0 } : Stm) with n := 0 } : Stm) = can h' [] L := by
  unfold can
  simp
theorem run_block (h : St) (M R : List UInt8) (hM : M.length = 64) : run blk h (M ++ R) = run blk (blk h M) R := by
  rw [run_step blk h (M ++ R) (by rw [List.length_append]; omega), List.take_append_of_le_length (by omega), List.take_of_length_le (by omega), List.drop_append_of_le_length (by omega), List.drop_of_length_le (by omega), List.nil_append]
theorem rest_block (M R : List UInt8) (hM : M.length = 64) : rest (M ++ R) = rest R := by
  rw [rest_step (M ++ R) (by rw [List.length_append]; omega), List.drop_append_of_le_length (by omega), List.drop_of_length_le (by omega), List.nil_append]
theorem chunked (m b : List UInt8) (c q : Nat) : m ++ b.drop c = (m ++ (b.drop c).take q) ++ b.drop (c + q) := by
  rw [List.append_assoc, ← List.drop_drop, List.take_append_drop]
theorem blk_ok (h : St) (l : List UInt8) : Ok8 (blk h l) := plus_ok _ _
end Go.Proofs.YtcnemacakjemjaaDoor
