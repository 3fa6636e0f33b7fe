/-
  THE WALK of the law 'chirographkeep.CrcXor': for every three slices of bytes the law returns true.
  CONDITIONS: none but where the bytes lie.
-/
import Derived.Test.YtpnomfdcbmamoaaCrcB
import Derived.Test.YtpnomfdcbmamoaaOwnB
import Derived.Test.YtpnomfdcbmamoaaRegFact
import Derived.StillTailTactics
import Derived.Deep.RegionWith
namespace Go.Proofs.Ytpnomfdcbmamoaa
open Go.RowKit CodeMath
set_option linter.unusedVariables false
theorem run_min_int4 {P : Program} {w : World} (ts : Array TypeId) (t : TypeId) (x y z u : Int) : (Builtin.min_ ts t #[.int .i64 x, .int .i64 y, .int .i64 z, .int .i64 u]).run P w = .ok (.int .i64 (min (min (min x y) z) u)) w := by
  simp [Builtin.min_, Builtin.min2]
  repeat' split
  all_goals omega
def crc1 : Nat := CrcMath.crc [1]
def crc2 : Nat := CrcMath.crc [2]
/-- Of three lines the first bytes, by one another. -/
def xor3 (a b c : List UInt8) (j : Nat) : List UInt8 := CrcMath.xorL (CrcMath.xorL (a.take j) (b.take j)) (c.take j)
theorem bytes_at {w : World} {g n base : Nat} (l : List UInt8) (hl : l.length = n) (h : w.ownsRow base 5 1 (.slice (some ⟨g, 0, none⟩) n n) n (cellsB l)) : Bytes w (some ⟨g, 0, none⟩) l := by
  subst hl
  exact OwnB.bytes h
theorem bytes_one {w : World} {k : Nat} (x : Int) (c : UInt8) (hx : x = c.toNat) (hk : k < w.heap.size) (h : w.cell? ⟨k, 0, none⟩ = some (.int .u8 x)) : Bytes w (some ⟨k, 0, none⟩) [c] := by
  subst hx
  refine .inr ⟨k, 0, rfl, hk, fun j y hy => ?_⟩
  obtain rfl : j = 0 := by have := (List.getElem?_eq_some_iff.1 hy).1; simp at this; exact this
  simp at hy; subst hy
  exact h
theorem below_two {B : Nat} {a W : World} (h : Below B a W) (hs : B ≤ W.heap.size) (o p : Obj) : Below B a ((W.alloc o).alloc p).drew := ((h.alloc hs o).alloc (by simp; omega) p).drew
theorem cellA (W : World) (x : Value) (T : TypeId) : (W.alloc (.cells #[x] T)).drew.cell? ⟨W.heap.size, 0, none⟩ = some x := by go_simp
theorem cellB (W : World) (x y : Value) (T : TypeId) : ((W.alloc (.cells #[x] T)).alloc (.cells #[y] T)).drew.cell? ⟨W.heap.size, 0, none⟩ = some x := by go_simp
theorem cellC (W : World) (x y : Value) (T : TypeId) : ((W.alloc (.cells #[x] T)).alloc (.cells #[y] T)).drew.cell? ⟨W.heap.size + 1, 0, none⟩ = some y := by go_simp
theorem xorL_snoc : ∀ (l m : List UInt8) (x y : UInt8), l.length = m.length → CrcMath.xorL (l ++ [x]) (m ++ [y]) = CrcMath.xorL l m ++ [x ^^^ y]
  | [], [], _, _, _ => rfl
  | a :: l, b :: m, x, y, h => by
    simp only [List.cons_append, CrcMath.xorL]
    rw [xorL_snoc l m x y (by simpa using h)]
  | [], _ :: _, _, _, h => by simp at h
  | _ :: _, [], _, _, h => by simp at h
theorem xor3_length (a b c : List UInt8) (j : Nat) (ha : j ≤ a.length) (hb : j ≤ b.length) (hc : j ≤ c.length) : (xor3 a b c j).length = j := by
  unfold xor3
  have h1 : (a.take j).length = (b.take j).length := by simp; omega
  rw [CrcMath.xorL_length _ _ (by rw [CrcMath.xorL_length _ _ h1]; simp; omega), CrcMath.xorL_length _ _ h1]
  simp; omega
theorem xor3_succ (a b c : List UInt8) (j : Nat) (ha : j < a.length) (hb : j < b.length) (hc : j < c.length) : xor3 a b c (j + 1) = xor3 a b c j ++ [a[j] ^^^ b[j] ^^^ c[j]] := by
  unfold xor3
  have h1 : (a.take j).length = (b.take j).length := by simp; omega
  rw [List.take_succ_eq_append_getElem ha, List.take_succ_eq_append_getElem hb, List.take_succ_eq_append_getElem hc, xorL_snoc _ _ _ _ h1, xorL_snoc _ _ _ _ (by rw [CrcMath.xorL_length _ _ h1]; simp; omega)]
theorem xor3_set (a b c : List UInt8) (n j : Nat) (hn : j < n) (ha : j < a.length) (hb : j < b.length) (hc : j < c.length) :
    (cellsB (xor3 a b c j ++ List.replicate (n - j) 0)).set j (.int .u8 ((a[j] ^^^ b[j] ^^^ c[j]).toNat : Nat)) = cellsB (xor3 a b c (j + 1) ++ List.replicate (n - (j + 1)) 0) := by
  have hl := xor3_length a b c j (by omega) (by omega) (by omega)
  rw [xor3_succ a b c j ha hb hc]
  unfold cellsB
  rw [← List.map_set (f := fun x : UInt8 => Value.int .u8 x.toNat), List.set_append_right _ _ (by omega), hl, Nat.sub_self, show n - j = (n - (j + 1)) + 1 by omega, List.replicate_succ, List.set_cons_zero]
  simp
theorem at_some {w : World} {ao : Option Addr} {l : List UInt8} {j : Nat} (h : Bytes w ao l) (hj : j < l.length) : ∃ a o, ao = some ⟨a, o, none⟩ ∧ a < w.heap.size ∧ w.cell? ⟨a, o + j, none⟩ = some (.int .u8 l[j].toNat) := by
  rcases h with h | ⟨a, o, h, h2, h3⟩
  · rw [h] at hj; simp at hj
  · exact ⟨a, o, h, h2, h3 j _ (List.getElem?_eq_getElem hj)⟩
theorem Bytes.take {w : World} {ao : Option Addr} {l : List UInt8} (h : Bytes w ao l) (n : Nat) : Bytes w ao (l.take n) := by
  rcases h with h | ⟨a, o, h, h2, h3⟩
  · left; rw [h]; simp
  · exact .inr ⟨a, o, h, h2, fun j x hx => h3 j x (by rw [List.getElem?_take] at hx; split at hx <;> simp_all)⟩
set_option maxRecDepth 100000 in
set_option maxHeartbeats 2000000 in
theorem crcXor_walk (a : List UInt8) (aoa : Option Addr) (capa : Nat) (b : List UInt8) (aob : Option Addr) (capb : Nat) (c : List UInt8) (aoc : Option Addr) (capc : Nat) (w : World)
    (hca : a.length ≤ capa) (hma : capa ≤ 9223372036854775807) (hxa : Bytes w aoa a) (hcb : b.length ≤ capb) (hmb : capb ≤ 9223372036854775807) (hxb : Bytes w aob b) (hcc : c.length ≤ capc) (hmc : capc ≤ 9223372036854775807) (hxc : Bytes w aoc c) :
    Calls Try.prog 4 #[.slice aoa a.length capa, .slice aob b.length capb, .slice aoc c.length capc] w fun e w' => e = .returned (.bool true) ∧ Below w.heap.size w w' := by
  obtain ⟨n, hn⟩ : ∃ n : Nat, min (min (min a.length b.length) c.length) 200 = n := ⟨_, rfl⟩
  have hmin : ∀ (ts : Array TypeId) (t : TypeId) (W : World), (Builtin.min_ ts t #[.int .i64 (a.length : Int), .int .i64 (b.length : Int), .int .i64 (c.length : Int), .int .i64 200]).run Try.prog W = .ok (.int .i64 (n : Int)) W := fun ts t W => by
    rw [run_min_int4, ← hn]
    congr 2
    omega
  obtain ⟨i0, hi, hz0, hz1, hz2⟩ := info_parts infoB
  go_enter Try.func4, Try.ntmps4
  go_wp2_with (first | (at_make; refine wpList_make_full _ rfl (.tmp 17) (.tmp 17) 22 rfl w.heap.size 5 i0 (.int .u8 0) 1 Try.underlying22 hi hz0 hz1 .i64 .i64 _ _ n rfl rfl rfl rfl (by rw [hz2]; omega) (by unfold maxLen; omega) (Nat.le_refl _) ?_; intro w1 ho1 hg1))
  have hD1 : (madeCells (Value.int .u8 0).cells (n * 1)).toList = cellsB (List.replicate n 0) := by
    rw [Nat.mul_one]; show (madeCells #[Value.int .u8 0] n).toList = _; rw [toList_madeCells_one]; simp [cellsB]
  rw [hD1] at ho1
  have hb1 : Below w.heap.size w w1 := (Below.refl _ w).grown hg1 (Nat.le_refl _) (fun k h => by cases h)
  clear hD1 hg1
  go_loopw [21] (fun i wr => ∃ j : Nat, j ≤ n ∧ i = .int .i64 j ∧ Hid (wr.ownsRow w.heap.size 5 1 (.slice (some ⟨w.heap.size, 0, none⟩) n n) n (cellsB (xor3 a b c j ++ List.replicate (n - j) 0))) ∧ Below w.heap.size w wr) (fun i _ => n - (intOf i).toNat)
  case atStart => exact ⟨0, Nat.zero_le _, rfl, Lib.hid (by simpa [xor3, CrcMath.xorL] using ho1), hb1⟩
  case round =>
    obtain ⟨j, hj, rfl, ho, hbw⟩ := hrel
    by_cases h1 : j < n
    · have hja : j < a.length := by omega
      have hjb : j < b.length := by omega
      have hjc : j < c.length := by omega
      obtain ⟨pa, oa, rfl, ha1, ha2⟩ := at_some hxa hja
      obtain ⟨pb, ob, rfl, hb1', hb2⟩ := at_some hxb hjb
      obtain ⟨pc, oc, rfl, hc1, hc2⟩ := at_some hxc hjc
      have hset := xor3_set a b c n j h1 hja hjb hjc
      obtain ⟨A, hA⟩ : ∃ A, a[j] = A := ⟨_, rfl⟩
      obtain ⟨B, hB⟩ : ∃ B, b[j] = B := ⟨_, rfl⟩
      obtain ⟨C, hC⟩ : ∃ C, c[j] = C := ⟨_, rfl⟩
      rw [hA] at ha2 hset
      rw [hB] at hb2 hset
      rw [hC] at hc2 hset
      have qa := (hbw.cell (p := ⟨pa, oa + j, none⟩) ha1).trans ha2
      have qb := (hbw.cell (p := ⟨pb, ob + j, none⟩) hb1').trans hb2
      have qc := (hbw.cell (p := ⟨pc, oc + j, none⟩) hc1).trans hc2
      have hw := ho.out
      have hcl := World.ownsRow.cellAt hw j (by omega)
      obtain ⟨u, hu⟩ : ∃ u, wr.cell? ⟨w.heap.size, j, none⟩ = some u := by
        rw [hcl]
        have : j < (cellsB (xor3 a b c j ++ List.replicate (n - j) 0)).length := by rw [hw.1]; omega
        exact ⟨_, List.getElem?_eq_getElem this⟩
      have hfz := World.ownsRow.frozenAt hw j
      have hst := (World.ownsRow.stored hw j (.int .u8 ((A ^^^ B ^^^ C).toNat : Nat)))
      rw [hset] at hst
      have hx : bits .xor .u8 (bits .xor .u8 (A.toNat : Int) (B.toNat : Int)) (C.toNat : Int) = (((A ^^^ B ^^^ C).toNat : Nat) : Int) := by
        have l1 := A.toNat_lt
        have l2 := B.toNat_lt
        have l3 := C.toNat_lt
        rw [u8_xor_nat _ _ l1 l2, u8_xor_nat _ _ (Nat.xor_lt_two_pow (n := 8) l1 l2) l3, UInt8.toNat_xor, UInt8.toNat_xor]
      have HST := Lib.hid hst
      have HX := Lib.hid hx
      have hjI : (j : Int) < n := by omega
      have ja : (j : Int) < a.length := by omega
      have jb : (j : Int) < b.length := by omega
      have jc : (j : Int) < c.length := by omega
      clear hst hset hw hcl ho hx hA hB hC ha2 hb2 hc2
      go_wp2_with fail
      go_still_tail 17, (by kernel_rfl)
      change wpList _ _ _ _ _ wr.drew
      go_wp2
      go_roundw
      case rel =>
        refine ⟨j + 1, by omega, by go_num, Lib.hid ?_, ?_⟩
        · rw [HX.out]; exact HST.out.1
        · exact (hbw.setCell (Nat.le_refl _) _).drew
      case measure => simp [intOf]; omega
    · obtain rfl : j = n := by omega
      have hw := ho.out
      have hDl := xor3_length a b c j (by omega) (by omega) (by omega)
      rw [Nat.sub_self, List.replicate_zero, List.append_nil] at hw
      have hx3 := CrcMath.crc_xor3 (a.take j) (b.take j) (c.take j) (by simp; omega) (by simp; omega)
      rw [show CrcMath.xorL (CrcMath.xorL (a.take j) (b.take j)) (c.take j) = xor3 a b c j from rfl] at hx3
      have la : (a.take j).length = j := by simp; omega
      have lb : (b.take j).length = j := by simp; omega
      have lc : (c.take j).length = j := by simp; omega
      have cA := fun (W : World) (hb : Below w.heap.size w W) => crc_any (a.take j) aoa capa W (by omega) ((hxa.take j).keep hb)
      have cB := fun (W : World) (hb : Below w.heap.size w W) => crc_any (b.take j) aob capb W (by omega) ((hxb.take j).keep hb)
      have cC := fun (W : World) (hb : Below w.heap.size w W) => crc_any (c.take j) aoc capc W (by omega) ((hxc.take j).keep hb)
      have cD := fun (W : World) (hb : Below wr.heap.size wr W) => crc_any (xor3 a b c j) (some ⟨w.heap.size, 0, none⟩) j W (by omega) ((bytes_at _ hDl hw).keep hb)
      have c1 := fun (W : World) (k : Nat) (hb : Bytes W (some ⟨k, 0, none⟩) [1]) => crc_any [1] (some ⟨k, 0, none⟩) 1 W (by decide) hb
      have c2 := fun (W : World) (k : Nat) (hb : Bytes W (some ⟨k, 0, none⟩) [2]) => crc_any [2] (some ⟨k, 0, none⟩) 1 W (by decide) hb
      rw [la] at cA
      rw [lb] at cB
      rw [lc] at cC
      rw [hDl] at cD
      rw [hx3] at cD
      have ra := CrcMath.crc_lt (a.take j)
      have rb := CrcMath.crc_lt (b.take j)
      have rc := CrcMath.crc_lt (c.take j)
      generalize CrcMath.crc (a.take j) = XA at cA cD ra
      generalize CrcMath.crc (b.take j) = XB at cB cD rb
      generalize CrcMath.crc (c.take j) = XC at cC cD rc
      have rab : XA ^^^ XB < 4294967296 := Nat.xor_lt_two_pow (n := 32) ra rb
      have hx1 : bits .xor .u32 (bits .xor .u32 (XA : Int) (XB : Int)) (XC : Int) = ((XA ^^^ XB ^^^ XC : Nat) : Int) := by
        rw [u32_xor_nat _ _ ra rb, u32_xor_nat _ _ rab rc]
      generalize XA ^^^ XB ^^^ XC = XD at cD hx1
      rw [show CrcMath.crc [1] = crc1 from rfl] at c1
      rw [show CrcMath.crc [2] = crc2 from rfl] at c2
      have hne : ((crc1 : Nat) : Int) ≠ ((crc2 : Nat) : Int) := by decide +kernel
      generalize crc1 = C1 at c1 hne
      generalize crc2 = C2 at c2 hne
      have hnb : (((C1 : Nat) : Int) == ((C2 : Nat) : Int)) = false := by simpa using hne
      have sb := hbw.size
      have ja : (j : Int) ≤ capa := by omega
      have jb : (j : Int) ≤ capb := by omega
      have jc : (j : Int) ≤ capc := by omega
      clear hw ho hx3 la lb lc ra rb rc rab hDl hxa hxb hxc ho1 hb1 hmin hi hz0 hz1 hz2 hn
      go_wp2_with fail
      go_region_with (first
        | (go_at_call_of 6 capa; refine (cA _ ?_).mono ?_; exact hbw.drew; rintro e w' ⟨rfl, rfl⟩)
        | (go_at_call_of 6 capb; refine (cB _ ?_).mono ?_; exact hbw.drew; rintro e w' ⟨rfl, rfl⟩)
        | (go_at_call_of 6 capc; refine (cC _ ?_).mono ?_; exact hbw.drew; rintro e w' ⟨rfl, rfl⟩)
        | (go_at_call_of 6 (Value.slice (some ⟨w.heap.size, 0, none⟩) j j); refine (cD _ ?_).mono ?_; exact (Below.refl _ _).drew; rintro e w' ⟨rfl, rfl⟩)
        | (go_at_call 6; refine (c1 _ _ ?_).mono ?_; refine bytes_one 1 1 rfl ?_ ?_; (focus (first | (simp; done) | (simp; omega))); (focus (first | exact cellA _ _ _ | exact cellB _ _ _ _ | exact cellC _ _ _ _)); rintro e w' ⟨rfl, rfl⟩)
        | (go_at_call 6; refine (c2 _ _ ?_).mono ?_; refine bytes_one 2 2 rfl ?_ ?_; (focus (first | (simp; done) | (simp; omega))); (focus (first | exact cellA _ _ _ | exact cellB _ _ _ _ | exact cellC _ _ _ _)); rintro e w' ⟨rfl, rfl⟩))
      all_goals (go_wp2)
      all_goals (go_ret)
      all_goals (refine ⟨?_, ?_⟩)
      all_goals (first | exact below_two hbw sb _ _ | skip)
      all_goals (try go_simp)
end Go.Proofs.Ytpnomfdcbmamoaa
