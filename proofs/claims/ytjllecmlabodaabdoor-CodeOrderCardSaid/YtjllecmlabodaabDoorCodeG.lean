/-
  CONTRACTS of package code's readContent and readValue.
  CONDITIONS: each theorem's own hypotheses.
-/
import Derived.Test.YtjllecmlabodaabDoorCodeF
import Derived.Handy
namespace Go.Proofs.YtjllecmlabodaabDoor
open Go.RowKit CodeMath
set_option linter.unusedVariables false

def CodeMath.Res.e : Res → Int
  | .err e => e
  | .ok _ _ => 0
def CodeMath.Res.k : Res → Nat
  | .err _ => 0
  | .ok _ k => k
/-- A value with its text as a string. -/
def CodeMath.Val.v (u : CodeMath.Val) : V := ⟨u.k, u.i, u.b, ⟨u.s.toArray⟩⟩
theorem v_val (u : CodeMath.Val) : u.v.val = u := rfl
def CodeMath.Res.v : Res → V
  | .err _ => ⟨0, 0, 0, ⟨#[]⟩⟩
  | .ok u _ => u.v
def yes (u : CodeMath.Val) : Bool := true

/-- The four cells of a value in a block of its own. -/
def Blk (w : World) (b : Nat) (x0 x1 x2 x3 : Value) : Prop := w.heap[b]? = some (.cells #[x0, x1, x2, x3] 40 (0, 0))
theorem Blk.new (w : World) (x0 x1 x2 x3 : Value) : Blk (w.alloc (.cells #[x0, x1, x2, x3] 40)) w.heap.size x0 x1 x2 x3 := heap_alloc_new w _
theorem Blk.moved {w w1 : World} {b P : Nat} {x0 x1 x2 x3 : Value} (h : Blk w b x0 x1 x2 x3) (hg : w.grownBy w1 (some P)) (hP : P < b) : Blk w1 b x0 x1 x2 x3 :=
  (hg.block b (lt_of_block h) (by simp; omega)).trans h
theorem Blk.c {w : World} {b : Nat} {x0 x1 x2 x3 : Value} (h : Blk w b x0 x1 x2 x3) : w.cell? ⟨b, 0, none⟩ = some x0 ∧ w.cell? ⟨b, 1, none⟩ = some x1 ∧ w.cell? ⟨b, 2, none⟩ = some x2 ∧ w.cell? ⟨b, 3, none⟩ = some x3 := by
  unfold Blk at h
  refine ⟨?_, ?_, ?_, ?_⟩ <;> simp [World.cell?, h]
theorem Blk.f {w : World} {b : Nat} {x0 x1 x2 x3 : Value} (h : Blk w b x0 x1 x2 x3) : w.frozen? ⟨b, 0, none⟩ = false ∧ w.frozen? ⟨b, 1, none⟩ = false ∧ w.frozen? ⟨b, 2, none⟩ = false ∧ w.frozen? ⟨b, 3, none⟩ = false := by
  unfold Blk at h
  refine ⟨?_, ?_, ?_, ?_⟩ <;> simp [World.frozen?, h]
theorem Blk.s0 {w : World} {b : Nat} {x0 x1 x2 x3 : Value} (h : Blk w b x0 x1 x2 x3) (y : Value) : Blk (w.setCell ⟨b, 0, none⟩ y) b y x1 x2 x3 := heap_setCell_same w b 0 _ _ y h
theorem Blk.s1 {w : World} {b : Nat} {x0 x1 x2 x3 : Value} (h : Blk w b x0 x1 x2 x3) (y : Value) : Blk (w.setCell ⟨b, 1, none⟩ y) b x0 y x2 x3 := heap_setCell_same w b 1 _ _ y h
theorem Blk.s2 {w : World} {b : Nat} {x0 x1 x2 x3 : Value} (h : Blk w b x0 x1 x2 x3) (y : Value) : Blk (w.setCell ⟨b, 2, none⟩ y) b x0 x1 y x3 := heap_setCell_same w b 2 _ _ y h
theorem Blk.s3 {w : World} {b : Nat} {x0 x1 x2 x3 : Value} (h : Blk w b x0 x1 x2 x3) (y : Value) : Blk (w.setCell ⟨b, 3, none⟩ y) b x0 x1 x2 y := heap_setCell_same w b 3 _ _ y h

theorem Blk.alloc {w : World} {b : Nat} {x0 x1 x2 x3 : Value} (h : Blk w b x0 x1 x2 x3) (o : Obj) : Blk (w.alloc o) b x0 x1 x2 x3 := (Below.heap_alloc w o b (lt_of_block h)).trans h
theorem results_blk {fn : Func} {t : Nat} (h : fn.results = #[.cell t 40, .tmp 3]) (tmps : Array Value) (w : World) (b : Nat) (x0 x1 x2 x3 : Value) (hp : tmps.getD t undef = .pointer (some ⟨b, 0, none⟩)) (hB : Blk w b x0 x1 x2 x3) :
    (results fn tmps).run Tryd.prog w = .ok (.tuple #[.agg #[x0, x1, x2, x3], tmps.getD 3 undef]) w := by
  obtain ⟨c0, c1, c2, c3⟩ := hB.c
  have hp' : tmps[t]?.getD undef = .pointer (some ⟨b, 0, none⟩) := by simpa using hp
  simp [results, h, hp', go_sem, c0, c1, c2, c3]
def Cont (M : Nat) (P B F D : Nat) (ao : Option Addr) (cap : Nat) (l : List UInt8) (d : Bool) (p : Nat) (A : Res) (w : World) (e : Ending) (w' : World) : Prop :=
  ∃ v : V, e = .returned (.tuple #[v.agg, .int .i64 A.e]) ∧ w.grownBy w' (some P) ∧ (A.e = 0 → v = A.v ∧ Src M w' P B F D ao cap l d (p + A.k))

theorem Src.set {M : Nat} {w : World} {P B F D : Nat} {ao : Option Addr} {cap : Nat} {l : List UInt8} {d : Bool} {p : Nat} (h : Src M w P B F D ao cap l d p) {b i : Nat} (hb : M ≤ b) (y : Value) : Src M (w.setCell ⟨b, i, none⟩ y) P B F D ao cap l d p :=
  h.below ((Below.refl M w).setCell hb y)
theorem moved_alloc {w w1 : World} {P : Nat} {o : Obj} (hg : (w.alloc o).grownBy w1 (some P)) : w.grownBy w1 (some P) := grown_trans (World.grownBy_alloc w o _) hg
theorem moved_set {w w1 : World} {P b i : Nat} {y : Value} (hg : w.grownBy w1 (some P)) (hb : w.heap.size ≤ b) : w.grownBy (w1.setCell ⟨b, i, none⟩ y) (some P) := moved_below hg ((Below.refl _ _).setCell hb y)
theorem int_of_num (N : Int) (h0 : 0 ≤ N) (h1 : N < two64) : wrap64 (bits .xor .u64 N 9223372036854775808) = N - two63 := by
  unfold two64 at h1
  rw [← IntWalk.i64_left, xor_top _ h0 (by omega), IntKind.wrap_i64]
  unfold two63
  split <;> omega

set_option maxRecDepth 100000 in
set_option maxHeartbeats 1000000 in
theorem content_end {M : Nat} {w : World} {P B F D : Nat} {ao : Option Addr} {cap : Nat} {l : List UInt8} {d : Bool} {p : Nat} (h : Src M w P B F D ao cap l d p) (hr : rest l d p = []) :
    Calls Tryd.prog 48 #[td F D] w (Cont M P B F D ao cap l d p (dec1 yes (rest l d p)) w) := by
  have hM := h.r.m
  have hA : Hid (dec1 yes (rest l d p) = .err 4) := by rw [hr]; rfl
  obtain ⟨A, hA0⟩ : ∃ A, dec1 yes (rest l d p) = A := ⟨_, rfl⟩
  rw [hA0] at hA ⊢
  have c49 := fun o => turned1_end (h.below ((Below.refl M w).alloc hM o)) hr
  generalize ((turnB d 0).toNat : Int) = q at c49
  clear h hA0 hr
  go_enter Tryd.func48, Tryd.ntmps48
  go_wp2_with fail
  refine (c49 _).mono ?_
  rintro e w1 ⟨rfl, rfl⟩
  clear c49
  go_wp2_with fail
  go_returns
  rw [hA.out]
  exact ⟨⟨0, 0, 0, ⟨#[]⟩⟩, rfl, World.grownBy_alloc _ _ _, fun h => by cases h⟩
set_option maxRecDepth 100000 in
set_option maxHeartbeats 1000000 in
theorem content_null {M : Nat} {w : World} {P B F D : Nat} {ao : Option Addr} {cap : Nat} {l : List UInt8} {d : Bool} {p : Nat} (h : Src M w P B F D ao cap l d p) (r : List UInt8) (hr : rest l d p = 1 :: r) :
    Calls Tryd.prog 48 #[td F D] w (Cont M P B F D ao cap l d p (dec1 yes (rest l d p)) w) := by
  have hM := h.r.m
  have hP := h.r.pm
  have hPw : P < w.heap.size := Nat.lt_of_lt_of_le hP hM
  have hA : Hid (dec1 yes (rest l d p) = .ok ⟨0, 0, 0, []⟩ 1) := by
    show _ = _
    rw [hr]
    rfl
  obtain ⟨A, hA0⟩ : ∃ A, dec1 yes (rest l d p) = A := ⟨_, rfl⟩
  rw [hA0] at hA ⊢
  have c49 := fun o => turned1_more (h.below ((Below.refl M w).alloc hM o)) _ _ hr
  have hn := (rest_cons hr).2
  clear h hA0 hr
  go_enter Tryd.func48, Tryd.ntmps48
  go_wp2_with fail
  refine (c49 _).mono ?_
  rintro e w1 ⟨rfl, hs, hg⟩
  clear c49
  have hB := (Blk.new w _ _ _ _).moved hg hPw
  obtain ⟨b0, b1, b2, b3⟩ := hB.c
  obtain ⟨f0, f1, f2, f3⟩ := hB.f
  have hMb : M ≤ w.heap.size := hM
  have hgw : w.grownBy w1 (some P) := moved_alloc hg
  have hone : ((1 : UInt8).toNat : Int) = 1 := rfl
  go_wp2_with fail
  refine bodyPost_ret (results_blk rfl _ _ w.heap.size _ _ _ _ rfl (((((hB.s0 _).s0 _).s1 _).s2 _).s3 _)) rfl ?_
  rw [hA.out]
  exact ⟨⟨0, 0, 0, ⟨#[]⟩⟩, rfl, (by repeat (first | exact hgw | refine moved_set ?_ (Nat.le_refl _))), fun _ => ⟨rfl, (by repeat (first | exact hs | refine Src.set ?_ hMb _))⟩⟩
set_option maxRecDepth 100000 in
set_option maxHeartbeats 1000000 in
theorem content_bool {M : Nat} {w : World} {P B F D : Nat} {ao : Option Addr} {cap : Nat} {l : List UInt8} {d : Bool} {p : Nat} (h : Src M w P B F D ao cap l d p) (c : UInt8) (r : List UInt8) (hr : rest l d p = 2 :: c :: r) :
    Calls Tryd.prog 48 #[td F D] w (Cont M P B F D ao cap l d p (dec1 yes (rest l d p)) w) := by
  have hM := h.r.m
  have hP := h.r.pm
  have hPw : P < w.heap.size := Nat.lt_of_lt_of_le hP hM
  have hA : Hid (dec1 yes (rest l d p) = .ok ⟨1, c.toNat, 0, []⟩ 2) := by
    show _ = _
    rw [hr]
    rfl
  obtain ⟨A, hA0⟩ : ∃ A, dec1 yes (rest l d p) = A := ⟨_, rfl⟩
  rw [hA0] at hA ⊢
  have c49 := fun o => turned1_more (h.below ((Below.refl M w).alloc hM o)) _ _ hr
  have hn := (rest_cons hr).2
  clear h hA0 hr
  go_enter Tryd.func48, Tryd.ntmps48
  go_wp2_with fail
  refine (c49 _).mono ?_
  rintro e w1 ⟨rfl, hs, hg⟩
  clear c49
  have hB := (Blk.new w _ _ _ _).moved hg hPw
  obtain ⟨b0, b1, b2, b3⟩ := hB.c
  obtain ⟨f0, f1, f2, f3⟩ := hB.f
  have hMb : M ≤ w.heap.size := hM
  have hgw : w.grownBy w1 (some P) := moved_alloc hg
  have hone : ((2 : UInt8).toNat : Int) = 2 := rfl
  go_wp2_with fail
  refine (readBool_more (hs.set hMb _) c r hn).mono ?_
  rintro e w2 ⟨rfl, hg2, hs2⟩
  have hs3 := hs2 rfl
  clear hs2
  have hB2 := (hB.s0 _).moved hg2 hPw
  obtain ⟨d0, d1, d2, d3⟩ := hB2.c
  obtain ⟨e0, e1, e2, e3⟩ := hB2.f
  have hgw2 : w.grownBy w2 (some P) := grown_trans (moved_set hgw (Nat.le_refl _)) hg2
  clear b0 b1 b2 b3 f0 f1 f2 f3
  go_wp2_with fail
  refine bodyPost_ret (results_blk rfl _ _ w.heap.size _ _ _ _ rfl (((((hB2.s1 _).s0 _).s1 _).s2 _).s3 _)) rfl ?_
  rw [hA.out]
  exact ⟨⟨1, c.toNat, 0, ⟨#[]⟩⟩, rfl, (by repeat (first | exact hgw2 | refine moved_set ?_ (Nat.le_refl _))), fun _ => ⟨rfl, (by repeat (first | exact hs3 | refine Src.set ?_ hMb _))⟩⟩
set_option maxRecDepth 100000 in
set_option maxHeartbeats 1000000 in
theorem content_bool_end {M : Nat} {w : World} {P B F D : Nat} {ao : Option Addr} {cap : Nat} {l : List UInt8} {d : Bool} {p : Nat} (h : Src M w P B F D ao cap l d p) (hr : rest l d p = [2]) :
    Calls Tryd.prog 48 #[td F D] w (Cont M P B F D ao cap l d p (dec1 yes (rest l d p)) w) := by
  have hM := h.r.m
  have hP := h.r.pm
  have hPw : P < w.heap.size := Nat.lt_of_lt_of_le hP hM
  have hA : Hid (dec1 yes (rest l d p) = .err 4) := by
    show _ = _
    rw [hr]
    rfl
  obtain ⟨A, hA0⟩ : ∃ A, dec1 yes (rest l d p) = A := ⟨_, rfl⟩
  rw [hA0] at hA ⊢
  have c49 := fun o => turned1_more (h.below ((Below.refl M w).alloc hM o)) _ _ hr
  have hn := (rest_cons hr).2
  clear h hA0 hr
  go_enter Tryd.func48, Tryd.ntmps48
  go_wp2_with fail
  refine (c49 _).mono ?_
  rintro e w1 ⟨rfl, hs, hg⟩
  clear c49
  have hB := (Blk.new w _ _ _ _).moved hg hPw
  obtain ⟨b0, b1, b2, b3⟩ := hB.c
  obtain ⟨f0, f1, f2, f3⟩ := hB.f
  have hMb : M ≤ w.heap.size := hM
  have hgw : w.grownBy w1 (some P) := moved_alloc hg
  have hone : ((2 : UInt8).toNat : Int) = 2 := rfl
  go_wp2_with fail
  refine (readBool_end (hs.set hMb _) hn).mono ?_
  rintro e w2 ⟨rfl, hg2, -⟩
  have hB2 := (hB.s0 _).moved hg2 hPw
  obtain ⟨d0, d1, d2, d3⟩ := hB2.c
  obtain ⟨e0, e1, e2, e3⟩ := hB2.f
  have hgw2 : w.grownBy w2 (some P) := grown_trans (moved_set hgw (Nat.le_refl _)) hg2
  clear b0 b1 b2 b3 f0 f1 f2 f3
  go_wp2_with fail
  refine bodyPost_ret (results_blk rfl _ _ w.heap.size _ _ _ _ rfl (((((hB2.s1 _).s0 _).s1 _).s2 _).s3 _)) rfl ?_
  rw [hA.out]
  exact ⟨⟨1, 0, 0, ⟨#[]⟩⟩, rfl, (by repeat (first | exact hgw2 | refine moved_set ?_ (Nat.le_refl _))), fun h => by cases h⟩
set_option maxRecDepth 100000 in
set_option maxHeartbeats 1000000 in
theorem content_int {M : Nat} {w : World} {P B F D : Nat} {ao : Option Addr} {cap : Nat} {l : List UInt8} {d : Bool} {p : Nat} (h : Src M w P B F D ao cap l d p) (r : List UInt8) (hr : rest l d p = 3 :: r) (hl : ¬ r.length < 8) :
    Calls Tryd.prog 48 #[td F D] w (Cont M P B F D ao cap l d p (dec1 yes (rest l d p)) w) := by
  have hM := h.r.m
  have hP := h.r.pm
  have hPw : P < w.heap.size := Nat.lt_of_lt_of_le hP hM
  have hA : Hid (dec1 yes (rest l d p) = .ok ⟨2, num (r.take 8) 0 - two63, 0, []⟩ 9) := by
    show _ = _
    rw [hr]
    simp only [dec1]; rw [if_neg (by decide), if_neg (by decide), if_pos trivial, if_neg hl]; rfl
  obtain ⟨A, hA0⟩ : ∃ A, dec1 yes (rest l d p) = A := ⟨_, rfl⟩
  rw [hA0] at hA ⊢
  have c49 := fun o => turned1_more (h.below ((Below.refl M w).alloc hM o)) _ _ hr
  have hn := (rest_cons hr).2
  clear h hA0 hr
  go_enter Tryd.func48, Tryd.ntmps48
  go_wp2_with fail
  refine (c49 _).mono ?_
  rintro e w1 ⟨rfl, hs, hg⟩
  clear c49
  have hB := (Blk.new w _ _ _ _).moved hg hPw
  obtain ⟨b0, b1, b2, b3⟩ := hB.c
  obtain ⟨f0, f1, f2, f3⟩ := hB.f
  have hMb : M ≤ w.heap.size := hM
  have hgw : w.grownBy w1 (some P) := moved_alloc hg
  have hone : ((3 : UInt8).toNat : Int) = 3 := rfl
  have hN8 := num8 (r.take 8) (by rw [List.length_take]; omega)
  have hI := Lib.hid (int_of_num (num (r.take 8) 0) hN8.1 hN8.2)
  obtain ⟨N, hNN⟩ : ∃ N, num (r.take 8) 0 = N := ⟨_, rfl⟩
  rw [hNN] at hN8 hI hA
  have HL := Lib.hid hl
  clear hl
  go_wp2_with fail
  refine (readNumber_any (hs.set hMb _) r hn).mono ?_
  intro e w2 hNP
  unfold NumPost at hNP
  rw [if_neg HL.out, hNN] at hNP
  obtain ⟨rfl, hg2, hs2⟩ := hNP
  clear hNN
  have hs3 := hs2 rfl
  clear hs2
  have hB2 := (hB.s0 _).moved hg2 hPw
  obtain ⟨d0, d1, d2, d3⟩ := hB2.c
  obtain ⟨e0, e1, e2, e3⟩ := hB2.f
  have hgw2 : w.grownBy w2 (some P) := grown_trans (moved_set hgw (Nat.le_refl _)) hg2
  clear b0 b1 b2 b3 f0 f1 f2 f3
  go_wp2_with fail
  refine bodyPost_ret (results_blk rfl _ _ w.heap.size _ _ _ _ rfl (((((hB2.s1 _).s0 _).s1 _).s2 _).s3 _)) rfl ?_
  rw [hA.out]
  exact ⟨⟨2, N - two63, 0, ⟨#[]⟩⟩, by rw [← hI.out]; rfl, (by repeat (first | exact hgw2 | refine moved_set ?_ (Nat.le_refl _))), fun _ => ⟨rfl, (by repeat (first | exact hs3 | refine Src.set ?_ hMb _))⟩⟩
set_option maxRecDepth 100000 in
set_option maxHeartbeats 1000000 in
theorem content_int_short {M : Nat} {w : World} {P B F D : Nat} {ao : Option Addr} {cap : Nat} {l : List UInt8} {d : Bool} {p : Nat} (h : Src M w P B F D ao cap l d p) (r : List UInt8) (hr : rest l d p = 3 :: r) (hl : r.length < 8) :
    Calls Tryd.prog 48 #[td F D] w (Cont M P B F D ao cap l d p (dec1 yes (rest l d p)) w) := by
  have hM := h.r.m
  have hP := h.r.pm
  have hPw : P < w.heap.size := Nat.lt_of_lt_of_le hP hM
  have hA : Hid (dec1 yes (rest l d p) = .err 4) := by
    show _ = _
    rw [hr]
    simp only [dec1]; rw [if_neg (by decide), if_neg (by decide), if_pos trivial, if_pos hl]
  obtain ⟨A, hA0⟩ : ∃ A, dec1 yes (rest l d p) = A := ⟨_, rfl⟩
  rw [hA0] at hA ⊢
  have c49 := fun o => turned1_more (h.below ((Below.refl M w).alloc hM o)) _ _ hr
  have hn := (rest_cons hr).2
  clear h hA0 hr
  go_enter Tryd.func48, Tryd.ntmps48
  go_wp2_with fail
  refine (c49 _).mono ?_
  rintro e w1 ⟨rfl, hs, hg⟩
  clear c49
  have hB := (Blk.new w _ _ _ _).moved hg hPw
  obtain ⟨b0, b1, b2, b3⟩ := hB.c
  obtain ⟨f0, f1, f2, f3⟩ := hB.f
  have hMb : M ≤ w.heap.size := hM
  have hgw : w.grownBy w1 (some P) := moved_alloc hg
  have hone : ((3 : UInt8).toNat : Int) = 3 := rfl
  have HL := Lib.hid hl
  clear hl
  go_wp2_with fail
  refine (readNumber_any (hs.set hMb _) r hn).mono ?_
  intro e w2 hNP
  unfold NumPost at hNP
  rw [if_pos HL.out] at hNP
  obtain ⟨rfl, hg2, -⟩ := hNP
  have hB2 := (hB.s0 _).moved hg2 hPw
  obtain ⟨d0, d1, d2, d3⟩ := hB2.c
  obtain ⟨e0, e1, e2, e3⟩ := hB2.f
  have hgw2 : w.grownBy w2 (some P) := grown_trans (moved_set hgw (Nat.le_refl _)) hg2
  clear b0 b1 b2 b3 f0 f1 f2 f3
  go_wp2_with fail
  refine bodyPost_ret (results_blk rfl _ _ w.heap.size _ _ _ _ rfl (((((hB2.s1 _).s0 _).s1 _).s2 _).s3 _)) rfl ?_
  rw [hA.out]
  exact ⟨⟨_, _, _, _⟩, rfl, (by repeat (first | exact hgw2 | refine moved_set ?_ (Nat.le_refl _))), fun h => by cases h⟩
set_option maxRecDepth 100000 in
set_option maxHeartbeats 1000000 in
theorem content_real {M : Nat} {w : World} {P B F D : Nat} {ao : Option Addr} {cap : Nat} {l : List UInt8} {d : Bool} {p : Nat} (h : Src M w P B F D ao cap l d p) (r : List UInt8) (hr : rest l d p = 4 :: r) (hl : ¬ r.length < 8) :
    Calls Tryd.prog 48 #[td F D] w (Cont M P B F D ao cap l d p (dec1 yes (rest l d p)) w) := by
  have hM := h.r.m
  have hP := h.r.pm
  have hPw : P < w.heap.size := Nat.lt_of_lt_of_le hP hM
  have hA : Hid (dec1 yes (rest l d p) = .ok ⟨3, 0, down64 (num (r.take 8) 0), []⟩ 9) := by
    show _ = _
    rw [hr]
    simp only [dec1]; rw [if_neg (by decide), if_neg (by decide), if_neg (by decide), if_pos trivial, if_neg hl]; rfl
  obtain ⟨A, hA0⟩ : ∃ A, dec1 yes (rest l d p) = A := ⟨_, rfl⟩
  rw [hA0] at hA ⊢
  have c49 := fun o => turned1_more (h.below ((Below.refl M w).alloc hM o)) _ _ hr
  have hn := (rest_cons hr).2
  clear h hA0 hr
  go_enter Tryd.func48, Tryd.ntmps48
  go_wp2_with fail
  refine (c49 _).mono ?_
  rintro e w1 ⟨rfl, hs, hg⟩
  clear c49
  have hB := (Blk.new w _ _ _ _).moved hg hPw
  obtain ⟨b0, b1, b2, b3⟩ := hB.c
  obtain ⟨f0, f1, f2, f3⟩ := hB.f
  have hMb : M ≤ w.heap.size := hM
  have hgw : w.grownBy w1 (some P) := moved_alloc hg
  have hone : ((4 : UInt8).toNat : Int) = 4 := rfl
  have hN8 := num8 (r.take 8) (by rw [List.length_take]; omega)
  have c63 := fun w => bitsOfReal_any (num (r.take 8) 0) w hN8.1 (by have := hN8.2; unfold two64 at this; omega)
  obtain ⟨N, hNN⟩ : ∃ N, num (r.take 8) 0 = N := ⟨_, rfl⟩
  rw [hNN] at hN8 c63 hA
  have HL := Lib.hid hl
  clear hl
  go_wp2_with fail
  refine (readNumber_any (hs.set hMb _) r hn).mono ?_
  intro e w2 hNP
  unfold NumPost at hNP
  rw [if_neg HL.out, hNN] at hNP
  obtain ⟨rfl, hg2, hs2⟩ := hNP
  clear hNN
  have hs3 := hs2 rfl
  clear hs2
  have hB2 := (hB.s0 _).moved hg2 hPw
  obtain ⟨d0, d1, d2, d3⟩ := hB2.c
  obtain ⟨e0, e1, e2, e3⟩ := hB2.f
  have hgw2 : w.grownBy w2 (some P) := grown_trans (moved_set hgw (Nat.le_refl _)) hg2
  clear b0 b1 b2 b3 f0 f1 f2 f3
  go_wp2_with fail
  refine (c63 _).mono ?_
  rintro e w3 ⟨rfl, rfl⟩
  go_wp2_with fail
  refine bodyPost_ret (results_blk rfl _ _ w.heap.size _ _ _ _ rfl (((((hB2.s2 _).s0 _).s1 _).s2 _).s3 _)) rfl ?_
  rw [hA.out]
  exact ⟨⟨3, 0, down64 N, ⟨#[]⟩⟩, rfl, (by repeat (first | exact hgw2 | refine moved_set ?_ (Nat.le_refl _))), fun _ => ⟨rfl, (by repeat (first | exact hs3 | refine Src.set ?_ hMb _))⟩⟩
set_option maxRecDepth 100000 in
set_option maxHeartbeats 1000000 in
theorem content_real_short {M : Nat} {w : World} {P B F D : Nat} {ao : Option Addr} {cap : Nat} {l : List UInt8} {d : Bool} {p : Nat} (h : Src M w P B F D ao cap l d p) (r : List UInt8) (hr : rest l d p = 4 :: r) (hl : r.length < 8) :
    Calls Tryd.prog 48 #[td F D] w (Cont M P B F D ao cap l d p (dec1 yes (rest l d p)) w) := by
  have hM := h.r.m
  have hP := h.r.pm
  have hPw : P < w.heap.size := Nat.lt_of_lt_of_le hP hM
  have hA : Hid (dec1 yes (rest l d p) = .err 4) := by
    show _ = _
    rw [hr]
    simp only [dec1]; rw [if_neg (by decide), if_neg (by decide), if_neg (by decide), if_pos trivial, if_pos hl]
  obtain ⟨A, hA0⟩ : ∃ A, dec1 yes (rest l d p) = A := ⟨_, rfl⟩
  rw [hA0] at hA ⊢
  have c49 := fun o => turned1_more (h.below ((Below.refl M w).alloc hM o)) _ _ hr
  have hn := (rest_cons hr).2
  clear h hA0 hr
  go_enter Tryd.func48, Tryd.ntmps48
  go_wp2_with fail
  refine (c49 _).mono ?_
  rintro e w1 ⟨rfl, hs, hg⟩
  clear c49
  have hB := (Blk.new w _ _ _ _).moved hg hPw
  obtain ⟨b0, b1, b2, b3⟩ := hB.c
  obtain ⟨f0, f1, f2, f3⟩ := hB.f
  have hMb : M ≤ w.heap.size := hM
  have hgw : w.grownBy w1 (some P) := moved_alloc hg
  have hone : ((4 : UInt8).toNat : Int) = 4 := rfl
  have HL := Lib.hid hl
  clear hl
  go_wp2_with fail
  refine (readNumber_any (hs.set hMb _) r hn).mono ?_
  intro e w2 hNP
  unfold NumPost at hNP
  rw [if_pos HL.out] at hNP
  obtain ⟨rfl, hg2, -⟩ := hNP
  have c63 := fun w => bitsOfReal_any 0 w (by decide) (by decide)
  have hB2 := (hB.s0 _).moved hg2 hPw
  obtain ⟨d0, d1, d2, d3⟩ := hB2.c
  obtain ⟨e0, e1, e2, e3⟩ := hB2.f
  have hgw2 : w.grownBy w2 (some P) := grown_trans (moved_set hgw (Nat.le_refl _)) hg2
  clear b0 b1 b2 b3 f0 f1 f2 f3
  go_wp2_with fail
  refine (c63 _).mono ?_
  rintro e w3 ⟨rfl, rfl⟩
  go_wp2_with fail
  refine bodyPost_ret (results_blk rfl _ _ w.heap.size _ _ _ _ rfl (((((hB2.s2 _).s0 _).s1 _).s2 _).s3 _)) rfl ?_
  rw [hA.out]
  exact ⟨⟨_, _, _, _⟩, rfl, (by repeat (first | exact hgw2 | refine moved_set ?_ (Nat.le_refl _))), fun h => by cases h⟩
set_option maxRecDepth 100000 in
set_option maxHeartbeats 1000000 in
theorem content_text {M : Nat} {w : World} {P B F D : Nat} {ao : Option Addr} {cap : Nat} {l : List UInt8} {d : Bool} {p : Nat} (h : Src M w P B F D ao cap l d p) (r s : List UInt8) (k : Nat) (hr : rest l d p = 5 :: r) (hT : txt r [] 0 = .ok s k) :
    Calls Tryd.prog 48 #[td F D] w (Cont M P B F D ao cap l d p (dec1 yes (rest l d p)) w) := by
  have hM := h.r.m
  have hP := h.r.pm
  have hPw : P < w.heap.size := Nat.lt_of_lt_of_le hP hM
  have hA : Hid (dec1 yes (rest l d p) = .ok ⟨4, 0, 0, s⟩ (k + 1)) := by
    show _ = _
    rw [hr]
    simp only [dec1]; rw [if_neg (by decide), if_neg (by decide), if_neg (by decide), if_neg (by decide), if_pos trivial, hT]; rfl
  obtain ⟨A, hA0⟩ : ∃ A, dec1 yes (rest l d p) = A := ⟨_, rfl⟩
  rw [hA0] at hA ⊢
  have c49 := fun o => turned1_more (h.below ((Below.refl M w).alloc hM o)) _ _ hr
  have hn := (rest_cons hr).2
  clear h hA0 hr
  go_enter Tryd.func48, Tryd.ntmps48
  go_wp2_with fail
  refine (c49 _).mono ?_
  rintro e w1 ⟨rfl, hs, hg⟩
  clear c49
  have hB := (Blk.new w _ _ _ _).moved hg hPw
  obtain ⟨b0, b1, b2, b3⟩ := hB.c
  obtain ⟨f0, f1, f2, f3⟩ := hB.f
  have hMb : M ≤ w.heap.size := hM
  have hgw : w.grownBy w1 (some P) := moved_alloc hg
  have hone : ((5 : UInt8).toNat : Int) = 5 := rfl
  have HT := Lib.hid hT
  clear hT
  go_wp2_with fail
  refine (readText_any (hs.set hMb _) (.ok s k) (by rw [hn]; exact HT.out)).mono ?_
  rintro e w2 ⟨rfl, hg2, hs2⟩
  have hs3 := hs2 rfl
  clear hs2
  have hs4 : Src M w2 P B F D ao cap l d (p + (k + 1)) := by
    have e : p + 1 + k = p + (k + 1) := by omega
    rw [← e]; exact hs3
  have hB2 := (hB.s0 _).moved hg2 hPw
  obtain ⟨d0, d1, d2, d3⟩ := hB2.c
  obtain ⟨e0, e1, e2, e3⟩ := hB2.f
  have hgw2 : w.grownBy w2 (some P) := grown_trans (moved_set hgw (Nat.le_refl _)) hg2
  clear b0 b1 b2 b3 f0 f1 f2 f3
  go_wp2_with fail
  refine bodyPost_ret (results_blk rfl _ _ w.heap.size _ _ _ _ rfl (((((hB2.s3 _).s0 _).s1 _).s2 _).s3 _)) rfl ?_
  rw [hA.out]
  exact ⟨⟨4, 0, 0, ⟨s.toArray⟩⟩, rfl, (by repeat (first | exact hgw2 | refine moved_set ?_ (Nat.le_refl _))), fun _ => ⟨rfl, (by repeat (first | exact hs4 | refine Src.set ?_ hMb _))⟩⟩
set_option maxRecDepth 100000 in
set_option maxHeartbeats 1000000 in
theorem content_text_err {M : Nat} {w : World} {P B F D : Nat} {ao : Option Addr} {cap : Nat} {l : List UInt8} {d : Bool} {p : Nat} (h : Src M w P B F D ao cap l d p) (r : List UInt8) (e : Int) (hr : rest l d p = 5 :: r) (hT : txt r [] 0 = .err e) (he : e ≠ 0) :
    Calls Tryd.prog 48 #[td F D] w (Cont M P B F D ao cap l d p (dec1 yes (rest l d p)) w) := by
  have hM := h.r.m
  have hP := h.r.pm
  have hPw : P < w.heap.size := Nat.lt_of_lt_of_le hP hM
  have hA : Hid (dec1 yes (rest l d p) = .err e) := by
    show _ = _
    rw [hr]
    simp only [dec1]; rw [if_neg (by decide), if_neg (by decide), if_neg (by decide), if_neg (by decide), if_pos trivial, hT]
  obtain ⟨A, hA0⟩ : ∃ A, dec1 yes (rest l d p) = A := ⟨_, rfl⟩
  rw [hA0] at hA ⊢
  have c49 := fun o => turned1_more (h.below ((Below.refl M w).alloc hM o)) _ _ hr
  have hn := (rest_cons hr).2
  clear h hA0 hr
  go_enter Tryd.func48, Tryd.ntmps48
  go_wp2_with fail
  refine (c49 _).mono ?_
  rintro e w1 ⟨rfl, hs, hg⟩
  clear c49
  have hB := (Blk.new w _ _ _ _).moved hg hPw
  obtain ⟨b0, b1, b2, b3⟩ := hB.c
  obtain ⟨f0, f1, f2, f3⟩ := hB.f
  have hMb : M ≤ w.heap.size := hM
  have hgw : w.grownBy w1 (some P) := moved_alloc hg
  have hone : ((5 : UInt8).toNat : Int) = 5 := rfl
  have HT := Lib.hid hT
  clear hT
  go_wp2_with fail
  refine (readText_any (hs.set hMb _) (.err e) (by rw [hn]; exact HT.out)).mono ?_
  rintro _ w2 ⟨rfl, hg2, hs2⟩
  have hB2 := (hB.s0 _).moved hg2 hPw
  obtain ⟨d0, d1, d2, d3⟩ := hB2.c
  obtain ⟨e0, e1, e2, e3⟩ := hB2.f
  have hgw2 : w.grownBy w2 (some P) := grown_trans (moved_set hgw (Nat.le_refl _)) hg2
  clear b0 b1 b2 b3 f0 f1 f2 f3
  go_wp2_with fail
  refine bodyPost_ret (results_blk rfl _ _ w.heap.size _ _ _ _ rfl (((((hB2.s3 _).s0 _).s1 _).s2 _).s3 _)) rfl ?_
  rw [hA.out]
  exact ⟨⟨4, 0, 0, ⟨#[]⟩⟩, rfl, (by repeat (first | exact hgw2 | refine moved_set ?_ (Nat.le_refl _))), fun h => absurd h he⟩
set_option maxRecDepth 100000 in
set_option maxHeartbeats 1000000 in
theorem content_bad {M : Nat} {w : World} {P B F D : Nat} {ao : Option Addr} {cap : Nat} {l : List UInt8} {d : Bool} {p : Nat} (h : Src M w P B F D ao cap l d p) (c : UInt8) (r : List UInt8) (hr : rest l d p = c :: r) (h1 : ¬ c = 1) (h2 : ¬ c = 2) (h3 : ¬ c = 3) (h4 : ¬ c = 4) (h5 : ¬ c = 5) :
    Calls Tryd.prog 48 #[td F D] w (Cont M P B F D ao cap l d p (dec1 yes (rest l d p)) w) := by
  have hM := h.r.m
  have hP := h.r.pm
  have hPw : P < w.heap.size := Nat.lt_of_lt_of_le hP hM
  have hA : Hid (dec1 yes (rest l d p) = .err 3) := by
    show _ = _
    rw [hr]
    simp only [dec1]; rw [if_neg h1, if_neg h2, if_neg h3, if_neg h4, if_neg h5]
  obtain ⟨A, hA0⟩ : ∃ A, dec1 yes (rest l d p) = A := ⟨_, rfl⟩
  rw [hA0] at hA ⊢
  have c49 := fun o => turned1_more (h.below ((Below.refl M w).alloc hM o)) _ _ hr
  have hn := (rest_cons hr).2
  clear h hA0 hr
  have k1 : ((c.toNat : Int) - 1 == 0) = false := by simp only [beq_eq_false_iff_ne]; intro e; exact h1 (byte_eq (show (c.toNat : Int) = 1 by omega))
  have k2 : ((c.toNat : Int) - 1 == 1) = false := by simp only [beq_eq_false_iff_ne]; intro e; exact h2 (byte_eq (show (c.toNat : Int) = 2 by omega))
  have k3 : ((c.toNat : Int) - 1 == 2) = false := by simp only [beq_eq_false_iff_ne]; intro e; exact h3 (byte_eq (show (c.toNat : Int) = 3 by omega))
  have k4 : ((c.toNat : Int) - 1 == 3) = false := by simp only [beq_eq_false_iff_ne]; intro e; exact h4 (byte_eq (show (c.toNat : Int) = 4 by omega))
  have k5 : ((c.toNat : Int) - 1 == 4) = false := by simp only [beq_eq_false_iff_ne]; intro e; exact h5 (byte_eq (show (c.toNat : Int) = 5 by omega))
  clear h1 h2 h3 h4 h5
  go_enter Tryd.func48, Tryd.ntmps48
  go_wp2_with fail
  refine (c49 _).mono ?_
  rintro e w1 ⟨rfl, hs, hg⟩
  clear c49
  have hB := (Blk.new w _ _ _ _).moved hg hPw
  obtain ⟨b0, b1, b2, b3⟩ := hB.c
  obtain ⟨f0, f1, f2, f3⟩ := hB.f
  have hMb : M ≤ w.heap.size := hM
  have hgw : w.grownBy w1 (some P) := moved_alloc hg
  have hlt := byte_lt c
  go_wp2_with fail
  refine bodyPost_ret (results_blk rfl _ _ w.heap.size _ _ _ _ rfl (((((hB.s0 _).s0 _).s1 _).s2 _).s3 _)) rfl ?_
  rw [hA.out]
  exact ⟨⟨_, 0, 0, ⟨#[]⟩⟩, rfl, (by repeat (first | exact hgw | refine moved_set ?_ (Nat.le_refl _))), fun h => by cases h⟩

theorem txt_err_ne : ∀ (n : Nat) (l acc : List UInt8) (k : Nat) (e : Int), l.length ≤ n → txt l acc k = .err e → e ≠ 0
  | n, [], acc, k, e, hn, h => by simp [txt] at h; omega
  | 0, c :: l, acc, k, e, hn, h => by simp at hn
  | n + 1, c :: l, acc, k, e, hn, h => by
    simp only [List.length_cons] at hn
    by_cases hc : c = 0
    · subst hc
      match l with
      | [] => simp [txt] at h; omega
      | m :: l' =>
        simp only [List.length_cons] at hn
        simp only [txt, if_pos] at h
        by_cases h1 : m = 255
        · subst h1
          simp only [if_pos] at h
          split at h
          · simp at h; omega
          · exact txt_err_ne n l' _ _ e (by omega) h
        · rw [if_neg h1] at h
          split at h
          · cases h
          · simp at h; omega
    · rw [txt_cons _ _ _ _ hc] at h
      split at h
      · simp at h; omega
      · exact txt_err_ne n l _ _ e (by omega) h

theorem readContent_any {M : Nat} {w : World} {P B F D : Nat} {ao : Option Addr} {cap : Nat} {l : List UInt8} {d : Bool} {p : Nat} (h : Src M w P B F D ao cap l d p) :
    Calls Tryd.prog 48 #[td F D] w (Cont M P B F D ao cap l d p (dec1 yes (rest l d p)) w) := by
  cases hr : rest l d p with
  | nil => rw [← hr]; exact content_end h hr
  | cons c r =>
    rw [← hr]
    by_cases h1 : c = 1
    · subst h1; exact content_null h r hr
    by_cases h2 : c = 2
    · subst h2
      cases r with
      | nil => exact content_bool_end h hr
      | cons c r => exact content_bool h c r hr
    by_cases h3 : c = 3
    · subst h3
      by_cases hl : r.length < 8
      · exact content_int_short h r hr hl
      · exact content_int h r hr hl
    by_cases h4 : c = 4
    · subst h4
      by_cases hl : r.length < 8
      · exact content_real_short h r hr hl
      · exact content_real h r hr hl
    by_cases h5 : c = 5
    · subst h5
      cases hT : txt r [] 0 with
      | err e => exact content_text_err h r e hr hT (txt_err_ne _ r [] 0 e (Nat.le_refl _) hT)
      | ok s k => exact content_text h r s k hr hT
    exact content_bad h c r hr h1 h2 h3 h4 h5
end Go.Proofs.YtjllecmlabodaabDoor
