/-
  THE WALK of the law 'chirographkeep.OrderChain': for every three raw things the law returns true.
  CONDITIONS: package unicode/utf8's two tables hold what their initialisers lay ('Tabs').
-/
import Derived.Test.YtnoloacfelnkbaaDoorLawC
import Derived.Test.YtnoloacfelnkbaaDoorLawE
import Derived.Test.YtnoloacfelnkbaaDoorRegInv
namespace Go.Proofs.YtnoloacfelnkbaaDoor
open Go.RowKit
set_option linter.unusedVariables false

/-- Three values in three blocks. -/
def Three (w : World) (x y y' : Value) (wx : World) : Prop := ∃ (v u z : V) (p q l : Nat), x = .pointer (some ⟨p, 0, none⟩) ∧ y = .pointer (some ⟨q, 0, none⟩) ∧ y' = .pointer (some ⟨l, 0, none⟩) ∧ Ok v ∧ Ok u ∧ Ok z ∧ p < wx.heap.size ∧ q < wx.heap.size ∧ l < wx.heap.size ∧ At wx p v ∧ At wx q u ∧ At wx l z ∧ Below w.heap.size w wx

def cnt (b : Bool) : Nat := if b then 0 else 1
def Room (w : World) (p : Nat) : Prop := ∀ o, o < 4 → (w.cell? ⟨p, o, none⟩).isSome = true ∧ w.frozen? ⟨p, o, none⟩ = false
/-- Four cells that came in. -/
def RawAt (w : World) (p : Nat) (k a b : Int) (s : ByteArray) : Prop := w.cell? ⟨p, 0, none⟩ = some (.int .i64 k) ∧ w.cell? ⟨p, 1, none⟩ = some (.int .i64 a) ∧ w.cell? ⟨p, 2, none⟩ = some (.int .i64 b) ∧ w.cell? ⟨p, 3, none⟩ = some (.string s)
/-- What one of the three has come to: its load, its call, its place, its store. -/
structure J (l c al st : Bool) (raw sl sc sa : Value) (v : V) (p : Nat) (w w' : World) : Prop where
  ld : l = true → sl = raw
  cl : c = true → Ok v ∧ sc = .agg #[.int .i64 v.k, .int .i64 v.i, .int .u64 v.b, .string v.s]
  pl : al = true → sa = .pointer (some ⟨p, 0, none⟩) ∧ w.heap.size + 3 ≤ p ∧ p < w'.heap.size ∧ Room w' p
  sd : st = true → al = true ∧ c = true ∧ At w' p v
structure Base (w : World) (ka a b : Int) (s : ByteArray) (kc c d : Int) (t : ByteArray) (ke f g : Int) (r : ByteArray) (w' : World) : Prop where
  r0 : RawAt w' w.heap.size ka a b s
  r1 : RawAt w' (w.heap.size + 1) kc c d t
  r2 : RawAt w' (w.heap.size + 1 + 1) ke f g r
  below : Below w.heap.size w w'
  size : w.heap.size + 3 ≤ w'.heap.size

/-- Blocks that are as they were. -/
structure Same (p : Nat) (w w1 : World) : Prop where
  cell : ∀ o, w1.cell? ⟨p, o, none⟩ = w.cell? ⟨p, o, none⟩
  frozen : ∀ o, w1.frozen? ⟨p, o, none⟩ = w.frozen? ⟨p, o, none⟩
theorem same_below {w w1 : World} {p : Nat} (hb : Below w.heap.size w w1) (hp : p < w.heap.size) : Same p w w1 := ⟨fun o => hb.cell (p := ⟨p, o, none⟩) hp, fun o => hb.frozen (p := ⟨p, o, none⟩) hp⟩
theorem RawAt.same {w w1 : World} {p : Nat} {k a b : Int} {s : ByteArray} (h : RawAt w p k a b s) (e : Same p w w1) : RawAt w1 p k a b s :=
  ⟨(e.cell 0).trans h.1, (e.cell 1).trans h.2.1, (e.cell 2).trans h.2.2.1, (e.cell 3).trans h.2.2.2⟩
theorem At.same {w w1 : World} {p : Nat} {v : V} (h : At w p v) (e : Same p w w1) : At w1 p v :=
  ⟨(e.cell 0).trans h.1, (e.cell 1).trans h.2.1, (e.cell 2).trans h.2.2.1, (e.cell 3).trans h.2.2.2⟩
theorem Room.same {w w1 : World} {p : Nat} (h : Room w p) (e : Same p w w1) : Room w1 p := fun o ho => by rw [e.cell, e.frozen]; exact h o ho
theorem J.same {l c al st : Bool} {raw sl sc sa : Value} {v : V} {p : Nat} {w w' w1 : World} (h : J l c al st raw sl sc sa v p w w') (hs : w'.heap.size ≤ w1.heap.size) (e : al = true → Same p w' w1) : J l c al st raw sl sc sa v p w w1 :=
  ⟨h.ld, h.cl, fun a => ⟨(h.pl a).1, (h.pl a).2.1, Nat.lt_of_lt_of_le (h.pl a).2.2.1 hs, (h.pl a).2.2.2.same (e a)⟩, fun s => ⟨(h.sd s).1, (h.sd s).2.1, (h.sd s).2.2.same (e (h.sd s).1)⟩⟩
theorem J.below {l c al st : Bool} {raw sl sc sa : Value} {v : V} {p : Nat} {w w' w1 : World} (h : J l c al st raw sl sc sa v p w w') (hb : Below w'.heap.size w' w1) : J l c al st raw sl sc sa v p w w1 :=
  h.same hb.size fun a => same_below hb (h.pl a).2.2.1
theorem Base.below' {w w' w1 : World} {ka a b : Int} {s : ByteArray} {kc c d : Int} {t : ByteArray} {ke f g : Int} {r : ByteArray} (h : Base w ka a b s kc c d t ke f g r w') (hb : Below w'.heap.size w' w1) : Base w ka a b s kc c d t ke f g r w1 :=
  have := h.size
  ⟨h.r0.same (same_below hb (by omega)), h.r1.same (same_below hb (by omega)), h.r2.same (same_below hb (by omega)), below_step h.below hb, Nat.le_trans h.size hb.size⟩

/-- A value stored into a block. -/
def put4 (w : World) (p : Nat) (v : V) : World := (((w.setCell ⟨p, 0, none⟩ (.int .i64 v.k)).setCell ⟨p, 1, none⟩ (.int .i64 v.i)).setCell ⟨p, 2, none⟩ (.int .u64 v.b)).setCell ⟨p, 3, none⟩ (.string v.s)
theorem same_set {w : World} {p q o : Nat} {x : Value} (h : q ≠ p) : Same q w (w.setCell ⟨p, o, none⟩ x) :=
  ⟨fun i => World.cell?_of_block (w := w) (Below.heap_setCell w ⟨p, o, none⟩ x q h), fun i => World.frozen?_of_block (w := w) (Below.heap_setCell w ⟨p, o, none⟩ x q h)⟩
theorem Same.trans {p : Nat} {w w1 w2 : World} (h : Same p w w1) (k : Same p w1 w2) : Same p w w2 := ⟨fun o => (k.cell o).trans (h.cell o), fun o => (k.frozen o).trans (h.frozen o)⟩
theorem put4_same {w : World} {p q : Nat} {v : V} (h : q ≠ p) : Same q w (put4 w p v) := (((same_set h).trans (same_set h)).trans (same_set h)).trans (same_set h)
theorem put4_size (w : World) (p : Nat) (v : V) : (put4 w p v).heap.size = w.heap.size := by unfold put4 World.setCell; simp
theorem put4_below {w0 w : World} {p : Nat} {v : V} (h : Below w0.heap.size w0 w) (hp : w0.heap.size ≤ p) : Below w0.heap.size w0 (put4 w p v) := (((h.setCell hp _).setCell hp _).setCell hp _).setCell hp _
theorem put4_at {w : World} {p : Nat} {v : V} (h : Room w p) : At (put4 w p v) p v := by
  obtain ⟨x0, e0⟩ := Option.isSome_iff_exists.1 (h 0 (by decide)).1
  obtain ⟨x1, e1⟩ := Option.isSome_iff_exists.1 (h 1 (by decide)).1
  obtain ⟨x2, e2⟩ := Option.isSome_iff_exists.1 (h 2 (by decide)).1
  obtain ⟨x3, e3⟩ := Option.isSome_iff_exists.1 (h 3 (by decide)).1
  unfold put4 At
  refine ⟨?_, ?_, ?_, ?_⟩ <;> go_simp
theorem put4_room {w : World} {p : Nat} {v : V} (h : Room w p) : Room (put4 w p v) p := fun o ho => by
  have a := put4_at (v := v) h
  have f : (put4 w p v).frozen? ⟨p, o, none⟩ = w.frozen? ⟨p, o, none⟩ := by unfold put4; go_simp
  refine ⟨?_, f.trans (h o ho).2⟩
  rcases (show o = 0 ∨ o = 1 ∨ o = 2 ∨ o = 3 by omega) with rfl | rfl | rfl | rfl
  · rw [a.1]; rfl
  · rw [a.2.1]; rfl
  · rw [a.2.2.1]; rfl
  · rw [a.2.2.2]; rfl
theorem Base.put {w w' : World} {p : Nat} {v : V} {ka a b : Int} {s : ByteArray} {kc c d : Int} {t : ByteArray} {ke f g : Int} {r : ByteArray} (h : Base w ka a b s kc c d t ke f g r w') (hp : w.heap.size + 3 ≤ p) : Base w ka a b s kc c d t ke f g r (put4 w' p v) :=
  ⟨h.r0.same (put4_same (by omega)), h.r1.same (put4_same (by omega)), h.r2.same (put4_same (by omega)), put4_below h.below (by omega), by rw [put4_size]; exact h.size⟩

theorem cnt_zero {b : Bool} (h : cnt b = 0) : b = true := by cases b <;> simp [cnt] at h ⊢
theorem not_ready {md : Region.Mode} {ops : Array Oper} {listed : Array Bool} (h : Region.ready md ops listed = []) (i : Nat) (hi : i < ops.size) : (!listed.getD i true && ((ops[i]?).map (·.after.all fun e => !Region.binds md e || listed.getD e.on false)).getD false) = false := by
  unfold Region.ready at h
  have := List.filter_eq_nil_iff.1 h i (List.mem_range.2 hi)
  simpa using this
theorem j_start {raw sl sc sa : Value} {v : V} {p : Nat} {w w' : World} : J false false false false raw sl sc sa v p w w' := ⟨(fun h => by cases h), (fun h => by cases h), (fun h => by cases h), (fun h => by cases h)⟩
theorem room_new {w : World} (x0 : Value) {x1 x2 x3 : Value} {t : TypeId} : Room (w.alloc (.cells #[x0, x1, x2, x3] t)) w.heap.size := fun o ho => by
  rcases (show o = 0 ∨ o = 1 ∨ o = 2 ∨ o = 3 by omega) with rfl | rfl | rfl | rfl <;> go_simp
theorem base_start (w : World) (ka a b : Int) (s : ByteArray) (kc c d : Int) (t : ByteArray) (ke f g : Int) (r : ByteArray) (t0 : TypeId) : Base w ka a b s kc c d t ke f g r ({ (((w.alloc (.cells #[.int .i64 ka, .int .i64 a, .int .i64 b, .string s] t0)).alloc (.cells #[.int .i64 kc, .int .i64 c, .int .i64 d, .string t] t0)).alloc (.cells #[.int .i64 ke, .int .i64 f, .int .i64 g, .string r] t0)) with drawn := (((w.alloc (.cells #[.int .i64 ka, .int .i64 a, .int .i64 b, .string s] t0)).alloc (.cells #[.int .i64 kc, .int .i64 c, .int .i64 d, .string t] t0)).alloc (.cells #[.int .i64 ke, .int .i64 f, .int .i64 g, .string r] t0)).drawn + 1 } : World) := by
  have hd : ∀ W : World, ({ W with drawn := W.drawn + 1 } : World) = W.drew := fun W => rfl
  rw [hd]
  refine ⟨⟨?_, ?_, ?_, ?_⟩, ⟨?_, ?_, ?_, ?_⟩, ⟨?_, ?_, ?_, ?_⟩, fresh3 _ _ _ _, by simp⟩ <;> go_simp
/-- The invariant, n operations still to come. -/
def Inv (w : World) (ka a b : Int) (s : ByteArray) (kc c d : Int) (t : ByteArray) (ke f g : Int) (r : ByteArray) (n : Nat) (listed : Array Bool) (act : Act) (w' : World) : Prop :=
  ∃ (b0 b1 b2 b3 b4 b5 b6 b7 b8 b9 b10 b11 : Bool), listed = #[b0, b1, b2, b3, b4, b5, b6, b7, b8, b9, b10, b11] ∧ cnt b0 + cnt b1 + cnt b2 + cnt b3 + cnt b4 + cnt b5 + cnt b6 + cnt b7 + cnt b8 + cnt b9 + cnt b10 + cnt b11 = n ∧ ∃ (s7 s8 s9 s18 s19 s20 s21 s22 s23 : Value), act = { tmps := #[.agg #[.int .i64 ka, .int .i64 a, .int .i64 b, .string s], .agg #[.int .i64 kc, .int .i64 c, .int .i64 d, .string t], .agg #[.int .i64 ke, .int .i64 f, .int .i64 g, .string r], .pointer (some ⟨w.heap.size, 0, none⟩), .pointer (some ⟨w.heap.size + 1, 0, none⟩), .pointer (some ⟨w.heap.size + 1 + 1, 0, none⟩), .bool false, s7, s8, s9, undef, undef, undef, undef, undef, undef, undef, undef, s18, s19, s20, s21, s22, s23, undef, undef, undef, undef, undef, undef, undef, undef, undef, undef, undef, undef, undef, undef, undef, undef, undef, undef, undef, undef, undef, undef, undef, undef, undef, undef, undef, undef, undef, undef, undef, undef, undef, undef, undef, undef, undef, undef, undef, undef, undef, undef, undef, undef, undef, undef, undef, undef, undef, undef, undef, undef, undef, undef, undef, undef, undef, undef, undef, undef, undef, undef, undef, undef, undef], defers := [] } ∧ ∃ (v u z : V) (p q l : Nat), Base w ka a b s kc c d t ke f g r w' ∧ J b0 b1 b6 b9 (.agg #[.int .i64 ka, .int .i64 a, .int .i64 b, .string s]) s18 s19 s7 v p w w' ∧ J b2 b3 b7 b10 (.agg #[.int .i64 kc, .int .i64 c, .int .i64 d, .string t]) s20 s21 s8 u q w w' ∧ J b4 b5 b8 b11 (.agg #[.int .i64 ke, .int .i64 f, .int .i64 g, .string r]) s22 s23 s9 z l w w' ∧ (b6 = true → b7 = true → p ≠ q) ∧ (b6 = true → b8 = true → p ≠ l) ∧ (b7 = true → b8 = true → q ≠ l)

set_option maxRecDepth 100000 in
set_option maxHeartbeats 4000000 in
theorem orderChain_bounds (ka a b : Int) (s : ByteArray) (kc c d : Int) (t : ByteArray) (ke f g : Int) (r : ByteArray) (hka0 : -9223372036854775808 ≤ ka) (hka1 : ka ≤ 9223372036854775807) (ha0 : -9223372036854775808 ≤ a) (ha1 : a ≤ 9223372036854775807) (hkc0 : -9223372036854775808 ≤ kc) (hkc1 : kc ≤ 9223372036854775807) (hc0 : -9223372036854775808 ≤ c) (hc1 : c ≤ 9223372036854775807) (hke0 : -9223372036854775808 ≤ ke) (hke1 : ke ≤ 9223372036854775807) (hf0 : -9223372036854775808 ≤ f) (hf1 : f ≤ 9223372036854775807) (w : World) (hT : Tabs w) :
    Calls Tryd.prog 8 #[.agg #[.int .i64 ka, .int .i64 a, .int .i64 b, .string s], .agg #[.int .i64 kc, .int .i64 c, .int .i64 d, .string t], .agg #[.int .i64 ke, .int .i64 f, .int .i64 g, .string r]] w fun e w' => e = .returned (.bool true) ∧ Below w.heap.size w w' := by
  have c1 := fun w => val_any ka a b s w hka0 hka1 ha0 ha1
  have c2 := fun w => val_any kc c d t w hkc0 hkc1 hc0 hc1
  have c3 := fun w => val_any ke f g r w hke0 hke1 hf0 hf1
  clear hka0 hka1 ha0 ha1 hkc0 hkc1 hc0 hc1 hke0 hke1 hf0 hf1
  go_enter Tryd.func8, Tryd.ntmps8
  go_upto_region 1 with fail
  go_cut [7, 8, 9] (fun x y y' wx => Three w x y y' wx)
  case first =>
    refine wp_region_any (by kernel_rfl) ?_
    refine wpAny_inv (Inv w ka a b s kc c d t ke f g r) ?step ?zero ?done _ _ _ _ ?start
    case start =>
      exact ⟨false, false, false, false, false, false, false, false, false, false, false, false, rfl, rfl, _, _, _, _, _, _, _, _, _, rfl, ⟨0, 0, 0, ⟨#[]⟩⟩, ⟨0, 0, 0, ⟨#[]⟩⟩, ⟨0, 0, 0, ⟨#[]⟩⟩, 0, 0, 0, base_start _ _ _ _ _ _ _ _ _ _ _ _ _ _, j_start, j_start, j_start, (fun h => by cases h), (fun h => by cases h), (fun h => by cases h)⟩
    case zero =>
      rintro listed act w' ⟨b0, b1, b2, b3, b4, b5, b6, b7, b8, b9, b10, b11, rfl, hn, -⟩
      obtain rfl : b0 = true := cnt_zero (by omega)
      obtain rfl : b1 = true := cnt_zero (by omega)
      obtain rfl : b2 = true := cnt_zero (by omega)
      obtain rfl : b3 = true := cnt_zero (by omega)
      obtain rfl : b4 = true := cnt_zero (by omega)
      obtain rfl : b5 = true := cnt_zero (by omega)
      obtain rfl : b6 = true := cnt_zero (by omega)
      obtain rfl : b7 = true := cnt_zero (by omega)
      obtain rfl : b8 = true := cnt_zero (by omega)
      obtain rfl : b9 = true := cnt_zero (by omega)
      obtain rfl : b10 = true := cnt_zero (by omega)
      obtain rfl : b11 = true := cnt_zero (by omega)
      kernel_rfl
    case done =>
      rintro n listed act w' ⟨b0, b1, b2, b3, b4, b5, b6, b7, b8, b9, b10, b11, rfl, hn, s7, s8, s9, s18, s19, s20, s21, s22, s23, rfl, v, u, z, p, q, l, hbase, j1, j2, j3, d12, d13, d23⟩ hr
      have q0 := not_ready hr 0 (by decide)
      simp [Region.binds] at q0
      subst q0
      have q2 := not_ready hr 2 (by decide)
      simp [Region.binds] at q2
      subst q2
      have q4 := not_ready hr 4 (by decide)
      simp [Region.binds] at q4
      subst q4
      have q6 := not_ready hr 6 (by decide)
      simp [Region.binds] at q6
      subst q6
      have q7 := not_ready hr 7 (by decide)
      simp [Region.binds] at q7
      subst q7
      have q8 := not_ready hr 8 (by decide)
      simp [Region.binds] at q8
      subst q8
      have q1 := not_ready hr 1 (by decide)
      simp [Region.binds] at q1
      subst q1
      have q3 := not_ready hr 3 (by decide)
      simp [Region.binds] at q3
      subst q3
      have q5 := not_ready hr 5 (by decide)
      simp [Region.binds] at q5
      subst q5
      have q9 := not_ready hr 9 (by decide)
      simp [Region.binds] at q9
      subst q9
      have q10 := not_ready hr 10 (by decide)
      simp [Region.binds] at q10
      subst q10
      have q11 := not_ready hr 11 (by decide)
      simp [Region.binds] at q11
      subst q11
      clear hr
      obtain ⟨o1, rfl⟩ := j1.cl rfl
      obtain ⟨o2, rfl⟩ := j2.cl rfl
      obtain ⟨o3, rfl⟩ := j3.cl rfl
      obtain ⟨rfl, -, g1, -⟩ := j1.pl rfl
      obtain ⟨rfl, -, g2, -⟩ := j2.pl rfl
      obtain ⟨rfl, -, g3, -⟩ := j3.pl rfl
      have A1 := (j1.sd rfl).2.2
      have A2 := (j2.sd rfl).2.2
      have A3 := (j3.sd rfl).2.2
      have HH : Three w (.pointer (some ⟨p, 0, none⟩)) (.pointer (some ⟨q, 0, none⟩)) (.pointer (some ⟨l, 0, none⟩)) w' := ⟨v, u, z, p, q, l, rfl, rfl, rfl, o1, o2, o3, g1, g2, g3, A1, A2, A3, hbase.below⟩
      clear j1 j2 j3 A1 A2 A3 hbase
      go_wp2_with fail
      go_meet
      exact HH
    case step =>
      rintro n listed act w' i ⟨b0, b1, b2, b3, b4, b5, b6, b7, b8, b9, b10, b11, rfl, hn, s7, s8, s9, s18, s19, s20, s21, s22, s23, rfl, v, u, z, p, q, l, hbase, j1, j2, j3, d12, d13, d23⟩ hr
      obtain ⟨hi, hp⟩ := List.mem_filter.1 hr
      have hi' : i < 12 := by simpa using hi
      clear hi hr
      rcases (show i = 0 ∨ i = 1 ∨ i = 2 ∨ i = 3 ∨ i = 4 ∨ i = 5 ∨ i = 6 ∨ i = 7 ∨ i = 8 ∨ i = 9 ∨ i = 10 ∨ i = 11 by omega) with rfl | rfl | rfl | rfl | rfl | rfl | rfl | rfl | rfl | rfl | rfl | rfl
      · simp [Region.binds] at hp
        have hb : b0 = false := by first | exact hp | exact hp.1
        subst hb
        obtain ⟨e0, e1, e2, e3⟩ := hbase.r0
        refine wpOp_step rfl (fun K' hK => ?_)
        go_simp
        exact hK _ _ ⟨true, b1, b2, b3, b4, b5, b6, b7, b8, b9, b10, b11, rfl, (by simp [cnt] at hn ⊢; omega), _, _, _, _, _, _, _, _, _, rfl, v, u, z, p, q, l, hbase, ⟨fun _ => rfl, j1.cl, j1.pl, j1.sd⟩, j2, j3, d12, d13, d23⟩
      · simp [Region.binds] at hp
        have hb : b1 = false := by first | exact hp.1 | exact hp
        have hl : b0 = true := by first | exact hp.2 | exact hp.2.1
        subst hb
        obtain rfl := j1.ld hl
        refine wpOp_step rfl (fun K' hK => ?_)
        go_simp
        refine (c1 _).mono ?_
        rintro e w1 ⟨x, hxf, hxc, rfl, hb⟩
        exact hK _ _ ⟨b0, true, b2, b3, b4, b5, b6, b7, b8, b9, b10, b11, rfl, (by simp [cnt] at hn ⊢; omega), _, _, _, _, _, _, _, _, _, rfl, x, u, z, p, q, l, hbase.below' hb, ⟨j1.ld, fun _ => ⟨⟨hxf, hxc⟩, rfl⟩, (j1.below hb).pl, (fun hs => by have h := (j1.sd hs).2.1; cases h)⟩, j2.below hb, j3.below hb, d12, d13, d23⟩
      · simp [Region.binds] at hp
        have hb : b2 = false := by first | exact hp | exact hp.1
        subst hb
        obtain ⟨e0, e1, e2, e3⟩ := hbase.r1
        refine wpOp_step rfl (fun K' hK => ?_)
        go_simp
        exact hK _ _ ⟨b0, b1, true, b3, b4, b5, b6, b7, b8, b9, b10, b11, rfl, (by simp [cnt] at hn ⊢; omega), _, _, _, _, _, _, _, _, _, rfl, v, u, z, p, q, l, hbase, j1, ⟨fun _ => rfl, j2.cl, j2.pl, j2.sd⟩, j3, d12, d13, d23⟩
      · simp [Region.binds] at hp
        have hb : b3 = false := by first | exact hp.1 | exact hp
        have hl : b2 = true := by first | exact hp.2 | exact hp.2.1
        subst hb
        obtain rfl := j2.ld hl
        refine wpOp_step rfl (fun K' hK => ?_)
        go_simp
        refine (c2 _).mono ?_
        rintro e w1 ⟨x, hxf, hxc, rfl, hb⟩
        exact hK _ _ ⟨b0, b1, b2, true, b4, b5, b6, b7, b8, b9, b10, b11, rfl, (by simp [cnt] at hn ⊢; omega), _, _, _, _, _, _, _, _, _, rfl, v, x, z, p, q, l, hbase.below' hb, j1.below hb, ⟨j2.ld, fun _ => ⟨⟨hxf, hxc⟩, rfl⟩, (j2.below hb).pl, (fun hs => by have h := (j2.sd hs).2.1; cases h)⟩, j3.below hb, d12, d13, d23⟩
      · simp [Region.binds] at hp
        have hb : b4 = false := by first | exact hp | exact hp.1
        subst hb
        obtain ⟨e0, e1, e2, e3⟩ := hbase.r2
        refine wpOp_step rfl (fun K' hK => ?_)
        go_simp
        exact hK _ _ ⟨b0, b1, b2, b3, true, b5, b6, b7, b8, b9, b10, b11, rfl, (by simp [cnt] at hn ⊢; omega), _, _, _, _, _, _, _, _, _, rfl, v, u, z, p, q, l, hbase, j1, j2, ⟨fun _ => rfl, j3.cl, j3.pl, j3.sd⟩, d12, d13, d23⟩
      · simp [Region.binds] at hp
        have hb : b5 = false := by first | exact hp.1 | exact hp
        have hl : b4 = true := by first | exact hp.2 | exact hp.2.1
        subst hb
        obtain rfl := j3.ld hl
        refine wpOp_step rfl (fun K' hK => ?_)
        go_simp
        refine (c3 _).mono ?_
        rintro e w1 ⟨x, hxf, hxc, rfl, hb⟩
        exact hK _ _ ⟨b0, b1, b2, b3, b4, true, b6, b7, b8, b9, b10, b11, rfl, (by simp [cnt] at hn ⊢; omega), _, _, _, _, _, _, _, _, _, rfl, v, u, x, p, q, l, hbase.below' hb, j1.below hb, j2.below hb, ⟨j3.ld, fun _ => ⟨⟨hxf, hxc⟩, rfl⟩, (j3.below hb).pl, (fun hs => by have h := (j3.sd hs).2.1; cases h)⟩, d12, d13, d23⟩
      · simp [Region.binds] at hp
        have hb : b6 = false := by first | exact hp | exact hp.1
        subst hb
        refine wpOp_step rfl (fun K' hK => ?_)
        go_simp
        have hA := fun o => ((Below.refl w'.heap.size w').alloc (Nat.le_refl _) o)
        have hsz := hbase.size
        exact hK _ _ ⟨b0, b1, b2, b3, b4, b5, true, b7, b8, b9, b10, b11, rfl, (by simp [cnt] at hn ⊢; omega), _, _, _, _, _, _, _, _, _, rfl, v, u, z, w'.heap.size, q, l, hbase.below' (hA _), ⟨j1.ld, j1.cl, fun _ => ⟨rfl, hsz, by simp, room_new _⟩, (fun hs => by have h := (j1.sd hs).1; cases h)⟩, j2.below (hA _), j3.below (hA _), (fun _ h => Nat.ne_of_gt (j2.pl h).2.2.1), (fun _ h => Nat.ne_of_gt (j3.pl h).2.2.1), d23⟩
      · simp [Region.binds] at hp
        have hb : b7 = false := by first | exact hp | exact hp.1
        subst hb
        refine wpOp_step rfl (fun K' hK => ?_)
        go_simp
        have hA := fun o => ((Below.refl w'.heap.size w').alloc (Nat.le_refl _) o)
        have hsz := hbase.size
        exact hK _ _ ⟨b0, b1, b2, b3, b4, b5, b6, true, b8, b9, b10, b11, rfl, (by simp [cnt] at hn ⊢; omega), _, _, _, _, _, _, _, _, _, rfl, v, u, z, p, w'.heap.size, l, hbase.below' (hA _), j1.below (hA _), ⟨j2.ld, j2.cl, fun _ => ⟨rfl, hsz, by simp, room_new _⟩, (fun hs => by have h := (j2.sd hs).1; cases h)⟩, j3.below (hA _), (fun h _ => Nat.ne_of_lt (j1.pl h).2.2.1), d13, (fun _ h => Nat.ne_of_gt (j3.pl h).2.2.1)⟩
      · simp [Region.binds] at hp
        have hb : b8 = false := by first | exact hp | exact hp.1
        subst hb
        refine wpOp_step rfl (fun K' hK => ?_)
        go_simp
        have hA := fun o => ((Below.refl w'.heap.size w').alloc (Nat.le_refl _) o)
        have hsz := hbase.size
        exact hK _ _ ⟨b0, b1, b2, b3, b4, b5, b6, b7, true, b9, b10, b11, rfl, (by simp [cnt] at hn ⊢; omega), _, _, _, _, _, _, _, _, _, rfl, v, u, z, p, q, w'.heap.size, hbase.below' (hA _), j1.below (hA _), j2.below (hA _), ⟨j3.ld, j3.cl, fun _ => ⟨rfl, hsz, by simp, room_new _⟩, (fun hs => by have h := (j3.sd hs).1; cases h)⟩, d12, (fun h _ => Nat.ne_of_lt (j1.pl h).2.2.1), (fun h _ => Nat.ne_of_lt (j2.pl h).2.2.1)⟩
      · simp [Region.binds] at hp
        have hb : b9 = false := by first | exact hp.1 | exact hp
        have ha : b6 = true := by rcases hp with ⟨-, h⟩; revert h; cases b6 <;> simp
        have hc : b1 = true := by rcases hp with ⟨-, h⟩; revert h; cases b1 <;> simp
        subst hb
        obtain ⟨rfl, g3, gs, room⟩ := j1.pl ha
        obtain ⟨ok, rfl⟩ := j1.cl hc
        obtain ⟨x0, e0⟩ := Option.isSome_iff_exists.1 (room 0 (by decide)).1
        have f0 := (room 0 (by decide)).2
        obtain ⟨x1, e1⟩ := Option.isSome_iff_exists.1 (room 1 (by decide)).1
        have f1 := (room 1 (by decide)).2
        obtain ⟨x2, e2⟩ := Option.isSome_iff_exists.1 (room 2 (by decide)).1
        have f2 := (room 2 (by decide)).2
        obtain ⟨x3, e3⟩ := Option.isSome_iff_exists.1 (room 3 (by decide)).1
        have f3 := (room 3 (by decide)).2
        refine wpOp_step rfl (fun K' hK => ?_)
        go_simp
        have hW : K' = K' := rfl
        exact hK _ (put4 w' p v) ⟨b0, b1, b2, b3, b4, b5, b6, b7, b8, true, b10, b11, rfl, (by simp [cnt] at hn ⊢; omega), _, _, _, _, _, _, _, _, _, rfl, v, u, z, p, q, l, hbase.put g3, ⟨j1.ld, j1.cl, fun _ => ⟨rfl, g3, by rw [put4_size]; exact gs, put4_room room⟩, fun _ => ⟨ha, hc, put4_at room⟩⟩, j2.same (by rw [put4_size]; exact Nat.le_refl _) (fun h => put4_same (Ne.symm (d12 ha h))), j3.same (by rw [put4_size]; exact Nat.le_refl _) (fun h => put4_same (Ne.symm (d13 ha h))), d12, d13, d23⟩
      · simp [Region.binds] at hp
        have hb : b10 = false := by first | exact hp.1 | exact hp
        have ha : b7 = true := by rcases hp with ⟨-, h⟩; revert h; cases b7 <;> simp
        have hc : b3 = true := by rcases hp with ⟨-, h⟩; revert h; cases b3 <;> simp
        subst hb
        obtain ⟨rfl, g3, gs, room⟩ := j2.pl ha
        obtain ⟨ok, rfl⟩ := j2.cl hc
        obtain ⟨x0, e0⟩ := Option.isSome_iff_exists.1 (room 0 (by decide)).1
        have f0 := (room 0 (by decide)).2
        obtain ⟨x1, e1⟩ := Option.isSome_iff_exists.1 (room 1 (by decide)).1
        have f1 := (room 1 (by decide)).2
        obtain ⟨x2, e2⟩ := Option.isSome_iff_exists.1 (room 2 (by decide)).1
        have f2 := (room 2 (by decide)).2
        obtain ⟨x3, e3⟩ := Option.isSome_iff_exists.1 (room 3 (by decide)).1
        have f3 := (room 3 (by decide)).2
        refine wpOp_step rfl (fun K' hK => ?_)
        go_simp
        have hW : K' = K' := rfl
        exact hK _ (put4 w' q u) ⟨b0, b1, b2, b3, b4, b5, b6, b7, b8, b9, true, b11, rfl, (by simp [cnt] at hn ⊢; omega), _, _, _, _, _, _, _, _, _, rfl, v, u, z, p, q, l, hbase.put g3, j1.same (by rw [put4_size]; exact Nat.le_refl _) (fun h => put4_same (d12 h ha)), ⟨j2.ld, j2.cl, fun _ => ⟨rfl, g3, by rw [put4_size]; exact gs, put4_room room⟩, fun _ => ⟨ha, hc, put4_at room⟩⟩, j3.same (by rw [put4_size]; exact Nat.le_refl _) (fun h => put4_same (Ne.symm (d23 ha h))), d12, d13, d23⟩
      · simp [Region.binds] at hp
        have hb : b11 = false := by first | exact hp.1 | exact hp
        have ha : b8 = true := by rcases hp with ⟨-, h⟩; revert h; cases b8 <;> simp
        have hc : b5 = true := by rcases hp with ⟨-, h⟩; revert h; cases b5 <;> simp
        subst hb
        obtain ⟨rfl, g3, gs, room⟩ := j3.pl ha
        obtain ⟨ok, rfl⟩ := j3.cl hc
        obtain ⟨x0, e0⟩ := Option.isSome_iff_exists.1 (room 0 (by decide)).1
        have f0 := (room 0 (by decide)).2
        obtain ⟨x1, e1⟩ := Option.isSome_iff_exists.1 (room 1 (by decide)).1
        have f1 := (room 1 (by decide)).2
        obtain ⟨x2, e2⟩ := Option.isSome_iff_exists.1 (room 2 (by decide)).1
        have f2 := (room 2 (by decide)).2
        obtain ⟨x3, e3⟩ := Option.isSome_iff_exists.1 (room 3 (by decide)).1
        have f3 := (room 3 (by decide)).2
        refine wpOp_step rfl (fun K' hK => ?_)
        go_simp
        have hW : K' = K' := rfl
        exact hK _ (put4 w' l z) ⟨b0, b1, b2, b3, b4, b5, b6, b7, b8, b9, b10, true, rfl, (by simp [cnt] at hn ⊢; omega), _, _, _, _, _, _, _, _, _, rfl, v, u, z, p, q, l, hbase.put g3, j1.same (by rw [put4_size]; exact Nat.le_refl _) (fun h => put4_same (d13 h ha)), j2.same (by rw [put4_size]; exact Nat.le_refl _) (fun h => put4_same (d23 h ha)), ⟨j3.ld, j3.cl, fun _ => ⟨rfl, g3, by rw [put4_size]; exact gs, put4_room room⟩, fun _ => ⟨ha, hc, put4_at room⟩⟩, d12, d13, d23⟩
  case rest =>
    obtain ⟨v, u, z, p, q, l, rfl, rfl, rfl, hv, hu, hz, hp, hq, hl, av, au, az, hbc⟩ := hcut
    have eA := chk2_ok v u hv hu
    have eB := chk2_ok u z hu hz
    have eC := chk2_ok v z hv hz
    have cA := fun w => compare_any v u w hv.fits hu.fits
    have cB := fun w => compare_any u z w hu.fits hz.fits
    have cC := fun w => compare_any v z w hv.fits hz.fits
    have rA : compareR v u = ordV v u := by unfold compareR; rw [if_pos eA]
    have rB : compareR u z = ordV u z := by unfold compareR; rw [if_pos eB]
    have rC : compareR v z = ordV v z := by unfold compareR; rw [if_pos eC]
    rw [rA, eA] at cA
    rw [rB, eB] at cB
    rw [rC, eC] at cC
    have H := Lib.hid (ordV_chain v u z)
    have RM := Lib.hid (ordV_range v u)
    have RN := Lib.hid (ordV_range u z)
    have RK := Lib.hid (ordV_range v z)
    generalize ordV v u = M at cA H RM
    generalize ordV u z = N at cB H RN
    generalize ordV v z = K at cC H RK
    have hTc := tabs_below hT hbc
    clear rA rB rC eA eB eC hv hu hz hT c1 c2 c3
    have HAx := Lib.hid av
    have HUx := Lib.hid au
    have HZx := Lib.hid az
    have PAx := Lib.hid hp
    have PUx := Lib.hid hq
    have PZx := Lib.hid hl
    have HBx := Lib.hid hbc
    clear av au az hp hq hl hbc
    obtain ⟨aq0, aq1, aq2, aq3⟩ := HAx.out
    obtain ⟨uq0, uq1, uq2, uq3⟩ := HUx.out
    obtain ⟨zq0, zq1, zq2, zq3⟩ := HZx.out
    go_wp2_with fail
    refine (cA _ hTc).mono ?_
    rintro e w1 ⟨rfl, hb⟩
    have hT1 := tabs_below hTc hb
    clear aq0 aq1 aq2 aq3 uq0 uq1 uq2 uq3 zq0 zq1 zq2 zq3 cA hTc
    have HA1 := Lib.hid (at_kept HAx.out PAx.out hb)
    have PA1 := Lib.hid (Nat.lt_of_lt_of_le PAx.out hb.size)
    have HU1 := Lib.hid (at_kept HUx.out PUx.out hb)
    have PU1 := Lib.hid (Nat.lt_of_lt_of_le PUx.out hb.size)
    have HZ1 := Lib.hid (at_kept HZx.out PZx.out hb)
    have PZ1 := Lib.hid (Nat.lt_of_lt_of_le PZx.out hb.size)
    have HB1 := Lib.hid (below_step HBx.out hb)
    clear HAx PAx HUx PUx HZx PZx HBx hb
    obtain ⟨aq0, aq1, aq2, aq3⟩ := HA1.out
    obtain ⟨uq0, uq1, uq2, uq3⟩ := HU1.out
    obtain ⟨zq0, zq1, zq2, zq3⟩ := HZ1.out
    go_wp2_with fail
    refine (cB _ hT1).mono ?_
    rintro e w2 ⟨rfl, hb⟩
    have hT2 := tabs_below hT1 hb
    clear aq0 aq1 aq2 aq3 uq0 uq1 uq2 uq3 zq0 zq1 zq2 zq3 cB hT1
    have HA2 := Lib.hid (at_kept HA1.out PA1.out hb)
    have PA2 := Lib.hid (Nat.lt_of_lt_of_le PA1.out hb.size)
    have HU2 := Lib.hid (at_kept HU1.out PU1.out hb)
    have PU2 := Lib.hid (Nat.lt_of_lt_of_le PU1.out hb.size)
    have HZ2 := Lib.hid (at_kept HZ1.out PZ1.out hb)
    have PZ2 := Lib.hid (Nat.lt_of_lt_of_le PZ1.out hb.size)
    have HB2 := Lib.hid (below_step HB1.out hb)
    clear HA1 PA1 HU1 PU1 HZ1 PZ1 HB1 hb
    obtain ⟨aq0, aq1, aq2, aq3⟩ := HA2.out
    obtain ⟨uq0, uq1, uq2, uq3⟩ := HU2.out
    obtain ⟨zq0, zq1, zq2, zq3⟩ := HZ2.out
    go_wp2_with fail
    refine (cC _ hT2).mono ?_
    rintro e w3 ⟨rfl, hb⟩
    have hT3 := tabs_below hT2 hb
    clear aq0 aq1 aq2 aq3 uq0 uq1 uq2 uq3 zq0 zq1 zq2 zq3 cC hT2
    have HB3 := Lib.hid (below_step HB2.out hb)
    clear HA2 HU2 HZ2 PA2 PU2 PZ2 HB2 hb
    go_wp2_with fail
    refine (compare_ints 1 0 (by decide) (by decide) (by decide) (by decide) _ hT3).mono ?_
    rintro e w4 ⟨rfl, hb⟩
    have HB := Lib.hid (below_step HB3.out hb)
    clear hT3 HB3 hb
    have e1 : cmp3 1 0 = 1 := by decide
    rcases RM.out with h | h | h <;> rcases RN.out with h' | h' | h' <;> rcases RK.out with h'' | h'' | h'' <;> subst h <;> subst h' <;> subst h''
    all_goals first
      | (exfalso; have := H.out; unfold Chain at this; omega)
      | (clear H RM RN RK
         go_wp2
         go_ret
         exact ⟨rfl, HB.out⟩)

theorem orderChain_walk (ka a b : Int) (s : ByteArray) (kc c d : Int) (t : ByteArray) (ke f g : Int) (r : ByteArray) (wf_ka : (Lit.int .i64 ka).wf = true)  (wf_a : (Lit.int .i64 a).wf = true)  (wf_b : (Lit.int .i64 b).wf = true)  (wf_s : s.size ≤ 9223372036854775807) (wf_kc : (Lit.int .i64 kc).wf = true)  (wf_c : (Lit.int .i64 c).wf = true)  (wf_d : (Lit.int .i64 d).wf = true)  (wf_t : t.size ≤ 9223372036854775807) (wf_ke : (Lit.int .i64 ke).wf = true)  (wf_f : (Lit.int .i64 f).wf = true)  (wf_g : (Lit.int .i64 g).wf = true)  (wf_r : r.size ≤ 9223372036854775807) (w : World) (hT : Tabs w) :
    Calls Tryd.prog 8 #[.agg #[.int .i64 ka, .int .i64 a, .int .i64 b, .string s], .agg #[.int .i64 kc, .int .i64 c, .int .i64 d, .string t], .agg #[.int .i64 ke, .int .i64 f, .int .i64 g, .string r]] w fun e w' => e = .returned (.bool true) ∧ Below w.heap.size w w' :=
  orderChain_bounds ka a b s kc c d t ke f g r (bounds_i64 wf_ka).1 (bounds_i64 wf_ka).2 (bounds_i64 wf_a).1 (bounds_i64 wf_a).2 (bounds_i64 wf_kc).1 (bounds_i64 wf_kc).2 (bounds_i64 wf_c).1 (bounds_i64 wf_c).2 (bounds_i64 wf_ke).1 (bounds_i64 wf_ke).2 (bounds_i64 wf_f).1 (bounds_i64 wf_f).2 w hT
end Go.Proofs.YtnoloacfelnkbaaDoor
