/-
  MERGED: SlotA, OpenS, SaltA, Leaf, LeafOf.
  CONDITIONS: each theorem's own hypotheses.
-/
import Derived.Test.YtcnemacakjemjaaDoorGDig
import Derived.Test.YtcnemacakjemjaaDoorGParse
import Derived.Test.YtcnemacakjemjaaDoorRowT
import Derived.Deep.Strs
import Derived.Test.YtcnemacakjemjaaDoorGMac
import Derived.Deep.Cut

/-! CONTRACT of package slots' content; slots as values. CONDITIONS: each theorem's own hypotheses. -/
namespace Go.Proofs.YtcnemacakjemjaaDoor
open Go.RowKit CodeMath Go.Proofs.YtcnemacakjemjaaDoor.FrameMath
set_option linter.unusedVariables false
set_option maxRecDepth 100000

/-- A slot's content: its data behind a byte. -/
def contB (f : Bool) (d : List UInt8) : List UInt8 := if f then 1 :: d else [0]
theorem contB_length (f : Bool) (d : List UInt8) : (contB f d).length ≤ d.length + 1 := by
  unfold contB; cases f <;> simp
theorem rowT_lit (w : World) (x : Int) (c : UInt8) (hx : x = c.toNat) : RowT (w.alloc (.cells #[.int .u8 x] 5)) (.slice (some ⟨w.heap.size, 0, none⟩) 1 1) [c] := by
  subst hx
  refine ⟨_, 1, rfl, Nat.le_refl _, by decide, (fun h => by cases h), .inr ⟨w.heap.size, #[.int .u8 (c.toNat : Int)], 5, (0, 0), rfl, ?_, .inl rfl, fun j y hy => ?_⟩⟩
  · show (w.heap.push _)[w.heap.size]? = _
    simp
  · obtain rfl : j = 0 := by have := (List.getElem?_eq_some_iff.1 hy).1; simp at this; exact this
    simp at hy; subst hy; rfl
set_option maxHeartbeats 1000000 in
theorem content_any (f : Bool) (sv : Value) (a1 : Option Addr) (n1 k1 : Nat) (hsv : sv = .slice a1 n1 k1) (d : List UInt8) (ad : Option Addr) (cd : Nat) (w : World) (hc : d.length ≤ cd) (hn : ad = none → cd = 0) (hd : Bytes w ad d) (hl : d.length ≤ 1000) :
    Calls Tryd.prog 36 #[.agg #[.bool f, sv, .slice ad d.length cd]] w fun e w' => ∃ v, e = .returned v ∧ RowT w' v (contB f d) ∧ Below w.heap.size w w' := by
  subst hsv
  have hba : ∀ o, Below w.heap.size w (w.alloc o) := fun o => (Below.refl _ _).alloc (Nat.le_refl _) o
  have hz : ∀ o, (w.alloc o).heap.size = w.heap.size + 1 := fun o => by simp
  cases f with
  | false =>
    have hr : ∀ o, RowT ((w.alloc o).alloc (.cells #[.int .u8 0] 5)) (.slice (some ⟨w.heap.size + 1, 0, none⟩) 1 1) [0] := fun o => by
      have h := rowT_lit (w.alloc o) 0 0 rfl
      rw [hz o] at h
      exact h
    have hb2 : ∀ o o', Below w.heap.size w ((w.alloc o).alloc o') := fun o o' => (hba o).alloc (hba o).size o'
    clear hd hc hz
    generalize d.length = n
    go_enter Tryd.func36, Tryd.ntmps36
    go_wp2_with fail
    go_ret
    exact ⟨_, rfl, hr _, hb2 _ _⟩
  | true =>
    have ho : ∀ o, OwnB ((w.alloc o).alloc (.cells #[.int .u8 1] 5)) w.heap.size (.slice (some ⟨w.heap.size + 1, 0, none⟩) 1 1) [1] := fun o => by
      have h : OwnB _ w.heap.size _ [1] := World.ownsRow_lit (w.alloc o) #[.int .u8 1] 1 (hba o).size (by unfold maxLen; omega) rfl
      rw [hz o] at h
      exact h
    have hb2 : ∀ o o', Below w.heap.size w ((w.alloc o).alloc o') := fun o o' => (hba o).alloc (hba o).size o'
    have hd2 : ∀ o o', Bytes ((w.alloc o).alloc o') ad d := fun o o' => hd.keep (hb2 o o')
    clear hd hz
    obtain ⟨n, hnn⟩ : ∃ n, d.length = n := ⟨_, rfl⟩
    have hll : ([1] : List UInt8).length + d.length ≤ 140737488351232 := by simp; omega
    have HL := Lib.hid hll
    have HN := Lib.hid hnn
    rw [hnn] at hc ⊢
    clear hnn hl hll
    go_enter Tryd.func36, Tryd.ntmps36
    go_wp2_with (first
      | (at_builtin; refine wpList_append_came rfl _ _ rfl w.heap.size _ _ rfl (ho _) d ad cd (by rw [HN.out]; rfl) (hd2 _ _) hn HL.out (hb2 _ _).size ?_; intro v5 w5 ho5 hb5)
      | fail)
    go_ret
    exact ⟨_, rfl, ho5.rowT, (hb2 _ _).trans hb5⟩
end Go.Proofs.YtcnemacakjemjaaDoor

/-! OPENING ARGUMENTS that are slots, by value. CONDITIONS: each theorem's own hypotheses. -/
namespace Go.Proofs.YtcnemacakjemjaaDoor
open Go.ChangeShapes Go.WideShapes Go.RowKit Go.Deep Go.Joins CodeMath
open Go.ChangeMaps (open_string shut_string)
set_option linter.unusedVariables false
set_option maxRecDepth 100000
/-- A slot. -/
structure Sl where
  f : Bool
  s : List UInt8
  d : List UInt8
def SlotAt (W : World) (a o : Nat) (x : Sl) : Prop := ∃ us ud, W.cell? ⟨a, o, none⟩ = some (.bool x.f) ∧ W.cell? ⟨a, o + 1, none⟩ = some us ∧ W.cell? ⟨a, o + 2, none⟩ = some ud ∧ RowV W us x.s ∧ RowV W ud x.d
/-- A slice of slots. -/
def Slots (W : World) (ao : Option Addr) (l : List Sl) : Prop := l = [] ∨ ∃ a o, ao = some ⟨a, o, none⟩ ∧ a < W.heap.size ∧ ∀ (i : Nat) (x : Sl), l[i]? = some x → SlotAt W a (o + i * 3) x
theorem SlotAt.keep {W W' : World} {a o : Nat} {x : Sl} (h : SlotAt W a o x) (ha : a < W.heap.size) (hb : Below W.heap.size W W') : SlotAt W' a o x := by
  obtain ⟨us, ud, h1, h2, h3, h4, h5⟩ := h
  exact ⟨us, ud, (hb.cell (p := ⟨a, o, none⟩) ha).trans h1, (hb.cell (p := ⟨a, o + 1, none⟩) ha).trans h2, (hb.cell (p := ⟨a, o + 2, none⟩) ha).trans h3, h4.keep hb, h5.keep hb⟩
theorem Slots.keep {W W' : World} {ao : Option Addr} {l : List Sl} (h : Slots W ao l) (hb : Below W.heap.size W W') : Slots W' ao l := by
  rcases h with h | ⟨a, o, h1, h2, h3⟩
  · exact .inl h
  · exact .inr ⟨a, o, h1, Nat.lt_of_lt_of_le h2 hb.size, fun i x hi => (h3 i x hi).keep h2 hb⟩
section
variable {H : Type} {enc : TypeId × Value → H} {W : World} {base : Nat} {v : Value} {d : DataW H} {p : List MemPlace}
theorem slot_fields : ∃ f0 f1 f2 : Field, Tryd.prog.underlying 39 = some (.struct #[f0, f1, f2]) ∧ f0.type = 4 ∧ f0.offset = 0 ∧ f1.type = 37 ∧ f1.offset = 1 ∧ f2.type = 37 ∧ f2.offset = 2 := ⟨_, _, _, rfl, rfl, rfl, rfl, rfl, rfl, rfl⟩
theorem open_slotcells {fuel : Nat} {cs : List Value} {x : DataW H × List MemPlace} (hcl : cs.length = 3) (h : DataW.trod enc Tryd.prog W 0 (fun _ => true) true fuel 39 cs = some x) :
    ∃ (f : Bool) (s dt : List UInt8) (us ud : Value), cs = [.bool f, us, ud] ∧ RowV W us s ∧ RowV W ud dt ∧ ((∀ n ∈ x.1.weights Tryd.prog 39, n ≤ reachBytes) → s.length ≤ 140737488351232 ∧ dt.length ≤ 140737488351232) := by
  obtain ⟨f0, f1, f2, hs, t0, o0, t1, o1, t2, o2⟩ := slot_fields
  obtain ⟨y0, y1, y2, n, rfl, _, h0, h1, h2⟩ := trod_struct3 hs h
  match cs, hcl with
  | [c0, c1, c2], _ =>
    have cb : Tryd.prog.cellsOf 4 = 1 := by kernel_rfl
    have cu : Tryd.prog.cellsOf 37 = 1 := by kernel_rfl
    rw [t0, o0, cb] at h0
    rw [t1, o1, cu] at h1
    rw [t2, o2, cu] at h2
    obtain ⟨f, e0, _⟩ := DataW.trod_bool Tryd.underlying4 h0
    obtain ⟨s, us, e1, r1, b1⟩ := open_row h1
    obtain ⟨dt, ud, e2, r2, b2⟩ := open_row h2
    simp at e0 e1 e2
    subst e0 e1 e2
    refine ⟨f, s, dt, _, _, rfl, r1, r2, fun hw => ⟨b1 fun n hn => hw n ?_, b2 fun n hn => hw n ?_⟩⟩
    · simp only [DataW.weights, hs, List.map_cons, List.map_nil, DataW.weightsEach, t0, t1, t2, List.mem_append]
      exact .inr (.inl hn)
    · simp only [DataW.weights, hs, List.map_cons, List.map_nil, DataW.weightsEach, t0, t1, t2, List.mem_append]
      exact .inr (.inr (.inl hn))
theorem open_slot (hval : Value.okWide Tryd.prog W .any base 39 v) (h : DataW.Trod enc Tryd.prog W 0 (fun _ => true) true 39 v d p) :
    ∃ (f : Bool) (s dt : List UInt8) (us ud : Value), v = .agg #[.bool f, us, ud] ∧ ((∀ n ∈ d.weights Tryd.prog 39, n ≤ reachBytes) → s.length ≤ 140737488351232 ∧ dt.length ≤ 140737488351232) ∧ RowV W us s ∧ RowV W ud dt := by
  obtain ⟨f0, f1, f2, hs, _⟩ := slot_fields
  obtain ⟨cs, rfl, hsz⟩ := okWide_struct hs hval
  rw [show Tryd.prog.cellsOf 39 = 3 by kernel_rfl] at hsz
  obtain ⟨fuel, hf⟩ := h
  rw [show (Value.agg cs).cells.toList = cs.toList from rfl] at hf
  obtain ⟨f, s, dt, us, ud, e, r1, r2, b⟩ := open_slotcells (by simpa using hsz) hf
  refine ⟨f, s, dt, us, ud, ?_, b, r1, r2⟩
  congr 1
  exact Array.toList_inj.1 (by rw [e])
theorem open_slots (hval : Value.okWide Tryd.prog W .any base 22 v) (h : DataW.Trod enc Tryd.prog W 0 (fun _ => true) true 22 v d p) :
    ∃ (l : List Sl) (ao : Option Addr) (cap : Nat), v = .slice ao l.length cap ∧ l.length ≤ cap ∧ cap ≤ 9223372036854775807 ∧
      ((∀ n ∈ d.weights Tryd.prog 22, n ≤ reachBytes) → l.length ≤ 140737488351232 ∧ ∀ x ∈ l, x.s.length ≤ 140737488351232 ∧ x.d.length ≤ 140737488351232) ∧ Slots W ao l := by
  obtain ⟨ao, len, cap, rfl⟩ := okWide_slice Tryd.underlying22 hval
  obtain ⟨fuel, hf⟩ := h
  rcases open_slice Tryd.underlying22 hf with ⟨hcs, _⟩ | ⟨a, len', cap', m, n, D, Pl, hcs, _, hl, hm, hmm, hxd, hel⟩
  · simp [Value.cells] at hcs
    obtain ⟨rfl, rfl, rfl⟩ := hcs
    exact ⟨[], none, 0, rfl, Nat.le_refl _, Nat.zero_le _, fun _ => ⟨by simp, by simp⟩, .inl rfl⟩
  · simp [Value.cells] at hcs
    obtain ⟨rfl, rfl, rfl⟩ := hcs
    simp only [if_true] at hmm
    have hC : Tryd.prog.cellsOf 39 = 3 := by kernel_rfl
    rw [hC] at hel
    have hD : ∀ i, i < len → ∃ x : Sl, (∃ us ud cs, W.cells? 0 (a.add (i * 3)) 3 = some cs ∧ cs = [.bool x.f, us, ud] ∧ RowV W us x.s ∧ RowV W ud x.d) ∧ ((∀ n ∈ (D i).weights Tryd.prog 39, n ≤ reachBytes) → x.s.length ≤ 140737488351232 ∧ x.d.length ≤ 140737488351232) := fun i hi => by
      obtain ⟨cs, g1, g2⟩ := hel i (by omega)
      obtain ⟨_, hlen, _⟩ := World.cells?_some g1
      obtain ⟨f, s, dt, us, ud, e, r1, r2, b⟩ := open_slotcells hlen g2
      exact ⟨⟨f, s, dt⟩, ⟨us, ud, cs, g1, e, r1, r2⟩, b⟩
    obtain ⟨l, hll, hlp⟩ := row_list hD
    subst hll
    refine ⟨l, _, _, rfl, hl, by unfold maxLen at hm; omega, fun hw => ⟨?_, fun x hx => ?_⟩, ?_⟩
    · simp only [Prod.mk.injEq] at hxd
      rw [hxd.1] at hw
      have := hw _ (by simp only [DataW.weights, Tryd.underlying22]; exact List.mem_cons_self ..)
      rw [show Tryd.prog.bytesOf 39 = 56 by kernel_rfl] at this
      simp only [List.length_map, List.length_range, reachBytes] at this
      omega
    · obtain ⟨i, hi⟩ := List.mem_iff_getElem?.1 hx
      refine (hlp i x hi).2 (fun n hn => hw n ?_)
      have hil : i < l.length := (List.getElem?_eq_some_iff.1 hi).1
      simp only [Prod.mk.injEq] at hxd
      rw [hxd.1]
      simp only [DataW.weights, Tryd.underlying22]
      refine List.mem_cons_of_mem _ (List.mem_append.2 (.inl (weights_all _ (D i) ?_ n hn)))
      exact List.mem_map.2 ⟨i, List.mem_range.2 hil, rfl⟩
    · rcases Nat.eq_zero_or_pos l.length with h0 | h0
      · exact .inl (List.length_eq_zero_iff.1 h0)
      · right
        obtain ⟨cs0, g0, _⟩ := hel 0 (by omega)
        have hlen0 := World.cells?_some g0
        have hs := hlen0.2.2 0 (by decide)
        have hc0 : ∃ x, W.cell? ((a.add (0 * 3)).add 0) = some x := by
          rw [hs]
          have : 0 < cs0.length := by rw [hlen0.2.1]; decide
          exact ⟨cs0[0], List.getElem?_eq_getElem this⟩
        obtain ⟨x0, hx0⟩ := hc0
        have hx1 : W.cell? (a.add 0) = some x0 := by rw [Nat.zero_mul] at hx0; simpa [Addr.add] using hx0
        have hsp := add_spot hx1
        have hlt : a.block < W.heap.size := by
          have := cell_lt hx1
          simpa [Addr.add] using this
        obtain ⟨b, o, q⟩ := a
        simp only [Addr.mk.injEq, true_and] at hsp
        subst hsp
        refine ⟨b, o, rfl, hlt, fun i x hi => ?_⟩
        obtain ⟨us, ud, cs, g1, e, r1, r2⟩ := (hlp i x hi).1
        obtain ⟨_, _, hcell⟩ := World.cells?_some g1
        have q0 := hcell 0 (by decide)
        have q1 := hcell 1 (by decide)
        have q2 := hcell 2 (by decide)
        rw [add_none, add_none] at q0 q1 q2
        rw [e] at q0 q1 q2
        exact ⟨us, ud, q0, q1, q2, r1, r2⟩
end
end Go.Proofs.YtcnemacakjemjaaDoor

/-! CONTRACTS of oracle.word and oracle.Salt. CONDITIONS: package sum's roundWords hold what their initialiser lays ('KW'). -/
namespace Go.Proofs.YtcnemacakjemjaaDoor
open Go.RowKit CodeMath Go.Proofs.YtcnemacakjemjaaDoor.FrameMath
set_option linter.unusedVariables false
set_option maxRecDepth 100000

/-- A number as a part. -/
def wd (x : Int) : List UInt8 := be (x % 18446744073709551616) 8
theorem wd_length (x : Int) : (wd x).length = 8 := be_length _ _
/-- Lines that a literal lays. -/
theorem lines_new (w : World) (us : List Value) (T : TypeId) (rows : List (List UInt8)) (hlen : us.length = rows.length) (h : ∀ (i : Nat) (l : List UInt8), rows[i]? = some l → ∃ u : Value, us[i]? = some u ∧ RowV w u l) : Lines (w.alloc (.cells us.toArray T)) (some ⟨w.heap.size, 0, none⟩) rows := by
  refine LinesV.lines (.inr ⟨w.heap.size, 0, rfl, by simp, fun i l hi => ?_⟩)
  obtain ⟨u, h1, h2⟩ := h i l hi
  refine ⟨u, ?_, h2.keep ((Below.refl _ _).alloc (Nat.le_refl _) _)⟩
  rw [Nat.zero_add, World.cell?_alloc_new]
  simpa using h1
theorem lines_two (w : World) (u1 u2 : Value) (T : TypeId) (l1 l2 : List UInt8) (h1 : RowV w u1 l1) (h2 : RowV w u2 l2) : Lines (w.alloc (.cells #[u1, u2] T)) (some ⟨w.heap.size, 0, none⟩) [l1, l2] :=
  lines_new w [u1, u2] T [l1, l2] rfl (fun i l hi => by
    match i, hi with
    | 0, hi => simp at hi; subst hi; exact ⟨u1, rfl, h1⟩
    | 1, hi => simp at hi; subst hi; exact ⟨u2, rfl, h2⟩)
theorem lines_three (w : World) (u1 u2 u3 : Value) (T : TypeId) (l1 l2 l3 : List UInt8) (h1 : RowV w u1 l1) (h2 : RowV w u2 l2) (h3 : RowV w u3 l3) : Lines (w.alloc (.cells #[u1, u2, u3] T)) (some ⟨w.heap.size, 0, none⟩) [l1, l2, l3] :=
  lines_new w [u1, u2, u3] T [l1, l2, l3] rfl (fun i l hi => by
    match i, hi with
    | 0, hi => simp at hi; subst hi; exact ⟨u1, rfl, h1⟩
    | 1, hi => simp at hi; subst hi; exact ⟨u2, rfl, h2⟩
    | 2, hi => simp at hi; subst hi; exact ⟨u3, rfl, h3⟩)
def saltB (m : Int) (s : List UInt8) (step place : Int) : List UInt8 := if m = 2 then frame 3 [s, wd step, wd place] else ShaMath.hmac s (frame 3 [wd step, wd place])
def saltR (m : Int) (s : List UInt8) (step place : Int) : DR := if isMode m = false then .err 2 else if 16 < s.length then .err 1 else .ok (saltB m s step place)
end Go.Proofs.YtcnemacakjemjaaDoor

/-! CONTRACT of package slots' Leaf. CONDITIONS: package sum's roundWords hold what their initialiser lays ('KW'). -/
namespace Go.Proofs.YtcnemacakjemjaaDoor
open Go.RowKit CodeMath Go.Proofs.YtcnemacakjemjaaDoor.FrameMath
set_option linter.unusedVariables false
set_option maxRecDepth 100000

def leafR (m : Int) (f : Bool) (s d : List UInt8) : DR := if isMode m = false then .err 2 else if f = false ∧ 0 < d.length then .err 3 else if 80 < s.length ∨ 400 < d.length then .err 1 else .ok (digB m 1 [s, contB f d])
theorem digR_leaf (m : Int) (hm : isMode m = true) (f : Bool) (s d : List UInt8) (h1 : ¬ 80 < s.length) (h2 : ¬ 400 < d.length) : digR m 1 [s, contB f d] = .ok (digB m 1 [s, contB f d]) := by
  have hc := contB_length f d
  unfold digR
  rw [if_neg (by rw [hm]; decide), if_neg (by omega), if_neg (by simp only [total, List.length_cons, List.length_nil]; omega)]
  rfl
def LeafF (m : Int) (g : Nat) (f : Bool) (a1 ad : Option Addr) (n1 k1 nd cd : Nat) (S C D : List UInt8) : Nat → Value → World → Prop
  | 0, v, _ => v = .int .i64 m
  | 1, v, _ => v = .pointer (some ⟨g, 1, none⟩)
  | 2, v, _ => v = .slice a1 n1 k1
  | 3, v, _ => v = .agg #[.bool f, .slice a1 n1 k1, .slice ad nd cd]
  | 4, v, w => ∃ a n k, v = .slice a n k ∧ RowT w (.slice a n k) C
  | 5, v, w => ∃ h, v = .slice (some ⟨h, 0, none⟩) 2 2 ∧ Lines w (some ⟨h, 0, none⟩) [S, C]
  | 6, v, w => ∃ u, v = .tuple #[u, .int .i64 0] ∧ RowT w u D
  | 7, v, w => RowT w v D
  | 8, v, _ => v = .int .i64 0
  | 9, v, w => RowT w v D
  | _, _, _ => True
theorem leafF_keep {m : Int} {g : Nat} {f : Bool} {a1 ad : Option Addr} {n1 k1 nd cd : Nat} {S C D : List UInt8} (i : Nat) (v : Value) (w w' : World) (h : LeafF m g f a1 ad n1 k1 nd cd S C D i v w) (he : Below w.heap.size w w') : LeafF m g f a1 ad n1 k1 nd cd S C D i v w' := by
  unfold LeafF at *
  split at h <;> (try exact h) <;> (try exact trivial)
  · obtain ⟨a, n, k, h1, h2⟩ := h; exact ⟨a, n, k, h1, h2.keep he⟩
  · obtain ⟨q, h1, h2⟩ := h; exact ⟨q, h1, h2.keep he⟩
  · obtain ⟨u, h1, h2⟩ := h; exact ⟨u, h1, h2.keep he⟩
  · exact h.keep he
  · exact h.keep he
set_option maxHeartbeats 4000000 in
theorem Leaf_any (m : Int) (f : Bool) (s d : List UInt8) (us ud : Value) (w : World) (m0 : -9223372036854775808 ≤ m) (m1 : m ≤ 9223372036854775807) (hs : RowV w us s) (hd : RowV w ud d) (hT : KW w) :
    Calls Tryd.prog 29 #[.int .i64 m, .agg #[.bool f, us, ud]] w (DigPost (leafR m f s d) w) := by
  have cM := fun W => mode_any m W m0 m1
  obtain ⟨R, hR⟩ : ∃ R, leafR m f s d = R := ⟨_, rfl⟩
  rw [hR]
  unfold leafR at hR
  have hsW := hs
  have hdW := hd
  obtain ⟨a1, k1, rfl, s1, s2, s3, s4⟩ := hs
  obtain ⟨ad, cd, rfl, d1, d2, d3, d4⟩ := hd
  have hba : ∀ o, Below w.heap.size w (w.alloc o) := fun o => (Below.refl _ _).alloc (Nat.le_refl _) o
  cases hm : isMode m with
  | false =>
    rw [if_pos hm] at hR
    subst hR
    rw [hm] at cM
    clear hm hsW hdW s1 d1
    generalize s.length = n1
    generalize d.length = nd
    go_enter Tryd.func29, Tryd.ntmps29
    go_wp2_with fail
    refine (cM _).mono ?_
    rintro e w1 ⟨rfl, rfl⟩
    go_wp2_with fail
    go_ret2
    exact ⟨rfl, hba _⟩
  | true =>
    rw [if_neg (by rw [hm]; decide)] at hR
    rw [hm] at cM
    by_cases h3 : f = false ∧ 0 < d.length
    · rw [if_pos h3] at hR
      subst hR
      obtain ⟨rfl, h3⟩ := h3
      have hI : (0 : Int) < d.length := by omega
      clear hm hsW hdW s1 d1 h3
      generalize s.length = n1 at *
      generalize d.length = nd at *
      go_enter Tryd.func29, Tryd.ntmps29
      go_wp2_with fail
      refine (cM _).mono ?_
      rintro e w1 ⟨rfl, rfl⟩
      go_wp2_with fail
      go_ret2
      exact ⟨rfl, hba _⟩
    · rw [if_neg h3] at hR
      by_cases h4 : 80 < s.length ∨ 400 < d.length
      · rw [if_pos h4] at hR
        subst hR
        have h3I : f = true ∨ d = [] := by
          cases f
          · right; exact List.eq_nil_of_length_eq_zero (Nat.eq_zero_of_not_pos fun h => h3 ⟨rfl, h⟩)
          · exact .inl rfl
        rcases h3I with rfl | rfl
        · have h4I : (80 : Int) < s.length ∨ (¬ (80 : Int) < s.length ∧ (400 : Int) < d.length) := by omega
          clear hm hsW hdW s1 d1 h3 h4
          generalize s.length = n1 at *
          generalize d.length = nd at *
          rcases h4I with h4I | ⟨h4I, h5I⟩
          all_goals
            go_enter Tryd.func29, Tryd.ntmps29
            go_wp2_with fail
            refine (cM _).mono ?_
            rintro e w1 ⟨rfl, rfl⟩
            go_wp2_with fail
            go_ret2
            exact ⟨rfl, hba _⟩
        · have h4I : (80 : Int) < s.length := by
            rw [show ([] : List UInt8).length = 0 from rfl] at h4
            omega
          clear hm hsW hdW s1 d1 h3 h4
          rw [show ([] : List UInt8).length = 0 from rfl]
          generalize s.length = n1 at *
          cases f
          all_goals
            go_enter Tryd.func29, Tryd.ntmps29
            go_wp2_with fail
            refine (cM _).mono ?_
            rintro e w1 ⟨rfl, rfl⟩
            go_wp2_with fail
            go_ret2
            exact ⟨rfl, hba _⟩
      · rw [if_neg h4] at hR
        subst hR
        have h3I : f = true ∨ (f = false ∧ d = []) := by
          cases f
          · right; exact ⟨rfl, List.eq_nil_of_length_eq_zero (Nat.eq_zero_of_not_pos fun h => h3 ⟨rfl, h⟩)⟩
          · exact .inl rfl
        have h4I : ¬ (80 : Int) < s.length := by omega
        have h5I : ¬ (400 : Int) < d.length := by omega
        have hcl := contB_length f d
        have cC0 := fun W h => content_any f (.slice a1 s.length k1) a1 s.length k1 rfl d ad cd W d1 d3 h (by omega)
        have cD0 := fun ap W h hk => Digest_any m 1 [s, contB f d] ap 2 W m0 m1 (by decide) (by decide) (by simp) (fun l hl => by simp at hl; rcases hl with rfl | rfl <;> omega) h hk
        rw [digR_leaf m hm f s d (by omega) (by omega), show [s, contB f d].length = 2 from rfl] at cD0
        generalize digB m 1 [s, contB f d] = D at *
        generalize contB f d = C at *
        have HSW : Hid (∀ W, Below w.heap.size w W → RowV W (.slice a1 s.length k1) s) := fun W hW => hsW.keep hW
        obtain ⟨n1, hn1⟩ : ∃ n, s.length = n := ⟨_, rfl⟩
        rw [hn1] at cC0 h4I HSW ⊢
        clear hm hsW hdW s1 s2 s3 s4 d1 d2 d3 h3 h4 hcl hn1
        rcases h3I with rfl | ⟨rfl, rfl⟩
        · generalize d.length = nd at *
          go_enter Tryd.func29, Tryd.ntmps29
          go_wp2_with fail
          refine (cM _).mono ?_
          rintro e w1 ⟨rfl, rfl⟩
          clear cM
          go_upto_region 7 with fail
          have hb0 := hba (.cells #[.bool true, .slice a1 n1 k1, .slice ad nd cd] 39)
          have z0 : (w.alloc (.cells #[.bool true, .slice a1 n1 k1, .slice ad nd cd] 39)).cell? ⟨w.heap.size, 0, none⟩ = some (.bool true) := by rw [World.cell?_alloc_new]; rfl
          have z1 : (w.alloc (.cells #[.bool true, .slice a1 n1 k1, .slice ad nd cd] 39)).cell? ⟨w.heap.size, 1, none⟩ = some (.slice a1 n1 k1) := by rw [World.cell?_alloc_new]; rfl
          have z2 : (w.alloc (.cells #[.bool true, .slice a1 n1 k1, .slice ad nd cd] 39)).cell? ⟨w.heap.size, 2, none⟩ = some (.slice ad nd cd) := by rw [World.cell?_alloc_new]; rfl
          have hlt : w.heap.size < (w.alloc (.cells #[.bool true, .slice a1 n1 k1, .slice ad nd cd] 39)).heap.size := by simp
          generalize w.alloc (.cells #[.bool true, .slice a1 n1 k1, .slice ad nd cd] 39) = W0 at *
          have HC0 : Hid (∀ W, Below W0.heap.size W0 W → W.cell? ⟨w.heap.size, 0, none⟩ = some (.bool true)) := fun W hW => (hW.cell (p := ⟨w.heap.size, 0, none⟩) hlt).trans z0
          have HC1 : Hid (∀ W, Below W0.heap.size W0 W → W.cell? ⟨w.heap.size, 1, none⟩ = some (.slice a1 n1 k1)) := fun W hW => (hW.cell (p := ⟨w.heap.size, 1, none⟩) hlt).trans z1
          have HC2 : Hid (∀ W, Below W0.heap.size W0 W → W.cell? ⟨w.heap.size, 2, none⟩ = some (.slice ad nd cd)) := fun W hW => (hW.cell (p := ⟨w.heap.size, 2, none⟩) hlt).trans z2
          have hbW : ∀ W, Below W0.heap.size W0 W → Below w.heap.size w W := fun W hW => below_step hb0 hb0.size hW
          have HS : Hid (∀ W, Below W0.heap.size W0 W → RowV W (.slice a1 n1 k1) s) := fun W hW => HSW.out W (hbW W hW)
          have cC := fun W (hW : Below W0.heap.size W0 W) => cC0 W (d4.keep (hbW W hW))
          have cD := fun ap W h (hW : Below W0.heap.size W0 W) => cD0 ap W h (hT.keep (hbW W hW) (Nat.le_refl _))
          clear z0 z1 z2 hlt HSW cC0 cD0 hba
          refine wp_region_facts' 10 (by kernel_rfl) (by kernel_rfl) (LeafF m w.heap.size true a1 ad n1 k1 nd cd s C D) (fun W => Below W0.heap.size W0 W) (fun W W' => Below W.heap.size W W') ?hC ?hF ?h0 ?hstep ?hdone
          case hC => exact fun W W' hc he => below_step hc hc.size he
          case hF => exact leafF_keep
          case h0 => exact (Below.refl _ _).drew
          case hstep =>
            intro i hi vs a W K ha hc hd hu hK
            simp only [fillF, Act.put, List.take_succ_cons, List.take_zero, List.setIfInBounds_toArray, List.set_cons_zero, List.set_cons_succ] at ha
            subst ha
            clear hu
            rcases (show i = 0 ∨ i = 1 ∨ i = 2 ∨ i = 3 ∨ i = 4 ∨ i = 5 ∨ i = 6 ∨ i = 7 ∨ i = 8 ∨ i = 9 by omega) with rfl | rfl | rfl | rfl | rfl | rfl | rfl | rfl | rfl | rfl
            · refine wpOp_step rfl (fun K' hK' => ?_)
              go_simp
              exact hK' _ _ (hK _ _ rfl (Below.refl _ _))
            · refine wpOp_step rfl (fun K' hK' => ?_)
              go_simp
              exact hK' _ _ (hK _ _ rfl (Below.refl _ _))
            · have e1 : vs 1 = .pointer (some ⟨w.heap.size, 1, none⟩) := hd 1 (by kernel_rfl)
              simp only [e1] at hK ⊢
              have q1 := HC1.out W hc
              refine wpOp_step rfl (fun K' hK' => ?_)
              go_simp
              exact hK' _ _ (hK _ _ rfl (Below.refl _ _))
            · have q0 := HC0.out W hc
              have q1 := HC1.out W hc
              have q2 := HC2.out W hc
              refine wpOp_step rfl (fun K' hK' => ?_)
              go_simp
              exact hK' _ _ (hK _ _ rfl (Below.refl _ _))
            · have e3 : vs 3 = .agg #[.bool true, .slice a1 n1 k1, .slice ad nd cd] := hd 3 (by kernel_rfl)
              simp only [e3] at hK ⊢
              refine wpOp_step rfl (fun K' hK' => ?_)
              go_simp
              with_reducible refine (cC W hc).mono ?_
              rintro e w' ⟨v', rfl, ho, hb⟩
              have ho' := ho
              obtain ⟨a, k, e, _⟩ := ho'
              exact hK' _ _ (hK _ _ ⟨_, _, _, e, by rw [← e]; exact ho⟩ hb)
            · have e2 : vs 2 = .slice a1 n1 k1 := hd 2 (by kernel_rfl)
              obtain ⟨a4, n4, k4, e4, y4⟩ := hd 4 (by kernel_rfl)
              simp only [e2, e4] at hK ⊢
              refine wpOp_step rfl (fun K' hK' => ?_)
              go_simp
              exact hK' _ _ (hK _ _ ⟨_, rfl, lines_two W _ _ _ _ _ (HS.out W hc) y4.row⟩ ((Below.refl _ _).alloc (Nat.le_refl _) _))
            · have e0 : vs 0 = .int .i64 m := hd 0 (by kernel_rfl)
              obtain ⟨g5, e5, y5⟩ := hd 5 (by kernel_rfl)
              simp only [e0, e5] at hK ⊢
              refine wpOp_step rfl (fun K' hK' => ?_)
              go_simp
              with_reducible refine (cD _ W y5 hc).mono ?_
              rintro e w' ⟨u, rfl, hr, hb⟩
              exact hK' _ _ (hK _ _ ⟨u, rfl, hr⟩ hb)
            · obtain ⟨u6, e6, y6⟩ := hd 6 (by kernel_rfl)
              simp only [e6] at hK ⊢
              refine wpOp_step rfl (fun K' hK' => ?_)
              go_simp
              exact hK' _ _ (hK _ _ y6 (Below.refl _ _))
            · obtain ⟨u6, e6, y6⟩ := hd 6 (by kernel_rfl)
              simp only [e6] at hK ⊢
              refine wpOp_step rfl (fun K' hK' => ?_)
              go_simp
              exact hK' _ _ (hK _ _ rfl (Below.refl _ _))
            · have y7 : RowT W (vs 7) D := hd 7 (by kernel_rfl)
              refine wpOp_step rfl (fun K' hK' => ?_)
              go_simp
              exact hK' _ _ (hK _ _ y7 (Below.refl _ _))
          case hdone =>
            intro vs a W ha hc hf
            simp only [fillF, Act.put, List.take_succ_cons, List.take_zero, List.setIfInBounds_toArray, List.set_cons_zero, List.set_cons_succ] at ha
            subst ha
            have f8 : vs 8 = .int .i64 0 := hf 8 (by decide)
            have f9 : RowT W (vs 9) D := hf 9 (by decide)
            simp only [Nat.zero_add, Nat.reduceAdd, f8]
            have hBB := hbW W hc
            clear hf cC cD
            go_wp2_with fail
            go_ret2
            exact ⟨_, rfl, f9, hBB⟩
        · rw [show ([] : List UInt8).length = 0 from rfl] at cC0 ⊢
          clear h5I
          go_enter Tryd.func29, Tryd.ntmps29
          go_wp2_with fail
          refine (cM _).mono ?_
          rintro e w1 ⟨rfl, rfl⟩
          clear cM
          go_upto_region 7 with fail
          have hb0 := hba (.cells #[.bool false, .slice a1 n1 k1, .slice ad 0 cd] 39)
          have z0 : (w.alloc (.cells #[.bool false, .slice a1 n1 k1, .slice ad 0 cd] 39)).cell? ⟨w.heap.size, 0, none⟩ = some (.bool false) := by rw [World.cell?_alloc_new]; rfl
          have z1 : (w.alloc (.cells #[.bool false, .slice a1 n1 k1, .slice ad 0 cd] 39)).cell? ⟨w.heap.size, 1, none⟩ = some (.slice a1 n1 k1) := by rw [World.cell?_alloc_new]; rfl
          have z2 : (w.alloc (.cells #[.bool false, .slice a1 n1 k1, .slice ad 0 cd] 39)).cell? ⟨w.heap.size, 2, none⟩ = some (.slice ad 0 cd) := by rw [World.cell?_alloc_new]; rfl
          have hlt : w.heap.size < (w.alloc (.cells #[.bool false, .slice a1 n1 k1, .slice ad 0 cd] 39)).heap.size := by simp
          generalize w.alloc (.cells #[.bool false, .slice a1 n1 k1, .slice ad 0 cd] 39) = W0 at *
          have HC0 : Hid (∀ W, Below W0.heap.size W0 W → W.cell? ⟨w.heap.size, 0, none⟩ = some (.bool false)) := fun W hW => (hW.cell (p := ⟨w.heap.size, 0, none⟩) hlt).trans z0
          have HC1 : Hid (∀ W, Below W0.heap.size W0 W → W.cell? ⟨w.heap.size, 1, none⟩ = some (.slice a1 n1 k1)) := fun W hW => (hW.cell (p := ⟨w.heap.size, 1, none⟩) hlt).trans z1
          have HC2 : Hid (∀ W, Below W0.heap.size W0 W → W.cell? ⟨w.heap.size, 2, none⟩ = some (.slice ad 0 cd)) := fun W hW => (hW.cell (p := ⟨w.heap.size, 2, none⟩) hlt).trans z2
          have hbW : ∀ W, Below W0.heap.size W0 W → Below w.heap.size w W := fun W hW => below_step hb0 hb0.size hW
          have HS : Hid (∀ W, Below W0.heap.size W0 W → RowV W (.slice a1 n1 k1) s) := fun W hW => HSW.out W (hbW W hW)
          have cC := fun W (hW : Below W0.heap.size W0 W) => cC0 W (d4.keep (hbW W hW))
          have cD := fun ap W h (hW : Below W0.heap.size W0 W) => cD0 ap W h (hT.keep (hbW W hW) (Nat.le_refl _))
          clear z0 z1 z2 hlt HSW cC0 cD0 hba
          refine wp_region_facts' 10 (by kernel_rfl) (by kernel_rfl) (LeafF m w.heap.size false a1 ad n1 k1 0 cd s C D) (fun W => Below W0.heap.size W0 W) (fun W W' => Below W.heap.size W W') ?hC ?hF ?h0 ?hstep ?hdone
          case hC => exact fun W W' hc he => below_step hc hc.size he
          case hF => exact leafF_keep
          case h0 => exact (Below.refl _ _).drew
          case hstep =>
            intro i hi vs a W K ha hc hd hu hK
            simp only [fillF, Act.put, List.take_succ_cons, List.take_zero, List.setIfInBounds_toArray, List.set_cons_zero, List.set_cons_succ] at ha
            subst ha
            clear hu
            rcases (show i = 0 ∨ i = 1 ∨ i = 2 ∨ i = 3 ∨ i = 4 ∨ i = 5 ∨ i = 6 ∨ i = 7 ∨ i = 8 ∨ i = 9 by omega) with rfl | rfl | rfl | rfl | rfl | rfl | rfl | rfl | rfl | rfl
            · refine wpOp_step rfl (fun K' hK' => ?_)
              go_simp
              exact hK' _ _ (hK _ _ rfl (Below.refl _ _))
            · refine wpOp_step rfl (fun K' hK' => ?_)
              go_simp
              exact hK' _ _ (hK _ _ rfl (Below.refl _ _))
            · have e1 : vs 1 = .pointer (some ⟨w.heap.size, 1, none⟩) := hd 1 (by kernel_rfl)
              simp only [e1] at hK ⊢
              have q1 := HC1.out W hc
              refine wpOp_step rfl (fun K' hK' => ?_)
              go_simp
              exact hK' _ _ (hK _ _ rfl (Below.refl _ _))
            · have q0 := HC0.out W hc
              have q1 := HC1.out W hc
              have q2 := HC2.out W hc
              refine wpOp_step rfl (fun K' hK' => ?_)
              go_simp
              exact hK' _ _ (hK _ _ rfl (Below.refl _ _))
            · have e3 : vs 3 = .agg #[.bool false, .slice a1 n1 k1, .slice ad 0 cd] := hd 3 (by kernel_rfl)
              simp only [e3] at hK ⊢
              refine wpOp_step rfl (fun K' hK' => ?_)
              go_simp
              with_reducible refine (cC W hc).mono ?_
              rintro e w' ⟨v', rfl, ho, hb⟩
              have ho' := ho
              obtain ⟨a, k, e, _⟩ := ho'
              exact hK' _ _ (hK _ _ ⟨_, _, _, e, by rw [← e]; exact ho⟩ hb)
            · have e2 : vs 2 = .slice a1 n1 k1 := hd 2 (by kernel_rfl)
              obtain ⟨a4, n4, k4, e4, y4⟩ := hd 4 (by kernel_rfl)
              simp only [e2, e4] at hK ⊢
              refine wpOp_step rfl (fun K' hK' => ?_)
              go_simp
              exact hK' _ _ (hK _ _ ⟨_, rfl, lines_two W _ _ _ _ _ (HS.out W hc) y4.row⟩ ((Below.refl _ _).alloc (Nat.le_refl _) _))
            · have e0 : vs 0 = .int .i64 m := hd 0 (by kernel_rfl)
              obtain ⟨g5, e5, y5⟩ := hd 5 (by kernel_rfl)
              simp only [e0, e5] at hK ⊢
              refine wpOp_step rfl (fun K' hK' => ?_)
              go_simp
              with_reducible refine (cD _ W y5 hc).mono ?_
              rintro e w' ⟨u, rfl, hr, hb⟩
              exact hK' _ _ (hK _ _ ⟨u, rfl, hr⟩ hb)
            · obtain ⟨u6, e6, y6⟩ := hd 6 (by kernel_rfl)
              simp only [e6] at hK ⊢
              refine wpOp_step rfl (fun K' hK' => ?_)
              go_simp
              exact hK' _ _ (hK _ _ y6 (Below.refl _ _))
            · obtain ⟨u6, e6, y6⟩ := hd 6 (by kernel_rfl)
              simp only [e6] at hK ⊢
              refine wpOp_step rfl (fun K' hK' => ?_)
              go_simp
              exact hK' _ _ (hK _ _ rfl (Below.refl _ _))
            · have y7 : RowT W (vs 7) D := hd 7 (by kernel_rfl)
              refine wpOp_step rfl (fun K' hK' => ?_)
              go_simp
              exact hK' _ _ (hK _ _ y7 (Below.refl _ _))
          case hdone =>
            intro vs a W ha hc hf
            simp only [fillF, Act.put, List.take_succ_cons, List.take_zero, List.setIfInBounds_toArray, List.set_cons_zero, List.set_cons_succ] at ha
            subst ha
            have f8 : vs 8 = .int .i64 0 := hf 8 (by decide)
            have f9 : RowT W (vs 9) D := hf 9 (by decide)
            simp only [Nat.zero_add, Nat.reduceAdd, f8]
            have hBB := hbW W hc
            clear hf cC cD
            go_wp2_with fail
            go_ret2
            exact ⟨_, rfl, f9, hBB⟩
end Go.Proofs.YtcnemacakjemjaaDoor

/-! CONTRACT of the reference's LeafOf. CONDITIONS: each theorem's own hypotheses. -/
namespace Go.Proofs.YtcnemacakjemjaaDoor
open Go.RowKit CodeMath Go.Proofs.YtcnemacakjemjaaDoor.FrameMath
set_option linter.unusedVariables false
set_option maxRecDepth 100000

set_option maxHeartbeats 4000000 in
theorem LeafOf_any (m : Int) (f : Bool) (s d : List UInt8) (us ud : Value) (w : World) (m0 : -9223372036854775808 ≤ m) (m1 : m ≤ 9223372036854775807) (hs : RowV w us s) (hd : RowV w ud d) :
    Calls Tryd.prog 23 #[.int .i64 m, .agg #[.bool f, us, ud]] w (DigPost (leafR m f s d) w) := by
  have cM := fun W => badMode_any m W m0 m1
  obtain ⟨R, hR⟩ : ∃ R, leafR m f s d = R := ⟨_, rfl⟩
  rw [hR]
  unfold leafR at hR
  have hsW := hs
  have hdW := hd
  obtain ⟨a1, k1, rfl, s1, s2, s3, s4⟩ := hs
  obtain ⟨ad, cd, rfl, d1, d2, d3, d4⟩ := hd
  have hba : ∀ o, Below w.heap.size w (w.alloc o) := fun o => (Below.refl _ _).alloc (Nat.le_refl _) o
  cases hm : isMode m with
  | false =>
    rw [if_pos hm] at hR
    subst hR
    rw [hm] at cM
    clear hm hsW hdW s1 d1
    generalize s.length = n1
    generalize d.length = nd
    go_enter Tryd.func23, Tryd.ntmps23
    go_wp2_with fail
    refine (cM _).mono ?_
    rintro e w1 ⟨rfl, rfl⟩
    go_wp2_with fail
    go_ret2
    exact ⟨rfl, hba _⟩
  | true =>
    rw [if_neg (by rw [hm]; decide)] at hR
    rw [hm] at cM
    by_cases h3 : f = false ∧ 0 < d.length
    · rw [if_pos h3] at hR
      subst hR
      obtain ⟨rfl, h3⟩ := h3
      have hI : (0 : Int) < d.length := by omega
      clear hm hsW hdW s1 d1 h3
      generalize s.length = n1 at *
      generalize d.length = nd at *
      go_enter Tryd.func23, Tryd.ntmps23
      go_wp2_with fail
      refine (cM _).mono ?_
      rintro e w1 ⟨rfl, rfl⟩
      go_wp2_with fail
      go_ret2
      exact ⟨rfl, hba _⟩
    · rw [if_neg h3] at hR
      by_cases h4 : 80 < s.length ∨ 400 < d.length
      · rw [if_pos h4] at hR
        subst hR
        have h3I : f = true ∨ d = [] := by
          cases f
          · right; exact List.eq_nil_of_length_eq_zero (Nat.eq_zero_of_not_pos fun h => h3 ⟨rfl, h⟩)
          · exact .inl rfl
        rcases h3I with rfl | rfl
        · have h4I : (80 : Int) < s.length ∨ (¬ (80 : Int) < s.length ∧ (400 : Int) < d.length) := by omega
          clear hm hsW hdW s1 d1 h3 h4
          generalize s.length = n1 at *
          generalize d.length = nd at *
          rcases h4I with h4I | ⟨h4I, h5I⟩
          all_goals
            go_enter Tryd.func23, Tryd.ntmps23
            go_wp2_with fail
            refine (cM _).mono ?_
            rintro e w1 ⟨rfl, rfl⟩
            go_wp2_with fail
            go_ret2
            exact ⟨rfl, hba _⟩
        · have h4I : (80 : Int) < s.length := by
            rw [show ([] : List UInt8).length = 0 from rfl] at h4
            omega
          clear hm hsW hdW s1 d1 h3 h4
          rw [show ([] : List UInt8).length = 0 from rfl]
          generalize s.length = n1 at *
          cases f
          all_goals
            go_enter Tryd.func23, Tryd.ntmps23
            go_wp2_with fail
            refine (cM _).mono ?_
            rintro e w1 ⟨rfl, rfl⟩
            go_wp2_with fail
            go_ret2
            exact ⟨rfl, hba _⟩
      · rw [if_neg h4] at hR
        subst hR
        have h3I : f = true ∨ (f = false ∧ d = []) := by
          cases f
          · right; exact ⟨rfl, List.eq_nil_of_length_eq_zero (Nat.eq_zero_of_not_pos fun h => h3 ⟨rfl, h⟩)⟩
          · exact .inl rfl
        have h4I : ¬ (80 : Int) < s.length := by omega
        have h5I : ¬ (400 : Int) < d.length := by omega
        have cv1 := fun W => bytesOf_T (contB f d) W (by have := contB_length f d; omega)
        have cD0 := fun ap W h => DigestOf_any m 1 [s, contB f d] ap 2 W m0 m1 (by decide) (by decide) (by simp) (fun l hl => by have := contB_length f d; simp at hl; rcases hl with rfl | rfl <;> omega) h
        rw [digR_leaf m hm f s d (by omega) (by omega), show [s, contB f d].length = 2 from rfl] at cD0
        generalize digB m 1 [s, contB f d] = D at *
        have HSW : Hid (∀ W, Below w.heap.size w W → RowV W (.slice a1 s.length k1) s) := fun W hW => hsW.keep hW
        obtain ⟨n1, hn1⟩ : ∃ n, s.length = n := ⟨_, rfl⟩
        rw [hn1] at h4I HSW ⊢
        have csd := fun W (h : Bytes W ad d) => bytes_string (cap := cd) h
        have hz1 : str [1] ++ str d = str (1 :: d) := str_append [1] d
        have zz : ¬ 9223372036854775807 < (str [1]).size + (str d).size := by rw [str_size, str_size]; simp; omega
        have c1 : contB true d = 1 :: d := rfl
        have c0 : contB false d = [0] := rfl
        clear hm hsW hdW s1 s2 s3 s4 d1 d2 d3 h3 h4 hn1
        rcases h3I with rfl | ⟨rfl, rfl⟩
        · rw [c1] at cv1 cD0
          generalize 1 :: d = C at *
          rw [show (⟨d.toArray⟩ : ByteArray) = str d from rfl] at csd
          generalize str C = SC at *
          generalize str d = SD at *
          have h01 : str [1] = (⟨#[1]⟩ : ByteArray) := rfl
          rw [h01] at hz1 zz
          clear c1 c0
          generalize d.length = nd at *
          generalize C.length = nc at *
          go_enter Tryd.func23, Tryd.ntmps23
          go_wp2_with fail
          refine (cM _).mono ?_
          rintro e w1 ⟨rfl, rfl⟩
          clear cM
          have hb0 := hba (.cells #[.bool true, .slice a1 n1 k1, .slice ad nd cd] 39)
          have q1 := csd _ (d4.keep hb0)
          go_upto_region 10 with fail
          obtain ⟨g4, k4, w4, q4, hr4, hb4⟩ := cv1 (w.alloc (.cells #[.bool true, .slice a1 n1 k1, .slice ad nd cd] 39))
          have hbb4 := below_step hb0 hb0.size hb4
          have hlin := fun T => lines_two w4 _ _ T _ _ (HSW.out w4 hbb4) hr4.row
          have hba4 : ∀ o, Below w.heap.size w (w4.alloc o) := fun o => hbb4.alloc hbb4.size o
          clear hr4 HSW csd q1 hz1 zz
          go_wp2_with fail
          refine (cD0 _ _ (hlin _)).mono ?_
          rintro e w5 ⟨v5, rfl, hr5, hb5⟩
          have hbb5 := below_step (hba4 _) (hba4 _).size hb5
          clear cD0 hlin hba4 q4
          go_wp2_with fail
          go_ret2
          exact ⟨_, rfl, hr5, hbb5⟩
        · rw [c0] at cv1 cD0
          clear hz1 zz c1 c0 csd
          have h01 : str [0] = (⟨#[0]⟩ : ByteArray) := rfl
          rw [h01] at cv1
          rw [show ([] : List UInt8).length = 0 from rfl]
          rw [show ([0] : List UInt8).length = 1 from rfl] at cv1
          clear h5I
          go_enter Tryd.func23, Tryd.ntmps23
          go_wp2_with fail
          refine (cM _).mono ?_
          rintro e w1 ⟨rfl, rfl⟩
          clear cM
          have hb0 := hba (.cells #[.bool false, .slice a1 n1 k1, .slice ad 0 cd] 39)
          go_upto_region 10 with fail
          obtain ⟨g4, k4, w4, q4, hr4, hb4⟩ := cv1 (w.alloc (.cells #[.bool false, .slice a1 n1 k1, .slice ad 0 cd] 39))
          have hbb4 := below_step hb0 hb0.size hb4
          have hlin := fun T => lines_two w4 _ _ T _ _ (HSW.out w4 hbb4) hr4.row
          have hba4 : ∀ o, Below w.heap.size w (w4.alloc o) := fun o => hbb4.alloc hbb4.size o
          clear hr4 HSW
          go_wp2_with fail
          refine (cD0 _ _ (hlin _)).mono ?_
          rintro e w5 ⟨v5, rfl, hr5, hb5⟩
          have hbb5 := below_step (hba4 _) (hba4 _).size hb5
          clear cD0 hlin hba4 q4
          go_wp2_with fail
          go_ret2
          exact ⟨_, rfl, hr5, hbb5⟩
end Go.Proofs.YtcnemacakjemjaaDoor
