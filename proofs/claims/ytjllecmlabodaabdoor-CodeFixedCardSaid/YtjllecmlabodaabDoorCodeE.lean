/-
  CONTRACTS of package code's readers: the closure that keeps its place, the one that turns bytes back, and what reads by them byte after byte.
  CONDITIONS: each theorem's own hypotheses.
-/
import Derived.Test.YtjllecmlabodaabDoorCodeD
import Derived.OneCell
namespace Go.Proofs.YtjllecmlabodaabDoor
open Go.RowKit CodeMath
set_option linter.unusedVariables false

/-- The reader's closure; the one that turns. -/
abbrev rd (P B : Nat) : Value := .func (.func 47) #[] #[.pointer (some ⟨P, 0, none⟩), .pointer (some ⟨B, 0, none⟩)]
abbrev td (F D : Nat) : Value := .func (.func 49) #[] #[.pointer (some ⟨F, 0, none⟩), .pointer (some ⟨D, 0, none⟩)]

/-- What the reader's closure has in memory, all of it below block M: its place, p bytes on; the slice of the bytes l. -/
structure Rdr (M : Nat) (w : World) (P B : Nat) (ao : Option Addr) (cap : Nat) (l : List UInt8) (p : Nat) : Prop where
  place : w.heap[P]? = some (.cells #[.int .i64 p] 3 (0, 0))
  box : w.cell? ⟨B, 0, none⟩ = some (.slice ao l.length cap)
  bytes : ∀ j x, l[j]? = some x → ∃ a o, ao = some ⟨a, o, none⟩ ∧ a ≠ P ∧ a < M ∧ w.cell? ⟨a, o + j, none⟩ = some (.int .u8 x.toNat)
  pb : B ≠ P
  pm : P < M
  bm : B < M
  m : M ≤ w.heap.size
  pl : p ≤ l.length
  sz : l.length ≤ 9223372036854775807
/-- What the turning closure has beside it. -/
structure Tur (M : Nat) (w : World) (P B F D : Nat) (d : Bool) : Prop where
  fn : w.cell? ⟨F, 0, none⟩ = some (rd P B)
  bb : w.cell? ⟨D, 0, none⟩ = some (.int .u8 (byD d))
  fp : F ≠ P
  dp : D ≠ P
  fm : F < M
  dm : D < M
theorem Rdr.below {M : Nat} {w w' : World} {P B : Nat} {ao : Option Addr} {cap : Nat} {l : List UInt8} {p : Nat} (h : Rdr M w P B ao cap l p) (hb : Below M w w') : Rdr M w' P B ao cap l p :=
  ⟨(hb.block P h.pm).trans h.place, (hb.cell (p := ⟨B, 0, none⟩) h.bm).trans h.box, fun j x hx => by
    obtain ⟨a, o, h1, h2, h3, h4⟩ := h.bytes j x hx
    exact ⟨a, o, h1, h2, h3, (hb.cell (p := ⟨a, o + j, none⟩) h3).trans h4⟩, h.pb, h.pm, h.bm, Nat.le_trans h.m hb.size, h.pl, h.sz⟩
theorem Tur.below {M : Nat} {w w' : World} {P B F D : Nat} {d : Bool} (h : Tur M w P B F D d) (hb : Below M w w') : Tur M w' P B F D d :=
  ⟨(hb.cell (p := ⟨F, 0, none⟩) h.fm).trans h.fn, (hb.cell (p := ⟨D, 0, none⟩) h.dm).trans h.bb, h.fp, h.dp, h.fm, h.dm⟩
theorem Tur.moved {M : Nat} {w w' : World} {P B F D : Nat} {d : Bool} (h : Tur M w P B F D d) (hb : w.grownBy w' (some P)) : Tur M w' P B F D d :=
  ⟨hb.cell h.fn (by simpa using h.fp), hb.cell h.bb (by simpa using h.dp), h.fp, h.dp, h.fm, h.dm⟩
theorem moved_below {w w1 w2 : World} {P : Nat} (h : w.grownBy w1 (some P)) (hb : Below w.heap.size w1 w2) : w.grownBy w2 (some P) :=
  ⟨hb.os.trans h.os, hb.tape.trans h.tape, hb.output.trans h.output, Nat.le_trans h.size hb.size, fun k hk hn => (hb.block k hk).trans (h.block k hk hn)⟩
theorem moved_of_below {w w1 : World} {P : Nat} (hb : Below w.heap.size w w1) : w.grownBy w1 (some P) :=
  ⟨hb.os, hb.tape, hb.output, hb.size, fun k hk _ => hb.block k hk⟩
theorem moved_refl (w : World) (P : Nat) : w.grownBy w (some P) := ⟨rfl, rfl, rfl, Nat.le_refl _, fun _ _ _ => rfl⟩
theorem OwnB.moved {w w1 : World} {base P : Nat} {v : Value} {l : List UInt8} (h : OwnB w base v l) (hP : P < base) (hg : w.grownBy w1 (some P)) : OwnB w1 base v l :=
  World.ownsRow.kept h hg (by
    cases hv : v.ownBlock with
    | none => exact .inl rfl
    | some k => exact .inr (by have := (h.lt k hv).1; simp; omega))

set_option maxRecDepth 100000 in
theorem reader1_more {M : Nat} {w : World} {P B : Nat} {ao : Option Addr} {cap : Nat} {l : List UInt8} {p : Nat} (h : Rdr M w P B ao cap l p) (x : UInt8) (hx : l[p]? = some x) :
    Calls Tryd.prog 47 #[.pointer (some ⟨P, 0, none⟩), .pointer (some ⟨B, 0, none⟩)] w fun e w' => e = .returned (.tuple #[.int .u8 x.toNat, .bool true]) ∧ Rdr M w' P B ao cap l (p + 1) ∧ w.grownBy w' (some P) := by
  obtain ⟨a, o, rfl, hap, ham, hxa⟩ := h.bytes p x hx
  have hp : p < l.length := (List.getElem?_eq_some_iff.1 hx).1
  have hP := cell_of_one h.place
  have hPf := free_of_one h.place
  have hB := h.box
  have hpb := h.pb
  have hend : Rdr M (w.setCell ⟨P, 0, none⟩ (.int .i64 (p + 1))) P B (some ⟨a, o, none⟩) cap l (p + 1) ∧ w.grownBy (w.setCell ⟨P, 0, none⟩ (.int .i64 (p + 1))) (some P) := by
    have hg : w.grownBy (w.setCell ⟨P, 0, none⟩ (.int .i64 (p + 1))) (some P) := ⟨rfl, rfl, rfl, by simp [World.setCell], fun k hk hn => Below.heap_setCell _ _ _ _ (by simpa using hn)⟩
    refine ⟨⟨?_, hg.cell h.box (by simpa using h.pb), fun j y hy => ?_, h.pb, h.pm, h.bm, Nat.le_trans h.m hg.size, hp, h.sz⟩, hg⟩
    · exact one_setCell h.place
    · obtain ⟨a', o', h1, h2, h3, h4⟩ := h.bytes j y hy
      exact ⟨a', o', h1, h2, h3, hg.cell h4 (by simpa using h2)⟩
  have hsz := h.sz
  obtain ⟨n, hn⟩ : ∃ n, l.length = n := ⟨_, rfl⟩
  rw [hn] at hB hp hsz
  have hne : ((p : Int) == (n : Int)) = false := by simp; omega
  have hE := Lib.hid hend
  clear h hend hx hn
  go_enter Tryd.func47, Tryd.ntmps47
  go_wp2
  go_ret2
  exact ⟨rfl, hE.out⟩

set_option maxRecDepth 100000 in
theorem reader1_end {M : Nat} {w : World} {P B : Nat} {ao : Option Addr} {cap : Nat} {l : List UInt8} (h : Rdr M w P B ao cap l l.length) :
    Calls Tryd.prog 47 #[.pointer (some ⟨P, 0, none⟩), .pointer (some ⟨B, 0, none⟩)] w fun e w' => e = .returned (.tuple #[.int .u8 0, .bool false]) ∧ w = w' := by
  have hP := cell_of_one h.place
  have hB := h.box
  generalize l.length = n at hP hB
  clear h
  go_enter Tryd.func47, Tryd.ntmps47
  go_wp2
  go_ret2
  exact ⟨rfl, rfl⟩

/-- All that a reading of bytes needs: both closures. -/
structure Src (M : Nat) (w : World) (P B F D : Nat) (ao : Option Addr) (cap : Nat) (l : List UInt8) (d : Bool) (p : Nat) : Prop where
  r : Rdr M w P B ao cap l p
  t : Tur M w P B F D d
theorem Src.below {M : Nat} {w w' : World} {P B F D : Nat} {ao : Option Addr} {cap : Nat} {l : List UInt8} {d : Bool} {p : Nat} (h : Src M w P B F D ao cap l d p) (hb : Below M w w') : Src M w' P B F D ao cap l d p := ⟨h.r.below hb, h.t.below hb⟩
/-- The bytes that are still to come, turned back. -/
def rest (l : List UInt8) (d : Bool) (p : Nat) : List UInt8 := (turnL d l).drop p
theorem rest_cons {l : List UInt8} {d : Bool} {p : Nat} {c : UInt8} {r : List UInt8} (h : rest l d p = c :: r) : l[p]? = some (turnB d c) ∧ rest l d (p + 1) = r := by
  unfold rest at h ⊢
  have h1 : (turnL d l)[p]? = some c := by
    have := congrArg (·[0]?) h
    simpa using this
  refine ⟨?_, ?_⟩
  · unfold turnL at h1
    rw [List.getElem?_map] at h1
    cases hx : l[p]? with
    | none => rw [hx] at h1; cases h1
    | some x =>
      rw [hx] at h1
      simp only [Option.map_some, Option.some.injEq] at h1
      rw [← h1, turnB_turnB]
  · have := congrArg (List.drop 1) h
    simpa using this
theorem rest_nil {l : List UInt8} {d : Bool} {p : Nat} (hp : p ≤ l.length) (h : rest l d p = []) : p = l.length := by
  unfold rest at h
  have := List.drop_eq_nil_iff.1 h
  rw [turnL_length] at this
  omega

set_option maxRecDepth 100000 in
theorem turned1_more {M : Nat} {w : World} {P B F D : Nat} {ao : Option Addr} {cap : Nat} {l : List UInt8} {d : Bool} {p : Nat} (h : Src M w P B F D ao cap l d p) (c : UInt8) (r : List UInt8) (hc : rest l d p = c :: r) :
    Calls Tryd.prog 49 #[.pointer (some ⟨F, 0, none⟩), .pointer (some ⟨D, 0, none⟩)] w fun e w' => e = .returned (.tuple #[.int .u8 c.toNat, .bool true]) ∧ Src M w' P B F D ao cap l d (p + 1) ∧ w.grownBy w' (some P) := by
  have c47 := reader1_more h.r (turnB d c) (rest_cons hc).1
  have hF := h.t.fn
  have hx := Lib.hid (xor_by d (turnB d c))
  have hcc : turnB d (turnB d c) = c := turnB_turnB d c
  rw [hcc] at hx
  have ht := h.t
  obtain ⟨x, hx0⟩ : ∃ x, turnB d c = x := ⟨_, rfl⟩
  rw [hx0] at c47 hx
  clear h hcc hx0 hc
  go_enter Tryd.func49, Tryd.ntmps49
  go_wp2_with fail
  refine c47.mono ?_
  rintro e w1 ⟨rfl, hr, hg⟩
  have ht1 := ht.moved hg
  have hD := ht1.bb
  generalize byD d = D1 at hD hx
  go_wp2_with fail
  go_ret2
  exact ⟨by rw [← hx.out]; rfl, ⟨hr, ht1⟩, hg⟩
set_option maxRecDepth 100000 in
theorem turned1_end {M : Nat} {w : World} {P B F D : Nat} {ao : Option Addr} {cap : Nat} {l : List UInt8} {d : Bool} {p : Nat} (h : Src M w P B F D ao cap l d p) (hc : rest l d p = []) :
    Calls Tryd.prog 49 #[.pointer (some ⟨F, 0, none⟩), .pointer (some ⟨D, 0, none⟩)] w fun e w' => e = .returned (.tuple #[.int .u8 (turnB d 0).toNat, .bool false]) ∧ w = w' := by
  have hp := rest_nil h.r.pl hc
  subst hp
  have c47 := reader1_end h.r
  have hF := h.t.fn
  have hx := Lib.hid (xor_by d 0)
  have hD := h.t.bb
  generalize byD d = D1 at hD hx
  clear h hc
  go_enter Tryd.func49, Tryd.ntmps49
  go_wp2_with fail
  refine c47.mono ?_
  rintro e w1 ⟨rfl, rfl⟩
  go_wp2_with fail
  go_ret2
  exact ⟨by rw [← hx.out]; rfl, rfl⟩

/-! ### the readers -/
/-- What a reading ends in: a value and an error; unless it is one the place is k bytes on. -/
def Reads (M : Nat) (P B F D : Nat) (ao : Option Addr) (cap : Nat) (l : List UInt8) (d : Bool) (p k : Nat) (e0 : Int) (vs : Value) (w : World) (e : Ending) (w' : World) : Prop :=
  e = .returned vs ∧ w.grownBy w' (some P) ∧ (e0 = 0 → Src M w' P B F D ao cap l d (p + k))

set_option maxRecDepth 100000 in
theorem readBool_more {M : Nat} {w : World} {P B F D : Nat} {ao : Option Addr} {cap : Nat} {l : List UInt8} {d : Bool} {p : Nat} (h : Src M w P B F D ao cap l d p) (c : UInt8) (r : List UInt8) (hc : rest l d p = c :: r) :
    Calls Tryd.prog 61 #[td F D] w (Reads M P B F D ao cap l d p 1 0 (.tuple #[.int .i64 c.toNat, .int .i64 0]) w) := by
  have c49 := turned1_more h c r hc
  have hlt := byte_lt c
  clear h hc
  go_enter Tryd.func61, Tryd.ntmps61
  go_wp2_with fail
  refine c49.mono ?_
  rintro e w1 ⟨rfl, hs, hg⟩
  clear c49
  go_wp2_with fail
  go_ret2
  exact ⟨rfl, hg, fun _ => hs⟩
set_option maxRecDepth 100000 in
theorem readBool_end {M : Nat} {w : World} {P B F D : Nat} {ao : Option Addr} {cap : Nat} {l : List UInt8} {d : Bool} {p : Nat} (h : Src M w P B F D ao cap l d p) (hc : rest l d p = []) :
    Calls Tryd.prog 61 #[td F D] w (Reads M P B F D ao cap l d p 0 4 (.tuple #[.int .i64 0, .int .i64 4]) w) := by
  have c49 := turned1_end h hc
  clear h hc
  generalize ((turnB d 0).toNat : Int) = q at c49
  go_enter Tryd.func61, Tryd.ntmps61
  go_wp2_with fail
  refine c49.mono ?_
  rintro e w1 ⟨rfl, rfl⟩
  clear c49
  go_wp2_with fail
  go_ret2
  exact ⟨rfl, moved_refl _ _, fun h => by cases h⟩

/-- A byte of a text: its value, whether the text ends, the error; k bytes are read. -/
structure TB where
  c : UInt8
  ends : Bool
  e : Int
  k : Nat
def tbyte : List UInt8 → TB
  | [] => ⟨0, false, 4, 0⟩
  | c :: l => if c = 0 then (match l with
    | [] => ⟨0, false, 4, 1⟩
    | m :: _ => if m = 255 then ⟨0, false, 0, 2⟩ else if m = 1 then ⟨0, true, 0, 2⟩ else ⟨0, false, 3, 2⟩) else ⟨c, false, 0, 1⟩
set_option maxRecDepth 100000 in
set_option maxHeartbeats 1000000 in
theorem readTextByte_any {M : Nat} {w : World} {P B F D : Nat} {ao : Option Addr} {cap : Nat} {l : List UInt8} {d : Bool} {p : Nat} (h : Src M w P B F D ao cap l d p) (t : TB) (ht : tbyte (rest l d p) = t) :
    Calls Tryd.prog 78 #[td F D] w (Reads M P B F D ao cap l d p t.k t.e (.tuple #[.int .u8 t.c.toNat, .bool t.ends, .int .i64 t.e]) w) := by
  cases hr : rest l d p with
  | nil =>
    rw [hr] at ht
    subst ht
    have c49 := turned1_end h hr
    clear h hr
    generalize ((turnB d 0).toNat : Int) = q at c49
    go_enter Tryd.func78, Tryd.ntmps78
    go_wp2_with fail
    refine c49.mono ?_
    rintro e w1 ⟨rfl, rfl⟩
    clear c49
    go_wp2_with fail
    go_ret3
    exact ⟨rfl, moved_refl _ _, fun h => by cases h⟩
  | cons c r =>
    rw [hr] at ht
    have c49 := turned1_more h c r hr
    have hn := (rest_cons hr).2
    by_cases hc : c = 0
    · subst hc
      have hz : ((0 : UInt8).toNat : Int) = 0 := rfl
      rw [hz] at c49
      cases r with
      | nil =>
        subst ht
        clear h hr hz
        go_enter Tryd.func78, Tryd.ntmps78
        go_wp2_with fail
        refine c49.mono ?_
        rintro e w1 ⟨rfl, hs, hg⟩
        clear c49
        have c49 := turned1_end hs hn
        clear hs
        generalize ((turnB d 0).toNat : Int) = q at c49
        go_wp2_with fail
        refine c49.mono ?_
        rintro e w2 ⟨rfl, rfl⟩
        clear c49
        go_wp2_with fail
        go_ret3
        exact ⟨rfl, hg, fun h => by cases h⟩
      | cons m r2 =>
        obtain ⟨k1, k2, hk1, hk2, hT⟩ : ∃ k1 k2 : Bool, ((m.toNat : Int) == 255) = k1 ∧ ((m.toNat : Int) == 1) = k2 ∧ Hid (t = (if k1 then ⟨0, false, 0, 2⟩ else if k2 then ⟨0, true, 0, 2⟩ else ⟨0, false, 3, 2⟩ : TB)) := by
          refine ⟨_, _, rfl, rfl, ?_⟩
          show _ = _
          rw [← ht]
          simp only [tbyte, if_pos]
          by_cases h1 : m = 255
          · subst h1; rfl
          · have e1 : ((m.toNat : Int) == 255) = false := by
              simp only [beq_eq_false_iff_ne]
              intro e
              exact h1 (UInt8.toNat_inj.1 (show m.toNat = (255 : UInt8).toNat from by have e' := e; simp only [UInt8.reduceToNat]; omega))
            rw [if_neg h1, e1]
            by_cases h2 : m = 1
            · subst h2; rfl
            · have e2 : ((m.toNat : Int) == 1) = false := by
                simp only [beq_eq_false_iff_ne]
                intro e
                exact h2 (UInt8.toNat_inj.1 (show m.toNat = (1 : UInt8).toNat from by have e' := e; simp only [UInt8.reduceToNat]; omega))
              rw [if_neg h2, e2]
              rfl
        clear h hr hz ht
        have c50 := fun w' (hs : Src M w' P B F D ao cap l d (p + 1)) => turned1_more hs m r2 hn
        clear hn
        generalize (m.toNat : Int) = mi at hk1 hk2 c50
        cases k1
        · cases k2
          · have HT := hT
            clear hT
            go_enter Tryd.func78, Tryd.ntmps78
            go_wp2_with fail
            refine c49.mono ?_
            rintro e w1 ⟨rfl, hs, hg⟩
            clear c49
            have c51 := c50 _ hs
            clear hs c50
            go_wp2_with fail
            refine c51.mono ?_
            rintro e w2 ⟨rfl, hs, hg2⟩
            clear c51
            go_wp2_with fail
            go_ret3
            rw [HT.out]
            exact ⟨rfl, grown_trans hg hg2, fun h => by cases h⟩
          · have HT := hT
            clear hT
            go_enter Tryd.func78, Tryd.ntmps78
            go_wp2_with fail
            refine c49.mono ?_
            rintro e w1 ⟨rfl, hs, hg⟩
            clear c49
            have c51 := c50 _ hs
            clear hs c50
            go_wp2_with fail
            refine c51.mono ?_
            rintro e w2 ⟨rfl, hs, hg2⟩
            clear c51
            go_wp2_with fail
            go_ret3
            rw [HT.out]
            exact ⟨rfl, grown_trans hg hg2, fun _ => hs⟩
        · have HT := hT
          clear hT hk2
          go_enter Tryd.func78, Tryd.ntmps78
          go_wp2_with fail
          refine c49.mono ?_
          rintro e w1 ⟨rfl, hs, hg⟩
          clear c49
          have c51 := c50 _ hs
          clear hs c50
          go_wp2_with fail
          refine c51.mono ?_
          rintro e w2 ⟨rfl, hs, hg2⟩
          clear c51
          go_wp2_with fail
          go_ret3
          rw [HT.out]
          exact ⟨rfl, grown_trans hg hg2, fun _ => hs⟩
    · have hne : ((c.toNat : Int) != 0) = true := by
        simp only [bne_iff_ne, ne_eq]
        intro e
        exact hc (UInt8.toNat_inj.1 (show c.toNat = (0 : UInt8).toNat from by simpa using e))
      have HT : Hid (t = ⟨c, false, 0, 1⟩) := by
        show _ = _
        rw [← ht]; simp only [tbyte]; rw [if_neg hc]
      clear h hr ht hn hc
      go_enter Tryd.func78, Tryd.ntmps78
      go_wp2_with fail
      refine c49.mono ?_
      rintro e w1 ⟨rfl, hs, hg⟩
      clear c49
      go_wp2_with fail
      go_ret3
      rw [HT.out]
      exact ⟨rfl, hg, fun _ => hs⟩
end Go.Proofs.YtjllecmlabodaabDoor
