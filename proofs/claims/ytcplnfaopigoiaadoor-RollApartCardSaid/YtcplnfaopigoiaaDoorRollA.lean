/-
  CONTRACTS of package roll's digester: digest, entry, pair.
  CONDITIONS: package sum's roundWords hold what their initialiser lays ('KW').
-/
import Derived.Test.YtcplnfaopigoiaaDoorClimb
import Derived.Test.YtcplnfaopigoiaaDoorRollS
namespace Go.Proofs.YtcplnfaopigoiaaDoor
open Go.RowKit CodeMath Go.Proofs.YtcplnfaopigoiaaDoor.FrameMath
set_option linter.unusedVariables false
set_option maxRecDepth 100000

/-- A digester in memory. -/
def DigW (w : World) (g : Nat) (m e : Int) : Prop := Blk w g 84 [.int .i64 m, .int .i64 e]
theorem DigW.keep {w w' : World} {g : Nat} {m e : Int} (h : DigW w g m e) (hb : Below w.heap.size w w') : DigW w' g m e := Blk.call h hb
theorem DigW.lt {w : World} {g : Nat} {m e : Int} (h : DigW w g m e) : g < w.heap.size := Blk.lt h
theorem DigW.set {w : World} {g : Nat} {m e : Int} (h : DigW w g m e) (e' : Int) : DigW (w.setCell ⟨g, 1, none⟩ (.int .i64 e')) g m e' := Blk.set h 1 (.int .i64 e')
theorem DigW.int {w : World} {g : Nat} {m e : Int} (h : DigW w g m e) {j : Nat} {v : Value} (hv : w.cell? ⟨g, j, none⟩ = some v) : ∃ x, v = .int .i64 x := by
  rw [cell_of_block h] at hv
  match j, hv with
  | 0, hv => simp at hv; exact ⟨_, hv.symm⟩
  | 1, hv => simp at hv; exact ⟨_, hv.symm⟩
  | j + 2, hv => simp at hv
theorem mv_below {w w1 : World} {P : Nat} (hb : Below w.heap.size w w1) : w.grownBy w1 (some P) :=
  ⟨hb.os, hb.tape, hb.output, hb.size, fun k hk _ => hb.block k hk⟩
theorem mv_refl (w : World) (P : Nat) : w.grownBy w (some P) := ⟨rfl, rfl, rfl, Nat.le_refl _, fun _ _ _ => rfl⟩
theorem Bytes.moved {w w' : World} {g : Nat} {m e : Int} {ao : Option Addr} {l : List UInt8} (h : Bytes w ao l) (hD : DigW w g m e) (hg : w.grownBy w' (some g)) : Bytes w' ao l := by
  rcases h with h | ⟨a, o, h1, h2, h3⟩
  · exact .inl h
  · cases l with
    | nil => exact .inl rfl
    | cons x l =>
      have hne : a ≠ g := fun he => by
        have := h3 0 x rfl
        rw [he] at this
        obtain ⟨y, hy⟩ := hD.int this
        cases hy
      exact .inr ⟨a, o, h1, Nat.lt_of_lt_of_le h2 hg.size, fun j y hy => hg.cell (h3 j y hy) (by simpa using hne)⟩
theorem RowV.moved {w w' : World} {g : Nat} {m e : Int} {u : Value} {l : List UInt8} (h : RowV w u l) (hD : DigW w g m e) (hg : w.grownBy w' (some g)) : RowV w' u l := by
  obtain ⟨ao, cap, h1, h2, h3, h4, h5⟩ := h
  exact ⟨ao, cap, h1, h2, h3, h4, h5.moved hD hg⟩
theorem RowT.moved {w w' : World} {g : Nat} {m e : Int} {u : Value} {l : List UInt8} (h : RowT w u l) (hD : DigW w g m e) (hg : w.grownBy w' (some g)) : RowT w' u l := by
  obtain ⟨ao, cap, h1, h2, h3, h4, h5⟩ := h
  refine ⟨ao, cap, h1, h2, h3, h4, ?_⟩
  rcases h5 with h5 | ⟨k, cur, T, fz, rfl, hk, hT, hc⟩
  · exact .inl h5
  · cases l with
    | nil => exact .inl rfl
    | cons x l =>
      have hne : k ≠ g := fun he => by
        have h6 := hc 0 x rfl
        rw [← cell_of_block hk, he] at h6
        obtain ⟨y, hy⟩ := hD.int h6
        cases hy
      refine .inr ⟨k, cur, T, fz, rfl, ?_, hT, hc⟩
      rw [hg.block k (Array.getElem?_eq_some_iff.1 hk).1 (by simpa using hne)]
      exact hk
theorem Lines.moved {w w' : World} {g : Nat} {m e : Int} {ap : Option Addr} {rows : List (List UInt8)} (h : Lines w ap rows) (hD : DigW w g m e) (hg : w.grownBy w' (some g)) : Lines w' ap rows := by
  rcases h with h | ⟨a, o, h1, h2, h3⟩
  · exact .inl h
  · cases rows with
    | nil => exact .inl rfl
    | cons x l =>
      have hne : a ≠ g := fun he => by
        obtain ⟨A, c, q, _⟩ := h3 0 x rfl
        rw [he] at q
        obtain ⟨y, hy⟩ := hD.int q
        cases hy
      refine .inr ⟨a, o, h1, Nat.lt_of_lt_of_le h2 hg.size, fun i r hr => ?_⟩
      obtain ⟨A, c, q1, q2, q3, q4, q5⟩ := h3 i r hr
      exact ⟨A, c, hg.cell q1 (by simpa using hne), q2, q3, q4, q5.moved hD hg⟩
theorem KW.moved {w w' : World} {g : Nat} {m e : Int} (h : KW w) (hD : DigW w g m e) (hg : w.grownBy w' (some g)) : KW w' := by
  have hne : 0 ≠ g := fun he => by
    have := h.2 0 _ rfl
    rw [he] at this
    obtain ⟨y, hy⟩ := hD.int this
    cases hy
  exact ⟨Nat.lt_of_lt_of_le h.1 hg.size, fun i x hx => hg.cell (h.2 i x hx) (by simpa using hne)⟩
/-- What a digester tells, and its error behind that. -/
def stD (e : Int) (R : DR) : List UInt8 × Int := if e ≠ 0 then ([], e) else match R with
  | .ok b => (b, 0)
  | .err c => ([], c)
theorem stD_bad {e : Int} (h : e ≠ 0) (R : DR) : stD e R = ([], e) := if_pos h
theorem stD_ok (b : List UInt8) : stD 0 (.ok b) = (b, 0) := rfl
theorem stD_err (c : Int) : stD 0 (.err c) = ([], c) := rfl
def StPost (g : Nat) (m : Int) (x : List UInt8 × Int) (w : World) (ex : Ending) (w' : World) : Prop := ∃ v, ex = .returned v ∧ RowT w' v x.1 ∧ DigW w' g m x.2 ∧ w.grownBy w' (some g)
theorem rowT_nil (w : World) : RowT w (.slice none 0 0) [] := ⟨none, 0, rfl, Nat.le_refl _, by decide, fun _ => rfl, .inl rfl⟩
set_option maxHeartbeats 2000000 in
theorem dig_any (g : Nat) (m e t : Int) (ps : List (List UInt8)) (ap : Option Addr) (cp : Nat) (w : World) (m0 : -9223372036854775808 ≤ m) (m1 : m ≤ 9223372036854775807) (t0 : -9223372036854775808 ≤ t) (t1 : t ≤ 9223372036854775807) (hn : ps.length ≤ 9223372036854775807) (hB : ∀ l ∈ ps, l.length ≤ 140737488351232) (hl : Lines w ap ps) (hT : KW w) (hD : DigW w g m e) :
    Calls Tryd.prog 62 #[.pointer (some ⟨g, 0, none⟩), .int .i64 t, .slice ap ps.length cp] w (StPost g m (stD e (digR m t ps)) w) := by
  have c0 : w.cell? ⟨g, 0, none⟩ = some (.int .i64 m) := Blk.cell hD rfl
  have c1 : w.cell? ⟨g, 1, none⟩ = some (.int .i64 e) := Blk.cell hD rfl
  by_cases he : e = 0
  · subst he
    have cD := Digest_any m t ps ap cp w m0 m1 t0 t1 hn hB hl hT
    cases hR : digR m t ps with
    | err c =>
      rw [hR] at cD
      rw [stD_err]
      clear hR hB hl hT hn
      generalize ps.length = n at *
      go_enter Tryd.func62, Tryd.ntmps62
      go_wp2_with fail
      refine cD.mono ?_
      rintro ex w1 ⟨rfl, hb⟩
      have hD1 := hD.keep hb
      have c2 : w1.cell? ⟨g, 1, none⟩ = some (.int .i64 0) := Blk.cell hD1 rfl
      have f2 : w1.frozen? ⟨g, 1, none⟩ = false := Blk.free hD1 1
      have hD2 := hD1.set c
      have hg2 := grown_trans (mv_below (P := g) hb) (grown_set w1 ⟨g, 1, none⟩ (.int .i64 c))
      clear cD c0 c1 hD hD1
      go_wp2_with fail
      go_ret
      exact ⟨_, rfl, rowT_nil _, hD2, hg2⟩
    | ok b =>
      rw [hR] at cD
      rw [stD_ok]
      clear hR hB hl hT hn
      generalize ps.length = n at *
      go_enter Tryd.func62, Tryd.ntmps62
      go_wp2_with fail
      refine cD.mono ?_
      rintro ex w1 ⟨v, rfl, hr, hb⟩
      have hD1 := hD.keep hb
      have c2 : w1.cell? ⟨g, 1, none⟩ = some (.int .i64 0) := Blk.cell hD1 rfl
      have f2 : w1.frozen? ⟨g, 1, none⟩ = false := Blk.free hD1 1
      have hD2 := hD1.set 0
      have hg2 := grown_set w1 ⟨g, 1, none⟩ (.int .i64 0)
      have hr2 := hr.moved hD1 hg2
      have hg3 := grown_trans (mv_below (P := g) hb) hg2
      obtain ⟨a2, n2, k2, rfl⟩ : ∃ a n k, v = .slice a n k := by obtain ⟨a, k, e, _⟩ := hr; exact ⟨_, _, _, e⟩
      clear cD c0 c1 hD hD1 hr hg2
      go_wp2_with fail
      go_ret
      exact ⟨_, rfl, hr2, hD2, hg3⟩
  · rw [stD_bad he]
    clear hB hl hT hn
    generalize ps.length = n at *
    go_enter Tryd.func62, Tryd.ntmps62
    go_wp2_with fail
    go_ret
    exact ⟨_, rfl, rowT_nil _, hD, mv_refl _ _⟩
theorem lines_one (w : World) (u1 : Value) (T : TypeId) (l1 : List UInt8) (h1 : RowV w u1 l1) : Lines (w.alloc (.cells #[u1] T)) (some ⟨w.heap.size, 0, none⟩) [l1] :=
  LinesV.lines (.inr ⟨w.heap.size, 0, rfl, by simp, fun i l hi => by
    match i, hi with
    | 0, hi => simp at hi; subst hi; exact ⟨u1, by rw [World.cell?_alloc_new]; rfl, h1.keep ((Below.refl _ _).alloc (Nat.le_refl _) _)⟩⟩)
set_option maxHeartbeats 1000000 in
theorem ent_any (g : Nat) (m e : Int) (b : List UInt8) (a1 : Option Addr) (n1 k1 : Nat) (w : World) (m0 : -9223372036854775808 ≤ m) (m1 : m ≤ 9223372036854775807) (hb : RowV w (.slice a1 n1 k1) b) (h1 : b.length ≤ 140737488351232) (hT : KW w) (hD : DigW w g m e) :
    Calls Tryd.prog 63 #[.pointer (some ⟨g, 0, none⟩), .slice a1 n1 k1] w (StPost g m (stD e (digR m 5 [b])) w) := by
  have hba : ∀ o, Below w.heap.size w (w.alloc o) := fun o => (Below.refl _ _).alloc (Nat.le_refl _) o
  have cD := fun W hl hk hd => dig_any g m e 5 [b] (some ⟨w.heap.size, 0, none⟩) 1 W m0 m1 (by decide) (by decide) (by simp) (fun l hl => by simp at hl; subst hl; omega) hl hk hd
  rw [show [b].length = 1 from rfl] at cD
  generalize stD e (digR m 5 [b]) = X at *
  have hlin := fun T => lines_one w _ T _ hb
  clear hb h1
  go_enter Tryd.func63, Tryd.ntmps63
  go_wp2_with fail
  refine (cD _ (hlin _) (hT.keep (hba _) (Nat.le_refl _)) (hD.keep (hba _))).mono ?_
  rintro ex w1 ⟨v, rfl, hr, hd, hg⟩
  have hgg := grown_trans (mv_below (P := g) (hba _)) hg
  clear cD hlin hba hD hT hg
  go_wp2_with fail
  go_ret
  exact ⟨_, rfl, hr, hd, hgg⟩
set_option maxHeartbeats 1000000 in
theorem pair_any (g : Nat) (m e : Int) (a b : List UInt8) (a1 a2 : Option Addr) (n1 k1 n2 k2 : Nat) (w : World) (m0 : -9223372036854775808 ≤ m) (m1 : m ≤ 9223372036854775807) (ha : RowV w (.slice a1 n1 k1) a) (hb : RowV w (.slice a2 n2 k2) b) (h1 : a.length ≤ 140737488351232) (h2 : b.length ≤ 140737488351232) (hT : KW w) (hD : DigW w g m e) :
    Calls Tryd.prog 65 #[.pointer (some ⟨g, 0, none⟩), .slice a1 n1 k1, .slice a2 n2 k2] w (StPost g m (stD e (digR m 6 [a, b])) w) := by
  have hba : ∀ o, Below w.heap.size w (w.alloc o) := fun o => (Below.refl _ _).alloc (Nat.le_refl _) o
  have cD := fun W hl hk hd => dig_any g m e 6 [a, b] (some ⟨w.heap.size, 0, none⟩) 2 W m0 m1 (by decide) (by decide) (by simp) (fun l hl => by simp at hl; rcases hl with rfl | rfl <;> omega) hl hk hd
  rw [show [a, b].length = 2 from rfl] at cD
  generalize stD e (digR m 6 [a, b]) = X at *
  have hlin := fun T => lines_two w _ _ T _ _ ha hb
  clear ha hb h1 h2
  go_enter Tryd.func65, Tryd.ntmps65
  go_wp2_with fail
  refine (cD _ (hlin _) (hT.keep (hba _) (Nat.le_refl _)) (hD.keep (hba _))).mono ?_
  rintro ex w1 ⟨v, rfl, hr, hd, hg⟩
  have hgg := grown_trans (mv_below (P := g) (hba _)) hg
  clear cD hlin hba hD hT hg
  go_wp2_with fail
  go_ret
  exact ⟨_, rfl, hr, hd, hgg⟩
end Go.Proofs.YtcplnfaopigoiaaDoor
