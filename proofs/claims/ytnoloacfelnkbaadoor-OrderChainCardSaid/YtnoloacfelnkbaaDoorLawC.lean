/-
  THE WALK of the law 'chirographkeep.OrderTurns': for every two raw things the law returns true.
  CONDITIONS: package unicode/utf8's two tables hold what their initialisers lay ('Tabs').
-/
import Derived.Test.YtnoloacfelnkbaaDoorRawB
import Derived.Test.YtnoloacfelnkbaaDoorOrdMath
import Derived.OpenShut
import Derived.Deep.RegionHeld3
import Derived.Deep.Cut
import Derived.Deep.CutRange
import Derived.Deep.DeepCutAuto
namespace Go.Proofs.YtnoloacfelnkbaaDoor
open Go.RowKit
set_option linter.unusedVariables false

/-- Four cells hold a value. -/
def At (w : World) (p : Nat) (v : V) : Prop := w.cell? ⟨p, 0, none⟩ = some (.int .i64 v.k) ∧ w.cell? ⟨p, 1, none⟩ = some (.int .i64 v.i) ∧ w.cell? ⟨p, 2, none⟩ = some (.int .u64 v.b) ∧ w.cell? ⟨p, 3, none⟩ = some (.string v.s)
structure Ok (v : V) : Prop where
  fits : v.Fits
  ok : v.chk = 0
theorem below_step {w W w1 : World} (h : Below w.heap.size w W) (hb : Below W.heap.size W w1) : Below w.heap.size w w1 := h.trans (hb.mono h.size)
theorem fresh2 (w : World) (o1 o2 : Obj) : Below w.heap.size w ((w.alloc o1).alloc o2).drew := (((Below.refl _ _).alloc (Nat.le_refl _) _).alloc (by simp) _).drew
theorem fresh3 (w : World) (o1 o2 o3 : Obj) : Below w.heap.size w (((w.alloc o1).alloc o2).alloc o3).drew := ((((Below.refl _ _).alloc (Nat.le_refl _) _).alloc (by simp) _).alloc (by simp; omega) _).drew
theorem fresh4 (w : World) (o1 o2 o3 o4 : Obj) : Below w.heap.size w ((((w.alloc o1).alloc o2).alloc o3).alloc o4).drew := (((((Below.refl _ _).alloc (Nat.le_refl _) _).alloc (by simp) _).alloc (by simp; omega) _).alloc (by simp; omega) _).drew
theorem more1 {w W : World} (h : Below w.heap.size w W) (o : Obj) : Below w.heap.size w (W.alloc o) := h.alloc h.size _
theorem more2 {w W : World} (h : Below w.heap.size w W) (o o' : Obj) : Below w.heap.size w ((W.alloc o).alloc o') := more1 (more1 h o) o'
theorem chk2_ok (v u : V) (hv : Ok v) (hu : Ok u) : chk2 v u = 0 := by unfold chk2; rw [if_pos hv.ok]; exact hu.ok
theorem compare_nb (w : World) (hT : Tabs w) :
    Calls Tryd.prog 13 #[.agg #[.int .i64 0, .int .i64 0, .int .u64 0, .string { data := #[] }], .agg #[.int .i64 1, .int .i64 0, .int .u64 0, .string { data := #[] }]] w fun e w' => e = .returned (.tuple #[.int .i64 (-1), .int .i64 0]) ∧ Below w.heap.size w w' := by
  have f0 : (V.mk 0 0 0 { data := #[] }).Fits := fits4 0 0 0 _ (by decide) (by decide) (by decide) (by decide) (by decide) (by decide) (by decide)
  have f1 : (V.mk 1 0 0 { data := #[] }).Fits := fits4 1 0 0 _ (by decide) (by decide) (by decide) (by decide) (by decide) (by decide) (by decide)
  have e := chk2_ok ⟨0, 0, 0, { data := #[] }⟩ ⟨1, 0, 0, { data := #[] }⟩ ⟨f0, chk_null⟩ ⟨f1, chk_bool 0 (Or.inl rfl)⟩
  have h := compare_any ⟨0, 0, 0, { data := #[] }⟩ ⟨1, 0, 0, { data := #[] }⟩ w f0 f1 hT
  have r : compareR ⟨0, 0, 0, { data := #[] }⟩ ⟨1, 0, 0, { data := #[] }⟩ = -1 := by unfold compareR; rw [if_pos e]; rfl
  rw [r, e] at h
  exact h
/-- Two values that are not one part in some field. -/
theorem ne_cases (v u : V) (h : v ≠ u) : (v.k == u.k) = false ∨ ((v.k == u.k) = true ∧ (v.i == u.i) = false) ∨ ((v.k == u.k) = true ∧ (v.i == u.i) = true ∧ (v.b == u.b) = false) ∨ ((v.k == u.k) = true ∧ (v.i == u.i) = true ∧ (v.b == u.b) = true ∧ (v.s.toList == u.s.toList) = false) := by
  cases hk : (v.k == u.k)
  · exact Or.inl rfl
  · cases hi : (v.i == u.i)
    · exact Or.inr (Or.inl ⟨rfl, rfl⟩)
    · cases hb : (v.b == u.b)
      · exact Or.inr (Or.inr (Or.inl ⟨rfl, rfl, rfl⟩))
      · refine Or.inr (Or.inr (Or.inr ⟨rfl, rfl, rfl, ?_⟩))
        cases hs : (v.s.toList == u.s.toList)
        · rfl
        · exfalso
          apply h
          cases v; cases u
          simp only [beq_iff_eq] at hk hi hb hs
          simp only [V.mk.injEq]
          exact ⟨hk, hi, hb, bytes_eq (by rw [← Lib.toList_data, ← Lib.toList_data]; exact hs)⟩
theorem at_kept {W w1 : World} {p : Nat} {v : V} (h : At W p v) (hp : p < W.heap.size) (hb : Below W.heap.size W w1) : At w1 p v :=
  ⟨(hb.cell (p := ⟨p, 0, none⟩) hp).trans h.1, (hb.cell (p := ⟨p, 1, none⟩) hp).trans h.2.1, (hb.cell (p := ⟨p, 2, none⟩) hp).trans h.2.2.1, (hb.cell (p := ⟨p, 3, none⟩) hp).trans h.2.2.2⟩
/-- Two values in two blocks. -/
def Two (w : World) (x y : Value) (wx : World) : Prop := ∃ (v u : V) (p q : Nat), x = .pointer (some ⟨p, 0, none⟩) ∧ y = .pointer (some ⟨q, 0, none⟩) ∧ Ok v ∧ Ok u ∧ p < wx.heap.size ∧ q < wx.heap.size ∧ At wx p v ∧ At wx q u ∧ Below w.heap.size w wx

set_option maxHeartbeats 1600000 in
theorem orderTurns_bounds (ka a b : Int) (s : ByteArray) (kc c d : Int) (t : ByteArray) (hk : -9223372036854775808 ≤ ka) (hk1 : ka ≤ 9223372036854775807) (ha : -9223372036854775808 ≤ a) (ha1 : a ≤ 9223372036854775807) (gk : -9223372036854775808 ≤ kc) (gk1 : kc ≤ 9223372036854775807) (gc : -9223372036854775808 ≤ c) (gc1 : c ≤ 9223372036854775807) (w : World) (hT : Tabs w) :
    Calls Tryd.prog 7 #[.agg #[.int .i64 ka, .int .i64 a, .int .i64 b, .string s], .agg #[.int .i64 kc, .int .i64 c, .int .i64 d, .string t]] w fun e w' => e = .returned (.bool true) ∧ Below w.heap.size w w' := by
  have c1 := fun w => val_any ka a b s w hk hk1 ha ha1
  have c2 := fun w => val_any kc c d t w gk gk1 gc gc1
  clear hk hk1 ha ha1 gk gk1 gc gc1
  go_enter Tryd.func7, Tryd.ntmps7
  go_upto_region 1 with fail
  go_cut [5, 6] (fun x y wx => Two w x y wx)
  case first =>
    go_region_held3 (fun w' => w'.cell? ⟨w.heap.size, 0, none⟩ = some (.int .i64 ka) ∧ w'.cell? ⟨w.heap.size, 1, none⟩ = some (.int .i64 a) ∧ w'.cell? ⟨w.heap.size, 2, none⟩ = some (.int .i64 b) ∧ w'.cell? ⟨w.heap.size, 3, none⟩ = some (.string s) ∧ w'.cell? ⟨w.heap.size + 1, 0, none⟩ = some (.int .i64 kc) ∧ w'.cell? ⟨w.heap.size + 1, 1, none⟩ = some (.int .i64 c) ∧ w'.cell? ⟨w.heap.size + 1, 2, none⟩ = some (.int .i64 d) ∧ w'.cell? ⟨w.heap.size + 1, 3, none⟩ = some (.string t)) (first | (go_keep; done) | ((try dsimp only); (repeat' apply And.intro) <;> (first | (go_simp; done) | (go_keep; done)))) (first
      | (go_at_call_of 18 (Value.agg #[.int .i64 ka, .int .i64 a, .int .i64 b, .string s]); refine (c1 _).mono ?_; rintro e w1 ⟨v, hvf, hvc, rfl, hb1⟩; obtain ⟨hc1, hf1⟩ := bcell hb1; have z1 := hb1.size; (try simp at z1); have y0 : w.heap.size < w1.heap.size := (by omega); have l0 : w.heap.size ≤ w1.heap.size := (by omega); have l1 : w.heap.size ≤ w1.heap.size + 1 := (by omega); have l2 : w.heap.size < w1.heap.size + 2 := (by omega); have l3 : w.heap.size < w1.heap.size + 1 + 1 := (by omega); have l4 : w.heap.size < w1.heap.size + 1 := (by omega); have y1 : w.heap.size + 1 < w1.heap.size := (by omega); (try (by_cases y2 : w.heap.size + 1 + 1 < w1.heap.size; rotate_left; (exfalso; omega))); (try (by_cases y3 : w.heap.size + 1 + 1 + 1 < w1.heap.size; rotate_left; (exfalso; omega))); have HC := Lib.hid hvc; clear hvc c1; (have B1 : Below w.heap.size w w1 := (by first | exact below_step (fresh2 _ _ _) hb1 | exact below_step (fresh3 _ _ _ _) hb1 | exact below_step (fresh4 _ _ _ _ _) hb1)))
      | (go_at_call_of 18 (Value.agg #[.int .i64 kc, .int .i64 c, .int .i64 d, .string t]); refine (c2 _).mono ?_; rintro e w2 ⟨u, huf, huc, rfl, hb2⟩; obtain ⟨hc2, hf2⟩ := bcell hb2; have z2 := hb2.size; (try simp at z2); have x0 : w.heap.size < w2.heap.size := (by omega); have m0 : w.heap.size ≤ w2.heap.size := (by omega); have m1 : w.heap.size ≤ w2.heap.size + 1 := (by omega); have m2 : w.heap.size < w2.heap.size + 2 := (by omega); have m3 : w.heap.size < w2.heap.size + 1 + 1 := (by omega); have m4 : w.heap.size < w2.heap.size + 1 := (by omega); have x1 : w.heap.size + 1 < w2.heap.size := (by omega); (try (by_cases x2 : w.heap.size + 1 + 1 < w2.heap.size; rotate_left; (exfalso; omega))); (try (by_cases x3 : w.heap.size + 1 + 1 + 1 < w2.heap.size; rotate_left; (exfalso; omega))); (try (by_cases x4 : w1.heap.size < w2.heap.size; rotate_left; (exfalso; omega))); (try (by_cases x5 : w1.heap.size + 1 < w2.heap.size; rotate_left; (exfalso; omega))); have HD := Lib.hid huc; clear huc c2; (have B2 : Below w.heap.size w w2 := (by first | exact below_step B1 hb2 | exact below_step (more1 B1 _) hb2 | exact below_step (more2 B1 _ _) hb2))))
    all_goals (go_wp2_with fail; go_meet)
    all_goals
      refine ⟨v, u, _, _, rfl, rfl, ⟨hvf, HC.out⟩, ⟨huf, HD.out⟩, ?_, ?_, ⟨?_, ?_, ?_, ?_⟩, ⟨?_, ?_, ?_, ?_⟩, ?_⟩
      · clear hc1 hf1 hc2 hf2; (simp; try omega)
      · clear hc1 hf1 hc2 hf2; (simp; try omega)
      iterate 8 (· (first | (go_simp; done) | (go_simp; exact World.cell?_setCell_same' _ _ _ (by go_simp))))
      · clear hc1 hf1 hc2 hf2
        repeat (first | (with_reducible refine more1 ?_ _) | (with_reducible refine Below.setCell ?_ (by (simp; try omega)) _))
        with_reducible exact B2
  case rest =>
    obtain ⟨v, u, p, q, rfl, rfl, hv, hu, hp, hq, av, au, hbc⟩ := hcut
    have e2 := chk2_ok v u hv hu
    have e2' := chk2_ok u v hu hv
    have cA := fun w => compare_any v u w hv.fits hu.fits
    have cB := fun w => compare_any u v w hu.fits hv.fits
    have r1 : compareR v u = ordV v u := by unfold compareR; rw [if_pos e2]
    have r2 : compareR u v = - ordV v u := by unfold compareR; rw [if_pos e2']; exact ordV_anti v u
    rw [r1, e2] at cA
    rw [r2, e2'] at cB
    have HZ := Lib.hid (ordV_zero v u hv.fits hu.fits hv.ok hu.ok)
    have HR := Lib.hid (ordV_range v u)
    generalize ordV v u = O at cA cB HZ HR
    have hTc := tabs_below hT hbc
    clear r1 r2 e2 e2' hv hu hT c1 c2
    have HP := Lib.hid hp
    have HQ := Lib.hid hq
    have HA := Lib.hid av
    have HU := Lib.hid au
    obtain ⟨v0, v1, v2, v3⟩ := av
    obtain ⟨u0, u1, u2, u3⟩ := au
    clear hp hq
    go_wp2_with fail
    refine (cA _ hTc).mono ?_
    rintro e w1 ⟨rfl, hb⟩
    have hT1 := tabs_below hTc hb
    clear cA hTc v0 v1 v2 v3 u0 u1 u2 u3
    have HA1 := Lib.hid (at_kept HA.out HP.out hb)
    have HU1 := Lib.hid (at_kept HU.out HQ.out hb)
    have HP1 := Lib.hid (Nat.lt_of_lt_of_le HP.out hb.size)
    have HQ1 := Lib.hid (Nat.lt_of_lt_of_le HQ.out hb.size)
    have HB1 := Lib.hid (below_step hbc hb)
    clear HA HU HP HQ hbc hb
    obtain ⟨v0, v1, v2, v3⟩ := HA1.out
    obtain ⟨u0, u1, u2, u3⟩ := HU1.out
    go_wp2_with fail
    refine (cB _ hT1).mono ?_
    rintro e w2 ⟨rfl, hb⟩
    have hT2 := tabs_below hT1 hb
    clear cB hT1 v0 v1 v2 v3 u0 u1 u2 u3
    have HA2 := Lib.hid (at_kept HA1.out HP1.out hb)
    have HU2 := Lib.hid (at_kept HU1.out HQ1.out hb)
    have HP2 := Lib.hid (Nat.lt_of_lt_of_le HP1.out hb.size)
    have HQ2 := Lib.hid (Nat.lt_of_lt_of_le HQ1.out hb.size)
    have HB2 := Lib.hid (below_step HB1.out hb)
    clear HA1 HU1 HP1 HQ1 HB1 hb
    go_wp2_with fail
    refine (compare_nb _ hT2).mono ?_
    rintro e w3 ⟨rfl, hb⟩
    obtain ⟨v0, v1, v2, v3⟩ := at_kept HA2.out HP2.out hb
    obtain ⟨u0, u1, u2, u3⟩ := at_kept HU2.out HQ2.out hb
    have HB := Lib.hid (below_step HB2.out hb)
    clear hT2 HA2 HU2 HP2 HQ2 HB2 hb
    have HN : Hid (O ≠ 0 → v ≠ u) := Lib.hid (fun h e => h (HZ.out.2 e))
    rcases HR.out with h | h | h
    · subst h
      rcases ne_cases v u (HN.out (by decide)) with h1 | ⟨h1, h2⟩ | ⟨h1, h2, h3⟩ | ⟨h1, h2, h3, h4⟩
      all_goals
        clear HZ HR HN
        go_wp2
        go_ret
        exact ⟨rfl, HB.out⟩
    · subst h
      have e := HZ.out.1 rfl
      subst e
      clear HZ HR HN
      go_wp2
      go_ret
      exact ⟨rfl, HB.out⟩
    · subst h
      rcases ne_cases v u (HN.out (by decide)) with h1 | ⟨h1, h2⟩ | ⟨h1, h2, h3⟩ | ⟨h1, h2, h3, h4⟩
      all_goals
        clear HZ HR HN
        go_wp2
        go_ret
        exact ⟨rfl, HB.out⟩

theorem orderTurns_walk (ka a b : Int) (s : ByteArray) (kc c d : Int) (t : ByteArray) (wka : (Lit.int .i64 ka).wf = true) (wa : (Lit.int .i64 a).wf = true) (wb : (Lit.int .i64 b).wf = true) (hs : s.size ≤ 9223372036854775807) (wkc : (Lit.int .i64 kc).wf = true) (wc : (Lit.int .i64 c).wf = true) (wd : (Lit.int .i64 d).wf = true) (ht : t.size ≤ 9223372036854775807) (w : World) (hT : Tabs w) :
    Calls Tryd.prog 7 #[.agg #[.int .i64 ka, .int .i64 a, .int .i64 b, .string s], .agg #[.int .i64 kc, .int .i64 c, .int .i64 d, .string t]] w fun e w' => e = .returned (.bool true) ∧ Below w.heap.size w w' :=
  orderTurns_bounds ka a b s kc c d t (bounds_i64 wka).1 (bounds_i64 wka).2 (bounds_i64 wa).1 (bounds_i64 wa).2 (bounds_i64 wkc).1 (bounds_i64 wkc).2 (bounds_i64 wc).1 (bounds_i64 wc).2 w hT
end Go.Proofs.YtnoloacfelnkbaaDoor
