/-
  THE WALK of the law 'chirographkeep.JustOne': for every number and two raw things the law returns true.
  CONDITIONS: package unicode/utf8's two tables hold what their initialisers lay ('Tabs').
-/
import Derived.Test.YtnoloacfelnkbaaDoorLawC
namespace Go.Proofs.YtnoloacfelnkbaaDoor
open Go.RowKit
set_option linter.unusedVariables false

/-- Two values of one kind in two blocks. -/
def TwoK (K : Int) (w : World) (x y : Value) (wx : World) : Prop := ∃ (v u : V) (p q : Nat), x = .pointer (some ⟨p, 0, none⟩) ∧ y = .pointer (some ⟨q, 0, none⟩) ∧ Ok v ∧ Ok u ∧ v.k = K ∧ u.k = K ∧ p < wx.heap.size ∧ q < wx.heap.size ∧ At wx p v ∧ At wx q u ∧ Below w.heap.size w wx

theorem equal_null (v : V) (hv : Ok v) (w : World) (hT : Tabs w) :
    Calls Tryd.prog 15 #[.agg #[.int .i64 v.k, .int .i64 v.i, .int .u64 v.b, .string v.s], .agg #[.int .i64 0, .int .i64 0, .int .u64 0, .string { data := #[] }]] w fun e w' => e = .returned (.tuple #[.int .i64 1, .int .i64 0]) ∧ Below w.heap.size w w' := by
  have f0 : (V.mk 0 0 0 { data := #[] }).Fits := fits4 0 0 0 _ (by decide) (by decide) (by decide) (by decide) (by decide) (by decide) (by decide)
  have e := chk2_ok v ⟨0, 0, 0, { data := #[] }⟩ hv ⟨f0, chk_null⟩
  have h := equal_any v ⟨0, 0, 0, { data := #[] }⟩ w hv.fits f0 hT
  unfold askT askE at h
  rw [if_pos e, if_pos e, if_pos (Or.inr rfl), if_pos (Or.inr rfl)] at h
  exact h
theorem ask_same (v u : V) (hv : Ok v) (hu : Ok u) (K : Int) (h1 : v.k = K) (h2 : u.k = K) (h0 : 1 ≤ K) (p : Bool) : askT v u p = (if p then 2 else 0) ∧ askE v u = 0 := by
  have e := chk2_ok v u hv hu
  have n : ¬ (v.k = 0 ∨ u.k = 0) := by omega
  have s : v.k = u.k := by omega
  unfold askT askE
  rw [if_pos e, if_pos e, if_neg n, if_neg n, if_pos s, if_pos s]
  exact ⟨rfl, rfl⟩

set_option maxHeartbeats 1600000 in
theorem justOne_bounds (kind ka a b : Int) (s : ByteArray) (kc c d : Int) (t : ByteArray) (hi : -9223372036854775808 ≤ kind) (hi1 : kind ≤ 9223372036854775807) (ha : -9223372036854775808 ≤ a) (ha1 : a ≤ 9223372036854775807) (gc : -9223372036854775808 ≤ c) (gc1 : c ≤ 9223372036854775807) (w : World) (hT : Tabs w) :
    Calls Tryd.prog 10 #[.int .i64 kind, .agg #[.int .i64 ka, .int .i64 a, .int .i64 b, .string s], .agg #[.int .i64 kc, .int .i64 c, .int .i64 d, .string t]] w fun e w' => e = .returned (.bool true) ∧ Below w.heap.size w w' := by
  have cP := fun w => picked_any kind 4 w (by decide) (by decide) hi hi1
  have h4 : 0 ≤ kind % 4 ∧ kind % 4 ≤ 3 := by omega
  generalize kind % 4 = r at cP h4
  obtain ⟨r0, r3⟩ := h4
  have c1 := fun w => valOf_any (1 + r) ka a b s w (by omega) (by omega) ha ha1
  have c2 := fun w => valOf_any (1 + r) kc c d t w (by omega) (by omega) gc gc1
  clear hi hi1 ha ha1 gc gc1
  go_enter Tryd.func10, Tryd.ntmps10
  go_upto_region 2 with (go_at_call 19; refine (cP _).mono ?_; rintro e w' ⟨rfl, rfl⟩)
  go_cut [8, 9] (fun x y wx => TwoK (1 + r) w x y wx)
  case first =>
    go_region_held3 (fun w' => w'.cell? ⟨w.heap.size, 0, none⟩ = some (.int .i64 ka) ∧ w'.cell? ⟨w.heap.size, 1, none⟩ = some (.int .i64 a) ∧ w'.cell? ⟨w.heap.size, 2, none⟩ = some (.int .i64 b) ∧ w'.cell? ⟨w.heap.size, 3, none⟩ = some (.string s) ∧ w'.cell? ⟨w.heap.size + 1, 0, none⟩ = some (.int .i64 kc) ∧ w'.cell? ⟨w.heap.size + 1, 1, none⟩ = some (.int .i64 c) ∧ w'.cell? ⟨w.heap.size + 1, 2, none⟩ = some (.int .i64 d) ∧ w'.cell? ⟨w.heap.size + 1, 3, none⟩ = some (.string t)) (first | (go_keep; done) | ((try dsimp only); (repeat' apply And.intro) <;> (first | (go_simp; done) | (go_keep; done)))) (first
      | (go_at_call_of 21 (Value.agg #[.int .i64 ka, .int .i64 a, .int .i64 b, .string s]); refine (c1 _).mono ?_; rintro e w1 ⟨v, hvk, hvf, hvc, rfl, hb1⟩; have HKV := Lib.hid hvk; clear hvk; obtain ⟨hc1, hf1⟩ := bcell hb1; have z1 := hb1.size; (try simp at z1); have y0 : w.heap.size < w1.heap.size := (by omega); have l0 : w.heap.size ≤ w1.heap.size := (by omega); have l1 : w.heap.size ≤ w1.heap.size + 1 := (by omega); have l2 : w.heap.size < w1.heap.size + 2 := (by omega); have l3 : w.heap.size < w1.heap.size + 1 + 1 := (by omega); have l4 : w.heap.size < w1.heap.size + 1 := (by omega); have y1 : w.heap.size + 1 < w1.heap.size := (by omega); (try (by_cases y2 : w.heap.size + 1 + 1 < w1.heap.size; rotate_left; (exfalso; omega))); (try (by_cases y3 : w.heap.size + 1 + 1 + 1 < w1.heap.size; rotate_left; (exfalso; omega))); have HC := Lib.hid hvc; clear hvc c1; (have B1 : Below w.heap.size w w1 := (by first | exact below_step (fresh2 _ _ _) hb1 | exact below_step (fresh3 _ _ _ _) hb1 | exact below_step (fresh4 _ _ _ _ _) hb1)))
      | (go_at_call_of 21 (Value.agg #[.int .i64 kc, .int .i64 c, .int .i64 d, .string t]); refine (c2 _).mono ?_; rintro e w2 ⟨u, huk, huf, huc, rfl, hb2⟩; have HKU := Lib.hid huk; clear huk; obtain ⟨hc2, hf2⟩ := bcell hb2; have z2 := hb2.size; (try simp at z2); have x0 : w.heap.size < w2.heap.size := (by omega); have m0 : w.heap.size ≤ w2.heap.size := (by omega); have m1 : w.heap.size ≤ w2.heap.size + 1 := (by omega); have m2 : w.heap.size < w2.heap.size + 2 := (by omega); have m3 : w.heap.size < w2.heap.size + 1 + 1 := (by omega); have m4 : w.heap.size < w2.heap.size + 1 := (by omega); have x1 : w.heap.size + 1 < w2.heap.size := (by omega); (try (by_cases x2 : w.heap.size + 1 + 1 < w2.heap.size; rotate_left; (exfalso; omega))); (try (by_cases x3 : w.heap.size + 1 + 1 + 1 < w2.heap.size; rotate_left; (exfalso; omega))); (try (by_cases x4 : w1.heap.size < w2.heap.size; rotate_left; (exfalso; omega))); (try (by_cases x5 : w1.heap.size + 1 < w2.heap.size; rotate_left; (exfalso; omega))); have HD := Lib.hid huc; clear huc c2; (have B2 : Below w.heap.size w w2 := (by first | exact below_step B1 hb2 | exact below_step (more1 B1 _) hb2 | exact below_step (more2 B1 _ _) hb2))))
    all_goals (go_wp2_with fail; go_meet)
    all_goals
      refine ⟨v, u, _, _, rfl, rfl, ⟨hvf, HC.out⟩, ⟨huf, HD.out⟩, HKV.out, HKU.out, ?_, ?_, ⟨?_, ?_, ?_, ?_⟩, ⟨?_, ?_, ?_, ?_⟩, ?_⟩
      · clear hc1 hf1 hc2 hf2; (simp; try omega)
      · clear hc1 hf1 hc2 hf2; (simp; try omega)
      iterate 8 (· (first | (go_simp; done) | (go_simp; exact World.cell?_setCell_same' _ _ _ (by go_simp))))
      · clear hc1 hf1 hc2 hf2
        repeat (first | (with_reducible refine more1 ?_ _) | (with_reducible refine Below.setCell ?_ (by (simp; try omega)) _))
        with_reducible exact B2
  case rest =>
    obtain ⟨v, u, p, q, rfl, rfl, hv, hu, hvk, huk, hp, hq, av, au, hbc⟩ := hcut
    have cA := fun w => less_any v u w hv.fits hu.fits
    have cB := fun w => equal_any v u w hv.fits hu.fits
    have cC := fun w => less_any u v w hu.fits hv.fits
    have cN := fun w => equal_null v hv w
    have a1 := fun p => ask_same v u hv hu (1 + r) hvk huk (by omega) p
    have a2 := fun p => ask_same u v hu hv (1 + r) huk hvk (by omega) p
    rw [(a1 _).1, (a1 false).2] at cA
    rw [(a1 _).1, (a1 false).2] at cB
    rw [(a2 _).1, (a2 false).2, ordV_anti v u] at cC
    have hR := ordV_range v u
    generalize ordV v u = O at cA cB cC hR
    have hTT : ∃ T1 T2 T3 : Int, (if decide (O < 0) = true then (2 : Int) else 0) = T1 ∧ (if (O == 0) = true then (2 : Int) else 0) = T2 ∧ (if decide (-O < 0) = true then (2 : Int) else 0) = T3 ∧ ((T1 = 2 ∧ T2 = 0 ∧ T3 = 0) ∨ (T1 = 0 ∧ T2 = 2 ∧ T3 = 0) ∨ (T1 = 0 ∧ T2 = 0 ∧ T3 = 2)) := by
      refine ⟨_, _, _, rfl, rfl, rfl, ?_⟩
      rcases hR with h | h | h <;> subst h <;> decide
    obtain ⟨T1, T2, T3, t1, t2, t3, hT3⟩ := hTT
    rw [t1] at cA
    rw [t2] at cB
    rw [t3] at cC
    have HR := Lib.hid hT3
    have hTc := tabs_below hT hbc
    clear a1 a2 hR t1 t2 t3 hT3 hv hu hvk huk hT c1 c2 cP
    have HP := Lib.hid hp
    have HQ := Lib.hid hq
    have HA := Lib.hid av
    have HU := Lib.hid au
    obtain ⟨v0, v1, v2, v3⟩ := av
    obtain ⟨u0, u1, u2, u3⟩ := au
    clear hp hq
    go_wp2_with fail
    refine (cA _ hTc).mono ?_
    rintro e w1 ⟨rfl, hb⟩
    have hT1 := tabs_below hTc hb
    clear cA hTc v0 v1 v2 v3 u0 u1 u2 u3
    have HA1 := Lib.hid (at_kept HA.out HP.out hb)
    have HU1 := Lib.hid (at_kept HU.out HQ.out hb)
    have HP1 := Lib.hid (Nat.lt_of_lt_of_le HP.out hb.size)
    have HQ1 := Lib.hid (Nat.lt_of_lt_of_le HQ.out hb.size)
    have HB1 := Lib.hid (below_step hbc hb)
    clear HA HU HP HQ hbc hb
    obtain ⟨v0, v1, v2, v3⟩ := HA1.out
    obtain ⟨u0, u1, u2, u3⟩ := HU1.out
    go_wp2_with fail
    refine (cB _ hT1).mono ?_
    rintro e w2 ⟨rfl, hb⟩
    have hT2 := tabs_below hT1 hb
    clear cB hT1 v0 v1 v2 v3 u0 u1 u2 u3
    have HA2 := Lib.hid (at_kept HA1.out HP1.out hb)
    have HU2 := Lib.hid (at_kept HU1.out HQ1.out hb)
    have HP2 := Lib.hid (Nat.lt_of_lt_of_le HP1.out hb.size)
    have HQ2 := Lib.hid (Nat.lt_of_lt_of_le HQ1.out hb.size)
    have HB2 := Lib.hid (below_step HB1.out hb)
    clear HA1 HU1 HP1 HQ1 HB1 hb
    obtain ⟨v0, v1, v2, v3⟩ := HA2.out
    obtain ⟨u0, u1, u2, u3⟩ := HU2.out
    go_wp2_with fail
    refine (cC _ hT2).mono ?_
    rintro e w3 ⟨rfl, hb⟩
    have hT3 := tabs_below hT2 hb
    clear cC hT2 v0 v1 v2 v3 u0 u1 u2 u3
    obtain ⟨v0, v1, v2, v3⟩ := at_kept HA2.out HP2.out hb
    have HB3 := Lib.hid (below_step HB2.out hb)
    clear HA2 HU2 HP2 HQ2 HB2 hb
    go_wp2_with fail
    refine (cN _ hT3).mono ?_
    rintro e w4 ⟨rfl, hb⟩
    have HB := Lib.hid (below_step HB3.out hb)
    clear cN hT3 v0 v1 v2 v3 HB3 hb
    rcases HR.out with ⟨rfl, rfl, rfl⟩ | ⟨rfl, rfl, rfl⟩ | ⟨rfl, rfl, rfl⟩
    all_goals
      clear HR
      go_wp2
      go_ret
      exact ⟨rfl, HB.out⟩

theorem justOne_walk (kind ka a b : Int) (s : ByteArray) (kc c d : Int) (t : ByteArray) (wkind : (Lit.int .i64 kind).wf = true) (wka : (Lit.int .i64 ka).wf = true) (wa : (Lit.int .i64 a).wf = true) (wb : (Lit.int .i64 b).wf = true) (hs : s.size ≤ 9223372036854775807) (wkc : (Lit.int .i64 kc).wf = true) (wc : (Lit.int .i64 c).wf = true) (wd : (Lit.int .i64 d).wf = true) (ht : t.size ≤ 9223372036854775807) (w : World) (hT : Tabs w) :
    Calls Tryd.prog 10 #[.int .i64 kind, .agg #[.int .i64 ka, .int .i64 a, .int .i64 b, .string s], .agg #[.int .i64 kc, .int .i64 c, .int .i64 d, .string t]] w fun e w' => e = .returned (.bool true) ∧ Below w.heap.size w w' :=
  justOne_bounds kind ka a b s kc c d t (bounds_i64 wkind).1 (bounds_i64 wkind).2 (bounds_i64 wa).1 (bounds_i64 wa).2 (bounds_i64 wc).1 (bounds_i64 wc).2 w hT
end Go.Proofs.YtnoloacfelnkbaaDoor
