/-
  MERGED: EvalF, EvalG, EvalE, EvalH.
  CONDITIONS: each theorem's own hypotheses.
-/
import Derived.Test.YtfedlchncngafaaGreatDoorGEva
import Derived.Shelf.Utf8.RuneCount
import Derived.Test.YtfedlchncngafaaGreatDoorShelfU

/-! CONTRACTS of package eval's two parts: values, valuesOf. CONDITIONS: each theorem's own hypotheses. -/
namespace Go.Proofs.YtfedlchncngafaaGreatDoor
open Go.RowKit
set_option linter.unusedVariables false
set_option maxRecDepth 100000

/-- Two values, or what is wrong, with nulls beside it. -/
structure R2 where
  a : Vl
  b : Vl
  f : Int
def valsE (p q : RE) : R2 := if p.f ≠ 0 then ⟨nulV, nulV, p.f⟩ else if q.f ≠ 0 then ⟨nulV, nulV, q.f⟩ else ⟨p.v, q.v, 0⟩
def vofsE (k : Int) (u : R2) : R2 := if u.f ≠ 0 then ⟨nulV, nulV, u.f⟩ else if (fitE u.a k && fitE u.b k) = true then u else ⟨nulV, nulV, 2⟩
structure OkR2 (u : R2) : Prop where
  a : OkV u.a
  b : OkV u.b
  bad : u.f ≠ 0 → u.a = nulV ∧ u.b = nulV
theorem okR2_vals (p q : RE) (hp : OkR p) (hq : OkR q) : OkR2 (valsE p q) := by
  unfold valsE
  split
  · exact ⟨ok_nul, ok_nul, fun _ => ⟨rfl, rfl⟩⟩
  · split
    · exact ⟨ok_nul, ok_nul, fun _ => ⟨rfl, rfl⟩⟩
    · exact ⟨hp.v, hq.v, fun h => absurd rfl h⟩
theorem okR2_vofs (k : Int) (u : R2) (h : OkR2 u) : OkR2 (vofsE k u) := by
  unfold vofsE
  split
  · exact ⟨ok_nul, ok_nul, fun _ => ⟨rfl, rfl⟩⟩
  · split
    · exact h
    · exact ⟨ok_nul, ok_nul, fun _ => ⟨rfl, rfl⟩⟩
theorem Blk.other4 {W : World} {g g' : Nat} {T : TypeId} {cs : List Value} {a b c d : Value} (h : Blk W g T cs) (hg : g ≠ g') : Blk ((((W.setCell ⟨g', 0, none⟩ a).setCell ⟨g', 1, none⟩ b).setCell ⟨g', 2, none⟩ c).setCell ⟨g', 3, none⟩ d) g T cs :=
  (((h.other ⟨g', 0, none⟩ a hg).other ⟨g', 1, none⟩ b hg).other ⟨g', 2, none⟩ c hg).other ⟨g', 3, none⟩ d hg
theorem four_new (w : World) (a b c d : Array Value) (A B C D : TypeId) : Blk ((((w.alloc (.cells a A)).alloc (.cells b B)).alloc (.cells c C)).alloc (.cells d D)) w.heap.size A a.toList ∧ Blk ((((w.alloc (.cells a A)).alloc (.cells b B)).alloc (.cells c C)).alloc (.cells d D)) (w.heap.size + 1) B b.toList ∧ Blk ((((w.alloc (.cells a A)).alloc (.cells b B)).alloc (.cells c C)).alloc (.cells d D)) (w.heap.size + 1 + 1) C c.toList ∧ Blk ((((w.alloc (.cells a A)).alloc (.cells b B)).alloc (.cells c C)).alloc (.cells d D)) (w.heap.size + 1 + 1 + 1) D d.toList ∧ Below w.heap.size w ((((w.alloc (.cells a A)).alloc (.cells b B)).alloc (.cells c C)).alloc (.cells d D)) := by
  obtain ⟨h1, h2, h3, h4⟩ := three_new w a b c A B C
  exact ⟨h1.alloc _, h2.alloc _, h3.alloc _, Blk.atNew d D (by simp), h4.alloc h4.size _⟩
set_option maxHeartbeats 16000000 in
theorem values_any (w0 : World) (x y iva ivb : Value) (p q : RE) (hA : Says w0 x y iva p) (hB : Says w0 x y ivb q) (hp : OkR p) (hq : OkR q) (w : World) (hw : Below w0.heap.size w0 w) :
    Calls Tryz.prog 225 #[.agg #[iva, ivb], .agg #[x, y]] w fun e w' => e = .returned (.tuple #[valV (valsE p q).a, valV (valsE p q).b, .int .i64 (valsE p q).f]) ∧ Below w.heap.size w w' := by
  obtain ⟨ty, rv, K, rfl, hn, hm, hc, hC⟩ := hA
  obtain ⟨ty', rv', K', rfl, hn', hm', hc', hC'⟩ := hB
  have hs0 := hw.size
  obtain ⟨z0, z1, z2, z3, hb3⟩ := four_new w #[.iface ty rv, .iface ty' rv'] #[x, y] #[.int .i64 0, .int .i64 0, .int .u64 0, .string ⟨#[]⟩] #[.int .i64 0, .int .i64 0, .int .u64 0, .string ⟨#[]⟩] 154 121 24 24
  generalize hw3 : (((w.alloc (.cells #[.iface ty rv, .iface ty' rv'] 154)).alloc (.cells #[x, y] 121)).alloc (.cells #[.int .i64 0, .int .i64 0, .int .u64 0, .string ⟨#[]⟩] 24)).alloc (.cells #[.int .i64 0, .int .i64 0, .int .u64 0, .string ⟨#[]⟩] 24) = w3 at z0 z1 z2 z3 hb3
  have p0 := z0.cell (j := 0) rfl
  have p00 := z0.cell (j := 1) rfl
  have p1 := z1.cell (j := 0) rfl
  have p2 := z1.cell (j := 1) rfl
  have c1 := hC w3 (below_stepE hw hs0 hb3)
  have c2 := fun W (h : Below w.heap.size w W) => hC' W (below_stepE hw hs0 h)
  have hbad := hp.bad
  have hbad' := hq.bad
  have hR : valsE p q = if p.f ≠ 0 then ⟨nulV, nulV, p.f⟩ else if q.f ≠ 0 then ⟨nulV, nulV, q.f⟩ else ⟨p.v, q.v, 0⟩ := rfl
  generalize valsE p q = R at *
  have HR := Lib.hid hR
  clear hC hC' hw hp hq hR
  obtain ⟨⟨k, i, b, s⟩, f⟩ := p
  obtain ⟨⟨k', i', b', s'⟩, f'⟩ := q
  unfold valV at c1 c2
  simp only at c1 c2 hbad hbad'
  obtain ⟨S, hS⟩ : ∃ S, str s = S := ⟨_, rfl⟩
  obtain ⟨S', hS'⟩ : ∃ S', str s' = S' := ⟨_, rfl⟩
  rw [hS] at c1
  simp only [hS'] at c2
  have HS := Lib.hid hS
  have HS' := Lib.hid hS'
  have HB := Lib.hid hbad
  have HB' := Lib.hid hbad'
  clear hS hS' hbad hbad'
  have hne : w.heap.size + 1 + 1 ≠ w.heap.size + 1 + 1 + 1 := by omega
  have hne' : w.heap.size + 1 + 1 + 1 ≠ w.heap.size + 1 + 1 := by omega
  have hne0 : w.heap.size ≠ w.heap.size + 1 + 1 := by omega
  have hne1 : w.heap.size + 1 ≠ w.heap.size + 1 + 1 := by omega
  have hrr : w.heap.size ≤ w.heap.size + 1 + 1 := by omega
  have hrr' : w.heap.size ≤ w.heap.size + 1 + 1 + 1 := by omega
  go_enter Tryz.func225, Tryz.ntmps225
  go_upto_region 1 with fail
  try rw [hw3]
  clear hw3
  go_wp2_with fail
  refine c1.mono ?_
  rintro e w4 ⟨rfl, hb4⟩
  have hb04 := below_stepE hb3 hb3.size hb4
  have y0 := z0.call hb4
  have y1 := z1.call hb4
  have y2 := z2.call hb4
  have y3 := z3.call hb4
  clear c1 hb4 p0 p00 p1 p2 z0 z1 z2 z3 hb3
  obtain ⟨_, f0, f1, f2, f3⟩ := y2.four
  obtain ⟨⟨q0, q1, q2, q3⟩, _⟩ := y2.four
  have v0 := y0.other4 (a := .int .i64 k) (b := .int .i64 i) (c := .int .u64 b) (d := .string S) hne0
  have v1 := y1.other4 (a := .int .i64 k) (b := .int .i64 i) (c := .int .u64 b) (d := .string S) hne1
  have v2 := y2.set4 (a := .int .i64 k) (b := .int .i64 i) (c := .int .u64 b) (d := .string S)
  have v3 := y3.other4 (a := .int .i64 k) (b := .int .i64 i) (c := .int .u64 b) (d := .string S) hne'
  have hb05 := below_set4 (a := .int .i64 k) (b := .int .i64 i) (c := .int .u64 b) (d := .string S) hb04 hrr
  go_upto_region 2 with fail
  generalize hw5 : (((w4.setCell ⟨w.heap.size + 1 + 1, 0, none⟩ (.int .i64 k)).setCell ⟨w.heap.size + 1 + 1, 1, none⟩ (.int .i64 i)).setCell ⟨w.heap.size + 1 + 1, 2, none⟩ (.int .u64 b)).setCell ⟨w.heap.size + 1 + 1, 3, none⟩ (.string S) = w5 at *
  clear hw5 y0 y1 y2 y3 f0 f1 f2 f3 q0 q1 q2 q3 hb04
  by_cases hf : f = 0
  · subst hf
    have HR2 : Hid (R = if f' ≠ 0 then ⟨nulV, nulV, f'⟩ else ⟨⟨k, i, b, s⟩, ⟨k', i', b', s'⟩, 0⟩) := by have := HR.out; rw [if_neg (by decide)] at this; exact this
    have p0 := v0.cell (j := 0) rfl
    have p00 := v0.cell (j := 1) rfl
    have p1 := v1.cell (j := 0) rfl
    have p2 := v1.cell (j := 1) rfl
    have d2 := c2 w5 hb05
    clear HR HB c2
    go_wp2_with fail
    refine d2.mono ?_
    rintro e w6 ⟨rfl, hb6⟩
    have hb06 := below_stepE hb05 hb05.size hb6
    have y2 := v2.call hb6
    have y3 := v3.call hb6
    clear d2 hb6 p0 p00 p1 p2 v0 v1 v2 v3 hb05
    obtain ⟨_, f0, f1, f2, f3⟩ := y3.four
    obtain ⟨⟨q0, q1, q2, q3⟩, _⟩ := y3.four
    have v2 := y2.other4 (a := .int .i64 k') (b := .int .i64 i') (c := .int .u64 b') (d := .string S') hne
    have v3 := y3.set4 (a := .int .i64 k') (b := .int .i64 i') (c := .int .u64 b') (d := .string S')
    have hb07 := below_set4 (a := .int .i64 k') (b := .int .i64 i') (c := .int .u64 b') (d := .string S') hb06 hrr'
    go_upto_region 5 with fail
    generalize hw7 : (((w6.setCell ⟨w.heap.size + 1 + 1 + 1, 0, none⟩ (.int .i64 k')).setCell ⟨w.heap.size + 1 + 1 + 1, 1, none⟩ (.int .i64 i')).setCell ⟨w.heap.size + 1 + 1 + 1, 2, none⟩ (.int .u64 b')).setCell ⟨w.heap.size + 1 + 1 + 1, 3, none⟩ (.string S') = w7 at *
    clear hw7 y2 y3 f0 f1 f2 f3 q0 q1 q2 q3 hb06
    obtain ⟨⟨p0, p1, p2, p3⟩, f0, f1, f2, f3⟩ := v2.four
    obtain ⟨⟨q0, q1, q2, q3⟩, g0, g1, g2, g3⟩ := v3.four
    by_cases hf' : f' = 0
    · subst hf'
      have HR3 : Hid (R = ⟨⟨k, i, b, s⟩, ⟨k', i', b', s'⟩, 0⟩) := by have := HR2.out; rw [if_neg (by decide)] at this; exact this
      clear HR2 HB'
      go_upto_region 7 with fail
      go_region
      all_goals go_wp2_with fail
      all_goals exact bodyPost_ret (results_val2 rfl _ _ (w.heap.size + 1 + 1) (w.heap.size + 1 + 1 + 1) _ _ _ _ _ _ _ _ rfl rfl (((v2.set4).other4 hne).drew) (((v3.other4 hne').set4).drew)) rfl ⟨by rw [HR3.out, ← HS.out, ← HS'.out]; rfl, (below_set4 (below_set4 hb07 hrr) hrr').drew⟩
    · have z1 : (f' != 0) = true := by simpa using hf'
      have HR3 : Hid (R = ⟨nulV, nulV, f'⟩) := by have := HR2.out; rw [if_pos hf'] at this; exact this
      clear HR2 HB'
      go_wp2_with fail
      exact bodyPost_ret (results_val2 rfl _ _ (w.heap.size + 1 + 1) (w.heap.size + 1 + 1 + 1) _ _ _ _ _ _ _ _ rfl rfl ((v2.set4).other4 hne) ((v3.other4 hne').set4)) rfl ⟨by rw [HR3.out]; rfl, below_set4 (below_set4 hb07 hrr) hrr'⟩
  · have z1 : (f != 0) = true := by simpa using hf
    have HR3 : Hid (R = ⟨nulV, nulV, f⟩) := by have := HR.out; rw [if_pos hf] at this; exact this
    obtain ⟨⟨p0, p1, p2, p3⟩, f0, f1, f2, f3⟩ := v2.four
    obtain ⟨⟨q0, q1, q2, q3⟩, g0, g1, g2, g3⟩ := v3.four
    clear HR HB HB' c2
    go_wp2_with fail
    exact bodyPost_ret (results_val2 rfl _ _ (w.heap.size + 1 + 1) (w.heap.size + 1 + 1 + 1) _ _ _ _ _ _ _ _ rfl rfl ((v2.set4).other4 hne) ((v3.other4 hne').set4)) rfl ⟨by rw [HR3.out]; rfl, below_set4 (below_set4 hb05 hrr) hrr'⟩
end Go.Proofs.YtfedlchncngafaaGreatDoor

/-! CONTRACT of package eval's valuesOf. CONDITIONS: each theorem's own hypotheses. -/
namespace Go.Proofs.YtfedlchncngafaaGreatDoor
open Go.RowKit
set_option linter.unusedVariables false
set_option maxRecDepth 100000

set_option maxHeartbeats 16000000 in
theorem valuesOf_any (w0 : World) (x y iva ivb : Value) (p q : RE) (kk : Int) (hA : Says w0 x y iva p) (hB : Says w0 x y ivb q) (hp : OkR p) (hq : OkR q) (w : World) (hw : Below w0.heap.size w0 w) :
    Calls Tryz.prog 223 #[.agg #[iva, ivb], .int .i64 kk, .agg #[x, y]] w fun e w' => e = .returned (.tuple #[valV (vofsE kk (valsE p q)).a, valV (vofsE kk (valsE p q)).b, .int .i64 (vofsE kk (valsE p q)).f]) ∧ Below w.heap.size w w' := by
  have hs0 := hw.size
  have cV := fun W (h : Below w.heap.size w W) => values_any w0 x y iva ivb p q hA hB hp hq W (below_stepE hw hs0 h)
  have hu := okR2_vals p q hp hq
  generalize valsE p q = u at *
  clear hA hB hp hq hw hs0
  obtain ⟨z0, z1, z2, z3, hb3⟩ := four_new w #[iva, ivb] #[x, y] #[.int .i64 0, .int .i64 0, .int .u64 0, .string ⟨#[]⟩] #[.int .i64 0, .int .i64 0, .int .u64 0, .string ⟨#[]⟩] 154 121 24 24
  generalize hw3 : (((w.alloc (.cells #[iva, ivb] 154)).alloc (.cells #[x, y] 121)).alloc (.cells #[.int .i64 0, .int .i64 0, .int .u64 0, .string ⟨#[]⟩] 24)).alloc (.cells #[.int .i64 0, .int .i64 0, .int .u64 0, .string ⟨#[]⟩] 24) = w3 at z0 z1 z2 z3 hb3
  have p0 := z0.cell (j := 0) rfl
  have p00 := z0.cell (j := 1) rfl
  have p1 := z1.cell (j := 0) rfl
  have p2 := z1.cell (j := 1) rfl
  have c1 := cV w3 hb3
  clear cV
  have hbad := hu.bad
  have hR : vofsE kk u = if u.f ≠ 0 then ⟨nulV, nulV, u.f⟩ else if (fitE u.a kk && fitE u.b kk) = true then u else ⟨nulV, nulV, 2⟩ := rfl
  have cF1 := fun W => efits_any u.a kk W
  have cF2 := fun W => efits_any u.b kk W
  generalize vofsE kk u = R at *
  generalize fitE u.a kk = FA at *
  generalize fitE u.b kk = FB at *
  have HR := Lib.hid hR
  clear hR hu
  obtain ⟨⟨k, i, b, s⟩, ⟨k', i', b', s'⟩, f⟩ := u
  unfold valV at c1 cF1 cF2
  simp only at c1 cF1 cF2 hbad
  obtain ⟨S, hS⟩ : ∃ S, str s = S := ⟨_, rfl⟩
  obtain ⟨S', hS'⟩ : ∃ S', str s' = S' := ⟨_, rfl⟩
  simp only [hS, hS'] at c1 cF1 cF2
  have HS := Lib.hid hS
  have HS' := Lib.hid hS'
  have HB := Lib.hid hbad
  clear hS hS' hbad
  have hne : w.heap.size + 1 + 1 ≠ w.heap.size + 1 + 1 + 1 := by omega
  have hne' : w.heap.size + 1 + 1 + 1 ≠ w.heap.size + 1 + 1 := by omega
  have hrr : w.heap.size ≤ w.heap.size + 1 + 1 := by omega
  have hrr' : w.heap.size ≤ w.heap.size + 1 + 1 + 1 := by omega
  go_enter Tryz.func223, Tryz.ntmps223
  go_upto_region 1 with fail
  try rw [hw3]
  clear hw3
  go_wp2_with fail
  refine c1.mono ?_
  rintro e w4 ⟨rfl, hb4⟩
  have hb04 := below_stepE hb3 hb3.size hb4
  have y2 := z2.call hb4
  have y3 := z3.call hb4
  clear c1 hb4 p0 p00 p1 p2 z0 z1 z2 z3 hb3
  obtain ⟨⟨q0, q1, q2, q3⟩, f0, f1, f2, f3⟩ := y2.four
  obtain ⟨⟨r0, r1, r2, r3⟩, g0, g1, g2, g3⟩ := y3.four
  have v2 := (y2.set4 (a := .int .i64 k) (b := .int .i64 i) (c := .int .u64 b) (d := .string S)).other4 (a := .int .i64 k') (b := .int .i64 i') (c := .int .u64 b') (d := .string S') hne
  have v3 := (y3.other4 (a := .int .i64 k) (b := .int .i64 i) (c := .int .u64 b) (d := .string S) hne').set4 (a := .int .i64 k') (b := .int .i64 i') (c := .int .u64 b') (d := .string S')
  have hb05 := below_set4 (a := .int .i64 k') (b := .int .i64 i') (c := .int .u64 b') (d := .string S') (below_set4 (a := .int .i64 k) (b := .int .i64 i) (c := .int .u64 b) (d := .string S) hb04 hrr) hrr'
  go_upto_region 2 with fail
  generalize hw5 : ((((((((w4.setCell ⟨w.heap.size + 1 + 1, 0, none⟩ (.int .i64 k)).setCell ⟨w.heap.size + 1 + 1, 1, none⟩ (.int .i64 i)).setCell ⟨w.heap.size + 1 + 1, 2, none⟩ (.int .u64 b)).setCell ⟨w.heap.size + 1 + 1, 3, none⟩ (.string S)).setCell ⟨w.heap.size + 1 + 1 + 1, 0, none⟩ (.int .i64 k')).setCell ⟨w.heap.size + 1 + 1 + 1, 1, none⟩ (.int .i64 i')).setCell ⟨w.heap.size + 1 + 1 + 1, 2, none⟩ (.int .u64 b')).setCell ⟨w.heap.size + 1 + 1 + 1, 3, none⟩ (.string S')) = w5 at *
  clear hw5 y2 y3 f0 f1 f2 f3 q0 q1 q2 q3 r0 r1 r2 r3 g0 g1 g2 g3 hb04
  by_cases hf : f = 0
  · subst hf
    obtain ⟨⟨p0, p1, p2, p3⟩, f0, f1, f2, f3⟩ := v2.four
    go_wp2_with fail
    refine (cF1 _).mono ?_
    rintro e w6 ⟨rfl, hb6⟩
    have hb06 := below_stepE hb05 hb05.size hb6
    have y2 := v2.call hb6
    have y3 := v3.call hb6
    clear cF1 hb6 p0 p1 p2 p3 f0 f1 f2 f3 v2 v3 hb05
    cases FA
    · have HR3 : Hid (R = ⟨nulV, nulV, 2⟩) := by have := HR.out; rw [if_neg (by decide), if_neg (by simp)] at this; exact this
      clear HR HB cF2
      obtain ⟨⟨p0, p1, p2, p3⟩, f0, f1, f2, f3⟩ := y2.four
      obtain ⟨⟨q0, q1, q2, q3⟩, g0, g1, g2, g3⟩ := y3.four
      go_wp2_with fail
      exact bodyPost_ret (results_val2 rfl _ _ (w.heap.size + 1 + 1) (w.heap.size + 1 + 1 + 1) _ _ _ _ _ _ _ _ rfl rfl ((y2.set4).other4 hne) ((y3.other4 hne').set4)) rfl ⟨by rw [HR3.out]; rfl, below_set4 (below_set4 hb06 hrr) hrr'⟩
    · obtain ⟨⟨q0, q1, q2, q3⟩, g0, g1, g2, g3⟩ := y3.four
      go_wp2_with fail
      refine (cF2 _).mono ?_
      rintro e w7 ⟨rfl, hb7⟩
      have hb07 := below_stepE hb06 hb06.size hb7
      have v2 := y2.call hb7
      have v3 := y3.call hb7
      clear cF2 hb7 q0 q1 q2 q3 g0 g1 g2 g3 y2 y3 hb06
      obtain ⟨⟨p0, p1, p2, p3⟩, f0, f1, f2, f3⟩ := v2.four
      obtain ⟨⟨q0, q1, q2, q3⟩, g0, g1, g2, g3⟩ := v3.four
      cases FB
      · have HR3 : Hid (R = ⟨nulV, nulV, 2⟩) := by have := HR.out; rw [if_neg (by decide), if_neg (by simp)] at this; exact this
        clear HR HB
        go_wp2_with fail
        exact bodyPost_ret (results_val2 rfl _ _ (w.heap.size + 1 + 1) (w.heap.size + 1 + 1 + 1) _ _ _ _ _ _ _ _ rfl rfl ((v2.set4).other4 hne) ((v3.other4 hne').set4)) rfl ⟨by rw [HR3.out]; rfl, below_set4 (below_set4 hb07 hrr) hrr'⟩
      · have HR3 : Hid (R = ⟨⟨k, i, b, s⟩, ⟨k', i', b', s'⟩, 0⟩) := by have := HR.out; rw [if_neg (by decide), if_pos (by simp)] at this; exact this
        clear HR HB
        go_upto_region 4 with fail
        go_region
        all_goals go_wp2_with fail
        all_goals exact bodyPost_ret (results_val2 rfl _ _ (w.heap.size + 1 + 1) (w.heap.size + 1 + 1 + 1) _ _ _ _ _ _ _ _ rfl rfl (((v2.set4).other4 hne).drew) (((v3.other4 hne').set4).drew)) rfl ⟨by rw [HR3.out, ← HS.out, ← HS'.out]; rfl, (below_set4 (below_set4 hb07 hrr) hrr').drew⟩
  · have z1 : (f == 0) = false := by simpa using hf
    have HR3 : Hid (R = ⟨nulV, nulV, f⟩) := by have := HR.out; rw [if_pos hf] at this; exact this
    obtain ⟨ha, hb⟩ := HB.out hf
    unfold nulV at ha hb
    simp only [Vl.mk.injEq] at ha hb
    obtain ⟨rfl, rfl, rfl, rfl⟩ := ha
    obtain ⟨rfl, rfl, rfl, rfl⟩ := hb
    obtain rfl := HS.out
    obtain rfl := HS'.out
    obtain ⟨⟨p0, p1, p2, p3⟩, f0, f1, f2, f3⟩ := v2.four
    obtain ⟨⟨q0, q1, q2, q3⟩, g0, g1, g2, g3⟩ := v3.four
    clear HR HB cF1 cF2 HS HS' hf
    go_upto_region 4 with fail
    go_region
    all_goals go_wp2_with fail
    all_goals exact bodyPost_ret (results_val2 rfl _ _ (w.heap.size + 1 + 1) (w.heap.size + 1 + 1 + 1) _ _ _ _ _ _ _ _ rfl rfl (((v2.set4).other4 hne).drew) (((v3.other4 hne').set4).drew)) rfl ⟨by rw [HR3.out]; rfl, (below_set4 (below_set4 hb05 hrr) hrr').drew⟩
end Go.Proofs.YtfedlchncngafaaGreatDoor

/-! CONTRACTS of package eval's operations on one part. CONDITIONS: each theorem's own hypotheses. -/
namespace Go.Proofs.YtfedlchncngafaaGreatDoor
open Go.RowKit
set_option linter.unusedVariables false
set_option maxRecDepth 100000

theorem okR_vof (k : Int) (r : RE) (h : OkR r) : OkR (vofE k r) := by
  unfold vofE
  split
  · exact okR_bad _ h.f0 h.f1
  · split
    · exact h
    · exact okR_bad 2 (by decide) (by decide)
theorem vof_cases (k : Int) (r : RE) : (r.f ≠ 0 ∧ vofE k r = badE r.f) ∨ (r.f = 0 ∧ fitE r.v k = true ∧ vofE k r = r) ∨ (r.f = 0 ∧ fitE r.v k = false ∧ vofE k r = badE 2) := by
  unfold vofE
  by_cases h : r.f = 0
  · right
    rw [if_neg (by simpa using h)]
    cases hf : fitE r.v k
    · exact .inr ⟨h, rfl, rfl⟩
    · exact .inl ⟨h, rfl, rfl⟩
  · left
    exact ⟨h, by rw [if_pos h]⟩
theorem comb_bad (op : Int) (r : RE) (h : r.f ≠ 0) : combE op [r] = badE r.f := by
  show (if r.f ≠ 0 then badE r.f else op1E op r.v) = _
  rw [if_pos h]
theorem comb_ok (op : Int) (r : RE) (h : r.f = 0) : combE op [r] = op1E op r.v := by
  show (if r.f ≠ 0 then badE r.f else op1E op r.v) = _
  rw [if_neg (by rw [h]; decide)]
theorem comb3 (r : RE) : combE 3 [r] = if (vofE 2 r).f ≠ 0 then badE (vofE 2 r).f else if (vofE 2 r).v.k = 0 then okE nulV else numE (0 - (vofE 2 r).v.i) := by
  rcases vof_cases 2 r with ⟨h, e⟩ | ⟨h, hf, e⟩ | ⟨h, hf, e⟩ <;> rw [e]
  · rw [comb_bad 3 r h]; exact (if_pos h).symm
  · rw [comb_ok 3 r h, if_neg (by rw [h]; decide)]; unfold op1E; rw [if_pos rfl, if_pos hf]
  · rw [comb_ok 3 r h]; unfold op1E; rw [if_pos rfl, if_neg (by rw [hf]; decide)]; rfl
theorem comb4 (r : RE) : combE 4 [r] = if (vofE 1 r).f ≠ 0 then badE (vofE 1 r).f else tolE (2 - trT (vofE 1 r).v) := by
  rcases vof_cases 1 r with ⟨h, e⟩ | ⟨h, hf, e⟩ | ⟨h, hf, e⟩ <;> rw [e]
  · rw [comb_bad 4 r h]; exact (if_pos h).symm
  · rw [comb_ok 4 r h, if_neg (by rw [h]; decide)]; unfold op1E; rw [if_neg (by decide), if_pos rfl, if_pos hf]
  · rw [comb_ok 4 r h]; unfold op1E; rw [if_neg (by decide), if_pos rfl, if_neg (by rw [hf]; decide)]; rfl
theorem comb17 (r : RE) : combE 17 [r] = if r.f ≠ 0 then badE r.f else okE (booV (r.v.k == 0)) := by
  simp only [combE, op1E]
  rfl
theorem comb18 (r : RE) : combE 18 [r] = if (vofE 4 r).f ≠ 0 then badE (vofE 4 r).f else if (vofE 4 r).v.k = 0 then okE nulV else okE (intV (runesL (vofE 4 r).v.s)) := by
  rcases vof_cases 4 r with ⟨h, e⟩ | ⟨h, hf, e⟩ | ⟨h, hf, e⟩ <;> rw [e]
  · rw [comb_bad 18 r h]; exact (if_pos h).symm
  · rw [comb_ok 18 r h, if_neg (by rw [h]; decide)]; unfold op1E; rw [if_neg (by decide), if_neg (by decide), if_neg (by decide), if_pos hf]
  · rw [comb_ok 18 r h]; unfold op1E; rw [if_neg (by decide), if_neg (by decide), if_neg (by decide), if_neg (by rw [hf]; decide)]; rfl
theorem num_same (x : Int) : (if numF x ≠ 0 then nulV else intV (numN x)) = (numE x).v ∧ numF x = (numE x).f := by
  by_cases h : -9223372036854775808 ≤ x ∧ x ≤ 9223372036854775807
  · have e1 : numF x = 0 := if_pos h
    have e2 : numN x = x := if_pos h
    have e3 : numE x = okE (intV x) := if_pos h
    rw [e1, e2, e3]; exact ⟨rfl, rfl⟩
  · have e1 : numF x = 6 := if_neg h
    have e3 : numE x = badE 6 := if_neg h
    rw [e1, e3]; exact ⟨rfl, rfl⟩
theorem below_iterE (w : World) (s : ByteArray) (p : Nat) : Below w.heap.size w (w.iter s p) := (Below.refl _ _).alloc (Nat.le_refl _) _
theorem number_num (x : Int) (w : World) :
    Calls Tryz.prog 209 #[.int .i64 (numN x), .int .i64 (numF x)] w fun e w' => e = .returned (.tuple #[valV (numE x).v, .int .i64 (numE x).f]) ∧ Below w.heap.size w w' := by
  have := number_any (numN x) (numF x) w
  rw [(num_same x).1] at this
  rw [(num_same x).2] at this ⊢
  exact this
set_option maxHeartbeats 8000000 in
theorem neg_any (w0 : World) (x y : Value) (iv : Value) (r : RE) (hS : Says w0 x y iv r) (hr : OkR r) (w : World) (hw : Below w0.heap.size w0 w) :
    Calls Tryz.prog 207 #[.agg #[iv], .agg #[x, y]] w fun e w' => e = .returned (.tuple #[valV (combE 3 [r]).v, .int .i64 (combE 3 [r]).f]) ∧ Below w.heap.size w w' := by
  have hs0 := hw.size
  obtain ⟨z0, z1, z3, hb3⟩ := three_new w #[iv] #[x, y] #[.int .i64 0, .int .i64 0, .int .u64 0, .string ⟨#[]⟩] 190 121 24
  generalize hw3 : ((w.alloc (.cells #[iv] 190)).alloc (.cells #[x, y] 121)).alloc (.cells #[.int .i64 0, .int .i64 0, .int .u64 0, .string ⟨#[]⟩] 24) = w3 at z0 z1 z3 hb3
  have p0 := z0.cell (j := 0) rfl
  have p1 := z1.cell (j := 0) rfl
  have p2 := z1.cell (j := 1) rfl
  have c1 := valueOf_any w0 x y iv r 2 hS hr w3 (below_stepE hw hs0 hb3)
  have hu := okR_vof 2 r hr
  have hcomb := comb3 r
  generalize vofE 2 r = u at *
  generalize hRR : combE 3 [r] = R at *
  have HR := Lib.hid hcomb
  have HU := Lib.hid hu
  clear hcomb hw hS hr z0 z1 hRR
  obtain ⟨⟨k, i, b, s⟩, f⟩ := u
  unfold valV at c1
  simp only at c1
  obtain ⟨S, hS⟩ : ∃ S, str s = S := ⟨_, rfl⟩
  rw [hS] at c1
  have HS := Lib.hid hS
  clear hS hu
  go_enter Tryz.func207, Tryz.ntmps207
  go_upto_region 1 with fail
  try rw [hw3]
  clear hw3
  go_wp2_with fail
  refine c1.mono ?_
  rintro e w4 ⟨rfl, hb4⟩
  have hb04 := below_stepE hb3 hb3.size hb4
  have z4 := z3.call hb4
  clear c1 hb4 p0 p1 p2 z3 hb3
  have z5 : Blk (w4.alloc (.cells #[.int .i64 k, .int .i64 i, .int .u64 b, .string S] 24)) w4.heap.size 24 [.int .i64 k, .int .i64 i, .int .u64 b, .string S] := Blk.new w4 #[.int .i64 k, .int .i64 i, .int .u64 b, .string S] _
  have z6 := z4.alloc (.cells #[.int .i64 k, .int .i64 i, .int .u64 b, .string S] 24)
  have hb05 : Below w.heap.size w (w4.alloc (.cells #[.int .i64 k, .int .i64 i, .int .u64 b, .string S] 24)) := hb04.alloc hb04.size _
  generalize hw5 : w4.alloc (.cells #[.int .i64 k, .int .i64 i, .int .u64 b, .string S] 24) = w5 at z5 z6 hb05
  have hrr : w.heap.size ≤ w.heap.size + 1 + 1 := by omega
  clear hb04 z4
  go_upto_region 2 with fail
  try rw [hw5]
  clear hw5
  generalize w4.heap.size = g at *
  generalize hgr : w.heap.size + 1 + 1 = gr at *
  clear hgr
  by_cases hf : f = 0
  · subst hf
    obtain ⟨⟨p0, p1, p2, p3⟩, _⟩ := z5.four
    obtain ⟨⟨q0, q1, q2, q3⟩, f0, f1, f2, f3⟩ := z6.four
    by_cases hk : k = 0
    · have hk1 : (k == 0) = true := by simp [hk]
      have HR2 : Hid (R = okE nulV) := by have := HR.out; rw [if_neg (by decide), if_pos hk] at this; exact this
      clear HR HU HS hk
      have hfin := fun a b c d => below_set4 (a := a) (b := b) (c := c) (d := d) hb05 hrr
      go_wp2_with fail
      exact bodyPost_ret (results_val rfl _ _ gr _ _ _ _ rfl z6.set4) rfl ⟨by rw [HR2.out]; rfl, hfin _ _ _ _⟩
    · have hk1 : (k == 0) = false := by simpa using hk
      have HR2 : Hid (R = numE (0 - i)) := by have := HR.out; rw [if_neg (by decide), if_neg hk] at this; exact this
      have hin : inI i := ⟨HU.out.v.fit.i0, HU.out.v.fit.i1⟩
      have cN := fun W => enegative_any i W hin
      have cM := fun W => number_num (0 - i) W
      generalize numN (0 - i) = nn at *
      generalize numF (0 - i) = nf at *
      generalize numE (0 - i) = RR at *
      obtain ⟨⟨rk, ri, rb, rs⟩, rf⟩ := RR
      unfold valV at cM
      simp only at cM
      clear HR HU HS hk hin
      go_wp2_with fail
      refine (cN _).mono ?_
      rintro e w7 ⟨rfl, rfl⟩
      clear cN
      go_wp2_with fail
      refine (cM _).mono ?_
      rintro e w6 ⟨rfl, hb6⟩
      clear cM
      have z7 := z6.call hb6
      have hb06 := below_stepE hb05 hb05.size hb6
      clear hb6 hb05 p0 p1 p2 p3 q0 q1 q2 q3 f0 f1 f2 f3 z5 z6
      obtain ⟨⟨q0, q1, q2, q3⟩, f0, f1, f2, f3⟩ := z7.four
      have hfin := fun a b c d => below_set4 (a := a) (b := b) (c := c) (d := d) hb06 hrr
      go_wp2_with fail
      exact bodyPost_ret (results_val rfl _ _ gr _ _ _ _ rfl z7.set4) rfl ⟨by rw [HR2.out]; rfl, hfin _ _ _ _⟩
  · have hf1 : (f != 0) = true := by simpa using hf
    have HR2 : Hid (R = badE f) := by have := HR.out; rw [if_pos hf] at this; exact this
    clear HR HU HS
    obtain ⟨⟨q0, q1, q2, q3⟩, f0, f1, f2, f3⟩ := z6.four
    obtain ⟨⟨p0, p1, p2, p3⟩, _⟩ := z5.four
    have hfin := fun a b c d => below_set4 (a := a) (b := b) (c := c) (d := d) hb05 hrr
    go_wp2_with fail
    exact bodyPost_ret (results_val rfl _ _ gr _ _ _ _ rfl z6.set4) rfl ⟨by rw [HR2.out]; rfl, hfin _ _ _ _⟩
set_option maxHeartbeats 8000000 in
theorem enot_any (w0 : World) (x y : Value) (iv : Value) (r : RE) (hS : Says w0 x y iv r) (hr : OkR r) (w : World) (hw : Below w0.heap.size w0 w) :
    Calls Tryz.prog 213 #[.agg #[iv], .agg #[x, y]] w fun e w' => e = .returned (.tuple #[valV (combE 4 [r]).v, .int .i64 (combE 4 [r]).f]) ∧ Below w.heap.size w w' := by
  have hs0 := hw.size
  obtain ⟨z0, z1, z3, hb3⟩ := three_new w #[iv] #[x, y] #[.int .i64 0, .int .i64 0, .int .u64 0, .string ⟨#[]⟩] 191 121 24
  generalize hw3 : ((w.alloc (.cells #[iv] 191)).alloc (.cells #[x, y] 121)).alloc (.cells #[.int .i64 0, .int .i64 0, .int .u64 0, .string ⟨#[]⟩] 24) = w3 at z0 z1 z3 hb3
  have p0 := z0.cell (j := 0) rfl
  have p1 := z1.cell (j := 0) rfl
  have p2 := z1.cell (j := 1) rfl
  have c1 := valueOf_any w0 x y iv r 1 hS hr w3 (below_stepE hw hs0 hb3)
  have hu := okR_vof 1 r hr
  have hcomb := comb4 r
  generalize vofE 1 r = u at *
  generalize hRR : combE 4 [r] = R at *
  have HR := Lib.hid hcomb
  have HU := Lib.hid hu
  clear hcomb hw hS hr z0 z1 hRR
  obtain ⟨⟨k, i, b, s⟩, f⟩ := u
  unfold valV at c1
  simp only at c1
  obtain ⟨S, hS⟩ : ∃ S, str s = S := ⟨_, rfl⟩
  rw [hS] at c1
  have HS := Lib.hid hS
  clear hS hu
  go_enter Tryz.func213, Tryz.ntmps213
  go_upto_region 1 with fail
  try rw [hw3]
  clear hw3
  go_wp2_with fail
  refine c1.mono ?_
  rintro e w4 ⟨rfl, hb4⟩
  have hb04 := below_stepE hb3 hb3.size hb4
  have z4 := z3.call hb4
  clear c1 hb4 p0 p1 p2 z3 hb3
  have z5 : Blk (w4.alloc (.cells #[.int .i64 k, .int .i64 i, .int .u64 b, .string S] 24)) w4.heap.size 24 [.int .i64 k, .int .i64 i, .int .u64 b, .string S] := Blk.new w4 #[.int .i64 k, .int .i64 i, .int .u64 b, .string S] _
  have z6 := z4.alloc (.cells #[.int .i64 k, .int .i64 i, .int .u64 b, .string S] 24)
  have hb05 : Below w.heap.size w (w4.alloc (.cells #[.int .i64 k, .int .i64 i, .int .u64 b, .string S] 24)) := hb04.alloc hb04.size _
  generalize hw5 : w4.alloc (.cells #[.int .i64 k, .int .i64 i, .int .u64 b, .string S] 24) = w5 at z5 z6 hb05
  have hrr : w.heap.size ≤ w.heap.size + 1 + 1 := by omega
  clear hb04 z4
  go_upto_region 2 with fail
  try rw [hw5]
  clear hw5
  generalize w4.heap.size = g at *
  generalize hgr : w.heap.size + 1 + 1 = gr at *
  clear hgr
  by_cases hf : f = 0
  · subst hf
    obtain ⟨⟨p0, p1, p2, p3⟩, _⟩ := z5.four
    obtain ⟨⟨q0, q1, q2, q3⟩, f0, f1, f2, f3⟩ := z6.four
    have HR2 : Hid (R = tolE (2 - trT ⟨k, i, b, s⟩)) := by have := HR.out; rw [if_neg (by decide)] at this; exact this
    have cT := fun W => etruthOf_any ⟨k, i, b, s⟩ HU.out.v W
    have cN := fun W => vNot_any (trT ⟨k, i, b, s⟩) (trT_rng _) W
    have cM := fun W => told_any (2 - trT ⟨k, i, b, s⟩) 0 W
    rw [show tolF (2 - trT ⟨k, i, b, s⟩) 0 = tolE (2 - trT ⟨k, i, b, s⟩) from if_neg (by decide)] at cM
    unfold valV at cT
    simp only at cT
    rw [HS.out] at cT
    generalize tolE (2 - trT ⟨k, i, b, s⟩) = RR at *
    generalize trT ⟨k, i, b, s⟩ = tt at *
    obtain ⟨⟨rk, ri, rb, rs⟩, rf⟩ := RR
    unfold valV at cM
    simp only at cM
    clear HR HU HS
    go_wp2_with fail
    refine (cT _).mono ?_
    rintro e w8 ⟨rfl, hb8⟩
    have z8 := z6.call hb8
    have hb08 := below_stepE hb05 hb05.size hb8
    clear cT hb8 hb05 p0 p1 p2 p3 q0 q1 q2 q3 f0 f1 f2 f3 z5 z6
    go_wp2_with fail
    refine (cN _).mono ?_
    rintro e w7 ⟨rfl, rfl⟩
    clear cN
    go_wp2_with fail
    refine (cM _).mono ?_
    rintro e w6 ⟨rfl, hb6⟩
    clear cM
    have z7 := z8.call hb6
    have hb06 := below_stepE hb08 hb08.size hb6
    clear hb6 hb08 z8
    obtain ⟨⟨q0, q1, q2, q3⟩, f0, f1, f2, f3⟩ := z7.four
    have hfin := fun a b c d => below_set4 (a := a) (b := b) (c := c) (d := d) hb06 hrr
    go_wp2_with fail
    exact bodyPost_ret (results_val rfl _ _ gr _ _ _ _ rfl z7.set4) rfl ⟨by rw [HR2.out]; rfl, hfin _ _ _ _⟩
  · have hf1 : (f != 0) = true := by simpa using hf
    have HR2 : Hid (R = badE f) := by have := HR.out; rw [if_pos hf] at this; exact this
    clear HR HU HS
    obtain ⟨⟨q0, q1, q2, q3⟩, f0, f1, f2, f3⟩ := z6.four
    obtain ⟨⟨p0, p1, p2, p3⟩, _⟩ := z5.four
    have hfin := fun a b c d => below_set4 (a := a) (b := b) (c := c) (d := d) hb05 hrr
    go_wp2_with fail
    exact bodyPost_ret (results_val rfl _ _ gr _ _ _ _ rfl z6.set4) rfl ⟨by rw [HR2.out]; rfl, hfin _ _ _ _⟩
set_option maxHeartbeats 8000000 in
theorem isNull_any (w0 : World) (x y : Value) (iv : Value) (r : RE) (hS : Says w0 x y iv r) (hr : OkR r) (w : World) (hw : Below w0.heap.size w0 w) :
    Calls Tryz.prog 218 #[.agg #[iv], .agg #[x, y]] w fun e w' => e = .returned (.tuple #[valV (combE 17 [r]).v, .int .i64 (combE 17 [r]).f]) ∧ Below w.heap.size w w' := by
  have hs0 := hw.size
  obtain ⟨z0, z1, z3, hb3⟩ := three_new w #[iv] #[x, y] #[.int .i64 0, .int .i64 0, .int .u64 0, .string ⟨#[]⟩] 192 121 24
  generalize hw3 : ((w.alloc (.cells #[iv] 192)).alloc (.cells #[x, y] 121)).alloc (.cells #[.int .i64 0, .int .i64 0, .int .u64 0, .string ⟨#[]⟩] 24) = w3 at z0 z1 z3 hb3
  have p0 := z0.cell (j := 0) rfl
  have p1 := z1.cell (j := 0) rfl
  have p2 := z1.cell (j := 1) rfl
  obtain ⟨ty, rv, K, rfl, hn, hm, hc, hC⟩ := hS
  have c1 := hC w3 (below_stepE hw hs0 hb3)
  have hu := hr
  have hcomb := comb17 r
  have hS : True := trivial
  clear hC
  generalize hRR : combE 17 [r] = R at *
  obtain ⟨u, rfl⟩ : ∃ u, u = r := ⟨r, rfl⟩
  have HR := Lib.hid hcomb
  have HU := Lib.hid hu
  clear hcomb hw hS hr z0 z1 hRR
  obtain ⟨⟨k, i, b, s⟩, f⟩ := u
  unfold valV at c1
  simp only at c1
  obtain ⟨S, hS⟩ : ∃ S, str s = S := ⟨_, rfl⟩
  rw [hS] at c1
  have HS := Lib.hid hS
  clear hS hu
  go_enter Tryz.func218, Tryz.ntmps218
  go_upto_region 1 with fail
  try rw [hw3]
  clear hw3
  go_wp2_with fail
  refine c1.mono ?_
  rintro e w4 ⟨rfl, hb4⟩
  have hb04 := below_stepE hb3 hb3.size hb4
  have z4 := z3.call hb4
  clear c1 hb4 p0 p1 p2 z3 hb3
  have z5 : Blk (w4.alloc (.cells #[.int .i64 k, .int .i64 i, .int .u64 b, .string S] 24)) w4.heap.size 24 [.int .i64 k, .int .i64 i, .int .u64 b, .string S] := Blk.new w4 #[.int .i64 k, .int .i64 i, .int .u64 b, .string S] _
  have z6 := z4.alloc (.cells #[.int .i64 k, .int .i64 i, .int .u64 b, .string S] 24)
  have hb05 : Below w.heap.size w (w4.alloc (.cells #[.int .i64 k, .int .i64 i, .int .u64 b, .string S] 24)) := hb04.alloc hb04.size _
  generalize hw5 : w4.alloc (.cells #[.int .i64 k, .int .i64 i, .int .u64 b, .string S] 24) = w5 at z5 z6 hb05
  have hrr : w.heap.size ≤ w.heap.size + 1 + 1 := by omega
  clear hb04 z4
  go_upto_region 2 with fail
  try rw [hw5]
  clear hw5
  generalize w4.heap.size = g at *
  generalize hgr : w.heap.size + 1 + 1 = gr at *
  clear hgr
  by_cases hf : f = 0
  · subst hf
    obtain ⟨⟨p0, p1, p2, p3⟩, _⟩ := z5.four
    obtain ⟨⟨q0, q1, q2, q3⟩, f0, f1, f2, f3⟩ := z6.four
    have HR2 : Hid (R = okE (booV (k == 0))) := by have := HR.out; rw [if_neg (by decide)] at this; exact this
    have cM := fun b W => eboolOf_any b W
    obtain ⟨B, hB⟩ : ∃ B, (k == 0) = B := ⟨_, rfl⟩
    rw [hB] at HR2
    have cM2 := cM B
    generalize booV B = RR at *
    obtain ⟨rk, ri, rb, rs⟩ := RR
    unfold valV at cM2
    simp only at cM2
    clear HR HU HS cM
    go_wp2_with fail
    refine (cM2 _).mono ?_
    rintro e w6 ⟨rfl, hb6⟩
    clear cM2
    have z7 := z6.call hb6
    have hb06 := below_stepE hb05 hb05.size hb6
    clear hb6 hb05 p0 p1 p2 p3 q0 q1 q2 q3 f0 f1 f2 f3 z5 z6
    obtain ⟨⟨q0, q1, q2, q3⟩, f0, f1, f2, f3⟩ := z7.four
    have hfin := fun a b c d => below_set4 (a := a) (b := b) (c := c) (d := d) hb06 hrr
    go_wp2_with fail
    exact bodyPost_ret (results_val rfl _ _ gr _ _ _ _ rfl z7.set4) rfl ⟨by rw [HR2.out]; rfl, hfin _ _ _ _⟩
  · have hf1 : (f != 0) = true := by simpa using hf
    have HR2 : Hid (R = badE f) := by have := HR.out; rw [if_pos hf] at this; exact this
    clear HR HU HS
    obtain ⟨⟨q0, q1, q2, q3⟩, f0, f1, f2, f3⟩ := z6.four
    obtain ⟨⟨p0, p1, p2, p3⟩, _⟩ := z5.four
    have hfin := fun a b c d => below_set4 (a := a) (b := b) (c := c) (d := d) hb05 hrr
    go_wp2_with fail
    exact bodyPost_ret (results_val rfl _ _ gr _ _ _ _ rfl z6.set4) rfl ⟨by rw [HR2.out]; rfl, hfin _ _ _ _⟩
set_option maxHeartbeats 8000000 in
theorem length_any (w0 : World) (x y : Value) (iv : Value) (r : RE) (hS : Says w0 x y iv r) (hr : OkR r) (w : World) (hw : Below w0.heap.size w0 w) :
    Calls Tryz.prog 219 #[.agg #[iv], .agg #[x, y]] w fun e w' => e = .returned (.tuple #[valV (combE 18 [r]).v, .int .i64 (combE 18 [r]).f]) ∧ Below w.heap.size w w' := by
  have hs0 := hw.size
  obtain ⟨z0, z1, z3, hb3⟩ := three_new w #[iv] #[x, y] #[.int .i64 0, .int .i64 0, .int .u64 0, .string ⟨#[]⟩] 193 121 24
  generalize hw3 : ((w.alloc (.cells #[iv] 193)).alloc (.cells #[x, y] 121)).alloc (.cells #[.int .i64 0, .int .i64 0, .int .u64 0, .string ⟨#[]⟩] 24) = w3 at z0 z1 z3 hb3
  have p0 := z0.cell (j := 0) rfl
  have p1 := z1.cell (j := 0) rfl
  have p2 := z1.cell (j := 1) rfl
  have c1 := valueOf_any w0 x y iv r 4 hS hr w3 (below_stepE hw hs0 hb3)
  have hu := okR_vof 4 r hr
  have hcomb := comb18 r
  generalize vofE 4 r = u at *
  generalize hRR : combE 18 [r] = R at *
  have HR := Lib.hid hcomb
  have HU := Lib.hid hu
  clear hcomb hw hS hr z0 z1 hRR
  obtain ⟨⟨k, i, b, s⟩, f⟩ := u
  unfold valV at c1
  simp only at c1
  obtain ⟨S, hS⟩ : ∃ S, str s = S := ⟨_, rfl⟩
  rw [hS] at c1
  have HS := Lib.hid hS
  clear hS hu
  go_enter Tryz.func219, Tryz.ntmps219
  go_upto_region 1 with fail
  try rw [hw3]
  clear hw3
  go_wp2_with fail
  refine c1.mono ?_
  rintro e w4 ⟨rfl, hb4⟩
  have hb04 := below_stepE hb3 hb3.size hb4
  have z4 := z3.call hb4
  clear c1 hb4 p0 p1 p2 z3 hb3
  have z5 : Blk (w4.alloc (.cells #[.int .i64 k, .int .i64 i, .int .u64 b, .string S] 24)) w4.heap.size 24 [.int .i64 k, .int .i64 i, .int .u64 b, .string S] := Blk.new w4 #[.int .i64 k, .int .i64 i, .int .u64 b, .string S] _
  have z6 := z4.alloc (.cells #[.int .i64 k, .int .i64 i, .int .u64 b, .string S] 24)
  have hb05 : Below w.heap.size w (w4.alloc (.cells #[.int .i64 k, .int .i64 i, .int .u64 b, .string S] 24)) := hb04.alloc hb04.size _
  generalize hw5 : w4.alloc (.cells #[.int .i64 k, .int .i64 i, .int .u64 b, .string S] 24) = w5 at z5 z6 hb05
  have hrr : w.heap.size ≤ w.heap.size + 1 + 1 := by omega
  clear hb04 z4
  go_upto_region 2 with fail
  try rw [hw5]
  clear hw5
  generalize w4.heap.size = g at *
  generalize hgr : w.heap.size + 1 + 1 = gr at *
  clear hgr
  by_cases hf : f = 0
  · subst hf
    obtain ⟨⟨p0, p1, p2, p3⟩, _⟩ := z5.four
    obtain ⟨⟨q0, q1, q2, q3⟩, f0, f1, f2, f3⟩ := z6.four
    by_cases hk : k = 0
    · have hk1 : (k == 0) = true := by simp [hk]
      have HR2 : Hid (R = okE nulV) := by have := HR.out; rw [if_neg (by decide), if_pos hk] at this; exact this
      clear HR HU HS hk
      have hfin := fun a b c d => below_set4 (a := a) (b := b) (c := c) (d := d) hb05 hrr
      go_wp2_with fail
      exact bodyPost_ret (results_val rfl _ _ gr _ _ _ _ rfl z6.set4) rfl ⟨by rw [HR2.out]; rfl, hfin _ _ _ _⟩
    · have hk1 : (k == 0) = false := by simpa using hk
      have HR2 : Hid (R = okE (intV (runesL s))) := by have := HR.out; rw [if_neg (by decide), if_neg hk] at this; exact this
      have hsz : S.size < 9223372036854775807 := by
        have h40 := (chkV_open _ HU.out.v.chk).2.2.1
        simp only at h40
        rw [← HS.out, str_size]; omega
      have cN := fun W => Any.utf8_RuneCountInString Tryz.laysRune S W hsz
      have hrn : Lib.runeCount S = runesL s := by rw [← HS.out]; exact runes_str s
      rw [hrn] at cN
      have cM := fun W => number_any (runesL s : Int) 0 W
      rw [if_neg (by decide)] at cM
      generalize runesL s = nn at *
      unfold valV intV at cM
      simp only at cM
      rw [str_nil] at cM
      clear HR HU HS hk hsz hrn
      go_wp2_with fail
      refine (cN _).mono ?_
      rintro e w7 ⟨rfl, ps, rfl⟩
      have z8 := z6.call (below_iterE w5 S ps)
      have hb08 := below_stepE hb05 hb05.size (below_iterE w5 S ps)
      clear cN hb05 p0 p1 p2 p3 q0 q1 q2 q3 f0 f1 f2 f3 z5 z6
      generalize w5.iter S ps = w8 at *
      go_wp2_with fail
      refine (cM _).mono ?_
      rintro e w6 ⟨rfl, hb6⟩
      clear cM
      have z7 := z8.call hb6
      have hb06 := below_stepE hb08 hb08.size hb6
      clear hb6 hb08 z8
      obtain ⟨⟨q0, q1, q2, q3⟩, f0, f1, f2, f3⟩ := z7.four
      have hfin := fun a b c d => below_set4 (a := a) (b := b) (c := c) (d := d) hb06 hrr
      go_wp2_with fail
      exact bodyPost_ret (results_val rfl _ _ gr _ _ _ _ rfl z7.set4) rfl ⟨by rw [HR2.out]; rfl, hfin _ _ _ _⟩
  · have hf1 : (f != 0) = true := by simpa using hf
    have HR2 : Hid (R = badE f) := by have := HR.out; rw [if_pos hf] at this; exact this
    clear HR HU HS
    obtain ⟨⟨q0, q1, q2, q3⟩, f0, f1, f2, f3⟩ := z6.four
    obtain ⟨⟨p0, p1, p2, p3⟩, _⟩ := z5.four
    have hfin := fun a b c d => below_set4 (a := a) (b := b) (c := c) (d := d) hb05 hrr
    go_wp2_with fail
    exact bodyPost_ret (results_val rfl _ _ gr _ _ _ _ rfl z6.set4) rfl ⟨by rw [HR2.out]; rfl, hfin _ _ _ _⟩
end Go.Proofs.YtfedlchncngafaaGreatDoor

/-! CONTRACTS of package eval's reckoned, over a function value on numbers, and compared, over a question. CONDITIONS: each theorem's own hypotheses. -/
namespace Go.Proofs.YtfedlchncngafaaGreatDoor
open Go.RowKit
set_option linter.unusedVariables false
set_option maxRecDepth 100000

theorem two_new (w : World) (a b : Array Value) (A B : TypeId) : Blk ((w.alloc (.cells a A)).alloc (.cells b B)) w.heap.size A a.toList ∧ Blk ((w.alloc (.cells a A)).alloc (.cells b B)) (w.heap.size + 1) B b.toList ∧ Below w.heap.size w ((w.alloc (.cells a A)).alloc (.cells b B)) :=
  ⟨(Blk.new w a A).alloc _, Blk.atNew b B (by simp), ((Below.refl _ _).alloc (Nat.le_refl _) _).alloc (by simp) _⟩
def reckE (ar : Int → Int → RE) (u : R2) : RE := if u.f ≠ 0 then badE u.f else if (u.a.k == 0 || u.b.k == 0) = true then okE nulV else ar u.a.i u.b.i
set_option maxHeartbeats 16000000 in
theorem reckoned_any (w0 : World) (x y iva ivb : Value) (p q : RE) (hA : Says w0 x y iva p) (hB : Says w0 x y ivb q) (hp : OkR p) (hq : OkR q) (F : FuncId) (fn ff : Int → Int → Int) (ar : Int → Int → RE)
    (hF : ∀ a b W, inI a → inI b → Calls Tryz.prog F #[.int .i64 a, .int .i64 b] W fun e w' => e = .returned (.tuple #[.int .i64 (fn a b), .int .i64 (ff a b)]) ∧ w' = W)
    (hcall : ∀ a b W, (callFunc F #[.int .i64 a, .int .i64 b]).run Tryz.prog W = .ok (.enter F #[.int .i64 a, .int .i64 b]) W)
    (hN : ∀ a b W, Calls Tryz.prog 209 #[.int .i64 (fn a b), .int .i64 (ff a b)] W fun e w' => e = .returned (.tuple #[valV (ar a b).v, .int .i64 (ar a b).f]) ∧ Below W.heap.size W w')
    (w : World) (hw : Below w0.heap.size w0 w) :
    Calls Tryz.prog 221 #[.agg #[iva, ivb], .agg #[x, y], .func (.func F) #[] #[]] w fun e w' => e = .returned (.tuple #[valV (reckE ar (vofsE 2 (valsE p q))).v, .int .i64 (reckE ar (vofsE 2 (valsE p q))).f]) ∧ Below w.heap.size w w' := by
  have hs0 := hw.size
  have cV := fun W (h : Below w.heap.size w W) => valuesOf_any w0 x y iva ivb p q 2 hA hB hp hq W (below_stepE hw hs0 h)
  have hu := okR2_vofs 2 _ (okR2_vals p q hp hq)
  generalize vofsE 2 (valsE p q) = u at *
  have hR : reckE ar u = if u.f ≠ 0 then badE u.f else if (u.a.k == 0 || u.b.k == 0) = true then okE nulV else ar u.a.i u.b.i := rfl
  generalize reckE ar u = R at *
  have HR := Lib.hid hR
  have hin : inI u.a.i ∧ inI u.b.i := ⟨⟨hu.a.fit.i0, hu.a.fit.i1⟩, ⟨hu.b.fit.i0, hu.b.fit.i1⟩⟩
  have cO := fun W => oneIsNull_any u.a u.b W
  have cF := fun W => hF u.a.i u.b.i W hin.1 hin.2
  have cN := fun W => hN u.a.i u.b.i W
  have cL := fun W => hcall u.a.i u.b.i W
  clear hA hB hp hq hw hs0 hR hu hin hF hN hcall
  obtain ⟨z0, z1, z3, hb3⟩ := three_new w #[iva, ivb] #[x, y] #[.int .i64 0, .int .i64 0, .int .u64 0, .string ⟨#[]⟩] 154 121 24
  generalize hw3 : ((w.alloc (.cells #[iva, ivb] 154)).alloc (.cells #[x, y] 121)).alloc (.cells #[.int .i64 0, .int .i64 0, .int .u64 0, .string ⟨#[]⟩] 24) = w3 at z0 z1 z3 hb3
  have p0 := z0.cell (j := 0) rfl
  have p00 := z0.cell (j := 1) rfl
  have p1 := z1.cell (j := 0) rfl
  have p2 := z1.cell (j := 1) rfl
  have c1 := cV w3 hb3
  clear cV z0 z1
  obtain ⟨⟨k, i, b, s⟩, ⟨k', i', b', s'⟩, f⟩ := u
  unfold valV at c1
  simp only at c1
  obtain ⟨S, hS⟩ : ∃ S, str s = S := ⟨_, rfl⟩
  obtain ⟨S', hS'⟩ : ∃ S', str s' = S' := ⟨_, rfl⟩
  simp only [hS, hS'] at c1
  unfold valV at cO
  simp only at cO cF cN cL
  simp only [hS, hS'] at cO
  clear hS hS'
  have hrr : w.heap.size ≤ w.heap.size + 1 + 1 := by omega
  go_enter Tryz.func221, Tryz.ntmps221
  go_upto_region 1 with fail
  try rw [hw3]
  clear hw3
  go_wp2_with fail
  refine c1.mono ?_
  rintro e w4 ⟨rfl, hb4⟩
  have hb04 := below_stepE hb3 hb3.size hb4
  have z4 := z3.call hb4
  clear c1 hb4 p0 p00 p1 p2 z3 hb3
  obtain ⟨y1, y2, hb5⟩ := two_new w4 #[.int .i64 k, .int .i64 i, .int .u64 b, .string S] #[.int .i64 k', .int .i64 i', .int .u64 b', .string S'] 24 24
  have z6 := z4.call hb5
  have hb05 := below_stepE hb04 hb04.size hb5
  go_upto_region 2 with fail
  generalize hw5 : (w4.alloc (.cells #[.int .i64 k, .int .i64 i, .int .u64 b, .string S] 24)).alloc (.cells #[.int .i64 k', .int .i64 i', .int .u64 b', .string S'] 24) = w5 at *
  clear hw5 hb04 z4 hb5
  generalize w4.heap.size = g at *
  generalize hgr : w.heap.size + 1 + 1 = gr at *
  clear hgr
  by_cases hf : f = 0
  · subst hf
    obtain ⟨⟨p0, p1, p2, p3⟩, _⟩ := y1.four
    obtain ⟨⟨r0, r1, r2, r3⟩, _⟩ := y2.four
    have HRa : Hid (R = if (k == 0 || k' == 0) = true then okE nulV else ar i i') := by have := HR.out; rw [if_neg (by decide)] at this; exact this
    generalize hK : (k == 0 || k' == 0) = KN at *
    clear hK HR
    go_wp2_with fail
    refine (cO _).mono ?_
    rintro e w6 ⟨rfl, hb6⟩
    have y1' := y1.call hb6
    have y2' := y2.call hb6
    have z6' := z6.call hb6
    have hb05' := below_stepE hb05 hb05.size hb6
    clear cO hb6 y1 y2 z6 hb05 p0 p1 p2 p3 r0 r1 r2 r3
    have z6 := z6'
    have hb05 := hb05'
    clear z6' hb05'
    obtain ⟨⟨p0, p1, p2, p3⟩, _⟩ := y1'.four
    obtain ⟨⟨r0, r1, r2, r3⟩, _⟩ := y2'.four
    cases KN
    · have HR2 : Hid (R = ar i i') := HRa.out
      generalize fn i i' = nn at *
      generalize ff i i' = nf at *
      generalize ar i i' = RR at *
      obtain ⟨⟨rk, ri, rb, rs⟩, rf⟩ := RR
      unfold valV at cN
      simp only at cN
      clear HRa
      go_wp2_with fail
      refine (cF _).mono ?_
      rintro e w7 ⟨rfl, rfl⟩
      clear cF
      go_wp2_with fail
      refine (cN _).mono ?_
      rintro e w8 ⟨rfl, hb6⟩
      clear cN p0 p1 p2 p3 r0 r1 r2 r3 y1' y2'
      have z7 := z6.call hb6
      have hb06 := below_stepE hb05 hb05.size hb6
      clear hb6 hb05 z6
      obtain ⟨⟨q0, q1, q2, q3⟩, f0, f1, f2, f3⟩ := z7.four
      have hfin := fun a b c d => below_set4 (a := a) (b := b) (c := c) (d := d) hb06 hrr
      go_wp2_with fail
      exact bodyPost_ret (results_val rfl _ _ gr _ _ _ _ rfl z7.set4) rfl ⟨by rw [HR2.out]; rfl, hfin _ _ _ _⟩
    · have HR2 : Hid (R = okE nulV) := HRa.out
      clear HRa cF cN
      obtain ⟨⟨q0, q1, q2, q3⟩, f0, f1, f2, f3⟩ := z6.four
      have hfin := fun a b c d => below_set4 (a := a) (b := b) (c := c) (d := d) hb05 hrr
      go_wp2_with fail
      exact bodyPost_ret (results_val rfl _ _ gr _ _ _ _ rfl z6.set4) rfl ⟨by rw [HR2.out]; rfl, hfin _ _ _ _⟩
  · have z1 : (f != 0) = true := by simpa using hf
    have HR2 : Hid (R = badE f) := by have := HR.out; rw [if_pos hf] at this; exact this
    clear HR cF cN cO
    obtain ⟨⟨q0, q1, q2, q3⟩, f0, f1, f2, f3⟩ := z6.four
    have hfin := fun a b c d => below_set4 (a := a) (b := b) (c := c) (d := d) hb05 hrr
    go_wp2_with fail
    exact bodyPost_ret (results_val rfl _ _ gr _ _ _ _ rfl z6.set4) rfl ⟨by rw [HR2.out]; rfl, hfin _ _ _ _⟩
def compR (tq fq : Vl → Vl → Int) (u : R2) : RE := if u.f ≠ 0 then badE u.f else tolF (tq u.a u.b) (fq u.a u.b)
set_option maxHeartbeats 16000000 in
theorem compared0_any (w0 : World) (x y iva ivb : Value) (p q : RE) (hA : Says w0 x y iva p) (hB : Says w0 x y ivb q) (hp : OkR p) (hq : OkR q) (F : FuncId) (tq fq : Vl → Vl → Int) (w : World) (hw : Below w0.heap.size w0 w)
    (hF : ∀ a b W, OkV a → OkV b → Below w.heap.size w W → Calls Tryz.prog F #[valV a, valV b] W fun e w' => e = .returned (.tuple #[.int .i64 (tq a b), .int .i64 (fq a b)]) ∧ Below W.heap.size W w')
    (hcall : ∀ a b W, (callFunc F #[valV a, valV b]).run Tryz.prog W = .ok (.enter F #[valV a, valV b]) W) :
    Calls Tryz.prog 232 #[.agg #[iva, ivb], .agg #[x, y], .func (.func F) #[] #[]] w fun e w' => e = .returned (.tuple #[valV (compR tq fq (valsE p q)).v, .int .i64 (compR tq fq (valsE p q)).f]) ∧ Below w.heap.size w w' := by
  have hs0 := hw.size
  have cV := fun W (h : Below w.heap.size w W) => values_any w0 x y iva ivb p q hA hB hp hq W (below_stepE hw hs0 h)
  have hu := okR2_vals p q hp hq
  generalize valsE p q = u at *
  have hR : compR tq fq u = if u.f ≠ 0 then badE u.f else tolF (tq u.a u.b) (fq u.a u.b) := rfl
  generalize compR tq fq u = R at *
  have HR := Lib.hid hR
  have cF := fun W (h : Below w.heap.size w W) => hF u.a u.b W hu.a hu.b h
  have cN := fun W => told_any (tq u.a u.b) (fq u.a u.b) W
  have cL := fun W => hcall u.a u.b W
  clear hA hB hp hq hw hs0 hR hu hF hcall
  obtain ⟨z0, z1, z3, hb3⟩ := three_new w #[iva, ivb] #[x, y] #[.int .i64 0, .int .i64 0, .int .u64 0, .string ⟨#[]⟩] 154 121 24
  generalize hw3 : ((w.alloc (.cells #[iva, ivb] 154)).alloc (.cells #[x, y] 121)).alloc (.cells #[.int .i64 0, .int .i64 0, .int .u64 0, .string ⟨#[]⟩] 24) = w3 at z0 z1 z3 hb3
  have p0 := z0.cell (j := 0) rfl
  have p00 := z0.cell (j := 1) rfl
  have p1 := z1.cell (j := 0) rfl
  have p2 := z1.cell (j := 1) rfl
  have c1 := cV w3 hb3
  clear cV z0 z1
  obtain ⟨⟨k, i, b, s⟩, ⟨k', i', b', s'⟩, f⟩ := u
  unfold valV at c1
  simp only at c1
  obtain ⟨S, hS⟩ : ∃ S, str s = S := ⟨_, rfl⟩
  obtain ⟨S', hS'⟩ : ∃ S', str s' = S' := ⟨_, rfl⟩
  simp only [hS, hS'] at c1
  unfold valV at cF cL
  simp only at cF cN cL
  simp only [hS, hS'] at cF cL
  clear hS hS'
  have hrr : w.heap.size ≤ w.heap.size + 1 + 1 := by omega
  go_enter Tryz.func232, Tryz.ntmps232
  go_upto_region 1 with fail
  try rw [hw3]
  clear hw3
  go_wp2_with fail
  refine c1.mono ?_
  rintro e w4 ⟨rfl, hb4⟩
  have hb04 := below_stepE hb3 hb3.size hb4
  have z4 := z3.call hb4
  clear c1 hb4 p0 p00 p1 p2 z3 hb3
  obtain ⟨y1, y2, hb5⟩ := two_new w4 #[.int .i64 k, .int .i64 i, .int .u64 b, .string S] #[.int .i64 k', .int .i64 i', .int .u64 b', .string S'] 24 24
  have z6 := z4.call hb5
  have hb05 := below_stepE hb04 hb04.size hb5
  go_upto_region 2 with fail
  generalize hw5 : (w4.alloc (.cells #[.int .i64 k, .int .i64 i, .int .u64 b, .string S] 24)).alloc (.cells #[.int .i64 k', .int .i64 i', .int .u64 b', .string S'] 24) = w5 at *
  clear hw5 hb04 z4 hb5
  generalize w4.heap.size = g at *
  generalize hgr : w.heap.size + 1 + 1 = gr at *
  clear hgr
  by_cases hf : f = 0
  · subst hf
    obtain ⟨⟨p0, p1, p2, p3⟩, _⟩ := y1.four
    obtain ⟨⟨r0, r1, r2, r3⟩, _⟩ := y2.four
    have HR2 : Hid (R = tolF (tq ⟨k, i, b, s⟩ ⟨k', i', b', s'⟩) (fq ⟨k, i, b, s⟩ ⟨k', i', b', s'⟩)) := by have := HR.out; rw [if_neg (by decide)] at this; exact this
    generalize tolF (tq ⟨k, i, b, s⟩ ⟨k', i', b', s'⟩) (fq ⟨k, i, b, s⟩ ⟨k', i', b', s'⟩) = RR at *
    generalize tq ⟨k, i, b, s⟩ ⟨k', i', b', s'⟩ = nn at *
    generalize fq ⟨k, i, b, s⟩ ⟨k', i', b', s'⟩ = nf at *
    obtain ⟨⟨rk, ri, rb, rs⟩, rf⟩ := RR
    unfold valV at cN
    simp only at cN
    have d := cF w5 hb05
    clear HR cF
    go_wp2_with fail
    refine d.mono ?_
    rintro e w7 ⟨rfl, hb7⟩
    have z6' := z6.call hb7
    have hb05' := below_stepE hb05 hb05.size hb7
    clear d hb7 z6 hb05 p0 p1 p2 p3 r0 r1 r2 r3 y1 y2
    have z6 := z6'
    have hb05 := hb05'
    clear z6' hb05'
    go_wp2_with fail
    refine (cN _).mono ?_
    rintro e w8 ⟨rfl, hb6⟩
    clear cN
    have z7 := z6.call hb6
    have hb06 := below_stepE hb05 hb05.size hb6
    clear hb6 hb05 z6
    obtain ⟨⟨q0, q1, q2, q3⟩, f0, f1, f2, f3⟩ := z7.four
    have hfin := fun a b c d => below_set4 (a := a) (b := b) (c := c) (d := d) hb06 hrr
    go_wp2_with fail
    exact bodyPost_ret (results_val rfl _ _ gr _ _ _ _ rfl z7.set4) rfl ⟨by rw [HR2.out]; rfl, hfin _ _ _ _⟩
  · have z1 : (f != 0) = true := by simpa using hf
    have HR2 : Hid (R = badE f) := by have := HR.out; rw [if_pos hf] at this; exact this
    clear HR cF cN
    obtain ⟨⟨q0, q1, q2, q3⟩, f0, f1, f2, f3⟩ := z6.four
    have hfin := fun a b c d => below_set4 (a := a) (b := b) (c := c) (d := d) hb05 hrr
    go_wp2_with fail
    exact bodyPost_ret (results_val rfl _ _ gr _ _ _ _ rfl z6.set4) rfl ⟨by rw [HR2.out]; rfl, hfin _ _ _ _⟩
set_option maxHeartbeats 16000000 in
theorem compared1_any (w0 : World) (x y iva ivb : Value) (p q : RE) (hA : Says w0 x y iva p) (hB : Says w0 x y ivb q) (hp : OkR p) (hq : OkR q) (F : FuncId) (gq : Nat) (tq fq : Vl → Vl → Int) (w : World) (hw : Below w0.heap.size w0 w)
    (hF : ∀ a b W, OkV a → OkV b → Below w.heap.size w W → Calls Tryz.prog F #[valV a, valV b, .pointer (some ⟨gq, 0, none⟩)] W fun e w' => e = .returned (.tuple #[.int .i64 (tq a b), .int .i64 (fq a b)]) ∧ Below W.heap.size W w')
    (hcall : ∀ a b W, (callFunc F #[valV a, valV b, .pointer (some ⟨gq, 0, none⟩)]).run Tryz.prog W = .ok (.enter F #[valV a, valV b, .pointer (some ⟨gq, 0, none⟩)]) W) :
    Calls Tryz.prog 232 #[.agg #[iva, ivb], .agg #[x, y], .func (.func F) #[] #[.pointer (some ⟨gq, 0, none⟩)]] w fun e w' => e = .returned (.tuple #[valV (compR tq fq (valsE p q)).v, .int .i64 (compR tq fq (valsE p q)).f]) ∧ Below w.heap.size w w' := by
  have hs0 := hw.size
  have cV := fun W (h : Below w.heap.size w W) => values_any w0 x y iva ivb p q hA hB hp hq W (below_stepE hw hs0 h)
  have hu := okR2_vals p q hp hq
  generalize valsE p q = u at *
  have hR : compR tq fq u = if u.f ≠ 0 then badE u.f else tolF (tq u.a u.b) (fq u.a u.b) := rfl
  generalize compR tq fq u = R at *
  have HR := Lib.hid hR
  have cF := fun W (h : Below w.heap.size w W) => hF u.a u.b W hu.a hu.b h
  have cN := fun W => told_any (tq u.a u.b) (fq u.a u.b) W
  have cL := fun W => hcall u.a u.b W
  clear hA hB hp hq hw hs0 hR hu hF hcall
  obtain ⟨z0, z1, z3, hb3⟩ := three_new w #[iva, ivb] #[x, y] #[.int .i64 0, .int .i64 0, .int .u64 0, .string ⟨#[]⟩] 154 121 24
  generalize hw3 : ((w.alloc (.cells #[iva, ivb] 154)).alloc (.cells #[x, y] 121)).alloc (.cells #[.int .i64 0, .int .i64 0, .int .u64 0, .string ⟨#[]⟩] 24) = w3 at z0 z1 z3 hb3
  have p0 := z0.cell (j := 0) rfl
  have p00 := z0.cell (j := 1) rfl
  have p1 := z1.cell (j := 0) rfl
  have p2 := z1.cell (j := 1) rfl
  have c1 := cV w3 hb3
  clear cV z0 z1
  obtain ⟨⟨k, i, b, s⟩, ⟨k', i', b', s'⟩, f⟩ := u
  unfold valV at c1
  simp only at c1
  obtain ⟨S, hS⟩ : ∃ S, str s = S := ⟨_, rfl⟩
  obtain ⟨S', hS'⟩ : ∃ S', str s' = S' := ⟨_, rfl⟩
  simp only [hS, hS'] at c1
  unfold valV at cF cL
  simp only at cF cN cL
  simp only [hS, hS'] at cF cL
  clear hS hS'
  have hrr : w.heap.size ≤ w.heap.size + 1 + 1 := by omega
  go_enter Tryz.func232, Tryz.ntmps232
  go_upto_region 1 with fail
  try rw [hw3]
  clear hw3
  go_wp2_with fail
  refine c1.mono ?_
  rintro e w4 ⟨rfl, hb4⟩
  have hb04 := below_stepE hb3 hb3.size hb4
  have z4 := z3.call hb4
  clear c1 hb4 p0 p00 p1 p2 z3 hb3
  obtain ⟨y1, y2, hb5⟩ := two_new w4 #[.int .i64 k, .int .i64 i, .int .u64 b, .string S] #[.int .i64 k', .int .i64 i', .int .u64 b', .string S'] 24 24
  have z6 := z4.call hb5
  have hb05 := below_stepE hb04 hb04.size hb5
  go_upto_region 2 with fail
  generalize hw5 : (w4.alloc (.cells #[.int .i64 k, .int .i64 i, .int .u64 b, .string S] 24)).alloc (.cells #[.int .i64 k', .int .i64 i', .int .u64 b', .string S'] 24) = w5 at *
  clear hw5 hb04 z4 hb5
  generalize w4.heap.size = g at *
  generalize hgr : w.heap.size + 1 + 1 = gr at *
  clear hgr
  by_cases hf : f = 0
  · subst hf
    obtain ⟨⟨p0, p1, p2, p3⟩, _⟩ := y1.four
    obtain ⟨⟨r0, r1, r2, r3⟩, _⟩ := y2.four
    have HR2 : Hid (R = tolF (tq ⟨k, i, b, s⟩ ⟨k', i', b', s'⟩) (fq ⟨k, i, b, s⟩ ⟨k', i', b', s'⟩)) := by have := HR.out; rw [if_neg (by decide)] at this; exact this
    generalize tolF (tq ⟨k, i, b, s⟩ ⟨k', i', b', s'⟩) (fq ⟨k, i, b, s⟩ ⟨k', i', b', s'⟩) = RR at *
    generalize tq ⟨k, i, b, s⟩ ⟨k', i', b', s'⟩ = nn at *
    generalize fq ⟨k, i, b, s⟩ ⟨k', i', b', s'⟩ = nf at *
    obtain ⟨⟨rk, ri, rb, rs⟩, rf⟩ := RR
    unfold valV at cN
    simp only at cN
    have d := cF w5 hb05
    clear HR cF
    go_wp2_with fail
    refine d.mono ?_
    rintro e w7 ⟨rfl, hb7⟩
    have z6' := z6.call hb7
    have hb05' := below_stepE hb05 hb05.size hb7
    clear d hb7 z6 hb05 p0 p1 p2 p3 r0 r1 r2 r3 y1 y2
    have z6 := z6'
    have hb05 := hb05'
    clear z6' hb05'
    go_wp2_with fail
    refine (cN _).mono ?_
    rintro e w8 ⟨rfl, hb6⟩
    clear cN
    have z7 := z6.call hb6
    have hb06 := below_stepE hb05 hb05.size hb6
    clear hb6 hb05 z6
    obtain ⟨⟨q0, q1, q2, q3⟩, f0, f1, f2, f3⟩ := z7.four
    have hfin := fun a b c d => below_set4 (a := a) (b := b) (c := c) (d := d) hb06 hrr
    go_wp2_with fail
    exact bodyPost_ret (results_val rfl _ _ gr _ _ _ _ rfl z7.set4) rfl ⟨by rw [HR2.out]; rfl, hfin _ _ _ _⟩
  · have z1 : (f != 0) = true := by simpa using hf
    have HR2 : Hid (R = badE f) := by have := HR.out; rw [if_pos hf] at this; exact this
    clear HR cF cN
    obtain ⟨⟨q0, q1, q2, q3⟩, f0, f1, f2, f3⟩ := z6.four
    have hfin := fun a b c d => below_set4 (a := a) (b := b) (c := c) (d := d) hb05 hrr
    go_wp2_with fail
    exact bodyPost_ret (results_val rfl _ _ gr _ _ _ _ rfl z6.set4) rfl ⟨by rw [HR2.out]; rfl, hfin _ _ _ _⟩
end Go.Proofs.YtfedlchncngafaaGreatDoor
