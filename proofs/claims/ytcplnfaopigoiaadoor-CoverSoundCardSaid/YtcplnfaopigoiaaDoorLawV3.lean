/-
  THE WALK of the law 'chirographkeep.CoverSound'.
  CONDITIONS: package sum's roundWords hold what their initialiser lays ('KW').
-/
import Derived.Test.YtcplnfaopigoiaaDoorCovE
import Derived.Test.YtcplnfaopigoiaaDoorCovL
import Derived.Test.YtcplnfaopigoiaaDoorCovM
import Derived.Test.YtcplnfaopigoiaaDoorPathK
import Derived.Test.YtcplnfaopigoiaaDoorSlotN
namespace Go.Proofs.YtcplnfaopigoiaaDoor
open Go.RowKit CodeMath Go.Proofs.YtcplnfaopigoiaaDoor.FrameMath
set_option linter.unusedVariables false
set_option maxRecDepth 100000

theorem covR_tiny (m : Int) : ∀ (h : Nat), h ≤ 6 → ∀ (rows : List (List UInt8)) (o : List Bool), rows.length = 2 ^ h → (∀ b ∈ rows, b.length ≤ 600) → ∀ r ∈ covR m h rows o, r.length ≤ 100000
  | 0, h6, rows, o, hl, hb, r, hr => by
    unfold covR at hr
    split at hr
    · cases hr
    · simp at hr; subst hr
      have := rootB_length m 0 rows hl hb
      omega
  | h + 1, h6, rows, o, hl, hb, r, hr => by
    have e1 : 2 ^ (h + 1) = 2 * 2 ^ h := by rw [Nat.pow_succ, Nat.mul_comm]
    unfold covR at hr
    split at hr
    · rcases List.mem_append.1 hr with hr | hr
      · exact covR_tiny m h (by omega) _ _ (by rw [List.length_take]; omega) (fun b hx => hb b (List.mem_of_mem_take hx)) r hr
      · exact covR_tiny m h (by omega) _ _ (by rw [List.length_drop]; omega) (fun b hx => hb b (List.mem_of_mem_drop hx)) r hr
    · simp at hr; subst hr
      have := rootB_length m (h + 1) rows hl hb
      have h64 : 2 ^ (h + 1) ≤ 2 ^ 6 := Nat.pow_le_pow_right (by decide) h6
      have e6 : 2 ^ 6 = 64 := by decide
      have hm64 : 2 ^ (h + 1) * 642 ≤ 64 * 642 := Nat.mul_le_mul_right _ (by omega)
      omega
theorem rtd_open (h : Nat) (h6 : h ≤ 6) (S : List Sl) (rows : List (List UInt8)) (o : List Bool) (SO : List Sl) (RO : List (List UInt8)) (hl : S.length = 2 ^ h) (ho : o.length = 2 ^ h) (hr : leavesR 2 S = .ok rows) (hp : isPow o.length = true) : rtdR 2 h o SO RO = .err 10 ∨ ∃ x, rtdR 2 h o SO RO = .ok x ∧ (x = rootB 2 h rows → SO = selO S o) := by
  rw [rtdR_last 2 h o SO RO rfl hp]
  cases hx : rtR 2 h o SO RO with
  | none => exact .inl rfl
  | some p =>
    obtain ⟨x, S', R'⟩ := p
    cases S' with
    | cons a S' => exact .inl rfl
    | nil =>
      cases R' with
      | cons a R' => exact .inl rfl
      | nil =>
        refine .inr ⟨x, rfl, fun e => ?_⟩
        subst e
        have := (rt_sound h h6 S rows o SO [] RO [] hl ho hr hx).1
        simpa using this
/-- A cover that lies in an array. -/
def CvIn (w : World) (g i : Nat) (SO : List Sl) (RO : List (List UInt8)) : Prop := ∃ aO kO aR kR, w.cell? ⟨g, i * 2, none⟩ = some (.slice aO SO.length kO) ∧ w.cell? ⟨g, i * 2 + 1, none⟩ = some (.slice aR RO.length kR) ∧ SO.length ≤ kO ∧ kO ≤ 9223372036854775807 ∧ Slots w aO SO ∧ RO.length ≤ kR ∧ kR ≤ 9223372036854775807 ∧ (∀ r ∈ RO, r.length ≤ 140737488351232) ∧ Lines w aR RO

set_option maxHeartbeats 4000000 in
theorem coverSound_walk (l : List R) (ao : Option Addr) (cap : Nat) (which : Int) (l3 : List R) (ao3 : Option Addr) (cap3 : Nat) (rest : List (List UInt8)) (aq : Option Addr) (cq : Nat) (w : World) (hT : KW w) (hc : l.length ≤ cap) (hq : cap ≤ 9223372036854775807) (hR : Raws w ao l) (a0 : -9223372036854775808 ≤ which) (a1 : which ≤ 9223372036854775807) (hc3 : l3.length ≤ cap3) (hq3 : cap3 ≤ 9223372036854775807) (hR3 : Raws w ao3 l3) (hcq : rest.length ≤ cq) (hqq : cq ≤ 9223372036854775807) (hrq : rest.length ≤ 140737488351232 ∧ ∀ l ∈ rest, l.length ≤ 140737488351232) (hlq : Lines w aq rest) :
    Calls Tryd.prog 6 #[.slice ao l.length cap, .int .i64 which, .slice ao3 l3.length cap3, .slice aq rest.length cq] w fun e w' => e = .returned (.bool true) ∧ Below w.heap.size w w' := by
  have cS := slotsOf_any l ao cap w hc hq hR
  have hget : ∀ j r, l3[j]? = some r → r.Fits ∧ ∃ a o, ao3 = some ⟨a, o, none⟩ ∧ a < w.heap.size ∧ w.cell? ⟨a, o + j * 4, none⟩ = some (.int .i64 r.k) ∧ w.cell? ⟨a, o + j * 4 + 1, none⟩ = some (.int .i64 r.a) ∧ w.cell? ⟨a, o + j * 4 + 2, none⟩ = some (.int .i64 r.b) ∧ w.cell? ⟨a, o + j * 4 + 3, none⟩ = some (.string r.s) := fun j r hj => by
    refine ⟨hR3.1 r (List.mem_of_getElem? hj), ?_⟩
    rcases hR3.2 with h | ⟨a, o, h1, h2, h3⟩
    · rw [h] at hj; simp at hj
    · exact ⟨a, o, h1, h2, h3 j r hj⟩
  have HG := Lib.hid hget
  have cM := fun W => someK_any ao3 l3.length cap3 16 16 rfl (by decide) W hc3 (by omega)
  obtain ⟨n3, hn3⟩ : ∃ k, l3.length = k := ⟨_, rfl⟩
  have HN3 := Lib.hid hn3
  rw [hn3] at cM hc3 ⊢
  obtain ⟨M, hM⟩ : ∃ M, min n3 16 = M := ⟨_, rfl⟩
  rw [hM] at cM
  have hM16 : M ≤ 16 := by omega
  have hM3 : M ≤ n3 := by omega
  have hMc : M ≤ cap3 := by omega
  have HRQ := Lib.hid (And.intro hcq (And.intro hqq hrq.2))
  have HLQ := Lib.hid hlq
  obtain ⟨lq, hlq2⟩ : ∃ k, rest.length = k := ⟨_, rfl⟩
  have HQL := Lib.hid hlq2
  rw [hlq2]
  clear hc hq hR hc3 hR3 hget hn3 hM hcq hqq hrq hlq hlq2 hq3
  generalize l.length = n at *
  go_enter Tryd.func6, Tryd.ntmps6
  go_wp2_with fail
  refine cS.mono ?_
  rintro e w1 ⟨v1, S, h, rfl, ho, hl, h4, hg, hb1⟩
  clear cS
  obtain ⟨aS, kS, rfl, hc2, hq2, -, hS⟩ := ho.slots
  obtain ⟨rows, hr, hlv, hroot, hrl, hpw⟩ := levels_good 2 rfl S h (by omega) hl hg
  have hS16 : S.length ≤ 16 := by
    rw [hl]
    have h9 : 2 ^ h ≤ 2 ^ 4 := Nat.pow_le_pow_right (by decide) h4
    have e4 : 2 ^ 4 = 16 := by decide
    omega
  have cO := opens_any S.length aS kS which w1 (by omega) a0 a1
  have hol := opensL_length S.length which
  generalize opensL S.length which = o at *
  have hT1 := hT.keep hb1 (Nat.le_refl _)
  have cR := fun W (hW : Below w1.heap.size w1 W) => Root_any 2 S aS kS W (by omega) (by omega) hc2 hq2 (hS.keep hW) (hT1.keep hW (Nat.le_refl _)) h (fun _ => hl)
  rw [hroot] at cR
  have cV := fun W (hW : Below w1.heap.size w1 W) aO cO' h1 h2 h3 => CoverOf_any 2 S aS kS o aO cO' W (by omega) (by omega) hc2 hq2 (hS.keep hW) h1 h2 h3 (hT1.keep hW (Nat.le_refl _)) h (by omega) (fun _ => hl)
  unfold CovPost at cV
  rw [hlv] at cV
  simp only [if_pos hol] at cV
  have hcs := covR_tiny 2 h (by omega) rows o (by rw [leavesR_length 2 S rows hr, hl]) (leavesR_each 2 S rows hr)
  have hcs' : ∀ r ∈ covR 2 h rows o, r.length ≤ 140737488351232 := fun r hr => by have := hcs r hr; omega
  have hpo : isPow (o.length : Int) = true := by rw [hol]; exact hpw
  have hop := fun SO RO => rtd_open h (by omega) S rows o SO RO hl (by rw [hol, hl]) hr hpo
  have cD := fun W (hW : Below w1.heap.size w1 W) aO cO' h1 h2 h3 SO aO' kO s1 s2 hs RO aR kR r1 r2 hrb hl' => Rooted_any 2 o aO cO' SO aO' kO RO aR kR W (by omega) (by omega) h1 h2 h3 s1 s2 hs r1 r2 hrb hl' (hT1.keep hW (Nat.le_refl _)) h (by omega) (fun _ => by rw [hol, hl])
  have hfew := selO_few S o
  have HOP := Lib.hid hop
  have HCS := Lib.hid hcs'
  have HDR := Lib.hid cD
  generalize rootB 2 h rows = RB at *
  generalize covR 2 h rows o = CV at *
  generalize selO S o = SS at *
  obtain ⟨sn, hsn⟩ : ∃ k, S.length = k := ⟨_, rfl⟩
  rw [hsn] at cO hol hS16 cR cV hfew ⊢
  have HOL := Lib.hid hol
  rw [hol] at cV
  have hb01 := hb1
  clear hc2 hq2 hS hlv hr hroot hpw hcs hcs' hop cD hpo hl h4 hg hT1 hT ho hb1 hol
  go_wp2_with fail
  refine cO.mono ?_
  rintro e w2 ⟨v2, rfl, hoo, hb2⟩
  obtain ⟨aO, cO', rfl, o1, o2, o3⟩ := hoo.bools
  have HO12 := Lib.hid (And.intro o1 o2)
  rw [HOL.out] at o1 ⊢
  have cr := cR w2 hb2
  clear cO cR hoo
  go_wp2_with fail
  refine cr.mono ?_
  rintro e w3 ⟨v3, rfl, hr3, hb3⟩
  obtain ⟨a3, k3, rfl, -, -, -, b3⟩ := hr3.row
  have hb23 := below_step hb2 hb2.size hb3
  have o33 := o3.keep hb3
  have cv := cV w3 hb23 aO cO' o1 o2 o33
  obtain ⟨rb, hrb⟩ : ∃ k, RB.length = k := ⟨_, rfl⟩
  have HRB := Lib.hid hrb
  rw [hrb] at hrl ⊢
  clear cr cV hr3 hrb o3 hb3 hb2
  go_wp2_with fail
  refine cv.mono ?_
  rintro e w4 ⟨⟨sv, rv, rfl, hSl, hRl⟩, hb4⟩
  obtain ⟨aA, kA, rfl, s1, s2, -, sS⟩ := hSl.slots
  obtain ⟨aP, kP, rfl, p1, p2, -, pL⟩ := hRl.lines
  obtain ⟨c, hcn⟩ : ∃ k, SS.length = k := ⟨_, rfl⟩
  obtain ⟨q, hqn⟩ : ∃ k, CV.length = k := ⟨_, rfl⟩
  have HCN := Lib.hid hcn
  have HQN := Lib.hid hqn
  rw [hcn] at s1 hfew ⊢
  rw [hqn] at p1 ⊢
  have hba : Below w4.heap.size w4 (w4.alloc (.cells #[.slice aA c kA, .slice aP q kP] 26)) := (Below.refl _ _).alloc (Nat.le_refl _) _
  have zA : Blk (w4.alloc (.cells #[.slice aA c kA, .slice aP q kP] 26)) w4.heap.size 26 [.slice aA c kA, .slice aP q kP] := Blk.new w4 #[.slice aA c kA, .slice aP q kP] _
  have hb34 := below_step hb4 hb4.size hba
  have hb15 := below_step hb23 hb23.size hb34
  have sS5 := sS.keep hba
  have pL5 := pL.keep hba
  have o5 := o33.keep hb34
  have b5 := b3.keep hb34
  have hgtN : 0 < rb := hrl
  have hgtI : (0 : Int) < (rb : Int) := by omega
  have hrbI : ¬ (rb : Int) = 0 := by omega
  have hrb0 : ¬ rb = 0 := by omega
  clear cv hSl hRl sS pL hb4 hb23 hb34 o33 b3 hcn hqn hba
  go_upto_region 5 with fail
  generalize w4.alloc (.cells #[.slice aA c kA, .slice aP q kP] 26) = w5 at *
  generalize w4.heap.size = gA at *
  have hb05 := below_step hb01 hb01.size hb15
  have hBB := Below.refl w5.heap.size w5
  have HZA := Lib.hid zA
  clear zA
  go_wp2_with fail
  refine (cM _).mono ?_
  rintro e w6 ⟨rfl, rfl⟩
  clear cM
  have hMI : (M : Int) ≤ 16 := by omega
  go_wp2_with fail
  go_loopw [15, 53] (fun u ix wr => ∃ (j : Nat) (acc : List Sl), j ≤ M ∧ ix = .int .i64 j ∧ Hid (acc.length = j) ∧ OwnSl wr w5.heap.size u acc ∧ Below w5.heap.size w5 wr) (fun _ ix _ => M - (intOf ix).toNat)
  case atStart => exact ⟨0, [], Nat.zero_le _, rfl, Lib.hid rfl, OwnSl.nil _ _, hBB⟩
  case round =>
    obtain ⟨j, acc, hj, rfl, hvl, ho, hbw⟩ := hrel
    clear hBB
    by_cases h1 : j < M
    · have h1I : (j : Int) < M := by omega
      have H1 := Lib.hid h1
      have hac : acc.length ≤ 1000000 := by rw [hvl.out]; omega
      obtain ⟨r, hr⟩ : ∃ r, l3[j]? = some r := ⟨_, List.getElem?_eq_getElem (by have := HN3.out; omega)⟩
      obtain ⟨hf, a, p, rfl, ha, c0, c1, c2, c3⟩ := HG.out j r hr
      have hb0r := below_step hb05 hb05.size hbw
      have d0 := (hb0r.cell (p := ⟨a, p + j * 4, none⟩) ha).trans c0
      have d1 := (hb0r.cell (p := ⟨a, p + j * 4 + 1, none⟩) ha).trans c1
      have d2 := (hb0r.cell (p := ⟨a, p + j * 4 + 2, none⟩) ha).trans c2
      have d3 := (hb0r.cell (p := ⟨a, p + j * 4 + 3, none⟩) ha).trans c3
      have z2 : Blk (wr.alloc (.cells #[.int .i64 r.k, .int .i64 r.a, .int .i64 r.b, .string r.s] 48)) wr.heap.size 48 [.int .i64 r.k, .int .i64 r.a, .int .i64 r.b, .string r.s] := Blk.new wr #[.int .i64 r.k, .int .i64 r.a, .int .i64 r.b, .string r.s] _
      have bz2 : Below wr.heap.size wr (wr.alloc (.cells #[.int .i64 r.k, .int .i64 r.a, .int .i64 r.b, .string r.s] 48)) := (Below.refl _ _).alloc (Nat.le_refl _) _
      clear c0 c1 c2 c3 ha hb0r h1 hr
      go_upto_region 11 with fail
      clear d0 d1 d2 d3
      generalize wr.alloc (.cells #[.int .i64 r.k, .int .i64 r.a, .int .i64 r.b, .string r.s] 48) = W2 at *
      have q0 : W2.cell? ⟨wr.heap.size, 0, none⟩ = some (.int .i64 r.k) := z2.cell rfl
      have q1 : W2.cell? ⟨wr.heap.size, 1, none⟩ = some (.int .i64 r.a) := z2.cell rfl
      have q2 : W2.cell? ⟨wr.heap.size, 2, none⟩ = some (.int .i64 r.b) := z2.cell rfl
      have q3 : W2.cell? ⟨wr.heap.size, 3, none⟩ = some (.string r.s) := z2.cell rfl
      have cS := slotOf_any r hf W2
      have hb2 := below_step hbw hbw.size bz2
      have ho2 := ho.keep bz2
      clear z2 bz2 ho hbw hf
      generalize r.slot = x at *
      go_wp2_with fail
      refine cS.mono ?_
      rintro e w3' ⟨us, ud, rfl, hu, hv, hb3⟩
      have hbb := below_step hb2 hb2.size hb3
      have ho3 := ho2.keep hb3
      have hs3 := hbb.size
      have HNX : Hid ((acc ++ [x]).length = j + 1) := by show _ = _; rw [List.length_append, hvl.out]; rfl
      obtain ⟨a4, n4, k4, rfl⟩ : ∃ a n k, us = .slice a n k := by obtain ⟨a, k, e, _⟩ := id hu; exact ⟨_, _, _, e⟩
      obtain ⟨a5, n5, k5, rfl⟩ : ∃ a n k, ud = .slice a n k := by obtain ⟨a, k, e, _⟩ := id hv; exact ⟨_, _, _, e⟩
      clear cS q0 q1 q2 q3 hb2 ho2 hb3
      go_wp2_with (first
        | (at_builtin; refine wpList_append_slot rfl _ _ rfl w5.heap.size _ _ rfl ho3 x _ _ _ _ rfl rfl rfl hu hv hac hs3 ?_; intro v5 w5' ho5 hb5)
        | fail)
      go_roundw
      case rel => exact ⟨j + 1, _, H1.out, by go_num, HNX, ho5, hbb.trans hb5⟩
      case measure => have := H1.out; simp [intOf]; omega
    · have h1I : ¬ (j : Int) < M := by omega
      obtain ⟨aB, kB, rfl, t1, t2, -, tS⟩ := ho.slots
      have hjl := hvl.out
      have sSr := sS5.keep hbw
      have pLr := pL5.keep hbw
      have or5 := o5.keep hbw
      have br5 := b5.keep hbw
      have zr := HZA.out.call hbw
      have y0 := zr.cell (j := 0) rfl
      have y1 := zr.cell (j := 1) rfl
      have hb0r := below_step hb05 hb05.size hbw
      have hb1r := below_step hb15 hb15.size hbw
      have hlqr := HLQ.out.keep hb0r
      rw [hjl] at t1 ⊢
      have hbc : Below wr.heap.size wr (wr.alloc (.cells #[.slice aB j kB, .slice aq lq cq, .slice aB j kB, .slice aP q kP, .slice aA c kA, .slice aq lq cq] 26)) := (Below.refl _ _).alloc (Nat.le_refl _) _
      have zc : Blk (wr.alloc (.cells #[.slice aB j kB, .slice aq lq cq, .slice aB j kB, .slice aP q kP, .slice aA c kA, .slice aq lq cq] 26)) wr.heap.size 26 [.slice aB j kB, .slice aq lq cq, .slice aB j kB, .slice aP q kP, .slice aA c kA, .slice aq lq cq] := Blk.new wr #[.slice aB j kB, .slice aq lq cq, .slice aB j kB, .slice aP q kP, .slice aA c kA, .slice aq lq cq] _
      have sS7 := sS5.keep (below_step hbw hbw.size hbc)
      have pL7 := pLr.keep hbc
      have tS7 := tS.keep hbc
      have lq7 := hlqr.keep hbc
      have o7 := or5.keep hbc
      have b7 := br5.keep hbc
      have z7 := zr.call hbc
      have hb07 := below_step hb0r hb0r.size hbc
      have hb17 := below_step hb1r hb1r.size hbc
      clear h1 hj ho hvl sSr pLr or5 br5 zr tS hlqr hb0r hb1r hbw hbc sS5 pL5 o5 b5 HZA hb05 hb15
      go_upto_region 14 with fail
      clear y0 y1
      generalize wr.alloc (.cells #[.slice aB j kB, .slice aq lq cq, .slice aB j kB, .slice aP q kP, .slice aA c kA, .slice aq lq cq] 26) = w7 at *
      generalize wr.heap.size = gC at *
      have hcov : ∀ i, i < 3 → ∃ SO RO, CvIn w7 gC i SO RO := fun i hi => by
        rcases (show i = 0 ∨ i = 1 ∨ i = 2 by omega) with rfl | rfl | rfl
        · exact ⟨acc, rest, aB, kB, aq, cq, by rw [hjl]; exact zc.cell (j := 0) rfl, by rw [HQL.out]; exact zc.cell (j := 1) rfl, by rw [hjl]; exact t1, t2, tS7, HRQ.out.1, HRQ.out.2.1, HRQ.out.2.2, lq7⟩
        · exact ⟨acc, CV, aB, kB, aP, kP, by rw [hjl]; exact zc.cell (j := 2) rfl, by rw [HQN.out]; exact zc.cell (j := 3) rfl, by rw [hjl]; exact t1, t2, tS7, by rw [HQN.out]; exact p1, p2, HCS.out, pL7⟩
        · exact ⟨SS, rest, aA, kA, aq, cq, by rw [HCN.out]; exact zc.cell (j := 4) rfl, by rw [HQL.out]; exact zc.cell (j := 5) rfl, by rw [HCN.out]; exact s1, s2, sS7, HRQ.out.1, HRQ.out.2.1, HRQ.out.2.2, lq7⟩
      have HCOV := Lib.hid hcov
      have HZ7 := Lib.hid z7
      have HCL := Lib.hid zc.lt
      have H5 := Lib.hid (And.intro sS7 (And.intro o7 b7))
      have hcI : (c : Int) ≤ 16 := by omega
      clear hcov z7 zc sS7 o7 b7 tS7 lq7 pL7 t1 t2 s1 s2 p1 p2 hjl
      have hB7 := Below.refl w7.heap.size w7
      go_loopw [19, 20, 21, 22, 76] (fun _ _ _ _ ix wr => ∃ i : Nat, i ≤ 3 ∧ ix = .int .i64 i ∧ Below w7.heap.size w7 wr) (fun _ _ _ _ ix _ => 3 - (intOf ix).toNat)
      case atStart => exact ⟨0, by omega, rfl, hB7⟩
      case round =>
        obtain ⟨i, hi, rfl, hbr⟩ := hrel
        clear hB7
        by_cases hlt : i < 3
        · have iI : (i : Int) < 3 := by omega
          have H1 := Lib.hid hlt
          obtain ⟨SO, RO, aX, kX, aY, kY, x0, x1, x2, x3, x4, x5, x6, x7, x8⟩ := HCOV.out i hlt
          have x0' := (hbr.cell (p := ⟨gC, i * 2, none⟩) HCL.out).trans x0
          have x1' := (hbr.cell (p := ⟨gC, i * 2 + 1, none⟩) HCL.out).trans x1
          have hop := HOP.out SO RO
          obtain ⟨so, hso⟩ : ∃ k, SO.length = k := ⟨_, rfl⟩
          obtain ⟨ro, hro⟩ : ∃ k, RO.length = k := ⟨_, rfl⟩
          have hbx : Below wr.heap.size wr (wr.alloc (.cells #[.slice aX SO.length kX, .slice aY RO.length kY] 26)) := (Below.refl _ _).alloc (Nat.le_refl _) _
          have hb7x := below_step hbr hbr.size hbx
          have cd := HDR.out (wr.alloc (.cells #[.slice aX SO.length kX, .slice aY RO.length kY] 26)) (below_step hb17 hb17.size hb7x) aO cO' HO12.out.1 HO12.out.2 (H5.out.2.1.keep hb7x) SO aX kX x2 x3 (x4.keep hb7x) RO aY kY x5 x6 x7 (x8.keep hb7x)
          have zx : Blk (wr.alloc (.cells #[.slice aX SO.length kX, .slice aY RO.length kY] 26)) wr.heap.size 26 [.slice aX SO.length kX, .slice aY RO.length kY] := Blk.new wr #[.slice aX SO.length kX, .slice aY RO.length kY] _
          rw [HOL.out] at cd
          have HX4 := Lib.hid x4
          generalize rtdR 2 h o SO RO = RR at *
          rw [hso] at x0' cd zx hbx hb7x
          rw [hro] at x1' cd zx hbx hb7x
          have HSO := Lib.hid hso
          clear hlt x0 x1 x2 x3 x4 x5 x6 x7 x8 hbr hbx hro hso
          go_upto_region 16 with fail
          generalize wr.alloc (.cells #[.slice aX so kX, .slice aY ro kY] 26) = w8 at *
          generalize wr.heap.size = gX at *
          have q0 := zx.cell (j := 0) rfl
          have q1 := zx.cell (j := 1) rfl
          rcases hop with hop | ⟨x, hop, hxs⟩
          · subst hop
            go_wp2_with fail
            refine cd.mono ?_
            rintro e w9 ⟨rfl, hb9⟩
            have hb79 := below_step hb7x hb7x.size hb9
            clear cd q0 q1 zx hb9 hb7x
            go_wp2_with fail
            go_roundw
            case rel => exact ⟨i + 1, H1.out, by go_num, hb79⟩
            case measure => have := H1.out; simp [intOf]; omega
          · subst hop
            go_wp2_with fail
            refine cd.mono ?_
            rintro e w9 ⟨v9, rfl, hr9, hb9⟩
            have hb79 := below_step hb7x hb7x.size hb9
            obtain ⟨a9, k9, rfl, -, -, -, b9⟩ := hr9.row
            have f9 := bytes_string (cap := k9) b9
            have f3 := bytes_string (cap := k3) (H5.out.2.2.keep hb79)
            rw [HRB.out] at f3
            have zx9 := zx.call hb9
            clear cd q0 q1 zx hb9 hb7x hr9 b9
            obtain ⟨lx, hlx⟩ : ∃ k, x.length = k := ⟨_, rfl⟩
            rw [hlx] at f9 ⊢
            by_cases hxr : x = RB
            · have hS := hxs hxr
              subst hxr
              have hsc : so = c := by rw [← HSO.out, hS]; exact HCN.out
              subst hsc
              have y0 := zx9.cell (j := 0) rfl
              have y1 := (HZ7.out.call hb79).cell (j := 0) rfl
              have H9 := Lib.hid (And.intro zx9 hb79)
              clear zx9 hlx
              go_wp2_with fail
              have hB9 := Below.refl w9.heap.size w9
              go_loopw [22, 105] (fun _ ix wr => ∃ p : Nat, p ≤ so ∧ ix = .int .i64 p ∧ Below w9.heap.size w9 wr) (fun _ ix _ => so - (intOf ix).toNat)
              case atStart => exact ⟨0, Nat.zero_le _, rfl, hB9⟩
              case round =>
                obtain ⟨p, hp, rfl, hbr⟩ := hrel
                clear hB9 y0 y1 f9 f3
                by_cases hlt : p < so
                · have pI : (p : Int) < so := by omega
                  have H2 := Lib.hid hlt
                  obtain ⟨y, hy⟩ : ∃ y, SS[p]? = some y := ⟨_, List.getElem?_eq_getElem (by rw [HCN.out]; exact hlt)⟩
                  have hx4 := HX4.out
                  rw [hS] at hx4
                  rcases hx4 with h0 | ⟨gU, oU, eU, hgU, hatU⟩
                  · rw [h0] at hy; simp at hy
                  rcases H5.out.1 with h0 | ⟨gV, oV, eV, hgV, hatV⟩
                  · rw [h0] at hy; simp at hy
                  subst eU eV
                  obtain ⟨ua, ub, s0, s1, s2, s3, s4⟩ := hatU p y hy
                  obtain ⟨ta, tb, t0, t1, t2, t3, t4⟩ := hatV p y hy
                  have hb7r := below_step H9.out.2 H9.out.2.size hbr
                  have Q : Hid (∀ W, Below wr.heap.size wr W → W.cell? ⟨gX, 0, none⟩ = some (.slice (some ⟨gU, oU, none⟩) so kX) ∧ W.cell? ⟨gU, oU + p * 3, none⟩ = some (.bool y.f) ∧ W.cell? ⟨gU, oU + p * 3 + 1, none⟩ = some ua ∧ W.cell? ⟨gU, oU + p * 3 + 2, none⟩ = some ub ∧ W.cell? ⟨gA, 0, none⟩ = some (.slice (some ⟨gV, oV, none⟩) so kA) ∧ W.cell? ⟨gV, oV + p * 3, none⟩ = some (.bool y.f) ∧ W.cell? ⟨gV, oV + p * 3 + 1, none⟩ = some ta ∧ W.cell? ⟨gV, oV + p * 3 + 2, none⟩ = some tb) := Lib.hid fun W hW => by
                    have hq := below_step hbr hbr.size hW
                    have hq7 := below_step hb7r hb7r.size hW
                    exact ⟨(H9.out.1.call hq).cell (j := 0) rfl, (hq7.cell (p := ⟨gU, oU + p * 3, none⟩) hgU).trans s0, (hq7.cell (p := ⟨gU, oU + p * 3 + 1, none⟩) hgU).trans s1, (hq7.cell (p := ⟨gU, oU + p * 3 + 2, none⟩) hgU).trans s2, (HZ7.out.call hq7).cell (j := 0) rfl, (hq7.cell (p := ⟨gV, oV + p * 3, none⟩) hgV).trans t0, (hq7.cell (p := ⟨gV, oV + p * 3 + 1, none⟩) hgV).trans t1, (hq7.cell (p := ⟨gV, oV + p * 3 + 2, none⟩) hgV).trans t2⟩
                  have CS : Hid (∀ W, Below wr.heap.size wr W → Calls Tryd.prog 20 #[.agg #[.bool y.f, ua, ub], .agg #[.bool y.f, ta, tb]] W fun e w' => e = .returned (.bool true) ∧ Below W.heap.size W w') := Lib.hid fun W hW => by
                    have hq7 := below_step hb7r hb7r.size hW
                    have := sameSlot_any y y ua ub ta tb W (s3.keep hq7) (s4.keep hq7) (t3.keep hq7) (t4.keep hq7)
                    rw [decide_eq_true (rfl : y = y)] at this
                    exact this
                  obtain ⟨xa, xk, rfl, -⟩ := id s3
                  obtain ⟨xb, xl, rfl, -⟩ := id s4
                  obtain ⟨ya, yk, rfl, -⟩ := id t3
                  obtain ⟨yb, yl, rfl, -⟩ := id t4
                  generalize y.s.length = l1 at *
                  generalize y.d.length = l2 at *
                  generalize y.f = yf at *
                  clear hlt hy s0 s1 s2 s3 s4 t0 t1 t2 t3 t4 hgU hgV hatU hatV hb7r
                  go_upto_region 23 with fail
                  refine wp_region_det 12 (by kernel_rfl) (by kernel_rfl) (by kernel_rfl) ?_
                  simp only [List.take_succ_cons, List.take_zero, List.drop_succ_cons, List.drop_zero]
                  iterate 10 (apply wpDet_plain _ rfl; (focus (intro W hW; have qq := Q.out W hW; obtain ⟨z0, z1, z2, z3, z4, z5, z6, z7⟩ := qq; go_simp; exact ⟨rfl, Below.refl _ _⟩)); simp only [Act.put, List.setIfInBounds_toArray, List.set_cons_zero, List.set_cons_succ])
                  apply wpDet_plain _ rfl; (focus (intro W hW; go_simp; exact CS.out W hW)); simp only [Act.put, List.setIfInBounds_toArray, List.set_cons_zero, List.set_cons_succ]
                  iterate 1 (apply wpDet_plain _ rfl; (focus (intro W hW; go_simp; exact ⟨rfl, Below.refl _ _⟩)); simp only [Act.put, List.setIfInBounds_toArray, List.set_cons_zero, List.set_cons_succ])
                  refine wpDet_nil ?_; intro W hW
                  have hbr2 := below_step hbr hbr.size hW
                  clear Q CS hW hbr
                  go_wp2_with fail
                  go_roundw
                  case rel => exact ⟨p + 1, H2.out, by go_num, hbr2⟩
                  case measure => have := H2.out; simp [intOf]; omega
                · have pI : ¬ (p : Int) < so := by omega
                  have hb7r := below_step H9.out.2 H9.out.2.size hbr
                  clear hlt hp
                  go_wp2_with fail
                  go_roundw
                  case rel => exact ⟨i + 1, H1.out, by go_num, hb7r⟩
                  case measure => have := H1.out; simp [intOf]; omega
            · have hxe : (x == RB) = false := beq_false_of_ne hxr
              clear zx9 hlx
              go_wp2_with fail
              go_roundw
              case rel => exact ⟨i + 1, H1.out, by go_num, hb79⟩
              case measure => have := H1.out; simp [intOf]; omega
        · have iI : ¬ (i : Int) < 3 := by omega
          have hBB := below_step hb07 hb07.size hbr
          clear hlt hi
          go_wp2_with fail
          go_ret
          exact ⟨rfl, hBB⟩
end Go.Proofs.YtcplnfaopigoiaaDoor
