/-
  CONTRACT of the reference's rollOf.
  CONDITIONS: each theorem's own hypotheses.
-/
import Derived.Test.YtdpfjhhcgaeiiaaDoorPeak
import Derived.Test.YtdpfjhhcgaeiiaaDoorRollG
namespace Go.Proofs.YtdpfjhhcgaeiiaaDoor
open Go.RowKit CodeMath Go.Proofs.YtdpfjhhcgaeiiaaDoor.FrameMath
set_option linter.unusedVariables false
set_option maxRecDepth 100000

theorem OwnPk.moved {w w1 : World} {base g : Nat} {v : Value} {ps : List Pk} {cs : List Value} (h : OwnPk w base v ps) (hne : v.ownBlock ≠ some g) (hB : Blk w g 120 cs) (hg : w.grownBy w1 (some g)) : OwnPk w1 base v ps := by
  obtain ⟨us, h1, h2⟩ := h
  refine ⟨us, World.ownsRow.kept (row := some g) h1 hg (.inr hne), fun i x hi => ?_⟩
  obtain ⟨u, k1, k2, k3⟩ := h2 i x hi
  exact ⟨u, k1, k2, k3.grownT hg (fun b hb => by cases hb; exact ⟨_, _, _, hB, not_bytePk⟩)⟩
theorem OwnPk.lt {w : World} {base : Nat} {v : Value} {ps : List Pk} (h : OwnPk w base v ps) (g : Nat) (hg : w.heap.size ≤ g) : v.ownBlock ≠ some g := by
  obtain ⟨us, h1, h2⟩ := h
  intro he
  have := (h1.lt g he).2
  omega
theorem OwnPk.count {w : World} {base : Nat} {v : Value} {ps : List Pk} (h : OwnPk w base v ps) : ∃ a c, v = .slice a ps.length c ∧ ps.length ≤ c ∧ c ≤ 9223372036854775807 := by
  obtain ⟨us, h1, h2⟩ := h
  rcases h1.2 with ⟨rfl, h0⟩ | ⟨g, cap, cur, rfl, k1, k2, k3, k4, _⟩
  · exact ⟨none, 0, by rw [h0], by omega, by decide⟩
  · exact ⟨_, cap, rfl, k3, by unfold maxLen at k4; omega⟩
theorem peaks_count (m : Int) : ∀ (ps : List Pk), (∀ p ∈ ps, p.Ok m) → ps.length ≤ (flatP ps).length
  | [], _ => Nat.le_refl _
  | p :: ps, h => by
    have ih := peaks_count m ps (fun q hq => h q (List.mem_cons_of_mem _ hq))
    have hp := (h p (by simp)).1
    have h0 : 0 < 2 ^ p.a := Nat.pow_pos (by decide)
    rw [flatP_cons, List.length_append, hp]
    simp; omega
theorem peaks_snoc {m : Int} {ps : List Pk} {p : Pk} (h : Peaks m ps) (hp : p.Ok m) (hb : ∀ s ∈ ps, p.a < s.a) : Peaks m (ps ++ [p]) := by
  refine ⟨fun s hs => ?_, ?_⟩
  · rcases List.mem_append.1 hs with hs | hs
    · exact h.1 s hs
    · simp at hs; subst hs; exact hp
  · rw [List.pairwise_append]
    refine ⟨h.2, by simp, fun a ha b hb' => ?_⟩
    simp at hb'; subst hb'
    exact hb a ha
theorem peaks_init {m : Int} {ps : List Pk} {q : Pk} (h : Peaks m (ps ++ [q])) : Peaks m ps ∧ q.Ok m ∧ ∀ s ∈ ps, q.a < s.a := by
  have h2 := List.pairwise_append.1 h.2
  exact ⟨⟨fun s hs => h.1 s (by simp [hs]), h2.1⟩, h.1 q (by simp), fun s hs => h2.2.2 s hs q (by simp)⟩
theorem pow_inj_lt {a b : Nat} (h : b ≤ a) (hne : 2 ^ a ≠ 2 ^ b) : b < a := by
  rcases Nat.lt_or_ge b a with h1 | h1
  · exact h1
  · exact absurd (by rw [Nat.le_antisymm h1 h]) hne
theorem pow_inj_eq {a b : Nat} (h : b ≤ a) (he : 2 ^ a = 2 ^ b) : a = b := by
  rcases Nat.lt_or_ge b a with h1 | h1
  · have := Nat.pow_lt_pow_right (a := 2) (by decide) h1
    omega
  · omega
theorem slicePk (ao : Option Addr) (n cap m : Nat) (hm : m ≤ cap) (W : World) : (Instr.slice 118 (.slice ao n cap) none (some (.int .i64 (m : Int))) none).run Tryd.prog W = .ok (.slice ao m cap) W := by
  have hs : (sizeOf (Tryd.prog.elem 118)).run Tryd.prog W = .ok 2 W := by kernel_rfl
  have h := run_slice_h (P := Tryd.prog) W 118 ao n cap (by kernel_rfl) .i64 (m : Int) (by omega) (by omega)
  rw [h, hs, Int.toNat_natCast]
  simp only [Result.andThen, sliced, Nat.sub_zero]
  cases ao with
  | none => simp
  | some a => simp [Addr.add]
set_option maxHeartbeats 8000000 in
theorem rollOf_any (m : Int) (hm : isMode m = true) (m0 : -9223372036854775808 ≤ m) (m1 : m ≤ 9223372036854775807) (l : List (List UInt8)) (ap : Option Addr) (cap : Nat) (w : World) (h64 : l.length ≤ 64) (hc : l.length ≤ cap) (hq : cap ≤ 9223372036854775807) (hB : ∀ x ∈ l, x.length ≤ 140737488351232) (hl : Lines w ap l) :
    Calls Tryd.prog 73 #[.int .i64 m, .slice ap l.length cap] w (DigPost (rollR m l) w) := by
  have hBB := Below.refl w.heap.size w
  by_cases hn0 : l.length = 0
  · obtain rfl := List.eq_nil_of_length_eq_zero hn0
    have cD := DigestOf_any m 4 [] none 0 w m0 m1 (by decide) (by decide) (by simp) (by simp) (.inl rfl)
    rw [rollR_nil]
    rw [show ([] : List (List UInt8)).length = 0 from rfl] at *
    generalize digR m 4 [] = R at *
    clear hB hl hc hq h64 hn0
    go_enter Tryd.func73, Tryd.ntmps73
    go_wp2_with fail
    refine cD.mono ?_
    intro e w1 hpost
    cases R with
    | err c =>
      obtain ⟨rfl, hb⟩ := hpost
      go_wp2_with fail
      go_ret2
      exact ⟨rfl, hb⟩
    | ok x =>
      obtain ⟨v, rfl, hr, hb⟩ := hpost
      obtain ⟨a, k, rfl, -⟩ := id hr
      go_wp2_with fail
      go_ret2
      exact ⟨_, rfl, hr, hb⟩
  · obtain ⟨n, hn⟩ : ∃ n, l.length = n := ⟨_, rfl⟩
    have HN := Lib.hid hn
    rw [hn] at hc hn0 h64 ⊢
    have hnI0 : ((n : Int) == 0) = false := by simp; omega
    have hnI : (n : Int) ≤ 64 := by omega
    have H64 := Lib.hid h64
    have HN0 := Lib.hid hn0
    have HM := Lib.hid hm
    obtain ⟨RR, hRR⟩ : ∃ R, rollR m l = R := ⟨_, rfl⟩
    rw [hRR]
    have HRR := Lib.hid hRR
    clear hn hRR hc hq h64 hn0 hm
    go_enter Tryd.func73, Tryd.ntmps73
    go_wp2_with fail
    go_loopw [6, 28] (fun u ix wr => ∃ (t : Nat) (ps : List Pk), t ≤ n ∧ ix = .int .i64 t ∧ OwnPk wr w.heap.size u ps ∧ Hid (Peaks m ps) ∧ Hid (flatP ps = l.take t) ∧ Below w.heap.size w wr) (fun _ ix _ => n - (intOf ix).toNat)
    case atStart => exact ⟨0, [], Nat.zero_le _, rfl, OwnPk.nil _ _, Lib.hid ⟨by simp, List.Pairwise.nil⟩, Lib.hid (by simp [flatP]), hBB⟩
    case round =>
      obtain ⟨t, ps, htn, rfl, ho, hpk, hfl, hbr⟩ := hrel
      clear hBB
      by_cases hlt : t < n
      · have tI : (t : Int) < n := by omega
        have htn' : t < l.length := by have := HN.out; omega
        obtain ⟨x, hx⟩ : ∃ x, l[t]? = some x := ⟨_, List.getElem?_eq_getElem htn'⟩
        have hxB := hB x (List.mem_of_getElem? hx)
        rcases hl with h0 | ⟨al, ol, rfl, hal, h3⟩
        · rw [h0] at hx; simp at hx
        · obtain ⟨A1, c1, q1, q2, q3, q4, q5⟩ := h3 t x hx
          have hcell := (hbr.cell (p := ⟨al, ol + t, none⟩) hal).trans q1
          have hrx : RowV wr (.slice A1 x.length c1) x := ⟨A1, c1, rfl, q2, q3, q4, q5.keep hbr⟩
          have hlin := lines_one wr _ 29 x hrx
          have cD := DigestOf_any m 5 [x] (some ⟨wr.heap.size, 0, none⟩) 1 (wr.alloc (.cells #[.slice A1 x.length c1] 29)) m0 m1 (by decide) (by decide) (by simp) (fun l hl => by simp at hl; subst hl; exact hxB) hlin
          rw [show [x].length = 1 from rfl] at cD
          have hba := (Below.refl wr.heap.size wr).alloc (Nat.le_refl _) (.cells #[.slice A1 x.length c1] 29)
          have HX := Lib.hid hx
          have HLT := Lib.hid hlt
          cases hR5 : digR m 5 [x] with
          | err c =>
            have hc1 := digR_err1 HM.out (t := 5) ⟨by decide, by decide⟩ hR5
            subst hc1
            have hbad : RR = .err 1 := by
              rw [← HRR.out]
              refine bad_one HM.out fun z hz => ?_
              obtain ⟨y, hy⟩ := rollR_entry m l z hz t x hx
              rw [hR5] at hy
              cases hy
            subst hbad
            rw [hR5] at cD
            generalize x.length = lx at *
            clear hrx hlin hx hlt hR5 h3 q1 q2 q3 q4 q5 ho hxB htn' htn
            go_wp2_with fail
            refine cD.mono ?_
            rintro e w2 ⟨rfl, hb2⟩
            have hbb := below_step hbr hbr.size (below_step hba hba.size hb2)
            clear cD
            go_wp2_with fail
            go_ret2
            exact ⟨rfl, hbb⟩
          | ok d =>
            rw [hR5] at cD
            obtain ⟨p0, hp0⟩ : ∃ p : Pk, p = ⟨0, [x], d⟩ := ⟨_, rfl⟩
            have hp0k : p0.Ok m := by rw [hp0]; exact ⟨rfl, by rw [rollR_one]; exact hR5⟩
            have hd0 : d = p0.r := by rw [hp0]
            have ha0 : p0.a = 0 := by rw [hp0]
            have hs0 : p0.seg = [x] := by rw [hp0]
            have hfl1 : Hid (flatP ps ++ p0.seg = l.take (t + 1)) := by
              show _ = _
              rw [hfl.out, hs0, List.take_succ_eq_append_getElem htn', (List.getElem?_eq_some_iff.1 hx).2]
            have HP0 := Lib.hid hp0k
            have HA0 := Lib.hid ha0
            subst hd0
            have hbase := hbr.size
            generalize x.length = lx at *
            clear hrx hlin hx hlt hR5 h3 q1 q2 q3 q4 q5 hxB htn' htn hp0 hp0k ha0 hs0
            go_wp2_with fail
            refine cD.mono ?_
            rintro e w2 ⟨v2, rfl, hr2, hb2⟩
            have hb12 := below_step hba hba.size hb2
            have hbb := below_step hbr hbr.size hb12
            have ho2 := ho.keep hb12
            clear cD hba hb2 ho
            obtain ⟨a2, k2, rfl, -⟩ := id hr2
            have hba2 := (Below.refl w2.heap.size w2).alloc (Nat.le_refl _) (.cells #[.int .i64 1, .slice a2 p0.r.length k2] 120)
            have ho3 := ho2.keep hba2
            have hne3 := ho2.lt w2.heap.size (Nat.le_refl _)
            have hr3 := hr2.keep hba2
            have hB3 : Blk (w2.alloc (.cells #[.int .i64 1, .slice a2 p0.r.length k2] 120)) w2.heap.size 120 [.int .i64 ((2 ^ p0.a : Nat) : Int), .slice a2 p0.r.length k2] := by
              rw [HA0.out]; exact Blk.new w2 _ _
            have hbb3 := below_step hbb hbb.size hba2
            have hgb : w.heap.size ≤ w2.heap.size := hbb.size
            clear hba2 ho2 hr2 hbb hb12
            go_wp2_with fail
            go_loopw [6] (fun u wr => ∃ (ps : List Pk) (p : Pk) (v : Value), OwnPk wr w.heap.size u ps ∧ Hid (u.ownBlock ≠ some w2.heap.size) ∧ Blk wr w2.heap.size 120 [.int .i64 ((2 ^ p.a : Nat) : Int), v] ∧ RowT wr v p.r ∧ Hid (Peaks m ps) ∧ Hid (∀ s ∈ ps, p.a ≤ s.a) ∧ Hid (p.Ok m) ∧ Hid (flatP ps ++ p.seg = l.take (t + 1)) ∧ Below w.heap.size w wr) (fun u _ => lenS u)
            case atStart => exact ⟨ps, p0, _, ho3, Lib.hid hne3, hB3, hr3, hpk, Lib.hid (fun s hs => by rw [HA0.out]; exact Nat.zero_le _), HP0, hfl1, hbb3⟩
            case round =>
              obtain ⟨ps2, p, v, ho4, hne, hB, hr, hpk2, hge, hpo, hfl2, hbz⟩ := hrel
              clear hB3 hr3 ho3 hbb3 hne3 hpk hfl hfl1 HP0
              obtain ⟨av, kv, rfl, -⟩ := id hr
              have hct : ps2.length ≤ 64 := by
                have h1 := peaks_count m ps2 hpk2.out.1
                have h2 := congrArg List.length hfl2.out
                rw [List.length_append, List.length_take] at h2
                have := HN.out; have := H64.out; omega
              have hpa : 2 ^ p.a ≤ 64 := by
                have h1 := hpo.out.1
                have h2 := congrArg List.length hfl2.out
                rw [List.length_append, List.length_take, h1] at h2
                have := HN.out; have := H64.out; omega
              have hpa0 : 0 < 2 ^ p.a := Nat.pow_pos (by decide)
              obtain ⟨Y, hY⟩ : ∃ Y : Int, ((2 ^ p.a : Nat) : Int) = Y := ⟨_, rfl⟩
              have HY := Lib.hid hY.symm
              have hY1 : 1 ≤ Y := by omega
              have hY64 : Y ≤ 64 := by omega
              rw [hY] at hB
              have HCT := Lib.hid hct
              clear hY hpa hpa0
              obtain ⟨ao, co, rfl, hco1, hco2⟩ := ho4.count
              clear hco2
              rcases List.eq_nil_or_concat ps2 with rfl | ⟨ps', q, rfl⟩
              · have HPS : Hid (Peaks m ([] ++ [p])) := peaks_snoc hpk2.out hpo.out (by simp)
                have HFL : Hid (flatP ([] ++ [p]) = l.take (t + 1)) := by
                  show _ = _
                  rw [flatP_snoc]; exact hfl2.out
                have HC := Lib.hid (fun W (hW : Below wr.heap.size wr W) => (⟨Blk.cell (hB.call hW) rfl, trivial⟩ : W.cell? ⟨w2.heap.size, 0, none⟩ = some (.int .i64 Y) ∧ True))
                rw [show ([] : List Pk).length = 0 from rfl] at *
                clear hct hge hpo hpk2 hfl2 hne hco1
                go_upto_region 11 with fail
                refine wp_region_det 15 (by kernel_rfl) (by kernel_rfl) (by kernel_rfl) ?_
                simp only [List.take_succ_cons, List.take_zero, List.drop_succ_cons, List.drop_zero]
                iterate 4 (apply wpDet_plain _ rfl; (focus (intro W hW; obtain ⟨z1, z2⟩ := HC.out W hW; go_simp; exact ⟨rfl, Below.refl _ _⟩)); simp only [Act.put, List.setIfInBounds_toArray, List.set_cons_zero, List.set_cons_succ])
                iterate 10 (refine wpDet_skip (by kernel_rfl) ?_; simp only [Act.put, List.setIfInBounds_toArray, List.set_cons_zero, List.set_cons_succ])
                iterate 1 (apply wpDet_plain _ rfl; (focus (intro W hW; obtain ⟨z1, z2⟩ := HC.out W hW; go_simp; exact ⟨rfl, Below.refl _ _⟩)); simp only [Act.put, List.setIfInBounds_toArray, List.set_cons_zero, List.set_cons_succ])
                refine wpDet_nil ?_
                intro W hW
                have hBW := hB.call hW
                have hrW := hr.keep hW
                have hoW := ho4.keep hW
                have hbW := below_step hbz hbz.size hW
                clear HC hB hr ho4 hbz
                go_upto_region 17 with fail
                have e0 : W.cell? ⟨w2.heap.size, 0, none⟩ = some (.int .i64 Y) := hBW.cell rfl
                have e1 : W.cell? ⟨w2.heap.size, 1, none⟩ = some (.slice av p.r.length kv) := hBW.cell rfl
                generalize p.r.length = lr at *
                go_wp2_with (first
                  | (at_builtin; refine wpList_append_peak rfl _ _ rfl w.heap.size _ [] rfl hoW p _ _ _ rfl rfl (congrArg (Value.int .i64) HY.out) hrW (by first | (simp; done) | (have := HCT.out; omega)) hbW.size ?_; intro v5 w5 ho5 hb5)
                  | fail)
                have hbb5 := hbW.trans hb5
                clear e0 e1 hBW hrW hoW hb5
                go_roundw
                case rel => exact ⟨t + 1, _, HLT.out, by go_num, ho5, HPS, HFL, hbb5⟩
                case measure => have := HLT.out; simp [intOf]; omega
              · rw [List.concat_eq_append] at *
                obtain ⟨hp', hqo, hqb⟩ := peaks_init hpk2.out
                obtain ⟨L, hL⟩ : ∃ L, (ps' ++ [q]).length = L := ⟨_, rfl⟩
                obtain ⟨j, hj⟩ : ∃ j, ps'.length = j := ⟨_, rfl⟩
                have hLj : L = j + 1 := by rw [← hL, List.length_append, hj]; rfl
                obtain ⟨k, ck, uq, ek, ek1, ek2, ek3, ek4, d1, d2, d3⟩ := ho4.at j q (by rw [List.getElem?_append_right (by omega), hj, Nat.sub_self]; rfl)
                obtain ⟨ea, -, eb⟩ := Value.slice.inj ek
                subst ea
                subst eb
                rw [hL] at ho4 hct hco1 hne ⊢
                have hLI : (L : Int) - 1 = (j : Int) := by omega
                have hLI0 : (0 : Int) < (L : Int) := by omega
                have hL0 : 0 < L := by omega
                have hLI64 : (L : Int) ≤ 64 := by omega
                have hjL : (j : Int) < (L : Int) := by omega
                have hjI : (j : Int) ≤ 64 := by omega
                have hwj : IntKind.i64.wrap (j : Int) = (j : Int) := by rw [IntKind.wrap_i64]; omega
                have hw2 : IntKind.i64.wrap (2 * Y) = 2 * Y := by rw [IntKind.wrap_i64]; omega
                obtain ⟨aq, kq, rfl, -⟩ := id d3
                have HJL := Lib.hid (show j < L by omega)
                have HJC := Lib.hid (show j ≤ co by omega)
                by_cases hqa : q.a = p.a
                · rw [hqa, HY.out.symm] at d1
                  have HC := Lib.hid (fun W (hW : Below wr.heap.size wr W) => (⟨Blk.cell (hB.call hW) rfl, (hW.cell (p := ⟨k, j * 2, none⟩) ek4).trans d1⟩ : W.cell? ⟨w2.heap.size, 0, none⟩ = some (.int .i64 Y) ∧ W.cell? ⟨k, j * 2, none⟩ = some (.int .i64 Y)))
                  have HL := Lib.hid hL
                  have HLJ := Lib.hid hLj
                  have HJ := Lib.hid hj
                  clear hct hco1 ek1 ek2 ek hL hLj hj
                  go_upto_region 11 with fail
                  refine wp_region_det 15 (by kernel_rfl) (by kernel_rfl) (by kernel_rfl) ?_
                  simp only [List.take_succ_cons, List.take_zero, List.drop_succ_cons, List.drop_zero]
                  iterate 4 (apply wpDet_plain _ rfl; (focus (intro W hW; obtain ⟨z1, z2⟩ := HC.out W hW; go_simp; exact ⟨rfl, Below.refl _ _⟩)); simp only [Act.put, List.setIfInBounds_toArray, List.set_cons_zero, List.set_cons_succ])
                  iterate 10 (apply wpDet_want _ (by kernel_rfl); (focus (intro W hW; obtain ⟨z1, z2⟩ := HC.out W hW; go_simp; exact ⟨rfl, Below.refl _ _⟩)); simp only [Act.put, List.setIfInBounds_toArray, List.set_cons_zero, List.set_cons_succ])
                  iterate 1 (apply wpDet_plain _ rfl; (focus (intro W hW; obtain ⟨z1, z2⟩ := HC.out W hW; go_simp; exact ⟨rfl, Below.refl _ _⟩)); simp only [Act.put, List.setIfInBounds_toArray, List.set_cons_zero, List.set_cons_succ])
                  refine wpDet_nil ?_
                  intro W hW
                  have hBW := hB.call hW
                  have hrW := hr.keep hW
                  have hoW := ho4.keep hW
                  have hbW := below_step hbz hbz.size hW
                  have hkW : k < W.heap.size := Nat.lt_of_lt_of_le ek4 hW.size
                  have d1W := (hW.cell (p := ⟨k, j * 2, none⟩) ek4).trans d1
                  have d2W := (hW.cell (p := ⟨k, j * 2 + 1, none⟩) ek4).trans d2
                  have d3W := d3.keep hW
                  have e0 : W.cell? ⟨w2.heap.size, 0, none⟩ = some (.int .i64 Y) := hBW.cell rfl
                  have e1 : W.cell? ⟨w2.heap.size, 1, none⟩ = some (.slice av p.r.length kv) := hBW.cell rfl
                  have hba4 := (Below.refl W.heap.size W).alloc (Nat.le_refl _) (.cells #[.int .i64 Y, .slice aq q.r.length kq] 120)
                  have e1' := (hba4.cell (p := ⟨w2.heap.size, 1, none⟩) hBW.lt).trans e1
                  have hq4 : Blk (W.alloc (.cells #[.int .i64 Y, .slice aq q.r.length kq] 120)) W.heap.size 120 [.int .i64 Y, .slice aq q.r.length kq] := Blk.new W _ _
                  have e2' : (W.alloc (.cells #[.int .i64 Y, .slice aq q.r.length kq] 120)).cell? ⟨W.heap.size, 1, none⟩ = some (.slice aq q.r.length kq) := hq4.cell rfl
                  obtain ⟨W4, hW4⟩ : ∃ V, W.alloc (.cells #[.int .i64 Y, .slice aq q.r.length kq] 120) = V := ⟨_, rfl⟩
                  rw [hW4] at hba4 e1' e2'
                  clear HC hB hr ho4 hbz hq4 d1 d2 d3
                  go_upto_region 13 with fail
                  clear hW4 d1W d2W e0 e1
                  have hrq4 := d3W.keep hba4
                  have hrp4 := hrW.keep hba4
                  have hrp : p.r.length ≤ 16777300 := rollR_len m _ p.seg p.r (Nat.le_refl _) hpo.out.2
                  have hrq : q.r.length ≤ 16777300 := rollR_len m _ q.seg q.r (Nat.le_refl _) hqo.2
                  have cD6 := DigestOf_any m 6 [q.r, p.r] (some ⟨W4.heap.size, 0, none⟩) 2 (W4.alloc (.cells #[.slice aq q.r.length kq, .slice av p.r.length kv] 29)) m0 m1 (by decide) (by decide) (by simp) (fun l hl => by simp at hl; rcases hl with rfl | rfl <;> omega) (lines_two W4 _ _ _ _ _ hrq4.row hrp4.row)
                  rw [show [q.r, p.r].length = 2 from rfl] at cD6
                  have hba5 := (Below.refl W4.heap.size W4).alloc (Nat.le_refl _) (.cells #[.slice aq q.r.length kq, .slice av p.r.length kv] 29)
                  have hmerge := merge_ok m q p hqo hpo.out hqa
                  cases hR6 : digR m 6 [q.r, p.r] with
                  | err c =>
                    have hc1 := digR_err1 HM.out (t := 6) ⟨by decide, by decide⟩ hR6
                    subst hc1
                    have hbad : RR = .err 1 := by
                      rw [← HRR.out]
                      refine bad_one HM.out fun z hz => ?_
                      refine merge_bad m l ps' q p (l.drop (t + 1)) ?_ hp' hqb hqo hpo.out hqa 1 hR6 z hz
                      have h2 := hfl2.out
                      rw [flatP_snoc, List.append_assoc] at h2
                      rw [h2, List.take_append_drop]
                    subst hbad
                    rw [hR6] at cD6
                    generalize p.r.length = lpr at *
                    generalize q.r.length = lqr at *
                    clear hR6 hmerge hrp hrq hrq4 hrp4 hp' hqb hqo hpk2 hge hpo hfl2 hoW hne d3W hrW hBW
                    go_wp2_with fail
                    refine cD6.mono ?_
                    rintro e w6 ⟨rfl, hb6⟩
                    have hbb := below_step (below_step hbW hbW.size hba4) (Nat.le_trans hbW.size hba4.size) (below_step hba5 hba5.size hb6)
                    clear cD6
                    go_wp2_with fail
                    go_ret2
                    exact ⟨rfl, hbb⟩
                  | ok d6 =>
                    rw [hR6] at cD6 hmerge
                    obtain ⟨p6, hp6⟩ : ∃ P : Pk, P = ⟨p.a + 1, q.seg ++ p.seg, d6⟩ := ⟨_, rfl⟩
                    have hd6 : d6 = p6.r := by rw [hp6]
                    have ha6 : p6.a = p.a + 1 := by rw [hp6]
                    have hs6 : p6.seg = q.seg ++ p.seg := by rw [hp6]
                    have HP6 : Hid (p6.Ok m) := by rw [hp6]; exact ⟨hmerge.2, hmerge.1⟩
                    have HFL6 : Hid (flatP ps' ++ p6.seg = l.take (t + 1)) := by
                      show _ = _
                      have h2 := hfl2.out
                      rw [flatP_snoc, List.append_assoc] at h2
                      rw [hs6]; exact h2
                    have HGE6 : Hid (∀ s ∈ ps', p6.a ≤ s.a) := by
                      show ∀ s ∈ ps', p6.a ≤ s.a
                      intro s hs
                      have := hqb s hs
                      omega
                    have HP' := Lib.hid hp'
                    have HY6 : Hid (((2 ^ p6.a : Nat) : Int) = 2 * Y) := by
                      show _ = _
                      rw [ha6, Nat.pow_succ, HY.out]; omega
                    subst hd6
                    clear hp6 ha6 hs6 hmerge hp' hqb hqo hpk2 hge hfl2 hR6
                    have hBL := hBW.lt
                    have hB4 := hBW.call hba4
                    have ho5 := hoW.keep hba4
                    have hb04 := below_step hbW hbW.size hba4
                    generalize p.r.length = lpr at *
                    generalize q.r.length = lqr at *
                    clear hrp hrq hrq4 hrp4 hoW d3W hrW hBW hpo
                    go_wp2_with fail
                    refine cD6.mono ?_
                    rintro e w6 ⟨v6, rfl, hr6, hb6⟩
                    have hb46 := below_step hba5 hba5.size hb6
                    have hbb := below_step hb04 hb04.size hb46
                    have hB6 := hB4.call hb46
                    have ho6 := ho5.keep hb46
                    obtain ⟨a6, k6, rfl, -⟩ := id hr6
                    have HC := Lib.hid (fun V (hV : Below w6.heap.size w6 V) => (⟨Blk.cell (hB6.call hV) rfl, slicePk (some ⟨k, 0, none⟩) L co j HJC.out V⟩ : V.cell? ⟨w2.heap.size, 0, none⟩ = some (.int .i64 Y) ∧ _))
                    clear cD6 hba5 hb6 hB4 ho5 hb04 hb46 hba4 hbW e1' e2'
                    generalize p6.r.length = lp6 at *
                    go_upto_region 16 with fail
                    refine wp_region_det 11 (by kernel_rfl) (by kernel_rfl) (by kernel_rfl) ?_
                    simp only [List.take_succ_cons, List.take_zero, List.drop_succ_cons, List.drop_zero]
                    iterate 11 (apply wpDet_plain _ rfl; (focus (intro W hW; obtain ⟨z1, z2⟩ := HC.out W hW; go_simp; exact ⟨rfl, Below.refl _ _⟩)); simp only [Act.put, List.setIfInBounds_toArray, List.set_cons_zero, List.set_cons_succ])
                    refine wpDet_nil ?_
                    intro V hV
                    have hBV := hB6.call hV
                    have hrV := hr6.keep hV
                    have hoV := ho6.keep hV
                    have hbV := below_step hbb hbb.size hV
                    have g0 : V.cell? ⟨w2.heap.size, 0, none⟩ = some (.int .i64 Y) := hBV.cell rfl
                    have g1 : V.cell? ⟨w2.heap.size, 1, none⟩ = some (.slice av lpr kv) := hBV.cell rfl
                    have f0 := hBV.free 0
                    have f1 := hBV.free 1
                    have hBs := (hBV.set 0 (.int .i64 (2 * Y))).set 1 (.slice a6 lp6 k6)
                    have hgs := grown_trans (grown_set V ⟨w2.heap.size, 0, none⟩ (.int .i64 (2 * Y))) (grown_set (V.setCell ⟨w2.heap.size, 0, none⟩ (.int .i64 (2 * Y))) ⟨w2.heap.size, 1, none⟩ (.slice a6 lp6 k6))
                    have hrs := hrV.grownT hgs (fun b hb => by cases hb; exact ⟨_, _, _, hBV, not_bytePk⟩)
                    have hos := hoV.moved hne.out hBV hgs
                    have hbs := hbV.grown hgs hbV.size (fun k hk => by cases hk; exact hgb)
                    clear HC hB6 hr6 ho6 hbb hBV hrV hoV hbV hgs hV
                    go_wp2_with fail
                    go_roundw
                    case rel => exact ⟨ps', p6, _, OwnPk.pop HJ.out (by rw [HLJ.out] at hos; exact hos), hne, by rw [HY6.out]; exact hBs, hrs, HP', HGE6, HP6, HFL6, hbs⟩
                    case measure => have := HJL.out; simp [lenS]; omega
                · have hne2 : ¬ 2 ^ q.a = 2 ^ p.a := fun h => hqa (pow_inj_eq (hge.out q (by simp)) h)
                  have hlt2 : p.a < q.a := pow_inj_lt (hge.out q (by simp)) hne2
                  have HPS : Hid (Peaks m ((ps' ++ [q]) ++ [p])) := peaks_snoc hpk2.out hpo.out (fun s hs => by
                    rcases List.mem_append.1 hs with hs | hs
                    · exact Nat.lt_trans hlt2 (hqb s hs)
                    · simp at hs; subst hs; exact hlt2)
                  have HFL : Hid (flatP ((ps' ++ [q]) ++ [p]) = l.take (t + 1)) := by
                    show _ = _
                    rw [flatP_snoc]; exact hfl2.out
                  obtain ⟨Z, hZ⟩ : ∃ Z : Int, ((2 ^ q.a : Nat) : Int) = Z := ⟨_, rfl⟩
                  have hZY : (Z == Y) = false := by
                    have : Z ≠ Y := fun h => hne2 (by have := HY.out; omega)
                    simp [this]
                  rw [hZ] at d1
                  have HC := Lib.hid (fun W (hW : Below wr.heap.size wr W) => (⟨Blk.cell (hB.call hW) rfl, (hW.cell (p := ⟨k, j * 2, none⟩) ek4).trans d1⟩ : W.cell? ⟨w2.heap.size, 0, none⟩ = some (.int .i64 Y) ∧ W.cell? ⟨k, j * 2, none⟩ = some (.int .i64 Z)))
                  have HLL := Lib.hid hL
                  clear hct hco1 ek1 ek2 ek hL hLj hj hne2 hlt2 hpk2 hge hpo hfl2 hqb hp' hqo d1 d2 d3 hZ hqa
                  go_upto_region 11 with fail
                  refine wp_region_det 15 (by kernel_rfl) (by kernel_rfl) (by kernel_rfl) ?_
                  simp only [List.take_succ_cons, List.take_zero, List.drop_succ_cons, List.drop_zero]
                  iterate 4 (apply wpDet_plain _ rfl; (focus (intro W hW; obtain ⟨z1, z2⟩ := HC.out W hW; go_simp; exact ⟨rfl, Below.refl _ _⟩)); simp only [Act.put, List.setIfInBounds_toArray, List.set_cons_zero, List.set_cons_succ])
                  iterate 10 (apply wpDet_want _ (by kernel_rfl); (focus (intro W hW; obtain ⟨z1, z2⟩ := HC.out W hW; go_simp; exact ⟨rfl, Below.refl _ _⟩)); simp only [Act.put, List.setIfInBounds_toArray, List.set_cons_zero, List.set_cons_succ])
                  iterate 1 (apply wpDet_plain _ rfl; (focus (intro W hW; obtain ⟨z1, z2⟩ := HC.out W hW; go_simp; exact ⟨rfl, Below.refl _ _⟩)); simp only [Act.put, List.setIfInBounds_toArray, List.set_cons_zero, List.set_cons_succ])
                  refine wpDet_nil ?_
                  intro W hW
                  have hBW := hB.call hW
                  have hrW := hr.keep hW
                  have hoW := ho4.keep hW
                  have hbW := below_step hbz hbz.size hW
                  clear HC hB hr ho4 hbz ek4
                  go_upto_region 17 with fail
                  have e0 : W.cell? ⟨w2.heap.size, 0, none⟩ = some (.int .i64 Y) := hBW.cell rfl
                  have e1 : W.cell? ⟨w2.heap.size, 1, none⟩ = some (.slice av p.r.length kv) := hBW.cell rfl
                  generalize p.r.length = lr at *
                  go_wp2_with (first
                    | (at_builtin; refine wpList_append_peak rfl _ _ rfl w.heap.size _ (ps' ++ [q]) rfl hoW p _ _ _ rfl rfl (congrArg (Value.int .i64) HY.out) hrW (by first | (simp; done) | (have := HCT.out; omega)) hbW.size ?_; intro v5 w5 ho5 hb5)
                    | fail)
                  have hbb5 := hbW.trans hb5
                  clear e0 e1 hBW hrW hoW hb5
                  go_roundw
                  case rel => exact ⟨t + 1, _, HLT.out, by go_num, ho5, HPS, HFL, hbb5⟩
                  case measure => have := HLT.out; simp [intOf]; omega
      · generalize wr = wA at *
        have tI : ¬ (t : Int) < n := by omega
        have hte : t = n := by omega
        have hfe : flatP ps = l := by rw [hfl.out, hte, List.take_of_length_le (by have := HN.out; omega)]
        have hps0 : ps ≠ [] := by
          intro h0
          rw [h0] at hfe
          have := congrArg List.length hfe
          have h1 := HN.out
          have h2 := HN0.out
          simp [flatP] at this
          omega
        have hct : ps.length ≤ 64 := by
          have h1 := peaks_count m ps hpk.out.1
          rw [hfe] at h1
          have := HN.out; have := H64.out; omega
        obtain ⟨L, hL⟩ : ∃ L, ps.length = L + 1 := ⟨ps.length - 1, by have := List.length_pos_iff.2 hps0; omega⟩
        obtain ⟨p, hp⟩ : ∃ p, ps[L]? = some p := ⟨_, List.getElem?_eq_getElem (by omega)⟩
        obtain ⟨k, ck, up, ek, ek1, ek2, ek3, ek4, d1, d2, d3⟩ := ho.at L p hp
        obtain ⟨au, ku, rfl, -⟩ := id d3
        subst ek
        have hlast : rollR m (flatP (ps.drop L)) = .ok p.r := by
          have e : ps.drop L = [p] := by
            rw [List.drop_eq_getElem_cons (by omega), (List.getElem?_eq_some_iff.1 hp).2, List.drop_of_length_le (by omega)]
          rw [e]
          have : flatP [p] = p.seg := by simp [flatP]
          rw [this]
          exact (hpk.out.1 p (List.mem_of_getElem? hp)).2
        have HFE := Lib.hid hfe
        have HLL := Lib.hid hL
        have HLA := Lib.hid hlast
        obtain ⟨N, hN⟩ : ∃ N, ps.length = N := ⟨_, rfl⟩
        have hNL : N = L + 1 := by omega
        have HNN := Lib.hid hN
        rw [hN] at ek1 ⊢
        have hLI : (N : Int) - 1 = (L : Int) := by omega
        have hLI2 : (N : Int) - 2 = (L : Int) - 1 := by omega
        have hLN : (L : Int) < (N : Int) := by omega
        have hNI : (N : Int) ≤ 64 := by omega
        have hLI3 : (L : Int) ≤ 64 := by omega
        have hwl : IntKind.i64.wrap (L : Int) = (L : Int) := by rw [IntKind.wrap_i64]; omega
        have hwl2 : IntKind.i64.wrap ((L : Int) - 1) = (L : Int) - 1 := by rw [IntKind.wrap_i64]; omega
        have HNL := Lib.hid hNL
        have ho0 := ho
        rw [hN] at ho0
        clear hte hfe hps0 hct hp hlast hfl hlt htn hL hN hNL ek1 ek2 ho
        go_wp2_with fail
        go_loopw [15, 16] (fun u ix wr => ∃ (q : Nat) (d : List UInt8) (z : Int), ix = .int .i64 z ∧ Hid (z = (q : Int) - 1) ∧ Hid (q ≤ L) ∧ RowT wr u d ∧ Hid (rollR m (flatP (ps.drop q)) = .ok d) ∧ Below wA.heap.size wA wr) (fun _ ix _ => (intOf ix + 1).toNat)
        case atStart => exact ⟨L, p.r, _, rfl, Lib.hid rfl, Lib.hid (Nat.le_refl _), d3, HLA, Below.refl _ _⟩
        case round =>
          obtain ⟨q, d, z, rfl, hz, hqL, hd, hroll, hb3⟩ := hrel
          clear HLA d1 d2 d3
          have hbb := below_step hbr hbr.size hb3
          obtain ⟨a4, k4, rfl, -⟩ := id hd
          have hdl : d.length ≤ 16777300 := rollR_len m _ _ d (Nat.le_refl _) hroll.out
          cases q with
          | zero =>
            obtain rfl : z = -1 := hz.out
            have hfin : RR = .ok d := by
              have h1 := hroll.out
              rw [List.drop_zero, HFE.out, HRR.out] at h1
              exact h1
            subst hfin
            clear hz hqL hroll hdl
            go_wp2_with fail
            go_ret2
            exact ⟨_, rfl, hd, hbb⟩
          | succ j =>
            have hzj : z = (j : Int) := by have := hz.out; omega
            subst hzj
            obtain ⟨pj, hpj⟩ : ∃ p, ps[j]? = some p := ⟨_, List.getElem?_eq_getElem (by have := hqL.out; have := HLL.out; omega)⟩
            obtain ⟨k9, c9, uj, e9, -, -, -, l9, f1, f2, f3⟩ := ho0.at j pj hpj
            obtain ⟨ea, -, -⟩ := Value.slice.inj e9
            simp only [Option.some.injEq, Addr.mk.injEq, and_true] at ea
            subst ea
            obtain ⟨a7, k7, rfl, -⟩ := id f3
            have f2' := (hb3.cell (p := ⟨k, j * 2 + 1, none⟩) l9).trans f2
            have f3' := f3.keep hb3
            have hstep := drop_step m ps hpk.out j (by have := hqL.out; have := HLL.out; omega) pj hpj d hroll.out
            have hrp : pj.r.length ≤ 16777300 := rollR_len m _ pj.seg pj.r (Nat.le_refl _) (hpk.out.1 pj (List.mem_of_getElem? hpj)).2
            have cD6 := DigestOf_any m 6 [pj.r, d] (some ⟨wr.heap.size, 0, none⟩) 2 (wr.alloc (.cells #[.slice a7 pj.r.length k7, .slice a4 d.length k4] 29)) m0 m1 (by decide) (by decide) (by simp) (fun l hl => by simp at hl; rcases hl with rfl | rfl <;> omega) (lines_two wr _ _ _ _ _ f3'.row hd.row)
            rw [show [pj.r, d].length = 2 from rfl] at cD6
            have hba5 := (Below.refl wr.heap.size wr).alloc (Nat.le_refl _) (.cells #[.slice a7 pj.r.length k7, .slice a4 d.length k4] 29)
            have hjN : (j : Int) < (N : Int) := by have := hqL.out; have := HNL.out; omega
            have hj64 : (j : Int) ≤ 64 := by omega
            have hwj : IntKind.i64.wrap ((j : Int) - 1) = (j : Int) - 1 := by rw [IntKind.wrap_i64]; omega
            have HQJ := Lib.hid (show j ≤ L by have := hqL.out; omega)
            cases hR6 : digR m 6 [pj.r, d] with
            | err c =>
              have hc1 := digR_err1 HM.out (t := 6) ⟨by decide, by decide⟩ hR6
              subst hc1
              have hbad : RR = .err 1 := by
                obtain ⟨c, hc⟩ := drop_bad m ps hpk.out j (by have := hqL.out; have := HLL.out; omega) ⟨1, by rw [hstep, hR6]⟩
                rw [HFE.out, HRR.out] at hc
                have h1 := hc
                rw [← HRR.out] at h1
                have := rollR_err1 m HM.out l.length l c (Nat.le_refl _) h1
                rw [hc, this]
              subst hbad
              rw [hR6] at cD6
              generalize pj.r.length = lpj at *
              generalize d.length = ld at *
              clear hR6 hstep hrp hdl hz hqL hroll f1 f2 f3 f3' hd ho0 hpj e9 l9
              go_wp2_with fail
              refine cD6.mono ?_
              rintro e w6 ⟨rfl, hb6⟩
              have hbb6 := below_step hbb hbb.size (below_step hba5 hba5.size hb6)
              clear cD6
              go_wp2_with fail
              go_ret2
              exact ⟨rfl, hbb6⟩
            | ok d6 =>
              rw [hR6] at cD6 hstep
              have HST := Lib.hid hstep
              generalize pj.r.length = lpj at *
              generalize d.length = ld at *
              clear hR6 hstep hrp hdl hz hqL hroll f1 f2 f3 f3' hd hpj e9 l9
              go_wp2_with fail
              refine cD6.mono ?_
              rintro e w6 ⟨v6, rfl, hr6, hb6⟩
              have hb36 := below_step hb3 hb3.size (below_step hba5 hba5.size hb6)
              obtain ⟨a8, k8, rfl, -⟩ := id hr6
              generalize hd6 : d6.length = ld6 at *
              have HD6 := Lib.hid hd6
              clear cD6 hd6
              go_wp2_with fail
              go_roundw
              case rel => exact ⟨j, d6, _, rfl, Lib.hid rfl, HQJ, hr6, HST, hb36⟩
              case measure => simp [intOf]
end Go.Proofs.YtdpfjhhcgaeiiaaDoor
