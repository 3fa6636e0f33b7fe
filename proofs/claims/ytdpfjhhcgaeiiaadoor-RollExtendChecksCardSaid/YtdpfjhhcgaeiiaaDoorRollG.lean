/-
  CONTRACT of the reference's IncludeFault.
  CONDITIONS: each theorem's own hypotheses.
-/
import Derived.Test.YtdpfjhhcgaeiiaaDoorRollE
namespace Go.Proofs.YtdpfjhhcgaeiiaaDoor
open Go.RowKit CodeMath Go.Proofs.YtdpfjhhcgaeiiaaDoor.FrameMath
set_option linter.unusedVariables false
set_option maxRecDepth 100000

theorem upto_le : ∀ c a l : Nat, (upto c a l).1 ≤ a ∧ (upto c a l).2 ≤ l
  | 0, a, l => ⟨Nat.le_refl _, Nat.le_refl _⟩
  | c + 1, a, l => by
    have ih := upto_le c (a / 2) (l / 2)
    show (if a % 2 = 0 ∧ 0 < a then upto c (a / 2) (l / 2) else (a, l)).1 ≤ a ∧ (if a % 2 = 0 ∧ 0 < a then upto c (a / 2) (l / 2) else (a, l)).2 ≤ l
    split
    · exact ⟨by omega, by omega⟩
    · exact ⟨Nat.le_refl _, Nat.le_refl _⟩
theorem upto_stop (c a l : Nat) (h : ¬ (a % 2 = 0 ∧ 0 < a)) : upto c a l = (a, l) := by
  cases c with
  | zero => rfl
  | succ c => show (if a % 2 = 0 ∧ 0 < a then _ else _) = _; rw [if_neg h]
theorem upto_go (c a l : Nat) (h : a % 2 = 0 ∧ 0 < a) : upto (c + 1) a l = upto c (a / 2) (l / 2) := by
  show (if a % 2 = 0 ∧ 0 < a then _ else _) = _; rw [if_pos h]
theorem sidesL_zero (c a : Nat) : sidesL c a 0 = [] := by cases c <;> rfl
theorem sidesL_ne (c a l : Nat) (hc : l < 2 ^ c) (h : l ≠ 0) : ∃ s ss, sidesL c a l = s :: ss := by
  cases c with
  | zero => simp at hc; omega
  | succ c =>
    show ∃ s ss, (if l = 0 then [] else _) = s :: ss
    rw [if_neg h]
    split <;> exact ⟨_, _, rfl⟩
theorem sidesL_up (c a l : Nat) (h : l ≠ 0) (h1 : a % 2 = 1 ∨ a = l) : sidesL (c + 1) a l = true :: sidesL c ((upto 7 a l).1 / 2) ((upto 7 a l).2 / 2) := by
  show (if l = 0 then [] else _) = _
  rw [if_neg h, if_pos h1]
theorem sidesL_down (c a l : Nat) (h : l ≠ 0) (h1 : ¬ (a % 2 = 1 ∨ a = l)) : sidesL (c + 1) a l = false :: sidesL c (a / 2) (l / 2) := by
  show (if l = 0 then [] else _) = _
  rw [if_neg h, if_neg h1]
theorem fold_end (m : Int) (c a l : Nat) (R : DR) (hc : l < 2 ^ c) : foldS m (sidesL c a l) [] R = if l = 0 then R else .err 10 := by
  split
  · rename_i h; rw [h, sidesL_zero]; rfl
  · rename_i h
    obtain ⟨s, ss, e⟩ := sidesL_ne c a l hc h
    rw [e]; rfl
/-- A digest and its error, in two variables. -/
def DRin (w : World) (R : DR) (v ev : Value) : Prop := match R with
  | .ok x => RowT w v x ∧ ev = .int .i64 0
  | .err c => v = .slice none 0 0 ∧ ev = .int .i64 c
theorem DRin.keep {w w' : World} {R : DR} {v ev : Value} (h : DRin w R v ev) (hb : Below w.heap.size w w') : DRin w' R v ev := by
  cases R with
  | err c => exact h
  | ok x => exact ⟨h.1.keep hb, h.2⟩
theorem digPost_in {R : DR} {w : World} {e : Ending} {w' : World} (h : DigPost R w e w') : ∃ a n k ev, e = .returned (.tuple #[.slice a n k, .int .i64 ev]) ∧ DRin w' R (.slice a n k) (.int .i64 ev) ∧ Below w.heap.size w w' := by
  cases R with
  | err c => exact ⟨none, 0, 0, c, h.1, ⟨rfl, rfl⟩, h.2⟩
  | ok x =>
    obtain ⟨v, h1, h2, h3⟩ := h
    obtain ⟨a, k, rfl, _⟩ := id h2
    exact ⟨_, _, _, 0, h1, ⟨h2, rfl⟩, h3⟩
theorem nat_tmod2 (a : Nat) : (a : Int).tmod 2 = ((a % 2 : Nat) : Int) := by rw [Int.tmod_eq_emod_of_nonneg (by omega)]; omega
theorem nat_tdiv2 (a : Nat) : (a : Int).tdiv 2 = ((a / 2 : Nat) : Int) := by rw [Int.tdiv_eq_ediv_of_nonneg (by omega)]; omega
theorem pow7 (t l : Nat) (h : l < 2 ^ (7 - t)) (h0 : l ≠ 0) : 7 - t = (7 - (t + 1)) + 1 := by
  rcases Nat.lt_or_ge t 7 with h7 | h7
  · omega
  · rw [show 7 - t = 0 by omega] at h; simp at h; omega
theorem half_lt (c l l' : Nat) (h : l < 2 ^ (c + 1)) (hl : l' ≤ l) : l' / 2 < 2 ^ c := by rw [Nat.pow_succ] at h; omega
set_option maxHeartbeats 8000000 in
theorem IncludeFault_any (m : Int) (top : List UInt8) (at_ : Option Addr) (ct : Nat) (n i : Int) (entry : List UInt8) (ae : Option Addr) (ce : Nat) (path : List (List UInt8)) (ap : Option Addr) (cp : Nat) (w : World) (m0 : -9223372036854775808 ≤ m) (m1 : m ≤ 9223372036854775807) (n0 : -9223372036854775808 ≤ n) (n1 : n ≤ 9223372036854775807) (i0 : -9223372036854775808 ≤ i) (i1 : i ≤ 9223372036854775807) (ht : Bytes w at_ top) (he : RowV w (.slice ae entry.length ce) entry) (hE : entry.length ≤ 140737488351232) (hc : path.length ≤ cp) (hq : cp ≤ 9223372036854775807) (hB : ∀ y ∈ path, y.length ≤ 140737488351232) (hl : Lines w ap path) :
    Calls Tryd.prog 31 #[.int .i64 m, .slice at_ top.length ct, .int .i64 n, .int .i64 i, .slice ae entry.length ce, .slice ap path.length cp] w fun ex w' => ex = .returned (.int .i64 (incFaultR m top n i entry path)) ∧ Below w.heap.size w w' := by
  have cM := fun W => badMode_any m W m0 m1
  have hBB := Below.refl w.heap.size w
  obtain ⟨FIN, hF⟩ : ∃ r, incFaultR m top n i entry path = r := ⟨_, rfl⟩
  rw [hF]
  unfold incFaultR at hF
  obtain ⟨lp, hlp⟩ : ∃ k, path.length = k := ⟨_, rfl⟩
  have HLP := Lib.hid hlp
  rw [hlp] at hc ⊢
  obtain ⟨bm, hm⟩ : ∃ b, isMode m = b := ⟨_, rfl⟩
  rw [hm] at cM
  have hlin := lines_one w _ 29 entry he
  have cD := DigestOf_any m 5 [entry] (some ⟨w.heap.size, 0, none⟩) 1 (w.alloc (.cells #[.slice ae entry.length ce] 29)) m0 m1 (by decide) (by decide) (by simp) (fun l hl => by simp at hl; subst hl; exact hE) hlin
  rw [show [entry].length = 1 from rfl] at cD
  have hba := (Below.refl w.heap.size w).alloc (Nat.le_refl _) (.cells #[.slice ae entry.length ce] 29)
  generalize entry.length = le at *
  clear hlp hlin he hE
  cases bm with
  | false =>
    obtain rfl : FIN = 2 := by rw [← hF, show refR m n = 2 by unfold refR; rw [if_pos hm], if_pos (by decide)]
    clear hF cD hba hm
    go_enter Tryd.func31, Tryd.ntmps31
    go_wp2_with fail
    refine (cM _).mono ?_
    rintro e w1 ⟨rfl, rfl⟩
    go_wp2_with fail
    go_ret
    exact ⟨rfl, hBB⟩
  | true =>
    by_cases hn : n < 0 ∨ 64 < n
    · obtain rfl : FIN = 1 := by rw [← hF, show refR m n = 1 by unfold refR; rw [if_neg (by rw [hm]; decide), if_pos hn], if_pos (by decide)]
      have hnI : n < 0 ∨ (¬ n < 0 ∧ 64 < n) := by omega
      clear hF cD hba hm hn
      rcases hnI with hnI | ⟨hnI, hnJ⟩
      all_goals
        go_enter Tryd.func31, Tryd.ntmps31
        go_wp2_with fail
        refine (cM _).mono ?_
        rintro e w1 ⟨rfl, rfl⟩
        go_wp2_with fail
        go_ret
        exact ⟨rfl, hBB⟩
    · have hnI : ¬ n < 0 := by omega
      have hnJ : ¬ 64 < n := by omega
      rw [show refR m n = 0 by unfold refR; rw [if_neg (by rw [hm]; decide), if_neg hn], if_neg (by decide)] at hF
      by_cases hi : 0 ≤ i ∧ i < n
      · rw [if_neg (by simpa using hi)] at hF
        obtain ⟨p, rfl⟩ : ∃ p : Nat, i = p := ⟨i.toNat, by omega⟩
        obtain ⟨N, rfl⟩ : ∃ N : Nat, n = N := ⟨n.toNat, by omega⟩
        rw [Int.toNat_natCast, Int.toNat_natCast] at hF
        have hpN : p < N := by omega
        rw [show sidesF 6 N p = sidesL 7 p (N - 1) from sides_all ⟨N, by omega⟩ ⟨p, by omega⟩ hpN] at hF
        have hpI0 : ¬ (p : Int) < 0 := by omega
        have hpI1 : ¬ (N : Int) ≤ (p : Int) := by omega
        have hN1 : (N : Int) - 1 = ((N - 1 : Nat) : Int) := by omega
        have hNI : (N : Int) ≤ 64 := by omega
        obtain ⟨L, hL⟩ : ∃ L, N - 1 = L := ⟨_, rfl⟩
        rw [hL] at hF hN1
        have hL63 : L ≤ 63 := by omega
        have hpL : p ≤ L := by omega
        have hR0 : ∀ c, digR m 5 [entry] = .err c → c ≠ 0 := fun c h => digR_ne h
        have hR1 : ∀ x, digR m 5 [entry] = .ok x → x.length ≤ 140737488351232 := fun x h => by have := digR_len h; omega
        generalize digR m 5 [entry] = R0 at *
        obtain ⟨TOT, hTOT⟩ : ∃ T, foldS m (sidesL 7 p L) path R0 = T := ⟨_, rfl⟩
        rw [hTOT] at hF
        have HF := Lib.hid hF
        have HT := Lib.hid hTOT
        have HL63 := Lib.hid hL63
        have HPL := Lib.hid hpL
        have HR0 := Lib.hid hR0
        have HR1 := Lib.hid hR1
        have hlpI : (lp : Int) ≤ 9223372036854775807 := by omega
        clear hF hTOT hL63 hpL hR0 hR1 hpN hi hn hm hL hc hq
        go_enter Tryd.func31, Tryd.ntmps31
        go_wp2_with fail
        refine (cM _).mono ?_
        rintro e w1 ⟨rfl, rfl⟩
        clear cM
        go_wp2_with fail
        refine cD.mono ?_
        intro e w1 hpost
        obtain ⟨a1, n1, k1, e1, rfl, hd1, hb1⟩ := digPost_in hpost
        have hbb1 := below_step hba hba.size hb1
        clear cD hpost hba hb1
        go_wp2_with fail
        go_loopw [13, 14, 15, 16, 49] (fun dv ev av lv ix wr => ∃ (t a l : Nat) (R : DR), t ≤ lp ∧ ix = .int .i64 t ∧ av = .int .i64 a ∧ lv = .int .i64 l ∧ Hid (l < 2 ^ (7 - t)) ∧ Hid (a ≤ l) ∧ Hid (l ≤ 63) ∧ DRin wr R dv ev ∧ Hid (∀ c, R = .err c → c ≠ 0) ∧ Hid (∀ x, R = .ok x → x.length ≤ 140737488351232) ∧ Hid (foldS m (sidesL (7 - t) a l) (path.drop t) R = TOT) ∧ Below w.heap.size w wr) (fun _ _ _ _ ix _ => lp - (intOf ix).toNat)
        case atStart => exact ⟨0, p, L, R0, Nat.zero_le _, rfl, rfl, rfl, Lib.hid (by have := HL63.out; show L < 128; omega), HPL, HL63, hd1, HR0, HR1, Lib.hid (by rw [List.drop_zero]; exact HT.out), hbb1⟩
        case round =>
          obtain ⟨t, a, l, R, htn, rfl, rfl, rfl, hl7, hal, hl63, hd, hr0, hr1, htot, hbr⟩ := hrel
          clear hd1 hbb1
          by_cases hlt : t < lp
          · have tI : (t : Int) < lp := by omega
            have htn' : t < path.length := by have := HLP.out; omega
            obtain ⟨b, hb⟩ : ∃ x, path[t]? = some x := ⟨_, List.getElem?_eq_getElem htn'⟩
            have hdr : path.drop t = b :: path.drop (t + 1) := by
              rw [List.drop_eq_getElem_cons htn']
              congr 1
              exact (List.getElem?_eq_some_iff.1 hb).2
            have hlb := hB b (List.mem_of_getElem? hb)
            rcases hl with h0 | ⟨al, ol, rfl, hal2, h3⟩
            · rw [h0] at hb; simp at hb
            · obtain ⟨A1, c1, q1, q2, q3, q4, q5⟩ := h3 t b hb
              have hcell := (hbr.cell (p := ⟨al, ol + t, none⟩) hal2).trans q1
              have hrb : RowV wr (.slice A1 b.length c1) b := ⟨A1, c1, rfl, q2, q3, q4, q5.keep hbr⟩
              rw [hdr] at htot
              cases R with
              | err c =>
                obtain ⟨rfl, rfl⟩ := hd
                have c0 := hr0.out c rfl
                obtain ⟨c', hc'⟩ := foldS_err m (sidesL (7 - t) a l) (b :: path.drop (t + 1)) c
                obtain rfl : FIN = 10 := by rw [← HF.out, ← htot.out, hc']
                generalize b.length = lb at *
                clear h3 q1 q2 q3 q4 q5 htot hl7 hal hl63 hr0 hr1 hc' hrb hdr hlt htn
                go_wp2_with fail
                go_ret
                exact ⟨rfl, hbr⟩
              | ok x =>
                obtain ⟨hx, rfl⟩ := hd
                by_cases hl0 : l = 0
                · subst hl0
                  obtain rfl : FIN = 10 := by
                    rw [← HF.out, ← htot.out, sidesL_zero]; rfl
                  obtain ⟨a2, n2, k2, rfl⟩ : ∃ a n k, u13 = .slice a n k := by obtain ⟨a, k, e, _⟩ := hx; exact ⟨_, _, _, e⟩
                  generalize b.length = lb at *
                  clear h3 q1 q2 q3 q4 q5 htot hl7 hal hl63 hr0 hr1 hrb hdr hlt htn hx
                  go_wp2_with fail
                  go_ret
                  exact ⟨rfl, hbr⟩
                · have hlI : ¬ (l : Int) = 0 := by omega
                  have h77 := pow7 t l hl7.out hl0
                  have hxl := hr1.out x rfl
                  obtain ⟨a2, n2, k2, rfl⟩ : ∃ a n k, u13 = .slice a n k := by obtain ⟨a, k, e, _⟩ := hx; exact ⟨_, _, _, e⟩
                  have hmod := nat_tmod2 a
                  have hl7' := hl7.out
                  rw [h77] at hl7' htot
                  have HLT := Lib.hid hlt
                  have ha63 : (a : Int) ≤ 63 := by have := hal.out; have := hl63.out; omega
                  have hl63I : (l : Int) ≤ 63 := by have := hl63.out; omega
                  have hbw : Below wr.heap.size wr wr := Below.refl _ _
                  have hw2 : ∀ u1 u2 : Value, Below wr.heap.size wr (wr.alloc (.cells #[u1, u2] 29)) := fun u1 u2 => (Below.refl _ _).alloc (Nat.le_refl _) _
                  by_cases hup : a % 2 = 1 ∨ a = l
                  · rw [sidesL_up _ a l hl0 hup] at htot
                    have htot2 : foldS m (sidesL (7 - (t + 1)) ((upto 7 a l).1 / 2) ((upto 7 a l).2 / 2)) (path.drop (t + 1)) (digR m 6 [b, x]) = TOT := htot.out
                    have cP := fun W h => DigestOf_any m 6 [b, x] (some ⟨wr.heap.size, 0, none⟩) 2 W m0 m1 (by decide) (by decide) (by simp) (fun l hl => by simp at hl; rcases hl with rfl | rfl <;> omega) h
                    rw [show [b, x].length = 2 from rfl] at cP
                    have hlin2 := lines_two wr _ _ 29 _ _ hrb hx.row
                    have HR0' := Lib.hid (show ∀ c, digR m 6 [b, x] = .err c → c ≠ 0 from fun c h => digR_ne h)
                    have HR1' := Lib.hid (show ∀ y, digR m 6 [b, x] = .ok y → y.length ≤ 140737488351232 from fun y h => by have := digR_len h; omega)
                    generalize digR m 6 [b, x] = R' at *
                    have HTOT2 := Lib.hid htot2
                    have HUPL := Lib.hid (upto_le 7 a l)
                    have HL7' := Lib.hid hl7'
                    have hcs : (a % 2 = 1) ∨ (a % 2 = 0 ∧ a = l) := by omega
                    generalize b.length = lb at *
                    clear h3 q1 q2 q3 q4 q5 htot htot2 hl7 hl7' hr0 hr1 hrb hdr hlt htn hx h77 hxl hlb hup hl0
                    have hcase : (((a % 2 : Nat) : Int) = 1) ∨ (((a % 2 : Nat) : Int) = 0 ∧ ((a : Int) == (l : Int)) = true) := by
                      rcases hcs with h | ⟨h1, h2⟩
                      · left; omega
                      · right; exact ⟨by omega, by subst h2; simp⟩
                    clear hcs
                    rcases hcase with h1 | ⟨h1, h2⟩
                    all_goals
                      rw [h1] at hmod
                      clear h1
                      go_wp2_with fail
                      refine (cP _ hlin2).mono ?_
                      intro e w2 hpost
                      obtain ⟨a3, n3, k3, e3, rfl, hd3, hb3⟩ := digPost_in hpost
                      have hbb3 := below_step hbr hbr.size (below_step (hw2 _ _) (hw2 _ _).size hb3)
                      clear cP hpost hlin2 hb3 hw2 hmod
                      go_wp2_with fail
                      go_loopw [15, 16] (fun av lv wz => w2 = wz ∧ ∃ c a' l' : Nat, av = .int .i64 a' ∧ lv = .int .i64 l' ∧ Hid (upto c a' l' = upto 7 a l) ∧ Hid (a' < 2 ^ c) ∧ Hid (a' ≤ a) ∧ Hid (l' ≤ l) ∧ Hid (a' ≤ l')) (fun av _ _ => (intOf av).toNat)
                      case atStart => exact ⟨rfl, 7, a, l, rfl, rfl, Lib.hid rfl, Lib.hid (by show a < 128; omega), Lib.hid (Nat.le_refl _), Lib.hid (Nat.le_refl _), hal⟩
                      case round =>
                        obtain ⟨rfl, c, a', l', rfl, rfl, hu, hac, haa, hll, hall⟩ := hrel
                        have hmod' := nat_tmod2 a'
                        have hd1' := nat_tdiv2 a'
                        have hd2' := nat_tdiv2 l'
                        have ha63' : (a' : Int) ≤ 63 := by have := haa.out; omega
                        have hl63' : (l' : Int) ≤ 63 := by have := hll.out; omega
                        by_cases hgo : a' % 2 = 0 ∧ 0 < a'
                        · have hg1 : ((a' % 2 : Nat) : Int) = 0 := by omega
                          have hg2 : (0 : Int) < a' := by omega
                          rw [hg1] at hmod'
                          have HG := Lib.hid hgo
                          clear hgo hg1
                          go_wp2_with fail
                          go_roundw
                          case rel =>
                            refine ⟨(by first | trivial | rfl), ?_⟩
                            have h1 := HG.out
                            have h2 := hac.out
                            cases c with
                            | zero => simp at h2; omega
                            | succ c =>
                              refine ⟨c, a' / 2, l' / 2, rfl, rfl, Lib.hid ?_, Lib.hid (half_lt c a' a' h2 (Nat.le_refl _)), Lib.hid (by have := haa.out; omega), Lib.hid (by have := hll.out; omega), Lib.hid (by have := hall.out; omega)⟩
                              rw [← upto_go c a' l' h1]; exact hu.out
                          case measure => have := HG.out; simp [intOf]; omega
                        · have huf := (upto_stop c a' l' hgo).symm.trans hu.out
                          have hgI : ((a' % 2 : Nat) : Int) = 1 ∨ (((a' % 2 : Nat) : Int) = 0 ∧ ¬ (0 : Int) < a') := by omega
                          have HU := Lib.hid huf
                          clear hgo hu huf hac
                          rcases hgI with hg1 | ⟨hg1, hg2⟩
                          all_goals
                            rw [hg1] at hmod'
                            clear hg1
                            go_wp2_with fail
                            go_roundw
                            case rel =>
                              refine ⟨t + 1, a' / 2, l' / 2, R', HLT.out, by go_num, rfl, rfl, Lib.hid ?_, Lib.hid ?_, Lib.hid ?_, hd3, HR0', HR1', Lib.hid ?_, hbb3⟩
                              · exact half_lt _ l l' HL7'.out hll.out
                              · have := hall.out; omega
                              · have := hll.out; have := hl63.out; omega
                              · have h9 := HTOT2.out
                                rw [← HU.out] at h9
                                exact h9
                            case measure => have := HLT.out; simp [intOf]; omega
                  · rw [sidesL_down _ a l hl0 hup] at htot
                    have htot2 : foldS m (sidesL (7 - (t + 1)) (a / 2) (l / 2)) (path.drop (t + 1)) (digR m 6 [x, b]) = TOT := htot.out
                    have cP := fun W h => DigestOf_any m 6 [x, b] (some ⟨wr.heap.size, 0, none⟩) 2 W m0 m1 (by decide) (by decide) (by simp) (fun l hl => by simp at hl; rcases hl with rfl | rfl <;> omega) h
                    rw [show [x, b].length = 2 from rfl] at cP
                    have hlin2 := lines_two wr _ _ 29 _ _ hx.row hrb
                    have HR0' := Lib.hid (show ∀ c, digR m 6 [x, b] = .err c → c ≠ 0 from fun c h => digR_ne h)
                    have HR1' := Lib.hid (show ∀ y, digR m 6 [x, b] = .ok y → y.length ≤ 140737488351232 from fun y h => by have := digR_len h; omega)
                    generalize digR m 6 [x, b] = R' at *
                    have HTOT2 := Lib.hid htot2
                    have HL7' := Lib.hid (half_lt _ l l hl7' (Nat.le_refl _))
                    have HAL' := Lib.hid (show a / 2 ≤ l / 2 by have := hal.out; omega)
                    have HL63' := Lib.hid (show l / 2 ≤ 63 by have := hl63.out; omega)
                    have h1 : ((a % 2 : Nat) : Int) = 0 := by omega
                    have h2 : ((a : Int) == (l : Int)) = false := by
                      have : a ≠ l := fun h => hup (.inr h)
                      simp; omega
                    rw [h1] at hmod
                    have hd1' := nat_tdiv2 a
                    have hd2' := nat_tdiv2 l
                    generalize b.length = lb at *
                    clear h3 q1 q2 q3 q4 q5 htot htot2 hl7 hl7' hr0 hr1 hrb hdr hlt htn hx h77 hxl hlb hup hl0 h1
                    go_wp2_with fail
                    refine (cP _ hlin2).mono ?_
                    intro e w2 hpost
                    obtain ⟨a3, n3, k3, e3, rfl, hd3, hb3⟩ := digPost_in hpost
                    have hbb3 := below_step hbr hbr.size (below_step (hw2 _ _) (hw2 _ _).size hb3)
                    clear cP hpost hlin2 hb3 hw2 hmod h2
                    go_wp2_with fail
                    go_roundw
                    case rel => exact ⟨t + 1, a / 2, l / 2, R', HLT.out, by go_num, rfl, rfl, HL7', HAL', HL63', hd3, HR0', HR1', HTOT2, hbb3⟩
                    case measure => have := HLT.out; simp [intOf]; omega
          · have tI : ¬ (t : Int) < lp := by omega
            have hdrop : path.drop t = [] := List.drop_of_length_le (by have := HLP.out; omega)
            have hfin := htot.out
            rw [hdrop, fold_end _ _ _ _ _ hl7.out] at hfin
            cases R with
            | err c =>
              obtain ⟨rfl, rfl⟩ := hd
              have c0 := hr0.out c rfl
              obtain rfl : FIN = 10 := by rw [← HF.out, ← hfin]; by_cases hz : l = 0 <;> simp [hz]
              clear htot hl7 hal hl63 hr0 hr1 hdrop hlt htn hfin
              go_wp2_with fail
              go_ret
              exact ⟨rfl, hbr⟩
            | ok x =>
              obtain ⟨hx, rfl⟩ := hd
              by_cases hl0 : l = 0
              · subst hl0
                rw [if_pos rfl] at hfin
                have hF2 := HF.out
                rw [← hfin] at hF2
                simp only at hF2
                obtain ⟨a4, k4, rfl, j1, j2, j3, j4⟩ := hx.row
                have q1 := bytes_string (cap := k4) j4
                have q2 := bytes_string (cap := ct) (ht.keep hbr)
                have hse : (x == top) = decide (x = top) := by by_cases h : x = top <;> simp [h]
                have HF2 := Lib.hid hF2
                clear hx j1 j2 j3 j4 htot hl7 hal hl63 hr0 hr1 hdrop hlt htn hfin hF2 hl hB HF HT
                by_cases hxt : x = top
                · obtain rfl : FIN = 0 := by rw [← HF2.out, if_pos hxt]
                  rw [decide_eq_true hxt] at hse
                  clear HF2 hxt
                  generalize x.length = lx at *
                  generalize top.length = lt at *
                  go_wp2_with fail
                  go_ret
                  exact ⟨rfl, hbr⟩
                · obtain rfl : FIN = 10 := by rw [← HF2.out, if_neg hxt]
                  rw [decide_eq_false hxt] at hse
                  clear HF2 hxt
                  generalize x.length = lx at *
                  generalize top.length = lt at *
                  go_wp2_with fail
                  go_ret
                  exact ⟨rfl, hbr⟩
              · have hlI : ¬ (l : Int) = 0 := by omega
                obtain rfl : FIN = 10 := by rw [← HF.out, ← hfin, if_neg hl0]
                obtain ⟨a2, n2, k2, rfl⟩ : ∃ a n k, u13 = .slice a n k := by obtain ⟨a, k, e, _⟩ := hx; exact ⟨_, _, _, e⟩
                have hl63I : (l : Int) ≤ 63 := by have := hl63.out; omega
                clear htot hl7 hal hl63 hr0 hr1 hdrop hlt htn hfin hx hl0
                go_wp2_with fail
                go_ret
                exact ⟨rfl, hbr⟩
      · rw [if_pos hi] at hF
        subst hF
        have hiI : i < 0 ∨ (¬ i < 0 ∧ n ≤ i) := by omega
        clear cD hba hm hn hi hl hB ht
        rcases hiI with hiI | ⟨hiI, hiJ⟩
        all_goals
          go_enter Tryd.func31, Tryd.ntmps31
          go_wp2_with fail
          refine (cM _).mono ?_
          rintro e w1 ⟨rfl, rfl⟩
          go_wp2_with fail
          go_ret
          exact ⟨rfl, hBB⟩
end Go.Proofs.YtdpfjhhcgaeiiaaDoor
