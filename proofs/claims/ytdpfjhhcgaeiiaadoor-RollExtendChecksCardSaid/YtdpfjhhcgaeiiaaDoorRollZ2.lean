/-
  CONTRACT of the reference's extended: the walk.
  CONDITIONS: each theorem's own hypotheses.
-/
import Derived.Test.YtdpfjhhcgaeiiaaDoorRollZ
namespace Go.Proofs.YtdpfjhhcgaeiiaaDoor
open Go.RowKit CodeMath Go.Proofs.YtdpfjhhcgaeiiaaDoor.FrameMath
set_option linter.unusedVariables false
set_option maxRecDepth 100000

theorem sliceL_tail1 (ap : Option Addr) (n cap : Nat) (hk : 1 ≤ n) (W : World) : (Instr.slice 23 (.slice ap n cap) (some (.int .i64 1)) none none).run Tryd.prog W = .ok (.slice (pieceA ap 1 cap) (n - 1) (cap - 1)) W := sliceL_tail ap n cap 1 hk W
def resB (O : PP2) (old top : List UInt8) : Bool := decide (O = some (old, top))
/-- A digest and its error, in two variables. -/
def DRiv (w : World) (R : DR) (v ev : Value) : Prop := match R with
  | .ok x => RowV w v x ∧ ev = .int .i64 0
  | .err c => v = .slice none 0 0 ∧ ev = .int .i64 c
theorem DRin.iv {w : World} {R : DR} {v ev : Value} (h : DRin w R v ev) : DRiv w R v ev := by
  cases R with
  | err c => exact h
  | ok x => exact ⟨h.1.row, h.2⟩
theorem DRiv.keep {w w' : World} {R : DR} {v ev : Value} (h : DRiv w R v ev) (hb : Below w.heap.size w w') : DRiv w' R v ev := by
  cases R with
  | err c => exact h
  | ok x => exact ⟨h.1.keep hb, h.2⟩
theorem driv_slice {w : World} {R : DR} {v ev : Value} (h : DRiv w R v ev) : ∃ a n k, v = .slice a n k := by
  cases R with
  | err c => exact ⟨_, _, _, h.1⟩
  | ok x => obtain ⟨a, k, e, _⟩ := h.1; exact ⟨_, _, _, e⟩
set_option maxHeartbeats 16000000 in
theorem extendedR_any (m : Int) (old : List UInt8) (ao : Option Addr) (co : Nat) (k n : Nat) (top : List UInt8) (at_ : Option Addr) (ct : Nat) (path : List (List UInt8)) (ap : Option Addr) (cp : Nat) (w : World) (m0 : -9223372036854775808 ≤ m) (m1 : m ≤ 9223372036854775807) (h0 : 0 < k) (hkn : k < n) (h64 : n ≤ 64) (ho : RowV w (.slice ao old.length co) old) (hO : old.length ≤ 140737488351232) (ht : Bytes w at_ top) (hc : path.length ≤ cp) (hq : cp ≤ 9223372036854775807) (hpn : path.length ≤ 5864062014634) (hB : ∀ y ∈ path, y.length ≤ 140737488351232) (hl : Lines w ap path) :
    Calls Tryd.prog 85 #[.int .i64 m, .slice ao old.length co, .int .i64 (k : Int), .slice at_ top.length ct, .int .i64 (n : Int), .slice ap path.length cp] w fun ex w' => ex = .returned (.bool (resB (extO m 6 n k true old path) old top)) ∧ Below w.heap.size w w' := by
  have hBB := Below.refl w.heap.size w
  have hup := extO_up m n k h64 h0 hkn old path
  obtain ⟨RES, hRES⟩ : ∃ b, resB (extO m 6 n k true old path) old top = b := ⟨_, rfl⟩
  rw [hRES]
  rw [hup] at hRES
  have HRES := Lib.hid hRES
  obtain ⟨lp, hlp⟩ : ∃ q, path.length = q := ⟨_, rfl⟩
  have HLP := Lib.hid hlp
  rw [hlp] at hc hpn ⊢
  have hkI : (k : Int) - 1 = ((k - 1 : Nat) : Int) := by omega
  have hnI : (n : Int) - 1 = ((n - 1 : Nat) : Int) := by omega
  have hk63 : ((k - 1 : Nat) : Int) ≤ 63 := by omega
  have hn63 : ((n - 1 : Nat) : Int) ≤ 63 := by omega
  have hwk : IntKind.i64.wrap ((k - 1 : Nat) : Int) = ((k - 1 : Nat) : Int) := by rw [IntKind.wrap_i64]; omega
  have hwn : IntKind.i64.wrap ((n - 1 : Nat) : Int) = ((n - 1 : Nat) : Int) := by rw [IntKind.wrap_i64]; omega
  have HK63 := Lib.hid (show k - 1 ≤ n - 1 ∧ n - 1 ≤ 63 by omega)
  obtain ⟨ST, hST⟩ : ∃ x, strip 7 (k - 1) (n - 1) = x := ⟨_, rfl⟩
  have HST := Lib.hid hST
  rw [hST] at hRES
  have HRES2 := Lib.hid hRES
  generalize k - 1 = k1 at *
  generalize n - 1 = n1 at *
  have HO := Lib.hid hO
  have HHO := Lib.hid ho
  have HHT := Lib.hid ht
  have HPN := Lib.hid (And.intro hc (And.intro hq hpn))
  obtain ⟨lo, hlo⟩ : ∃ q, old.length = q := ⟨_, rfl⟩
  have HLO := Lib.hid hlo
  rw [hlo]
  obtain ⟨lt, hlt9⟩ : ∃ q, top.length = q := ⟨_, rfl⟩
  have HLT9 := Lib.hid hlt9
  rw [hlt9]
  have hlpI : (lp : Int) ≤ 5864062014634 := by omega
  have hkI9 : (k : Int) ≤ 64 := by omega
  have hnI9 : (n : Int) ≤ 64 := by omega
  clear hup hRES hST h0 hkn h64 hO ho ht hc hq hpn hlp HRES hlo hlt9
  go_enter Tryd.func85, Tryd.ntmps85
  go_wp2_with fail
  go_loopw [13, 14] (fun av lv wz => w = wz ∧ ∃ c a l : Nat, av = .int .i64 a ∧ lv = .int .i64 l ∧ Hid (strip c a l = ST) ∧ Hid (a < 2 ^ c) ∧ Hid (a ≤ l) ∧ Hid (l ≤ 63)) (fun av _ _ => (intOf av).toNat)
  case atStart => exact ⟨rfl, 7, k1, n1, rfl, rfl, HST, Lib.hid (by have := HK63.out; show k1 < 128; omega), Lib.hid HK63.out.1, Lib.hid HK63.out.2⟩
  case round =>
    obtain ⟨rfl, c, a, l, rfl, rfl, hs, hac, hal, hl63⟩ := hrel
    have hmod := nat_tmod2 a
    have hd1 := nat_tdiv2 a
    have hd2 := nat_tdiv2 l
    have ha63I : (a : Int) ≤ 63 := by have := hal.out; have := hl63.out; omega
    have hl63I : (l : Int) ≤ 63 := by have := hl63.out; omega
    by_cases hodd : a % 2 = 1
    · have h1 : ((a % 2 : Nat) : Int) = 1 := by omega
      rw [h1] at hmod
      have HOD := Lib.hid hodd
      clear h1 hodd
      go_wp2_with fail
      go_roundw
      case rel =>
        refine ⟨(by first | trivial | rfl), ?_⟩
        have h1 := HOD.out
        have h2 := hac.out
        cases c with
        | zero => simp at h2; omega
        | succ c => exact ⟨c, a / 2, l / 2, rfl, rfl, Lib.hid (by rw [← strip_go c a l h1]; exact hs.out), Lib.hid (half_lt c a a h2 (Nat.le_refl _)), Lib.hid (by have := hal.out; show a / 2 ≤ l / 2; omega), Lib.hid (by have := hl63.out; show l / 2 ≤ 63; omega)⟩
      case measure => have := HOD.out; simp [intOf]; omega
    · have h1 : ((a % 2 : Nat) : Int) = 0 := by omega
      rw [h1] at hmod
      have hst := hs.out
      rw [strip_stop c a l hodd] at hst
      subst hst
      have hF := HRES2.out
      simp only at hF
      have HF := Lib.hid hF
      clear h1 hodd hs hac HRES2 HST hd1 hd2 hF
      by_cases ha0 : a = 0
      · have ha0I : ((a : Int) == 0) = true := by subst ha0; rfl
        have hQ0 : pathX a old path = old :: path := by unfold pathX; rw [if_pos ha0]
        obtain ⟨lq, hlq⟩ : ∃ q, lp + 1 = q := ⟨_, rfl⟩
        have hlq9 : (old :: path).length = lq := by rw [List.length_cons, HLP.out]; exact hlq
        have hol : RowV w (.slice ao lo co) old := by have h := HHO.out; rw [HLO.out] at h; exact h
        have hBQ0 : ∀ y ∈ old :: path, y.length ≤ 140737488351232 := fun y hy => by
          rcases List.mem_cons.1 hy with rfl | h
          · exact HO.out
          · exact hB y h
        have hal9 := hal
        have hQI : (lq : Int) ≤ 5864062014635 := by omega
        have HLQ := Lib.hid hlq
        have HQ0 := Lib.hid hQ0
        have HQ9 := Lib.hid hlq9
        have HBQ := Lib.hid hBQ0
        have HOL := Lib.hid hol
        have HL := Lib.hid hl
        have HHB := Lib.hid hB
        clear hlq ha0 hQ0 hlq9 hBQ0 hol hl hB
        go_upto_region 6 with (first
          | (at_builtin; refine wpList_append_rest rfl _ _ rfl _ old HOL.out path ap cp lp HLP.out HL.out HPN.out.2.2 _ rfl rfl rfl ?_; intro g9 cq wX hc9 hc99 hlQ hb5; rw [HLQ.out]; have HC9 := Lib.hid hc9; have HC99 := Lib.hid hc99; clear hc9 hc99; simp only [Act.put, List.setIfInBounds_toArray, List.set_cons_zero, List.set_cons_succ])
          | fail)
        generalize (some ⟨g9, 0, none⟩ : Option Addr) = aq at *
        have hQ := HQ0.out
        have hQl := HQ9.out
        have hQc : lq ≤ cq := by rw [← HLQ.out]; exact HC9.out
        have hQq := HC99.out
        have hBQ := HBQ.out
        have hbX := hb5
        clear HQ0 HQ9 HBQ HOL HL HHB HC9 HC99 HLQ HLP HPN
        generalize old :: path = Q at *
        have HQL := Lib.hid (And.intro hQl (And.intro hQc hQq))
        by_cases hl0 : lq = 0
        · subst hl0
          have hQn : Q = [] := List.eq_nil_of_length_eq_zero hQl
          obtain rfl : RES = false := by rw [← HF.out, hQ, hQn]; simp [resB]
          clear hQl hQc hQq hBQ hlQ hQ hQn HF
          go_wp2_with fail
          go_ret
          exact ⟨rfl, hbX⟩
        · obtain ⟨q, qs, rfl⟩ : ∃ q qs, Q = q :: qs := by
            cases Q with
            | nil => exact absurd hQl.symm hl0
            | cons q qs => exact ⟨q, qs, rfl⟩
          have hF2 := HF.out
          rw [hQ] at hF2
          simp only at hF2
          obtain ⟨TOT, hTOT⟩ : ∃ T, foldE m (sidesL 7 a l) qs (some (q, q)) = T := ⟨_, rfl⟩
          rw [hTOT] at hF2
          have HFT := Lib.hid hF2
          have HTT := Lib.hid hTOT
          have hdr := hlQ.dropc 1 cq (by omega)
          have s1 := fun W => sliceL_tail1 aq lq cq (by omega) W
          obtain ⟨r, hr⟩ : ∃ r, lq - 1 = r := ⟨_, rfl⟩
          have hrl : qs.length = r := by have h9 := hQl; rw [List.length_cons] at h9; omega
          rw [hr] at s1
          have HRL := Lib.hid hrl
          have hq1 := hBQ q (by simp)
          have hBqs : Hid (∀ y ∈ qs, y.length ≤ 140737488351232) := fun y hy => hBQ y (by simp [hy])
          have hdr2 : Lines wX (pieceA aq 1 cq) qs := hdr
          generalize pieceA aq 1 cq = a9 at *
          generalize cq - 1 = c9 at *
          rcases hlQ with h9 | ⟨al, ol, rfl, hal, h3⟩
          · cases h9
          obtain ⟨A1, c1, q1, q2, q3, q4, q5⟩ := h3 0 q rfl
          rw [Nat.add_zero] at q1
          have hrq : RowV wX (.slice A1 q.length c1) q := ⟨A1, c1, rfl, q2, q3, q4, q5⟩
          have hlq0 : ((lq : Int) == 0) = false := by simp; omega
          have hlqp : (0 : Int) < (lq : Int) := by omega
          have hpos0 : 0 < lq := by omega
          have hrI : (r : Int) ≤ 5864062014635 := by have := hQI; omega
          have HC := Lib.hid (fun W (hW : Below wX.heap.size wX W) => (hW.cell (p := ⟨al, ol, none⟩) hal).trans q1)
          obtain ⟨lqq, hlqq⟩ : ∃ z, q.length = z := ⟨_, rfl⟩
          rw [hlqq] at HC hrq
          clear hQl hQc hQq hBQ hQ HF hF2 hTOT hdr hr hrl h3 q1 q2 q3 q4 q5 hl0 hal hlqq
          have HS1 := Lib.hid s1
          clear s1
          go_upto_region 8 with fail
          refine wp_region_det 8 (by kernel_rfl) (by kernel_rfl) (by kernel_rfl) ?_
          simp only [List.take_succ_cons, List.take_zero, List.drop_succ_cons, List.drop_zero]
          iterate 8 (apply wpDet_plain _ rfl; (focus (intro W hW; have z1 := HC.out W hW; go_simp; exact ⟨rfl, Below.refl _ _⟩)); simp only [Act.put, List.setIfInBounds_toArray, List.set_cons_zero, List.set_cons_succ])
          refine wpDet_nil ?_
          intro W0 hW0
          have hrq0 := hrq.keep hW0
          have hl9 := hdr2.keep hW0
          have hb0 := below_step hbX hbX.size hW0
          have s1 := HS1.out W0
          clear HC hrq hdr2 hW0
          go_wp2_with fail
          clear s1
          generalize W0 = wB at *
          go_loopw [13, 14, 15, 16, 17, 18, 50] (fun av lv wv iv ev fv ix wr => ∃ (t a' l' : Nat) (Wd Id : DR), t ≤ r ∧ ix = .int .i64 t ∧ av = .int .i64 a' ∧ lv = .int .i64 l' ∧ Hid (l' < 2 ^ (7 - t)) ∧ Hid (a' ≤ l') ∧ Hid (l' ≤ 63) ∧ DRiv wr Wd wv ev ∧ DRiv wr Id iv fv ∧ Hid (∀ c, Wd = .err c → c ≠ 0) ∧ Hid (∀ c, Id = .err c → c ≠ 0) ∧ Hid (∀ x, Wd = .ok x → x.length ≤ 140737488351232) ∧ Hid (∀ x, Id = .ok x → x.length ≤ 140737488351232) ∧ Hid (foldE m (sidesL (7 - t) a' l') (qs.drop t) (pairO Wd Id) = TOT) ∧ Below wB.heap.size wB wr) (fun _ _ _ _ _ _ ix _ => r - (intOf ix).toNat)
          case atStart => exact ⟨0, a, l, .ok q, .ok q, Nat.zero_le _, rfl, rfl, rfl, Lib.hid (by have := hl63.out; show l < 128; omega), hal9, hl63, ⟨hrq0, rfl⟩, ⟨hrq0, rfl⟩, Lib.hid (fun c h => by cases h), Lib.hid (fun c h => by cases h), Lib.hid (fun x h => by cases h; exact hq1), Lib.hid (fun x h => by cases h; exact hq1), Lib.hid (by rw [List.drop_zero]; exact HTT.out), Below.refl _ _⟩
          case round =>
            obtain ⟨t, a', l', Wd, Id, htn, rfl, rfl, rfl, hl7, hal7, hl637, hdW, hdI, hW0, hI0, hW1, hI1, htot, hbr⟩ := hrel
            clear hrq0
            have hbb := below_step hb0 hb0.size hbr
            have hl63I : (l' : Int) ≤ 63 := by have := hl637.out; omega
            have ha63 : (a' : Int) ≤ 63 := by have := hal7.out; have := hl637.out; omega
            by_cases hlt : t < r
            · have tI : (t : Int) < r := by omega
              have htn' : t < qs.length := by have := HRL.out; omega
              obtain ⟨b, hb⟩ : ∃ x, qs[t]? = some x := ⟨_, List.getElem?_eq_getElem htn'⟩
              have hdr : qs.drop t = b :: qs.drop (t + 1) := by
                rw [List.drop_eq_getElem_cons htn']
                congr 1
                exact (List.getElem?_eq_some_iff.1 hb).2
              have hlb := hBqs.out b (List.mem_of_getElem? hb)
              rcases hl9 with h9 | ⟨al, ol, rfl, hal, h3⟩
              · rw [h9] at hb; simp at hb
              obtain ⟨A2, c2, q1, q2, q3, q4, q5⟩ := h3 t b hb
              have hcell := (hbr.cell (p := ⟨al, ol + t, none⟩) hal).trans q1
              have hrb : RowV wr (.slice A2 b.length c2) b := ⟨A2, c2, rfl, q2, q3, q4, q5.keep hbr⟩
              rw [hdr] at htot
              by_cases hl0 : l' = 0
              · subst hl0
                obtain rfl : RES = false := by
                  rw [← HFT.out, ← htot.out, sidesL_zero]; simp [foldE, resB]
                obtain ⟨a5, n5, k5, rfl⟩ := driv_slice hdW
                obtain ⟨a6, n6, k6, rfl⟩ := driv_slice hdI
                generalize b.length = lb at *
                clear h3 q1 q2 q3 q4 q5 htot hl7 hal7 hl637 hW0 hI0 hW1 hI1 hrb hdr hlt htn hb hdW hdI
                go_wp2_with fail
                go_ret
                exact ⟨rfl, hbb⟩
              · have hlI : ((l' : Int) == 0) = false := by simp; omega
                cases Wd with
                | err c =>
                  obtain ⟨rfl, rfl⟩ := hdW
                  have c0 : ((c : Int) == 0) = false := by simp [hW0.out c rfl]
                  have c0' := hW0.out c rfl
                  obtain rfl : RES = false := by
                    rw [← HFT.out, ← htot.out, show pairO (.err c) Id = none by rfl, foldE_none]; simp [resB]
                  obtain ⟨a6, n6, k6, rfl⟩ := driv_slice hdI
                  generalize b.length = lb at *
                  clear h3 q1 q2 q3 q4 q5 htot hl7 hal7 hl637 hW0 hI0 hW1 hI1 hrb hdr hlt htn hb hdI
                  go_wp2_with fail
                  go_ret
                  exact ⟨rfl, hbb⟩
                | ok x =>
                  obtain ⟨hx, rfl⟩ := hdW
                  cases Id with
                  | err c =>
                    obtain ⟨rfl, rfl⟩ := hdI
                    have c0 : ((c : Int) == 0) = false := by simp [hI0.out c rfl]
                    have c0' := hI0.out c rfl
                    obtain rfl : RES = false := by
                      rw [← HFT.out, ← htot.out, show pairO (.ok x) (.err c) = none by rfl, foldE_none]; simp [resB]
                    obtain ⟨a5, k5, rfl, -⟩ := id hx
                    generalize b.length = lb at *
                    generalize x.length = lx at *
                    clear h3 q1 q2 q3 q4 q5 htot hl7 hal7 hl637 hW0 hI0 hW1 hI1 hrb hdr hlt htn hb hx
                    go_wp2_with fail
                    go_ret
                    exact ⟨rfl, hbb⟩
                  | ok y =>
                    obtain ⟨hy, rfl⟩ := hdI
                    have h77 := pow7 t l' hl7.out hl0
                    have hxl := hW1.out x rfl
                    have hyl := hI1.out y rfl
                    have hl7' := hl7.out
                    rw [h77] at hl7' htot
                    have hmod := nat_tmod2 a'
                    have HLT := Lib.hid hlt
                    have hw2 : ∀ (W : World) (u1 u2 : Value), Below W.heap.size W (W.alloc (.cells #[u1, u2] 29)) := fun W u1 u2 => (Below.refl _ _).alloc (Nat.le_refl _) _
                    by_cases hup : a' % 2 = 1 ∨ a' = l'
                    · rw [sidesL_up _ a' l' hl0 hup] at htot
                      have htot2 : foldE m (sidesL (7 - (t + 1)) ((upto 7 a' l').1 / 2) ((upto 7 a' l').2 / 2)) (qs.drop (t + 1)) (stepE m true b (x, y)) = TOT := htot.out
                      rw [pairO_up] at htot2
                      obtain ⟨ax, kx, rfl, -⟩ := id hx
                      obtain ⟨ay, ky, rfl, -⟩ := id hy
                      have cP := fun (W : World) h => DigestOf_any m 6 [b, x] (some ⟨W.heap.size, 0, none⟩) 2 (W.alloc (.cells #[.slice A2 b.length c2, .slice ax x.length kx] 29)) m0 m1 (by decide) (by decide) (by simp) (fun l hl => by simp at hl; rcases hl with rfl | rfl <;> omega) h
                      have cQ := fun (W : World) h => DigestOf_any m 6 [b, y] (some ⟨W.heap.size, 0, none⟩) 2 (W.alloc (.cells #[.slice A2 b.length c2, .slice ay y.length ky] 29)) m0 m1 (by decide) (by decide) (by simp) (fun l hl => by simp at hl; rcases hl with rfl | rfl <;> omega) h
                      rw [show [b, x].length = 2 from rfl] at cP
                      rw [show [b, y].length = 2 from rfl] at cQ
                      have cP' := cP wr (lines_two wr _ _ _ _ _ hrb hx)
                      have cQ' := fun W hW => cQ W (lines_two W _ _ _ _ _ (hrb.keep hW) (hy.keep hW))
                      have HRW := Lib.hid (show ∀ c, digR m 6 [b, x] = .err c → c ≠ 0 from fun c h => digR_ne h)
                      have HRI := Lib.hid (show ∀ c, digR m 6 [b, y] = .err c → c ≠ 0 from fun c h => digR_ne h)
                      have HSW := Lib.hid (show ∀ z, digR m 6 [b, x] = .ok z → z.length ≤ 140737488351232 from fun z h => by have := digR_len h; omega)
                      have HSI := Lib.hid (show ∀ z, digR m 6 [b, y] = .ok z → z.length ≤ 140737488351232 from fun z h => by have := digR_len h; omega)
                      generalize digR m 6 [b, x] = RW at *
                      generalize digR m 6 [b, y] = RI at *
                      have HTOT2 := Lib.hid htot2
                      have HUPL := Lib.hid (upto_le 7 a' l')
                      have HL7' := Lib.hid hl7'
                      have hcs : (a' % 2 = 1) ∨ (a' % 2 = 0 ∧ a' = l') := by omega
                      have hcase : (((a' % 2 : Nat) : Int) = 1) ∨ (((a' % 2 : Nat) : Int) = 0 ∧ ((a' : Int) == (l' : Int)) = true) := by
                        rcases hcs with h | ⟨h1, h2⟩
                        · left; omega
                        · right; exact ⟨by omega, by rw [h2]; simp⟩
                      have hwb := hw2 wr (.slice A2 b.length c2) (.slice ax x.length kx)
                      have hwc := fun W => hw2 W (.slice A2 b.length c2) (.slice ay y.length ky)
                      generalize b.length = lb at *
                      generalize x.length = lx at *
                      generalize y.length = ly at *
                      clear h3 q1 q2 q3 q4 q5 htot htot2 hl7 hl7' hW0 hI0 hW1 hI1 hrb hdr hlt htn hx hy h77 hxl hyl hlb hup hl0 hcs cP cQ hw2
                      rcases hcase with h1 | ⟨h1, h2⟩
                      all_goals
                        rw [h1] at hmod
                        clear h1
                        go_wp2_with fail
                        refine cP'.mono ?_
                        intro e w2 hpost
                        obtain ⟨a3, n3, k3, e3, rfl, hd3, hb3⟩ := digPost_in hpost
                        have hb13 := below_step hwb hwb.size hb3
                        have c2' := cQ' w2 hb13
                        clear cP' cQ' hpost
                        go_wp2_with fail
                        refine c2'.mono ?_
                        intro e w4 hpost
                        obtain ⟨a4, n4, k4, e4, rfl, hd4, hb4⟩ := digPost_in hpost
                        have hb24 := below_step (hwc w2) (hwc w2).size hb4
                        have hd34 := (hd3.keep hb24).iv
                        have hd44 := hd4.iv
                        have hbb4 := below_step hbr hbr.size (below_step hb13 hb13.size hb24)
                        clear c2' hpost hb3 hb4 hb13 hb24 hd3 hd4 hwb hwc hmod
                        go_wp2_with fail
                        go_loopw [13, 14] (fun av lv wz => w4 = wz ∧ ∃ c a2 l2 : Nat, av = .int .i64 a2 ∧ lv = .int .i64 l2 ∧ Hid (upto c a2 l2 = upto 7 a' l') ∧ Hid (a2 < 2 ^ c) ∧ Hid (a2 ≤ a') ∧ Hid (l2 ≤ l') ∧ Hid (a2 ≤ l2)) (fun av _ _ => (intOf av).toNat)
                        case atStart => exact ⟨rfl, 7, a', l', rfl, rfl, Lib.hid rfl, Lib.hid (by show a' < 128; omega), Lib.hid (Nat.le_refl _), Lib.hid (Nat.le_refl _), hal7⟩
                        case round =>
                          obtain ⟨rfl, c, a2, l2, rfl, rfl, hu, hac, haa, hll, hall⟩ := hrel
                          have hmod' := nat_tmod2 a2
                          have hd1' := nat_tdiv2 a2
                          have hd2' := nat_tdiv2 l2
                          have ha63' : (a2 : Int) ≤ 63 := by have := haa.out; omega
                          have hl63' : (l2 : Int) ≤ 63 := by have := hll.out; omega
                          by_cases hgo : a2 % 2 = 0 ∧ 0 < a2
                          · have hg1 : ((a2 % 2 : Nat) : Int) = 0 := by omega
                            have hg2 : (0 : Int) < a2 := by omega
                            rw [hg1] at hmod'
                            have HG := Lib.hid hgo
                            clear hgo hg1
                            go_wp2_with fail
                            go_roundw
                            case rel =>
                              refine ⟨(by first | trivial | rfl), ?_⟩
                              have h1 := HG.out
                              have h2 := hac.out
                              cases c with
                              | zero => simp at h2; omega
                              | succ c =>
                                refine ⟨c, a2 / 2, l2 / 2, rfl, rfl, Lib.hid ?_, Lib.hid (half_lt c a2 a2 h2 (Nat.le_refl _)), Lib.hid (by have := haa.out; omega), Lib.hid (by have := hll.out; omega), Lib.hid (by have := hall.out; omega)⟩
                                rw [← upto_go c a2 l2 h1]; exact hu.out
                            case measure => have := HG.out; simp [intOf]; omega
                          · have huf := (upto_stop c a2 l2 hgo).symm.trans hu.out
                            have hgI : ((a2 % 2 : Nat) : Int) = 1 ∨ (((a2 % 2 : Nat) : Int) = 0 ∧ ¬ (0 : Int) < a2) := by omega
                            have HU := Lib.hid huf
                            clear hgo hu huf hac
                            rcases hgI with hg1 | ⟨hg1, hg2⟩
                            all_goals
                              rw [hg1] at hmod'
                              clear hg1
                              go_wp2_with fail
                              go_roundw
                              case rel =>
                                refine ⟨t + 1, a2 / 2, l2 / 2, RW, RI, HLT.out, by go_num, rfl, rfl, Lib.hid ?_, Lib.hid ?_, Lib.hid ?_, hd34, hd44, HRW, HRI, HSW, HSI, Lib.hid ?_, hbb4⟩
                                · exact half_lt _ l' l2 HL7'.out hll.out
                                · have := hall.out; omega
                                · have := hll.out; have := hl637.out; omega
                                · have h9 := HTOT2.out
                                  rw [← HU.out] at h9
                                  exact h9
                              case measure => have := HLT.out; simp [intOf]; omega
                    · rw [sidesL_down _ a' l' hl0 hup] at htot
                      have htot2 : foldE m (sidesL (7 - (t + 1)) (a' / 2) (l' / 2)) (qs.drop (t + 1)) (stepE m false b (x, y)) = TOT := htot.out
                      rw [pairO_down] at htot2
                      obtain ⟨ax, kx, rfl, -⟩ := id hx
                      obtain ⟨ay, ky, rfl, -⟩ := id hy
                      have cP := fun (W : World) h => DigestOf_any m 6 [y, b] (some ⟨W.heap.size, 0, none⟩) 2 (W.alloc (.cells #[.slice ay y.length ky, .slice A2 b.length c2] 29)) m0 m1 (by decide) (by decide) (by simp) (fun l hl => by simp at hl; rcases hl with rfl | rfl <;> omega) h
                      rw [show [y, b].length = 2 from rfl] at cP
                      have cP' := cP wr (lines_two wr _ _ _ _ _ hy hrb)
                      have HRI := Lib.hid (show ∀ c, digR m 6 [y, b] = .err c → c ≠ 0 from fun c h => digR_ne h)
                      have HSI := Lib.hid (show ∀ z, digR m 6 [y, b] = .ok z → z.length ≤ 140737488351232 from fun z h => by have := digR_len h; omega)
                      generalize digR m 6 [y, b] = RI at *
                      have HTOT2 := Lib.hid htot2
                      have HL7' := Lib.hid (half_lt _ l' l' hl7' (Nat.le_refl _))
                      have HAL' := Lib.hid (show a' / 2 ≤ l' / 2 by have := hal7.out; omega)
                      have HL63' := Lib.hid (show l' / 2 ≤ 63 by have := hl637.out; omega)
                      have h1 : ((a' % 2 : Nat) : Int) = 0 := by omega
                      have h2 : ((a' : Int) == (l' : Int)) = false := by
                        have : a' ≠ l' := fun h => hup (.inr h)
                        simp; omega
                      rw [h1] at hmod
                      have hd1' := nat_tdiv2 a'
                      have hd2' := nat_tdiv2 l'
                      have hwb := hw2 wr (.slice ay y.length ky) (.slice A2 b.length c2)
                      generalize b.length = lb at *
                      generalize y.length = ly at *
                      clear h3 q1 q2 q3 q4 q5 htot htot2 hl7 hl7' hI0 hI1 hrb hdr hlt htn hy h77 hxl hyl hlb hup hl0 h1 cP hw2
                      go_wp2_with fail
                      refine cP'.mono ?_
                      intro e w2 hpost
                      obtain ⟨a3, n3, k3, e3, rfl, hd3, hb3⟩ := digPost_in hpost
                      have hb13 := below_step hwb hwb.size hb3
                      have hbb4 := below_step hbr hbr.size hb13
                      have hx2 := hx.keep hb13
                      have hd33 := hd3.iv
                      clear cP' hpost hb3 hwb hb13 hmod h2 hx hd3
                      generalize x.length = lx at *
                      go_wp2_with fail
                      go_roundw
                      case rel => exact ⟨t + 1, a' / 2, l' / 2, .ok x, RI, HLT.out, by go_num, rfl, rfl, HL7', HAL', HL63', ⟨hx2, rfl⟩, hd33, hW0, HRI, hW1, HSI, HTOT2, hbb4⟩
                      case measure => have := HLT.out; simp [intOf]; omega
            · have tI : ¬ (t : Int) < r := by omega
              have hdrop : qs.drop t = [] := List.drop_of_length_le (by have := HRL.out; omega)
              have hfin := htot.out
              rw [hdrop, foldE_end _ _ _ _ _ hl7.out] at hfin
              clear htot hl7 hal7 hl637 hdrop hlt htn hl9
              cases Wd with
              | err c =>
                obtain ⟨rfl, rfl⟩ := hdW
                have c0 : ((c : Int) == 0) = false := by simp [hW0.out c rfl]
                obtain rfl : RES = false := by
                  rw [← HFT.out, ← hfin]
                  by_cases hz : l' = 0 <;> simp [hz, pairO, resB]
                obtain ⟨a6, n6, k6, rfl⟩ := driv_slice hdI
                clear hfin hW0 hI0 hW1 hI1 hdI
                go_wp2_with fail
                go_ret
                exact ⟨rfl, hbb⟩
              | ok x =>
                obtain ⟨hx, rfl⟩ := hdW
                cases Id with
                | err c =>
                  obtain ⟨rfl, rfl⟩ := hdI
                  have c0 : ((c : Int) == 0) = false := by simp [hI0.out c rfl]
                  obtain rfl : RES = false := by
                    rw [← HFT.out, ← hfin]
                    by_cases hz : l' = 0 <;> simp [hz, pairO, resB]
                  obtain ⟨a5, k5, rfl, -⟩ := id hx
                  generalize x.length = lx at *
                  clear hfin hW0 hI0 hW1 hI1 hx
                  go_wp2_with fail
                  go_ret
                  exact ⟨rfl, hbb⟩
                | ok y =>
                  obtain ⟨hy, rfl⟩ := hdI
                  obtain ⟨ax, kx, rfl, -, -, -, x4⟩ := id hx
                  obtain ⟨ay, ky, rfl, -, -, -, y4⟩ := id hy
                  by_cases hl0 : l' = 0
                  · have hres : (decide (x = old) && decide (y = top)) = RES := by
                      rw [← HFT.out, ← hfin, if_pos hl0]
                      simp [pairO, resB]
                    subst hl0
                    obtain ⟨_, _, eo, -, -, -, o4⟩ := id HHO.out
                    obtain ⟨ee, -, -⟩ := Value.slice.inj eo
                    subst ee
                    have z1 := bytes_string (cap := kx) x4
                    have z2 := bytes_string (cap := co) (o4.keep hbb)
                    have z3 := bytes_string (cap := ky) y4
                    have z4 := bytes_string (cap := ct) (HHT.out.keep hbb)
                    rw [HLO.out] at z2
                    rw [HLT9.out] at z4
                    have HRS := Lib.hid hres
                    have hse : (x == old) = decide (x = old) := by by_cases h : x = old <;> simp [h]
                    have hsf : (y == top) = decide (y = top) := by by_cases h : y = top <;> simp [h]
                    generalize x.length = lx at *
                    generalize y.length = ly at *
                    clear hfin hW0 hI0 hW1 hI1 hx hy x4 y4 o4 eo hres HHO HHT HFT HTT
                    by_cases h1 : x = old
                    · by_cases h2 : y = top
                      · obtain rfl : RES = true := by rw [← HRS.out]; simp [h1, h2]
                        rw [decide_eq_true h1] at hse
                        rw [decide_eq_true h2] at hsf
                        clear HRS h1 h2
                        go_wp2_with fail
                        go_ret
                        exact ⟨rfl, hbb⟩
                      · obtain rfl : RES = false := by rw [← HRS.out]; simp [h2]
                        rw [decide_eq_true h1] at hse
                        rw [decide_eq_false h2] at hsf
                        clear HRS h1 h2
                        go_wp2_with fail
                        go_ret
                        exact ⟨rfl, hbb⟩
                    · obtain rfl : RES = false := by rw [← HRS.out]; simp [h1]
                      rw [decide_eq_false h1] at hse
                      clear HRS h1 hsf
                      go_wp2_with fail
                      go_ret
                      exact ⟨rfl, hbb⟩
                  · have hlI : ((l' : Int) == 0) = false := by simp; omega
                    obtain rfl : RES = false := by rw [← HFT.out, ← hfin, if_neg hl0]; simp [resB]
                    generalize x.length = lx at *
                    generalize y.length = ly at *
                    clear hfin hW0 hI0 hW1 hI1 hx hy x4 y4 hl0
                    go_wp2_with fail
                    go_ret
                    exact ⟨rfl, hbb⟩
      · have ha0I : ((a : Int) == 0) = false := by simp; omega
        have hQ : pathX a old path = path := by unfold pathX; rw [if_neg ha0]
        have hlQ := hl
        have hQl := HLP.out
        have hQc := HPN.out.1
        have hQq := HPN.out.2.1
        have hBQ := hB
        have hQI : (lp : Int) ≤ 5864062014635 := by omega
        have hbX := hBB
        have hal9 := hal
        generalize path = Q at *
        have HQL := Lib.hid (And.intro hQl (And.intro hQc hQq))
        by_cases hl0 : lp = 0
        · subst hl0
          have hQn : Q = [] := List.eq_nil_of_length_eq_zero hQl
          obtain rfl : RES = false := by rw [← HF.out, hQ, hQn]; simp [resB]
          clear hQl hQc hQq hBQ hlQ hQ hQn HF
          go_wp2_with fail
          go_ret
          exact ⟨rfl, hbX⟩
        · obtain ⟨q, qs, rfl⟩ : ∃ q qs, Q = q :: qs := by
            cases Q with
            | nil => exact absurd hQl.symm hl0
            | cons q qs => exact ⟨q, qs, rfl⟩
          have hF2 := HF.out
          rw [hQ] at hF2
          simp only at hF2
          obtain ⟨TOT, hTOT⟩ : ∃ T, foldE m (sidesL 7 a l) qs (some (q, q)) = T := ⟨_, rfl⟩
          rw [hTOT] at hF2
          have HFT := Lib.hid hF2
          have HTT := Lib.hid hTOT
          have hdr := hlQ.dropc 1 cp (by omega)
          have s1 := fun W => sliceL_tail1 ap lp cp (by omega) W
          obtain ⟨r, hr⟩ : ∃ r, lp - 1 = r := ⟨_, rfl⟩
          have hrl : qs.length = r := by have h9 := hQl; rw [List.length_cons] at h9; omega
          rw [hr] at s1
          have HRL := Lib.hid hrl
          have hq1 := hBQ q (by simp)
          have hBqs : Hid (∀ y ∈ qs, y.length ≤ 140737488351232) := fun y hy => hBQ y (by simp [hy])
          have hdr2 : Lines w (pieceA ap 1 cp) qs := hdr
          generalize pieceA ap 1 cp = a9 at *
          generalize cp - 1 = c9 at *
          rcases hlQ with h9 | ⟨al, ol, rfl, hal, h3⟩
          · cases h9
          obtain ⟨A1, c1, q1, q2, q3, q4, q5⟩ := h3 0 q rfl
          rw [Nat.add_zero] at q1
          have hrq : RowV w (.slice A1 q.length c1) q := ⟨A1, c1, rfl, q2, q3, q4, q5⟩
          have hlp0 : ((lp : Int) == 0) = false := by simp; omega
          have hlqp : (0 : Int) < (lp : Int) := by omega
          have hpos0 : 0 < lp := by omega
          have hrI : (r : Int) ≤ 5864062014635 := by have := hQI; omega
          have HC := Lib.hid (fun W (hW : Below w.heap.size w W) => (hW.cell (p := ⟨al, ol, none⟩) hal).trans q1)
          obtain ⟨lqq, hlqq⟩ : ∃ z, q.length = z := ⟨_, rfl⟩
          rw [hlqq] at HC hrq
          clear hQl hQc hQq hBQ hQ HF hF2 hTOT hdr hr hrl h3 q1 q2 q3 q4 q5 hl0 hal hlqq
          have HS1 := Lib.hid s1
          clear s1
          go_upto_region 8 with fail
          refine wp_region_det 8 (by kernel_rfl) (by kernel_rfl) (by kernel_rfl) ?_
          simp only [List.take_succ_cons, List.take_zero, List.drop_succ_cons, List.drop_zero]
          iterate 8 (apply wpDet_plain _ rfl; (focus (intro W hW; have z1 := HC.out W hW; go_simp; exact ⟨rfl, Below.refl _ _⟩)); simp only [Act.put, List.setIfInBounds_toArray, List.set_cons_zero, List.set_cons_succ])
          refine wpDet_nil ?_
          intro W0 hW0
          have hrq0 := hrq.keep hW0
          have hl9 := hdr2.keep hW0
          have hb0 := below_step hbX hbX.size hW0
          have s1 := HS1.out W0
          clear HC hrq hdr2 hW0
          go_wp2_with fail
          clear s1
          generalize W0 = wB at *
          go_loopw [13, 14, 15, 16, 17, 18, 50] (fun av lv wv iv ev fv ix wr => ∃ (t a' l' : Nat) (Wd Id : DR), t ≤ r ∧ ix = .int .i64 t ∧ av = .int .i64 a' ∧ lv = .int .i64 l' ∧ Hid (l' < 2 ^ (7 - t)) ∧ Hid (a' ≤ l') ∧ Hid (l' ≤ 63) ∧ DRiv wr Wd wv ev ∧ DRiv wr Id iv fv ∧ Hid (∀ c, Wd = .err c → c ≠ 0) ∧ Hid (∀ c, Id = .err c → c ≠ 0) ∧ Hid (∀ x, Wd = .ok x → x.length ≤ 140737488351232) ∧ Hid (∀ x, Id = .ok x → x.length ≤ 140737488351232) ∧ Hid (foldE m (sidesL (7 - t) a' l') (qs.drop t) (pairO Wd Id) = TOT) ∧ Below wB.heap.size wB wr) (fun _ _ _ _ _ _ ix _ => r - (intOf ix).toNat)
          case atStart => exact ⟨0, a, l, .ok q, .ok q, Nat.zero_le _, rfl, rfl, rfl, Lib.hid (by have := hl63.out; show l < 128; omega), hal9, hl63, ⟨hrq0, rfl⟩, ⟨hrq0, rfl⟩, Lib.hid (fun c h => by cases h), Lib.hid (fun c h => by cases h), Lib.hid (fun x h => by cases h; exact hq1), Lib.hid (fun x h => by cases h; exact hq1), Lib.hid (by rw [List.drop_zero]; exact HTT.out), Below.refl _ _⟩
          case round =>
            obtain ⟨t, a', l', Wd, Id, htn, rfl, rfl, rfl, hl7, hal7, hl637, hdW, hdI, hW0, hI0, hW1, hI1, htot, hbr⟩ := hrel
            clear hrq0
            have hbb := below_step hb0 hb0.size hbr
            have hl63I : (l' : Int) ≤ 63 := by have := hl637.out; omega
            have ha63 : (a' : Int) ≤ 63 := by have := hal7.out; have := hl637.out; omega
            by_cases hlt : t < r
            · have tI : (t : Int) < r := by omega
              have htn' : t < qs.length := by have := HRL.out; omega
              obtain ⟨b, hb⟩ : ∃ x, qs[t]? = some x := ⟨_, List.getElem?_eq_getElem htn'⟩
              have hdr : qs.drop t = b :: qs.drop (t + 1) := by
                rw [List.drop_eq_getElem_cons htn']
                congr 1
                exact (List.getElem?_eq_some_iff.1 hb).2
              have hlb := hBqs.out b (List.mem_of_getElem? hb)
              rcases hl9 with h9 | ⟨al, ol, rfl, hal, h3⟩
              · rw [h9] at hb; simp at hb
              obtain ⟨A2, c2, q1, q2, q3, q4, q5⟩ := h3 t b hb
              have hcell := (hbr.cell (p := ⟨al, ol + t, none⟩) hal).trans q1
              have hrb : RowV wr (.slice A2 b.length c2) b := ⟨A2, c2, rfl, q2, q3, q4, q5.keep hbr⟩
              rw [hdr] at htot
              by_cases hl0 : l' = 0
              · subst hl0
                obtain rfl : RES = false := by
                  rw [← HFT.out, ← htot.out, sidesL_zero]; simp [foldE, resB]
                obtain ⟨a5, n5, k5, rfl⟩ := driv_slice hdW
                obtain ⟨a6, n6, k6, rfl⟩ := driv_slice hdI
                generalize b.length = lb at *
                clear h3 q1 q2 q3 q4 q5 htot hl7 hal7 hl637 hW0 hI0 hW1 hI1 hrb hdr hlt htn hb hdW hdI
                go_wp2_with fail
                go_ret
                exact ⟨rfl, hbb⟩
              · have hlI : ((l' : Int) == 0) = false := by simp; omega
                cases Wd with
                | err c =>
                  obtain ⟨rfl, rfl⟩ := hdW
                  have c0 : ((c : Int) == 0) = false := by simp [hW0.out c rfl]
                  have c0' := hW0.out c rfl
                  obtain rfl : RES = false := by
                    rw [← HFT.out, ← htot.out, show pairO (.err c) Id = none by rfl, foldE_none]; simp [resB]
                  obtain ⟨a6, n6, k6, rfl⟩ := driv_slice hdI
                  generalize b.length = lb at *
                  clear h3 q1 q2 q3 q4 q5 htot hl7 hal7 hl637 hW0 hI0 hW1 hI1 hrb hdr hlt htn hb hdI
                  go_wp2_with fail
                  go_ret
                  exact ⟨rfl, hbb⟩
                | ok x =>
                  obtain ⟨hx, rfl⟩ := hdW
                  cases Id with
                  | err c =>
                    obtain ⟨rfl, rfl⟩ := hdI
                    have c0 : ((c : Int) == 0) = false := by simp [hI0.out c rfl]
                    have c0' := hI0.out c rfl
                    obtain rfl : RES = false := by
                      rw [← HFT.out, ← htot.out, show pairO (.ok x) (.err c) = none by rfl, foldE_none]; simp [resB]
                    obtain ⟨a5, k5, rfl, -⟩ := id hx
                    generalize b.length = lb at *
                    generalize x.length = lx at *
                    clear h3 q1 q2 q3 q4 q5 htot hl7 hal7 hl637 hW0 hI0 hW1 hI1 hrb hdr hlt htn hb hx
                    go_wp2_with fail
                    go_ret
                    exact ⟨rfl, hbb⟩
                  | ok y =>
                    obtain ⟨hy, rfl⟩ := hdI
                    have h77 := pow7 t l' hl7.out hl0
                    have hxl := hW1.out x rfl
                    have hyl := hI1.out y rfl
                    have hl7' := hl7.out
                    rw [h77] at hl7' htot
                    have hmod := nat_tmod2 a'
                    have HLT := Lib.hid hlt
                    have hw2 : ∀ (W : World) (u1 u2 : Value), Below W.heap.size W (W.alloc (.cells #[u1, u2] 29)) := fun W u1 u2 => (Below.refl _ _).alloc (Nat.le_refl _) _
                    by_cases hup : a' % 2 = 1 ∨ a' = l'
                    · rw [sidesL_up _ a' l' hl0 hup] at htot
                      have htot2 : foldE m (sidesL (7 - (t + 1)) ((upto 7 a' l').1 / 2) ((upto 7 a' l').2 / 2)) (qs.drop (t + 1)) (stepE m true b (x, y)) = TOT := htot.out
                      rw [pairO_up] at htot2
                      obtain ⟨ax, kx, rfl, -⟩ := id hx
                      obtain ⟨ay, ky, rfl, -⟩ := id hy
                      have cP := fun (W : World) h => DigestOf_any m 6 [b, x] (some ⟨W.heap.size, 0, none⟩) 2 (W.alloc (.cells #[.slice A2 b.length c2, .slice ax x.length kx] 29)) m0 m1 (by decide) (by decide) (by simp) (fun l hl => by simp at hl; rcases hl with rfl | rfl <;> omega) h
                      have cQ := fun (W : World) h => DigestOf_any m 6 [b, y] (some ⟨W.heap.size, 0, none⟩) 2 (W.alloc (.cells #[.slice A2 b.length c2, .slice ay y.length ky] 29)) m0 m1 (by decide) (by decide) (by simp) (fun l hl => by simp at hl; rcases hl with rfl | rfl <;> omega) h
                      rw [show [b, x].length = 2 from rfl] at cP
                      rw [show [b, y].length = 2 from rfl] at cQ
                      have cP' := cP wr (lines_two wr _ _ _ _ _ hrb hx)
                      have cQ' := fun W hW => cQ W (lines_two W _ _ _ _ _ (hrb.keep hW) (hy.keep hW))
                      have HRW := Lib.hid (show ∀ c, digR m 6 [b, x] = .err c → c ≠ 0 from fun c h => digR_ne h)
                      have HRI := Lib.hid (show ∀ c, digR m 6 [b, y] = .err c → c ≠ 0 from fun c h => digR_ne h)
                      have HSW := Lib.hid (show ∀ z, digR m 6 [b, x] = .ok z → z.length ≤ 140737488351232 from fun z h => by have := digR_len h; omega)
                      have HSI := Lib.hid (show ∀ z, digR m 6 [b, y] = .ok z → z.length ≤ 140737488351232 from fun z h => by have := digR_len h; omega)
                      generalize digR m 6 [b, x] = RW at *
                      generalize digR m 6 [b, y] = RI at *
                      have HTOT2 := Lib.hid htot2
                      have HUPL := Lib.hid (upto_le 7 a' l')
                      have HL7' := Lib.hid hl7'
                      have hcs : (a' % 2 = 1) ∨ (a' % 2 = 0 ∧ a' = l') := by omega
                      have hcase : (((a' % 2 : Nat) : Int) = 1) ∨ (((a' % 2 : Nat) : Int) = 0 ∧ ((a' : Int) == (l' : Int)) = true) := by
                        rcases hcs with h | ⟨h1, h2⟩
                        · left; omega
                        · right; exact ⟨by omega, by rw [h2]; simp⟩
                      have hwb := hw2 wr (.slice A2 b.length c2) (.slice ax x.length kx)
                      have hwc := fun W => hw2 W (.slice A2 b.length c2) (.slice ay y.length ky)
                      generalize b.length = lb at *
                      generalize x.length = lx at *
                      generalize y.length = ly at *
                      clear h3 q1 q2 q3 q4 q5 htot htot2 hl7 hl7' hW0 hI0 hW1 hI1 hrb hdr hlt htn hx hy h77 hxl hyl hlb hup hl0 hcs cP cQ hw2
                      rcases hcase with h1 | ⟨h1, h2⟩
                      all_goals
                        rw [h1] at hmod
                        clear h1
                        go_wp2_with fail
                        refine cP'.mono ?_
                        intro e w2 hpost
                        obtain ⟨a3, n3, k3, e3, rfl, hd3, hb3⟩ := digPost_in hpost
                        have hb13 := below_step hwb hwb.size hb3
                        have c2' := cQ' w2 hb13
                        clear cP' cQ' hpost
                        go_wp2_with fail
                        refine c2'.mono ?_
                        intro e w4 hpost
                        obtain ⟨a4, n4, k4, e4, rfl, hd4, hb4⟩ := digPost_in hpost
                        have hb24 := below_step (hwc w2) (hwc w2).size hb4
                        have hd34 := (hd3.keep hb24).iv
                        have hd44 := hd4.iv
                        have hbb4 := below_step hbr hbr.size (below_step hb13 hb13.size hb24)
                        clear c2' hpost hb3 hb4 hb13 hb24 hd3 hd4 hwb hwc hmod
                        go_wp2_with fail
                        go_loopw [13, 14] (fun av lv wz => w4 = wz ∧ ∃ c a2 l2 : Nat, av = .int .i64 a2 ∧ lv = .int .i64 l2 ∧ Hid (upto c a2 l2 = upto 7 a' l') ∧ Hid (a2 < 2 ^ c) ∧ Hid (a2 ≤ a') ∧ Hid (l2 ≤ l') ∧ Hid (a2 ≤ l2)) (fun av _ _ => (intOf av).toNat)
                        case atStart => exact ⟨rfl, 7, a', l', rfl, rfl, Lib.hid rfl, Lib.hid (by show a' < 128; omega), Lib.hid (Nat.le_refl _), Lib.hid (Nat.le_refl _), hal7⟩
                        case round =>
                          obtain ⟨rfl, c, a2, l2, rfl, rfl, hu, hac, haa, hll, hall⟩ := hrel
                          have hmod' := nat_tmod2 a2
                          have hd1' := nat_tdiv2 a2
                          have hd2' := nat_tdiv2 l2
                          have ha63' : (a2 : Int) ≤ 63 := by have := haa.out; omega
                          have hl63' : (l2 : Int) ≤ 63 := by have := hll.out; omega
                          by_cases hgo : a2 % 2 = 0 ∧ 0 < a2
                          · have hg1 : ((a2 % 2 : Nat) : Int) = 0 := by omega
                            have hg2 : (0 : Int) < a2 := by omega
                            rw [hg1] at hmod'
                            have HG := Lib.hid hgo
                            clear hgo hg1
                            go_wp2_with fail
                            go_roundw
                            case rel =>
                              refine ⟨(by first | trivial | rfl), ?_⟩
                              have h1 := HG.out
                              have h2 := hac.out
                              cases c with
                              | zero => simp at h2; omega
                              | succ c =>
                                refine ⟨c, a2 / 2, l2 / 2, rfl, rfl, Lib.hid ?_, Lib.hid (half_lt c a2 a2 h2 (Nat.le_refl _)), Lib.hid (by have := haa.out; omega), Lib.hid (by have := hll.out; omega), Lib.hid (by have := hall.out; omega)⟩
                                rw [← upto_go c a2 l2 h1]; exact hu.out
                            case measure => have := HG.out; simp [intOf]; omega
                          · have huf := (upto_stop c a2 l2 hgo).symm.trans hu.out
                            have hgI : ((a2 % 2 : Nat) : Int) = 1 ∨ (((a2 % 2 : Nat) : Int) = 0 ∧ ¬ (0 : Int) < a2) := by omega
                            have HU := Lib.hid huf
                            clear hgo hu huf hac
                            rcases hgI with hg1 | ⟨hg1, hg2⟩
                            all_goals
                              rw [hg1] at hmod'
                              clear hg1
                              go_wp2_with fail
                              go_roundw
                              case rel =>
                                refine ⟨t + 1, a2 / 2, l2 / 2, RW, RI, HLT.out, by go_num, rfl, rfl, Lib.hid ?_, Lib.hid ?_, Lib.hid ?_, hd34, hd44, HRW, HRI, HSW, HSI, Lib.hid ?_, hbb4⟩
                                · exact half_lt _ l' l2 HL7'.out hll.out
                                · have := hall.out; omega
                                · have := hll.out; have := hl637.out; omega
                                · have h9 := HTOT2.out
                                  rw [← HU.out] at h9
                                  exact h9
                              case measure => have := HLT.out; simp [intOf]; omega
                    · rw [sidesL_down _ a' l' hl0 hup] at htot
                      have htot2 : foldE m (sidesL (7 - (t + 1)) (a' / 2) (l' / 2)) (qs.drop (t + 1)) (stepE m false b (x, y)) = TOT := htot.out
                      rw [pairO_down] at htot2
                      obtain ⟨ax, kx, rfl, -⟩ := id hx
                      obtain ⟨ay, ky, rfl, -⟩ := id hy
                      have cP := fun (W : World) h => DigestOf_any m 6 [y, b] (some ⟨W.heap.size, 0, none⟩) 2 (W.alloc (.cells #[.slice ay y.length ky, .slice A2 b.length c2] 29)) m0 m1 (by decide) (by decide) (by simp) (fun l hl => by simp at hl; rcases hl with rfl | rfl <;> omega) h
                      rw [show [y, b].length = 2 from rfl] at cP
                      have cP' := cP wr (lines_two wr _ _ _ _ _ hy hrb)
                      have HRI := Lib.hid (show ∀ c, digR m 6 [y, b] = .err c → c ≠ 0 from fun c h => digR_ne h)
                      have HSI := Lib.hid (show ∀ z, digR m 6 [y, b] = .ok z → z.length ≤ 140737488351232 from fun z h => by have := digR_len h; omega)
                      generalize digR m 6 [y, b] = RI at *
                      have HTOT2 := Lib.hid htot2
                      have HL7' := Lib.hid (half_lt _ l' l' hl7' (Nat.le_refl _))
                      have HAL' := Lib.hid (show a' / 2 ≤ l' / 2 by have := hal7.out; omega)
                      have HL63' := Lib.hid (show l' / 2 ≤ 63 by have := hl637.out; omega)
                      have h1 : ((a' % 2 : Nat) : Int) = 0 := by omega
                      have h2 : ((a' : Int) == (l' : Int)) = false := by
                        have : a' ≠ l' := fun h => hup (.inr h)
                        simp; omega
                      rw [h1] at hmod
                      have hd1' := nat_tdiv2 a'
                      have hd2' := nat_tdiv2 l'
                      have hwb := hw2 wr (.slice ay y.length ky) (.slice A2 b.length c2)
                      generalize b.length = lb at *
                      generalize y.length = ly at *
                      clear h3 q1 q2 q3 q4 q5 htot htot2 hl7 hl7' hI0 hI1 hrb hdr hlt htn hy h77 hxl hyl hlb hup hl0 h1 cP hw2
                      go_wp2_with fail
                      refine cP'.mono ?_
                      intro e w2 hpost
                      obtain ⟨a3, n3, k3, e3, rfl, hd3, hb3⟩ := digPost_in hpost
                      have hb13 := below_step hwb hwb.size hb3
                      have hbb4 := below_step hbr hbr.size hb13
                      have hx2 := hx.keep hb13
                      have hd33 := hd3.iv
                      clear cP' hpost hb3 hwb hb13 hmod h2 hx hd3
                      generalize x.length = lx at *
                      go_wp2_with fail
                      go_roundw
                      case rel => exact ⟨t + 1, a' / 2, l' / 2, .ok x, RI, HLT.out, by go_num, rfl, rfl, HL7', HAL', HL63', ⟨hx2, rfl⟩, hd33, hW0, HRI, hW1, HSI, HTOT2, hbb4⟩
                      case measure => have := HLT.out; simp [intOf]; omega
            · have tI : ¬ (t : Int) < r := by omega
              have hdrop : qs.drop t = [] := List.drop_of_length_le (by have := HRL.out; omega)
              have hfin := htot.out
              rw [hdrop, foldE_end _ _ _ _ _ hl7.out] at hfin
              clear htot hl7 hal7 hl637 hdrop hlt htn hl9
              cases Wd with
              | err c =>
                obtain ⟨rfl, rfl⟩ := hdW
                have c0 : ((c : Int) == 0) = false := by simp [hW0.out c rfl]
                obtain rfl : RES = false := by
                  rw [← HFT.out, ← hfin]
                  by_cases hz : l' = 0 <;> simp [hz, pairO, resB]
                obtain ⟨a6, n6, k6, rfl⟩ := driv_slice hdI
                clear hfin hW0 hI0 hW1 hI1 hdI
                go_wp2_with fail
                go_ret
                exact ⟨rfl, hbb⟩
              | ok x =>
                obtain ⟨hx, rfl⟩ := hdW
                cases Id with
                | err c =>
                  obtain ⟨rfl, rfl⟩ := hdI
                  have c0 : ((c : Int) == 0) = false := by simp [hI0.out c rfl]
                  obtain rfl : RES = false := by
                    rw [← HFT.out, ← hfin]
                    by_cases hz : l' = 0 <;> simp [hz, pairO, resB]
                  obtain ⟨a5, k5, rfl, -⟩ := id hx
                  generalize x.length = lx at *
                  clear hfin hW0 hI0 hW1 hI1 hx
                  go_wp2_with fail
                  go_ret
                  exact ⟨rfl, hbb⟩
                | ok y =>
                  obtain ⟨hy, rfl⟩ := hdI
                  obtain ⟨ax, kx, rfl, -, -, -, x4⟩ := id hx
                  obtain ⟨ay, ky, rfl, -, -, -, y4⟩ := id hy
                  by_cases hl0 : l' = 0
                  · have hres : (decide (x = old) && decide (y = top)) = RES := by
                      rw [← HFT.out, ← hfin, if_pos hl0]
                      simp [pairO, resB]
                    subst hl0
                    obtain ⟨_, _, eo, -, -, -, o4⟩ := id HHO.out
                    obtain ⟨ee, -, -⟩ := Value.slice.inj eo
                    subst ee
                    have z1 := bytes_string (cap := kx) x4
                    have z2 := bytes_string (cap := co) (o4.keep hbb)
                    have z3 := bytes_string (cap := ky) y4
                    have z4 := bytes_string (cap := ct) (HHT.out.keep hbb)
                    rw [HLO.out] at z2
                    rw [HLT9.out] at z4
                    have HRS := Lib.hid hres
                    have hse : (x == old) = decide (x = old) := by by_cases h : x = old <;> simp [h]
                    have hsf : (y == top) = decide (y = top) := by by_cases h : y = top <;> simp [h]
                    generalize x.length = lx at *
                    generalize y.length = ly at *
                    clear hfin hW0 hI0 hW1 hI1 hx hy x4 y4 o4 eo hres HHO HHT HFT HTT
                    by_cases h1 : x = old
                    · by_cases h2 : y = top
                      · obtain rfl : RES = true := by rw [← HRS.out]; simp [h1, h2]
                        rw [decide_eq_true h1] at hse
                        rw [decide_eq_true h2] at hsf
                        clear HRS h1 h2
                        go_wp2_with fail
                        go_ret
                        exact ⟨rfl, hbb⟩
                      · obtain rfl : RES = false := by rw [← HRS.out]; simp [h2]
                        rw [decide_eq_true h1] at hse
                        rw [decide_eq_false h2] at hsf
                        clear HRS h1 h2
                        go_wp2_with fail
                        go_ret
                        exact ⟨rfl, hbb⟩
                    · obtain rfl : RES = false := by rw [← HRS.out]; simp [h1]
                      rw [decide_eq_false h1] at hse
                      clear HRS h1 hsf
                      go_wp2_with fail
                      go_ret
                      exact ⟨rfl, hbb⟩
                  · have hlI : ((l' : Int) == 0) = false := by simp; omega
                    obtain rfl : RES = false := by rw [← HFT.out, ← hfin, if_neg hl0]; simp [resB]
                    generalize x.length = lx at *
                    generalize y.length = ly at *
                    clear hfin hW0 hI0 hW1 hI1 hx hy x4 y4 hl0
                    go_wp2_with fail
                    go_ret
                    exact ⟨rfl, hbb⟩
end Go.Proofs.YtdpfjhhcgaeiiaaDoor
