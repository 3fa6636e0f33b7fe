/-
  CONTRACT of the reference's textOf.
  CONDITIONS: each theorem's own hypotheses; package unicode/utf8's two tables hold what their initialisers lay ('Tabs').
-/
import Derived.Test.YtdbdlheilckcoaaDoorRefA
namespace Go.Proofs.YtdbdlheilckcoaaDoor
open Go.RowKit CodeMath
set_option linter.unusedVariables false

theorem okV_text (t : List UInt8) (h : t.length ≤ 40) : okV ⟨4, 0, 0, t⟩ = Lib.validD t := by
  unfold okV V.chk chk
  show decide ((if (4 : Int) < 0 ∨ (4 : Int) < 4 then (2 : Int) else if 40 < (str t).size then 1 else if own 4 0 0 (str t) && good 4 0 0 (str t) then 0 else 3) = 0) = _
  rw [if_neg (by decide), if_neg (by rw [str_size]; omega)]
  have h1 : own 4 0 0 (str t) = true := by unfold own; simp
  have h2 : good 4 0 0 (str t) = Lib.validD t := by unfold good; rw [if_neg (by decide), if_neg (by decide), if_pos rfl, str_data]
  rw [h1, h2]
  cases Lib.validD t <;> rfl
/-- What the reference reads of a text. -/
def textR (A : TRes) : Res := match A with
  | .err e => .err e
  | .ok s k => fin okV ⟨4, 0, 0, s⟩ (k + 1)
theorem textR_dec (l : List UInt8) : textR (txt l [] 0) = dec1 okV (5 :: l) := by
  simp only [dec1]
  rw [if_neg (by decide), if_neg (by decide), if_neg (by decide), if_neg (by decide), if_pos trivial]
  rfl
theorem zeroV : (Res.err 1).v = ⟨0, 0, 0, ⟨#[]⟩⟩ := rfl
def Ref3 (A : Res) (w : World) (e : Ending) (w' : World) : Prop := e = .returned (.tuple #[A.v.agg, .int .i64 A.k, .int .i64 A.e]) ∧ Below w.heap.size w w'
theorem results_blk3 {fn : Func} {t : Nat} (h : fn.results = #[.cell t 40, .tmp 3, .tmp 4]) (tmps : Array Value) (w : World) (b : Nat) (x0 x1 x2 x3 : Value) (hp : tmps.getD t undef = .pointer (some ⟨b, 0, none⟩)) (hB : Blk w b x0 x1 x2 x3) :
    (results fn tmps).run Tryd.prog w = .ok (.tuple #[.agg #[x0, x1, x2, x3], tmps.getD 3 undef, tmps.getD 4 undef]) w := by
  obtain ⟨c0, c1, c2, c3⟩ := hB.c
  have hp' : tmps[t]?.getD undef = .pointer (some ⟨b, 0, none⟩) := by simpa using hp
  simp [results, h, hp', go_sem, c0, c1, c2, c3]
theorem txt_step (l acc : List UInt8) (p : Nat) (h : p < l.length) (hz : ¬ l[p] = 0) : txt (l.drop p) acc p = if acc.length = 40 then .err 1 else txt (l.drop (p + 1)) (acc ++ [l[p]]) (p + 1) := by
  rw [List.drop_eq_getElem_cons h, txt_cons _ _ _ _ hz]
theorem txt_short (l acc : List UInt8) (p : Nat) (h : l.length ≤ p) : txt (l.drop p) acc p = .err 4 := by
  rw [List.drop_of_length_le h]; rfl
theorem txt_short0 (l acc : List UInt8) (p : Nat) (h : p < l.length) (hz : l[p] = 0) (h1 : l.length = p + 1) : txt (l.drop p) acc p = .err 4 := by
  rw [List.drop_eq_getElem_cons h, hz, List.drop_of_length_le (by omega)]
  simp [txt]
theorem txt_zero (l acc : List UInt8) (p : Nat) (h : p + 1 < l.length) (hz : l[p] = 0) : txt (l.drop p) acc p = if l[p + 1] = 255 then (if acc.length = 40 then .err 1 else txt (l.drop (p + 2)) (acc ++ [0]) (p + 2)) else if l[p + 1] = 1 then .ok acc (p + 2) else .err 3 := by
  rw [List.drop_eq_getElem_cons (by omega), hz, List.drop_eq_getElem_cons h]
  simp [txt]

set_option maxRecDepth 100000 in
set_option maxHeartbeats 8000000 in
theorem textOf_any (l : List UInt8) (w : World) (hl : l.length ≤ 4611686018427387904) (hT : Tabs w) :
    Calls Tryd.prog 50 #[.string (str l)] w (Ref3 (textR (txt l [] 0)) w) := by
  obtain ⟨A, hA⟩ : ∃ A, txt l [] 0 = A := ⟨_, rfl⟩
  rw [hA]
  have hsz := str_size l
  obtain ⟨s, hs⟩ : ∃ s, str l = s := ⟨_, rfl⟩
  rw [hs] at hsz ⊢
  obtain ⟨n, hn⟩ : ∃ n, l.length = n := ⟨_, rfl⟩
  rw [hn] at hsz hl
  have hget : ∀ j (h : j < s.size) (h' : j < l.length), s[j] = l[j] := by subst hs; exact fun j h h' => rfl
  have hext : ∀ j (h : j < l.length) (w : World), (Instr.slice 9 (.string s) (some (.int .i64 j)) (some (.int .i64 (j + 1))) none).run Tryd.prog w = .ok (.string (str [l[j]])) w := fun j h w => by
    subst hs
    rw [cut_str l j (j + 1) (j : Int) ((j : Int) + 1) rfl (by omega) (by omega) (by omega) w, show j + 1 - j = 1 by omega, List.drop_eq_getElem_cons h]; rfl
  have HSZ := Lib.hid hsz
  have HN := Lib.hid hn
  have HG := Lib.hid hget
  have HX := Lib.hid hext
  have hA0 : Hid (txt (l.drop 0) [] 0 = A) := hA
  have hT1 : ∀ o, Tabs (w.alloc o) := fun o => tabs_below hT ((Below.refl _ _).alloc (Nat.le_refl _) o)
  have hB := Blk.new w (.int .i64 0) (.int .i64 0) (.int .u64 0) (.string ⟨#[]⟩)
  obtain ⟨b0, b1, b2, b3⟩ := hB.c
  obtain ⟨f0, f1, f2, f3⟩ := hB.f
  have hbw0 : Below w.heap.size w (w.alloc (.cells #[.int .i64 0, .int .i64 0, .int .u64 0, .string ⟨#[]⟩] 40)) := (Below.refl _ _).alloc (Nat.le_refl _) _
  have hT0 := hT1 (.cells #[.int .i64 0, .int .i64 0, .int .u64 0, .string ⟨#[]⟩] 40)
  clear hget hext hs hsz hn hA hT hT1
  go_enter Tryd.func50, Tryd.ntmps50
  go_wp2
  generalize w.alloc (.cells #[.int .i64 0, .int .i64 0, .int .u64 0, .string ⟨#[]⟩] 40) = W0 at hB b0 b1 b2 b3 f0 f1 f2 f3 hbw0 hT0 ⊢
  go_loopw [5, 6] (fun x i wr => ∃ (p : Nat) (acc : List UInt8), p ≤ n ∧ i = .int .i64 p ∧ x = .string (str acc) ∧ acc.length ≤ 40 ∧ Hid (txt (l.drop p) acc p = A) ∧ wr = W0) (fun _ i _ => n - (intOf i).toNat)
  case atStart => exact ⟨0, [], Nat.zero_le _, rfl, rfl, by simp, hA0, rfl⟩
  case round =>
    obtain ⟨p, acc, hp, rfl, rfl, hacc, hx, rfl⟩ := hrel
    by_cases h1 : p < n
    · have hpl : p < l.length := by rw [HN.out]; exact h1
      have hps : p < s.size := by rw [HSZ.out]; exact h1
      have hE := HX.out p hpl
      obtain ⟨x, hxp⟩ : ∃ x, l[p] = x := ⟨_, rfl⟩
      rw [hxp] at hE
      have hx' := hx.out
      have happ : str acc ++ str [x] = str (acc ++ [x]) := str_append _ _
      have hC1 := str_size [x]
      have hS1 := str_size acc
      have hS3 := str_size (acc ++ [x])
      rw [List.length_append, List.length_singleton] at hS3
      have hCb : ((str [x]).toList == [0]) = (x == 0) := by rw [str_toList]; simp
      obtain ⟨C, hC⟩ : ∃ C, str [x] = C := ⟨_, rfl⟩
      obtain ⟨S, hS⟩ : ∃ S, str acc = S := ⟨_, rfl⟩
      obtain ⟨S2, hS2⟩ : ∃ S2, str (acc ++ [x]) = S2 := ⟨_, rfl⟩
      rw [hC] at hE hC1 hCb happ
      rw [hS] at hS1 happ ⊢
      rw [hS2] at happ hS3
      obtain ⟨m, hm⟩ : ∃ m, acc.length = m := ⟨_, rfl⟩
      rw [hm] at hS1 hS3 hacc
      simp only [List.length_singleton] at hC1
      have HS := Lib.hid hS
      have HS2 := Lib.hid hS2
      have HM := Lib.hid hm
      clear hC hS hS2 hm hx
      by_cases hz : x = 0
      · subst hz
        have hc2 : (C.toList == [0]) = true := by rw [hCb]; rfl
        clear hCb
        by_cases hp1 : p + 1 = n
        · rw [txt_short0 l acc p hpl hxp (by rw [HN.out]; omega)] at hx'
          have HR := Lib.hid (congrArg textR hx')
          have hpe : ((p : Int) + 1 == (s.size : Int)) = true := by rw [HSZ.out]; simp; omega
          clear hx' hp1 happ
          go_wp2
          refine bodyPost_ret (results_blk3 rfl _ _ w.heap.size _ _ _ _ rfl ((((hB.s0 _).s1 _).s2 _).s3 _)) rfl ?_
          exact ⟨by rw [← HR.out]; rfl, (((((hbw0).setCell (Nat.le_refl _) _).setCell (Nat.le_refl _) _).setCell (Nat.le_refl _) _).setCell (Nat.le_refl _) _)⟩
        · have hpl2 : p + 1 < l.length := by rw [HN.out]; omega
          have hps2 : p + 1 < s.size := by rw [HSZ.out]; omega
          rw [txt_zero l acc p hpl2 hxp] at hx'
          have hgy := HG.out (p + 1) hps2 hpl2
          rw [← hgy] at hx'
          have hpe : ((p : Int) + 1 == (s.size : Int)) = false := by rw [HSZ.out]; simp; omega
          have hi2 : (p : Int) + 1 < (s.size : Int) := by omega
          have hi3 : p ≤ 4611686018427387904 := by have := HSZ.out; omega
          by_cases h255 : s[p + 1] = 255
          · rw [if_pos h255] at hx'
            have k1 : ((s[p + 1].toNat : Int) == 1) = false := by rw [h255]; rfl
            have k2 : ((s[p + 1].toNat : Int) != 255) = false := by rw [h255]; rfl
            clear hgy h255
            by_cases h40 : m = 40
            · rw [if_pos (by rw [HM.out]; exact h40)] at hx'
              have HR := Lib.hid (congrArg textR hx')
              subst h40
              clear hx' hp1
              go_wp2
              refine bodyPost_ret (results_blk3 rfl _ _ w.heap.size _ _ _ _ rfl ((((hB.s0 _).s1 _).s2 _).s3 _)) rfl ?_
              exact ⟨by rw [← HR.out]; rfl, (((((hbw0).setCell (Nat.le_refl _) _).setCell (Nat.le_refl _) _).setCell (Nat.le_refl _) _).setCell (Nat.le_refl _) _)⟩
            · rw [if_neg (by rw [HM.out]; exact h40)] at hx'
              have HX2 := Lib.hid hx'
              have h39 : m < 40 := by omega
              clear hx' hp1 h40
              go_wp2
              go_roundw
              case rel => exact ⟨p + 2, acc ++ [0], (by have := HSZ.out; have := hps2; omega), by go_num, by rw [HS2.out], by rw [List.length_append, HM.out]; exact h39, HX2, by first | rfl | trivial⟩
              case measure => simp [intOf]; omega
          · rw [if_neg h255] at hx'
            have k2 : ((s[p + 1].toNat : Int) != 255) = true := by
              simp only [bne_iff_ne, ne_eq]
              intro e
              exact h255 (byte_eq (show (s[p + 1].toNat : Int) = 255 from e))
            by_cases hone : s[p + 1] = 1
            · rw [if_pos hone] at hx'
              have k1 : ((s[p + 1].toNat : Int) == 1) = true := by rw [hone]; rfl
              have HR := Lib.hid (congrArg textR hx')
              have cV := valid_any S wr (by omega) hT0
              rw [← HS.out, str_data, HS.out] at cV
              have hok := okV_text acc (by rw [HM.out]; exact hacc)
              clear hx' hp1 hgy h255 hone happ hT0
              cases hv : Lib.validD acc with
              | true =>
                rw [hv] at cV hok
                have HR2 : Hid (textR A = .ok ⟨4, 0, 0, acc⟩ (p + 2 + 1)) := by
                  show _ = _
                  rw [← HR.out]
                  simp only [textR, fin, hok, if_true]
                clear HR hok hv
                go_wp2_with fail
                refine cV.mono ?_
                rintro e w2 ⟨rfl, hb⟩
                have hB2 : Blk w2 w.heap.size _ _ _ _ := (hb.block w.heap.size (lt_of_block hB)).trans hB
                have hbw2 : Below w.heap.size w w2 := hbw0.trans (hb.mono hbw0.size)
                obtain ⟨d0, d1, d2, d3⟩ := hB2.c
                obtain ⟨e0, e1, e2, e3⟩ := hB2.f
                clear cV b0 b1 b2 b3 f0 f1 f2 f3
                go_wp2_with fail
                refine bodyPost_ret (results_blk3 rfl _ _ w.heap.size _ _ _ _ rfl ((((hB2.s0 _).s1 _).s2 _).s3 _)) rfl ?_
                refine ⟨?_, ((((hbw2.setCell (Nat.le_refl _) _).setCell (Nat.le_refl _) _).setCell (Nat.le_refl _) _).setCell (Nat.le_refl _) _)⟩
                rw [HR2.out, ← HS.out]
                show Ending.returned _ = _
                have ek : ((Res.ok ⟨4, 0, 0, acc⟩ (p + 2 + 1)).k : Int) = (p : Int) + 1 + 2 := by
                  show ((p + 2 + 1 : Nat) : Int) = _
                  omega
                rw [ek]
                rfl
              | false =>
                rw [hv] at cV hok
                have HR2 : Hid (textR A = .err 3) := by
                  show _ = _
                  rw [← HR.out]
                  simp [textR, fin, hok]
                clear HR hok hv
                go_wp2_with fail
                refine cV.mono ?_
                rintro e w2 ⟨rfl, hb⟩
                have hB2 : Blk w2 w.heap.size _ _ _ _ := (hb.block w.heap.size (lt_of_block hB)).trans hB
                have hbw2 : Below w.heap.size w w2 := hbw0.trans (hb.mono hbw0.size)
                obtain ⟨d0, d1, d2, d3⟩ := hB2.c
                obtain ⟨e0, e1, e2, e3⟩ := hB2.f
                clear cV b0 b1 b2 b3 f0 f1 f2 f3
                go_wp2_with fail
                refine bodyPost_ret (results_blk3 rfl _ _ w.heap.size _ _ _ _ rfl ((((hB2.s0 _).s1 _).s2 _).s3 _)) rfl ?_
                exact ⟨by rw [HR2.out]; rfl, ((((hbw2.setCell (Nat.le_refl _) _).setCell (Nat.le_refl _) _).setCell (Nat.le_refl _) _).setCell (Nat.le_refl _) _)⟩
            · rw [if_neg hone] at hx'
              have k1 : ((s[p + 1].toNat : Int) == 1) = false := by
                simp only [beq_eq_false_iff_ne]
                intro e
                exact hone (byte_eq (show (s[p + 1].toNat : Int) = 1 from e))
              have HR := Lib.hid (congrArg textR hx')
              clear hx' hp1 hgy h255 hone happ
              go_wp2
              refine bodyPost_ret (results_blk3 rfl _ _ w.heap.size _ _ _ _ rfl ((((hB.s0 _).s1 _).s2 _).s3 _)) rfl ?_
              exact ⟨by rw [← HR.out]; rfl, (((((hbw0).setCell (Nat.le_refl _) _).setCell (Nat.le_refl _) _).setCell (Nat.le_refl _) _).setCell (Nat.le_refl _) _)⟩
      · rw [txt_step l acc p hpl (by rw [hxp]; exact hz), hxp] at hx'
        have hc2 : (C.toList == [0]) = false := by rw [hCb]; simpa using hz
        clear hCb
        by_cases h40 : m = 40
        · rw [if_pos (by rw [HM.out]; exact h40)] at hx'
          have HR := Lib.hid (congrArg textR hx')
          subst h40
          clear hx' hz
          go_wp2
          refine bodyPost_ret (results_blk3 rfl _ _ w.heap.size _ _ _ _ rfl ((((hB.s0 _).s1 _).s2 _).s3 _)) rfl ?_
          exact ⟨by rw [← HR.out]; rfl, (((((hbw0).setCell (Nat.le_refl _) _).setCell (Nat.le_refl _) _).setCell (Nat.le_refl _) _).setCell (Nat.le_refl _) _)⟩
        · rw [if_neg (by rw [HM.out]; exact h40)] at hx'
          have HX2 := Lib.hid hx'
          have h39 : m < 40 := by omega
          clear hx' hz h40
          go_wp2
          go_roundw
          case rel => exact ⟨p + 1, acc ++ [x], by omega, by go_num, by rw [HS2.out], by rw [List.length_append, HM.out]; exact h39, HX2, by first | rfl | trivial⟩
          case measure => simp [intOf]; omega
    · have hx' := hx.out
      rw [txt_short l acc p (by rw [HN.out]; omega)] at hx'
      have HR := Lib.hid (congrArg textR hx')
      have hge : ¬ p < s.size := by rw [HSZ.out]; exact h1
      clear hx hx'
      go_wp2
      refine bodyPost_ret (results_blk3 rfl _ _ w.heap.size _ _ _ _ rfl ((((hB.s0 _).s1 _).s2 _).s3 _)) rfl ?_
      exact ⟨by rw [← HR.out]; rfl, (((((hbw0).setCell (Nat.le_refl _) _).setCell (Nat.le_refl _) _).setCell (Nat.le_refl _) _).setCell (Nat.le_refl _) _)⟩
end Go.Proofs.YtdbdlheilckcoaaDoor
