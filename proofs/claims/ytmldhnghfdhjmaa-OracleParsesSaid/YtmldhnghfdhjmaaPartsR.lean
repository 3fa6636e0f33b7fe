/-
  CONTRACT of the reference's PartsOf.
  CONDITIONS: each theorem's own hypotheses.
-/
import Derived.Test.YtmldhnghfdhjmaaParseB
import Derived.Test.YtmldhnghfdhjmaaByMaxT
namespace Go.Proofs.Ytmldhnghfdhjmaa
open Go.RowKit CodeMath Go.Proofs.Ytmldhnghfdhjmaa.FrameMath
set_option linter.unusedVariables false

theorem parse_two (t n : UInt8) (l : List UInt8) (hs : ¬ 16777216 < (t :: n :: l).length) (ht : ¬ (t.toNat < 1 ∨ 9 < t.toNat)) (h8 : ¬ 8 < n.toNat) : parse (t :: n :: l) = endRes t.toNat (cutN n.toNat l) := by
  unfold parse
  rw [if_neg hs]
  simp only []
  rw [if_neg ht, if_neg h8]
set_option maxRecDepth 100000 in
set_option maxHeartbeats 4000000 in
theorem PartsOf_any (l : List UInt8) (ao : Option Addr) (cap : Nat) (w : World) (hB : Bytes w ao l) (hl : l.length ≤ 140737488351232) :
    Calls Try.prog 12 #[.slice ao l.length cap] w (ParsePost (parse l) w) := by
  have hcv := bytes_string (cap := cap) hB
  have hsz := str_size l
  have hBB := Below.refl w.heap.size w
  by_cases hs : 16777216 < l.length
  · have e : parse l = .err 1 := by unfold parse; rw [if_pos hs]
    rw [e]
    change (convert 23 9 (.slice ao l.length cap)).run Try.prog w = .ok (.string (str l)) w at hcv
    have hsI : (16777216 : Int) < l.length := by omega
    generalize str l = S at hcv hsz
    generalize l.length = n at *
    subst hsz
    clear hB hl e hs
    go_enter Try.func12, Try.ntmps12
    go_wp2_with fail
    go_ret3
    exact ⟨rfl, hBB⟩
  · have hsI : ¬ (16777216 : Int) < l.length := by omega
    cases l with
    | nil =>
      rw [show parse [] = .err 4 from rfl, show ([] : List UInt8).length = 0 from rfl]
      rw [show ([] : List UInt8).length = 0 from rfl] at hsz hcv
      change (convert 23 9 (.slice ao 0 cap)).run Try.prog w = .ok (.string (str [])) w at hcv
      generalize str [] = S at hcv hsz
      clear hB hl hs hsI
      go_enter Try.func12, Try.ntmps12
      go_wp2_with fail
      go_ret3
      exact ⟨rfl, hBB⟩
    | cons t l =>
      by_cases ht : t.toNat < 1 ∨ 9 < t.toNat
      · have e : parse (t :: l) = .err 6 := by unfold parse; rw [if_neg hs]; simp only []; rw [if_pos ht]
        rw [e]
        change (convert 23 9 (.slice ao (t :: l).length cap)).run Try.prog w = .ok (.string (str (t :: l))) w at hcv
        obtain ⟨T, hT⟩ : ∃ T : Nat, t.toNat = T := ⟨_, rfl⟩
        have g0 : ∀ h : 0 < (str (t :: l)).size, (str (t :: l))[0].toNat = T := fun h => hT
        have p0 : 0 < (t :: l).length := by simp
        have tb := byte_lt t
        rw [hT] at ht tb
        generalize str (t :: l) = S at hcv hsz g0
        generalize (t :: l).length = n at *
        subst hsz
        have e0 := g0 p0
        clear hB hl hs e g0 hT
        by_cases hz : T = 0
        · subst hz
          go_enter Try.func12, Try.ntmps12
          go_wp2_with fail
          go_ret3
          exact ⟨rfl, hBB⟩
        · have h9 : 9 < T := by omega
          have h9I : (9 : Int) < T := by omega
          have hzI : ¬ (T : Int) = 0 := by omega
          clear ht
          go_enter Try.func12, Try.ntmps12
          go_wp2_with fail
          go_ret3
          exact ⟨rfl, hBB⟩
      · cases l with
        | nil =>
          have e : parse [t] = .err 4 := by unfold parse; rw [if_neg hs]; simp only []; rw [if_neg ht]
          rw [e]
          change (convert 23 9 (.slice ao 1 cap)).run Try.prog w = .ok (.string (str [t])) w at hcv
          change (str [t]).size = 1 at hsz
          rw [show [t].length = 1 from rfl]
          obtain ⟨T, hT⟩ : ∃ T : Nat, t.toNat = T := ⟨_, rfl⟩
          have g0 : ∀ h : 0 < (str [t]).size, (str [t])[0].toNat = T := fun h => hT
          rw [hT] at ht
          generalize str [t] = S at hcv hsz g0
          have p0 : 0 < S.size := by omega
          have e0 := g0 p0
          have h9 : ¬ 9 < T := by omega
          have h9I : ¬ (9 : Int) < T := by omega
          have hz : ¬ T = 0 := by omega
          have hzI : ¬ (T : Int) = 0 := by omega
          clear hB hl hs e g0 hT ht hsI
          go_enter Try.func12, Try.ntmps12
          go_wp2_with fail
          go_ret3
          exact ⟨rfl, hBB⟩
        | cons n l =>
          change (convert 23 9 (.slice ao (t :: n :: l).length cap)).run Try.prog w = .ok (.string (str (t :: n :: l))) w at hcv
          obtain ⟨T, hT⟩ : ∃ T : Nat, t.toNat = T := ⟨_, rfl⟩
          obtain ⟨N, hN⟩ : ∃ N : Nat, n.toNat = N := ⟨_, rfl⟩
          have nb := byte_lt n
          have g0 : ∀ h : 0 < (str (t :: n :: l)).size, (str (t :: n :: l))[0].toNat = T := fun h => hT
          have g1 : ∀ h : 1 < (str (t :: n :: l)).size, (str (t :: n :: l))[1].toNat = N := fun h => hN
          have p1 : 1 < (t :: n :: l).length := by simp
          have h9 : ¬ 9 < T := by omega
          have h9I : ¬ (9 : Int) < T := by omega
          have hz : ¬ T = 0 := by omega
          have hzI : ¬ (T : Int) = 0 := by omega
          by_cases h8 : 8 < n.toNat
          · have e : parse (t :: n :: l) = .err 1 := by unfold parse; rw [if_neg hs]; simp only []; rw [if_neg ht, if_pos h8]
            rw [e]
            have h8I : (8 : Int) < N := by omega
            rw [hN] at h8 nb
            generalize str (t :: n :: l) = S at hcv hsz g0 g1
            generalize (t :: n :: l).length = m at *
            subst hsz
            have p0 : 0 < S.size := by omega
            have e0 := g0 p0
            have e1 := g1 p1
            have hs0 : ¬ S.size = 0 := by omega
            have hs1 : ¬ S.size = 1 := by omega
            have hs0I : ¬ (S.size : Int) = 0 := by omega
            have hs1I : ¬ (S.size : Int) = 1 := by omega
            clear hB hl hs e g0 g1 hT hN ht
            go_enter Try.func12, Try.ntmps12
            go_wp2_with fail
            go_ret3
            exact ⟨rfl, hBB⟩
          · have e := parse_two t n l hs ht h8
            rw [e, hT, hN]
            have h8I : ¬ (8 : Int) < N := by omega
            rw [hN] at h8 nb
            obtain ⟨L, hL⟩ : ∃ L, t :: n :: l = L := ⟨_, rfl⟩
            have hd : L.drop 2 = l := by rw [← hL]; rfl
            have hcut : ∀ i j : Nat, i ≤ j → j ≤ L.length → ∀ (x y : Int), x = i → y = j → ∀ W, (Instr.slice 9 (.string (str L)) (some (.int .i64 x)) (some (.int .i64 y)) none).run Try.prog W = .ok (.string (str ((L.drop i).take (j - i)))) W := fun i j h1 h2 x y hx hy W => cut_str L i j x y hx hy h1 h2 W
            rw [hL] at hcv hsz g0 g1 p1 hs hl hsI ⊢
            generalize str L = S at hcv hsz g0 g1 hcut
            have p0 : 0 < S.size := by omega
            have p1' : 1 < S.size := by omega
            have e0 := g0 p0
            have e1 := g1 p1'
            have hs0 : ¬ S.size = 0 := by omega
            have hs1 : ¬ S.size = 1 := by omega
            have hs0I : ¬ (S.size : Int) = 0 := by omega
            have hs1I : ¬ (S.size : Int) = 1 := by omega
            have hl2 : 2 ≤ L.length := by omega
            have hLs : L.length ≤ 16777216 := by omega
            have HC := Lib.hid hcut
            have HSZ := Lib.hid hsz
            have HD := Lib.hid hd
            rw [← hsz] at hcv hs hl hsI ⊢
            clear hB hl hs e g0 g1 hT hN ht hL p1 hcut hsz hd
            obtain ⟨R, hR⟩ : ∃ R, endRes T (cutN N l) = R := ⟨_, rfl⟩
            have HR := Lib.hid hR
            rw [hR]
            clear hR
            go_enter Try.func12, Try.ntmps12
            go_wp2_with fail
            go_loopw [6, 7, 8] (fun v u ix wr => ∃ (i k : Nat) (acc : List (List UInt8)), i ≤ N ∧ ix = .int .i64 i ∧ u = .int .i64 k ∧ k ≤ L.length ∧ OwnL wr w.heap.size v acc ∧ Hid (cutN N l = apps acc (cutN (N - i) (L.drop k))) ∧ Hid (acc.length = i) ∧ Below w.heap.size w wr) (fun _ _ ix _ => N - (intOf ix).toNat)
            case atStart => exact ⟨0, 2, [], Nat.zero_le _, rfl, rfl, hl2, OwnL.nil _ _, Lib.hid (by rw [apps_nil, Nat.sub_zero, HD.out]), Lib.hid rfl, hBB⟩
            case round =>
              obtain ⟨i, k, acc, hi, rfl, rfl, hk, ho, hcut, hal, hbr⟩ := hrel
              clear hBB hcv
              have hrl : (L.drop k).length = L.length - k := List.length_drop
              by_cases hlt : i < N
              · have iI : (i : Int) < N := by omega
                obtain ⟨q, hq⟩ : ∃ q, N - i = q + 1 := ⟨N - i - 1, by omega⟩
                have hq' : N - (i + 1) = q := by omega
                have hcut' := hcut.out
                rw [hq, cutN_succ] at hcut'
                have HLT := Lib.hid hlt
                by_cases h4 : (L.drop k).length < 4
                · have e1 : cut1 (L.drop k) = none := by unfold cut1; rw [if_pos h4]
                  rw [e1] at hcut'
                  have HE : Hid (R = .err 4) := by have := HR.out; show _ = _; rw [← this, hcut']; rfl
                  have hI : (S.size : Int) - k < 4 := by have := HSZ.out; omega
                  have hb1 : (S.size : Int) - k ≥ 0 := by have := HSZ.out; omega
                  have hb2 : (S.size : Int) ≤ 16777216 := by have := HSZ.out; omega
                  clear hcut hcut' hq hq' e1 h4 hlt HR HC HD hrl
                  go_wp2_with fail
                  go_ret3
                  rw [HE.out]
                  exact ⟨rfl, hbr⟩
                · have hI : ¬ (S.size : Int) - k < 4 := by have := HSZ.out; omega
                  have hb2 : (S.size : Int) ≤ 16777216 := by have := HSZ.out; omega
                  have hkb : (k : Int) ≤ 16777216 := by omega
                  have q1 := HC.out k (k + 4) (by omega) (by omega) (k : Int) ((k : Int) + 4) rfl (by omega)
                  rw [show k + 4 - k = 4 by omega] at q1
                  have hns := num_small ((L.drop k).take 4) 4 (by decide) (by rw [List.length_take]; omega)
                  have cN := fun W => number_any ((L.drop k).take 4) W (by rw [List.length_take]; omega)
                  obtain ⟨M, hM⟩ : ∃ M : Nat, num ((L.drop k).take 4) 0 = M := ⟨(num ((L.drop k).take 4) 0).toNat, by omega⟩
                  rw [hM] at cN hns
                  generalize str ((L.drop k).take 4) = S4 at q1 cN
                  have wM : IntKind.i64.wrap (M : Int) = (M : Int) := by
                    simp [IntKind.wrap, IntKind.bits, IntKind.signed]
                    omega
                  have hMb : (M : Int) ≤ 4294967295 := hns.2
                  have hdd : (L.drop k).drop 4 = L.drop (k + 4) := List.drop_drop ..
                  by_cases h5 : (((L.drop k).drop 4).length : Int) < M
                  · have e1 : cut1 (L.drop k) = none := by unfold cut1; rw [if_neg h4, hM, if_pos h5]
                    rw [e1] at hcut'
                    have HE : Hid (R = .err 4) := by have := HR.out; show _ = _; rw [← this, hcut']; rfl
                    have hI2 : (S.size : Int) - ((k : Int) + 4) < M := by have := HSZ.out; rw [List.length_drop] at h5; omega
                    clear hcut hcut' hq hq' e1 h4 hlt HR HC HD hrl hns hM hdd h5
                    go_wp2_with (first
                      | (go_at_call 23; refine (cN _).mono ?_; rintro e w2 ⟨rfl, rfl⟩; clear cN)
                      | fail)
                    go_ret3
                    rw [HE.out]
                    exact ⟨rfl, hbr⟩
                  · have e1 : cut1 (L.drop k) = some ((L.drop (k + 4)).take M, (L.drop (k + 4)).drop M) := by unfold cut1; rw [if_neg h4, hM, if_neg h5, hdd, Int.toNat_natCast]
                    rw [e1] at hcut'
                    simp only [apps_cons, List.drop_drop] at hcut'
                    rw [← hq'] at hcut'
                    have hI2 : ¬ (S.size : Int) - ((k : Int) + 4) < M := by have := HSZ.out; rw [List.length_drop] at h5; omega
                    have hkM : k + 4 + M ≤ L.length := by rw [List.length_drop] at h5; omega
                    have q2 := HC.out (k + 4) (k + 4 + M) (by omega) hkM ((k : Int) + 4) ((k : Int) + 4 + (M : Int)) (by omega) (by omega)
                    rw [show k + 4 + M - (k + 4) = M by omega] at q2
                    have hpl : ((L.drop (k + 4)).take M).length ≤ 9223372036854775807 := by rw [List.length_take]; omega
                    obtain ⟨g, cg, W1, hcv, hrow, hbw⟩ := bytesOf_T ((L.drop (k + 4)).take M) wr hpl
                    generalize (L.drop (k + 4)).take M = p at *
                    generalize str p = SP at q2 hcv
                    have HCC := Lib.hid hcut'
                    have HL : Hid ((acc ++ [p]).length = i + 1) := by have := hal.out; show _ = _; rw [List.length_append, this]; rfl
                    have hac : acc.length ≤ 1000000 := by have := hal.out; omega
                    have HKM := Lib.hid hkM
                    have ho1 := ho.keep hbw
                    have hb1 := below_step hbr hbr.size hbw
                    have hs1 := hb1.size
                    generalize p.length = np at hcv hrow
                    clear hcut hcut' hq hq' e1 h4 hlt HR HC HD hrl hns hM hdd h5 hkM hpl hal ho hbw
                    go_wp2_with (first
                      | (go_at_call 23; refine (cN _).mono ?_; rintro e w2 ⟨rfl, rfl⟩; clear cN)
                      | (at_builtin; refine wpList_append_line rfl _ _ rfl w.heap.size _ _ rfl ho1 _ p _ rfl rfl hrow hac hs1 ?_; intro v5 w5 ho5 hb5)
                      | fail)
                    go_roundw
                    case rel => exact ⟨i + 1, k + 4 + M, _, HLT.out, by go_num, by go_num, HKM.out, ho5, HCC, HL, hb1.trans hb5⟩
                    case measure => have := HLT.out; simp [intOf]; omega
              · have iI : ¬ (i : Int) < N := by omega
                have hie : i = N := by omega
                have hcut' := hcut.out
                rw [hie, Nat.sub_self] at hcut'
                have e2 : apps acc (cutN 0 (L.drop k)) = .ok acc (L.drop k) := by show Cut.ok (acc ++ []) _ = _; rw [List.append_nil]
                rw [e2] at hcut'
                by_cases hkL : k = L.length
                · have HE : Hid (R = .ok T acc) := by
                    have := HR.out
                    show _ = _
                    rw [← this, hcut']
                    show (if L.drop k = [] then FrameMath.Res.ok T acc else FrameMath.Res.err 3) = _
                    rw [if_pos (by rw [hkL, List.drop_length])]
                  have hkI : (k : Int) = S.size := by have := HSZ.out; omega
                  have hkS : k = S.size := by have := HSZ.out; omega
                  clear hcut hcut' hie e2 HR hlt HC HD hrl hkL hk
                  go_wp2_with fail
                  go_ret3
                  rw [HE.out]
                  exact ⟨_, rfl, ho, hbr⟩
                · have HE : Hid (R = .err 3) := by
                    have := HR.out
                    show _ = _
                    rw [← this, hcut']
                    show (if L.drop k = [] then FrameMath.Res.ok T acc else FrameMath.Res.err 3) = _
                    rw [if_neg (fun h => by rw [h] at hrl; simp at hrl; omega)]
                  have hkI : ¬ (k : Int) = S.size := by have := HSZ.out; omega
                  have hkS : ¬ k = S.size := by have := HSZ.out; omega
                  clear hcut hcut' hie e2 HR hlt HC HD hrl hkL hk
                  go_wp2_with fail
                  go_ret3
                  rw [HE.out]
                  exact ⟨rfl, hbr⟩
end Go.Proofs.Ytmldhnghfdhjmaa
