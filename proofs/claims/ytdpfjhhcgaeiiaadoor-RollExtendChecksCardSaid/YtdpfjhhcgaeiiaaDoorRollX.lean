/-
  CONTRACT of package roll's digester: extended.
  CONDITIONS: package sum's roundWords hold what their initialiser lays ('KW').
-/
import Derived.Test.YtdpfjhhcgaeiiaaDoorRollD
namespace Go.Proofs.YtdpfjhhcgaeiiaaDoor
open Go.RowKit CodeMath Go.Proofs.YtdpfjhhcgaeiiaaDoor.FrameMath
set_option linter.unusedVariables false
set_option maxRecDepth 100000

def ExtOut (g : Nat) (m e : Int) (O : Option (List UInt8 × List UInt8)) (w : World) (ex : Ending) (w' : World) : Prop := ∃ v u a b e', ex = .returned (.tuple #[v, u]) ∧ RowV w' v a ∧ RowV w' u b ∧ a.length ≤ 140737488351232 ∧ b.length ≤ 140737488351232 ∧ OutE e O a b e' ∧ DigW w' g m e' ∧ w.grownBy w' (some g)
set_option maxHeartbeats 8000000 in
theorem extended_any (g : Nat) (m : Int) (m0 : -9223372036854775808 ≤ m) (m1 : m ≤ 9223372036854775807) : ∀ (h n k : Nat) (had : Bool) (x : List UInt8) (xv : Value) (path : List (List UInt8)) (ap : Option Addr) (cap : Nat) (e : Int) (w : World), n ≤ 2 ^ h → n ≤ 64 → 1 ≤ k → k ≤ n → path.length ≤ cap → cap ≤ 9223372036854775807 → x.length ≤ 140737488351232 → (∀ y ∈ path, y.length ≤ 140737488351232) → RowV w xv x → Lines w ap path → KW w → DigW w g m e →
    Calls Tryd.prog 84 #[.pointer (some ⟨g, 0, none⟩), .int .i64 (n : Int), .int .i64 (k : Int), xv, .bool had, .slice ap path.length cap] w (ExtOut g m e (extO m h n k had x path) w)
  | h, n, k, had, x, xv, path, ap, cap, e, w, hn, h64, hk1, hkn, hc, hq, hx, hB, hxv, hl, hT, hD => by
    obtain ⟨xa, xc, rfl, -⟩ := id hxv
    by_cases hlt : k < n
    · cases h with
      | zero => simp at hn; omega
      | succ h =>
        have h2 : 2 ≤ n := by omega
        obtain ⟨k0, k1, k2⟩ := hf_lt h2
        have hkp := hf_pow h2 hn
        have hne : ¬ (k : Int) = (n : Int) := by omega
        have cF := fun W => firstPart_any n h2 h64 W
        have hsub1 : ((n - hf n : Nat) : Int) = (n : Int) - (hf n : Int) := by omega
        have hnk : ¬ n ≤ k := by omega
        have hfI : (hf n : Int) ≤ 64 := by omega
        have hnI : (n : Int) ≤ 64 := by omega
        have hkI : (k : Int) < n := by omega
        have hkI0 : (0 : Int) < k := by omega
        rcases List.eq_nil_or_concat path with rfl | ⟨ps, p, rfl⟩
        · have cL := last_nil g m e ap cap w hD
          by_cases hik : k ≤ hf n
          · have hikI : (k : Int) ≤ (hf n : Int) := by omega
            have cI := fun W hv hT hD => extended_any g m m0 m1 h (hf n) k had x (.slice xa x.length xc) [] none 0 10 W hkp (by omega) hk1 hik (Nat.le_refl _) (by decide) hx (by simp) hv (.inl rfl) hT hD
            rw [extO_none m h n k had x hnk]
            generalize extO m h (hf n) k had x [] = R1 at *
            have cP := fun e1 b1 hb a1 n1 k1 W h1 hT hD => pair_any g m e1 b1 [] a1 none n1 k1 0 0 W m0 m1 h1 (rowV_nil W) hb (by simp) hT hD
            rw [show ([] : List (List UInt8)).length = 0 from rfl] at *
            generalize hf n = f at *
            generalize x.length = lx at *
            clear hB hl hc hn h64 hkp k0 k1 k2 hik hsub1 h2 hlt hnk hk1 hkn
            go_enter Tryd.func84, Tryd.ntmps84
            go_wp2_with fail
            refine cL.mono ?_
            rintro ex w1 ⟨rfl, hD1, hg1⟩
            have hx1 := hxv.moved hD hg1
            have hT1 := hT.moved hD hg1
            clear cL hxv hT hD
            go_wp2_with fail
            refine (cF _).mono ?_
            rintro ex w2 ⟨rfl, rfl⟩
            clear cF
            go_wp2_with fail
            refine (cI _ hx1 hT1 hD1).mono ?_
            rintro ex w3 ⟨v3, u3, a3, b3, e3, rfl, hr3, hs3, ha3, hb3, ho3, hD3, hg3⟩
            have hT3 := hT1.moved hD1 hg3
            have hg13 := grown_trans hg1 hg3
            clear cI hx1 hT1 hD1 hg1 hg3
            obtain ⟨q3, k3, rfl, -⟩ := id hr3
            obtain ⟨q4, k4, rfl, -⟩ := id hs3
            go_wp2_with fail
            refine (cP e3 b3 hb3 _ _ _ _ hs3 hT3 hD3).mono ?_
            rintro ex w4 ⟨v4, rfl, hr4, hD4, hg4⟩
            have hg14 := grown_trans hg13 hg4
            have hr34 := hr3.moved hD3 hg4
            have hO : OutE e none a3 (stD e3 (digR m 6 [b3, []])).1 (stD e3 (digR m 6 [b3, []])).2 := by rw [stD_bad ho3.never]; exact OutE.lost ho3.never
            obtain ⟨a5, k5, h5e, -⟩ := id hr4
            rw [h5e] at hr4 ⊢
            clear cP hr3 hT3 hD3 hg13 hg4 ho3 hs3 h5e
            go_wp2_with fail
            go_ret2
            exact ⟨_, _, _, _, _, rfl, hr34, hr4.row, ha3, stD_small, hO, hD4, hg14⟩
          · have hikI : ¬ (k : Int) ≤ (hf n : Int) := by omega
            have hsub2 : ((k - hf n : Nat) : Int) = (k : Int) - (hf n : Int) := by omega
            have cI := fun W hv hT hD => extended_any g m m0 m1 h (n - hf n) (k - hf n) false [] (.slice none 0 0) [] none 0 10 W (by omega) (by omega) (by omega) (by omega) (Nat.le_refl _) (by decide) (by simp) (by simp) hv (.inl rfl) hT hD
            rw [hsub1, hsub2] at cI
            rw [extO_none m h n k had x hnk]
            generalize extO m h (n - hf n) (k - hf n) false [] [] = R1 at *
            have cP := fun e1 b1 hb a1 n1 k1 W h1 hT hD => pair_any g m e1 [] b1 none a1 0 0 n1 k1 W m0 m1 (rowV_nil W) h1 (by simp) hb hT hD
            rw [show ([] : List (List UInt8)).length = 0 from rfl] at *
            generalize hf n = f at *
            generalize x.length = lx at *
            clear hB hl hc hn h64 hkp k0 k1 k2 hik hsub1 hsub2 h2 hlt hnk hk1 hkn
            go_enter Tryd.func84, Tryd.ntmps84
            go_wp2_with fail
            refine cL.mono ?_
            rintro ex w1 ⟨rfl, hD1, hg1⟩
            have hx1 := hxv.moved hD hg1
            have hT1 := hT.moved hD hg1
            clear cL hxv hT hD
            go_wp2_with fail
            refine (cF _).mono ?_
            rintro ex w2 ⟨rfl, rfl⟩
            clear cF
            go_wp2_with fail
            refine (cI _ (rowV_nil _) hT1 hD1).mono ?_
            rintro ex w3 ⟨v3, u3, a3, b3, e3, rfl, hr3, hs3, ha3, hb3, ho3, hD3, hg3⟩
            have hT3 := hT1.moved hD1 hg3
            have hg13 := grown_trans hg1 hg3
            clear cI hx1 hT1 hD1 hg1 hg3
            obtain ⟨q3, k3, rfl, -⟩ := id hr3
            obtain ⟨q4, k4, rfl, -⟩ := id hs3
            go_wp2_with fail
            refine (cP e3 a3 ha3 _ _ _ _ hr3 hT3 hD3).mono ?_
            rintro ex w4 ⟨v4, rfl, hr4, hD4, hg4⟩
            have hg14 := grown_trans hg13 hg4
            have hs4 := hs3.moved hD3 hg4
            have hT4 := hT3.moved hD3 hg4
            have hO : OutE e none (stD e3 (digR m 6 [[], a3])).1 (stD (stD e3 (digR m 6 [[], a3])).2 (digR m 6 [[], b3])).1 (stD (stD e3 (digR m 6 [[], a3])).2 (digR m 6 [[], b3])).2 := by rw [stD_bad ho3.never, stD_bad ho3.never]; exact OutE.lost ho3.never
            obtain ⟨a5, k5, h5e, -⟩ := id hr4
            rw [h5e] at hr4 ⊢
            clear hr3 hT3 hD3 hg13 hg4 ho3 hs3 h5e
            go_wp2_with fail
            refine (cP _ b3 hb3 _ _ _ _ hs4 hT4 hD4).mono ?_
            rintro ex w5 ⟨v5, rfl, hr5, hD5, hg5⟩
            have hg15 := grown_trans hg14 hg5
            have hr45 := hr4.moved hD4 hg5
            obtain ⟨a6, k6, h6e, -⟩ := id hr5
            rw [h6e] at hr5 ⊢
            clear cP hT4 hD4 hg14 hg5 hs4 hr4 h6e
            go_wp2_with fail
            go_ret2
            exact ⟨_, _, _, _, _, rfl, hr45.row, hr5.row, stD_small, stD_small, hO, hD5, hg15⟩
        · rw [List.concat_eq_append] at hc hB hl ⊢
          obtain ⟨lp, hlp⟩ : ∃ k, ps.length = k := ⟨_, rfl⟩
          have hln : (ps ++ [p]).length = lp + 1 := by rw [List.length_append, hlp]; rfl
          obtain ⟨ln, hln2⟩ : ∃ n, (ps ++ [p]).length = n := ⟨_, rfl⟩
          rw [hln2] at hc hln ⊢
          have cL := fun W hl => last_snoc ps p g lp ln hln ap cap W hlp hc hq hl
          have hps := fun W (h : Lines W ap (ps ++ [p])) => h.take lp
          rw [List.take_left' hlp] at hps
          have hB1 : ∀ y ∈ ps, y.length ≤ 140737488351232 := fun y hy => hB y (by simp [hy])
          have hB2 : p.length ≤ 140737488351232 := hB p (by simp)
          by_cases hik : k ≤ hf n
          · have hikI : (k : Int) ≤ (hf n : Int) := by omega
            have cI := fun W hv hl hT hD => extended_any g m m0 m1 h (hf n) k had x (.slice xa x.length xc) ps ap lp e W hkp (by omega) hk1 hik (by omega) (by omega) hx hB1 hv hl hT hD
            rw [hlp] at cI
            rw [extO_snoc m h n k had x ps p hnk, if_pos hik]
            generalize extO m h (hf n) k had x ps = R1 at *
            have HS := fun a1 b1 e1 (h : OutE e R1 a1 b1 e1) => OutE.left (m := m) (p := p) h
            generalize R1.bind (stepE m false p) = RR at *
            have cP := fun e1 b1 hb a1 n1 k1 a2 n2 k2 W h1 h2 hT hD => pair_any g m e1 b1 p a1 a2 n1 k1 n2 k2 W m0 m1 h1 h2 hb hB2 hT hD
            have hlpI : (ln : Int) ≤ 9223372036854775807 := by omega
            generalize hf n = f at *
            generalize x.length = lx at *
            clear hB hB1 hB2 hc hn h64 hkp k0 k1 k2 hik hsub1 h2 hlt hnk hk1 hkn hlp hln hln2 hq
            go_enter Tryd.func84, Tryd.ntmps84
            go_wp2_with fail
            refine (cL _ hl).mono ?_
            rintro ex w1 ⟨a1, n1, c1, rfl, hr1, hb1⟩
            have hx1 := hxv.keep hb1
            have hT1 := hT.keep hb1 (Nat.le_refl _)
            have hD1 := hD.keep hb1
            have hl1 := hps _ (hl.keep hb1)
            have hg1 := mv_below (P := g) hb1
            clear cL hxv hT hD hl hb1 hps
            go_wp2_with fail
            refine (cF _).mono ?_
            rintro ex w2 ⟨rfl, rfl⟩
            clear cF
            go_wp2_with fail
            refine (cI _ hx1 hl1 hT1 hD1).mono ?_
            rintro ex w3 ⟨v3, u3, a3, b3, e3, rfl, hr3, hs3, ha3, hb3, ho3, hD3, hg3⟩
            have hT3 := hT1.moved hD1 hg3
            have hr13 := hr1.moved hD1 hg3
            have hg13 := grown_trans hg1 hg3
            clear cI hx1 hT1 hD1 hg1 hg3 hl1 hr1
            obtain ⟨q3, k3, rfl, -⟩ := id hr3
            obtain ⟨q4, k4, rfl, -⟩ := id hs3
            go_wp2_with fail
            refine (cP e3 b3 hb3 _ _ _ _ _ _ _ hs3 hr13 hT3 hD3).mono ?_
            rintro ex w4 ⟨v4, rfl, hr4, hD4, hg4⟩
            have hg14 := grown_trans hg13 hg4
            have hr34 := hr3.moved hD3 hg4
            have hO := HS a3 b3 e3 ho3
            obtain ⟨a5, k5, h5e, -⟩ := id hr4
            rw [h5e] at hr4 ⊢
            clear cP hr3 hT3 hD3 hg13 hg4 ho3 HS hr13 hs3 h5e
            go_wp2_with fail
            go_ret2
            exact ⟨_, _, _, _, _, rfl, hr34, hr4.row, ha3, stD_small, hO, hD4, hg14⟩
          · have hikI : ¬ (k : Int) ≤ (hf n : Int) := by omega
            have hsub2 : ((k - hf n : Nat) : Int) = (k : Int) - (hf n : Int) := by omega
            have cI := fun W hv hl hT hD => extended_any g m m0 m1 h (n - hf n) (k - hf n) false [] (.slice none 0 0) ps ap lp e W (by omega) (by omega) (by omega) (by omega) (by omega) (by omega) (by simp) hB1 hv hl hT hD
            rw [hlp, hsub1, hsub2] at cI
            rw [extO_snoc m h n k had x ps p hnk, if_neg hik]
            generalize extO m h (n - hf n) (k - hf n) false [] ps = R1 at *
            have HS := fun a1 b1 e1 (h : OutE e R1 a1 b1 e1) => OutE.right (m := m) (p := p) h
            generalize R1.bind (stepE m true p) = RR at *
            have cP := fun e1 b1 hb a1 n1 k1 a2 n2 k2 W h1 h2 hT hD => pair_any g m e1 p b1 a1 a2 n1 k1 n2 k2 W m0 m1 h1 h2 hB2 hb hT hD
            have hlpI : (ln : Int) ≤ 9223372036854775807 := by omega
            generalize hf n = f at *
            generalize x.length = lx at *
            clear hB hB1 hB2 hc hn h64 hkp k0 k1 k2 hik hsub1 hsub2 h2 hlt hnk hk1 hkn hlp hln hln2 hq
            go_enter Tryd.func84, Tryd.ntmps84
            go_wp2_with fail
            refine (cL _ hl).mono ?_
            rintro ex w1 ⟨a1, n1, c1, rfl, hr1, hb1⟩
            have hx1 := hxv.keep hb1
            have hT1 := hT.keep hb1 (Nat.le_refl _)
            have hD1 := hD.keep hb1
            have hl1 := hps _ (hl.keep hb1)
            have hg1 := mv_below (P := g) hb1
            clear cL hxv hT hD hl hb1 hps
            go_wp2_with fail
            refine (cF _).mono ?_
            rintro ex w2 ⟨rfl, rfl⟩
            clear cF
            go_wp2_with fail
            refine (cI _ (rowV_nil _) hl1 hT1 hD1).mono ?_
            rintro ex w3 ⟨v3, u3, a3, b3, e3, rfl, hr3, hs3, ha3, hb3, ho3, hD3, hg3⟩
            have hT3 := hT1.moved hD1 hg3
            have hr13 := hr1.moved hD1 hg3
            have hg13 := grown_trans hg1 hg3
            clear cI hx1 hT1 hD1 hg1 hg3 hl1 hr1
            obtain ⟨q3, k3, rfl, -⟩ := id hr3
            obtain ⟨q4, k4, rfl, -⟩ := id hs3
            go_wp2_with fail
            refine (cP e3 a3 ha3 _ _ _ _ _ _ _ hr13 hr3 hT3 hD3).mono ?_
            rintro ex w4 ⟨v4, rfl, hr4, hD4, hg4⟩
            have hg14 := grown_trans hg13 hg4
            have hs4 := hs3.moved hD3 hg4
            have hT4 := hT3.moved hD3 hg4
            have hr14 := hr13.moved hD3 hg4
            have hO := HS a3 b3 e3 ho3
            obtain ⟨a5, k5, h5e, -⟩ := id hr4
            rw [h5e] at hr4 ⊢
            clear hr3 hT3 hD3 hg13 hg4 ho3 HS hr13 hs3 h5e
            go_wp2_with fail
            refine (cP _ b3 hb3 _ _ _ _ _ _ _ hr14 hs4 hT4 hD4).mono ?_
            rintro ex w5 ⟨v5, rfl, hr5, hD5, hg5⟩
            have hg15 := grown_trans hg14 hg5
            have hr45 := hr4.moved hD4 hg5
            obtain ⟨a6, k6, h6e, -⟩ := id hr5
            rw [h6e] at hr5 ⊢
            clear cP hT4 hD4 hg14 hg5 hs4 hr4 hr14 h6e
            go_wp2_with fail
            go_ret2
            exact ⟨_, _, _, _, _, rfl, hr45.row, hr5.row, stD_small, stD_small, hO, hD5, hg15⟩
    · obtain rfl : k = n := by omega
      rw [extO_base m h k k had x path (Nat.le_refl _)]
      cases had with
      | true =>
        have cE := fun W hD => endD_any g m e path ap cap W (by omega) hD
        have HO : OutE e (baseE true x path) x x (if path = [] then e else 10) := by
          cases path with
          | nil => exact OutE.same
          | cons y r => rw [if_neg (by simp)]; exact OutE.bad
        generalize baseE true x path = R at *
        generalize (if path = [] then e else 10) = e1 at *
        generalize path.length = lp at *
        have HX := Lib.hid hx
        generalize hlx : x.length = lx at *
        have HLX := Lib.hid hlx
        clear hB hl hc hq hx hlx hn h64 hk1 hkn hlt
        go_enter Tryd.func84, Tryd.ntmps84
        go_wp2_with fail
        refine (cE _ hD).mono ?_
        rintro ex w1 ⟨rfl, hD1, hg1⟩
        have hx1 := hxv.moved hD hg1
        clear cE hxv hD hT
        go_wp2_with fail
        go_ret2
        exact ⟨_, _, _, _, _, rfl, hx1, hx1, by rw [HLX.out]; exact HX.out, by rw [HLX.out]; exact HX.out, HO, hD1, hg1⟩
      | false =>
        rcases List.eq_nil_or_concat path with rfl | ⟨ps, p, rfl⟩
        · have cL := last_nil g m e ap cap w hD
          have cE := fun W hD => endD_any g m 10 [] none 0 W (by simp) hD
          rw [if_pos rfl] at cE
          rw [show ([] : List (List UInt8)).length = 0 from rfl] at *
          have HO : OutE e (baseE false x []) [] [] 10 := OutE.bad
          generalize baseE false x [] = R at *
          generalize x.length = lx at *
          clear hB hl hc hx hn h64 hk1 hkn hlt hxv
          go_enter Tryd.func84, Tryd.ntmps84
          go_wp2_with fail
          refine cL.mono ?_
          rintro ex w1 ⟨rfl, hD1, hg1⟩
          clear cL hT hD
          go_wp2_with fail
          refine (cE _ hD1).mono ?_
          rintro ex w2 ⟨rfl, hD2, hg2⟩
          have hg12 := grown_trans hg1 hg2
          clear cE hD1 hg1 hg2
          go_wp2_with fail
          go_ret2
          exact ⟨_, _, _, _, _, rfl, rowV_nil _, rowV_nil _, by simp, by simp, HO, hD2, hg12⟩
        · rw [List.concat_eq_append] at hc hB hl ⊢
          obtain ⟨lp, hlp⟩ : ∃ k, ps.length = k := ⟨_, rfl⟩
          have hln : (ps ++ [p]).length = lp + 1 := by rw [List.length_append, hlp]; rfl
          obtain ⟨ln, hln2⟩ : ∃ n, (ps ++ [p]).length = n := ⟨_, rfl⟩
          rw [hln2] at hc hln ⊢
          have cL := fun W hl => last_snoc ps p g lp ln hln ap cap W hlp hc hq hl
          have cE := fun W hD => endD_any g m e ps ap lp W (by omega) hD
          rw [hlp] at cE
          have hB2 : p.length ≤ 140737488351232 := hB p (by simp)
          have HO : OutE e (baseE false x (ps ++ [p])) p p (if ps = [] then e else 10) := by
            cases ps with
            | nil => exact OutE.same
            | cons y r =>
              rw [if_neg (by simp)]
              have : baseE false x (y :: r ++ [p]) = none := by cases r <;> rfl
              rw [this]; exact OutE.bad
          generalize baseE false x (ps ++ [p]) = R at *
          generalize (if ps = [] then e else 10) = e1 at *
          have hlpI : (ln : Int) ≤ 9223372036854775807 := by omega
          have HB2 := Lib.hid hB2
          generalize x.length = lx at *
          clear hB hc hx hn h64 hk1 hkn hlt hxv hB2 hlp hln hln2 hq
          go_enter Tryd.func84, Tryd.ntmps84
          go_wp2_with fail
          refine (cL _ hl).mono ?_
          rintro ex w1 ⟨a1, n1, c1, rfl, hr1, hb1⟩
          have hD1 := hD.keep hb1
          have hg1 := mv_below (P := g) hb1
          clear cL hT hD hl hb1
          go_wp2_with fail
          refine (cE _ hD1).mono ?_
          rintro ex w2 ⟨rfl, hD2, hg2⟩
          have hr2 := hr1.moved hD1 hg2
          have hg12 := grown_trans hg1 hg2
          clear cE hD1 hg1 hg2 hr1
          go_wp2_with fail
          go_ret2
          exact ⟨_, _, _, _, _, rfl, hr2, hr2, HB2.out, HB2.out, HO, hD2, hg12⟩
end Go.Proofs.YtdpfjhhcgaeiiaaDoor
