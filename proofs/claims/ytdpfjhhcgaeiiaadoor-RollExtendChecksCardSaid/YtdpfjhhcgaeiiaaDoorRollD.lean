/-
  CONTRACTS of package roll's digester: last, end, verdict, included.
  CONDITIONS: package sum's roundWords hold what their initialiser lays ('KW').
-/
import Derived.Test.YtdpfjhhcgaeiiaaDoorRollQ
import Derived.Test.YtdpfjhhcgaeiiaaDoorCheckA
namespace Go.Proofs.YtdpfjhhcgaeiiaaDoor
open Go.RowKit CodeMath Go.Proofs.YtdpfjhhcgaeiiaaDoor.FrameMath
set_option linter.unusedVariables false
set_option maxRecDepth 100000

theorem RowV.below {w w' : World} {v : Value} {l : List UInt8} (h : RowV w v l) (hb : Below w.heap.size w w') : RowV w' v l := h.keep hb
theorem rowV_nil (w : World) : RowV w (.slice none 0 0) [] := (rowT_nil w).row
theorem last_nil (g : Nat) (m e : Int) (ap : Option Addr) (cp : Nat) (w : World) (hD : DigW w g m e) :
    Calls Tryd.prog 98 #[.pointer (some ⟨g, 0, none⟩), .slice ap 0 cp] w fun ex w' => ex = .returned (.tuple #[.slice none 0 0, .slice none 0 0]) ∧ DigW w' g m 10 ∧ w.grownBy w' (some g) := by
  have c1 : w.cell? ⟨g, 1, none⟩ = some (.int .i64 e) := Blk.cell hD rfl
  have f1 : w.frozen? ⟨g, 1, none⟩ = false := Blk.free hD 1
  have hD2 := hD.set 10
  have hg2 := grown_set w ⟨g, 1, none⟩ (.int .i64 10)
  clear hD
  go_enter Tryd.func98, Tryd.ntmps98
  go_wp2_with fail
  go_ret2
  exact ⟨rfl, hD2, hg2⟩
theorem last_snoc (ps : List (List UInt8)) (p : List UInt8) (g k n : Nat) (hkn : n = k + 1) (ap : Option Addr) (cp : Nat) (w : World) (hk : ps.length = k) (hc : n ≤ cp) (hq : cp ≤ 9223372036854775807) (hl : Lines w ap (ps ++ [p])) :
    Calls Tryd.prog 98 #[.pointer (some ⟨g, 0, none⟩), .slice ap n cp] w fun ex w' => ∃ a n c, ex = .returned (.tuple #[.slice ap k k, .slice a n c]) ∧ RowV w' (.slice a n c) p ∧ Below w.heap.size w w' := by
  rcases hl with h | ⟨a, o, rfl, ha, h3⟩
  · simp at h
  · obtain ⟨A1, c1, q1, q2, q3, q4, q5⟩ := h3 k p (by rw [List.getElem?_append_right (by omega), hk, Nat.sub_self]; rfl)
    have cC := fun W => cut_any (some ⟨a, o, none⟩) n cp k (by omega) hc hq W
    have hp : pieceA (some ⟨a, o, none⟩) k n = some ⟨a, o + k, none⟩ := by
      unfold pieceA
      rw [if_neg (by omega)]
      by_cases h0 : k = 0
      · subst h0; rfl
      · simp [Addr.add, h0]
    rw [hp, show n - k = 1 by omega] at cC
    have hrv : RowV w (.slice A1 p.length c1) p := ⟨A1, c1, rfl, q2, q3, q4, q5⟩
    have HC : ∀ W, Below w.heap.size w W → W.cell? ⟨a, o + k, none⟩ = some (.slice A1 p.length c1) := fun W hW => (hW.cell (p := ⟨a, o + k, none⟩) ha).trans q1
    have hnI : (n : Int) - 1 = k := by omega
    have hgI : ¬ (n : Int) = 0 := by omega
    have hkI : (n : Int) ≤ 9223372036854775807 := by omega
    generalize p.length = n1 at *
    clear h3 hp q1 q2 q3 q4 q5 hk hc hkn hq
    go_enter Tryd.func98, Tryd.ntmps98
    go_wp2_with fail
    refine (cC _).mono ?_
    rintro ex w1 ⟨rfl, hb1⟩
    clear cC
    have HC1 : ∀ W, Below w1.heap.size w1 W → W.cell? ⟨a, o + k, none⟩ = some (.slice A1 n1 c1) := fun W hW => HC W (below_step hb1 hb1.size hW)
    go_upto_region 5 with fail
    refine wp_region_det 6 (by kernel_rfl) (by kernel_rfl) (by kernel_rfl) ?_
    simp only [List.take_succ_cons, List.take_zero, List.drop_succ_cons, List.drop_zero]
    iterate 6 (apply wpDet_plain _ rfl; (focus (intro W hW; have q := HC1 W hW; go_simp; exact ⟨rfl, Below.refl _ _⟩)); simp only [Act.put, List.setIfInBounds_toArray, List.set_cons_zero, List.set_cons_succ])
    refine wpDet_nil ?_
    intro W hW
    have hbW := below_step hb1 hb1.size hW
    have hrW := hrv.keep hbW
    clear HC HC1 hrv
    go_wp2_with fail
    go_ret2
    exact ⟨_, _, _, rfl, hrW, hbW⟩
theorem endD_any (g : Nat) (m e : Int) (path : List (List UInt8)) (ap : Option Addr) (cp : Nat) (w : World) (hn : path.length ≤ 9223372036854775807) (hD : DigW w g m e) :
    Calls Tryd.prog 83 #[.pointer (some ⟨g, 0, none⟩), .slice ap path.length cp] w fun ex w' => ex = .returned (.tuple #[]) ∧ DigW w' g m (if path = [] then e else 10) ∧ w.grownBy w' (some g) := by
  have c1 : w.cell? ⟨g, 1, none⟩ = some (.int .i64 e) := Blk.cell hD rfl
  have f1 : w.frozen? ⟨g, 1, none⟩ = false := Blk.free hD 1
  cases path with
  | nil =>
    rw [if_pos rfl, show ([] : List (List UInt8)).length = 0 from rfl]
    go_enter Tryd.func83, Tryd.ntmps83
    go_wp2_with fail
    first | go_ret | go_end0
    exact ⟨rfl, hD, mv_refl _ _⟩
  | cons x r =>
    rw [if_neg (by simp)]
    have hD2 := hD.set 10
    have hg2 := grown_set w ⟨g, 1, none⟩ (.int .i64 10)
    have hgt : (0 : Int) < ((x :: r).length : Int) := by simp
    generalize (x :: r).length = n at *
    clear hD
    go_enter Tryd.func83, Tryd.ntmps83
    go_wp2_with fail
    first | go_ret | go_end0
    exact ⟨rfl, hD2, hg2⟩
theorem verdict_any (g : Nat) (m e : Int) (b : Bool) (w : World) (hD : DigW w g m e) :
    Calls Tryd.prog 80 #[.pointer (some ⟨g, 0, none⟩), .bool b] w fun ex w' => ex = .returned (.int .i64 (if e = 0 ∧ b = true then 0 else 10)) ∧ w = w' := by
  have c1 : w.cell? ⟨g, 1, none⟩ = some (.int .i64 e) := Blk.cell hD rfl
  clear hD
  by_cases he : e = 0
  · subst he
    cases b with
    | true =>
      rw [if_pos ⟨rfl, rfl⟩]
      go_enter Tryd.func80, Tryd.ntmps80
      go_wp2_with fail
      go_ret
      exact ⟨rfl, rfl⟩
    | false =>
      rw [if_neg (by simp)]
      go_enter Tryd.func80, Tryd.ntmps80
      go_wp2_with fail
      go_ret
      exact ⟨rfl, rfl⟩
  · rw [if_neg (by simp [he])]
    go_enter Tryd.func80, Tryd.ntmps80
    go_wp2_with fail
    go_ret
    exact ⟨rfl, rfl⟩
def IncOut (g : Nat) (m e : Int) (R : DR) (w : World) (ex : Ending) (w' : World) : Prop := ∃ v b e', ex = .returned v ∧ RowV w' v b ∧ b.length ≤ 140737488351232 ∧ OutD e R b e' ∧ DigW w' g m e' ∧ w.grownBy w' (some g)
theorem stD_small {e : Int} {m t : Int} {ps : List (List UInt8)} : (stD e (digR m t ps)).1.length ≤ 140737488351232 := stD_len (fun x hx => digR_len hx)
set_option maxHeartbeats 4000000 in
theorem included_any (g : Nat) (m : Int) (m0 : -9223372036854775808 ≤ m) (m1 : m ≤ 9223372036854775807) : ∀ (h n i : Nat) (x : List UInt8) (xv : Value) (path : List (List UInt8)) (ap : Option Addr) (cap : Nat) (e : Int) (w : World), n ≤ 2 ^ h → n ≤ 64 → i < n → path.length ≤ cap → cap ≤ 9223372036854775807 → x.length ≤ 140737488351232 → (∀ y ∈ path, y.length ≤ 140737488351232) → RowV w xv x → Lines w ap path → KW w → DigW w g m e →
    Calls Tryd.prog 78 #[.pointer (some ⟨g, 0, none⟩), .int .i64 (n : Int), .int .i64 (i : Int), xv, .slice ap path.length cap] w (IncOut g m e (foldS m (sidesF h n i) path (.ok x)) w)
  | h, n, i, x, xv, path, ap, cap, e, w, hn, h64, hi, hc, hq, hx, hB, hxv, hl, hT, hD => by
    obtain ⟨xa, xc, rfl, -⟩ := id hxv
    by_cases h2 : 2 ≤ n
    · cases h with
      | zero => simp at hn; omega
      | succ h =>
        obtain ⟨k0, k1, k2⟩ := hf_lt h2
        have hkp := hf_pow h2 hn
        have hne : ¬ (n : Int) = 1 := by omega
        have cF := fun W => firstPart_any n h2 h64 W
        have hsub1 : ((n - hf n : Nat) : Int) = (n : Int) - (hf n : Int) := by omega
        rcases List.eq_nil_or_concat path with rfl | ⟨ps, p, rfl⟩
        · have cL := last_nil g m e ap cap w hD
          by_cases hik : i < hf n
          · have hikI : (i : Int) < (hf n : Int) := by omega
            have cI := fun W hv hT hD => included_any g m m0 m1 h (hf n) i x (.slice xa x.length xc) [] none 0 10 W hkp (by omega) hik (Nat.le_refl _) (by decide) hx (by simp) hv (.inl rfl) hT hD
            rw [sidesF_two h n i h2, if_pos hik, foldS_short]
            generalize foldS m (sidesF h (hf n) i) [] (.ok x) = R1 at *
            have HS : ∀ b1 e1, OutD 10 R1 b1 e1 → OutD e (.err 10) (stD e1 (digR m 6 [b1, []])).1 (stD e1 (digR m 6 [b1, []])).2 := fun b1 e1 h => OutD.short h
            have cP := fun b1 e1 hb a1 n1 k1 W h1 hT hD => pair_any g m e1 b1 [] a1 none n1 k1 0 0 W m0 m1 h1 (rowV_nil W) hb (by simp) hT hD
            rw [show ([] : List (List UInt8)).length = 0 from rfl] at *
            generalize hf n = f at *
            generalize x.length = lx at *
            clear hB hl hc hn h64 hkp k0 k1 k2 hik hi hsub1 h2
            go_enter Tryd.func78, Tryd.ntmps78
            go_wp2_with fail
            refine cL.mono ?_
            rintro ex w1 ⟨rfl, hD1, hg1⟩
            have hx1 := hxv.moved hD hg1
            have hT1 := hT.moved hD hg1
            clear cL hxv hT hD
            go_wp2_with fail
            refine (cF _).mono ?_
            rintro ex w2 ⟨rfl, rfl⟩
            clear cF
            go_wp2_with fail
            refine (cI _ hx1 hT1 hD1).mono ?_
            rintro ex w3 ⟨v3, b3, e3, rfl, hr3, hb3, ho3, hD3, hg3⟩
            have hT3 := hT1.moved hD1 hg3
            have hg13 := grown_trans hg1 hg3
            clear cI hx1 hT1 hD1 hg1 hg3
            obtain ⟨a3, k3, rfl, -⟩ := id hr3
            go_wp2_with fail
            refine (cP b3 e3 hb3 _ _ _ _ hr3 hT3 hD3).mono ?_
            rintro ex w4 ⟨v4, rfl, hr4, hD4, hg4⟩
            have hg14 := grown_trans hg13 hg4
            have hO := HS b3 e3 ho3
            clear cP hr3 hT3 hD3 hg13 hg4 ho3 HS
            go_wp2_with fail
            go_ret
            exact ⟨_, _, _, rfl, hr4.row, stD_small, hO, hD4, hg14⟩
          · have hikI : ¬ (i : Int) < (hf n : Int) := by omega
            have hsub2 : ((i - hf n : Nat) : Int) = (i : Int) - (hf n : Int) := by omega
            have cI := fun W hv hT hD => included_any g m m0 m1 h (n - hf n) (i - hf n) x (.slice xa x.length xc) [] none 0 10 W (by omega) (by omega) (by omega) (Nat.le_refl _) (by decide) hx (by simp) hv (.inl rfl) hT hD
            rw [sidesF_two h n i h2, if_neg hik, foldS_short]
            rw [hsub1, hsub2] at cI
            generalize foldS m (sidesF h (n - hf n) (i - hf n)) [] (.ok x) = R1 at *
            have HS : ∀ b1 e1, OutD 10 R1 b1 e1 → OutD e (.err 10) (stD e1 (digR m 6 [[], b1])).1 (stD e1 (digR m 6 [[], b1])).2 := fun b1 e1 h => OutD.short h
            have cP := fun b1 e1 hb a1 n1 k1 W h1 hT hD => pair_any g m e1 [] b1 none a1 0 0 n1 k1 W m0 m1 (rowV_nil W) h1 (by simp) hb hT hD
            rw [show ([] : List (List UInt8)).length = 0 from rfl] at *
            have hfI : (hf n : Int) ≤ 64 := by omega
            have hnI : (n : Int) ≤ 64 := by omega
            have hiI : (i : Int) < n := by omega
            generalize hf n = f at *
            generalize x.length = lx at *
            clear hB hl hc hn h64 hkp k0 k1 k2 hik hi hsub1 hsub2 h2
            go_enter Tryd.func78, Tryd.ntmps78
            go_wp2_with fail
            refine cL.mono ?_
            rintro ex w1 ⟨rfl, hD1, hg1⟩
            have hx1 := hxv.moved hD hg1
            have hT1 := hT.moved hD hg1
            clear cL hxv hT hD
            go_wp2_with fail
            refine (cF _).mono ?_
            rintro ex w2 ⟨rfl, rfl⟩
            clear cF
            go_wp2_with fail
            refine (cI _ hx1 hT1 hD1).mono ?_
            rintro ex w3 ⟨v3, b3, e3, rfl, hr3, hb3, ho3, hD3, hg3⟩
            have hT3 := hT1.moved hD1 hg3
            have hg13 := grown_trans hg1 hg3
            clear cI hx1 hT1 hD1 hg1 hg3
            obtain ⟨a3, k3, rfl, -⟩ := id hr3
            go_wp2_with fail
            refine (cP b3 e3 hb3 _ _ _ _ hr3 hT3 hD3).mono ?_
            rintro ex w4 ⟨v4, rfl, hr4, hD4, hg4⟩
            have hg14 := grown_trans hg13 hg4
            have hO := HS b3 e3 ho3
            clear cP hr3 hT3 hD3 hg13 hg4 ho3 HS
            go_wp2_with fail
            go_ret
            exact ⟨_, _, _, rfl, hr4.row, stD_small, hO, hD4, hg14⟩
        · rw [List.concat_eq_append] at hc hB hl ⊢
          obtain ⟨lp, hlp⟩ : ∃ k, ps.length = k := ⟨_, rfl⟩
          have hln : (ps ++ [p]).length = lp + 1 := by rw [List.length_append, hlp]; rfl
          obtain ⟨ln, hln2⟩ : ∃ n, (ps ++ [p]).length = n := ⟨_, rfl⟩
          rw [hln2] at hc hln ⊢
          have cL := fun W hl => last_snoc ps p g lp ln hln ap cap W hlp hc hq hl
          have hps := fun W (h : Lines W ap (ps ++ [p])) => h.take lp
          rw [List.take_left' hlp] at hps
          have hB1 : ∀ y ∈ ps, y.length ≤ 140737488351232 := fun y hy => hB y (by simp [hy])
          have hB2 : p.length ≤ 140737488351232 := hB p (by simp)
          by_cases hik : i < hf n
          · have hikI : (i : Int) < (hf n : Int) := by omega
            have cI := fun W hv hl hT hD => included_any g m m0 m1 h (hf n) i x (.slice xa x.length xc) ps ap lp e W hkp (by omega) hik (by omega) (by omega) hx hB1 hv hl hT hD
            rw [hlp] at cI
            rw [sidesF_two h n i h2, if_pos hik, foldS_snoc]
            generalize foldS m (sidesF h (hf n) i) ps (.ok x) = R1 at *
            have HS : ∀ b1 e1, OutD e R1 b1 e1 → OutD e (stepP m false p R1) (stD e1 (digR m 6 [b1, p])).1 (stD e1 (digR m 6 [b1, p])).2 := fun b1 e1 h => OutD.step h
            generalize stepP m false p R1 = RR at *
            have cP := fun b1 e1 hb a1 n1 k1 a2 n2 k2 W h1 h2 hT hD => pair_any g m e1 b1 p a1 a2 n1 k1 n2 k2 W m0 m1 h1 h2 hb hB2 hT hD
            have hlpI : (ln : Int) ≤ 9223372036854775807 := by omega
            generalize hf n = f at *
            generalize x.length = lx at *
            clear hB hB1 hB2 hc hn h64 hkp k0 k1 k2 hik hi hsub1 h2 hlp hln hln2 hq
            go_enter Tryd.func78, Tryd.ntmps78
            go_wp2_with fail
            refine (cL _ hl).mono ?_
            rintro ex w1 ⟨a1, n1, c1, rfl, hr1, hb1⟩
            have hx1 := hxv.keep hb1
            have hT1 := hT.keep hb1 (Nat.le_refl _)
            have hD1 := hD.keep hb1
            have hl1 := hps _ (hl.keep hb1)
            have hg1 := mv_below (P := g) hb1
            clear cL hxv hT hD hl hb1 hps
            go_wp2_with fail
            refine (cF _).mono ?_
            rintro ex w2 ⟨rfl, rfl⟩
            clear cF
            go_wp2_with fail
            refine (cI _ hx1 hl1 hT1 hD1).mono ?_
            rintro ex w3 ⟨v3, b3, e3, rfl, hr3, hb3, ho3, hD3, hg3⟩
            have hT3 := hT1.moved hD1 hg3
            have hr13 := hr1.moved hD1 hg3
            have hg13 := grown_trans hg1 hg3
            clear cI hx1 hT1 hD1 hg1 hg3 hl1 hr1
            obtain ⟨a3, k3, rfl, -⟩ := id hr3
            go_wp2_with fail
            refine (cP b3 e3 hb3 _ _ _ _ _ _ _ hr3 hr13 hT3 hD3).mono ?_
            rintro ex w4 ⟨v4, rfl, hr4, hD4, hg4⟩
            have hg14 := grown_trans hg13 hg4
            have hO := HS b3 e3 ho3
            clear cP hr3 hT3 hD3 hg13 hg4 ho3 HS hr13
            go_wp2_with fail
            go_ret
            exact ⟨_, _, _, rfl, hr4.row, stD_small, hO, hD4, hg14⟩
          · have hikI : ¬ (i : Int) < (hf n : Int) := by omega
            have hsub2 : ((i - hf n : Nat) : Int) = (i : Int) - (hf n : Int) := by omega
            have cI := fun W hv hl hT hD => included_any g m m0 m1 h (n - hf n) (i - hf n) x (.slice xa x.length xc) ps ap lp e W (by omega) (by omega) (by omega) (by omega) (by omega) hx hB1 hv hl hT hD
            rw [hlp, hsub1, hsub2] at cI
            rw [sidesF_two h n i h2, if_neg hik, foldS_snoc]
            generalize foldS m (sidesF h (n - hf n) (i - hf n)) ps (.ok x) = R1 at *
            have HS : ∀ b1 e1, OutD e R1 b1 e1 → OutD e (stepP m true p R1) (stD e1 (digR m 6 [p, b1])).1 (stD e1 (digR m 6 [p, b1])).2 := fun b1 e1 h => OutD.step h
            generalize stepP m true p R1 = RR at *
            have cP := fun b1 e1 hb a1 n1 k1 a2 n2 k2 W h1 h2 hT hD => pair_any g m e1 p b1 a1 a2 n1 k1 n2 k2 W m0 m1 h1 h2 hB2 hb hT hD
            have hlpI : (ln : Int) ≤ 9223372036854775807 := by omega
            have hfI : (hf n : Int) ≤ 64 := by omega
            have hnI : (n : Int) ≤ 64 := by omega
            have hiI : (i : Int) < n := by omega
            generalize hf n = f at *
            generalize x.length = lx at *
            clear hB hB1 hB2 hc hn h64 hkp k0 k1 k2 hik hi hsub1 hsub2 h2 hlp hln hln2 hq
            go_enter Tryd.func78, Tryd.ntmps78
            go_wp2_with fail
            refine (cL _ hl).mono ?_
            rintro ex w1 ⟨a1, n1, c1, rfl, hr1, hb1⟩
            have hx1 := hxv.keep hb1
            have hT1 := hT.keep hb1 (Nat.le_refl _)
            have hD1 := hD.keep hb1
            have hl1 := hps _ (hl.keep hb1)
            have hg1 := mv_below (P := g) hb1
            clear cL hxv hT hD hl hb1 hps
            go_wp2_with fail
            refine (cF _).mono ?_
            rintro ex w2 ⟨rfl, rfl⟩
            clear cF
            go_wp2_with fail
            refine (cI _ hx1 hl1 hT1 hD1).mono ?_
            rintro ex w3 ⟨v3, b3, e3, rfl, hr3, hb3, ho3, hD3, hg3⟩
            have hT3 := hT1.moved hD1 hg3
            have hr13 := hr1.moved hD1 hg3
            have hg13 := grown_trans hg1 hg3
            clear cI hx1 hT1 hD1 hg1 hg3 hl1 hr1
            obtain ⟨a3, k3, rfl, -⟩ := id hr3
            go_wp2_with fail
            refine (cP b3 e3 hb3 _ _ _ _ _ _ _ hr13 hr3 hT3 hD3).mono ?_
            rintro ex w4 ⟨v4, rfl, hr4, hD4, hg4⟩
            have hg14 := grown_trans hg13 hg4
            have hO := HS b3 e3 ho3
            clear cP hr3 hT3 hD3 hg13 hg4 ho3 HS hr13
            go_wp2_with fail
            go_ret
            exact ⟨_, _, _, rfl, hr4.row, stD_small, hO, hD4, hg14⟩
    · obtain rfl : n = 1 := by omega
      rw [sidesF_one]
      have cE := fun W hD => endD_any g m e path ap cap W (by omega) hD
      have HO : OutD e (foldS m [] path (.ok x)) x (if path = [] then e else 10) := by
        cases path with
        | nil => exact OutD.same
        | cons y r => rw [if_neg (by simp)]; exact OutD.bad
      generalize foldS m [] path (.ok x) = R at *
      generalize (if path = [] then e else 10) = e1 at *
      generalize path.length = lp at *
      have HX := Lib.hid hx
      generalize hlx : x.length = lx at *
      have HLX := Lib.hid hlx
      clear hB hl hc hq h2 hx hlx
      go_enter Tryd.func78, Tryd.ntmps78
      go_wp2_with fail
      refine (cE _ hD).mono ?_
      rintro ex w1 ⟨rfl, hD1, hg1⟩
      have hx1 := hxv.moved hD hg1
      clear cE hxv hD hT
      go_wp2_with fail
      go_ret
      exact ⟨_, _, _, rfl, hx1, by rw [HLX.out]; exact HX.out, HO, hD1, hg1⟩
end Go.Proofs.YtdpfjhhcgaeiiaaDoor
