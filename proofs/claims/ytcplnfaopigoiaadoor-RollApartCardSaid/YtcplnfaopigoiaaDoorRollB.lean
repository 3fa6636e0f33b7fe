/-
  CONTRACTS of package roll: cut, parts, refuse; of the digester: root; Root.
  CONDITIONS: package sum's roundWords hold what their initialiser lays ('KW').
-/
import Derived.Test.YtcplnfaopigoiaaDoorRollA
import Derived.Test.YtcplnfaopigoiaaDoorRollL
namespace Go.Proofs.YtcplnfaopigoiaaDoor
open Go.RowKit CodeMath Go.Proofs.YtcplnfaopigoiaaDoor.FrameMath
set_option linter.unusedVariables false
set_option maxRecDepth 100000

theorem cutL_a (ap : Option Addr) (n cap k : Nat) (hk : k ≤ n) (hn : n ≤ cap) (W : World) : (Instr.slice 24 (.slice ap n cap) none (some (.int .i64 (k : Int))) (some (.int .i64 (k : Int)))).run Tryd.prog W = .ok (.slice ap k k) W := by
  have hs : (sizeOf (Tryd.prog.elem 24)).run Tryd.prog W = .ok 1 W := by kernel_rfl
  have h := run_slice_hm (P := Tryd.prog) W 24 ap n cap (by kernel_rfl) .i64 .i64 (k : Int) (k : Int) (by omega) (by omega) (by omega)
  rw [h, hs, Int.toNat_natCast]
  simp only [Result.andThen, sliced, Nat.sub_zero]
  cases ap with
  | none => simp
  | some a => simp [Addr.add]
theorem cutL_b (ap : Option Addr) (n cap k : Nat) (hk : k ≤ n) (hn : n ≤ cap) (W : World) : (Instr.slice 24 (.slice ap n cap) (some (.int .i64 (k : Int))) (some (.int .i64 (n : Int))) (some (.int .i64 (n : Int)))).run Tryd.prog W = .ok (.slice (pieceA ap k n) (n - k) (n - k)) W := by
  have hs : (sizeOf (Tryd.prog.elem 24)).run Tryd.prog W = .ok 1 W := by kernel_rfl
  have h := run_slice_lhm (P := Tryd.prog) W 24 ap n cap (by kernel_rfl) .i64 .i64 .i64 (k : Int) (n : Int) (n : Int) (by omega) (by omega) (by omega) (by omega)
  rw [h, hs, Int.toNat_natCast, Int.toNat_natCast]
  rfl
theorem Lines.take {w : World} {ap : Option Addr} {rows : List (List UInt8)} (h : Lines w ap rows) (k : Nat) : Lines w ap (rows.take k) := by
  rcases h with h | ⟨a, o, h1, h2, h3⟩
  · left; rw [h]; simp
  · exact .inr ⟨a, o, h1, h2, fun i x hx => h3 i x (by rw [List.getElem?_take] at hx; split at hx <;> simp_all)⟩
theorem Lines.drop {w : World} {ap : Option Addr} {rows : List (List UInt8)} (h : Lines w ap rows) (k n : Nat) (hn : rows.length = n) : Lines w (pieceA ap k n) (rows.drop k) := by
  unfold pieceA
  split
  · left; exact List.drop_of_length_le (by omega)
  · rcases h with h | ⟨a, o, h1, h2, h3⟩
    · left; rw [h]; simp
    · subst h1
      refine .inr ⟨a, o + k * 1, ?_, h2, fun i x hx => ?_⟩
      · by_cases hk : k = 0
        · subst hk; rfl
        · have hk3 : ¬ k * 1 = 0 := by omega
          simp [Addr.add, hk]
      · rw [List.getElem?_drop] at hx
        have := h3 _ x hx
        rw [show o + k * 1 + i = o + (k + i) by omega]
        exact this
set_option maxHeartbeats 1000000 in
theorem cut_any (ap : Option Addr) (n cap k : Nat) (hk : k ≤ n) (hn : n ≤ cap) (hq : cap ≤ 9223372036854775807) (w : World) :
    Calls Tryd.prog 73 #[.slice ap n cap, .int .i64 (k : Int)] w fun e w' => e = .returned (.tuple #[.slice ap k k, .slice (pieceA ap k n) (n - k) (n - k)]) ∧ Below w.heap.size w w' := by
  have s1 := fun W => cutL_a ap n cap k hk hn W
  have s2 := fun W => cutL_b ap n cap k hk hn W
  generalize pieceA ap k n = ap2 at *
  generalize n - k = r at *
  clear hk hn
  go_enter Tryd.func73, Tryd.ntmps73
  go_upto_region 1 with fail
  refine wp_region_det 13 (by kernel_rfl) (by kernel_rfl) (by kernel_rfl) ?_
  simp only [List.take_succ_cons, List.take_zero, List.drop_succ_cons, List.drop_zero]
  iterate 13 (apply wpDet_plain _ rfl; (focus (intro W hW; have q1 := s1 W; have q2 := s2 W; go_simp; exact ⟨rfl, Below.refl _ _⟩)); simp only [Act.put, List.setIfInBounds_toArray, List.set_cons_zero, List.set_cons_succ])
  refine wpDet_nil ?_
  intro W hW
  clear s1 s2
  go_wp2_with fail
  go_ret2
  exact ⟨rfl, hW⟩
set_option maxHeartbeats 1000000 in
theorem parts_any (ap : Option Addr) (n cap : Nat) (h2 : 2 ≤ n) (h64 : n ≤ 64) (hn : n ≤ cap) (hq : cap ≤ 9223372036854775807) (w : World) :
    Calls Tryd.prog 64 #[.slice ap n cap] w fun e w' => e = .returned (.tuple #[.slice ap (hf n) (hf n), .slice (pieceA ap (hf n) n) (n - hf n) (n - hf n)]) ∧ Below w.heap.size w w' := by
  have hk := hf_lt h2
  have c1 := fun W => firstPart_any n h2 h64 W
  have c2 := fun W => cut_any ap n cap (hf n) (by omega) hn hq W
  generalize pieceA ap (hf n) n = ap2 at *
  generalize n - hf n = r at *
  generalize hf n = k at *
  clear hk
  go_enter Tryd.func64, Tryd.ntmps64
  go_wp2_with fail
  refine (c1 _).mono ?_
  rintro e w1 ⟨rfl, rfl⟩
  clear c1
  go_wp2_with fail
  refine (c2 _).mono ?_
  rintro e w1 ⟨rfl, hb⟩
  clear c2
  go_wp2_with fail
  go_ret2
  exact ⟨rfl, hb⟩
def refR (m n : Int) : Int := if isMode m = false then 2 else if n < 0 ∨ 64 < n then 1 else 0
theorem refuse_any (m n : Int) (w : World) (m0 : -9223372036854775808 ≤ m) (m1 : m ≤ 9223372036854775807) (n0 : -9223372036854775808 ≤ n) (n1 : n ≤ 9223372036854775807) :
    Calls Tryd.prog 50 #[.int .i64 m, .int .i64 n] w fun e w' => e = .returned (.int .i64 (refR m n)) ∧ w = w' := by
  have cM := fun W => mode_any m W m0 m1
  obtain ⟨r, hr⟩ : ∃ r, refR m n = r := ⟨_, rfl⟩
  rw [hr]
  unfold refR at hr
  cases hm : isMode m with
  | false =>
    rw [if_pos hm] at hr
    subst hr
    rw [hm] at cM
    clear hm
    go_enter Tryd.func50, Tryd.ntmps50
    go_wp2_with fail
    refine (cM _).mono ?_
    rintro e w1 ⟨rfl, rfl⟩
    go_wp2_with fail
    go_ret
    exact ⟨rfl, rfl⟩
  | true =>
    rw [if_neg (by rw [hm]; decide)] at hr
    rw [hm] at cM
    clear hm
    by_cases h1 : n < 0
    · rw [if_pos (.inl h1)] at hr
      subst hr
      go_enter Tryd.func50, Tryd.ntmps50
      go_wp2_with fail
      refine (cM _).mono ?_
      rintro e w1 ⟨rfl, rfl⟩
      go_wp2_with fail
      go_ret
      exact ⟨rfl, rfl⟩
    · by_cases h2 : 64 < n
      · rw [if_pos (.inr h2)] at hr
        subst hr
        go_enter Tryd.func50, Tryd.ntmps50
        go_wp2_with fail
        refine (cM _).mono ?_
        rintro e w1 ⟨rfl, rfl⟩
        go_wp2_with fail
        go_ret
        exact ⟨rfl, rfl⟩
      · rw [if_neg (by omega)] at hr
        subst hr
        go_enter Tryd.func50, Tryd.ntmps50
        go_wp2_with fail
        refine (cM _).mono ?_
        rintro e w1 ⟨rfl, rfl⟩
        go_wp2_with fail
        go_ret
        exact ⟨rfl, rfl⟩
/-! ### root -/
theorem rollR_len (m : Int) : ∀ (n : Nat) (l : List (List UInt8)) (x : List UInt8), l.length ≤ n → rollR m l = .ok x → x.length ≤ 16777300
  | 0, l, x, hn, h => by
    obtain rfl := List.eq_nil_of_length_eq_zero (Nat.le_zero.1 hn)
    rw [rollR_nil] at h
    exact digR_len h
  | n + 1, l, x, hn, h => by
    match l with
    | [] => rw [rollR_nil] at h; exact digR_len h
    | [y] => rw [rollR_one] at h; exact digR_len h
    | a :: b :: r =>
      rw [rollR_two m _ (by simp)] at h
      obtain ⟨p, q, _, _, hd⟩ := pairR_ok h
      exact digR_len hd
theorem rollR_ne (m : Int) : ∀ (n : Nat) (l : List (List UInt8)) (c : Int), l.length ≤ n → rollR m l = .err c → c ≠ 0
  | 0, l, x, hn, h => by
    obtain rfl := List.eq_nil_of_length_eq_zero (Nat.le_zero.1 hn)
    rw [rollR_nil] at h
    exact digR_ne h
  | n + 1, l, x, hn, h => by
    match l with
    | [] => rw [rollR_nil] at h; exact digR_ne h
    | [y] => rw [rollR_one] at h; exact digR_ne h
    | a :: b :: r =>
      have h2 := hf_lt (n := (a :: b :: r).length) (by simp)
      rw [rollR_two m _ (by simp)] at h
      cases hX : rollR m ((a :: b :: r).take (hf (a :: b :: r).length)) with
      | err q => rw [hX] at h; cases h; exact rollR_ne m n _ _ (by rw [List.length_take]; omega) hX
      | ok p =>
        rw [hX] at h
        cases hY : rollR m ((a :: b :: r).drop (hf (a :: b :: r).length)) with
        | err q => rw [hY] at h; cases h; exact rollR_ne m n _ _ (by rw [List.length_drop]; omega) hY
        | ok q => rw [hY] at h; exact digR_ne h
theorem stD_len {e : Int} {R : DR} (h : ∀ x, R = .ok x → x.length ≤ 16777300) : (stD e R).1.length ≤ 140737488351232 := by
  unfold stD
  split
  · simp
  · cases R with
    | err c => simp
    | ok b => have := h b rfl; simp only; omega
theorem stD_pair (m e : Int) (A B : DR) (hA : ∀ c, A = .err c → c ≠ 0) (hB : ∀ c, B = .err c → c ≠ 0) : stD (stD (stD e A).2 B).2 (digR m 6 [(stD e A).1, (stD (stD e A).2 B).1]) = stD e (pairR m A B) := by
  by_cases he : e = 0
  · subst he
    cases A with
    | err c => rw [stD_err, stD_bad (hA c rfl), stD_bad (hA c rfl)]; rfl
    | ok a =>
      rw [stD_ok]
      cases B with
      | err c => rw [stD_err, stD_bad (hB c rfl)]; rfl
      | ok b => rfl
  · rw [stD_bad he, stD_bad he, stD_bad he, stD_bad he]
set_option maxHeartbeats 4000000 in
theorem rootD_any (g : Nat) (m : Int) (m0 : -9223372036854775808 ≤ m) (m1 : m ≤ 9223372036854775807) : ∀ (k : Nat) (l : List (List UInt8)) (ap : Option Addr) (cap : Nat) (e : Int) (w : World), l.length ≤ k → l.length ≤ 64 → l.length ≤ cap → cap ≤ 9223372036854775807 → (∀ x ∈ l, x.length ≤ 140737488351232) → Lines w ap l → KW w → DigW w g m e →
    Calls Tryd.prog 51 #[.pointer (some ⟨g, 0, none⟩), .slice ap l.length cap] w (StPost g m (stD e (rollR m l)) w)
  | 0, l, ap, cap, e, w, hk, h64, hc, hq, hB, hl, hT, hD => by
    obtain rfl := List.eq_nil_of_length_eq_zero (Nat.le_zero.1 hk)
    have c := dig_any g m e 4 [] none 0 w m0 m1 (by decide) (by decide) (by simp) (by simp) (.inl rfl) hT hD
    rw [rollR_nil]
    generalize stD e (digR m 4 []) = X at *
    rw [show ([] : List (List UInt8)).length = 0 from rfl] at *
    clear hl hT hD hB hk h64 hc
    go_enter Tryd.func51, Tryd.ntmps51
    go_wp2_with fail
    refine c.mono ?_
    rintro ex w1 ⟨v, rfl, hr, hd, hg⟩
    clear c
    go_wp2_with fail
    go_ret
    exact ⟨_, rfl, hr, hd, hg⟩
  | k + 1, l, ap, cap, e, w, hk, h64, hc, hq, hB, hl, hT, hD => by
    by_cases h2 : 2 ≤ l.length
    · have hf3 := hf_lt h2
      rw [rollR_two m l h2]
      have cP := fun W => parts_any ap l.length cap h2 h64 hc hq W
      have lt1 : (l.take (hf l.length)).length = hf l.length := by rw [List.length_take]; omega
      have ld1 : (l.drop (hf l.length)).length = l.length - hf l.length := by rw [List.length_drop]
      have cA := fun W hl hT hD => rootD_any g m m0 m1 k (l.take (hf l.length)) ap (hf l.length) e W (by omega) (by omega) (by omega) (by omega) (fun x hx => hB x (List.mem_of_mem_take hx)) hl hT hD
      have cB := fun e W hl hT hD => rootD_any g m m0 m1 k (l.drop (hf l.length)) (pieceA ap (hf l.length) l.length) (l.length - hf l.length) e W (by omega) (by omega) (by omega) (by omega) (fun x hx => hB x (List.mem_of_mem_drop hx)) hl hT hD
      rw [lt1] at cA
      rw [ld1] at cB
      have hlA := hl.take (hf l.length)
      have hlB := hl.drop (hf l.length) l.length rfl
      have nA := fun c h => rollR_ne m _ (l.take (hf l.length)) c (Nat.le_refl _) h
      have nB := fun c h => rollR_ne m _ (l.drop (hf l.length)) c (Nat.le_refl _) h
      have gA := fun c h => rollR_len m _ (l.take (hf l.length)) c (Nat.le_refl _) h
      have gB := fun c h => rollR_len m _ (l.drop (hf l.length)) c (Nat.le_refl _) h
      generalize rollR m (l.take (hf l.length)) = RA at *
      generalize rollR m (l.drop (hf l.length)) = RB at *
      rw [← stD_pair m e RA RB nA nB]
      have lA := stD_len (e := e) gA
      have lB := stD_len (e := (stD e RA).2) gB
      have cC := fun a1 n1 k1 a2 n2 k2 W ha hb hT hD => pair_any g m (stD (stD e RA).2 RB).2 (stD e RA).1 (stD (stD e RA).2 RB).1 a1 a2 n1 k1 n2 k2 W m0 m1 ha hb lA lB hT hD
      generalize stD (stD (stD e RA).2 RB).2 (digR m 6 [(stD e RA).1, (stD (stD e RA).2 RB).1]) = X at *
      have cB' := cB (stD e RA).2
      generalize hYA : stD e RA = YA at *
      generalize hYB : stD YA.2 RB = YB at *
      have hne1 : ¬ (l.length : Int) = 1 := by omega
      have hne0 : ¬ (l.length : Int) = 0 := by omega
      generalize pieceA ap (hf l.length) l.length = ap2 at *
      generalize l.length - hf l.length = r2 at *
      generalize hf l.length = r1 at *
      generalize l.length = n at *
      clear hB nA nB gA gB lA lB hYA hYB hf3 lt1 ld1 cB hk h64 h2 hl
      go_enter Tryd.func51, Tryd.ntmps51
      go_wp2_with fail
      refine (cP _).mono ?_
      rintro ex w1 ⟨rfl, hb1⟩
      have hD1 := hD.keep hb1
      have hT1 := hT.keep hb1 (Nat.le_refl _)
      have hlA1 := hlA.keep hb1
      have hlB1 := hlB.keep hb1
      have hg1 := mv_below (P := g) hb1
      clear cP hlA hlB hT hD hb1
      go_wp2_with fail
      refine (cA _ hlA1 hT1 hD1).mono ?_
      rintro ex w2 ⟨v2, rfl, hr2, hD2, hg2⟩
      have hT2 := hT1.moved hD1 hg2
      have hlB2 := hlB1.moved hD1 hg2
      have hg3 := grown_trans hg1 hg2
      clear cA hlA1 hlB1 hT1 hD1 hg1 hg2
      obtain ⟨a2, n2, k2, rfl⟩ : ∃ a n k, v2 = .slice a n k := by obtain ⟨a, k, e, _⟩ := hr2; exact ⟨_, _, _, e⟩
      go_wp2_with fail
      refine (cB' _ hlB2 hT2 hD2).mono ?_
      rintro ex w3 ⟨v3, rfl, hr3, hD3, hg4⟩
      have hT3 := hT2.moved hD2 hg4
      have hr23 := hr2.moved hD2 hg4
      have hg5 := grown_trans hg3 hg4
      clear cB' hlB2 hT2 hD2 hg3 hg4 hr2
      obtain ⟨a3, n3, k3, rfl⟩ : ∃ a n k, v3 = .slice a n k := by obtain ⟨a, k, e, _⟩ := hr3; exact ⟨_, _, _, e⟩
      go_wp2_with fail
      refine (cC _ _ _ _ _ _ _ hr23.row hr3.row hT3 hD3).mono ?_
      rintro ex w4 ⟨v4, rfl, hr4, hD4, hg6⟩
      have hg7 := grown_trans hg5 hg6
      clear cC hT3 hr23 hr3 hg5 hg6 hD3
      go_wp2_with fail
      go_ret
      exact ⟨_, rfl, hr4, hD4, hg7⟩
    · match l, hk, h64, hc, hB, hl, h2 with
      | [], hk, h64, hc, hB, hl, _ => exact rootD_any g m m0 m1 k [] ap cap e w (Nat.zero_le _) (by simp) (by simp) hq (by simp) (.inl rfl) hT hD
      | [x], hk, h64, hc, hB, hl, _ =>
        rcases hl with h | ⟨a, o, rfl, ha, h3⟩
        · cases h
        · obtain ⟨A1, c1, q1, q2, q3, q4, q5⟩ := h3 0 x rfl
          rw [Nat.add_zero] at q1
          have c := ent_any g m e x A1 x.length c1 w m0 m1 ⟨A1, c1, rfl, q2, q3, q4, q5⟩ (hB x (by simp)) hT hD
          rw [rollR_one]
          generalize stD e (digR m 5 [x]) = X at *
          generalize x.length = n1 at *
          rw [show [x].length = 1 from rfl] at *
          clear h3 q2 q3 q4 q5 hB hT hD hk h64
          go_enter Tryd.func51, Tryd.ntmps51
          go_wp2_with fail
          refine c.mono ?_
          rintro ex w1 ⟨v, rfl, hr, hd, hg⟩
          clear c
          go_wp2_with fail
          go_ret
          exact ⟨_, rfl, hr, hd, hg⟩
      | x :: y :: r, hk, h64, hc, hB, hl, h2 => exact absurd (by simp) h2
end Go.Proofs.YtcplnfaopigoiaaDoor
