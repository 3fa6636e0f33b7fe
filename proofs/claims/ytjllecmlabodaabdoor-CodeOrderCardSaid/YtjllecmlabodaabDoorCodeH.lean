/-
  CONTRACTS of package code's readValue, reader and turned.
  CONDITIONS: each theorem's own hypotheses.
-/
import Derived.Test.YtjllecmlabodaabDoorCodeG
import Derived.Test.YtjllecmlabodaabDoorRawB
namespace Go.Proofs.YtjllecmlabodaabDoor
open Go.RowKit CodeMath
set_option linter.unusedVariables false

/-- May this value be? -/
def okV (u : CodeMath.Val) : Bool := decide (u.v.chk = 0)
theorem dec1_yes (ok : CodeMath.Val → Bool) (l : List UInt8) : dec1 ok l = (match dec1 yes l with | .err e => .err e | .ok v k => fin ok v k) := by
  have hf : ∀ v k, fin yes v k = .ok v k := fun v k => rfl
  match l with
  | [] => rfl
  | c :: r =>
    simp only [dec1]
    by_cases h1 : c = 1
    · simp only [if_pos h1, hf]
    simp only [if_neg h1]
    by_cases h2 : c = 2
    · simp only [if_pos h2]
      cases r <;> simp only [hf]
    simp only [if_neg h2]
    by_cases h3 : c = 3
    · simp only [if_pos h3]
      split <;> simp only [hf]
    simp only [if_neg h3]
    by_cases h4 : c = 4
    · simp only [if_pos h4]
      split <;> simp only [hf]
    simp only [if_neg h4]
    by_cases h5 : c = 5
    · simp only [if_pos h5]
      cases txt r [] 0 <;> simp only [hf]
    simp only [if_neg h5]
theorem txt_len : ∀ (n : Nat) (l acc : List UInt8) (k : Nat) (s : List UInt8) (m : Nat), l.length ≤ n → acc.length ≤ 40 → txt l acc k = .ok s m → s.length ≤ 40
  | n, [], acc, k, s, m, hn, ha, h => by simp [txt] at h
  | 0, c :: l, acc, k, s, m, hn, ha, h => by simp at hn
  | n + 1, c :: l, acc, k, s, m, hn, ha, h => by
    simp only [List.length_cons] at hn
    by_cases hc : c = 0
    · subst hc
      match l with
      | [] => simp [txt] at h
      | m' :: l' =>
        simp only [List.length_cons] at hn
        simp only [txt, if_pos] at h
        by_cases h1 : m' = 255
        · subst h1
          simp only [if_pos] at h
          split at h
          · cases h
          · exact txt_len n l' _ _ s m (by omega) (by simp; omega) h
        · rw [if_neg h1] at h
          split at h
          · simp only [TRes.ok.injEq] at h
            rw [← h.1]; exact ha
          · cases h
    · rw [txt_cons _ _ _ _ hc] at h
      split at h
      · cases h
      · exact txt_len n l _ _ s m (by omega) (by simp; omega) h
theorem dec1_fits (l : List UInt8) (u : CodeMath.Val) (k : Nat) (h : dec1 yes l = .ok u k) : u.v.Fits := by
  have fits : ∀ (k i b : Int) (s : List UInt8), 0 ≤ k → k ≤ 4 → -9223372036854775808 ≤ i → i ≤ 9223372036854775807 → 0 ≤ b → b ≤ 18446744073709551615 → s.length ≤ 40 → (CodeMath.Val.v ⟨k, i, b, s⟩).Fits :=
    fun k i b s h1 h2 h3 h4 h5 h6 h7 => fits4 k i b ⟨s.toArray⟩ (by omega) (by omega) h3 h4 h5 h6 (by show (ByteArray.mk s.toArray).size ≤ _; simp only [ByteArray.size, List.size_toArray]; omega)
  have hf : ∀ v k, fin yes v k = .ok v k := fun v k => rfl
  match l with
  | [] => simp [dec1] at h
  | c :: r =>
    simp only [dec1, hf] at h
    by_cases h1 : c = 1
    · rw [if_pos h1] at h
      simp only [Res.ok.injEq] at h
      rw [← h.1]
      exact fits _ _ _ _ (by decide) (by decide) (by decide) (by decide) (by decide) (by decide) (by simp)
    rw [if_neg h1] at h
    by_cases h2 : c = 2
    · rw [if_pos h2] at h
      match r with
      | [] => cases h
      | x :: r' =>
        simp only [Res.ok.injEq] at h
        rw [← h.1]
        have := byte_lt x
        exact fits _ _ _ _ (by decide) (by decide) (by omega) (by omega) (by decide) (by decide) (by simp)
    rw [if_neg h2] at h
    by_cases h3 : c = 3
    · rw [if_pos h3] at h
      split at h
      · cases h
      · simp only [Res.ok.injEq] at h
        rw [← h.1]
        have := num8 (r.take 8) (by simp; omega)
        unfold two64 at this
        exact fits _ _ _ _ (by decide) (by decide) (by unfold two63; omega) (by unfold two63; omega) (by decide) (by decide) (by simp)
    rw [if_neg h3] at h
    by_cases h4 : c = 4
    · rw [if_pos h4] at h
      split at h
      · cases h
      · simp only [Res.ok.injEq] at h
        rw [← h.1]
        have := num8 (r.take 8) (by simp; omega)
        unfold two64 at this
        refine fits _ _ _ _ (by decide) (by decide) (by decide) (by decide) ?_ ?_ (by simp) <;>
        · unfold down64 two63 two64
          split <;> omega
    rw [if_neg h4] at h
    by_cases h5 : c = 5
    · rw [if_pos h5] at h
      cases hT : txt r [] 0 with
      | err e => rw [hT] at h; cases h
      | ok s m =>
        rw [hT] at h
        simp only [Res.ok.injEq] at h
        rw [← h.1]
        exact fits _ _ _ _ (by decide) (by decide) (by decide) (by decide) (by decide) (by decide) (txt_len r.length r [] 0 s m (Nat.le_refl _) (by simp) hT)
    rw [if_neg h5] at h
    cases h
theorem dec1_err_ne (l : List UInt8) (e : Int) (h : dec1 yes l = .err e) : e ≠ 0 := by
  have hf : ∀ v k, fin yes v k = .ok v k := fun v k => rfl
  match l with
  | [] => simp [dec1] at h; omega
  | c :: r =>
    simp only [dec1, hf] at h
    by_cases h1 : c = 1
    · rw [if_pos h1] at h; cases h
    rw [if_neg h1] at h
    by_cases h2 : c = 2
    · rw [if_pos h2] at h
      match r with
      | [] => simp at h; omega
      | x :: r' => cases h
    rw [if_neg h2] at h
    by_cases h3 : c = 3
    · rw [if_pos h3] at h
      split at h
      · simp at h; omega
      · cases h
    rw [if_neg h3] at h
    by_cases h4 : c = 4
    · rw [if_pos h4] at h
      split at h
      · simp at h; omega
      · cases h
    rw [if_neg h4] at h
    by_cases h5 : c = 5
    · rw [if_pos h5] at h
      cases hT : txt r [] 0 with
      | err e' =>
        rw [hT] at h
        simp only [Res.err.injEq] at h
        rw [← h]
        exact txt_err_ne r.length r [] 0 e' (Nat.le_refl _) hT
      | ok s m => rw [hT] at h; cases h
    rw [if_neg h5] at h
    simp at h; omega

theorem moved_more {w w1 : World} {P : Nat} (hg : w.grownBy w1 (some P)) (o : Obj) : w.grownBy (w1.alloc o) (some P) := grown_trans hg (World.grownBy_alloc w1 o _)
def RVal (M : Nat) (P B F D : Nat) (ao : Option Addr) (cap : Nat) (l : List UInt8) (d : Bool) (p : Nat) (A : Res) (w : World) (e : Ending) (w' : World) : Prop :=
  e = .returned (.tuple #[A.v.agg, .int .i64 A.e]) ∧ w.grownBy w' (some P) ∧ (A.e = 0 → Src M w' P B F D ao cap l d (p + A.k))

set_option maxRecDepth 100000 in
set_option maxHeartbeats 1000000 in
theorem readValue_err {M : Nat} {w : World} {P B F D : Nat} {ao : Option Addr} {cap : Nat} {l : List UInt8} {d : Bool} {p : Nat} (h : Src M w P B F D ao cap l d p) (E : Int) (hE : dec1 yes (rest l d p) = .err E) :
    Calls Tryd.prog 31 #[td F D] w (RVal M P B F D ao cap l d p (dec1 okV (rest l d p)) w) := by
  have hM := h.r.m
  have hPw : P < w.heap.size := Nat.lt_of_lt_of_le h.r.pm hM
  have hA : Hid (dec1 okV (rest l d p) = .err E) := by show _ = _; rw [dec1_yes, hE]
  obtain ⟨A, hA0⟩ : ∃ A, dec1 okV (rest l d p) = A := ⟨_, rfl⟩
  rw [hA0] at hA ⊢
  have hne := dec1_err_ne _ _ hE
  have k1 : (E == 0) = false := by simpa using hne
  have k2 : (E != 0) = true := by simpa using hne
  have HE := Lib.hid hne
  have c48 := fun o => readContent_any (h.below ((Below.refl M w).alloc hM o))
  rw [hE] at c48
  clear h hA0 hE hne
  go_enter Tryd.func31, Tryd.ntmps31
  go_wp2_with fail
  refine (c48 _).mono ?_
  rintro _ w1 ⟨v, rfl, hg, -⟩
  clear c48
  have hB := (Blk.new w _ _ _ _).moved hg hPw
  obtain ⟨b0, b1, b2, b3⟩ := hB.c
  obtain ⟨f0, f1, f2, f3⟩ := hB.f
  have hgw : w.grownBy w1 (some P) := moved_alloc hg
  have hsz : w.heap.size < w1.heap.size := by have := hg.size; simp at this; omega
  have eE : (Res.err E).e = E := rfl
  rw [eE]
  go_wp2_with fail
  refine bodyPost_ret (results_blk rfl _ _ w.heap.size _ _ _ _ rfl (((((hB.s0 _).s1 _).s2 _).s3 _).alloc _)) rfl ?_
  rw [hA.out]
  exact ⟨rfl, moved_more (moved_set (moved_set (moved_set (moved_set hgw (Nat.le_refl _)) (Nat.le_refl _)) (Nat.le_refl _)) (Nat.le_refl _)) _, fun h => absurd h HE.out⟩

set_option maxRecDepth 100000 in
set_option maxHeartbeats 1000000 in
theorem readValue_bad {M : Nat} {w : World} {P B F D : Nat} {ao : Option Addr} {cap : Nat} {l : List UInt8} {d : Bool} {p : Nat} (h : Src M w P B F D ao cap l d p) (hT : ∀ w', w.grownBy w' (some P) → Tabs w') (u : CodeMath.Val) (k : Nat) (hu : dec1 yes (rest l d p) = .ok u k) (hc : u.v.chk ≠ 0) :
    Calls Tryd.prog 31 #[td F D] w (RVal M P B F D ao cap l d p (dec1 okV (rest l d p)) w) := by
  have hM := h.r.m
  have hPw : P < w.heap.size := Nat.lt_of_lt_of_le h.r.pm hM
  have hA : Hid (dec1 okV (rest l d p) = .err 3) := by show _ = _; rw [dec1_yes, hu]; show fin okV u k = _; unfold fin okV; rw [if_neg (by simpa using hc)]
  obtain ⟨A, hA0⟩ : ∃ A, dec1 okV (rest l d p) = A := ⟨_, rfl⟩
  rw [hA0] at hA ⊢
  have hfit := dec1_fits _ u k hu
  have c48 := fun o => readContent_any (h.below ((Below.refl M w).alloc hM o))
  rw [hu] at c48
  obtain ⟨V0, hV0⟩ : ∃ V0, u.v = V0 := ⟨_, rfl⟩
  have eV : Hid ((Res.ok u k).v = V0) := hV0
  rw [hV0] at hc hfit
  have c22 := fun w => check_any V0.k V0.i V0.b V0.s w hfit.b0 hfit.b1 hfit.s1
  have eC : Go.Proofs.YtjllecmlabodaabDoor.chk V0.k V0.i V0.b V0.s = V0.chk := rfl
  rw [eC] at c22
  have k2 : (V0.chk != 0) = true := by simpa using hc
  clear h hA0 hu hc hV0 hfit eC
  go_enter Tryd.func31, Tryd.ntmps31
  go_wp2_with fail
  refine (c48 _).mono ?_
  rintro _ w1 ⟨v, rfl, hg, hv⟩
  clear c48
  obtain ⟨hv, -⟩ := hv rfl
  rw [eV.out] at hv
  subst hv
  have hB := (Blk.new w _ _ _ _).moved hg hPw
  have hgw : w.grownBy w1 (some P) := moved_alloc hg
  have hsz : w.heap.size < w1.heap.size := by have := hg.size; simp at this; omega
  have hT1 : ∀ o, Tabs (w1.alloc o) := fun o => hT _ (grown_trans hgw (World.grownBy_alloc w1 o _))
  have eE : (Res.ok u k).e = 0 := rfl
  rw [eE]
  clear hT eE
  go_wp2_with fail
  refine (c22 _ (hT1 _)).mono ?_
  rintro _ w2 ⟨rfl, hb⟩
  clear c22 hT1
  have hB2 : Blk w2 w.heap.size _ _ _ _ := (hb.block w.heap.size (by simp; omega)).trans (hB.alloc _)
  have hgw2 : w.grownBy w2 (some P) := moved_below hgw (((Below.refl _ w1).alloc (by omega) _).trans (hb.mono (by simp; omega)))
  obtain ⟨b0, b1, b2, b3⟩ := hB2.c
  obtain ⟨f0, f1, f2, f3⟩ := hB2.f
  go_wp2_with fail
  refine bodyPost_ret (results_blk rfl _ _ w.heap.size _ _ _ _ rfl ((((hB2.s0 _).s1 _).s2 _).s3 _)) rfl ?_
  rw [hA.out]
  exact ⟨rfl, moved_set (moved_set (moved_set (moved_set hgw2 (Nat.le_refl _)) (Nat.le_refl _)) (Nat.le_refl _)) (Nat.le_refl _), fun h => by cases h⟩

set_option maxRecDepth 100000 in
set_option maxHeartbeats 1000000 in
theorem readValue_ok {M : Nat} {w : World} {P B F D : Nat} {ao : Option Addr} {cap : Nat} {l : List UInt8} {d : Bool} {p : Nat} (h : Src M w P B F D ao cap l d p) (hT : ∀ w', w.grownBy w' (some P) → Tabs w') (u : CodeMath.Val) (k : Nat) (hu : dec1 yes (rest l d p) = .ok u k) (hc : u.v.chk = 0) :
    Calls Tryd.prog 31 #[td F D] w (RVal M P B F D ao cap l d p (dec1 okV (rest l d p)) w) := by
  have hM := h.r.m
  have hPw : P < w.heap.size := Nat.lt_of_lt_of_le h.r.pm hM
  have hA : Hid (dec1 okV (rest l d p) = .ok u k) := by show _ = _; rw [dec1_yes, hu]; show fin okV u k = _; unfold fin okV; rw [if_pos (by simpa using hc)]
  obtain ⟨A, hA0⟩ : ∃ A, dec1 okV (rest l d p) = A := ⟨_, rfl⟩
  rw [hA0] at hA ⊢
  have hfit := dec1_fits _ u k hu
  have c48 := fun o => readContent_any (h.below ((Below.refl M w).alloc hM o))
  rw [hu] at c48
  obtain ⟨V0, hV0⟩ : ∃ V0, u.v = V0 := ⟨_, rfl⟩
  have eV : Hid ((Res.ok u k).v = V0) := hV0
  rw [hV0] at hc hfit
  have c22 := fun w => check_any V0.k V0.i V0.b V0.s w hfit.b0 hfit.b1 hfit.s1
  have eC : Go.Proofs.YtjllecmlabodaabDoor.chk V0.k V0.i V0.b V0.s = V0.chk := rfl
  rw [eC, hc] at c22
  clear h hA0 hu hc hV0 hfit eC
  go_enter Tryd.func31, Tryd.ntmps31
  go_wp2_with fail
  refine (c48 _).mono ?_
  rintro _ w1 ⟨v, rfl, hg, hv⟩
  clear c48
  obtain ⟨hv, hs⟩ := hv rfl
  rw [eV.out] at hv
  subst hv
  have hB := (Blk.new w _ _ _ _).moved hg hPw
  have hgw : w.grownBy w1 (some P) := moved_alloc hg
  have hsz : w.heap.size < w1.heap.size := by have := hg.size; simp at this; omega
  have hT1 : ∀ o, Tabs (w1.alloc o) := fun o => hT _ (grown_trans hgw (World.grownBy_alloc w1 o _))
  have eE : (Res.ok u k).e = 0 := rfl
  rw [eE]
  clear hT eE
  go_wp2_with fail
  refine (c22 _ (hT1 _)).mono ?_
  rintro _ w2 ⟨rfl, hb⟩
  clear c22 hT1
  have hB2 : Blk w2 w.heap.size _ _ _ _ := (hb.block w.heap.size (by simp; omega)).trans (hB.alloc _)
  have hB4 : Blk w2 w1.heap.size _ _ _ _ := (hb.block w1.heap.size (by simp)).trans (Blk.new w1 _ _ _ _)
  have hgw2 : w.grownBy w2 (some P) := moved_below hgw (((Below.refl _ w1).alloc (by omega) _).trans (hb.mono (by simp; omega)))
  have hMw1 : M ≤ w1.heap.size := by omega
  have hs2 := hs.below (((Below.refl M w1).alloc hMw1 _).trans (hb.mono (by simp; omega)))
  obtain ⟨b0, b1, b2, b3⟩ := hB2.c
  obtain ⟨f0, f1, f2, f3⟩ := hB2.f
  obtain ⟨d0, d1, d2, d3⟩ := hB4.c
  go_wp2_with fail
  refine bodyPost_ret (results_blk rfl _ _ w.heap.size _ _ _ _ rfl ((((hB2.s0 _).s1 _).s2 _).s3 _)) rfl ?_
  rw [hA.out]
  exact ⟨by rw [eV.out]; rfl, moved_set (moved_set (moved_set (moved_set hgw2 (Nat.le_refl _)) (Nat.le_refl _)) (Nat.le_refl _)) (Nat.le_refl _), fun _ => (((hs2.set hM _).set hM _).set hM _).set hM _⟩

theorem readValue_any {M : Nat} {w : World} {P B F D : Nat} {ao : Option Addr} {cap : Nat} {l : List UInt8} {d : Bool} {p : Nat} (h : Src M w P B F D ao cap l d p) (hT : ∀ w', w.grownBy w' (some P) → Tabs w') :
    Calls Tryd.prog 31 #[td F D] w (RVal M P B F D ao cap l d p (dec1 okV (rest l d p)) w) := by
  cases hu : dec1 yes (rest l d p) with
  | err e => exact readValue_err h e hu
  | ok u k =>
    by_cases hc : u.v.chk = 0
    · exact readValue_ok h hT u k hu hc
    · exact readValue_bad h hT u k hu hc

theorem reader_any (ao : Option Addr) (n cap : Nat) (w : World) :
    Calls Tryd.prog 30 #[.slice ao n cap] w fun e w' => e = .returned (rd (w.heap.size + 1) w.heap.size) ∧ w' = (w.alloc (.cells #[.slice ao n cap] 23)).alloc (.cells #[.int .i64 0] 3) := by
  go_enter Tryd.func30, Tryd.ntmps30
  go_wp2
  go_ret
  exact ⟨rfl, rfl⟩
theorem turned_any (P B : Nat) (y : Int) (w : World) :
    Calls Tryd.prog 32 #[rd P B, .int .u8 y] w fun e w' => e = .returned (td w.heap.size (w.heap.size + 1)) ∧ w' = (w.alloc (.cells #[rd P B] 56)).alloc (.cells #[.int .u8 y] 5) := by
  go_enter Tryd.func32, Tryd.ntmps32
  go_wp2
  go_ret
  exact ⟨rfl, rfl⟩
end Go.Proofs.YtjllecmlabodaabDoor
