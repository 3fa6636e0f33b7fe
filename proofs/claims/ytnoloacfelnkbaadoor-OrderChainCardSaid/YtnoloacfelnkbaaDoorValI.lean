/-
  CONTRACTS of package value's Equal and Less and of the reference's Held.
  CONDITIONS: each theorem's own hypotheses.
-/
import Derived.Test.YtnoloacfelnkbaaDoorValH
namespace Go.Proofs.YtnoloacfelnkbaaDoor
open Go.RowKit
set_option linter.unusedVariables false

theorem equal_any (v u : V) (w : World) (hv : v.Fits) (hu : u.Fits) (hT : Tabs w) :
    Calls Tryd.prog 15 #[.agg #[.int .i64 v.k, .int .i64 v.i, .int .u64 v.b, .string v.s], .agg #[.int .i64 u.k, .int .i64 u.i, .int .u64 u.b, .string u.s]] w fun e w' => e = .returned (.tuple #[.int .i64 (askT v u (ordV v u == 0)), .int .i64 (askE v u)]) ∧ Below w.heap.size w w' := by
  have hT2 : ∀ o1 o2, Tabs ((w.alloc o1).alloc o2) := fun o1 o2 => tabs_below hT (((Below.refl _ _).alloc (Nat.le_refl _) _).alloc (by simp) _)
  have cA := fun w => ask_any v u 31 (fun n => n == 0) same_fn (fun n w => by go_simp) w hv hu
  clear hv hu hT
  go_enter Tryd.func15, Tryd.ntmps15
  go_wp2_with fail
  refine (cA _ (hT2 _ _)).mono ?_
  rintro e w1 ⟨rfl, hb⟩
  clear cA hT2
  go_wp2_with fail
  go_ret2
  exact ⟨rfl, two_below hb⟩

theorem less_any (v u : V) (w : World) (hv : v.Fits) (hu : u.Fits) (hT : Tabs w) :
    Calls Tryd.prog 17 #[.agg #[.int .i64 v.k, .int .i64 v.i, .int .u64 v.b, .string v.s], .agg #[.int .i64 u.k, .int .i64 u.i, .int .u64 u.b, .string u.s]] w fun e w' => e = .returned (.tuple #[.int .i64 (askT v u (decide (ordV v u < 0))), .int .i64 (askE v u)]) ∧ Below w.heap.size w w' := by
  have hT2 : ∀ o1 o2, Tabs ((w.alloc o1).alloc o2) := fun o1 o2 => tabs_below hT (((Below.refl _ _).alloc (Nat.le_refl _) _).alloc (by simp) _)
  have cA := fun w => ask_any v u 32 (fun n => decide (n < 0)) less_fn (fun n w => by go_simp) w hv hu
  clear hv hu hT
  go_enter Tryd.func17, Tryd.ntmps17
  go_wp2_with fail
  refine (cA _ (hT2 _ _)).mono ?_
  rintro e w1 ⟨rfl, hb⟩
  clear cA hT2
  go_wp2_with fail
  go_ret2
  exact ⟨rfl, two_below hb⟩

set_option maxHeartbeats 2000000 in
theorem held_any (v u : V) (a : Int) (w : World) (hv : v.Fits) (hu : u.Fits) (hT : Tabs w) :
    Calls Tryd.prog 16 #[.agg #[.int .i64 v.k, .int .i64 v.i, .int .u64 v.b, .string v.s], .agg #[.int .i64 u.k, .int .i64 u.i, .int .u64 u.b, .string u.s], .int .i64 a] w fun e w' => e = .returned (.tuple #[.int .i64 (askT v u (ordV v u == a)), .int .i64 (askE v u)]) ∧ Below w.heap.size w w' := by
  have hff : firstFault [v, u] = chk2 v u := by
    unfold firstFault chk2 firstFault firstFault
    by_cases c : v.chk = 0
    · rw [if_pos c, if_pos c]; split <;> omega
    · rw [if_neg c, if_neg c]
  have three : ∀ o1 o2 o3, Below w.heap.size w (((w.alloc o1).alloc o2).alloc o3) := fun o1 o2 o3 => (((Below.refl _ _).alloc (Nat.le_refl _) _).alloc (by simp) _).alloc (by simp; omega) _
  have cF := fun o1 o2 => faults_any [v, u] (w.heap.size + 1 + 1) 0 2 (((w.alloc o1).alloc o2).alloc (.cells #[.int .i64 v.k, .int .i64 v.i, .int .u64 v.b, .string v.s, .int .i64 u.k, .int .i64 u.i, .int .u64 u.b, .string u.s] 24))
    (fun x hx => by simp at hx; rcases hx with rfl | rfl <;> assumption) (by simp) (by simp)
    (fun j x hx => by
      match j, hx with
      | 0, hx => simp at hx; subst hx; refine ⟨?_, ?_, ?_, ?_⟩ <;> go_simp
      | 1, hx => simp at hx; subst hx; refine ⟨?_, ?_, ?_, ?_⟩ <;> go_simp
      | j + 2, hx => simp at hx) (tabs_below hT (three o1 o2 _))
  rw [hff] at cF
  have cO := fun w (h : chk2 v u = 0) => refOrder_v v u w hv hu (good2 v u hv hu h).1 (good2 v u hv hu h).2
  unfold askT askE
  generalize chk2 v u = C at cF cO ⊢
  have T3 := Lib.hid three
  clear hv hu hT hff three
  cases hz : (C == 0)
  · have hz' : ¬ C = 0 := by simpa using hz
    rw [if_neg hz', if_neg hz']
    clear cO hz'
    go_enter Tryd.func16, Tryd.ntmps16
    go_wp2_with fail
    refine (cF _ _).mono ?_
    rintro e w1 ⟨rfl, hb⟩
    clear cF
    go_wp2_with fail
    go_ret2
    exact ⟨rfl, (T3.out _ _ _).trans (hb.mono (by simp; omega))⟩
  · have he : C = 0 := by simpa using hz
    rw [if_pos he, if_pos he]
    have cO' := fun w => cO w he
    clear cO hz
    subst he
    by_cases n1 : v.k = 0
    · rw [if_pos (Or.inl n1), if_pos (Or.inl n1)]
      have n1' : (v.k == 0) = true := by simpa using n1
      clear n1 cO'
      go_enter Tryd.func16, Tryd.ntmps16
      go_wp2_with fail
      refine (cF _ _).mono ?_
      rintro e w1 ⟨rfl, hb⟩
      obtain ⟨hc, hf⟩ := bcell hb
      clear cF
      go_wp2_with fail
      go_ret2
      exact ⟨rfl, (T3.out _ _ _).trans (hb.mono (by simp; omega))⟩
    · have n1' : (v.k == 0) = false := by simpa using n1
      by_cases n2 : u.k = 0
      · rw [if_pos (Or.inr n2), if_pos (Or.inr n2)]
        have n2' : (u.k == 0) = true := by simpa using n2
        clear n1 n2 cO'
        go_enter Tryd.func16, Tryd.ntmps16
        go_wp2_with fail
        refine (cF _ _).mono ?_
        rintro e w1 ⟨rfl, hb⟩
        obtain ⟨hc, hf⟩ := bcell hb
        clear cF
        go_wp2_with fail
        go_ret2
        exact ⟨rfl, (T3.out _ _ _).trans (hb.mono (by simp; omega))⟩
      · have nn : ¬ (v.k = 0 ∨ u.k = 0) := by omega
        rw [if_neg nn, if_neg nn]
        clear nn
        have n2' : (u.k == 0) = false := by simpa using n2
        by_cases n3 : v.k = u.k
        · rw [if_pos n3, if_pos n3]
          have n3' : (v.k == u.k) = true := by simpa using n3
          have n3'' : (v.k != u.k) = false := by simp [bne, n3']
          generalize ordV v u = O at cO' ⊢
          clear n1 n2 n3
          cases ho : (O == a)
          all_goals
            go_enter Tryd.func16, Tryd.ntmps16
            go_wp2_with fail
            refine (cF _ _).mono ?_
            rintro e w1 ⟨rfl, hb⟩
            obtain ⟨hc, hf⟩ := bcell hb
            clear cF
            go_wp2_with fail
            refine (cO' _).mono ?_
            rintro e w2 ⟨rfl, hb2⟩
            clear cO' hc hf
            go_wp2_with fail
            go_ret2
            exact ⟨rfl, ((T3.out _ _ _).trans (hb.mono (by simp; omega))).trans (hb2.mono (by have := hb.size; simp at this; omega))⟩
        · rw [if_neg n3, if_neg n3]
          have n3' : (v.k == u.k) = false := by simpa using n3
          have n3'' : (v.k != u.k) = true := by simp [bne, n3']
          clear n1 n2 n3 cO'
          go_enter Tryd.func16, Tryd.ntmps16
          go_wp2_with fail
          refine (cF _ _).mono ?_
          rintro e w1 ⟨rfl, hb⟩
          obtain ⟨hc, hf⟩ := bcell hb
          clear cF
          go_wp2_with fail
          go_ret2
          exact ⟨rfl, (T3.out _ _ _).trans (hb.mono (by simp; omega))⟩
end Go.Proofs.YtnoloacfelnkbaaDoor
