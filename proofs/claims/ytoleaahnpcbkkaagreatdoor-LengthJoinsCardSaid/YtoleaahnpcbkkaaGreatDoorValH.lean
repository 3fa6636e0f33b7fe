/-
  CONTRACTS of package value's Equal and Less (through ask and its two function values) and of the reference's Held.
  CONDITIONS: each theorem's own hypotheses.
-/
import Derived.Test.YtoleaahnpcbkkaaGreatDoorValG
namespace Go.Proofs.YtoleaahnpcbkkaaGreatDoor
open Go.RowKit
set_option linter.unusedVariables false

theorem cmp3_range (x y : Int) : cmp3 x y = -1 ∨ cmp3 x y = 0 ∨ cmp3 x y = 1 := by unfold cmp3; split <;> (try split) <;> omega
theorem cmpB_range : ∀ a b : List UInt8, Lib.compareBytes a b = -1 ∨ Lib.compareBytes a b = 0 ∨ Lib.compareBytes a b = 1
  | [], [] => by simp [Lib.compareBytes]
  | [], _ :: _ => by simp [Lib.compareBytes]
  | _ :: _, [] => by simp [Lib.compareBytes]
  | a :: l, b :: m => by
    have := cmpB_range l m
    unfold Lib.compareBytes
    split
    · omega
    · split
      · omega
      · exact this
theorem ordV_range (v u : V) : ordV v u = -1 ∨ ordV v u = 0 ∨ ordV v u = 1 := by
  unfold ordV ord
  split
  · exact cmp3_range _ _
  · split
    · exact cmp3_range _ _
    · split
      · exact cmpB_range _ _
      · split
        · exact cmp3_range _ _
        · omega

/-- What is answered of the order of two values: its truth, and what is wrong. -/
def askT (v u : V) (p : Bool) : Int := if chk2 v u = 0 then (if v.k = 0 ∨ u.k = 0 then 1 else if v.k = u.k then (if p then 2 else 0) else 0) else 0
def askE (v u : V) : Int := if chk2 v u = 0 then (if v.k = 0 ∨ u.k = 0 then 0 else if v.k = u.k then 0 else 2) else chk2 v u

/-- The two function values. -/
theorem same_fn (n : Int) (w : World) : Calls Tryz.prog 174 #[.int .i64 n] w fun e w' => e = .returned (.bool (n == 0)) ∧ w = w' := by
  go_enter Tryz.func174, Tryz.ntmps174
  go_wp2
  go_ret
  exact ⟨rfl, rfl⟩
theorem less_fn (n : Int) (w : World) : Calls Tryz.prog 189 #[.int .i64 n] w fun e w' => e = .returned (.bool (decide (n < 0))) ∧ w = w' := by
  go_enter Tryz.func189, Tryz.ntmps189
  go_wp2
  go_ret
  exact ⟨rfl, rfl⟩

set_option maxHeartbeats 2000000 in
theorem ask_any (v u : V) (F : Nat) (p : Int → Bool) (hF : ∀ (n : Int) (w : World), Calls Tryz.prog F #[.int .i64 n] w fun e w' => e = .returned (.bool (p n)) ∧ w = w')
    (hcall : ∀ (n : Int) (w : World), (callFunc F #[.int .i64 n]).run Tryz.prog w = .ok (.enter F #[.int .i64 n]) w)
    (w : World) (hv : v.Fits) (hu : u.Fits) (hT : Tabs w) :
    Calls Tryz.prog 173 #[.agg #[.int .i64 v.k, .int .i64 v.i, .int .u64 v.b, .string v.s], .agg #[.int .i64 u.k, .int .i64 u.i, .int .u64 u.b, .string u.s], .func (.func F) #[] #[]] w fun e w' => e = .returned (.tuple #[.int .i64 (askT v u (p (ordV v u))), .int .i64 (askE v u)]) ∧ Below w.heap.size w w' := by
  have cB := fun w => checkBoth_any v u w hv hu
  have cO := fun w (h : chk2 v u = 0) => order_v v u w (good2 v u hv hu h).1 (good2 v u hv hu h).2
  have hT2 : ∀ o1 o2, Tabs ((w.alloc o1).alloc o2) := fun o1 o2 => tabs_below hT (((Below.refl _ _).alloc (Nat.le_refl _) _).alloc (by simp) _)
  unfold askT askE
  generalize chk2 v u = C at cB cO ⊢
  clear hv hu hT
  cases hz : (C == 0)
  · have hz' : ¬ C = 0 := by simpa using hz
    rw [if_neg hz', if_neg hz']
    clear cO hz' hF hcall
    go_enter Tryz.func173, Tryz.ntmps173
    go_wp2_with fail
    refine (cB _ (hT2 _ _)).mono ?_
    rintro e w1 ⟨rfl, hb⟩
    clear cB hT2
    go_wp2_with fail
    go_ret2
    exact ⟨rfl, two_below hb⟩
  · have he : C = 0 := by simpa using hz
    rw [if_pos he, if_pos he]
    have cO' := fun w => cO w he
    clear cO hz
    subst he
    by_cases n1 : v.k = 0
    · rw [if_pos (Or.inl n1), if_pos (Or.inl n1)]
      clear cO' hF hcall
      have n1' : (v.k == 0) = true := by simpa using n1
      clear n1
      go_enter Tryz.func173, Tryz.ntmps173
      go_wp2_with fail
      refine (cB _ (hT2 _ _)).mono ?_
      rintro e w1 ⟨rfl, hb⟩
      obtain ⟨hc, hf⟩ := bcell hb
      clear cB hT2
      go_wp2_with fail
      go_ret2
      exact ⟨rfl, two_below hb⟩
    · have n1' : (v.k == 0) = false := by simpa using n1
      by_cases n2 : u.k = 0
      · rw [if_pos (Or.inr n2), if_pos (Or.inr n2)]
        have n2' : (u.k == 0) = true := by simpa using n2
        clear cO' hF hcall n1 n2
        go_enter Tryz.func173, Tryz.ntmps173
        go_wp2_with fail
        refine (cB _ (hT2 _ _)).mono ?_
        rintro e w1 ⟨rfl, hb⟩
        obtain ⟨hc, hf⟩ := bcell hb
        clear cB hT2
        go_wp2_with fail
        go_ret2
        exact ⟨rfl, two_below hb⟩
      · have nn : ¬ (v.k = 0 ∨ u.k = 0) := by omega
        rw [if_neg nn, if_neg nn]
        clear nn
        have n2' : (u.k == 0) = false := by simpa using n2
        by_cases n3 : v.k = u.k
        · rw [if_pos n3, if_pos n3]
          have n3' : (v.k == u.k) = true := by simpa using n3
          have n3'' : (v.k != u.k) = false := by simp [bne, n3']
          have hP := fun w => hF (ordV v u) w
          have hcal := fun w => hcall (ordV v u) w
          generalize ordV v u = O at cO' hP hcal ⊢
          generalize p O = B at hP ⊢
          clear n1 n2 n3 hF hcall
          go_enter Tryz.func173, Tryz.ntmps173
          go_wp2_with fail
          refine (cB _ (hT2 _ _)).mono ?_
          rintro e w1 ⟨rfl, hb⟩
          obtain ⟨hc, hf⟩ := bcell hb
          clear cB hT2
          go_wp2_with fail
          refine (cO' _).mono ?_
          rintro e w2 ⟨rfl, hb2⟩
          clear cO' hc hf
          go_wp2_with fail
          refine (hP _).mono ?_
          rintro e w3 ⟨rfl, rfl⟩
          clear hP hcal
          cases B
          · go_wp2_with fail
            go_ret2
            exact ⟨rfl, (two_below hb).trans (hb2.mono (by have := hb.size; simp at this; omega))⟩
          · go_wp2_with fail
            go_ret2
            exact ⟨rfl, (two_below hb).trans (hb2.mono (by have := hb.size; simp at this; omega))⟩
        · rw [if_neg n3, if_neg n3]
          have n3' : (v.k == u.k) = false := by simpa using n3
          have n3'' : (v.k != u.k) = true := by simp [bne, n3']
          clear cO' hF hcall n1 n2 n3
          go_enter Tryz.func173, Tryz.ntmps173
          go_wp2_with fail
          refine (cB _ (hT2 _ _)).mono ?_
          rintro e w1 ⟨rfl, hb⟩
          obtain ⟨hc, hf⟩ := bcell hb
          clear cB hT2
          go_wp2_with fail
          go_ret2
          exact ⟨rfl, two_below hb⟩
end Go.Proofs.YtoleaahnpcbkkaaGreatDoor
