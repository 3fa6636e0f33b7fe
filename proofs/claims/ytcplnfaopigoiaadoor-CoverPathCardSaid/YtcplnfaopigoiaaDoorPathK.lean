/-
  WHAT THE LAWS over paths share: modes, leaves of good slots; sameSlot.
  CONDITIONS: each theorem's own hypotheses.
-/
import Derived.Test.YtcplnfaopigoiaaDoorSlotM
import Derived.Test.YtcplnfaopigoiaaDoorPathS
import Derived.Test.YtcplnfaopigoiaaDoorGPath
import Derived.Test.YtcplnfaopigoiaaDoorCheckB
namespace Go.Proofs.YtcplnfaopigoiaaDoor
open Go.RowKit CodeMath Go.Proofs.YtcplnfaopigoiaaDoor.FrameMath
set_option linter.unusedVariables false
set_option maxRecDepth 100000

theorem modeOf_any (n : Int) (w : World) (hn : -9223372036854775808 ≤ n) (hn1 : n ≤ 9223372036854775807) :
    Calls Tryd.prog 16 #[.int .i64 n] w fun e w' => e = .returned (.int .i64 (1 + n % 2)) ∧ w = w' := by
  have cP := fun W => picked_any n 2 W (by decide) (by decide) hn hn1
  have h0 : 0 ≤ n % 2 := by omega
  have h1 : n % 2 ≤ 1 := by omega
  generalize n % 2 = k at *
  go_enter Tryd.func16, Tryd.ntmps16
  go_wp2_with fail
  refine (cP _).mono ?_
  rintro e w1 ⟨rfl, rfl⟩
  clear cP
  go_wp2_with fail
  go_ret
  exact ⟨rfl, rfl⟩
theorem modeOf_mode (n : Int) : isMode (1 + n % 2) = true := by
  unfold isMode
  exact decide_eq_true (by omega)
theorem isPow_pow : ∀ h : Nat, h ≤ 6 → isPow ((2 ^ h : Nat) : Int) = true := by
  have key : ∀ h : Fin 7, isPow ((2 ^ h.1 : Nat) : Int) = true := by decide +kernel
  intro h hh
  exact key ⟨h, by omega⟩
theorem leafR_good (m : Int) (hm : isMode m = true) (x : Sl) (hx : x.Good) : ∃ b, leafR m x.f x.s x.d = .ok b ∧ 0 < b.length := by
  refine ⟨digB m 1 [x.s, contB x.f x.d], ?_, ?_⟩
  · unfold leafR
    rw [if_neg (by rw [hm]; decide), if_neg (fun h => by have := hx.nf h.1; rw [this] at h; exact absurd h.2 (by simp)), if_neg (by have := hx.s3; have := hx.d20; omega)]
  · unfold digB
    split
    · rw [frame_length]; omega
    · rw [ShaMath.sha_length]; decide
theorem leaves_good (m : Int) (hm : isMode m = true) : ∀ (l : List Sl), (∀ x ∈ l, x.Good) → ∃ rows, leavesR m l = .ok rows
  | [], h => ⟨[], rfl⟩
  | x :: l, h => by
    obtain ⟨b, hb, _⟩ := leafR_good m hm x (h x (by simp))
    obtain ⟨rows, hr⟩ := leaves_good m hm l (fun y hy => h y (List.mem_cons_of_mem _ hy))
    exact ⟨b :: rows, by simp only [leavesR, hb, hr]; rfl⟩
theorem levels_good (m : Int) (hm : isMode m = true) (l : List Sl) (h : Nat) (h6 : h ≤ 6) (hl : l.length = 2 ^ h) (hg : ∀ x ∈ l, x.Good) : ∃ rows, leavesR m l = .ok rows ∧ levelsR m l = .ok rows ∧ rootR m h l = .ok (rootB m h rows) ∧ 0 < (rootB m h rows).length ∧ isPow l.length = true := by
  obtain ⟨rows, hr⟩ := leaves_good m hm l hg
  have hp : isPow l.length = true := by rw [hl]; exact isPow_pow h h6
  have hlv : levelsR m l = .ok rows := by
    unfold levelsR
    rw [if_neg (by rw [hm]; decide), if_neg (by rw [hp]; decide), hr]
  refine ⟨rows, hr, hlv, by unfold rootR; rw [hlv], ?_, hp⟩
  have hrl := leavesR_length m l rows hr
  match h, hl with
  | 0, hl =>
    match rows, hrl with
    | [b], _ =>
      match l, hl with
      | [x], _ =>
        obtain ⟨b', hb, hb0⟩ := leafR_good m hm x (hg x (by simp))
        simp only [leavesR, hb] at hr
        cases hr
        exact hb0
    | [], hrl => rw [hl] at hrl; cases hrl
    | a :: b :: c, hrl => rw [hl] at hrl; simp at hrl
  | h + 1, hl =>
    show 0 < (nodeB m _ _).length
    unfold nodeB digB
    split
    · rw [frame_length]; omega
    · rw [ShaMath.sha_length]; decide
theorem wayB_each (m : Int) (rows : List (List UInt8)) (p h : Nat) (h6 : h ≤ 6) (hl : rows.length = 2 ^ h) (hb : ∀ b ∈ rows, b.length ≤ 600) (hp : p < 2 ^ h) : ∀ x ∈ wayB m rows p h, x.length ≤ 100000 := by
  intro x hx
  unfold wayB at hx
  obtain ⟨t, ht, rfl⟩ := List.mem_map.1 hx
  have ht2 := List.mem_range.1 ht
  have hs := sib_lt h t p h6 ht2 hp
  refine blockB_length m rows t (sib p t) h h6 hl hb ?_
  have e : 2 ^ h = 2 ^ (h - t) * 2 ^ t := by rw [← Nat.pow_add]; congr 1; omega
  rw [e]
  exact Nat.mul_le_mul_right _ hs
instance : DecidableEq Sl := fun x y => by
  cases x; cases y
  simp only [Sl.mk.injEq]
  exact inferInstance
set_option maxHeartbeats 1000000 in
theorem sameSlot_any (x y : Sl) (u1 u2 v1 v2 : Value) (w : World) (h1 : RowV w u1 x.s) (h2 : RowV w u2 x.d) (h3 : RowV w v1 y.s) (h4 : RowV w v2 y.d) :
    Calls Tryd.prog 20 #[.agg #[.bool x.f, u1, u2], .agg #[.bool y.f, v1, v2]] w fun e w' => e = .returned (.bool (decide (x = y))) ∧ Below w.heap.size w w' := by
  obtain ⟨xf, xs, xd⟩ := x
  obtain ⟨yf, ys, yd⟩ := y
  simp only at h1 h2 h3 h4 ⊢
  obtain ⟨a1, k1, rfl, -, -, -, b1⟩ := h1
  obtain ⟨a2, k2, rfl, -, -, -, b2⟩ := h2
  obtain ⟨a3, k3, rfl, -, -, -, b3⟩ := h3
  obtain ⟨a4, k4, rfl, -, -, -, b4⟩ := h4
  have hba := fun o o' => ((Below.refl w.heap.size w).alloc (Nat.le_refl _) o).alloc (by simp) o'
  have q1 := fun o o' => bytes_string (cap := k1) (b1.keep (hba o o'))
  have q2 := fun o o' => bytes_string (cap := k2) (b2.keep (hba o o'))
  have q3 := fun o o' => bytes_string (cap := k3) (b3.keep (hba o o'))
  have q4 := fun o o' => bytes_string (cap := k4) (b4.keep (hba o o'))
  have hd : decide ((⟨xf, xs, xd⟩ : Sl) = ⟨yf, ys, yd⟩) = (xf == yf && xs == ys && xd == yd) := by
    by_cases e1 : xf = yf <;> by_cases e2 : xs = ys <;> by_cases e3 : xd = yd <;> simp [e1, e2, e3]
  rw [hd]
  clear hd b1 b2 b3 b4
  have e1 : (xf == yf) = true ∨ (xf == yf) = false := by cases (xf == yf) <;> simp
  have e2 : (xs == ys) = true ∨ (xs == ys) = false := by cases (xs == ys) <;> simp
  generalize hA : (xs == ys) = A at *
  generalize hB : (xd == yd) = B at *
  generalize hC : (xf == yf) = C at *
  generalize xs.length = l1 at *
  generalize xd.length = l2 at *
  generalize ys.length = l3 at *
  generalize yd.length = l4 at *
  cases C <;> cases A
  all_goals
    go_enter Tryd.func20, Tryd.ntmps20
    go_wp2_with fail
    go_ret
    exact ⟨rfl, hba _ _⟩
end Go.Proofs.YtcplnfaopigoiaaDoor
