/-
  CONTRACTS of package roll: Root, Include; of the digester: told, inclusion.
  CONDITIONS: package sum's roundWords hold what their initialiser lays ('KW').
-/
import Derived.Test.YtcplnfaopigoiaaDoorRollB
import Derived.Test.YtcplnfaopigoiaaDoorGPath
namespace Go.Proofs.YtcplnfaopigoiaaDoor
open Go.RowKit CodeMath Go.Proofs.YtcplnfaopigoiaaDoor.FrameMath
set_option linter.unusedVariables false
set_option maxRecDepth 100000

/-- What Root tells. -/
def topR (m : Int) (l : List (List UInt8)) : List UInt8 × Int := if refR m l.length ≠ 0 then ([], refR m l.length) else stD 0 (rollR m l)
def TopPost (x : List UInt8 × Int) (w : World) (e : Ending) (w' : World) : Prop := ∃ v, e = .returned (.tuple #[v, .int .i64 x.2]) ∧ RowT w' v x.1 ∧ Below w.heap.size w w'
theorem DigW.new (w : World) (m : Int) : DigW (w.alloc (.cells #[.int .i64 m, .int .i64 0] 84)) w.heap.size m 0 := Blk.new w #[.int .i64 m, .int .i64 0] _
theorem below_new {w w' : World} {o : Obj} (h : (w.alloc o).grownBy w' (some w.heap.size)) : Below w.heap.size w w' :=
  ((Below.refl w.heap.size w).alloc (Nat.le_refl _) o).grown h (by simp) (fun k hk => by cases hk; exact Nat.le_refl _)
theorem refR_zero {m n : Int} (h : refR m n = 0) : isMode m = true ∧ 0 ≤ n ∧ n ≤ 64 := by
  unfold refR at h
  cases hm : isMode m with
  | false => rw [if_pos hm] at h; cases h
  | true =>
    rw [if_neg (by rw [hm]; decide)] at h
    split at h
    · cases h
    · exact ⟨rfl, by omega⟩
set_option maxHeartbeats 2000000 in
theorem rollTop_any (m : Int) (l : List (List UInt8)) (ap : Option Addr) (cap : Nat) (w : World) (m0 : -9223372036854775808 ≤ m) (m1 : m ≤ 9223372036854775807) (hc : l.length ≤ cap) (hq : cap ≤ 9223372036854775807) (hB : ∀ x ∈ l, x.length ≤ 140737488351232) (hl : Lines w ap l) (hT : KW w) :
    Calls Tryd.prog 27 #[.int .i64 m, .slice ap l.length cap] w (TopPost (topR m l) w) := by
  have cR := fun W => refuse_any m (l.length : Int) W m0 m1 (by omega) (by omega)
  have hBB := Below.refl w.heap.size w
  unfold topR
  obtain ⟨r, hr⟩ : ∃ r, refR m l.length = r := ⟨_, rfl⟩
  rw [hr] at cR ⊢
  by_cases h0 : r = 0
  · subst h0
    rw [if_neg (by decide)]
    obtain ⟨hm, _, h64⟩ := refR_zero hr
    have cD := fun W hl hT hD => rootD_any w.heap.size m m0 m1 l.length l ap cap 0 W (Nat.le_refl _) (by omega) hc hq hB hl hT hD
    generalize stD 0 (rollR m l) = X at *
    have hba : ∀ o, Below w.heap.size w (w.alloc o) := fun o => (Below.refl _ _).alloc (Nat.le_refl _) o
    have hnew := DigW.new w m
    generalize l.length = n at *
    clear hr hB hc
    go_enter Tryd.func27, Tryd.ntmps27
    go_wp2_with fail
    refine (cR _).mono ?_
    rintro ex w1 ⟨rfl, rfl⟩
    clear cR
    go_wp2_with fail
    refine (cD _ (hl.keep (hba _)) (hT.keep (hba _) (Nat.le_refl _)) hnew).mono ?_
    rintro ex w2 ⟨v, rfl, hr2, hD2, hg2⟩
    have hb2 := below_new hg2
    have HC : ∀ W, Below w2.heap.size w2 W → W.cell? ⟨w.heap.size, 1, none⟩ = some (.int .i64 X.2) := fun W hW => Blk.cell (hD2.keep hW) rfl
    obtain ⟨a2, n2, k2, rfl⟩ : ∃ a n k, v = .slice a n k := by obtain ⟨a, k, e, _⟩ := hr2; exact ⟨_, _, _, e⟩
    clear cD hD2 hg2 hl hT hba hnew
    generalize w.heap.size = g at HC
    go_upto_region 6 with fail
    refine wp_region_det 5 (by kernel_rfl) (by kernel_rfl) (by kernel_rfl) ?_
    simp only [List.take_succ_cons, List.take_zero, List.drop_succ_cons, List.drop_zero]
    iterate 5 (apply wpDet_plain _ rfl; (focus (intro W hW; have q := HC W hW; go_simp; exact ⟨rfl, Below.refl _ _⟩)); simp only [Act.put, List.setIfInBounds_toArray, List.set_cons_zero, List.set_cons_succ])
    refine wpDet_nil ?_
    intro W hW
    have hrW := hr2.keep hW
    have hbW := below_step hb2 hb2.size hW
    clear HC hr2 hb2
    go_wp2_with fail
    go_ret2
    exact ⟨_, rfl, hrW, hbW⟩
  · rw [if_pos h0]
    clear hr hB hl hT hc
    generalize l.length = n at *
    go_enter Tryd.func27, Tryd.ntmps27
    go_wp2_with fail
    refine (cR _).mono ?_
    rintro ex w1 ⟨rfl, rfl⟩
    clear cR
    go_wp2_with fail
    go_ret2
    exact ⟨_, rfl, rowT_nil _, hBB⟩
theorem OwnL.moved {w w1 : World} {base g : Nat} {m e : Int} {v : Value} {l : List (List UInt8)} (h : OwnL w base v l) (hD : DigW w g m e) (hg : w.grownBy w1 (some g)) : OwnL w1 base v l := by
  obtain ⟨us, h1, h2⟩ := h
  refine ⟨us, World.ownsRow.kept (row := some g) h1 hg ?_, fun i l hi => ?_⟩
  · cases hv : v.ownBlock with
    | none => exact .inl rfl
    | some k =>
      refine .inr fun he => ?_
      obtain ⟨cur, fz, hk⟩ := ownsRow_typed h1 k hv
      simp only [Option.some.injEq] at he
      subst he
      have : w.heap[k]? = some (.cells _ 84 (0, 0)) := hD
      rw [hk] at this
      injection this with this
      injection this with _ h2 _
      exact absurd h2 (by decide)
  · obtain ⟨u, k1, k2⟩ := h2 i l hi
    exact ⟨u, k1, k2.moved hD hg⟩
def IncPost (g base : Nat) (m e : Int) (B : Nat) (T : List (List UInt8)) (w : World) (ex : Ending) (w' : World) : Prop := ∃ v rows, ex = .returned v ∧ OwnL w' base v rows ∧ rows.length + 1 ≤ B ∧ (e = 0 → rows = T) ∧ DigW w' g m e ∧ w.grownBy w' (some g)
/-- The root of a part of a list that has one. -/
theorem st_part {m e : Int} {l : List (List UInt8)} (h : e ≠ 0 ∨ ∃ z, rollR m l = .ok z) : ∃ b, stD e (rollR m l) = (b, e) ∧ (e = 0 → b = rootL m l) := by
  by_cases he : e = 0
  · subst he
    rcases h with h | ⟨z, hz⟩
    · exact absurd rfl h
    · exact ⟨z, by rw [hz]; rfl, fun _ => (rootL_ok hz).symm⟩
  · exact ⟨[], stD_bad he _, fun h => absurd h he⟩
theorem parts_ok {m e : Int} {l : List (List UInt8)} (h2 : 2 ≤ l.length) (h : e ≠ 0 ∨ ∃ z, rollR m l = .ok z) : (e ≠ 0 ∨ ∃ z, rollR m (l.take (hf l.length)) = .ok z) ∧ (e ≠ 0 ∨ ∃ z, rollR m (l.drop (hf l.length)) = .ok z) := by
  rcases h with h | ⟨z, hz⟩
  · exact ⟨.inl h, .inl h⟩
  · rw [rollR_two m l h2] at hz
    obtain ⟨x, y, hx, hy, _⟩ := pairR_ok hz
    exact ⟨.inr ⟨x, hx⟩, .inr ⟨y, hy⟩⟩
theorem hf_fuel {n h : Nat} (h2 : 2 ≤ n) (hn : n ≤ 2 ^ (h + 1)) : hf n ≤ 2 ^ h := by
  obtain ⟨b, hb, h3, h4⟩ := hf_of h2
  rw [hb]
  refine Nat.pow_le_pow_right (by decide) ?_
  rcases Nat.lt_or_ge h b with h5 | h5
  · exfalso
    have : 2 ^ (h + 1) ≤ 2 ^ b := Nat.pow_le_pow_right (by decide) h5
    omega
  · exact h5
theorem rootL_len {m : Int} {l : List (List UInt8)} : (stD 0 (rollR m l)).1.length ≤ 16777300 := by
  unfold stD
  rw [if_neg (by decide)]
  cases h : rollR m l with
  | err c => simp
  | ok b => exact rollR_len m _ l b (Nat.le_refl _) h
end Go.Proofs.YtcplnfaopigoiaaDoor
