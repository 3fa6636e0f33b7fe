/-
  CONTRACTS of package roll's Include, Extend.
  CONDITIONS: package sum's roundWords hold what their initialiser lays ('KW').
-/
import Derived.Test.YtdpfjhhcgaeiiaaDoorRollH
namespace Go.Proofs.YtdpfjhhcgaeiiaaDoor
open Go.RowKit CodeMath Go.Proofs.YtdpfjhhcgaeiiaaDoor.FrameMath
set_option linter.unusedVariables false
set_option maxRecDepth 100000

theorem rootL_small (m : Int) (l : List (List UInt8)) : (rootL m l).length ≤ 16777300 := by
  unfold rootL
  cases h : rollR m l with
  | err c => simp
  | ok x => exact rollR_len m _ l x (Nat.le_refl _) h
theorem incP_small (m : Int) : ∀ (h : Nat) (l : List (List UInt8)) (i : Nat), ∀ y ∈ incP m h l i, y.length ≤ 16777300
  | 0, l, i, y, hy => by cases hy
  | h + 1, l, i, y, hy => by
    simp only [incP] at hy
    split at hy
    · cases hy
    · split at hy
      · rcases List.mem_append.1 hy with hy | hy
        · exact incP_small m h _ _ y hy
        · simp at hy; subst hy; exact rootL_small m _
      · rcases List.mem_append.1 hy with hy | hy
        · exact incP_small m h _ _ y hy
        · simp at hy; subst hy; exact rootL_small m _
theorem extP_small (m : Int) : ∀ (h : Nat) (l : List (List UInt8)) (k : Nat) (had : Bool), ∀ y ∈ extP m h l k had, y.length ≤ 16777300
  | 0, l, k, had, y, hy => by
    simp only [extP] at hy
    split at hy
    · cases hy
    · simp at hy; subst hy; exact rootL_small m _
  | h + 1, l, k, had, y, hy => by
    simp only [extP] at hy
    split at hy
    · split at hy
      · cases hy
      · simp at hy; subst hy; exact rootL_small m _
    · split at hy
      · rcases List.mem_append.1 hy with hy | hy
        · exact extP_small m h _ _ _ y hy
        · simp at hy; subst hy; exact rootL_small m _
      · rcases List.mem_append.1 hy with hy | hy
        · exact extP_small m h _ _ _ y hy
        · simp at hy; subst hy; exact rootL_small m _
/-- A list of digests and an error. -/
def LinesQ (R : LR) (w : World) (e : Ending) (w' : World) : Prop := match R with
  | .err c => e = .returned (.tuple #[.slice none 0 0, .int .i64 c]) ∧ Below w.heap.size w w'
  | .ok rows => ∃ ap cp, e = .returned (.tuple #[.slice ap rows.length cp, .int .i64 0]) ∧ rows.length ≤ cp ∧ cp ≤ 9223372036854775807 ∧ Lines w' ap rows ∧ Below w.heap.size w w'
theorem LinesQ.post {R : LR} {w : World} {e : Ending} {w' : World} (h : LinesQ R w e w') : LinesPost R w e w' := by
  cases R with
  | err c => exact h
  | ok rows => obtain ⟨ap, cp, h1, _, _, h2, h3⟩ := h; exact ⟨ap, cp, h1, h2, h3⟩
def incTop (m : Int) (l : List (List UInt8)) (i : Int) : LR := if refR m l.length ≠ 0 then .err (refR m l.length) else if ¬ (0 ≤ i ∧ i < l.length) then .err 6 else match rollR m l with
  | .err c => .err c
  | .ok _ => .ok (incP m 6 l i.toNat)
def extTop (m : Int) (l : List (List UInt8)) (k : Int) : LR := if refR m l.length ≠ 0 then .err (refR m l.length) else if k < 0 ∨ l.length < k then .err 6 else match rollR m l with
  | .err c => .err c
  | .ok _ => .ok (if k = 0 then [] else extP m 6 l k.toNat true)
set_option maxHeartbeats 4000000 in
theorem Include_any (m : Int) (l : List (List UInt8)) (ap : Option Addr) (cap : Nat) (i : Int) (w : World) (m0 : -9223372036854775808 ≤ m) (m1 : m ≤ 9223372036854775807) (hc : l.length ≤ cap) (hq : cap ≤ 9223372036854775807) (i0 : -9223372036854775808 ≤ i) (i1 : i ≤ 9223372036854775807) (hB : ∀ x ∈ l, x.length ≤ 140737488351232) (hl : Lines w ap l) (hT : KW w) :
    Calls Tryd.prog 28 #[.int .i64 m, .slice ap l.length cap, .int .i64 i] w (LinesQ (incTop m l i) w) := by
  have cR := fun W => refuse_any m (l.length : Int) W m0 m1 (by omega) (by omega)
  have cQ := fun W => isPlace_any i (l.length : Int) _ rfl W i0 i1
  have hBB := Below.refl w.heap.size w
  obtain ⟨FIN, hF⟩ : ∃ r, incTop m l i = r := ⟨_, rfl⟩
  rw [hF]
  unfold incTop at hF
  obtain ⟨r, hr⟩ : ∃ r, refR m l.length = r := ⟨_, rfl⟩
  rw [hr] at cR hF
  by_cases h0 : r = 0
  · subst h0
    rw [if_neg (by decide)] at hF
    obtain ⟨hm, hn0, hn64⟩ := refR_zero hr
    by_cases hi : 0 ≤ i ∧ i < l.length
    · rw [if_neg (by simpa using hi)] at hF
      rw [decide_eq_true hi] at cQ
      obtain ⟨p, rfl⟩ : ∃ p : Nat, i = p := ⟨i.toNat, by omega⟩
      rw [Int.toNat_natCast] at hF
      have hba : ∀ o, Below w.heap.size w (w.alloc o) := fun o => (Below.refl _ _).alloc (Nat.le_refl _) o
      have hnew := DigW.new w m
      have cT := fun W hl hT hD => rootD_any w.heap.size m m0 m1 _ l ap cap 0 W (Nat.le_refl _) (by omega) hc hq hB hl hT hD
      have hne := fun c h => rollR_ne m _ l c (Nat.le_refl _) h
      have cI := fun e W hz hl hT hD => inclusion_any w.heap.size m e m0 m1 6 l p ap cap W (by omega) (by omega) (by omega) hc hq hB hz hl hT hD
      cases hR : rollR m l with
      | err c =>
        rw [hR] at hF cT hne
        simp only at hF
        subst hF
        rw [stD_err] at cT
        have c0 := hne c rfl
        have cI' := fun W => cI c W (.inl c0)
        generalize incP m 6 l p = T at *
        generalize l.length = n at *
        clear hr hB hc hq hn0 hn64 hm hi hne hR cI
        go_enter Tryd.func28, Tryd.ntmps28
        go_wp2_with fail
        refine (cR _).mono ?_
        rintro ex w1 ⟨rfl, rfl⟩
        clear cR
        go_wp2_with fail
        refine (cQ _).mono ?_
        rintro ex w1 ⟨rfl, rfl⟩
        clear cQ
        go_wp2_with fail
        refine (cT _ (hl.keep (hba _)) (hT.keep (hba _) (Nat.le_refl _)) hnew).mono ?_
        rintro ex w2 ⟨v2, rfl, hr2, hD2, hg2⟩
        have hb2 := below_new hg2
        have hl2 := hl.keep hb2
        have hT2 := hT.keep hb2 (Nat.le_refl _)
        clear cT hl hT hba hnew hr2
        go_wp2_with fail
        refine (cI' _ hl2 hT2 hD2).mono ?_
        rintro ex w3 ⟨v3, rows, rfl, ho3, hrl, hr0, hD3, hg3⟩
        have hb3 := below_new (grown_trans hg2 hg3)
        have cB := told_bad w.heap.size m c c0 v3 w3 hD3
        obtain ⟨ao2, ca2, rfl, _⟩ := ho3.lines
        generalize rows.length = rn at *
        clear cI' hl2 hT2 hD2 hg2 hg3 ho3 hr0 hb2 hrl
        go_wp2_with fail
        refine cB.mono ?_
        rintro ex w4 ⟨rfl, hb4⟩
        have hb5 := below_step hb3 hb3.size hb4
        clear cB
        go_wp2_with fail
        go_ret2
        exact ⟨rfl, hb5⟩
      | ok z =>
        rw [hR] at hF cT
        simp only at hF
        subst hF
        rw [stD_ok] at cT
        have cI' := fun W => cI 0 W (.inr ⟨z, hR⟩)
        generalize incP m 6 l p = T at *
        have HN64 := Lib.hid hn64
        generalize l.length = n at *
        clear hr hB hc hq hn0 hn64 hm hi hne hR cI
        go_enter Tryd.func28, Tryd.ntmps28
        go_wp2_with fail
        refine (cR _).mono ?_
        rintro ex w1 ⟨rfl, rfl⟩
        clear cR
        go_wp2_with fail
        refine (cQ _).mono ?_
        rintro ex w1 ⟨rfl, rfl⟩
        clear cQ
        go_wp2_with fail
        refine (cT _ (hl.keep (hba _)) (hT.keep (hba _) (Nat.le_refl _)) hnew).mono ?_
        rintro ex w2 ⟨v2, rfl, hr2, hD2, hg2⟩
        have hb2 := below_new hg2
        have hl2 := hl.keep hb2
        have hT2 := hT.keep hb2 (Nat.le_refl _)
        clear cT hl hT hba hnew hr2
        go_wp2_with fail
        refine (cI' _ hl2 hT2 hD2).mono ?_
        rintro ex w3 ⟨v3, rows, rfl, ho3, hrl, hr0, hD3, hg3⟩
        have hb3 := below_new (grown_trans hg2 hg3)
        obtain ⟨ao2, ca2, rfl, q1, q2, q3, q4⟩ := ho3.lines
        obtain rfl := hr0 rfl
        have cB := told_good w.heap.size m ao2 rows.length ca2 w3 hD3
        have HQ := Lib.hid (And.intro q1 q2)
        generalize hrn : rows.length = rn at *
        have HRN := Lib.hid hrn
        clear cI' hl2 hT2 hD2 hg2 hg3 ho3 hr0 hb2 hrl q1 q2 q3 hrn
        go_wp2_with fail
        refine cB.mono ?_
        rintro ex w4 ⟨rfl, hb4⟩
        have hb5 := below_step hb3 hb3.size hb4
        have q5 := q4.keep hb4
        clear cB q4
        go_wp2_with fail
        go_ret2
        exact ⟨_, _, by rw [HRN.out]; rfl, by rw [HRN.out]; exact HQ.out.1, HQ.out.2, q5, hb5⟩
    · rw [if_pos hi] at hF
      subst hF
      rw [decide_eq_false hi] at cQ
      generalize l.length = n at *
      clear hr hB hc hi hn0 hn64 hm hl hT
      go_enter Tryd.func28, Tryd.ntmps28
      go_wp2_with fail
      refine (cR _).mono ?_
      rintro ex w1 ⟨rfl, rfl⟩
      clear cR
      go_wp2_with fail
      refine (cQ _).mono ?_
      rintro ex w1 ⟨rfl, rfl⟩
      clear cQ
      go_wp2_with fail
      go_ret2
      exact ⟨rfl, hBB⟩
  · rw [if_pos h0] at hF
    subst hF
    generalize l.length = n at *
    clear hr hB hc hl hT cQ
    go_enter Tryd.func28, Tryd.ntmps28
    go_wp2_with fail
    refine (cR _).mono ?_
    rintro ex w1 ⟨rfl, rfl⟩
    clear cR
    go_wp2_with fail
    go_ret2
    exact ⟨rfl, hBB⟩
end Go.Proofs.YtdpfjhhcgaeiiaaDoor
