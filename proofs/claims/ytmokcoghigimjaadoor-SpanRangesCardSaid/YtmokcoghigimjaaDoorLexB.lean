/-
  CONTRACTS of package lex's signOf, mayBe, isTooLong, onlyOwnFields, goodContent, Check.
  CONDITIONS: each theorem's own hypotheses; package lex's signs hold what their initialiser lays ('SW'), unicode/utf8's two tables, too ('Tabs').
-/
import Derived.Test.YtmokcoghigimjaaDoorLexA
import Derived.Test.YtmokcoghigimjaaDoorGReg
import Derived.Deep.MidRow
import Derived.Lib.PathFns
namespace Go.Proofs.YtmokcoghigimjaaDoor
open Go.RowKit
set_option linter.unusedVariables false
set_option maxRecDepth 100000

theorem str_beq (l m : List UInt8) : ((str l).toList == (str m).toList) = (l == m) := by rw [str_toList, str_toList]
set_option maxHeartbeats 1000000 in
theorem hasPrefix_any (l p : List UInt8) (w : World) (hl : l.length ≤ 9223372036854775807) (hp : p.length ≤ 9223372036854775807) :
    Calls Tryd.prog 51 #[.string (str l), .string (str p)] w fun e w' => e = .returned (.bool (Lib.hasPrefix l p)) ∧ w = w' := by
  have h1 := str_size l
  have h2 := str_size p
  have hh := (Lib.hasPrefix_of_take l p).symm
  have hc := fun (h : p.length ≤ l.length) W => head_str l p.length (p.length : Int) rfl h W
  rw [← str_beq] at hh
  obtain ⟨P, hP⟩ : ∃ P, Lib.hasPrefix l p = P := ⟨_, rfl⟩
  rw [hP] at hh ⊢
  generalize str (l.take p.length) = T at *
  generalize str l = S at *
  generalize str p = Q at *
  by_cases hlt : p.length ≤ l.length
  · have i1 : (Q.size : Int) ≤ (S.size : Int) := by omega
    have q1 := hc hlt
    rw [← h2] at q1
    rw [decide_eq_true hlt, Bool.true_and] at hh
    have HH := Lib.hid hh
    clear hc hh hlt h1 h2 hP
    cases he : (T.toList == Q.toList)
    all_goals
      rw [he] at HH
      go_enter Tryd.func51, Tryd.ntmps51
      go_wp2
      go_ret
      exact ⟨by rw [HH.out]; rfl, rfl⟩
  · have i1 : ¬ (Q.size : Int) ≤ (S.size : Int) := by omega
    rw [decide_eq_false hlt, Bool.false_and] at hh
    have HH := Lib.hid hh
    clear hc hh hlt h1 h2 hP
    go_enter Tryd.func51, Tryd.ntmps51
    go_wp2
    go_ret
    exact ⟨by rw [HH.out]; rfl, rfl⟩

/-! ### signs -/
def strsV (l : List (List UInt8)) : List Value := l.map fun s => .string (str s)
theorem strsV_get {l : List (List UInt8)} {i : Nat} {x : List UInt8} (h : l[i]? = some x) : (strsV l)[i]? = some (.string (str x)) := by simp [strsV, h]
theorem size_string (w : World) : (sizeOf 9).run Tryd.prog w = .ok 1 w := by kernel_rfl
theorem agg_string (w : World) : (isAgg 9).run Tryd.prog w = .ok false w := by kernel_rfl
theorem run_index_in {P : Program} {t e : TypeId} {n : Nat} (w : World) (cs : List Value) (i : Nat) (v : Value) (ht : P.underlying t = some (.array n e)) (hn : cs.length = n) (hs : ∀ w, (sizeOf e).run P w = .ok 1 w) (ha : ∀ w, (isAgg e).run P w = .ok false w) (hv : cs[i]? = some v) :
    (Instr.index t (.agg cs.toArray) (.int .i64 (i : Int))).run P w = .ok v w := by
  have hi : i < cs.length := (List.getElem?_eq_some_iff.1 hv).1
  have h1 : (0 : Int) ≤ i ∧ (i : Int) < n := by omega
  have h2 : i < n := by omega
  simp [Instr.index, run_underlying ht, asIntOf, h2, hs, ha, hv, go_sem]
theorem size_u8 (w : World) : (sizeOf 5).run Tryd.prog w = .ok 1 w := by kernel_rfl
theorem agg_u8 (w : World) : (isAgg 5).run Tryd.prog w = .ok false w := by kernel_rfl
theorem size_u32 (w : World) : (sizeOf 82).run Tryd.prog w = .ok 1 w := by kernel_rfl
theorem agg_u32 (w : World) : (isAgg 82).run Tryd.prog w = .ok false w := by kernel_rfl
/-- Package lex's signs. -/
def SW (w : World) : Prop := 3 < w.heap.size ∧ ∀ i x, signsL[i]? = some x → w.cell? ⟨3, i, none⟩ = some (.string (str x))
theorem SW.keep {w w' : World} {B : Nat} (h : SW w) (hb : Below B w w') (hB : w.heap.size ≤ B) : SW w' :=
  ⟨Nat.lt_of_lt_of_le h.1 hb.size, fun i x hx => (hb.cell (p := ⟨3, i, none⟩) (Nat.lt_of_lt_of_le h.1 hB)).trans (h.2 i x hx)⟩
theorem signs_range {w : World} (h : SW w) : w.rangeAt 3 0 (strsV signsL) := fun j v hv => by
  rw [Nat.zero_add]
  unfold strsV at hv
  rw [List.getElem?_map] at hv
  cases hx : signsL[j]? with
  | none => rw [hx] at hv; cases hv
  | some x => rw [hx] at hv; cases hv; exact h.2 j x hx
theorem signR_step (l : List UInt8) (i : Nat) (x : List UInt8) (hx : signsL[i]? = some x) (h : (signsL.take i).all (fun s => !Lib.hasPrefix l s) = true) : (Lib.hasPrefix l x = true → signR l = x) ∧ (Lib.hasPrefix l x = false → (signsL.take (i + 1)).all (fun s => !Lib.hasPrefix l s) = true) := by
  obtain ⟨hi, hxx⟩ := List.getElem?_eq_some_iff.1 hx
  constructor
  · intro hp
    unfold signR
    have : signsL.find? (fun s => Lib.hasPrefix l s) = some x := by
      rw [← List.take_append_drop i signsL, List.find?_append, List.find?_eq_none.2 (fun s hs => by have := List.all_eq_true.1 h s hs; simpa using this), List.drop_eq_getElem_cons hi, hxx]
      simp [hp]
    rw [this]; rfl
  · intro hp
    rw [List.take_succ_eq_append_getElem hi, List.all_append, h, hxx]
    simp [hp]
theorem signR_none (l : List UInt8) (h : (signsL.take 16).all (fun s => !Lib.hasPrefix l s) = true) : signR l = [] := by
  unfold signR
  rw [List.find?_eq_none.2 (fun s hs => by have := List.all_eq_true.1 h s hs; simpa using this)]; rfl
theorem signs_small : ∀ x ∈ signsL, x.length ≤ 2 := by decide
set_option maxHeartbeats 2000000 in
theorem signOf_any (l : List UInt8) (w : World) (hl : l.length ≤ 9223372036854775807) (hS : SW w) :
    Calls Tryd.prog 47 #[.string (str l)] w fun e w' => e = .returned (.string (str (signR l))) ∧ w = w' := by
  have cH := fun p W hp => hasPrefix_any l p W hl hp
  obtain ⟨V, hV⟩ : ∃ V, (strsV signsL).toArray = V := ⟨_, rfl⟩
  have hidx := fun i x (hx : signsL[i]? = some x) W => run_index_in (P := Tryd.prog) W (strsV signsL) i _ (t := 72) (e := 9) (n := 16) rfl rfl size_string agg_string (strsV_get hx)
  simp only [hV] at hidx
  have hrg := signs_range hS
  generalize str l = S at *
  have HI := Lib.hid hidx
  have HR := Lib.hid hrg
  clear hS hidx hrg
  go_enter Tryd.func47, Tryd.ntmps47
  go_wp2_with (first | (with_reducible refine wpList_load_mid rfl 72 (.global 3) rfl 3 0 rfl (strsV signsL) _ HR.out rfl rfl (by kernel_rfl) ?_) | fail)
  try rw [hV]
  clear hV HR
  go_loopw [6] (fun ix wr => ∃ i : Nat, i ≤ 16 ∧ ix = .int .i64 i ∧ Hid ((signsL.take i).all (fun s => !Lib.hasPrefix l s) = true) ∧ wr = w) (fun ix _ => 16 - (intOf ix).toNat)
  case atStart => exact ⟨0, Nat.zero_le _, rfl, Lib.hid rfl, rfl⟩
  case round =>
    obtain ⟨i, hi, rfl, hA, rfl⟩ := hrel
    by_cases h1 : i < 16
    · have iI : (i : Int) < 16 := by omega
      obtain ⟨x, hx⟩ : ∃ x, signsL[i]? = some x := ⟨_, List.getElem?_eq_getElem h1⟩
      obtain ⟨s1, s2⟩ := signR_step l i x hx hA.out
      have hx2 := signs_small x (List.mem_of_getElem? hx)
      have q1 := HI.out i x hx
      have cP := cH x wr (by omega)
      cases hp : Lib.hasPrefix l x with
      | true =>
        have HE : Hid (str (signR l) = str x) := Lib.hid (by rw [s1 hp])
        rw [hp] at cP
        clear cH hx s1 s2 hp hx2
        generalize str x = X at *
        go_wp2_with fail
        refine cP.mono ?_
        rintro e w1 ⟨rfl, rfl⟩
        go_wp2_with fail
        go_ret
        exact ⟨by rw [HE.out]; rfl, by first | rfl | trivial⟩
      | false =>
        have HE := Lib.hid (s2 hp)
        rw [hp] at cP
        clear cH hx s1 s2 hp hx2
        generalize str x = X at *
        go_wp2_with fail
        refine cP.mono ?_
        rintro e w1 ⟨rfl, rfl⟩
        go_wp2_with fail
        go_roundw
        case rel => exact ⟨i + 1, h1, by go_num, HE, by first | rfl | trivial⟩
        case measure => simp [intOf]; omega
    · have iI : ¬ (i : Int) < 16 := by omega
      obtain rfl : i = 16 := by omega
      have HE := Lib.hid (signR_none l hA.out)
      clear cH
      go_wp2_with fail
      go_ret
      exact ⟨by rw [HE.out]; rfl, by first | rfl | trivial⟩

/-! ### a token's fields -/
theorem kcase7 (k : Int) : (k = 1 ∨ k = 2 ∨ k = 3 ∨ k = 4 ∨ k = 5 ∨ k = 6) ∨ ((k == 1) = false ∧ (k == 2) = false ∧ (k == 3) = false ∧ (k == 4) = false ∧ (k == 5) = false ∧ (k == 6) = false) := by
  simp only [beq_eq_false_iff_ne]; omega
theorem mayBe_any (k i b : Int) (s : ByteArray) (w : World) (h0 : 0 ≤ b) (h1 : b ≤ 18446744073709551615) (hs : s.size ≤ 9223372036854775807) (hT : Tabs w) :
    Calls Tryd.prog 46 #[.agg #[.int .i64 k, .int .i64 i, .int .u64 b, .string s]] w fun e w' => e = .returned (.bool (chk k i b s == 0)) ∧ Below w.heap.size w w' := by
  have cC := fun o => check_any k i b s (w.alloc o) h0 h1 hs (tabs_below hT ((Below.refl _ _).alloc (Nat.le_refl _) o))
  obtain ⟨B, hB⟩ : ∃ B, (chk k i b s == 0) = B := ⟨_, rfl⟩
  rw [hB]
  generalize chk k i b s = C at *
  clear h0 h1 hs hT
  cases B
  all_goals
    go_enter Tryd.func46, Tryd.ntmps46
    go_wp2_with fail
    refine (cC _).mono ?_
    rintro e w' ⟨rfl, hb⟩
    clear cC
    go_wp2_with fail
    go_ret
    exact ⟨rfl, ((Below.refl _ _).alloc (Nat.le_refl _) _).trans (hb.mono (by simp))⟩
theorem isTooLong_any (k i b : Int) (l : List UInt8) (w : World) :
    Calls Tryd.prog 36 #[.agg #[.int .i64 k, .string (str l), .int .i64 i, .int .u64 b]] w fun e w' => e = .returned (.bool (tooL k l)) ∧ Below w.heap.size w w' := by
  have hsz := str_size l
  unfold tooL
  generalize str l = s at *
  generalize l.length = n at *
  rcases kcase7 k with (rfl | rfl | rfl | rfl | rfl | rfl) | ⟨k1, k2, k3, k4, k5, k6⟩
  · rw [if_pos (.inl rfl)]
    by_cases h : 8 < n
    · have i1 : (8 : Int) < (s.size : Int) := by omega
      rw [decide_eq_true h]
      clear h hsz
      go_enter Tryd.func36, Tryd.ntmps36
      go_wp2
      go_ret
      exact ⟨rfl, (Below.refl _ _).alloc (Nat.le_refl _) _⟩
    · have i1 : ¬ (8 : Int) < (s.size : Int) := by omega
      rw [decide_eq_false h]
      clear h hsz
      go_enter Tryd.func36, Tryd.ntmps36
      go_wp2
      go_ret
      exact ⟨rfl, (Below.refl _ _).alloc (Nat.le_refl _) _⟩
  · rw [if_pos (.inr rfl)]
    by_cases h : 8 < n
    · have i1 : (8 : Int) < (s.size : Int) := by omega
      rw [decide_eq_true h]
      clear h hsz
      go_enter Tryd.func36, Tryd.ntmps36
      go_wp2
      go_ret
      exact ⟨rfl, (Below.refl _ _).alloc (Nat.le_refl _) _⟩
    · have i1 : ¬ (8 : Int) < (s.size : Int) := by omega
      rw [decide_eq_false h]
      clear h hsz
      go_enter Tryd.func36, Tryd.ntmps36
      go_wp2
      go_ret
      exact ⟨rfl, (Below.refl _ _).alloc (Nat.le_refl _) _⟩
  · clear hsz
    go_enter Tryd.func36, Tryd.ntmps36
    go_wp2
    go_ret
    exact ⟨rfl, (Below.refl _ _).alloc (Nat.le_refl _) _⟩
  · rw [if_neg (by decide), if_pos rfl]
    by_cases h : 40 < n
    · have i1 : (40 : Int) < (s.size : Int) := by omega
      rw [decide_eq_true h]
      clear h hsz
      go_enter Tryd.func36, Tryd.ntmps36
      go_wp2
      go_ret
      exact ⟨rfl, (Below.refl _ _).alloc (Nat.le_refl _) _⟩
    · have i1 : ¬ (40 : Int) < (s.size : Int) := by omega
      rw [decide_eq_false h]
      clear h hsz
      go_enter Tryd.func36, Tryd.ntmps36
      go_wp2
      go_ret
      exact ⟨rfl, (Below.refl _ _).alloc (Nat.le_refl _) _⟩
  · clear hsz
    go_enter Tryd.func36, Tryd.ntmps36
    go_wp2
    go_ret
    exact ⟨rfl, (Below.refl _ _).alloc (Nat.le_refl _) _⟩
  · clear hsz
    go_enter Tryd.func36, Tryd.ntmps36
    go_wp2
    go_ret
    exact ⟨rfl, (Below.refl _ _).alloc (Nat.le_refl _) _⟩
  · rw [if_neg (by simp only [beq_eq_false_iff_ne] at *; omega), if_neg (by simp only [beq_eq_false_iff_ne] at *; omega)]
    clear hsz
    go_enter Tryd.func36, Tryd.ntmps36
    go_wp2
    go_ret
    exact ⟨rfl, (Below.refl _ _).alloc (Nat.le_refl _) _⟩
set_option maxHeartbeats 4000000 in
theorem onlyOwn_any (k i b : Int) (l : List UInt8) (w : World) :
    Calls Tryd.prog 37 #[.agg #[.int .i64 k, .string (str l), .int .i64 i, .int .u64 b]] w fun e w' => e = .returned (.bool (ownT k l i b)) ∧ Below w.heap.size w w' := by
  have hse : (str l).toList.isEmpty = l.isEmpty := by rw [str_toList]
  obtain ⟨B, hB⟩ : ∃ B, ownT k l i b = B := ⟨_, rfl⟩
  rw [hB]
  have HB := Lib.hid hB
  unfold ownT at HB
  rw [← hse] at HB
  clear hB hse
  generalize str l = s at *
  cases k3 : (k == 3) <;> cases k5 : (k == 5) <;> cases hi : (i == 0) <;> cases hb : (b == 0) <;> cases hs : s.toList.isEmpty <;>
   (rw [k3, k5, hi, hb, hs] at HB
    go_enter Tryd.func37, Tryd.ntmps37
    go_wp2
    go_ret
    refine ⟨?_, (Below.refl _ _).alloc (Nat.le_refl _) _⟩
    rw [← HB.out]
    first | rfl | simp [*])

theorem chk_text (l : List UInt8) (h : l.length ≤ 40) : (chk 4 0 0 (str l) == 0) = Lib.validD l := by
  have h1 : own 4 0 0 (str l) = true := by unfold own; simp
  have h2 : good 4 0 0 (str l) = Lib.validD l := by unfold good; rw [if_neg (by decide), if_neg (by decide), if_pos rfl, str_data]
  unfold chk
  rw [if_neg (by decide), if_neg (by rw [str_size]; omega), h1, h2]
  cases Lib.validD l <;> rfl
theorem chk_real (b : Int) : (chk 3 0 b ⟨#[]⟩ == 0) = (!nan b && !(b == 9223372036854775808)) := by
  have h1 : own 3 0 b ⟨#[]⟩ = true := by unfold own; simp
  have h2 : good 3 0 b ⟨#[]⟩ = (!nan b && !(b == 9223372036854775808)) := by unfold good; rw [if_neg (by decide), if_pos rfl]
  unfold chk
  rw [if_neg (by decide), if_neg (by decide), h1, h2]
  cases (!nan b && !(b == 9223372036854775808)) <;> rfl
theorem below_stepL {B : Nat} {a b c : World} (h : Below B a b) (hB : B ≤ b.heap.size) (k : Below b.heap.size b c) : Below B a c := h.trans (k.mono hB)
theorem hq_of {w w2 : World} {k i b : Int} {s : ByteArray} (hw2 : w.alloc (.cells #[.int .i64 k, .string s, .int .i64 i, .int .u64 b] 54) = w2) : Below w.heap.size w w2 ∧ (∀ W, Below w2.heap.size w2 W → W.cell? ⟨w.heap.size, 0, none⟩ = some (.int .i64 k)) ∧ (∀ W, Below w2.heap.size w2 W → W.cell? ⟨w.heap.size, 1, none⟩ = some (.string s)) := by
  subst hw2
  exact ⟨(Below.refl _ _).alloc (Nat.le_refl _) _, fun W hW => (hW.cell (p := ⟨w.heap.size, 0, none⟩) (by simp)).trans (by simp), fun W hW => (hW.cell (p := ⟨w.heap.size, 1, none⟩) (by simp)).trans (by simp)⟩
set_option maxHeartbeats 4000000 in
theorem good_name (i b : Int) (l : List UInt8) (w : World) (hl : l.length ≤ 9223372036854775807) :
    Calls Tryd.prog 38 #[.agg #[.int .i64 1, .string (str l), .int .i64 i, .int .u64 b]] w fun e w' => e = .returned (.bool (nameB l)) ∧ Below w.heap.size w w' := by
  obtain ⟨w2, hw2⟩ : ∃ w2, w.alloc (.cells #[.int .i64 1, .string (str l), .int .i64 i, .int .u64 b] 54) = w2 := ⟨_, rfl⟩
  obtain ⟨hb2, hq0, hq1⟩ := hq_of hw2
  cases l with
  | nil =>
    have he : (str []).toList.isEmpty = true := by rw [str_toList]; rfl
    have he2 : (str []).toList = [] := by rw [str_toList]
    have HN : Hid (nameB [] = false) := rfl
    generalize str [] = s at *
    go_enter Tryd.func38, Tryd.ntmps38
    go_upto_region 1 with fail
    try rw [hw2]
    clear hw2
    have p0 := hq0 w2 (Below.refl _ _)
    go_upto_region 3 with fail
    clear p0
    refine wp_region_det 17 (by kernel_rfl) (by kernel_rfl) (by kernel_rfl) ?_
    simp only [List.take_succ_cons, List.take_zero, List.drop_succ_cons, List.drop_zero]
    iterate 2 (apply wpDet_plain _ rfl; (focus (intro W hW; have q0 := hq0 W hW; have q1 := hq1 W hW; go_simp; (first | exact ⟨rfl, Below.refl _ _⟩ | exact Below.refl _ _ | exact ⟨by simp [*], Below.refl _ _⟩))); simp only [Act.put, List.setIfInBounds_toArray, List.set_cons_zero, List.set_cons_succ])
    apply wpDet_plain (.bool false) rfl; (focus (intro W hW; have q0 := hq0 W hW; have q1 := hq1 W hW; go_simp; (first | exact ⟨rfl, Below.refl _ _⟩ | exact Below.refl _ _ | exact ⟨by simp [*], Below.refl _ _⟩))); simp only [Act.put, List.setIfInBounds_toArray, List.set_cons_zero, List.set_cons_succ]
    apply wpDet_plain (.bool false) rfl; (focus (intro W hW; have q0 := hq0 W hW; have q1 := hq1 W hW; go_simp; (first | exact ⟨rfl, Below.refl _ _⟩ | exact Below.refl _ _ | exact ⟨by simp [*], Below.refl _ _⟩))); simp only [Act.put, List.setIfInBounds_toArray, List.set_cons_zero, List.set_cons_succ]
    iterate 4 (refine wpDet_skip (by kernel_rfl) ?_; simp only [Act.put, List.setIfInBounds_toArray, List.set_cons_zero, List.set_cons_succ])
    apply wpDet_plain (.bool false) rfl; (focus (intro W hW; have q0 := hq0 W hW; have q1 := hq1 W hW; go_simp; (first | exact ⟨rfl, Below.refl _ _⟩ | exact Below.refl _ _ | exact ⟨by simp [*], Below.refl _ _⟩))); simp only [Act.put, List.setIfInBounds_toArray, List.set_cons_zero, List.set_cons_succ]
    apply wpDet_plain (.bool false) rfl; (focus (intro W hW; have q0 := hq0 W hW; have q1 := hq1 W hW; go_simp; (first | exact ⟨rfl, Below.refl _ _⟩ | exact Below.refl _ _ | exact ⟨by simp [*], Below.refl _ _⟩))); simp only [Act.put, List.setIfInBounds_toArray, List.set_cons_zero, List.set_cons_succ]
    iterate 6 (refine wpDet_skip (by kernel_rfl) ?_; simp only [Act.put, List.setIfInBounds_toArray, List.set_cons_zero, List.set_cons_succ])
    apply wpDet_plain (.bool false) rfl; (focus (intro W hW; have q0 := hq0 W hW; have q1 := hq1 W hW; go_simp; (first | exact ⟨rfl, Below.refl _ _⟩ | exact Below.refl _ _ | exact ⟨by simp [*], Below.refl _ _⟩))); simp only [Act.put, List.setIfInBounds_toArray, List.set_cons_zero, List.set_cons_succ]
    refine wpDet_nil ?_; intro W hW
    have hbb := below_stepL hb2 hb2.size hW
    clear hq0 hq1 hb2 hW
    go_wp2_with fail
    go_ret
    exact ⟨by rw [HN.out]; rfl, hbb⟩
  | cons c l =>
    have cS := fun W => isSmall_any c W
    have cR := fun W => run_staysInName (c :: l) W hl
    have hsz := str_size (c :: l)
    have hne : (str (c :: l)).toList ≠ [] := by rw [str_toList]; simp
    have hne2 : (str (c :: l)).toList.isEmpty = false := by rw [str_toList]; rfl
    have hg : ∀ h : 0 < (str (c :: l)).size, (str (c :: l))[0] = c := fun h => rfl
    have heq : ((str ((c :: l).takeWhile stays)).toList == (str (c :: l)).toList) = (c :: l).all stays := by rw [str_beq, takeWhile_all]
    have hN : nameB (c :: l) = (isSm c && (c :: l).all stays) := rfl
    generalize str ((c :: l).takeWhile stays) = T at *
    obtain ⟨s, hs⟩ : ∃ s, str (c :: l) = s := ⟨_, rfl⟩
    rw [hs] at hsz hne hne2 hg cR heq hw2 hq1 ⊢
    have h0 : 0 < s.size := by rw [hsz]; simp
    have hg0 := hg h0
    have h0I : (0 : Int) < (s.size : Int) := by omega
    rw [← hg0] at cS
    generalize (c :: l).all stays = B at *
    generalize nameB (c :: l) = NB at *
    clear hs hg hsz hl
    cases hc : isSm c with
    | false =>
      rw [hg0, hc] at cS
      rw [← hg0] at cS
      have HN : Hid (NB = false) := by show _ = _; rw [hN, hc]; rfl
      clear hg0 hN hc cR heq
      go_enter Tryd.func38, Tryd.ntmps38
      go_upto_region 1 with fail
      try rw [hw2]
      clear hw2
      have p0 := hq0 w2 (Below.refl _ _)
      go_upto_region 3 with fail
      clear p0
      refine wp_region_det 17 (by kernel_rfl) (by kernel_rfl) (by kernel_rfl) ?_
      simp only [List.take_succ_cons, List.take_zero, List.drop_succ_cons, List.drop_zero]
      iterate 2 (apply wpDet_plain _ rfl; (focus (intro W hW; have q0 := hq0 W hW; have q1 := hq1 W hW; go_simp; (first | exact ⟨rfl, Below.refl _ _⟩ | exact Below.refl _ _ | exact ⟨by simp [*], Below.refl _ _⟩))); simp only [Act.put, List.setIfInBounds_toArray, List.set_cons_zero, List.set_cons_succ])
      apply wpDet_plain (.bool true) rfl; (focus (intro W hW; have q0 := hq0 W hW; have q1 := hq1 W hW; go_simp; (first | exact ⟨rfl, Below.refl _ _⟩ | exact Below.refl _ _ | exact ⟨by simp [*], Below.refl _ _⟩))); simp only [Act.put, List.setIfInBounds_toArray, List.set_cons_zero, List.set_cons_succ]
      apply wpDet_plain (.bool true) rfl; (focus (intro W hW; have q0 := hq0 W hW; have q1 := hq1 W hW; go_simp; (first | exact ⟨rfl, Below.refl _ _⟩ | exact Below.refl _ _ | exact ⟨by simp [*], Below.refl _ _⟩))); simp only [Act.put, List.setIfInBounds_toArray, List.set_cons_zero, List.set_cons_succ]
      iterate 3 (apply wpDet_want _ (by kernel_rfl); (focus (intro W hW; have q0 := hq0 W hW; have q1 := hq1 W hW; go_simp; (first | exact ⟨rfl, Below.refl _ _⟩ | exact Below.refl _ _ | exact ⟨by simp [*], Below.refl _ _⟩))); simp only [Act.put, List.setIfInBounds_toArray, List.set_cons_zero, List.set_cons_succ])
      apply wpDet_want _ (by kernel_rfl); (focus (intro W hW; have q0 := hq0 W hW; have q1 := hq1 W hW; go_simp; exact (cS W).mono (fun e w' h => ⟨h.1, by rw [← h.2]; exact Below.refl _ _⟩))); simp only [Act.put, List.setIfInBounds_toArray, List.set_cons_zero, List.set_cons_succ]
      apply wpDet_plain (.bool false) rfl; (focus (intro W hW; have q0 := hq0 W hW; have q1 := hq1 W hW; go_simp; (first | exact ⟨rfl, Below.refl _ _⟩ | exact Below.refl _ _ | exact ⟨by simp [*], Below.refl _ _⟩))); simp only [Act.put, List.setIfInBounds_toArray, List.set_cons_zero, List.set_cons_succ]
      apply wpDet_plain (.bool false) rfl; (focus (intro W hW; have q0 := hq0 W hW; have q1 := hq1 W hW; go_simp; (first | exact ⟨rfl, Below.refl _ _⟩ | exact Below.refl _ _ | exact ⟨by simp [*], Below.refl _ _⟩))); simp only [Act.put, List.setIfInBounds_toArray, List.set_cons_zero, List.set_cons_succ]
      iterate 6 (refine wpDet_skip (by kernel_rfl) ?_; simp only [Act.put, List.setIfInBounds_toArray, List.set_cons_zero, List.set_cons_succ])
      apply wpDet_plain (.bool false) rfl; (focus (intro W hW; have q0 := hq0 W hW; have q1 := hq1 W hW; go_simp; (first | exact ⟨rfl, Below.refl _ _⟩ | exact Below.refl _ _ | exact ⟨by simp [*], Below.refl _ _⟩))); simp only [Act.put, List.setIfInBounds_toArray, List.set_cons_zero, List.set_cons_succ]
      refine wpDet_nil ?_; intro W hW
      have hbb := below_stepL hb2 hb2.size hW
      clear hq0 hq1 hb2 hW
      go_wp2_with fail
      go_ret
      exact ⟨by rw [HN.out]; rfl, hbb⟩
    | true =>
      rw [hg0, hc] at cS
      rw [← hg0] at cS
      have HN : Hid (NB = B) := by show _ = _; rw [hN, hc]; rfl
      clear hg0 hN hc
      cases B
      · skip
        go_enter Tryd.func38, Tryd.ntmps38
        go_upto_region 1 with fail
        try rw [hw2]
        clear hw2
        have p0 := hq0 w2 (Below.refl _ _)
        go_upto_region 3 with fail
        clear p0
        refine wp_region_det 17 (by kernel_rfl) (by kernel_rfl) (by kernel_rfl) ?_
        simp only [List.take_succ_cons, List.take_zero, List.drop_succ_cons, List.drop_zero]
        iterate 2 (apply wpDet_plain _ rfl; (focus (intro W hW; have q0 := hq0 W hW; have q1 := hq1 W hW; go_simp; (first | exact ⟨rfl, Below.refl _ _⟩ | exact Below.refl _ _ | exact ⟨by simp [*], Below.refl _ _⟩))); simp only [Act.put, List.setIfInBounds_toArray, List.set_cons_zero, List.set_cons_succ])
        apply wpDet_plain (.bool true) rfl; (focus (intro W hW; have q0 := hq0 W hW; have q1 := hq1 W hW; go_simp; (first | exact ⟨rfl, Below.refl _ _⟩ | exact Below.refl _ _ | exact ⟨by simp [*], Below.refl _ _⟩))); simp only [Act.put, List.setIfInBounds_toArray, List.set_cons_zero, List.set_cons_succ]
        apply wpDet_plain (.bool true) rfl; (focus (intro W hW; have q0 := hq0 W hW; have q1 := hq1 W hW; go_simp; (first | exact ⟨rfl, Below.refl _ _⟩ | exact Below.refl _ _ | exact ⟨by simp [*], Below.refl _ _⟩))); simp only [Act.put, List.setIfInBounds_toArray, List.set_cons_zero, List.set_cons_succ]
        iterate 3 (apply wpDet_want _ (by kernel_rfl); (focus (intro W hW; have q0 := hq0 W hW; have q1 := hq1 W hW; go_simp; (first | exact ⟨rfl, Below.refl _ _⟩ | exact Below.refl _ _ | exact ⟨by simp [*], Below.refl _ _⟩))); simp only [Act.put, List.setIfInBounds_toArray, List.set_cons_zero, List.set_cons_succ])
        apply wpDet_want _ (by kernel_rfl); (focus (intro W hW; have q0 := hq0 W hW; have q1 := hq1 W hW; go_simp; exact (cS W).mono (fun e w' h => ⟨h.1, by rw [← h.2]; exact Below.refl _ _⟩))); simp only [Act.put, List.setIfInBounds_toArray, List.set_cons_zero, List.set_cons_succ]
        apply wpDet_plain (.bool true) rfl; (focus (intro W hW; have q0 := hq0 W hW; have q1 := hq1 W hW; go_simp; (first | exact ⟨rfl, Below.refl _ _⟩ | exact Below.refl _ _ | exact ⟨by simp [*], Below.refl _ _⟩))); simp only [Act.put, List.setIfInBounds_toArray, List.set_cons_zero, List.set_cons_succ]
        apply wpDet_plain (.bool true) rfl; (focus (intro W hW; have q0 := hq0 W hW; have q1 := hq1 W hW; go_simp; (first | exact ⟨rfl, Below.refl _ _⟩ | exact Below.refl _ _ | exact ⟨by simp [*], Below.refl _ _⟩))); simp only [Act.put, List.setIfInBounds_toArray, List.set_cons_zero, List.set_cons_succ]
        iterate 2 (apply wpDet_want _ (by kernel_rfl); (focus (intro W hW; have q0 := hq0 W hW; have q1 := hq1 W hW; go_simp; (first | exact ⟨rfl, Below.refl _ _⟩ | exact Below.refl _ _ | exact ⟨by simp [*], Below.refl _ _⟩))); simp only [Act.put, List.setIfInBounds_toArray, List.set_cons_zero, List.set_cons_succ])
        apply wpDet_want _ (by kernel_rfl); (focus (intro W hW; have q0 := hq0 W hW; have q1 := hq1 W hW; go_simp; exact (cR W).mono (fun e w' h => ⟨h.1, by rw [← h.2]; exact Below.refl _ _⟩))); simp only [Act.put, List.setIfInBounds_toArray, List.set_cons_zero, List.set_cons_succ]
        iterate 2 (apply wpDet_want _ (by kernel_rfl); (focus (intro W hW; have q0 := hq0 W hW; have q1 := hq1 W hW; go_simp; (first | exact ⟨rfl, Below.refl _ _⟩ | exact Below.refl _ _ | exact ⟨by simp [*], Below.refl _ _⟩))); simp only [Act.put, List.setIfInBounds_toArray, List.set_cons_zero, List.set_cons_succ])
        apply wpDet_want (.bool false) (by kernel_rfl); (focus (intro W hW; have q0 := hq0 W hW; have q1 := hq1 W hW; go_simp; (first | exact ⟨rfl, Below.refl _ _⟩ | exact Below.refl _ _ | exact ⟨by simp [*], Below.refl _ _⟩))); simp only [Act.put, List.setIfInBounds_toArray, List.set_cons_zero, List.set_cons_succ]
        apply wpDet_plain (.bool false) rfl; (focus (intro W hW; have q0 := hq0 W hW; have q1 := hq1 W hW; go_simp; (first | exact ⟨rfl, Below.refl _ _⟩ | exact Below.refl _ _ | exact ⟨by simp [*], Below.refl _ _⟩))); simp only [Act.put, List.setIfInBounds_toArray, List.set_cons_zero, List.set_cons_succ]
        refine wpDet_nil ?_; intro W hW
        have hbb := below_stepL hb2 hb2.size hW
        clear hq0 hq1 hb2 hW
        go_wp2_with fail
        go_ret
        exact ⟨by rw [HN.out]; rfl, hbb⟩
      · skip
        go_enter Tryd.func38, Tryd.ntmps38
        go_upto_region 1 with fail
        try rw [hw2]
        clear hw2
        have p0 := hq0 w2 (Below.refl _ _)
        go_upto_region 3 with fail
        clear p0
        refine wp_region_det 17 (by kernel_rfl) (by kernel_rfl) (by kernel_rfl) ?_
        simp only [List.take_succ_cons, List.take_zero, List.drop_succ_cons, List.drop_zero]
        iterate 2 (apply wpDet_plain _ rfl; (focus (intro W hW; have q0 := hq0 W hW; have q1 := hq1 W hW; go_simp; (first | exact ⟨rfl, Below.refl _ _⟩ | exact Below.refl _ _ | exact ⟨by simp [*], Below.refl _ _⟩))); simp only [Act.put, List.setIfInBounds_toArray, List.set_cons_zero, List.set_cons_succ])
        apply wpDet_plain (.bool true) rfl; (focus (intro W hW; have q0 := hq0 W hW; have q1 := hq1 W hW; go_simp; (first | exact ⟨rfl, Below.refl _ _⟩ | exact Below.refl _ _ | exact ⟨by simp [*], Below.refl _ _⟩))); simp only [Act.put, List.setIfInBounds_toArray, List.set_cons_zero, List.set_cons_succ]
        apply wpDet_plain (.bool true) rfl; (focus (intro W hW; have q0 := hq0 W hW; have q1 := hq1 W hW; go_simp; (first | exact ⟨rfl, Below.refl _ _⟩ | exact Below.refl _ _ | exact ⟨by simp [*], Below.refl _ _⟩))); simp only [Act.put, List.setIfInBounds_toArray, List.set_cons_zero, List.set_cons_succ]
        iterate 3 (apply wpDet_want _ (by kernel_rfl); (focus (intro W hW; have q0 := hq0 W hW; have q1 := hq1 W hW; go_simp; (first | exact ⟨rfl, Below.refl _ _⟩ | exact Below.refl _ _ | exact ⟨by simp [*], Below.refl _ _⟩))); simp only [Act.put, List.setIfInBounds_toArray, List.set_cons_zero, List.set_cons_succ])
        apply wpDet_want _ (by kernel_rfl); (focus (intro W hW; have q0 := hq0 W hW; have q1 := hq1 W hW; go_simp; exact (cS W).mono (fun e w' h => ⟨h.1, by rw [← h.2]; exact Below.refl _ _⟩))); simp only [Act.put, List.setIfInBounds_toArray, List.set_cons_zero, List.set_cons_succ]
        apply wpDet_plain (.bool true) rfl; (focus (intro W hW; have q0 := hq0 W hW; have q1 := hq1 W hW; go_simp; (first | exact ⟨rfl, Below.refl _ _⟩ | exact Below.refl _ _ | exact ⟨by simp [*], Below.refl _ _⟩))); simp only [Act.put, List.setIfInBounds_toArray, List.set_cons_zero, List.set_cons_succ]
        apply wpDet_plain (.bool true) rfl; (focus (intro W hW; have q0 := hq0 W hW; have q1 := hq1 W hW; go_simp; (first | exact ⟨rfl, Below.refl _ _⟩ | exact Below.refl _ _ | exact ⟨by simp [*], Below.refl _ _⟩))); simp only [Act.put, List.setIfInBounds_toArray, List.set_cons_zero, List.set_cons_succ]
        iterate 2 (apply wpDet_want _ (by kernel_rfl); (focus (intro W hW; have q0 := hq0 W hW; have q1 := hq1 W hW; go_simp; (first | exact ⟨rfl, Below.refl _ _⟩ | exact Below.refl _ _ | exact ⟨by simp [*], Below.refl _ _⟩))); simp only [Act.put, List.setIfInBounds_toArray, List.set_cons_zero, List.set_cons_succ])
        apply wpDet_want _ (by kernel_rfl); (focus (intro W hW; have q0 := hq0 W hW; have q1 := hq1 W hW; go_simp; exact (cR W).mono (fun e w' h => ⟨h.1, by rw [← h.2]; exact Below.refl _ _⟩))); simp only [Act.put, List.setIfInBounds_toArray, List.set_cons_zero, List.set_cons_succ]
        iterate 2 (apply wpDet_want _ (by kernel_rfl); (focus (intro W hW; have q0 := hq0 W hW; have q1 := hq1 W hW; go_simp; (first | exact ⟨rfl, Below.refl _ _⟩ | exact Below.refl _ _ | exact ⟨by simp [*], Below.refl _ _⟩))); simp only [Act.put, List.setIfInBounds_toArray, List.set_cons_zero, List.set_cons_succ])
        apply wpDet_want (.bool true) (by kernel_rfl); (focus (intro W hW; have q0 := hq0 W hW; have q1 := hq1 W hW; go_simp; (first | exact ⟨rfl, Below.refl _ _⟩ | exact Below.refl _ _ | exact ⟨by simp [*], Below.refl _ _⟩))); simp only [Act.put, List.setIfInBounds_toArray, List.set_cons_zero, List.set_cons_succ]
        apply wpDet_plain (.bool true) rfl; (focus (intro W hW; have q0 := hq0 W hW; have q1 := hq1 W hW; go_simp; (first | exact ⟨rfl, Below.refl _ _⟩ | exact Below.refl _ _ | exact ⟨by simp [*], Below.refl _ _⟩))); simp only [Act.put, List.setIfInBounds_toArray, List.set_cons_zero, List.set_cons_succ]
        refine wpDet_nil ?_; intro W hW
        have hbb := below_stepL hb2 hb2.size hW
        clear hq0 hq1 hb2 hW
        go_wp2_with fail
        go_ret
        exact ⟨by rw [HN.out]; rfl, hbb⟩

end Go.Proofs.YtmokcoghigimjaaDoor
