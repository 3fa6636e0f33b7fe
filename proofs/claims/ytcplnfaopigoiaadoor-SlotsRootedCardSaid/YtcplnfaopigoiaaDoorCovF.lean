/-
  CONTRACTS of the reference's rests, uncovered.
  CONDITIONS: each theorem's own hypotheses.
-/
import Derived.Test.YtcplnfaopigoiaaDoorCovE
namespace Go.Proofs.YtcplnfaopigoiaaDoor
open Go.RowKit CodeMath Go.Proofs.YtcplnfaopigoiaaDoor.FrameMath
set_option linter.unusedVariables false
set_option maxRecDepth 100000

abbrev OptB := Option (List UInt8)
theorem sliceL_headZ (ap : Option Addr) (n cap k : Nat) (hk : k ≤ cap) (W : World) : (Instr.slice 24 (.slice ap n cap) none (some (.int .i64 (k : Int))) none).run Tryd.prog W = .ok (.slice ap k cap) W := by
  have hs : (sizeOf (Tryd.prog.elem 24)).run Tryd.prog W = .ok 1 W := by kernel_rfl
  have h := run_slice_h (P := Tryd.prog) W 24 ap n cap (by kernel_rfl) .i64 (k : Int) (by omega) (by omega)
  rw [h, hs, Int.toNat_natCast]
  simp only [Result.andThen, sliced, Nat.sub_zero]
  cases ap with
  | none => simp
  | some a => simp [Addr.add]
def pieceL (ap : Option Addr) (k cap : Nat) : Option Addr := if cap = k then ap else ap.map (·.add (k * 1))
theorem sliceL_tailZ (ap : Option Addr) (n cap k : Nat) (hk : k ≤ n) (W : World) : (Instr.slice 24 (.slice ap n cap) (some (.int .i64 (k : Int))) none none).run Tryd.prog W = .ok (.slice (pieceL ap k cap) (n - k) (cap - k)) W := by
  have hs : (sizeOf (Tryd.prog.elem 24)).run Tryd.prog W = .ok 1 W := by kernel_rfl
  have h := run_slice_l (P := Tryd.prog) W 24 ap n cap (by kernel_rfl) .i64 (k : Int) (by omega) (by omega)
  rw [h, hs, Int.toNat_natCast]
  rfl
theorem linesTake {w : World} {ap : Option Addr} {rows : List (List UInt8)} (h : Lines w ap rows) (k : Nat) : Lines w ap (rows.take k) := by
  rcases h with h | ⟨a, o, h1, h2, h3⟩
  · left; rw [h]; simp
  · exact .inr ⟨a, o, h1, h2, fun i x hx => h3 i x (by rw [List.getElem?_take] at hx; split at hx <;> simp_all)⟩
theorem linesDrop {w : World} {ap : Option Addr} {rows : List (List UInt8)} (h : Lines w ap rows) (k cap : Nat) (hc : rows.length ≤ cap) : Lines w (pieceL ap k cap) (rows.drop k) := by
  unfold pieceL
  split
  · left; exact List.drop_of_length_le (by omega)
  · rcases h with h | ⟨a, o, h1, h2, h3⟩
    · left; rw [h]; simp
    · subst h1
      refine .inr ⟨a, o + k * 1, ?_, h2, fun i x hx => ?_⟩
      · by_cases hk : k = 0
        · subst hk; rfl
        · simp [Addr.add, hk]
      · rw [List.getElem?_drop] at hx
        have := h3 _ x hx
        rw [show o + k * 1 + i = o + (k + i) by omega]
        exact this
theorem resN_small : ∀ (h : Nat) (o : List Bool), resN h o ≤ 2 ^ h
  | 0, o => by unfold resN; split <;> simp
  | h + 1, o => by
    unfold resN
    split
    · have h1 := resN_small h (o.take (2 ^ h))
      have h2 := resN_small h (o.drop (2 ^ h))
      rw [Nat.pow_succ]; omega
    · exact Nat.pow_pos (by decide)
set_option maxHeartbeats 2000000 in
theorem rests_any : ∀ (h : Nat), h ≤ 6 → ∀ (o : List Bool) (ao : Option Addr) (cap : Nat) (w : World), o.length = 2 ^ h → o.length ≤ cap → cap ≤ 9223372036854775807 → Bools w ao o →
    Calls Tryd.prog 47 #[.slice ao o.length cap] w fun e w' => e = .returned (.int .i64 (resN h o : Nat)) ∧ Below w.heap.size w w' := by
  intro h
  induction h with
  | zero =>
    intro h6 o ao cap w ho hcap hq hO
    have cC := count_any o ao cap w (by omega) hO
    cases hc : o.contains true with
    | false =>
      rw [count_none hc] at cC
      rw [resN_none _ _ hc]
      generalize o.length = n at *
      clear hO hc ho hcap hq h6
      go_enter Tryd.func47, Tryd.ntmps47
      go_wp2_with fail
      refine cC.mono ?_
      rintro e w1 ⟨rfl, rfl⟩
      clear cC
      go_wp2_with fail
      go_ret
      exact ⟨rfl, Below.refl _ _⟩
    | true =>
      obtain rfl := bools_one o ho hc
      rw [show ([true] : List Bool).count true = 1 from rfl, show [true].length = 1 from rfl] at cC
      show Calls _ _ #[.slice ao 1 cap] _ (fun e w' => e = .returned (.int .i64 (0 : Nat)) ∧ Below w.heap.size w w')
      clear hO hc ho hcap hq h6
      go_enter Tryd.func47, Tryd.ntmps47
      go_wp2_with fail
      refine cC.mono ?_
      rintro e w1 ⟨rfl, rfl⟩
      clear cC
      go_wp2_with fail
      go_ret
      exact ⟨rfl, Below.refl _ _⟩
  | succ h ih =>
    intro h6 o ao cap w ho hcap hq hO
    have cC := count_any o ao cap w (by omega) hO
    cases hc : o.contains true with
    | false =>
      rw [count_none hc] at cC
      rw [resN_none _ _ hc]
      generalize o.length = n at *
      clear hO hc ho hcap hq h6 ih
      go_enter Tryd.func47, Tryd.ntmps47
      go_wp2_with fail
      refine cC.mono ?_
      rintro e w1 ⟨rfl, rfl⟩
      clear cC
      go_wp2_with fail
      go_ret
      exact ⟨rfl, Below.refl _ _⟩
    | true =>
      have hcnt := count_some hc
      have e1 : 2 ^ (h + 1) = 2 * 2 ^ h := by rw [Nat.pow_succ, Nat.mul_comm]
      have hp : 0 < 2 ^ h := Nat.pow_pos (by decide)
      have h64 : 2 ^ (h + 1) ≤ 2 ^ 6 := Nat.pow_le_pow_right (by decide) h6
      have e6 : 2 ^ 6 = 64 := by decide
      have hl1 : (o.take (2 ^ h)).length = 2 ^ h := by rw [List.length_take]; omega
      have hl2 : (o.drop (2 ^ h)).length = 2 ^ h := by rw [List.length_drop]; omega
      have c1 := fun W (hW : Below w.heap.size w W) => ih (by omega) (o.take (2 ^ h)) ao cap W hl1 (by omega) hq ((hO.keep hW).take _)
      have c2 := fun W (hW : Below w.heap.size w W) => ih (by omega) (o.drop (2 ^ h)) (pieceO ao (2 ^ h) cap) (cap - 2 ^ h) W hl2 (by omega) (by omega) ((hO.keep hW).drop _ _ hcap)
      have hr : resN (h + 1) o = resN h (o.take (2 ^ h)) + resN h (o.drop (2 ^ h)) := by
        show (if o.contains true then _ else _) = _
        rw [hc]; rfl
      have r1 := resN_small h (o.take (2 ^ h))
      have r2 := resN_small h (o.drop (2 ^ h))
      rw [hr]
      rw [hl1] at c1
      rw [hl2] at c2
      have sl1 := fun W => sliceO_first ao o.length cap (2 ^ h) (by omega) W
      have sl2 := fun W => sliceO_last ao o.length cap (2 ^ h) (by omega) W
      have hlen : o.length - 2 ^ h = 2 ^ h := by omega
      rw [hlen] at sl2
      have hNI : ((o.length : Int) == 1) = false := by simp; omega
      have hqI : (o.length : Int) / 2 = ((2 ^ h : Nat) : Int) := by omega
      have h64I : (o.length : Int) ≤ 64 := by omega
      have hcI : (((o.count true : Nat) : Int) == 0) = false := by simp; omega
      generalize o.count true = cn at *
      generalize resN h (o.take (2 ^ h)) = x1 at *
      generalize resN h (o.drop (2 ^ h)) = x2 at *
      generalize 2 ^ h = k at *
      generalize o.length = n at *
      generalize pieceO ao k cap = ao2 at *
      generalize cap - k = cap2 at *
      have hkI : (k : Int) ≤ 32 := by omega
      have hkI0 : (0 : Int) ≤ k := by omega
      have hx1 : (x1 : Int) ≤ 32 := by omega
      have hx2 : (x2 : Int) ≤ 32 := by omega
      have HS : Hid (IntKind.i64.wrap ((x1 : Int) + x2) = ((x1 + x2 : Nat) : Int)) := by show _ = _; rw [IntKind.wrap_i64]; omega
      clear hr hl1 hl2 hlen hO hcap hq ho hp h64 e6 e1 h6 hc ih r1 r2 hcnt
      go_enter Tryd.func47, Tryd.ntmps47
      go_wp2_with fail
      refine cC.mono ?_
      rintro e w1 ⟨rfl, rfl⟩
      clear cC
      go_upto_region 6 with fail
      refine wp_region_det 9 (by kernel_rfl) (by kernel_rfl) (by kernel_rfl) ?_
      simp only [List.take_succ_cons, List.take_zero, List.drop_succ_cons, List.drop_zero]
      iterate 3 (apply wpDet_plain _ rfl; (focus (intro W hW; have q1 := sl1 W; go_simp; exact ⟨rfl, Below.refl _ _⟩)); simp only [Act.put, List.setIfInBounds_toArray, List.set_cons_zero, List.set_cons_succ])
      apply wpDet_plain _ rfl; (focus (intro W hW; go_simp; exact c1 W hW)); simp only [Act.put, List.setIfInBounds_toArray, List.set_cons_zero, List.set_cons_succ]
      iterate 3 (apply wpDet_plain _ rfl; (focus (intro W hW; have q1 := sl2 W; go_simp; exact ⟨rfl, Below.refl _ _⟩)); simp only [Act.put, List.setIfInBounds_toArray, List.set_cons_zero, List.set_cons_succ])
      apply wpDet_plain _ rfl; (focus (intro W hW; go_simp; exact c2 W hW)); simp only [Act.put, List.setIfInBounds_toArray, List.set_cons_zero, List.set_cons_succ]
      apply wpDet_plain _ rfl; (focus (intro W hW; go_simp; exact ⟨rfl, Below.refl _ _⟩)); simp only [Act.put, List.setIfInBounds_toArray, List.set_cons_zero, List.set_cons_succ]
      refine wpDet_nil ?_; intro W hW
      clear c1 c2 sl1 sl2
      go_wp2_with fail
      go_ret
      exact ⟨by rw [← HS.out]; rfl, hW⟩
def CallU (X : Option (List UInt8)) (v : Value) (w : World) : Prop := match X with
  | none => ∃ u : Value, v = .tuple #[u, .bool false]
  | some x => ∃ u, v = .tuple #[u, .bool true] ∧ RowV w u x
def HeadU (X : Option (List UInt8)) (v : Value) (w : World) : Prop := match X with
  | none => True
  | some x => RowV w v x
def FlagU (X : Option (List UInt8)) (v : Value) : Prop := match X with
  | none => v = .bool false
  | some x => v = .bool true
theorem callU_keep {X : Option (List UInt8)} {v : Value} {w w' : World} (h : CallU X v w) (hb : Below w.heap.size w w') : CallU X v w' := by
  cases X with
  | none => exact h
  | some x => obtain ⟨u, h1, h2⟩ := h; exact ⟨u, h1, h2.keep hb⟩
theorem headU_keep {X : Option (List UInt8)} {v : Value} {w w' : World} (h : HeadU X v w) (hb : Below w.heap.size w w') : HeadU X v w' := by
  cases X with
  | none => exact trivial
  | some x => exact RowV.keep h hb
def UncPost (X : Option (List UInt8)) (w : World) (e : Ending) (w' : World) : Prop := (match X with
  | none => ∃ v, e = .returned (.tuple #[v, .bool false])
  | some x => ∃ v, e = .returned (.tuple #[v, .bool true]) ∧ RowV w' v x) ∧ Below w.heap.size w w'
theorem uncR_none (m : Int) (h : Nat) (o : List Bool) (S : List Sl) (R : List (List UInt8)) (hc : o.contains true = false) : uncR m h o S R = R.head? := by
  cases h with
  | zero => unfold uncR; rw [hc]; rfl
  | succ h => unfold uncR; rw [hc]; rfl
def joinU (m : Int) (X1 X2 : Option (List UInt8)) : Option (List UInt8) := match X1 with
  | none => none
  | some a => match X2 with
    | none => none
    | some b => match digR m 2 [a, b] with
      | .err _ => none
      | .ok x => some x
theorem unc_join (m : Int) (X1 X2 : Option (List UInt8)) : (if true = true then (match X1 with
      | none => none
      | some a => match X2 with
        | none => none
        | some b => match digR m 2 [a, b] with
          | .err _ => none
          | .ok x => some x)
    else (none : Option (List UInt8))) = joinU m X1 X2 := rfl
theorem joinU_right (m : Int) (X1 : Option (List UInt8)) : joinU m X1 none = none := by cases X1 <;> rfl
theorem joinU_err {m : Int} {a b : List UInt8} {c : Int} (h : digR m 2 [a, b] = .err c) : joinU m (some a) (some b) = none := by simp only [joinU, h]
theorem joinU_ok {m : Int} {a b x : List UInt8} (h : digR m 2 [a, b] = .ok x) : joinU m (some a) (some b) = some x := by simp only [joinU, h]
theorem uncR_len (m : Int) : ∀ (h : Nat) (o : List Bool) (S : List Sl) (R : List (List UInt8)) (B : Nat), 16777300 ≤ B → (∀ r ∈ R, r.length ≤ B) → ∀ x, uncR m h o S R = some x → x.length ≤ B
  | h, o, S, R, B, hB, hR, x, he => by
    cases hc : o.contains true with
    | false =>
      rw [uncR_none m h o S R hc] at he
      cases R with
      | nil => cases he
      | cons r R => cases he; exact hR _ (by simp)
    | true =>
      cases h with
      | zero =>
        unfold uncR at he
        rw [hc] at he
        simp only [if_true] at he
        cases S with
        | nil => cases he
        | cons s S =>
          simp only at he
          cases hl : leafR m s.f s.s s.d with
          | err e => rw [hl] at he; cases he
          | ok b =>
            rw [hl] at he
            cases he
            have := leafR_length _ _ _ _ _ hl; omega
      | succ h =>
        have e : uncR m (h + 1) o S R = joinU m (uncR m h (o.take (2 ^ h)) (S.take ((o.take (2 ^ h)).count true)) (R.take (resN h (o.take (2 ^ h))))) (uncR m h (o.drop (2 ^ h)) (S.drop ((o.take (2 ^ h)).count true)) (R.drop (resN h (o.take (2 ^ h))))) := by
          show (if o.contains true then _ else _) = _
          rw [hc]
          exact unc_join m _ _
        rw [e] at he
        generalize uncR m h (o.take (2 ^ h)) (S.take ((o.take (2 ^ h)).count true)) (R.take (resN h (o.take (2 ^ h)))) = X1 at he
        generalize uncR m h (o.drop (2 ^ h)) (S.drop ((o.take (2 ^ h)).count true)) (R.drop (resN h (o.take (2 ^ h)))) = X2 at he
        cases X1 with
        | none => cases he
        | some a =>
          cases X2 with
          | none => cases he
          | some b =>
            cases hd : digR m 2 [a, b] with
            | err c => rw [joinU_err hd] at he; cases he
            | ok y => rw [joinU_ok hd] at he; cases he; have := digR_len hd; omega
set_option maxHeartbeats 1000000 in
theorem unc_rest (m : Int) (h : Nat) (o : List Bool) (ao : Option Addr) (co : Nat) (S : List Sl) (aS : Option Addr) (cS : Nat) (R : List (List UInt8)) (aR : Option Addr) (cR : Nat) (w : World) (ho : o.length ≤ 9223372036854775807) (hO : Bools w ao o) (hRn : R.length = resN h o) (r1 : R.length ≤ cR) (hL : Lines w aR R) (hc : o.contains true = false) :
    Calls Tryd.prog 48 #[.int .i64 m, .slice ao o.length co, .agg #[.slice aS S.length cS, .slice aR R.length cR]] w (UncPost (uncR m h o S R) w) := by
  rw [uncR_none m h o S R hc]
  rw [resN_none h o hc] at hRn
  match R, hRn with
  | [r], _ =>
    have hb1 : Below w.heap.size w (w.alloc (.cells #[.slice aS S.length cS, .slice aR 1 cR] 26)) := (Below.refl _ _).alloc (Nat.le_refl _) _
    have cC := count_any o ao co _ ho (hO.keep hb1)
    rw [count_none hc] at cC
    rcases hL with hL | ⟨b, off, rfl, hb, hr⟩
    · cases hL
    · obtain ⟨A, c0, q1, q2, q3, q4, q5⟩ := hr 0 r rfl
      have hcell := (hb1.cell (p := ⟨b, off, none⟩) hb).trans q1
      have hrow := Lib.hid (RowV.keep (w := w) (u := .slice A r.length c0) (l := r) ⟨A, c0, rfl, q2, q3, q4, q5⟩ hb1)
      have HB := Lib.hid hb1
      show Calls _ _ #[.int .i64 m, .slice ao o.length co, .agg #[.slice aS S.length cS, .slice (some ⟨b, off, none⟩) 1 cR]] _ (UncPost (some r) w)
      generalize r.length = r0 at *
      generalize S.length = sl at *
      clear hO ho hc hr q1 q2 q3 q4 q5 hb1 hb r1
      generalize o.length = n at *
      go_enter Tryd.func48, Tryd.ntmps48
      go_wp2_with fail
      refine cC.mono ?_
      rintro e w1 ⟨rfl, rfl⟩
      clear cC
      go_wp2_with fail
      go_ret2
      exact ⟨⟨_, rfl, hrow.out⟩, HB.out⟩
set_option maxHeartbeats 1000000 in
theorem unc_leaf (m : Int) (m0 : -9223372036854775808 ≤ m) (m1 : m ≤ 9223372036854775807) (ao : Option Addr) (co : Nat) (S : List Sl) (aS : Option Addr) (cS : Nat) (R : List (List UInt8)) (aR : Option Addr) (cR : Nat) (w : World) (hO : Bools w ao [true]) (hSn : S.length = [true].count true) (s1 : S.length ≤ cS) (hS : Slots w aS S) :
    Calls Tryd.prog 48 #[.int .i64 m, .slice ao [true].length co, .agg #[.slice aS S.length cS, .slice aR R.length cR]] w (UncPost (uncR m 0 [true] S R) w) := by
  match S, hSn with
  | [x], _ =>
    rw [show [x].length = 1 from rfl, show [true].length = 1 from rfl]
    have hb1 : Below w.heap.size w (w.alloc (.cells #[.slice aS 1 cS, .slice aR R.length cR] 26)) := (Below.refl _ _).alloc (Nat.le_refl _) _
    have cC := count_any [true] ao co _ (by decide) (hO.keep hb1)
    rw [show ([true] : List Bool).count true = 1 from rfl, show [true].length = 1 from rfl] at cC
    rcases hS with hS | ⟨b, off, rfl, hb, hr⟩
    · cases hS
    · obtain ⟨us, ud, q0, q1, q2, q3, q4⟩ := hr 0 x rfl
      rw [Nat.zero_mul, Nat.add_zero] at q0 q1 q2
      have g0 := (hb1.cell (p := ⟨b, off, none⟩) hb).trans q0
      have g1 := (hb1.cell (p := ⟨b, off + 1, none⟩) hb).trans q1
      have g2 := (hb1.cell (p := ⟨b, off + 2, none⟩) hb).trans q2
      have cL := LeafOf_any m x.f x.s x.d us ud _ m0 m1 (q3.keep hb1) (q4.keep hb1)
      have HB := Lib.hid hb1
      have hlR : Hid (∀ c, leafR m x.f x.s x.d = .err c → c ≠ 0) := fun c hc => leafR_ne _ _ _ _ _ hc
      show Calls _ _ _ _ (UncPost (match leafR m x.f x.s x.d with | .err _ => none | .ok b => some b) w)
      obtain ⟨a1, k1, rfl, -⟩ := id q3
      obtain ⟨a2, k2, rfl, -⟩ := id q4
      generalize x.s.length = l1 at *
      generalize x.d.length = l2 at *
      generalize x.f = f at *
      generalize R.length = rl at *
      clear hO hr q0 q1 q2 q3 q4 hb1 hb s1
      cases hX : leafR m f x.s x.d with
      | err c =>
        have hc0 := hlR.out c hX
        rw [hX] at cL
        have hc0 : (c == 0) = false := by simpa using hc0
        clear hX hlR
        show Calls _ _ _ _ (UncPost none w)
        go_enter Tryd.func48, Tryd.ntmps48
        go_wp2_with fail
        refine cC.mono ?_
        rintro e w1 ⟨rfl, rfl⟩
        clear cC
        go_wp2_with fail
        refine cL.mono ?_
        rintro e w3 ⟨rfl, hb3⟩
        clear cL
        go_wp2_with fail
        go_ret2
        exact ⟨⟨_, rfl⟩, below_step HB.out HB.out.size hb3⟩
      | ok z =>
        rw [hX] at cL
        clear hX hlR
        show Calls _ _ _ _ (UncPost (some z) w)
        go_enter Tryd.func48, Tryd.ntmps48
        go_wp2_with fail
        refine cC.mono ?_
        rintro e w1 ⟨rfl, rfl⟩
        clear cC
        go_wp2_with fail
        refine cL.mono ?_
        rintro e w3 ⟨v3, rfl, hr3, hb3⟩
        clear cL
        obtain ⟨a3, k3, rfl, -⟩ := id hr3
        have HR3 := Lib.hid hr3.row
        clear hr3
        generalize z.length = zl at *
        go_wp2_with fail
        go_ret2
        exact ⟨⟨_, rfl, HR3.out⟩, below_step HB.out HB.out.size hb3⟩
def UncF (m : Int) (g n k co : Nat) (ao : Option Addr) (sl cS rl cR n1 n2 : Nat) (aS aR ao2 : Option Addr) (co2 : Nat) (aS2 : Option Addr) (nS2 cS2 : Nat) (aR2 : Option Addr) (nR2 cR2 : Nat) (X : OptB) : Nat → Value → World → Prop
  | 0, v, _ => v = .int .i64 m
  | 1, v, _ => v = .slice ao n co
  | 2, v, _ => v = .int .i64 (k : Int)
  | 3, v, _ => v = .slice ao2 k co2
  | 4, v, _ => v = .pointer (some ⟨g, 0, none⟩)
  | 5, v, _ => v = .slice aS sl cS
  | 6, v, _ => v = .int .i64 (n1 : Int)
  | 7, v, _ => v = .slice aS2 nS2 cS2
  | 8, v, _ => v = .pointer (some ⟨g, 1, none⟩)
  | 9, v, _ => v = .slice aR rl cR
  | 10, v, _ => v = .int .i64 (n2 : Int)
  | 11, v, _ => v = .slice aR2 nR2 cR2
  | 12, v, _ => v = .agg #[.slice aS2 nS2 cS2, .slice aR2 nR2 cR2]
  | 13, v, w => CallU X v w
  | 14, v, w => CallU X v w
  | 15, v, w => HeadU X v w
  | 16, v, w => FlagU X v
  | 17, v, w => HeadU X v w
  | _, _, _ => True
theorem uncF_keep {m : Int} {g n k co : Nat} {ao : Option Addr} {sl cS rl cR n1 n2 : Nat} {aS aR ao2 : Option Addr} {co2 : Nat} {aS2 : Option Addr} {nS2 cS2 : Nat} {aR2 : Option Addr} {nR2 cR2 : Nat} {X : OptB} (i : Nat) (v : Value) (w w' : World) (h : UncF m g n k co ao sl cS rl cR n1 n2 aS aR ao2 co2 aS2 nS2 cS2 aR2 nR2 cR2 X i v w) (he : Below w.heap.size w w') : UncF m g n k co ao sl cS rl cR n1 n2 aS aR ao2 co2 aS2 nS2 cS2 aR2 nR2 cR2 X i v w' := by
  unfold UncF at *
  split at h <;> (try exact h) <;> (try exact trivial)
  · exact callU_keep h he
  · exact callU_keep h he
  · exact headU_keep h he
  · exact headU_keep h he

set_option maxHeartbeats 8000000 in
theorem uncovered_any (m : Int) (m0 : -9223372036854775808 ≤ m) (m1 : m ≤ 9223372036854775807) : ∀ (h : Nat), h ≤ 6 → ∀ (o : List Bool) (ao : Option Addr) (co : Nat) (S : List Sl) (aS : Option Addr) (cS : Nat) (R : List (List UInt8)) (aR : Option Addr) (cR : Nat) (w : World), o.length = 2 ^ h → o.length ≤ co → co ≤ 9223372036854775807 → Bools w ao o →
    S.length = o.count true → S.length ≤ cS → cS ≤ 9223372036854775807 → Slots w aS S → R.length = resN h o → R.length ≤ cR → cR ≤ 9223372036854775807 → (∀ r ∈ R, r.length ≤ 140737488351232) → Lines w aR R →
    Calls Tryd.prog 48 #[.int .i64 m, .slice ao o.length co, .agg #[.slice aS S.length cS, .slice aR R.length cR]] w (UncPost (uncR m h o S R) w) := by
  intro h
  induction h with
  | zero =>
    intro h6 o ao co S aS cS R aR cR w ho hco hqo hO hSn s1 s2 hS hRn r1 r2 hR hL
    have cC := count_any o ao co
    cases hc : o.contains true with
    | false => exact unc_rest m 0 o ao co S aS cS R aR cR w (by omega) hO hRn r1 hL hc
    | true =>
      obtain rfl := bools_one o ho hc
      exact unc_leaf m m0 m1 ao co S aS cS R aR cR w hO hSn s1 hS
  | succ h ih =>
    intro h6 o ao co S aS cS R aR cR w ho hco hqo hO hSn s1 s2 hS hRn r1 r2 hR hL
    have e1 : 2 ^ (h + 1) = 2 * 2 ^ h := by rw [Nat.pow_succ, Nat.mul_comm]
    have hp : 0 < 2 ^ h := Nat.pow_pos (by decide)
    have h64 : 2 ^ (h + 1) ≤ 2 ^ 6 := Nat.pow_le_pow_right (by decide) h6
    have e6 : 2 ^ 6 = 64 := by decide
    cases hc : o.contains true with
    | false => exact unc_rest m (h + 1) o ao co S aS cS R aR cR w (by omega) hO hRn r1 hL hc
    | true =>
      have hcnt := count_some hc
      have hl1 : (o.take (2 ^ h)).length = 2 ^ h := by rw [List.length_take]; omega
      have hl2 : (o.drop (2 ^ h)).length = 2 ^ h := by rw [List.length_drop]; omega
      have hcn : o.count true = (o.take (2 ^ h)).count true + (o.drop (2 ^ h)).count true := by rw [← List.count_append, List.take_append_drop]
      have hrn : resN (h + 1) o = resN h (o.take (2 ^ h)) + resN h (o.drop (2 ^ h)) := by
        show (if o.contains true then _ else _) = _
        rw [hc]; rfl
      have hX : uncR m (h + 1) o S R = joinU m (uncR m h (o.take (2 ^ h)) (S.take ((o.take (2 ^ h)).count true)) (R.take (resN h (o.take (2 ^ h))))) (uncR m h (o.drop (2 ^ h)) (S.drop ((o.take (2 ^ h)).count true)) (R.drop (resN h (o.take (2 ^ h))))) := by
        show (if o.contains true then _ else _) = _
        rw [hc]
        exact unc_join m _ _
      rw [hX]
      have sm1 := List.count_le_length (a := true) (l := o.take (2 ^ h))
      have sm2 := resN_small h (o.take (2 ^ h))
      have cC := count_any o ao co (w.alloc (.cells #[.slice aS S.length cS, .slice aR R.length cR] 26)) (by omega) (hO.keep ((Below.refl _ _).alloc (Nat.le_refl _) _))
      have cN1 := fun W (hW : Below w.heap.size w W) => count_any (o.take (2 ^ h)) ao co W (by omega) ((hO.keep hW).take _)
      have cN2 := fun W (hW : Below w.heap.size w W) => rests_any h (by omega) (o.take (2 ^ h)) ao co W hl1 (by omega) hqo ((hO.keep hW).take _)
      have c1 := fun W (hW : Below w.heap.size w W) => ih (by omega) (o.take (2 ^ h)) ao co (S.take ((o.take (2 ^ h)).count true)) aS cS (R.take (resN h (o.take (2 ^ h)))) aR cR W hl1 (by omega) hqo ((hO.keep hW).take _) (by rw [List.length_take]; omega) (by rw [List.length_take]; omega) s2 ((hS.keep hW).take _) (by rw [List.length_take]; omega) (by rw [List.length_take]; omega) r2 (fun r hr => hR r (List.mem_of_mem_take hr)) (linesTake (hL.keep hW) _)
      have c2 := fun W (hW : Below w.heap.size w W) => ih (by omega) (o.drop (2 ^ h)) (pieceO ao (2 ^ h) co) (co - 2 ^ h) (S.drop ((o.take (2 ^ h)).count true)) (pieceS aS ((o.take (2 ^ h)).count true) cS) (cS - (o.take (2 ^ h)).count true) (R.drop (resN h (o.take (2 ^ h)))) (pieceL aR (resN h (o.take (2 ^ h))) cR) (cR - resN h (o.take (2 ^ h))) W hl2 (by omega) (by omega) ((hO.keep hW).drop _ _ hco) (by rw [List.length_drop]; omega) (by rw [List.length_drop]; omega) (by omega) ((hS.keep hW).drop _ _ s1) (by rw [List.length_drop]; omega) (by rw [List.length_drop]; omega) (by omega) (fun r hr => hR r (List.mem_of_mem_drop hr)) (linesDrop (hL.keep hW) _ _ r1)
      have hB1 := uncR_len m h (o.take (2 ^ h)) (S.take ((o.take (2 ^ h)).count true)) (R.take (resN h (o.take (2 ^ h)))) 140737488351232 (by decide) (fun r hr => hR r (List.mem_of_mem_take hr))
      have hB2 := uncR_len m h (o.drop (2 ^ h)) (S.drop ((o.take (2 ^ h)).count true)) (R.drop (resN h (o.take (2 ^ h)))) 140737488351232 (by decide) (fun r hr => hR r (List.mem_of_mem_drop hr))
      rw [hl1] at c1 cN1 cN2
      rw [hl2] at c2
      have lt1 : (S.take ((o.take (2 ^ h)).count true)).length = (o.take (2 ^ h)).count true := by rw [List.length_take]; omega
      have lt2 : (R.take (resN h (o.take (2 ^ h)))).length = resN h (o.take (2 ^ h)) := by rw [List.length_take]; omega
      have ld1 : (S.drop ((o.take (2 ^ h)).count true)).length = S.length - (o.take (2 ^ h)).count true := by rw [List.length_drop]
      have ld2 : (R.drop (resN h (o.take (2 ^ h)))).length = R.length - resN h (o.take (2 ^ h)) := by rw [List.length_drop]
      rw [lt1, lt2] at c1
      rw [ld1, ld2] at c2
      have SA : (∀ W, _) ∧ (∀ W, _) ∧ (∀ W, _) := ⟨fun W => sliceO_first ao o.length co (2 ^ h) (by omega) W, fun W => sliceS_first aS S.length cS ((o.take (2 ^ h)).count true) (by omega) W, fun W => sliceL_headZ aR R.length cR (resN h (o.take (2 ^ h))) (by omega) W⟩
      have SB : (∀ W, _) ∧ (∀ W, _) ∧ (∀ W, _) := ⟨fun W => sliceO_last ao o.length co (2 ^ h) (by omega) W, fun W => sliceS_last aS S.length cS ((o.take (2 ^ h)).count true) (by omega) W, fun W => sliceL_tailZ aR R.length cR (resN h (o.take (2 ^ h))) (by omega) W⟩
      have hlen : o.length - 2 ^ h = 2 ^ h := by omega
      rw [hlen] at SB
      have hNI : ((o.length : Int) == 1) = false := by simp; omega
      have hqI : (o.length : Int) / 2 = ((2 ^ h : Nat) : Int) := by omega
      have h64I : (o.length : Int) ≤ 64 := by omega
      have hcI : (((o.count true : Nat) : Int) == 0) = false := by simp; omega
      generalize uncR m h (o.take (2 ^ h)) (S.take ((o.take (2 ^ h)).count true)) (R.take (resN h (o.take (2 ^ h)))) = X1 at *
      generalize uncR m h (o.drop (2 ^ h)) (S.drop ((o.take (2 ^ h)).count true)) (R.drop (resN h (o.take (2 ^ h)))) = X2 at *
      have hn1 : (((o.take (2 ^ h)).count true : Nat) : Int) ≤ 64 := by omega
      have hn2 : ((resN h (o.take (2 ^ h)) : Nat) : Int) ≤ 64 := by omega
      generalize o.count true = cn at *
      generalize (o.take (2 ^ h)).count true = n1 at *
      generalize resN h (o.take (2 ^ h)) = n2 at *
      generalize 2 ^ h = k at *
      generalize o.length = n at *
      generalize pieceO ao k co = ao2 at *
      generalize co - k = co2 at *
      generalize pieceS aS n1 cS = aS2 at *
      generalize cS - n1 = cS2 at *
      generalize pieceL aR n2 cR = aR2 at *
      generalize cR - n2 = cR2 at *
      generalize S.length - n1 = nS2 at *
      generalize R.length - n2 = nR2 at *
      generalize S.length = sl at *
      generalize R.length = rl at *
      have hkI : (k : Int) ≤ 32 := by omega
      have hkI0 : (0 : Int) ≤ k := by omega
      obtain ⟨w1, hw1⟩ : ∃ w1, w.alloc (.cells #[.slice aS sl cS, .slice aR rl cR] 26) = w1 := ⟨_, rfl⟩
      have hb1 : Below w.heap.size w w1 := by rw [← hw1]; exact (Below.refl _ _).alloc (Nat.le_refl _) _
      have hz : CovB w1 w.heap.size (.slice aS sl cS) (.slice aR rl cR) := by rw [← hw1]; exact Blk.new w #[.slice aS sl cS, .slice aR rl cR] 26
      have Q0 : ∀ W, Below w1.heap.size w1 W → W.cell? ⟨w.heap.size, 0, none⟩ = some (.slice aS sl cS) := fun W hW => Blk.cell (hz.keep hW) rfl
      have Q1 : ∀ W, Below w1.heap.size w1 W → W.cell? ⟨w.heap.size, 1, none⟩ = some (.slice aR rl cR) := fun W hW => Blk.cell (hz.keep hW) rfl
      have HC1 : ∀ W, Below w1.heap.size w1 W → _ := fun W hW => c1 W (below_step hb1 hb1.size hW)
      have HC2 : ∀ W, Below w1.heap.size w1 W → _ := fun W hW => c2 W (below_step hb1 hb1.size hW)
      have D1 : ∀ W, Below w1.heap.size w1 W → _ := fun W hW => cN1 W (below_step hb1 hb1.size hW)
      have D2 : ∀ W, Below w1.heap.size w1 W → _ := fun W hW => cN2 W (below_step hb1 hb1.size hW)
      have HB := Lib.hid hb1
      rw [hw1] at cC
      have HBL := Lib.hid (And.intro hB1 hB2)
      clear hX hl1 hl2 hlen hO hco hqo ho hp h64 e6 e1 h6 hc ih hcnt hcn hrn sm1 sm2 cN1 cN2 c1 c2 lt1 lt2 ld1 ld2 hSn s1 s2 hS hRn r1 r2 hR hL hz hb1 hB1 hB2
      go_enter Tryd.func48, Tryd.ntmps48
      go_upto_region 1 with fail
      clear hw1
      go_wp2_with fail
      refine cC.mono ?_
      rintro e w2 ⟨rfl, rfl⟩
      clear cC
      go_upto_region 7 with fail
      refine wp_region_det 9 (by kernel_rfl) (by kernel_rfl) (by kernel_rfl) ?_
      simp only [List.take_succ_cons, List.take_zero, List.drop_succ_cons, List.drop_zero]
      iterate 3 (apply wpDet_plain _ rfl; (focus (intro W hW; have q1 := SA.1 W; go_simp; exact ⟨rfl, Below.refl _ _⟩)); simp only [Act.put, List.setIfInBounds_toArray, List.set_cons_zero, List.set_cons_succ])
      apply wpDet_plain _ rfl; (focus (intro W hW; go_simp; exact (D1 W hW).mono (fun e w' hh => ⟨hh.1, by rw [← hh.2]; exact Below.refl _ _⟩))); simp only [Act.put, List.setIfInBounds_toArray, List.set_cons_zero, List.set_cons_succ]
      iterate 3 (apply wpDet_plain _ rfl; (focus (intro W hW; have q1 := SA.1 W; go_simp; exact ⟨rfl, Below.refl _ _⟩)); simp only [Act.put, List.setIfInBounds_toArray, List.set_cons_zero, List.set_cons_succ])
      apply wpDet_plain _ rfl; (focus (intro W hW; go_simp; exact D2 W hW)); simp only [Act.put, List.setIfInBounds_toArray, List.set_cons_zero, List.set_cons_succ]
      apply wpDet_plain _ rfl; (focus (intro W hW; go_simp; exact ⟨rfl, Below.refl _ _⟩)); simp only [Act.put, List.setIfInBounds_toArray, List.set_cons_zero, List.set_cons_succ]
      refine wpDet_nil ?_; intro W7 hW7
      clear D1 D2
      go_upto_region 8 with fail
      refine wp_region_facts' 18 (by kernel_rfl) (by kernel_rfl) (UncF m w.heap.size n k co ao sl cS rl cR n1 n2 aS aR ao co aS n1 cS aR n2 cR X1) (fun W => Below w1.heap.size w1 W) (fun W W' => Below W.heap.size W W') ?hC ?hF ?h0 ?hstep ?hdone
      case hC => exact fun W W' hc he => below_step hc hc.size he
      case hF => exact uncF_keep
      case h0 => exact (below_step hW7 hW7.size (Below.refl _ _).drew)
      case hstep =>
        intro i hj vs act W K ha' hc hd hu hK
        simp only [fillF, Act.put, List.take_succ_cons, List.take_zero, List.setIfInBounds_toArray, List.set_cons_zero, List.set_cons_succ] at ha'
        subst ha'
        clear hu
        rcases (show i = 0 ∨ i = 1 ∨ i = 2 ∨ i = 3 ∨ i = 4 ∨ i = 5 ∨ i = 6 ∨ i = 7 ∨ i = 8 ∨ i = 9 ∨ i = 10 ∨ i = 11 ∨ i = 12 ∨ i = 13 ∨ i = 14 ∨ i = 15 ∨ i = 16 ∨ i = 17 by omega) with rfl | rfl | rfl | rfl | rfl | rfl | rfl | rfl | rfl | rfl | rfl | rfl | rfl | rfl | rfl | rfl | rfl | rfl
        · refine wpOp_step rfl (fun K' hK' => ?_)
          go_simp
          exact hK' _ _ (hK _ _ rfl (Below.refl _ _))
        · refine wpOp_step rfl (fun K' hK' => ?_)
          go_simp
          exact hK' _ _ (hK _ _ rfl (Below.refl _ _))
        · refine wpOp_step rfl (fun K' hK' => ?_)
          go_simp
          exact hK' _ _ (hK _ _ rfl (Below.refl _ _))
        · have e1 : vs 1 = .slice ao n co := hd 1 (by kernel_rfl)
          have e2 : vs 2 = .int .i64 (k : Int) := hd 2 (by kernel_rfl)
          simp only [e1, e2] at hK ⊢
          have q1 := SA.1 W
          refine wpOp_step rfl (fun K' hK' => ?_)
          go_simp
          exact hK' _ _ (hK _ _ rfl (Below.refl _ _))
        · refine wpOp_step rfl (fun K' hK' => ?_)
          go_simp
          exact hK' _ _ (hK _ _ rfl (Below.refl _ _))
        · have e4 : vs 4 = .pointer (some ⟨w.heap.size, 0, none⟩) := hd 4 (by kernel_rfl)
          simp only [e4] at hK ⊢
          have q1 := Q0 W hc
          refine wpOp_step rfl (fun K' hK' => ?_)
          go_simp
          exact hK' _ _ (hK _ _ rfl (Below.refl _ _))
        · refine wpOp_step rfl (fun K' hK' => ?_)
          go_simp
          exact hK' _ _ (hK _ _ rfl (Below.refl _ _))
        · have e5 : vs 5 = .slice aS sl cS := hd 5 (by kernel_rfl)
          have e6 : vs 6 = .int .i64 (n1 : Int) := hd 6 (by kernel_rfl)
          simp only [e5, e6] at hK ⊢
          have q1 := SA.2.1 W
          refine wpOp_step rfl (fun K' hK' => ?_)
          go_simp
          exact hK' _ _ (hK _ _ rfl (Below.refl _ _))
        · refine wpOp_step rfl (fun K' hK' => ?_)
          go_simp
          exact hK' _ _ (hK _ _ rfl (Below.refl _ _))
        · have e8 : vs 8 = .pointer (some ⟨w.heap.size, 1, none⟩) := hd 8 (by kernel_rfl)
          simp only [e8] at hK ⊢
          have q1 := Q1 W hc
          refine wpOp_step rfl (fun K' hK' => ?_)
          go_simp
          exact hK' _ _ (hK _ _ rfl (Below.refl _ _))
        · refine wpOp_step rfl (fun K' hK' => ?_)
          go_simp
          exact hK' _ _ (hK _ _ rfl (Below.refl _ _))
        · have e9 : vs 9 = .slice aR rl cR := hd 9 (by kernel_rfl)
          have e10 : vs 10 = .int .i64 (n2 : Int) := hd 10 (by kernel_rfl)
          simp only [e9, e10] at hK ⊢
          have q1 := SA.2.2 W
          refine wpOp_step rfl (fun K' hK' => ?_)
          go_simp
          exact hK' _ _ (hK _ _ rfl (Below.refl _ _))
        · have e7 : vs 7 = .slice aS n1 cS := hd 7 (by kernel_rfl)
          have e11 : vs 11 = .slice aR n2 cR := hd 11 (by kernel_rfl)
          simp only [e7, e11] at hK ⊢
          refine wpOp_step rfl (fun K' hK' => ?_)
          go_simp
          exact hK' _ _ (hK _ _ rfl (Below.refl _ _))
        · have e0 : vs 0 = .int .i64 m := hd 0 (by kernel_rfl)
          have e3 : vs 3 = .slice ao k co := hd 3 (by kernel_rfl)
          have e12 : vs 12 = .agg #[.slice aS n1 cS, .slice aR n2 cR] := hd 12 (by kernel_rfl)
          simp only [e0, e3, e12] at hK ⊢
          refine wpOp_step rfl (fun K' hK' => ?_)
          go_simp
          refine (HC1 W hc).mono ?_
          intro e W' hpost
          cases X1 with
          | none =>
            obtain ⟨⟨v3, rfl⟩, hb3⟩ := hpost
            exact hK' _ _ (hK _ _ ⟨v3, rfl⟩ hb3)
          | some t =>
            obtain ⟨⟨v3, rfl, hr3⟩, hb3⟩ := hpost
            exact hK' _ _ (hK _ _ ⟨v3, rfl, hr3⟩ hb3)
        · have y13 : CallU X1 (vs 13) W := hd 13 (by kernel_rfl)
          refine wpOp_step rfl (fun K' hK' => ?_)
          go_simp
          exact hK' _ _ (hK _ _ y13 (Below.refl _ _))
        · have y14 : CallU X1 (vs 14) W := hd 14 (by kernel_rfl)
          cases X1 with
          | none =>
            obtain ⟨u, e14⟩ := y14
            simp only [e14] at hK ⊢
            refine wpOp_step rfl (fun K' hK' => ?_)
            go_simp
            exact hK' _ _ (hK _ _ trivial (Below.refl _ _))
          | some t =>
            obtain ⟨u, e14, hr⟩ := y14
            simp only [e14] at hK ⊢
            refine wpOp_step rfl (fun K' hK' => ?_)
            go_simp
            exact hK' _ _ (hK _ _ hr (Below.refl _ _))
        · have y14 : CallU X1 (vs 14) W := hd 14 (by kernel_rfl)
          cases X1 with
          | none =>
            obtain ⟨u, e14⟩ := y14
            simp only [e14] at hK ⊢
            refine wpOp_step rfl (fun K' hK' => ?_)
            go_simp
            exact hK' _ _ (hK _ _ rfl (Below.refl _ _))
          | some t =>
            obtain ⟨u, e14, hr⟩ := y14
            simp only [e14] at hK ⊢
            refine wpOp_step rfl (fun K' hK' => ?_)
            go_simp
            exact hK' _ _ (hK _ _ rfl (Below.refl _ _))
        · have y15 : HeadU X1 (vs 15) W := hd 15 (by kernel_rfl)
          refine wpOp_step rfl (fun K' hK' => ?_)
          go_simp
          exact hK' _ _ (hK _ _ y15 (Below.refl _ _))
      case hdone =>
        intro vs act W ha' hc hf
        simp only [fillF, Act.put, List.take_succ_cons, List.take_zero, List.drop_succ_cons, List.drop_zero, List.setIfInBounds_toArray, List.set_cons_zero, List.set_cons_succ] at ha' ⊢
        subst ha'
        have f15 : HeadU X1 (vs 17) W := hf 17 (by decide)
        have f16 : FlagU X1 (vs 16) := hf 16 (by decide)
        simp only [Nat.zero_add, Nat.reduceAdd]
        clear hf SA HC1
        have hc8 := hc
        clear hc
        obtain ⟨W8, hW8⟩ : ∃ W8, W8 = W := ⟨_, rfl⟩
        subst hW8
        generalize vs 17 = v13 at *
        generalize vs 16 = v14 at *
        clear hW7
        have Q0 : ∀ W, Below W8.heap.size W8 W → _ := fun W hW => Q0 W (below_step hc8 hc8.size hW)
        have Q1 : ∀ W, Below W8.heap.size W8 W → _ := fun W hW => Q1 W (below_step hc8 hc8.size hW)
        have HC2 : ∀ W, Below W8.heap.size W8 W → _ := fun W hW => HC2 W (below_step hc8 hc8.size hW)
        have HB8 := Lib.hid (below_step HB.out HB.out.size hc8)
        clear HB hc8
        go_upto_region 9 with fail
        refine wp_region_facts' 18 (by kernel_rfl) (by kernel_rfl) (UncF m w.heap.size n k co ao sl cS rl cR n1 n2 aS aR ao2 co2 aS2 nS2 cS2 aR2 nR2 cR2 X2) (fun W => Below W8.heap.size W8 W) (fun W W' => Below W.heap.size W W') ?hC ?hF ?h0 ?hstep ?hdone
        case hC => exact fun W W' hc he => below_step hc hc.size he
        case hF => exact uncF_keep
        case h0 => exact (Below.refl _ _).drew
        case hstep =>
          intro i hj vs act W K ha' hc hd hu hK
          simp only [fillF, Act.put, List.take_succ_cons, List.take_zero, List.setIfInBounds_toArray, List.set_cons_zero, List.set_cons_succ] at ha'
          subst ha'
          clear hu
          rcases (show i = 0 ∨ i = 1 ∨ i = 2 ∨ i = 3 ∨ i = 4 ∨ i = 5 ∨ i = 6 ∨ i = 7 ∨ i = 8 ∨ i = 9 ∨ i = 10 ∨ i = 11 ∨ i = 12 ∨ i = 13 ∨ i = 14 ∨ i = 15 ∨ i = 16 ∨ i = 17 by omega) with rfl | rfl | rfl | rfl | rfl | rfl | rfl | rfl | rfl | rfl | rfl | rfl | rfl | rfl | rfl | rfl | rfl | rfl
          · refine wpOp_step rfl (fun K' hK' => ?_)
            go_simp
            exact hK' _ _ (hK _ _ rfl (Below.refl _ _))
          · refine wpOp_step rfl (fun K' hK' => ?_)
            go_simp
            exact hK' _ _ (hK _ _ rfl (Below.refl _ _))
          · refine wpOp_step rfl (fun K' hK' => ?_)
            go_simp
            exact hK' _ _ (hK _ _ rfl (Below.refl _ _))
          · have e1 : vs 1 = .slice ao n co := hd 1 (by kernel_rfl)
            have e2 : vs 2 = .int .i64 (k : Int) := hd 2 (by kernel_rfl)
            simp only [e1, e2] at hK ⊢
            have q1 := SB.1 W
            refine wpOp_step rfl (fun K' hK' => ?_)
            go_simp
            exact hK' _ _ (hK _ _ rfl (Below.refl _ _))
          · refine wpOp_step rfl (fun K' hK' => ?_)
            go_simp
            exact hK' _ _ (hK _ _ rfl (Below.refl _ _))
          · have e4 : vs 4 = .pointer (some ⟨w.heap.size, 0, none⟩) := hd 4 (by kernel_rfl)
            simp only [e4] at hK ⊢
            have q1 := Q0 W hc
            refine wpOp_step rfl (fun K' hK' => ?_)
            go_simp
            exact hK' _ _ (hK _ _ rfl (Below.refl _ _))
          · refine wpOp_step rfl (fun K' hK' => ?_)
            go_simp
            exact hK' _ _ (hK _ _ rfl (Below.refl _ _))
          · have e5 : vs 5 = .slice aS sl cS := hd 5 (by kernel_rfl)
            have e6 : vs 6 = .int .i64 (n1 : Int) := hd 6 (by kernel_rfl)
            simp only [e5, e6] at hK ⊢
            have q1 := SB.2.1 W
            refine wpOp_step rfl (fun K' hK' => ?_)
            go_simp
            exact hK' _ _ (hK _ _ rfl (Below.refl _ _))
          · refine wpOp_step rfl (fun K' hK' => ?_)
            go_simp
            exact hK' _ _ (hK _ _ rfl (Below.refl _ _))
          · have e8 : vs 8 = .pointer (some ⟨w.heap.size, 1, none⟩) := hd 8 (by kernel_rfl)
            simp only [e8] at hK ⊢
            have q1 := Q1 W hc
            refine wpOp_step rfl (fun K' hK' => ?_)
            go_simp
            exact hK' _ _ (hK _ _ rfl (Below.refl _ _))
          · refine wpOp_step rfl (fun K' hK' => ?_)
            go_simp
            exact hK' _ _ (hK _ _ rfl (Below.refl _ _))
          · have e9 : vs 9 = .slice aR rl cR := hd 9 (by kernel_rfl)
            have e10 : vs 10 = .int .i64 (n2 : Int) := hd 10 (by kernel_rfl)
            simp only [e9, e10] at hK ⊢
            have q1 := SB.2.2 W
            refine wpOp_step rfl (fun K' hK' => ?_)
            go_simp
            exact hK' _ _ (hK _ _ rfl (Below.refl _ _))
          · have e7 : vs 7 = .slice aS2 nS2 cS2 := hd 7 (by kernel_rfl)
            have e11 : vs 11 = .slice aR2 nR2 cR2 := hd 11 (by kernel_rfl)
            simp only [e7, e11] at hK ⊢
            refine wpOp_step rfl (fun K' hK' => ?_)
            go_simp
            exact hK' _ _ (hK _ _ rfl (Below.refl _ _))
          · have e0 : vs 0 = .int .i64 m := hd 0 (by kernel_rfl)
            have e3 : vs 3 = .slice ao2 k co2 := hd 3 (by kernel_rfl)
            have e12 : vs 12 = .agg #[.slice aS2 nS2 cS2, .slice aR2 nR2 cR2] := hd 12 (by kernel_rfl)
            simp only [e0, e3, e12] at hK ⊢
            refine wpOp_step rfl (fun K' hK' => ?_)
            go_simp
            refine (HC2 W hc).mono ?_
            intro e W' hpost
            cases X2 with
            | none =>
              obtain ⟨⟨v3, rfl⟩, hb3⟩ := hpost
              exact hK' _ _ (hK _ _ ⟨v3, rfl⟩ hb3)
            | some t =>
              obtain ⟨⟨v3, rfl, hr3⟩, hb3⟩ := hpost
              exact hK' _ _ (hK _ _ ⟨v3, rfl, hr3⟩ hb3)
          · have y13 : CallU X2 (vs 13) W := hd 13 (by kernel_rfl)
            refine wpOp_step rfl (fun K' hK' => ?_)
            go_simp
            exact hK' _ _ (hK _ _ y13 (Below.refl _ _))
          · have y14 : CallU X2 (vs 14) W := hd 14 (by kernel_rfl)
            cases X2 with
            | none =>
              obtain ⟨u, e14⟩ := y14
              simp only [e14] at hK ⊢
              refine wpOp_step rfl (fun K' hK' => ?_)
              go_simp
              exact hK' _ _ (hK _ _ trivial (Below.refl _ _))
            | some t =>
              obtain ⟨u, e14, hr⟩ := y14
              simp only [e14] at hK ⊢
              refine wpOp_step rfl (fun K' hK' => ?_)
              go_simp
              exact hK' _ _ (hK _ _ hr (Below.refl _ _))
          · have y14 : CallU X2 (vs 14) W := hd 14 (by kernel_rfl)
            cases X2 with
            | none =>
              obtain ⟨u, e14⟩ := y14
              simp only [e14] at hK ⊢
              refine wpOp_step rfl (fun K' hK' => ?_)
              go_simp
              exact hK' _ _ (hK _ _ rfl (Below.refl _ _))
            | some t =>
              obtain ⟨u, e14, hr⟩ := y14
              simp only [e14] at hK ⊢
              refine wpOp_step rfl (fun K' hK' => ?_)
              go_simp
              exact hK' _ _ (hK _ _ rfl (Below.refl _ _))
          · have y15 : HeadU X2 (vs 15) W := hd 15 (by kernel_rfl)
            refine wpOp_step rfl (fun K' hK' => ?_)
            go_simp
            exact hK' _ _ (hK _ _ y15 (Below.refl _ _))
        case hdone =>
          intro vs act W ha' hc hf
          simp only [fillF, Act.put, List.take_succ_cons, List.take_zero, List.drop_succ_cons, List.drop_zero, List.setIfInBounds_toArray, List.set_cons_zero, List.set_cons_succ] at ha' ⊢
          subst ha'
          have f17 : HeadU X2 (vs 17) W := hf 17 (by decide)
          have f18 : FlagU X2 (vs 16) := hf 16 (by decide)
          simp only [Nat.zero_add, Nat.reduceAdd]
          clear hf SB HC2 Q0 Q1
          generalize vs 17 = v15 at *
          generalize vs 16 = v16 at *
          have HBW := Lib.hid (below_step HB8.out HB8.out.size hc)
          cases X1 with
          | none =>
            obtain rfl : v14 = .bool false := f16
            clear hc f15 f17
            cases X2 with
            | none =>
              obtain rfl : v16 = .bool false := f18
              go_wp2_with fail
              go_ret2
              exact ⟨⟨_, rfl⟩, HBW.out⟩
            | some b =>
              obtain rfl : v16 = .bool true := f18
              go_wp2_with fail
              go_ret2
              exact ⟨⟨_, rfl⟩, HBW.out⟩
          | some a =>
            obtain rfl : v14 = .bool true := f16
            cases X2 with
            | none =>
              obtain rfl : v16 = .bool false := f18
              clear hc f15 f17
              go_wp2_with fail
              go_ret2
              exact ⟨⟨_, rfl⟩, HBW.out⟩
            | some b =>
              obtain rfl : v16 = .bool true := f18
              have hra : RowV W v13 a := RowV.keep f15 hc
              have hrb : RowV W v15 b := f17
              obtain ⟨aa, ka, rfl, -⟩ := id hra
              obtain ⟨ab, kb, rfl, -⟩ := id hrb
              have ha := HBL.out.1 a rfl
              have hb := HBL.out.2 b rfl
              have hlin := lines_two W _ _ 32 _ _ hra hrb
              have hba : Below W.heap.size W (W.alloc (.cells #[.slice aa a.length ka, .slice ab b.length kb] 32)) := (Below.refl _ _).alloc (Nat.le_refl _) _
              have cD := DigestOf_any m 2 [a, b] _ 2 _ m0 m1 (by decide) (by decide) (by simp) (fun l hl => by simp at hl; rcases hl with rfl | rfl <;> omega) hlin
              rw [show [a, b].length = 2 from rfl] at cD
              have hDn : Hid (∀ c, digR m 2 [a, b] = .err c → c ≠ 0) := fun c hc => digR_ne hc
              have HBA := Lib.hid (below_step HBW.out HBW.out.size hba)
              clear hc f15 f17 hra hrb ha hb hlin hba
              generalize a.length = la at *
              generalize b.length = lb at *
              cases hD : digR m 2 [a, b] with
              | err c =>
                have HD := Lib.hid hD
                have hc0 : (c == 0) = false := by have := hDn.out c hD; simpa using this
                rw [hD] at cD
                clear hDn hD
                go_wp2_with fail
                refine cD.mono ?_
                rintro e W6 ⟨rfl, hb6⟩
                clear cD
                go_wp2_with fail
                go_ret2
                rw [joinU_err HD.out]
                exact ⟨⟨_, rfl⟩, below_step HBA.out HBA.out.size hb6⟩
              | ok x =>
                have HD := Lib.hid hD
                rw [hD] at cD
                clear hDn hD
                go_wp2_with fail
                refine cD.mono ?_
                rintro e W6 ⟨v6, rfl, hr6, hb6⟩
                obtain ⟨a6, k6, rfl, -⟩ := id hr6
                have HR6 := Lib.hid hr6.row
                clear cD hr6
                generalize x.length = lx at *
                go_wp2_with fail
                go_ret2
                rw [joinU_ok HD.out]
                exact ⟨⟨_, rfl, HR6.out⟩, below_step HBA.out HBA.out.size hb6⟩
end Go.Proofs.YtcplnfaopigoiaaDoor
