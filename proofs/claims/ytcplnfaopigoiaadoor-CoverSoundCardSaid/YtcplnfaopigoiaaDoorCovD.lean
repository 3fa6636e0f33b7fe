/-
  CONTRACT of package slots' Rooted.
  CONDITIONS: package sum's roundWords hold what their initialiser lays ('KW').
-/
import Derived.Test.YtcplnfaopigoiaaDoorCovC
namespace Go.Proofs.YtcplnfaopigoiaaDoor
open Go.RowKit CodeMath Go.Proofs.YtcplnfaopigoiaaDoor.FrameMath
set_option linter.unusedVariables false
set_option maxRecDepth 100000

theorem bools_one : ∀ (o : List Bool), o.length = 1 → o.contains true = true → o = [true]
  | [true], _, _ => rfl
  | [false], _, h => by cases h
theorem RtPost.some_inv {w0 W W' : World} {g md rt : Nat} {m : Int} {x : List UInt8} {S : List Sl} {R : List (List UInt8)} {e : Ending} (h : RtPost w0 W g md rt m (some (x, S, R)) e W') : ∃ v, e = .returned (.tuple #[v, .int .i64 0]) ∧ RowV W' v x ∧ RtW w0 W' g md rt m S R ∧ W.grownBy W' (some g) := by
  obtain ⟨h1, v, h2, h3, h4⟩ := h
  exact ⟨v, h2, h3, h4, h1⟩
theorem RtPost.none_inv {w0 W W' : World} {g md rt : Nat} {m : Int} {e : Ending} (h : RtPost w0 W g md rt m none e W') : ∃ v c, e = .returned (.tuple #[v, .int .i64 c]) ∧ c ≠ 0 ∧ W.grownBy W' (some g) := by
  obtain ⟨h1, v, c, h2, h3⟩ := h
  exact ⟨v, c, h2, h3, h1⟩
theorem RtPost.before {w0 W W1 W' : World} {g md rt : Nat} {m : Int} {X : Option (List UInt8 × List Sl × List (List UInt8))} {e : Ending} (hg : W.grownBy W1 (some g)) (h : RtPost w0 W1 g md rt m X e W') : RtPost w0 W g md rt m X e W' := ⟨grown_trans hg h.1, h.2⟩
def nodeX (m : Int) (a : List UInt8) : Option (List UInt8 × List Sl × List (List UInt8)) → Option (List UInt8 × List Sl × List (List UInt8))
  | none => none
  | some (b, S2, R2) => match digR m 2 [a, b] with
    | .err _ => none
    | .ok x => some (x, S2, R2)
def joinX (m : Int) (f : List Sl → List (List UInt8) → Option (List UInt8 × List Sl × List (List UInt8))) : Option (List UInt8 × List Sl × List (List UInt8)) → Option (List UInt8 × List Sl × List (List UInt8))
  | none => none
  | some (a, S1, R1) => nodeX m a (f S1 R1)
theorem nodeX_err {m : Int} {a b : List UInt8} {S : List Sl} {R : List (List UInt8)} {c : Int} (h : digR m 2 [a, b] = .err c) : nodeX m a (some (b, S, R)) = none := by unfold nodeX; simp only [h]
theorem nodeX_ok {m : Int} {a b x : List UInt8} {S : List Sl} {R : List (List UInt8)} (h : digR m 2 [a, b] = .ok x) : nodeX m a (some (b, S, R)) = some (x, S, R) := by unfold nodeX; simp only [h]
theorem rtR_join (m : Int) (h : Nat) (o : List Bool) (S : List Sl) (R : List (List UInt8)) (hc : o.contains true = true) : rtR m (h + 1) o S R = joinX m (rtR m h (o.drop (2 ^ h))) (rtR m h (o.take (2 ^ h)) S R) := by
  have e : rtR m (h + 1) o S R = (match rtR m h (o.take (2 ^ h)) S R with
      | none => none
      | some (a, S1, R1) => match rtR m h (o.drop (2 ^ h)) S1 R1 with
        | none => none
        | some (b, S2, R2) => match digR m 2 [a, b] with
          | .err _ => none
          | .ok x => some (x, S2, R2)) := by
    show (if o.contains true then _ else _) = _
    rw [hc]; rfl
  rw [e]
  cases rtR m h (o.take (2 ^ h)) S R with
  | none => rfl
  | some t1 =>
    obtain ⟨a, S1, R1⟩ := t1
    show _ = nodeX m a (rtR m h (o.drop (2 ^ h)) S1 R1)
    simp only
    cases rtR m h (o.drop (2 ^ h)) S1 R1 with
    | none => rfl
    | some t2 => rfl
def CallX (X : Option (List UInt8 × List Sl × List (List UInt8))) (v : Value) (w : World) : Prop := match X with
  | none => ∃ (u : Value) (c : Int), v = .tuple #[u, .int .i64 c] ∧ c ≠ 0
  | some t => ∃ u, v = .tuple #[u, .int .i64 0] ∧ RowV w u t.1
def HeadX (X : Option (List UInt8 × List Sl × List (List UInt8))) (v : Value) (w : World) : Prop := match X with
  | none => True
  | some t => RowV w v t.1
def CodeX (X : Option (List UInt8 × List Sl × List (List UInt8))) (v : Value) : Prop := match X with
  | none => ∃ c : Int, v = .int .i64 c ∧ c ≠ 0
  | some _ => v = .int .i64 0
def StX (w0 W : World) (g md rt : Nat) (m : Int) : Nat → List Sl → List (List UInt8) → Option (List UInt8 × List Sl × List (List UInt8)) → Prop
  | 0, S, R, _ => RtW w0 W g md rt m S R
  | _, _, _, none => True
  | _, _, _, some t => RtW w0 W g md rt m t.2.1 t.2.2
def RtF (g md rt n k cap : Nat) (ao L2a : Option Addr) (c2 : Nat) (X : Option (List UInt8 × List Sl × List (List UInt8))) : Nat → Value → World → Prop
  | 0, v, _ => v = rtF g md rt
  | 1, v, _ => v = .slice ao n cap
  | 2, v, _ => v = .int .i64 (k : Int)
  | 3, v, _ => v = .slice L2a k c2
  | 4, v, w => CallX X v w
  | 5, v, w => CallX X v w
  | 6, v, w => HeadX X v w
  | 7, v, w => CodeX X v
  | 8, v, w => HeadX X v w
  | _, _, _ => True
set_option maxHeartbeats 4000000 in
theorem rooted1_any (m : Int) (m0 : -9223372036854775808 ≤ m) (m1 : m ≤ 9223372036854775807) (w0 : World) (hT : KW w0) (g md rt : Nat) : ∀ (h : Nat), h ≤ 6 → ∀ (o : List Bool) (ao : Option Addr) (cap : Nat) (S : List Sl) (R : List (List UInt8)) (Wb : World), o.length = 2 ^ h → o.length ≤ cap → cap ≤ 9223372036854775807 → Bools w0 ao o → (∀ r ∈ R, r.length ≤ 140737488351232) → RtW w0 Wb g md rt m S R →
    Calls Tryd.prog 38 #[.slice ao o.length cap, .pointer (some ⟨g, 0, none⟩), .pointer (some ⟨md, 0, none⟩), .pointer (some ⟨rt, 0, none⟩)] Wb (RtPost w0 Wb g md rt m (rtR m h o S R)) := by
  intro h
  induction h with
  | zero =>
    intro h6 o ao cap S R Wb ho hcap hq hO hR hW
    cases hc : o.contains true with
    | false =>
      rw [show rtR m 0 o S R = takeX S R by rw [rtR_none m 0 o S R hc]; cases R <;> rfl]
      exact rooted1_rest w0 Wb g md rt m S R hW o ao cap (by omega) hO hc
    | true =>
      obtain rfl := bools_one o ho hc
      exact rooted1_leaf w0 Wb g md rt m m0 m1 S R hW hT ao cap hO
  | succ h ih =>
    intro h6 o ao cap S R Wb ho hcap hq hO hR hW
    cases hc : o.contains true with
    | false =>
      rw [show rtR m (h + 1) o S R = takeX S R by rw [rtR_none m (h + 1) o S R hc]; cases R <;> rfl]
      have h64 : 2 ^ (h + 1) ≤ 2 ^ 6 := Nat.pow_le_pow_right (by decide) h6
      have e6 : 2 ^ 6 = 64 := by decide
      exact rooted1_rest w0 Wb g md rt m S R hW o ao cap (by omega) hO hc
    | true =>
      have e1 : 2 ^ (h + 1) = 2 * 2 ^ h := by rw [Nat.pow_succ, Nat.mul_comm]
      have hp : 0 < 2 ^ h := Nat.pow_pos (by decide)
      have h64 : 2 ^ (h + 1) ≤ 2 ^ 6 := Nat.pow_le_pow_right (by decide) h6
      have e6 : 2 ^ 6 = 64 := by decide
      have hl1 : (o.take (2 ^ h)).length = 2 ^ h := by rw [List.length_take]; omega
      have hl2 : (o.drop (2 ^ h)).length = 2 ^ h := by rw [List.length_drop]; omega
      have cC := containsO_any o ao cap Wb (by omega) (hO.keep hW.below)
      rw [hc] at cC
      have c1 := fun W hW => ih (by omega) (o.take (2 ^ h)) ao cap S R W hl1 (by omega) hq (hO.take _) hR hW
      have c2 := fun S1 R1 W hR1 hW => ih (by omega) (o.drop (2 ^ h)) (pieceO ao (2 ^ h) cap) (cap - 2 ^ h) S1 R1 W hl2 (by omega) (by omega) (hO.drop _ _ hcap) hR1 hW
      have hX := rtR_join m h o S R hc
      rw [hX]
      rw [hl1] at c1
      rw [hl2] at c2
      have sl1 := fun W => sliceO_first ao o.length cap (2 ^ h) (by omega) W
      have sl2 := fun W => sliceO_last ao o.length cap (2 ^ h) (by omega) W
      have hlen : o.length - 2 ^ h = 2 ^ h := by omega
      rw [hlen] at sl2
      have hNI : ((o.length : Int) == 1) = false := by simp; omega
      have hqI : (o.length : Int) / 2 = ((2 ^ h : Nat) : Int) := by omega
      have hB1 := rtR_len m 140737488351232 (by decide) h (o.take (2 ^ h)) S R
      have hB2 := fun S1 R1 => rtR_len m 140737488351232 (by decide) h (o.drop (2 ^ h)) S1 R1
      have h64I : (o.length : Int) ≤ 64 := by omega
      generalize rtR m h (o.take (2 ^ h)) S R = X1 at *
      generalize hX2 : rtR m h (o.drop (2 ^ h)) = X2 at *
      generalize 2 ^ h = k at *
      generalize o.length = n at *
      generalize pieceO ao k cap = ao2 at *
      generalize cap - k = cap2 at *
      have hkI : (k : Int) ≤ 32 := by omega
      have hkI0 : (0 : Int) ≤ k := by omega
      have Q1 : ∀ W1, Wb.grownBy W1 (some g) → W1.cell? ⟨rt, 0, none⟩ = some (rtF g md rt) := fun W1 h1 => h1.cell hW.fn (by simpa using hW.rg)
      have HC1 := Lib.hid c1
      have HC2 := Lib.hid c2
      have HR := Lib.hid hR
      have HW := Lib.hid hW
      have HB1 := Lib.hid hB1
      have HB2 := Lib.hid hB2
      clear hX hX2 hl1 hl2 hlen hO hcap hq ho hp h64 e6 e1 h6 c1 c2 hR hW hB1 hB2 hc ih
      go_enter Tryd.func38, Tryd.ntmps38
      go_wp2_with fail
      refine cC.mono ?_
      rintro e w1 ⟨rfl, rfl⟩
      clear cC
      go_upto_region 9 with fail
      refine wp_region_chain 9 [4] (by kernel_rfl) (by kernel_rfl) (by kernel_rfl) (RtF g md rt n k cap ao ao cap X1) (fun s w => Wb.grownBy w (some g) ∧ StX w0 w g md rt m s S R X1) (fun _ w w' => w.grownBy w' (some g)) ?hF ?h0 ?hstep ?hcall ?hdone
      case hF =>
        intro s i hs j v W W' hjn hne hpb h he
        rcases s with _ | s
        rotate_left
        · simp at hs
        obtain rfl : 4 = i := by simpa using hs
        rcases (show j = 0 ∨ j = 1 ∨ j = 2 ∨ j = 3 ∨ j = 4 ∨ j = 5 ∨ j = 6 ∨ j = 7 ∨ j = 8 by omega) with rfl | rfl | rfl | rfl | rfl | rfl | rfl | rfl | rfl
        · exact h
        · exact h
        · exact h
        · exact h
        · exact absurd rfl hne
        · exact Bool.noConfusion (hpb.symm.trans (by kernel_rfl : pathB _ 4 5 4 = true))
        · exact Bool.noConfusion (hpb.symm.trans (by kernel_rfl : pathB _ 4 6 4 = true))
        · exact Bool.noConfusion (hpb.symm.trans (by kernel_rfl : pathB _ 4 7 4 = true))
        · exact Bool.noConfusion (hpb.symm.trans (by kernel_rfl : pathB _ 4 8 4 = true))
      case h0 => exact ⟨mv_b (Below.refl _ _).drew, HW.out.keep (Below.refl _ _).drew⟩
      case hstep =>
        intro j hj hni s vs act W K ha' hst hd hu hK
        simp only [fillF, Act.put, List.take_succ_cons, List.take_zero, List.setIfInBounds_toArray, List.set_cons_zero, List.set_cons_succ] at ha'
        subst ha'
        clear hu
        have q1 := Q1 W hst.1
        have q2 := sl1 W
        rcases (show j = 0 ∨ j = 1 ∨ j = 2 ∨ j = 3 ∨ j = 4 ∨ j = 5 ∨ j = 6 ∨ j = 7 ∨ j = 8 by omega) with rfl | rfl | rfl | rfl | rfl | rfl | rfl | rfl | rfl
        · refine wpOp_step rfl (fun K' hK' => ?_)
          go_simp
          exact hK' _ _ (hK _ rfl)
        · refine wpOp_step rfl (fun K' hK' => ?_)
          go_simp
          exact hK' _ _ (hK _ rfl)
        · refine wpOp_step rfl (fun K' hK' => ?_)
          go_simp
          exact hK' _ _ (hK _ rfl)
        · have e1 : vs 1 = .slice ao n cap := hd 1 (by kernel_rfl)
          have e2 : vs 2 = .int .i64 (k : Int) := hd 2 (by kernel_rfl)
          simp only [e1, e2] at hK ⊢
          refine wpOp_step rfl (fun K' hK' => ?_)
          go_simp
          exact hK' _ _ (hK _ rfl)
        · exact (hni (by decide)).elim
        · have y4 : CallX X1 (vs 4) W := hd 4 (by kernel_rfl)
          refine wpOp_step rfl (fun K' hK' => ?_)
          go_simp
          exact hK' _ _ (hK _ y4)
        · have y5 : CallX X1 (vs 5) W := hd 5 (by kernel_rfl)
          cases X1 with
          | none =>
            obtain ⟨u, c, e5, hc⟩ := y5
            simp only [e5] at hK ⊢
            refine wpOp_step rfl (fun K' hK' => ?_)
            go_simp
            exact hK' _ _ (hK _ trivial)
          | some t =>
            obtain ⟨u, e5, hr⟩ := y5
            simp only [e5] at hK ⊢
            refine wpOp_step rfl (fun K' hK' => ?_)
            go_simp
            exact hK' _ _ (hK _ hr)
        · have y5 : CallX X1 (vs 5) W := hd 5 (by kernel_rfl)
          cases X1 with
          | none =>
            obtain ⟨u, c, e5, hc⟩ := y5
            simp only [e5] at hK ⊢
            refine wpOp_step rfl (fun K' hK' => ?_)
            go_simp
            exact hK' _ _ (hK _ ⟨c, rfl, hc⟩)
          | some t =>
            obtain ⟨u, e5, hr⟩ := y5
            simp only [e5] at hK ⊢
            refine wpOp_step rfl (fun K' hK' => ?_)
            go_simp
            exact hK' _ _ (hK _ rfl)
        · have y6 : HeadX X1 (vs 6) W := hd 6 (by kernel_rfl)
          refine wpOp_step rfl (fun K' hK' => ?_)
          go_simp
          exact hK' _ _ (hK _ y6)
      case hcall =>
        intro s j hs vs act W K ha' hst hd hK
        simp only [fillF, Act.put, List.take_succ_cons, List.take_zero, List.setIfInBounds_toArray, List.set_cons_zero, List.set_cons_succ] at ha'
        subst ha'
        rcases s with _ | s
        · obtain rfl : 4 = j := by simpa using hs
          have e0 : vs 0 = rtF g md rt := hd 0 (by kernel_rfl)
          have e3 : vs 3 = .slice ao k cap := hd 3 (by kernel_rfl)
          simp only [e0, e3] at hK ⊢
          refine wpOp_step rfl (fun K' hK' => ?_)
          go_simp
          refine (HC1.out W hst.2).mono ?_
          intro e W' hpost
          cases X1 with
          | none =>
            obtain ⟨v3, c3, rfl, hc3, hg3⟩ := hpost.none_inv
            exact hK' _ _ (hK _ _ ⟨v3, c3, rfl, hc3⟩ hg3 ⟨grown_trans hst.1 hg3, trivial⟩)
          | some t =>
            obtain ⟨a3, S3, R3⟩ := t
            obtain ⟨v3, rfl, hr3, hRW3, hg3⟩ := hpost.some_inv
            exact hK' _ _ (hK _ _ ⟨v3, rfl, hr3⟩ hg3 ⟨grown_trans hst.1 hg3, hRW3⟩)
        · simp at hs
      case hdone =>
        intro vs act W ha' hst hf
        simp only [fillF, Act.put, List.take_succ_cons, List.take_zero, List.drop_succ_cons, List.drop_zero, List.setIfInBounds_toArray, List.set_cons_zero, List.set_cons_succ] at ha' ⊢
        subst ha'
        have f6 : HeadX X1 (vs 8) W := hf 8 (by decide)
        have f7 : CodeX X1 (vs 7) := hf 7 (by decide)
        simp only [Nat.zero_add, Nat.reduceAdd]
        obtain ⟨hgW2, hst2⟩ := hst
        clear hf sl1 hNI
        generalize vs 8 = v6 at *
        generalize vs 7 = v7 at *
        cases X1 with
        | none =>
          obtain ⟨c3, rfl, hc3⟩ := f7
          have hE := Lib.hid (RtPost.no (w0 := w0) (md := md) (rt := rt) (m := m) (v := .slice none 0 0) (c := c3) hgW2 hc3)
          have hne : (c3 != 0) = true := by simpa using hc3
          clear hgW2 hc3 f6 hst2 Q1 sl2
          go_wp2_with fail
          go_ret2
          exact hE.out
        | some t1 =>
          obtain ⟨a, S1, R1⟩ := t1
          obtain rfl : v7 = .int .i64 0 := f7
          have hr3 : RowV W v6 a := f6
          have hRW3 : RtW w0 W g md rt m S1 R1 := hst2
          obtain ⟨aa, ka, rfl, -⟩ := id hr3
          have hb1 := HB1.out a S1 R1 HR.out rfl
          have c2 := HC2.out S1 R1
          have hB2' := HB2.out S1 R1
          have hR1 := Lib.hid hb1.2
          have hal := hb1.1
          obtain ⟨Y, hY⟩ : ∃ Y, X2 S1 R1 = Y := ⟨_, rfl⟩
          rw [hY] at c2 hB2'
          have HY := Lib.hid hY
          have HA : Hid (∀ z, z = a → z.length ≤ 140737488351232) := fun z hz => by rw [hz]; exact hal
          have Hg03 := Lib.hid hgW2
          have HRW3 := Lib.hid hRW3
          have HB2'' := Lib.hid hB2'
          have HR3 : Hid (∀ W4, Below W.heap.size W W4 → RowV W4 (.slice aa a.length ka) a) := fun W4 h4 => hr3.keep h4
          have C2 := Lib.hid c2
          obtain ⟨W0, hW0⟩ : ∃ W0, W0 = W := ⟨_, rfl⟩
          have HR30 : Hid (RowV W0 (.slice aa a.length ka) a) := by rw [hW0]; exact hr3
          clear hb1 hY hal hgW2 hB2' c2 hr3 hRW3 f6 hst2 HC1 HC2 HB1 HB2
          subst hW0
          generalize a.length = la at *
          go_upto_region 12 with fail
          refine wp_region_chain 9 [4] (by kernel_rfl) (by kernel_rfl) (by kernel_rfl) (RtF g md rt n k cap ao ao2 cap2 Y) (fun s w => Wb.grownBy w (some g) ∧ W0.grownBy w (some g) ∧ StX w0 w g md rt m s S1 R1 Y) (fun _ w w' => w.grownBy w' (some g)) ?hF ?h0 ?hstep ?hcall ?hdone
          case hF =>
            intro s i hs j v W W' hjn hne hpb h he
            rcases s with _ | s
            rotate_left
            · simp at hs
            obtain rfl : 4 = i := by simpa using hs
            rcases (show j = 0 ∨ j = 1 ∨ j = 2 ∨ j = 3 ∨ j = 4 ∨ j = 5 ∨ j = 6 ∨ j = 7 ∨ j = 8 by omega) with rfl | rfl | rfl | rfl | rfl | rfl | rfl | rfl | rfl
            · exact h
            · exact h
            · exact h
            · exact h
            · exact absurd rfl hne
            · exact Bool.noConfusion (hpb.symm.trans (by kernel_rfl : pathB _ 4 5 4 = true))
            · exact Bool.noConfusion (hpb.symm.trans (by kernel_rfl : pathB _ 4 6 4 = true))
            · exact Bool.noConfusion (hpb.symm.trans (by kernel_rfl : pathB _ 4 7 4 = true))
            · exact Bool.noConfusion (hpb.symm.trans (by kernel_rfl : pathB _ 4 8 4 = true))
          case h0 => exact ⟨grown_trans Hg03.out (mv_b (Below.refl _ _).drew), mv_b (Below.refl _ _).drew, HRW3.out.keep (Below.refl _ _).drew⟩
          case hstep =>
            intro j hj hni s vs act W K ha' hst hd hu hK
            simp only [fillF, Act.put, List.take_succ_cons, List.take_zero, List.setIfInBounds_toArray, List.set_cons_zero, List.set_cons_succ] at ha'
            subst ha'
            clear hu
            have q1 := Q1 W hst.1
            have q2 := sl2 W
            rcases (show j = 0 ∨ j = 1 ∨ j = 2 ∨ j = 3 ∨ j = 4 ∨ j = 5 ∨ j = 6 ∨ j = 7 ∨ j = 8 by omega) with rfl | rfl | rfl | rfl | rfl | rfl | rfl | rfl | rfl
            · refine wpOp_step rfl (fun K' hK' => ?_)
              go_simp
              exact hK' _ _ (hK _ rfl)
            · refine wpOp_step rfl (fun K' hK' => ?_)
              go_simp
              exact hK' _ _ (hK _ rfl)
            · refine wpOp_step rfl (fun K' hK' => ?_)
              go_simp
              exact hK' _ _ (hK _ rfl)
            · have e1 : vs 1 = .slice ao n cap := hd 1 (by kernel_rfl)
              have e2 : vs 2 = .int .i64 (k : Int) := hd 2 (by kernel_rfl)
              simp only [e1, e2] at hK ⊢
              refine wpOp_step rfl (fun K' hK' => ?_)
              go_simp
              exact hK' _ _ (hK _ rfl)
            · exact (hni (by decide)).elim
            · have y4 : CallX Y (vs 4) W := hd 4 (by kernel_rfl)
              refine wpOp_step rfl (fun K' hK' => ?_)
              go_simp
              exact hK' _ _ (hK _ y4)
            · have y5 : CallX Y (vs 5) W := hd 5 (by kernel_rfl)
              cases Y with
              | none =>
                obtain ⟨u, c, e5, hc⟩ := y5
                simp only [e5] at hK ⊢
                refine wpOp_step rfl (fun K' hK' => ?_)
                go_simp
                exact hK' _ _ (hK _ trivial)
              | some t =>
                obtain ⟨u, e5, hr⟩ := y5
                simp only [e5] at hK ⊢
                refine wpOp_step rfl (fun K' hK' => ?_)
                go_simp
                exact hK' _ _ (hK _ hr)
            · have y5 : CallX Y (vs 5) W := hd 5 (by kernel_rfl)
              cases Y with
              | none =>
                obtain ⟨u, c, e5, hc⟩ := y5
                simp only [e5] at hK ⊢
                refine wpOp_step rfl (fun K' hK' => ?_)
                go_simp
                exact hK' _ _ (hK _ ⟨c, rfl, hc⟩)
              | some t =>
                obtain ⟨u, e5, hr⟩ := y5
                simp only [e5] at hK ⊢
                refine wpOp_step rfl (fun K' hK' => ?_)
                go_simp
                exact hK' _ _ (hK _ rfl)
            · have y6 : HeadX Y (vs 6) W := hd 6 (by kernel_rfl)
              refine wpOp_step rfl (fun K' hK' => ?_)
              go_simp
              exact hK' _ _ (hK _ y6)
          case hcall =>
            intro s j hs vs act W K ha' hst hd hK
            simp only [fillF, Act.put, List.take_succ_cons, List.take_zero, List.setIfInBounds_toArray, List.set_cons_zero, List.set_cons_succ] at ha'
            subst ha'
            rcases s with _ | s
            · obtain rfl : 4 = j := by simpa using hs
              have e0 : vs 0 = rtF g md rt := hd 0 (by kernel_rfl)
              have e3 : vs 3 = .slice ao2 k cap2 := hd 3 (by kernel_rfl)
              simp only [e0, e3] at hK ⊢
              refine wpOp_step rfl (fun K' hK' => ?_)
              go_simp
              refine (C2.out W hR1.out hst.2.2).mono ?_
              intro e W' hpost
              cases Y with
              | none =>
                obtain ⟨v3, c3, rfl, hc3, hg3⟩ := hpost.none_inv
                exact hK' _ _ (hK _ _ ⟨v3, c3, rfl, hc3⟩ hg3 ⟨grown_trans hst.1 hg3, grown_trans hst.2.1 hg3, trivial⟩)
              | some t =>
                obtain ⟨a3, S3, R3⟩ := t
                obtain ⟨v3, rfl, hr3, hRW3, hg3⟩ := hpost.some_inv
                exact hK' _ _ (hK _ _ ⟨v3, rfl, hr3⟩ hg3 ⟨grown_trans hst.1 hg3, grown_trans hst.2.1 hg3, hRW3⟩)
            · simp at hs
          case hdone =>
            intro vs act W ha' hst hf
            simp only [fillF, Act.put, List.take_succ_cons, List.take_zero, List.drop_succ_cons, List.drop_zero, List.setIfInBounds_toArray, List.set_cons_zero, List.set_cons_succ] at ha' ⊢
            subst ha'
            have f6 : HeadX Y (vs 8) W := hf 8 (by decide)
            have f7 : CodeX Y (vs 7) := hf 7 (by decide)
            simp only [Nat.zero_add, Nat.reduceAdd]
            obtain ⟨hgW4, hg04, hst4⟩ := hst
            clear hf sl2 Q1
            generalize vs 8 = v8 at *
            generalize vs 7 = v9 at *
            cases Y with
            | none =>
              obtain ⟨c5, rfl, hc5⟩ := f7
              have hE := Lib.hid (RtPost.no (w0 := w0) (md := md) (rt := rt) (m := m) (v := .slice none 0 0) (c := c5) hgW4 hc5)
              have hne : (c5 != 0) = true := by simpa using hc5
              clear hgW4 hg04 hst4 hc5 f6
              go_wp2_with fail
              go_ret2
              show RtPost w0 Wb g md rt m (nodeX m a (X2 S1 R1)) _ _
              rw [HY.out]
              exact hE.out
            | some t2 =>
              obtain ⟨b, S2, R2⟩ := t2
              have hb2 := HB2''.out b S2 R2 hR1.out rfl
              obtain rfl : v9 = .int .i64 0 := f7
              have hr5 : RowV W v8 b := f6
              have hRW5 : RtW w0 W g md rt m S2 R2 := hst4
              have hr45 := HR30.out.off (s := .slice none 0 0) (r := .slice none 0 0) HRW3.out.covers hg04
              obtain ⟨ab, kb, rfl, -⟩ := id hr5
              have cN := nodeD_any m m0 m1 a b aa ab la ka b.length kb W hr45 hr5 (HA.out a rfl) hb2.1 (hT.keep hRW5.below (Nat.le_refl _))
              have hmd := hRW5.mode
              have hDn : Hid (∀ c, digR m 2 [a, b] = .err c → c ≠ 0) := fun c hc => digR_ne hc
              have HR5 := Lib.hid hRW5
              have Hg5 := Lib.hid hgW4
              clear hgW4 hg04 hst4 hr45 hr5 hRW5 hb2 f6
              generalize b.length = lb at *
              cases hD : digR m 2 [a, b] with
              | err c =>
                have HD := Lib.hid hD
                have hc0 := hDn.out c hD
                rw [hD] at cN
                have hne : (c != 0) = true := by simpa using hc0
                clear hDn hD
                go_wp2_with fail
                refine cN.mono ?_
                rintro e W6 ⟨rfl, hb6⟩
                have hE := Lib.hid (RtPost.no (w0 := w0) (md := md) (rt := rt) (m := m) (v := .slice none 0 0) (c := c) (grown_trans Hg5.out (mv_b (P := g) hb6)) hc0)
                clear cN
                go_wp2_with fail
                go_ret2
                show RtPost w0 Wb g md rt m (nodeX m a (X2 S1 R1)) _ _
                rw [HY.out, nodeX_err HD.out]
                exact hE.out
              | ok x =>
                have HD := Lib.hid hD
                rw [hD] at cN
                clear hDn hD
                go_wp2_with fail
                refine cN.mono ?_
                rintro e W6 ⟨v6, rfl, hr6, hb6⟩
                have hE := Lib.hid (RtPost.yes (grown_trans Hg5.out (mv_b (P := g) hb6)) hr6.row (HR5.out.keep hb6))
                obtain ⟨a6, k6, rfl, -⟩ := id hr6
                clear cN hr6
                generalize x.length = lx at *
                go_wp2_with fail
                go_ret2
                show RtPost w0 Wb g md rt m (nodeX m a (X2 S1 R1)) _ _
                rw [HY.out, nodeX_ok HD.out]
                exact hE.out
end Go.Proofs.YtcplnfaopigoiaaDoor
