/-
  CONTRACT of package slots' Rooted: its closure, by induction on the height.
  CONDITIONS: package sum's roundWords hold what their initialiser lays ('KW').
-/
import Derived.Test.YtcplnfaopigoiaaDoorCovB
namespace Go.Proofs.YtcplnfaopigoiaaDoor
open Go.RowKit CodeMath Go.Proofs.YtcplnfaopigoiaaDoor.FrameMath
set_option linter.unusedVariables false
set_option maxRecDepth 100000

/-- The closure. -/
abbrev rtF (g md rt : Nat) : Value := .func (.func 38) #[] #[.pointer (some ⟨g, 0, none⟩), .pointer (some ⟨md, 0, none⟩), .pointer (some ⟨rt, 0, none⟩)]
/-- What the closure has in memory: the cover that is still to come, its data as they lay at first. -/
structure RtW (w0 W : World) (g md rt : Nat) (m : Int) (S : List Sl) (R : List (List UInt8)) : Prop where
  below : Below w0.heap.size w0 W
  ge : w0.heap.size ≤ g
  mode : W.cell? ⟨md, 0, none⟩ = some (.int .i64 m)
  fn : W.cell? ⟨rt, 0, none⟩ = some (rtF g md rt)
  mg : md ≠ g
  rg : rt ≠ g
  cov : ∃ aS cS aR cR, CovB W g (.slice aS S.length cS) (.slice aR R.length cR) ∧ S.length ≤ cS ∧ cS ≤ 9223372036854775807 ∧ R.length ≤ cR ∧ cR ≤ 9223372036854775807 ∧ Slots w0 aS S ∧ Lines w0 aR R
theorem RtW.step {w0 W W' : World} {g md rt : Nat} {m : Int} {S : List Sl} {R : List (List UInt8)} (h : RtW w0 W g md rt m S R) (hg : W.grownBy W' (some g)) {S' : List Sl} {R' : List (List UInt8)}
    (hc : ∃ aS cS aR cR, CovB W' g (.slice aS S'.length cS) (.slice aR R'.length cR) ∧ S'.length ≤ cS ∧ cS ≤ 9223372036854775807 ∧ R'.length ≤ cR ∧ cR ≤ 9223372036854775807 ∧ Slots w0 aS S' ∧ Lines w0 aR R') : RtW w0 W' g md rt m S' R' :=
  ⟨h.below.grown hg h.below.size (fun k hk => by cases hk; exact h.ge), h.ge, hg.cell h.mode (by simpa using h.mg), hg.cell h.fn (by simpa using h.rg), h.mg, h.rg, hc⟩
theorem RtW.keep {w0 W W' : World} {g md rt : Nat} {m : Int} {S : List Sl} {R : List (List UInt8)} (h : RtW w0 W g md rt m S R) (hb : Below W.heap.size W W') : RtW w0 W' g md rt m S R := by
  refine h.step (mv_b hb) ?_
  obtain ⟨aS, cS, aR, cR, h1, h2⟩ := h.cov
  exact ⟨aS, cS, aR, cR, h1.keep hb, h2⟩
/-- Rows whose cells are bytes lie in no cover's block. -/
theorem RowV.off {w w' : World} {g : Nat} {s r u : Value} {l : List UInt8} (h : RowV w u l) (hC : ∃ a n k a' n' k', CovB w g (.slice a n k) (.slice a' n' k')) (hg : w.grownBy w' (some g)) : RowV w' u l := by
  obtain ⟨a, n, k, a', n', k', hC⟩ := hC
  obtain ⟨ao, cap, h1, h2, h3, h4, h5⟩ := h
  refine ⟨ao, cap, h1, h2, h3, h4, ?_⟩
  rcases h5 with h | ⟨b, o, e1, e2, e3⟩
  · exact .inl h
  · cases l with
    | nil => exact .inl rfl
    | cons x l =>
      have hne : b ≠ g := fun he => by
        have q := e3 0 x rfl
        rw [he, cell_of_block hC] at q
        rcases (show o + 0 = 0 ∨ o + 0 = 1 ∨ 2 ≤ o + 0 by omega) with h | h | h
        · rw [h] at q; simp at q
        · rw [h] at q; simp at q
        · rw [List.getElem?_toArray, List.getElem?_eq_none (by simpa using h)] at q; cases q
      exact .inr ⟨b, o, e1, Nat.lt_of_lt_of_le e2 hg.size, fun j y hy => hg.cell (e3 j y hy) (by simpa using hne)⟩
theorem RtW.covers {w0 W : World} {g md rt : Nat} {m : Int} {S : List Sl} {R : List (List UInt8)} (h : RtW w0 W g md rt m S R) : ∃ a n k a' n' k', CovB W g (.slice a n k) (.slice a' n' k') := by
  obtain ⟨aS, cS, aR, cR, h1, -⟩ := h.cov
  exact ⟨_, _, _, _, _, _, h1⟩
theorem rtR_len (m : Int) (B : Nat) (hB : 16777300 ≤ B) : ∀ (h : Nat) (o : List Bool) (S : List Sl) (R : List (List UInt8)) (x : List UInt8) (S' : List Sl) (R' : List (List UInt8)), (∀ r ∈ R, r.length ≤ B) → rtR m h o S R = some (x, S', R') → x.length ≤ B ∧ ∀ r ∈ R', r.length ≤ B
  | h, o, S, R, x, S', R', hR, he => by
    cases hc : o.contains true with
    | false =>
      rw [rtR_none m h o S R hc] at he
      cases R with
      | nil => cases he
      | cons r R =>
        simp only [Option.some.injEq, Prod.mk.injEq] at he
        obtain ⟨rfl, rfl, rfl⟩ := he
        exact ⟨hR _ (by simp), fun y hy => hR y (List.mem_cons_of_mem _ hy)⟩
    | true =>
      cases h with
      | zero =>
        unfold rtR at he
        rw [hc] at he
        simp only [if_true] at he
        cases S with
        | nil => cases he
        | cons s S =>
          simp only at he
          cases hl : leafR m s.f s.s s.d with
          | err e => rw [hl] at he; cases he
          | ok b =>
            rw [hl] at he
            simp only [Option.some.injEq, Prod.mk.injEq] at he
            obtain ⟨rfl, rfl, rfl⟩ := he
            exact ⟨by have := leafR_length _ _ _ _ _ hl; omega, hR⟩
      | succ h =>
        unfold rtR at he
        rw [hc] at he
        simp only [if_true] at he
        cases h1 : rtR m h (o.take (2 ^ h)) S R with
        | none => rw [h1] at he; cases he
        | some t1 =>
          obtain ⟨a, S1, R1⟩ := t1
          rw [h1] at he
          simp only at he
          cases h2 : rtR m h (o.drop (2 ^ h)) S1 R1 with
          | none => rw [h2] at he; cases he
          | some t2 =>
            obtain ⟨b, S2, R2⟩ := t2
            rw [h2] at he
            simp only at he
            cases hd : digR m 2 [a, b] with
            | err c => rw [hd] at he; cases he
            | ok y =>
              rw [hd] at he
              simp only [Option.some.injEq, Prod.mk.injEq] at he
              obtain ⟨rfl, rfl, rfl⟩ := he
              have i1 := rtR_len m B hB h _ _ _ _ _ _ hR h1
              have i2 := rtR_len m B hB h _ _ _ _ _ _ i1.2 h2
              exact ⟨by have := digR_len hd; omega, i2.2⟩
def RtPost (w0 W : World) (g md rt : Nat) (m : Int) (X : Option (List UInt8 × List Sl × List (List UInt8))) (e : Ending) (W' : World) : Prop := W.grownBy W' (some g) ∧ (match X with
  | none => ∃ v c, e = .returned (.tuple #[v, .int .i64 c]) ∧ c ≠ 0
  | some (x, S, R) => ∃ v, e = .returned (.tuple #[v, .int .i64 0]) ∧ RowV W' v x ∧ RtW w0 W' g md rt m S R)
theorem RtPost.yes {w0 W W' : World} {g md rt : Nat} {m : Int} {x : List UInt8} {S : List Sl} {R : List (List UInt8)} {v : Value} (h1 : W.grownBy W' (some g)) (h2 : RowV W' v x) (h3 : RtW w0 W' g md rt m S R) : RtPost w0 W g md rt m (some (x, S, R)) (.returned (.tuple #[v, .int .i64 0])) W' := ⟨h1, v, rfl, h2, h3⟩
theorem RtPost.no {w0 W W' : World} {g md rt : Nat} {m : Int} {v : Value} {c : Int} (h1 : W.grownBy W' (some g)) (h : c ≠ 0) : RtPost w0 W g md rt m none (.returned (.tuple #[v, .int .i64 c])) W' := ⟨h1, v, c, rfl, h⟩
def takeX (S : List Sl) : List (List UInt8) → Option (List UInt8 × List Sl × List (List UInt8))
  | [] => none
  | r :: R' => some (r, S, R')
set_option maxHeartbeats 2000000 in
theorem rooted1_rest (w0 W : World) (g md rt : Nat) (m : Int) (S : List Sl) (R : List (List UInt8)) (h : RtW w0 W g md rt m S R) (o : List Bool) (ao : Option Addr) (cap : Nat) (ho : o.length ≤ 9223372036854775807) (hO : Bools w0 ao o) (hc : o.contains true = false) :
    Calls Tryd.prog 38 #[.slice ao o.length cap, .pointer (some ⟨g, 0, none⟩), .pointer (some ⟨md, 0, none⟩), .pointer (some ⟨rt, 0, none⟩)] W (RtPost w0 W g md rt m (takeX S R)) := by
  have cC := containsO_any o ao cap W ho (hO.keep h.below)
  rw [hc] at cC
  obtain ⟨aS, cS, aR, cR, hC, s1, s2, r1, r2, hS, hL⟩ := id h.cov
  cases R with
  | nil =>
    have cT := takeR_none g _ aR cR W hC
    have hend := Lib.hid (RtPost.no (w0 := w0) (W := W) (W' := W) (g := g) (md := md) (rt := rt) (m := m) (v := .slice none 0 0) (c := 10) ⟨rfl, rfl, rfl, Nat.le_refl _, fun _ _ _ => rfl⟩ (by decide))
    show Calls _ _ _ _ (RtPost w0 W g md rt m none)
    clear h hC hS hL hO ho hc s1 s2 r1 r2
    generalize o.length = n at *
    go_enter Tryd.func38, Tryd.ntmps38
    go_wp2_with fail
    refine cC.mono ?_
    rintro e w1 ⟨rfl, rfl⟩
    clear cC
    go_wp2_with fail
    refine cT.mono ?_
    rintro e w1 ⟨rfl, rfl⟩
    clear cT
    go_wp2_with fail
    go_ret2
    exact hend.out
  | cons r R =>
    rcases hL with hL | ⟨b, off, rfl, hb, hr⟩
    · cases hL
    · obtain ⟨A, c0, q1, q2, q3, q4, q5⟩ := hr 0 r rfl
      have hcell := (h.below.cell (p := ⟨b, off, none⟩) hb).trans q1
      have cT := takeR_some g _ b off (r :: R).length cR _ rfl W (by simp) (by omega) hC hcell
      have hrow : RowV W (.slice A r.length c0) r := RowV.keep (w := w0) ⟨A, c0, rfl, q2, q3, q4, q5⟩ h.below
      have hdrop : Lines w0 (pieceL1 (some ⟨b, off, none⟩) cR) R := Lines.drop1 (.inr ⟨b, off, rfl, hb, hr⟩) cR (by simpa using r1)
      have hend : Hid (∀ W', CovB W' g (.slice aS S.length cS) (.slice (pieceL1 (some ⟨b, off, none⟩) cR) ((r :: R).length - 1) (cR - 1)) → W.grownBy W' (some g) → RtPost w0 W g md rt m (some (r, S, R)) (.returned (.tuple #[.slice A r.length c0, .int .i64 0])) W') := fun W' hC' hg =>
        RtPost.yes hg (hrow.off (s := .slice none 0 0) (r := .slice none 0 0) ⟨_, _, _, _, _, _, hC⟩ hg) (h.step hg ⟨aS, cS, _, _, hC', s1, s2, by simp at r1 ⊢; omega, by omega, hS, hdrop⟩)
      show Calls _ _ _ _ (RtPost w0 W g md rt m (some (r, S, R)))
      generalize (r :: R).length = rl at *
      generalize r.length = r0 at *
      generalize S.length = sl at *
      clear h hC hS hO ho hc s1 s2 r1 r2 hr q1 q2 q3 q4 q5 hcell hrow hdrop
      generalize o.length = n at *
      go_enter Tryd.func38, Tryd.ntmps38
      go_wp2_with fail
      refine cC.mono ?_
      rintro e w1 ⟨rfl, rfl⟩
      clear cC
      go_wp2_with fail
      refine cT.mono ?_
      rintro e w2 ⟨rfl, hC2, hg⟩
      clear cT
      have hE := Lib.hid (hend.out w2 hC2 hg)
      clear hend hC2 hg
      go_wp2_with fail
      go_ret2
      exact hE.out
set_option maxHeartbeats 2000000 in
theorem rooted1_leaf (w0 W : World) (g md rt : Nat) (m : Int) (m0 : -9223372036854775808 ≤ m) (m1 : m ≤ 9223372036854775807) (S : List Sl) (R : List (List UInt8)) (h : RtW w0 W g md rt m S R) (hT : KW w0) (ao : Option Addr) (cap : Nat) (hO : Bools w0 ao [true]) :
    Calls Tryd.prog 38 #[.slice ao 1 cap, .pointer (some ⟨g, 0, none⟩), .pointer (some ⟨md, 0, none⟩), .pointer (some ⟨rt, 0, none⟩)] W (RtPost w0 W g md rt m (rtR m 0 [true] S R)) := by
  have cC := containsO_any [true] ao cap W (by decide) (hO.keep h.below)
  rw [show [true].contains true = true from rfl, show [true].length = 1 from rfl] at cC
  obtain ⟨aS, cS, aR, cR, hC, s1, s2, r1, r2, hS, hL⟩ := id h.cov
  cases S with
  | nil =>
    have cT := takeS_none g aS cS _ W hC
    have hend : Hid (∀ W', Below W.heap.size W W' → RtPost w0 W g md rt m none (.returned (.tuple #[.slice none 0 0, .int .i64 10])) W') := fun W' hb => RtPost.no (mv_b hb) (by decide)
    show Calls _ _ _ _ (RtPost w0 W g md rt m none)
    have hB0 := Below.refl W.heap.size W
    clear h hC hS hL hO s1 s2 r1 r2
    go_enter Tryd.func38, Tryd.ntmps38
    go_wp2_with fail
    refine cC.mono ?_
    rintro e w1 ⟨rfl, rfl⟩
    clear cC
    go_wp2_with fail
    refine cT.mono ?_
    rintro e w1 ⟨rfl, hb⟩
    have hE := Lib.hid (hend.out _ (hb.alloc hb.size (.cells #[.bool false, .slice none 0 0, .slice none 0 0] 44)))
    clear cT hend
    go_wp2_with fail
    go_ret2
    exact hE.out
  | cons x S =>
    rcases hS with hS | ⟨b, off, rfl, hb, hr⟩
    · cases hS
    · obtain ⟨us, ud, q0, q1, q2, q3, q4⟩ := hr 0 x rfl
      rw [Nat.zero_mul, Nat.add_zero] at q0 q1 q2
      have hu := q3.keep h.below
      have hd := q4.keep h.below
      obtain ⟨a1, k1, rfl, -⟩ := id hu
      obtain ⟨a2, k2, rfl, -⟩ := id hd
      have g0 := (h.below.cell (p := ⟨b, off, none⟩) hb).trans q0
      have g1 := (h.below.cell (p := ⟨b, off + 1, none⟩) hb).trans q1
      have g2 := (h.below.cell (p := ⟨b, off + 2, none⟩) hb).trans q2
      have cT := takeS_some g _ b off (x :: S).length cS x.f a1 x.s.length k1 a2 x.d.length k2 W (by simp) (by omega) hC g0 g1 g2
      have hdrop : Slots w0 (pieceS (some ⟨b, off, none⟩) 1 cS) S := Slots.drop (.inr ⟨b, off, rfl, hb, hr⟩) 1 cS s1
      have hstep : ∀ W', CovB W' g (.slice (pieceS (some ⟨b, off, none⟩) 1 cS) ((x :: S).length - 1) (cS - 1)) (.slice aR R.length cR) → W.grownBy W' (some g) → RtW w0 W' g md rt m S R ∧ RowV W' (.slice a1 x.s.length k1) x.s ∧ RowV W' (.slice a2 x.d.length k2) x.d := fun W' hC' hg =>
        ⟨h.step hg ⟨_, _, aR, cR, hC', by simp at s1 ⊢; omega, by omega, r1, r2, hdrop, hL⟩, hu.off (s := .slice none 0 0) (r := .slice none 0 0) ⟨_, _, _, _, _, _, hC⟩ hg, hd.off (s := .slice none 0 0) (r := .slice none 0 0) ⟨_, _, _, _, _, _, hC⟩ hg⟩
      have HS := Lib.hid hstep
      have cL := fun W h1 h2 h3 => Leaf_any m x.f x.s x.d (.slice a1 x.s.length k1) (.slice a2 x.d.length k2) W m0 m1 h1 h2 h3
      have hKW : Hid (∀ W', Below w0.heap.size w0 W' → KW W') := fun W' hW => hT.keep hW (Nat.le_refl _)
      show Calls _ _ _ _ (RtPost w0 W g md rt m (match leafR m x.f x.s x.d with | .err _ => none | .ok b => some (b, S, R)))
      have hlR : Hid (∀ c, leafR m x.f x.s x.d = .err c → c ≠ 0) := fun c hc => leafR_ne _ _ _ _ _ hc
      generalize x.s.length = l1 at *
      generalize x.d.length = l2 at *
      generalize x.f = f at *
      generalize (x :: S).length = sl at *
      clear h hC hO s1 s2 r1 r2 hr q0 q1 q2 q3 q4 g0 g1 g2 hdrop hu hd hstep hT hL
      cases hX : leafR m f x.s x.d with
      | err c =>
        have hc0 := hlR.out c hX
        rw [hX] at cL
        show Calls _ _ _ _ (RtPost w0 W g md rt m none)
        clear hX hlR
        go_enter Tryd.func38, Tryd.ntmps38
        go_wp2_with fail
        refine cC.mono ?_
        rintro e w1 ⟨rfl, rfl⟩
        clear cC
        go_wp2_with fail
        refine cT.mono ?_
        rintro e w2 ⟨rfl, hC2, hg⟩
        clear cT
        obtain ⟨hrt, hu, hd⟩ := HS.out w2 hC2 hg
        have hrt2 := hrt.keep ((Below.refl _ _).alloc (Nat.le_refl _) (.cells #[.bool f, .slice a1 l1 k1, .slice a2 l2 k2] 44))
        have hba : Below w2.heap.size w2 (w2.alloc (.cells #[.bool f, .slice a1 l1 k1, .slice a2 l2 k2] 44)) := (Below.refl _ _).alloc (Nat.le_refl _) _
        have hmd := hrt2.mode
        have HH := Lib.hid (And.intro (hu.keep hba) (And.intro (hd.keep hba) (hKW.out _ hrt2.below)))
        have HB := Lib.hid hba
        have HG := Lib.hid hg
        clear hrt hrt2 hu hd HS hC2 hba hg
        go_wp2_with fail
        refine (cL _ HH.out.1 HH.out.2.1 HH.out.2.2).mono ?_
        rintro e w3 ⟨rfl, hb3⟩
        have hE := Lib.hid (RtPost.no (w0 := w0) (md := md) (rt := rt) (m := m) (v := .slice none 0 0) (c := c) (grown_trans HG.out (mv_b (below_step HB.out HB.out.size hb3))) hc0)
        clear cL hmd
        go_wp2_with fail
        go_ret2
        exact hE.out
      | ok z =>
        rw [hX] at cL
        show Calls _ _ _ _ (RtPost w0 W g md rt m (some (z, S, R)))
        clear hX hlR
        go_enter Tryd.func38, Tryd.ntmps38
        go_wp2_with fail
        refine cC.mono ?_
        rintro e w1 ⟨rfl, rfl⟩
        clear cC
        go_wp2_with fail
        refine cT.mono ?_
        rintro e w2 ⟨rfl, hC2, hg⟩
        clear cT
        obtain ⟨hrt, hu, hd⟩ := HS.out w2 hC2 hg
        have hrt2 := hrt.keep ((Below.refl _ _).alloc (Nat.le_refl _) (.cells #[.bool f, .slice a1 l1 k1, .slice a2 l2 k2] 44))
        have hba : Below w2.heap.size w2 (w2.alloc (.cells #[.bool f, .slice a1 l1 k1, .slice a2 l2 k2] 44)) := (Below.refl _ _).alloc (Nat.le_refl _) _
        have hmd := hrt2.mode
        have HH := Lib.hid (And.intro (hu.keep hba) (And.intro (hd.keep hba) (hKW.out _ hrt2.below)))
        have HB := Lib.hid hba
        have HG := Lib.hid hg
        have HR := Lib.hid hrt2
        clear hrt hrt2 hu hd HS hC2 hba hg
        go_wp2_with fail
        refine (cL _ HH.out.1 HH.out.2.1 HH.out.2.2).mono ?_
        rintro e w3 ⟨v3, rfl, hr3, hb3⟩
        have hE := Lib.hid (RtPost.yes (grown_trans HG.out (mv_b (below_step HB.out HB.out.size hb3))) hr3.row (HR.out.keep hb3))
        obtain ⟨a3, k3, rfl, -⟩ := id hr3
        clear cL hmd hr3
        generalize z.length = zl at *
        go_wp2_with fail
        go_ret2
        exact hE.out
end Go.Proofs.YtcplnfaopigoiaaDoor
