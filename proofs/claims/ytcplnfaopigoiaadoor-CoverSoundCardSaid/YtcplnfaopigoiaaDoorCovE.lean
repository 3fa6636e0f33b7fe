/-
  CONTRACT of package slots' Rooted.
  CONDITIONS: package sum's roundWords hold what their initialiser lays ('KW').
-/
import Derived.Test.YtcplnfaopigoiaaDoorCovD
import Derived.Laws.EntriesVeiled
namespace Go.Proofs.YtcplnfaopigoiaaDoor
open Go.RowKit CodeMath Go.Proofs.YtcplnfaopigoiaaDoor.FrameMath
set_option linter.unusedVariables false
set_option maxRecDepth 100000

theorem rtW_start (w : World) (m : Int) (S : List Sl) (R : List (List UInt8)) (aS : Option Addr) (cS : Nat) (aR : Option Addr) (cR : Nat) (s1 : S.length ≤ cS) (s2 : cS ≤ 9223372036854775807) (r1 : R.length ≤ cR) (r2 : cR ≤ 9223372036854775807) (hS : Slots w aS S) (hL : Lines w aR R) :
    RtW w (((w.alloc (.cells #[.int .i64 m] 3)).alloc (.cells #[.slice aS S.length cS, .slice aR R.length cR] 26)).alloc (.cells #[rtF (w.heap.size + 1) w.heap.size (w.heap.size + 2)] 68)) (w.heap.size + 1) w.heap.size (w.heap.size + 2) m S R := by
  have b1 := (Below.refl w.heap.size w).alloc (Nat.le_refl _) (.cells #[.int .i64 m] 3)
  have b2 := b1.alloc b1.size (.cells #[.slice aS S.length cS, .slice aR R.length cR] 26)
  have b3 := b2.alloc b2.size (.cells #[rtF (w.heap.size + 1) w.heap.size (w.heap.size + 2)] 68)
  have z0 : Blk _ w.heap.size 3 [.int .i64 m] := Blk.new w #[.int .i64 m] 3
  have z1 : Blk _ (w.heap.size + 1) 26 [.slice aS S.length cS, .slice aR R.length cR] := Blk.atNew (w := w.alloc (.cells #[.int .i64 m] 3)) #[.slice aS S.length cS, .slice aR R.length cR] 26 (by simp)
  have z2 : Blk _ (w.heap.size + 2) 68 [rtF (w.heap.size + 1) w.heap.size (w.heap.size + 2)] := Blk.atNew (w := (w.alloc (.cells #[.int .i64 m] 3)).alloc (.cells #[.slice aS S.length cS, .slice aR R.length cR] 26)) #[rtF (w.heap.size + 1) w.heap.size (w.heap.size + 2)] 68 (by simp)
  exact ⟨b3, Nat.le_succ _, ((z0.alloc _).alloc _).cell rfl, z2.cell rfl, by omega, by omega, aS, cS, aR, cR, z1.alloc _, s1, s2, r1, r2, hS, hL⟩
def lastX : Option (List UInt8 × List Sl × List (List UInt8)) → DR
  | some (x, [], []) => .ok x
  | _ => .err 10
theorem rtdR_last (m : Int) (h : Nat) (o : List Bool) (S : List Sl) (R : List (List UInt8)) (hm : isMode m = true) (hp : isPow o.length = true) : rtdR m h o S R = lastX (rtR m h o S R) := by
  unfold rtdR
  rw [if_neg (by rw [hm]; decide), if_neg (by rw [hp]; decide)]
  cases rtR m h o S R with
  | none => rfl
  | some t =>
    obtain ⟨x, S', R'⟩ := t
    cases S' <;> cases R' <;> rfl
set_option maxHeartbeats 4000000 in
theorem Rooted_any (m : Int) (o : List Bool) (ao : Option Addr) (co : Nat) (S : List Sl) (aS : Option Addr) (cS : Nat) (R : List (List UInt8)) (aR : Option Addr) (cR : Nat) (w : World) (m0 : -9223372036854775808 ≤ m) (m1 : m ≤ 9223372036854775807) (ho : o.length ≤ co) (hq : co ≤ 9223372036854775807) (hO : Bools w ao o)
    (s1 : S.length ≤ cS) (s2 : cS ≤ 9223372036854775807) (hS : Slots w aS S) (r1 : R.length ≤ cR) (r2 : cR ≤ 9223372036854775807) (hR : ∀ r ∈ R, r.length ≤ 140737488351232) (hL : Lines w aR R) (hT : KW w) (h : Nat) (h6 : h ≤ 6) (hh : isPow o.length = true → o.length = 2 ^ h) :
    Calls Tryd.prog 13 #[.int .i64 m, .slice ao o.length co, .agg #[.slice aS S.length cS, .slice aR R.length cR]] w (DigPost (rtdR m h o S R) w) := by
  have cM := fun W => mode_any m W m0 m1
  have cN := fun W => isNumber_any (o.length : Int) (by omega) (by omega) W
  have hRW := rtW_start w m S R aS cS aR cR s1 s2 r1 r2 hS hL
  have hb1 : ∀ x, Below w.heap.size w (w.alloc x) := fun x => (Below.refl _ _).alloc (Nat.le_refl _) x
  have hb2 : ∀ x y, Below w.heap.size w ((w.alloc x).alloc y) := fun x y => (hb1 x).alloc (hb1 x).size y
  cases hm : isMode m with
  | false =>
    rw [hm] at cM
    have e : rtdR m h o S R = .err 2 := by unfold rtdR; rw [hm]; rfl
    rw [e]
    clear hRW cN hh ho hO hS hL s1 r1 hR e hT
    generalize o.length = n at *
    generalize S.length = sl at *
    generalize R.length = rl at *
    go_enter Tryd.func13, Tryd.ntmps13
    go_wp2_with fail
    refine (cM _).mono ?_
    rintro e w1 ⟨rfl, rfl⟩
    clear cM
    go_wp2_with fail
    go_ret2
    exact ⟨rfl, hb2 _ _⟩
  | true =>
    rw [hm] at cM
    cases hp : isPow o.length with
    | false =>
      rw [hp] at cN
      have e : rtdR m h o S R = .err 1 := by unfold rtdR; rw [hm, hp]; rfl
      rw [e]
      clear hRW hh ho hO hS hL s1 r1 hR e hp hT
      generalize o.length = n at *
      generalize S.length = sl at *
      generalize R.length = rl at *
      go_enter Tryd.func13, Tryd.ntmps13
      go_wp2_with fail
      refine (cM _).mono ?_
      rintro e w1 ⟨rfl, rfl⟩
      clear cM
      go_wp2_with fail
      refine (cN _).mono ?_
      rintro e w1 ⟨rfl, rfl⟩
      clear cN
      go_wp2_with fail
      go_ret2
      exact ⟨rfl, hb2 _ _⟩
    | true =>
      rw [hp] at cN
      rw [rtdR_last m h o S R hm hp]
      have cR1 := rooted1_any m m0 m1 w hT (w.heap.size + 1) w.heap.size (w.heap.size + 2) h h6 o ao co S R _ (hh hp) ho hq hO hR hRW
      have hB := rtR_len m 140737488351232 (by decide) h o S R
      have hB1 := Lib.hid (fun x S' R' he => (hB x S' R' hR he).1)
      have hfn := hRW.fn
      have hbw := hRW.below
      obtain ⟨X, hX⟩ : ∃ X, rtR m h o S R = X := ⟨_, rfl⟩
      rw [hX] at cR1 hB1 ⊢
      clear hX hB hh ho hO hS hL s1 r1 hR hp hm hT hb1 hb2 hRW
      generalize o.length = n at *
      generalize S.length = sl at *
      generalize R.length = rl at *
      go_enter Tryd.func13, Tryd.ntmps13
      go_wp2_with fail
      refine (cM _).mono ?_
      rintro e w1 ⟨rfl, rfl⟩
      clear cM
      go_wp2_with fail
      refine (cN _).mono ?_
      rintro e w1 ⟨rfl, rfl⟩
      clear cN
      go_upto_region 7 with fail
      generalize ((w.alloc (.cells #[.int .i64 m] 3)).alloc (.cells #[.slice aS sl cS, .slice aR rl cR] 26)).alloc (.cells #[rtF (w.heap.size + 1) w.heap.size (w.heap.size + 2)] 68) = W3 at *
      go_wp2_with fail
      refine cR1.mono ?_
      intro e W4 hpost
      clear cR1 hfn
      cases X with
      | none =>
        obtain ⟨v4, c4, rfl, hc4, hg4⟩ := hpost.none_inv
        have hb4 := hbw.grown hg4 hbw.size (fun k hk => by cases hk; exact Nat.le_succ _)
        have hne : (c4 != 0) = true := by simpa using hc4
        clear hpost hg4 hbw hc4
        go_wp2_with fail
        go_ret2
        exact ⟨rfl, hb4⟩
      | some t =>
        obtain ⟨x, S', R'⟩ := t
        obtain ⟨v4, rfl, hr4, hRW4, hg4⟩ := hpost.some_inv
        have hb4 := hRW4.below
        obtain ⟨aS', cS', aR', cR', hC4, -⟩ := hRW4.cov
        have q0 := Blk.cell hC4 (j := 0) rfl
        have q1 := Blk.cell hC4 (j := 1) rfl
        have hxl := hB1.out x S' R' rfl
        have cB := cloneB_any x v4 W4 hr4 hxl
        have HB4 := Lib.hid hb4
        clear hpost hg4 hbw hRW4 hC4 hr4 hB1 hxl hb4
        cases S' with
        | cons s S' =>
          have hpos : (0 : Int) < ((s :: S').length : Nat) := by simp
          have hE : lastX (some (x, s :: S', R')) = .err 10 := by cases R' <;> rfl
          rw [hE]
          clear hE cB
          generalize (s :: S').length = sl' at *
          generalize R'.length = rl' at *
          go_wp2_with fail
          go_ret2
          exact ⟨rfl, HB4.out⟩
        | nil =>
          cases R' with
          | cons r R' =>
            have hpos : (0 : Int) < ((r :: R').length : Nat) := by simp
            have hE : lastX (some (x, [], r :: R')) = .err 10 := rfl
            rw [hE]
            clear hE cB
            simp only [List.length_nil] at q0
            generalize (r :: R').length = rl' at *
            go_wp2_with fail
            go_ret2
            exact ⟨rfl, HB4.out⟩
          | nil =>
            have hE : lastX (some (x, [], [])) = .ok x := rfl
            rw [hE]
            clear hE
            simp only [List.length_nil] at q0 q1
            go_wp2_with fail
            refine cB.mono ?_
            rintro e W5 ⟨v5, rfl, hr5, hb5⟩
            clear cB q0 q1
            have hbb := below_step HB4.out HB4.out.size hb5
            obtain ⟨a5, k5, rfl, -⟩ := id hr5
            have HR5 := Lib.hid hr5.rowT
            clear hr5
            generalize x.length = lx at *
            go_wp2_with fail
            go_ret2
            exact ⟨_, rfl, HR5.out, hbb⟩
end Go.Proofs.YtcplnfaopigoiaaDoor
