/-
  CONTRACT of package oracle's Parse.
  CONDITIONS: each theorem's own hypotheses.
-/
import Derived.Test.YtmldhnghfdhjmaaParseC
namespace Go.Proofs.Ytmldhnghfdhjmaa
open Go.RowKit CodeMath Go.Proofs.Ytmldhnghfdhjmaa.FrameMath
set_option linter.unusedVariables false

/-- What parsing is, by its parts. -/
theorem parse_parts (t : UInt8) (l : List UInt8) (hs : ¬ 16777216 < (t :: l).length) (ht : ¬ (t.toNat < 1 ∨ 9 < t.toNat)) : parse (t :: l) = match partsR l with
    | .err e => .err e
    | .ok ps r => if r = [] then .ok t.toNat ps else .err 3 := by
  unfold parse
  rw [if_neg hs]
  simp only []
  rw [if_neg ht]
  cases l with
  | nil => rfl
  | cons n l =>
    simp only [partsR]
    by_cases h8 : 8 < n.toNat
    · rw [if_pos h8, if_pos h8]
    · rw [if_neg h8, if_neg h8]
      cases cutN n.toNat l with
      | short => rfl
      | ok ps r => rfl
set_option maxRecDepth 100000 in
set_option maxHeartbeats 2000000 in
theorem Parse_any (l : List UInt8) (ao : Option Addr) (cap : Nat) (w : World) (hc : l.length ≤ cap) (hq : cap ≤ 9223372036854775807) (hn : ao = none → cap = 0) (hl : l.length ≤ 140737488351232) (hB : Bytes w ao l) :
    Calls Try.prog 11 #[.slice ao l.length cap] w (ParsePost (parse l) w) := by
  by_cases hs : 16777216 < l.length
  · have hsI : (16777216 : Int) < l.length := by omega
    have e : parse l = .err 1 := by unfold parse; rw [if_pos hs]
    rw [e]
    have hBB := Below.refl w.heap.size w
    clear e hl hc hB hs
    generalize l.length = n at *
    go_enter Try.func11, Try.ntmps11
    go_wp2_with fail
    go_ret3
    exact ⟨rfl, hBB⟩
  · cases l with
    | nil =>
      have c := readTag_nil ao cap w
      rw [show parse [] = .err 4 from rfl, show ([] : List UInt8).length = 0 from rfl]
      clear hs hc hl hB
      go_enter Try.func11, Try.ntmps11
      go_wp2_with fail
      refine c.mono ?_
      rintro e w1 ⟨rfl, hB⟩
      go_wp2_with fail
      go_ret3
      exact ⟨rfl, hB⟩
    | cons t l =>
      obtain ⟨n, hnn⟩ : ∃ n, (t :: l).length = n := ⟨_, rfl⟩
      have hn1 : l.length + 1 = n := hnn
      have nI : ¬ (16777216 : Int) < n := by omega
      by_cases ht : t.toNat < 1 ∨ 9 < t.toNat
      · have e : parse (t :: l) = .err 6 := by unfold parse; rw [if_neg hs]; simp only []; rw [if_pos ht]
        have c := readTag_bad t l ao cap n hn1 w (by simp; omega) (by omega) hq hB
        rw [e, hnn]
        clear e hs ht hnn hn1 hc hl hB
        go_enter Try.func11, Try.ntmps11
        go_wp2_with fail
        refine c.mono ?_
        rintro e w1 ⟨rfl, hB⟩
        go_wp2_with fail
        go_ret3
        exact ⟨rfl, hB⟩
      · have e := parse_parts t l hs ht
        have c := readTag_good t l ao cap n hn1 w (by simp; omega) (by omega) hq hB
        have hr := RowV.rest 1 (by simp) hc hq hn hB
        rw [show (t :: l).drop 1 = l from rfl, hnn] at hr
        obtain ⟨a1, k1, e1, g1, g2, g3, g4⟩ := hr
        rw [e1] at c
        have cP := fun W hb => readParts_any l a1 k1 W g1 g2 g3 (by omega) hb
        obtain ⟨T, hT⟩ : ∃ T : Nat, t.toNat = T := ⟨_, rfl⟩
        obtain ⟨R, hR⟩ : ∃ R, parse (t :: l) = R := ⟨_, rfl⟩
        rw [hT] at c e
        rw [hnn, hR]
        rw [hR] at e
        clear hR hT ht hs hnn hn1 hc hl hB e1 g1 g2 g3
        generalize l.length = m at *
        cases hp : partsR l with
        | err q =>
          rw [hp] at e cP
          simp only [] at e
          subst e
          have q0 : q ≠ 0 := by
            unfold partsR at hp
            intro h0
            subst h0
            split at hp
            · cases hp
            · split at hp
              · cases hp
              · unfold ofCut at hp
                split at hp <;> cases hp
          clear hp
          go_enter Try.func11, Try.ntmps11
          go_wp2_with fail
          refine c.mono ?_
          rintro e w1 ⟨rfl, hB1⟩
          clear c
          have c := cP w1 (g4.keep hB1)
          clear cP g4
          go_wp2_with fail
          refine c.mono ?_
          rintro e w2 ⟨rfl, hB2⟩
          clear c
          have hBB := below_step hB1 hB1.size hB2
          go_wp2_with fail
          go_ret3
          exact ⟨rfl, hBB⟩
        | ok ps r =>
          rw [hp] at e cP
          simp only [] at e
          have HE := Lib.hid e
          clear hp e
          go_enter Try.func11, Try.ntmps11
          go_wp2_with fail
          refine c.mono ?_
          rintro e' w1 ⟨rfl, hB1⟩
          clear c
          have c := cP w1 (g4.keep hB1)
          clear cP g4
          go_wp2_with fail
          refine c.mono ?_
          rintro e' w2 ⟨v2, u2, rfl, ho2, hu2, hB2⟩
          clear c
          have hBB := below_step hB1 hB1.size hB2
          have ho : OwnL w2 w.heap.size v2 ps := ho2.base hB1.size
          obtain ⟨a3, k3, rfl, _⟩ := hu2
          clear ho2
          cases r with
          | nil =>
            have e := HE.out
            rw [if_pos rfl] at e
            subst e
            clear HE
            rw [show ([] : List UInt8).length = 0 from rfl]
            go_wp2_with fail
            go_ret3
            exact ⟨_, rfl, ho, hBB⟩
          | cons x r =>
            have e := HE.out
            rw [if_neg (by simp)] at e
            subst e
            clear HE
            obtain ⟨q, hq'⟩ : ∃ q, (x :: r).length = q := ⟨_, rfl⟩
            have hqI : (0 : Int) < q := by have : (x :: r).length = r.length + 1 := rfl; omega
            rw [hq']
            clear hq'
            go_wp2_with fail
            go_ret3
            exact ⟨rfl, hBB⟩
end Go.Proofs.Ytmldhnghfdhjmaa
