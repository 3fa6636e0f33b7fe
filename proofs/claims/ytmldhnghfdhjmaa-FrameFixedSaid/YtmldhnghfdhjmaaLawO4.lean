/-
  THE WALK of the law 'chirographkeep.FrameFixed'.
  CONDITIONS: each theorem's own hypotheses.
-/
import Derived.Test.YtmldhnghfdhjmaaParseD
namespace Go.Proofs.Ytmldhnghfdhjmaa
open Go.RowKit CodeMath Go.Proofs.Ytmldhnghfdhjmaa.FrameMath
set_option linter.unusedVariables false

theorem parse_err_ne (l : List UInt8) (q : Int) (h : parse l = .err q) : q ≠ 0 := by
  intro h0
  subst h0
  unfold parse at h
  split at h
  · cases h
  · split at h
    · cases h
    · split at h
      · cases h
      · split at h
        · cases h
        · split at h
          · cases h
          · unfold endRes at h
            split at h
            · cases h
            · split at h <;> cases h
set_option maxRecDepth 100000 in
set_option maxHeartbeats 2000000 in
theorem frameFixed_walk (l : List UInt8) (ao : Option Addr) (cap : Nat) (w : World) (hc : l.length ≤ cap) (hq : cap ≤ 9223372036854775807) (hr : l.length ≤ 140737488351232) (hn : ao = none → cap = 0) (hb : Bytes w ao l) :
    Calls Try.prog 6 #[.slice ao l.length cap] w fun e w' => e = .returned (.bool true) ∧ Below w.heap.size w w' := by
  have cF := Frame_good 1 (by decide) (by decide) [] none 0 (by decide) (by decide) w (.inl rfl)
  rw [show ([] : List (List UInt8)).length = 0 from rfl] at cF
  have hfl := frame_length 1 []
  rw [show total [] = 0 from rfl] at hfl
  generalize frame 1 [] = F1 at cF hfl
  have cA := fun W h => Parse_any l ao cap W hc hq hn hr h
  have csb := fun W (h : Bytes W ao l) => bytes_string (cap := cap) h
  obtain ⟨S, hS⟩ : ∃ S : ByteArray, (⟨l.toArray⟩ : ByteArray) = S := ⟨_, rfl⟩
  rw [hS] at csb
  cases hp : parse l with
  | err q =>
    have q0 := parse_err_ne l q hp
    rw [hp] at cA
    generalize l.length = n at *
    clear hp hS csb hc hr hn
    go_enter Try.func6, Try.ntmps6
    go_wp2_with fail
    refine cF.mono ?_
    rintro e w1 ⟨v1, rfl, ho1, hB1⟩
    clear cF
    obtain ⟨a1, k1, rfl, i1, i2, i3, i4⟩ := ho1.rowT.row
    rw [hfl]
    have c := cA w1 (hb.keep hB1)
    clear cA i1 i2 i3 i4 hfl
    go_wp2_with fail
    refine c.mono ?_
    rintro e w2 ⟨rfl, hB2⟩
    have hBB := below_step hB1 hB1.size hB2
    clear c
    go_wp2_with fail
    go_ret
    exact ⟨rfl, hBB⟩
  | ok t ps =>
    obtain ⟨hfr, t0, t9, p8, hW⟩ := frame_parse l t ps hp
    have cG := fun ap cp W h => Frame_good t t0 t9 ps ap cp p8 hW W h
    rw [hfr] at cG
    rw [hp] at cA
    have hss : (S.toList == S.toList) = true := by simp
    have csc := fun W u k (h : Bytes W u l) => bytes_string (cap := k) h
    rw [hS] at csc
    obtain ⟨n, hln⟩ : ∃ n, l.length = n := ⟨_, rfl⟩
    have HLN := Lib.hid hln
    rw [hln] at cA csb csc ⊢
    clear hp hS hc hr hn hfr hW hln
    go_enter Try.func6, Try.ntmps6
    go_wp2_with fail
    refine cF.mono ?_
    rintro e w1 ⟨v1, rfl, ho1, hB1⟩
    clear cF
    obtain ⟨a1, k1, rfl, i1, i2, i3, i4⟩ := ho1.rowT.row
    rw [hfl]
    have c := cA w1 (hb.keep hB1)
    clear cA i1 i2 i3 i4 hfl
    go_wp2_with fail
    refine c.mono ?_
    rintro e w2 ⟨v2, rfl, ho2, hB2⟩
    have hBB := below_step hB1 hB1.size hB2
    clear c
    obtain ⟨a2, k2, rfl, g1, g2, g3, g4⟩ := ho2.lines
    have c := cG a2 k2 w2 g4
    generalize ps.length = m at *
    clear cG g1 g2 g3 g4
    go_wp2_with fail
    refine c.mono ?_
    rintro e w3 ⟨v3, rfl, ho3, hB3⟩
    have hBB3 := below_step hBB hBB.size hB3
    clear c
    obtain ⟨a3, k3, rfl, j1, j2, j3, j4⟩ := ho3.rowT.row
    have q1 := csb w3 (hb.keep hBB3)
    have q2 := csc w3 a3 k3 j4
    rw [HLN.out]
    clear j1 j2 j3 j4 ho3 csb csc
    go_wp2_with fail
    go_ret
    exact ⟨rfl, hBB3⟩
end Go.Proofs.Ytmldhnghfdhjmaa
