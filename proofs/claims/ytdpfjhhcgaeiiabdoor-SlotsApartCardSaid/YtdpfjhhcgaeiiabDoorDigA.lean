/-
  CONTRACTS of known.Mode, the reference's badMode, oracle.Digest, the reference's DigestOf.
  CONDITIONS: package sum's roundWords hold what their initialiser lays ('KW').
-/
import Derived.Test.YtdpfjhhcgaeiiabDoorGBase
import Derived.Test.YtdpfjhhcgaeiiabDoorFrameS
import Derived.Test.YtdpfjhhcgaeiiabDoorByMaxT
import Derived.Test.YtdpfjhhcgaeiiabDoorGSum
import Derived.Test.YtdpfjhhcgaeiiabDoorGRef
import Derived.Test.YtdpfjhhcgaeiiabDoorGMac
namespace Go.Proofs.YtdpfjhhcgaeiiabDoor
open Go.RowKit CodeMath Go.Proofs.YtdpfjhhcgaeiiabDoor.FrameMath
set_option linter.unusedVariables false
set_option maxRecDepth 100000

/-- What digesting answers. -/
inductive DR where
  | err (e : Int)
  | ok (b : List UInt8)
def isMode (m : Int) : Bool := decide (m = 1 ∨ m = 2)
def digB (m : Int) (t : Nat) (ps : List (List UInt8)) : List UInt8 := if m = 2 then frame t ps else ShaMath.sha (frame t ps)
def digR (m t : Int) (ps : List (List UInt8)) : DR := if isMode m = false then .err 2 else if ¬ (1 ≤ t ∧ t ≤ 9) then .err 6 else if 8 < ps.length ∨ 16777216 < 2 + total ps then .err 1 else .ok (digB m t.toNat ps)
def DigPost (R : DR) (w : World) (e : Ending) (w' : World) : Prop := match R with
  | .err c => e = .returned (.tuple #[.slice none 0 0, .int .i64 c]) ∧ Below w.heap.size w w'
  | .ok b => ∃ v, e = .returned (.tuple #[v, .int .i64 0]) ∧ RowT w' v b ∧ Below w.heap.size w w'
set_option maxRecDepth 100000 in
theorem mode_any (m : Int) (w : World) (m0 : -9223372036854775808 ≤ m) (m1 : m ≤ 9223372036854775807) :
    Calls Tryd.prog 34 #[.int .i64 m] w fun e w' => e = .returned (.bool (isMode m)) ∧ w = w' := by
  obtain ⟨b, hb⟩ : ∃ b, isMode m = b := ⟨_, rfl⟩
  rw [hb]
  unfold isMode at hb
  by_cases h1 : m = 1
  · subst h1
    have : b = true := by rw [← hb]; rfl
    subst this
    clear hb
    go_enter Tryd.func34, Tryd.ntmps34
    go_wp2_with fail
    go_ret
    exact ⟨rfl, rfl⟩
  · by_cases h2 : m = 2
    · subst h2
      have : b = true := by rw [← hb]; rfl
      subst this
      clear hb
      go_enter Tryd.func34, Tryd.ntmps34
      go_wp2_with fail
      go_ret
      exact ⟨rfl, rfl⟩
    · have : b = false := by rw [← hb]; simp [h1, h2]
      subst this
      clear hb
      go_enter Tryd.func34, Tryd.ntmps34
      go_wp2_with fail
      go_ret
      exact ⟨by show Ending.returned (.bool (m == 1 || m == 2)) = _; simp [h1, h2], rfl⟩
/-- A block of thirty-two bytes. -/
theorem rowT_arr {w : World} {g : Nat} {l : List UInt8} (h : w.heap[g]? = some (.cells (u8s l).toArray 109 (0, 0))) (hl : l.length = 32) : RowT w (.slice (some ⟨g, 0, none⟩) 32 32) l := by
  refine ⟨_, 32, by rw [hl], by omega, by decide, (fun h => by cases h), .inr ⟨g, _, _, _, rfl, h, ⟨by decide, by decide⟩, fun j x hx => ?_⟩⟩
  have := u8s_get hx
  simpa using this
set_option maxRecDepth 100000 in
set_option maxHeartbeats 4000000 in
theorem Digest_any (m t : Int) (ps : List (List UInt8)) (ap : Option Addr) (cp : Nat) (w : World) (m0 : -9223372036854775808 ≤ m) (m1 : m ≤ 9223372036854775807) (t0 : -9223372036854775808 ≤ t) (t1 : t ≤ 9223372036854775807) (hn : ps.length ≤ 9223372036854775807) (hB : ∀ l ∈ ps, l.length ≤ 140737488351232) (hl : Lines w ap ps) (hT : KW w) :
    Calls Tryd.prog 58 #[.int .i64 m, .int .i64 t, .slice ap ps.length cp] w (DigPost (digR m t ps) w) := by
  have cM := fun W => mode_any m W m0 m1
  obtain ⟨R, hR⟩ : ∃ R, digR m t ps = R := ⟨_, rfl⟩
  rw [hR]
  unfold digR at hR
  have hBB := Below.refl w.heap.size w
  cases hm : isMode m with
  | false =>
    rw [if_pos hm] at hR
    subst hR
    rw [hm] at cM
    clear hm hn hB
    generalize ps.length = n
    go_enter Tryd.func58, Tryd.ntmps58
    go_wp2_with fail
    refine (cM _).mono ?_
    rintro e w1 ⟨rfl, rfl⟩
    go_wp2_with fail
    go_ret2
    exact ⟨rfl, hBB⟩
  | true =>
    rw [if_neg (by rw [hm]; decide)] at hR
    rw [hm] at cM
    by_cases ht : 1 ≤ t ∧ t ≤ 9
    · rw [if_neg (by simpa using ht)] at hR
      by_cases hb : 8 < ps.length ∨ 16777216 < 2 + total ps
      · rw [if_pos hb] at hR
        subst hR
        have cF : Calls Tryd.prog 67 #[.int .i64 t, .slice ap ps.length cp] w fun e w' => e = .returned (.tuple #[.slice none 0 0, .int .i64 1]) ∧ w = w' := by
          by_cases h8 : 8 < ps.length
          · exact Frame_many t ht ap ps.length cp h8 hn w
          · exact Frame_big t ht ps ap cp (by omega) (by omega) w hl hB
        clear hm hn hB hb hl ht
        generalize ps.length = n at *
        go_enter Tryd.func58, Tryd.ntmps58
        go_wp2_with fail
        refine (cM _).mono ?_
        rintro e w1 ⟨rfl, rfl⟩
        clear cM
        go_wp2_with fail
        refine cF.mono ?_
        rintro e w1 ⟨rfl, rfl⟩
        go_wp2_with fail
        go_ret2
        exact ⟨rfl, hBB⟩
      · rw [if_neg hb] at hR
        subst hR
        obtain ⟨T, rfl⟩ : ∃ T : Nat, t = T := ⟨t.toNat, by omega⟩
        rw [Int.toNat_natCast]
        have cF := Frame_good T (by omega) (by omega) ps ap cp (by omega) (by omega) w hl
        have hfl := frame_length T ps
        have hfm : (frame T ps).length ≤ 16777216 := by omega
        unfold digB
        clear hfl
        generalize frame T ps = F at *
        clear hn hB hb hl ht
        generalize ps.length = n at *
        by_cases h2 : m = 2
        · rw [if_pos h2]
          subst h2
          clear hm
          go_enter Tryd.func58, Tryd.ntmps58
          go_wp2_with fail
          refine (cM _).mono ?_
          rintro e w1 ⟨rfl, rfl⟩
          clear cM
          go_wp2_with fail
          refine cF.mono ?_
          rintro e w1 ⟨v1, rfl, ho1, hb1⟩
          have hr := ho1.rowT
          clear cF
          go_wp2_with fail
          go_ret2
          exact ⟨_, rfl, hr, hb1⟩
        · rw [if_neg h2]
          have cS := fun W ab cb h1 h2 h3 h4 => sum_any F ab cb W h1 h2 h3 (by omega) h4
          have hsl : (ShaMath.sha F).length = 32 := ShaMath.sha_length _
          generalize ShaMath.sha F = H at *
          clear hm
          go_enter Tryd.func58, Tryd.ntmps58
          go_wp2_with fail
          refine (cM _).mono ?_
          rintro e w1 ⟨rfl, rfl⟩
          clear cM
          go_wp2_with fail
          refine cF.mono ?_
          rintro e w1 ⟨v1, rfl, ho1, hb1⟩
          clear cF
          obtain ⟨a1, k1, rfl, i1, i2, i3, i4⟩ := ho1.rowT.row
          have c := cS w1 a1 k1 i1 i2 i4 (hT.keep hb1 (Nat.le_refl _))
          clear cS i1 i2 i3 i4 ho1
          generalize F.length = fl at *
          obtain ⟨RA, hRA⟩ : ∃ RA, (u8s H).toArray = RA := ⟨_, rfl⟩
          rw [hRA] at c
          go_wp2_with fail
          refine c.mono ?_
          rintro e w2 ⟨rfl, hb2⟩
          have hbb := below_step hb1 hb1.size hb2
          clear c
          go_wp2_with (first
            | (refine wpList_store_blk rfl 109 (.tmp 10) (.tmp 27) rfl w2.heap.size 0 rfl _ _ (Blk.new w2 _ _) (u8s H) RA (by rw [← hRA]) rfl (by rw [u8s_length, hsl]; decide) (by rw [u8s_length, hsl]; kernel_rfl) (u8s_one _) ?_; intro x3 hg7 hs7 hB7)
            | fail)
          have hB8 : Blk x3 w2.heap.size 109 (u8s H) := by
            rw [List.take_zero, List.nil_append, u8s_length, hsl, List.drop_of_length_le (by decide), List.append_nil] at hB7
            exact hB7
          have hb3 := (hbb.alloc hbb.size _).grown hg7 (hbb.alloc hbb.size _).size (fun k h => by cases h; exact hbb.size)
          go_ret2
          exact ⟨_, rfl, rowT_arr hB8 hsl, hb3⟩
    · rw [if_pos (by simpa using ht)] at hR
      subst hR
      have cF := Frame_badTag t ht (.slice ap ps.length cp) w t0 t1
      clear hm hn hB hl ht
      generalize ps.length = n at *
      go_enter Tryd.func58, Tryd.ntmps58
      go_wp2_with fail
      refine (cM _).mono ?_
      rintro e w1 ⟨rfl, rfl⟩
      clear cM
      go_wp2_with fail
      refine cF.mono ?_
      rintro e w1 ⟨rfl, rfl⟩
      go_wp2_with fail
      go_ret2
      exact ⟨rfl, hBB⟩
end Go.Proofs.YtdpfjhhcgaeiiabDoor
