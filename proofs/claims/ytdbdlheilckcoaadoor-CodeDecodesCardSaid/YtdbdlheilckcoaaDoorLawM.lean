/-
  THE WALK of the law 'chirographlaw.CodeDecodes'.
  CONDITIONS: package unicode/utf8's two tables hold what their initialisers lay ('Tabs').
-/
import Derived.Test.YtdbdlheilckcoaaDoorRefD
namespace Go.Proofs.YtdbdlheilckcoaaDoor
open Go.RowKit CodeMath
set_option linter.unusedVariables false

set_option maxRecDepth 100000 in
set_option maxHeartbeats 1000000 in
theorem lawSameRow_some (l : List V) (a o cap a' o' cap' : Nat) (w : World) (hc : l.length ≤ 1000000) (ha : a < w.heap.size) (ha' : a' < w.heap.size) (hl : Lies w a o l) (hl' : Lies w a' o' l) :
    Calls Tryd.prog 15 #[.slice (some ⟨a, o, none⟩) l.length cap, .slice (some ⟨a', o', none⟩) l.length cap'] w fun e w' => e = .returned (.bool true) ∧ Below w.heap.size w w' := by
  obtain ⟨n, hn⟩ : ∃ n, l.length = n := ⟨_, rfl⟩
  rw [hn] at hc ⊢
  have HN := Lib.hid hn
  have HL := Lib.hid hl
  have HL' := Lib.hid hl'
  clear hn hl hl'
  go_enter Tryd.func15, Tryd.ntmps15
  go_wp2
  go_loopw [13] (fun i wr => ∃ j : Nat, j ≤ n ∧ i = .int .i64 j ∧ Below w.heap.size w wr) (fun i _ => n - (intOf i).toNat)
  case atStart => exact ⟨0, Nat.zero_le _, rfl, Below.refl _ _⟩
  case round =>
    obtain ⟨j, hj, rfl, hbw⟩ := hrel
    by_cases h1 : j < n
    · have hlt : j < l.length := by have := HN.out; omega
      obtain ⟨v, hv⟩ : ∃ v, l[j]? = some v := ⟨l[j], List.getElem?_eq_getElem hlt⟩
      obtain ⟨c0, c1, c2, c3⟩ := HL.out j v hv
      have d0 := (hbw.cell (p := ⟨a, o + j * 4, none⟩) ha).trans c0
      have d1 := (hbw.cell (p := ⟨a, o + j * 4 + 1, none⟩) ha).trans c1
      have d2 := (hbw.cell (p := ⟨a, o + j * 4 + 2, none⟩) ha).trans c2
      have d3 := (hbw.cell (p := ⟨a, o + j * 4 + 3, none⟩) ha).trans c3
      clear c0 c1 c2 c3
      obtain ⟨c0, c1, c2, c3⟩ := HL'.out j v hv
      have d0' := (hbw.cell (p := ⟨a', o' + j * 4, none⟩) ha').trans c0
      have d1' := (hbw.cell (p := ⟨a', o' + j * 4 + 1, none⟩) ha').trans c1
      have d2' := (hbw.cell (p := ⟨a', o' + j * 4 + 2, none⟩) ha').trans c2
      have d3' := (hbw.cell (p := ⟨a', o' + j * 4 + 3, none⟩) ha').trans c3
      clear c0 c1 c2 c3 hv
      go_wp2_with fail
      go_quiet (fail)
      go_wp2
      go_roundw
      case rel => exact ⟨j + 1, by omega, by go_num, below_dn hbw _⟩
      case measure => simp [intOf]; omega
    · go_wp2
      go_ret
      exact ⟨rfl, hbw⟩
theorem lawSameRow_any (l : List V) (ao ao' : Option Addr) (cap cap' : Nat) (w : World) (hc : l.length ≤ 1000000) (hl : LiesAt w ao l) (hl' : LiesAt w ao' l) :
    Calls Tryd.prog 15 #[.slice ao l.length cap, .slice ao' l.length cap'] w fun e w' => e = .returned (.bool true) ∧ Below w.heap.size w w' := by
  rcases hl with rfl | ⟨a, o, rfl, ha, h1⟩
  · go_enter Tryd.func15, Tryd.ntmps15
    go_wp2
    refine wp_loop_rounds 1 ?_
    rw [rounds_succ]
    go_wp2
    go_ret
    exact ⟨rfl, Below.refl _ _⟩
  · rcases hl' with rfl | ⟨a', o', rfl, ha', h1'⟩
    · go_enter Tryd.func15, Tryd.ntmps15
      go_wp2
      refine wp_loop_rounds 1 ?_
      rw [rounds_succ]
      go_wp2
      go_ret
      exact ⟨rfl, Below.refl _ _⟩
    · exact lawSameRow_some l a o cap a' o' cap' w hc ha ha' h1 h1'
theorem decE_len (l : List UInt8) (n down : Int) : (decE l n down).vs.length ≤ 5 := by
  unfold decE
  split
  · simp [CodeMath.RRes.vs]
  · cases hA : decRow okV (dn down) n.toNat 0 l with
    | err e => simp [CodeMath.RRes.vs]
    | ok us =>
      have := (encRow_dec okV (dn down) n.toNat 0 l us hA).1
      simp only [CodeMath.RRes.vs, List.length_map]
      omega

set_option maxRecDepth 100000 in
set_option maxHeartbeats 1000000 in
theorem codeDecodes_walk (l : List UInt8) (ao : Option Addr) (cap : Nat) (n down : Int) (w : World) (hT : Tabs w) (hcap : l.length ≤ cap) (hreach : l.length ≤ 140737488351232) (hby : Bytes w ao l) (n0 : -9223372036854775808 ≤ n) (n1 : n ≤ 9223372036854775807) (d0 : -9223372036854775808 ≤ down) (d1 : down ≤ 9223372036854775807) :
    Calls Tryd.prog 4 #[.slice ao l.length cap, .int .i64 n, .int .i64 down] w fun e w' => e = .returned (.bool true) ∧ Below w.heap.size w w' := by
  have cA := decode_any l n down ao cap w (by omega) hby hT
  have cB := fun w1 hb (hb0 : Below w.heap.size w w1) => rowOf_any l n down ao cap w1 (by omega) hb (tabs_below hT hb0)
  have hlen := decE_len l n down
  obtain ⟨A, hA⟩ : ∃ A, decE l n down = A := ⟨_, rfl⟩
  rw [hA] at cA cB hlen
  unfold DecOk at cA cB
  have cS := fun ao cap ao' cap' w => lawSameRow_any A.vs ao ao' cap cap' w (by omega)
  have hkeep := fun w1 (hb0 : Below w.heap.size w w1) => hby.keep hb0
  generalize l.length = ll at cA cB ⊢
  obtain ⟨m, hm⟩ : ∃ m, A.vs.length = m := ⟨_, rfl⟩
  rw [hm] at cS
  have HM := Lib.hid hm
  clear hA hby hcap hm
  go_enter Tryd.func4, Tryd.ntmps4
  go_wp2_with fail
  refine cA.mono ?_
  rintro e w1 ⟨v1, rfl, ho1, hb1⟩
  have c := cB w1 (hkeep w1 hb1) hb1
  obtain ⟨a1, k1, rfl, _, _, hl1⟩ := ho1.lies
  clear cA cB hkeep
  go_wp2_with fail
  refine c.mono ?_
  rintro e w2 ⟨v2, rfl, ho2, hb2⟩
  obtain ⟨a2, k2, rfl, _, _, hl2⟩ := ho2.lies
  have c := cS a1 k1 a2 k2 w2 (hl1.keep hb2) hl2
  have hbw := hb1.trans (hb2.mono hb1.size)
  rw [HM.out]
  generalize A.e = E
  clear cS hl1 hl2 ho1 ho2
  go_wp2_with fail
  refine c.mono ?_
  rintro e w3 ⟨rfl, hb3⟩
  have hbf := hbw.trans (hb3.mono hbw.size)
  clear c
  go_wp2_with fail
  go_ret
  exact ⟨rfl, hbf⟩
end Go.Proofs.YtdbdlheilckcoaaDoor
