/-
  CONTRACTS of package oracle's readTag, readParts, Parse.
  CONDITIONS: each theorem's own hypotheses.
-/
import Derived.Test.YtmldhnghfdhjmaaParseB
namespace Go.Proofs.Ytmldhnghfdhjmaa
open Go.RowKit CodeMath Go.Proofs.Ytmldhnghfdhjmaa.FrameMath
set_option linter.unusedVariables false

set_option maxRecDepth 100000 in
theorem readTag_nil (ao : Option Addr) (cap : Nat) (w : World) :
    Calls Try.prog 21 #[.slice ao 0 cap] w fun e w' => e = .returned (.tuple #[.int .i64 0, .slice none 0 0, .int .i64 4]) ∧ Below w.heap.size w w' := by
  have c := readNumber_short 1 1 rfl [] ao cap w (by decide) (by decide)
  have hB := Below.refl w.heap.size w
  rw [show ([] : List UInt8).length = 0 from rfl] at c
  go_enter Try.func21, Try.ntmps21
  go_wp2_with fail
  refine c.mono ?_
  rintro e w1 ⟨rfl, rfl⟩
  go_wp2_with fail
  go_ret3
  exact ⟨rfl, hB⟩
theorem num_one (t : UInt8) (l : List UInt8) : num ((t :: l).take 1) 0 = (t.toNat : Int) := by
  rw [List.take_succ_cons, List.take_zero]
  simp [num]
set_option maxRecDepth 100000 in
set_option maxHeartbeats 1000000 in
theorem readTag_good (t : UInt8) (l : List UInt8) (ao : Option Addr) (cap n : Nat) (hn : l.length + 1 = n) (w : World) (hb : decide (1 ≤ (t.toNat : Int) ∧ (t.toNat : Int) ≤ 9) = true) (hc : n ≤ cap) (hq : cap ≤ 9223372036854775807) (hB : Bytes w ao (t :: l)) :
    Calls Try.prog 21 #[.slice ao n cap] w fun e w' => e = .returned (.tuple #[.int .i64 (t.toNat : Nat), .slice (pieceA ao 1 cap) (n - 1) (cap - 1), .int .i64 0]) ∧ Below w.heap.size w w' := by
  have hl : (t :: l).length = n := hn
  have c := readNumber_any 1 1 rfl (t :: l) ao cap w (by rw [hl]; omega) (by decide) (by rw [hl]; exact hc) hq hB
  rw [hl, num_one] at c
  have cT := fun W => isTag_any (t.toNat : Int) true hb W (by omega) (by have := byte_lt t; omega)
  have tb := byte_lt t
  generalize (t.toNat : Int) = T at *
  clear hb hB hl hn
  go_enter Try.func21, Try.ntmps21
  go_wp2_with fail
  refine c.mono ?_
  rintro e w1 ⟨rfl, hB⟩
  clear c
  go_wp2_with fail
  refine (cT _).mono ?_
  rintro e w2 ⟨rfl, rfl⟩
  go_wp2_with fail
  go_ret3
  exact ⟨rfl, hB⟩
set_option maxRecDepth 100000 in
set_option maxHeartbeats 1000000 in
theorem readTag_bad (t : UInt8) (l : List UInt8) (ao : Option Addr) (cap n : Nat) (hn : l.length + 1 = n) (w : World) (hb : decide (1 ≤ (t.toNat : Int) ∧ (t.toNat : Int) ≤ 9) = false) (hc : n ≤ cap) (hq : cap ≤ 9223372036854775807) (hB : Bytes w ao (t :: l)) :
    Calls Try.prog 21 #[.slice ao n cap] w fun e w' => e = .returned (.tuple #[.int .i64 0, .slice none 0 0, .int .i64 6]) ∧ Below w.heap.size w w' := by
  have hl : (t :: l).length = n := hn
  have c := readNumber_any 1 1 rfl (t :: l) ao cap w (by rw [hl]; omega) (by decide) (by rw [hl]; exact hc) hq hB
  rw [hl, num_one] at c
  have cT := fun W => isTag_any (t.toNat : Int) false hb W (by omega) (by have := byte_lt t; omega)
  have tb := byte_lt t
  generalize (t.toNat : Int) = T at *
  clear hb hB hl hn
  go_enter Try.func21, Try.ntmps21
  go_wp2_with fail
  refine c.mono ?_
  rintro e w1 ⟨rfl, hB⟩
  clear c
  go_wp2_with fail
  refine (cT _).mono ?_
  rintro e w2 ⟨rfl, rfl⟩
  go_wp2_with fail
  go_ret3
  exact ⟨rfl, hB⟩
set_option maxRecDepth 100000 in
set_option maxHeartbeats 4000000 in
theorem readParts_any (l : List UInt8) (ao : Option Addr) (cap : Nat) (w : World) (hc : l.length ≤ cap) (hq : cap ≤ 9223372036854775807) (hn : ao = none → cap = 0) (hl : l.length ≤ 140737488351232) (hB : Bytes w ao l) :
    Calls Try.prog 22 #[.slice ao l.length cap] w (PartsPost (partsR l) w) := by
  cases l with
  | nil =>
    have c := readNumber_short 1 1 rfl [] ao cap w (by decide) (by decide)
    have hB := Below.refl w.heap.size w
    rw [show ([] : List UInt8).length = 0 from rfl] at c ⊢
    go_enter Try.func22, Try.ntmps22
    go_wp2_with fail
    refine c.mono ?_
    rintro e w1 ⟨rfl, rfl⟩
    go_wp2_with fail
    go_ret3
    exact ⟨rfl, hB⟩
  | cons t l =>
    have c := readNumber_any 1 1 rfl (t :: l) ao cap w (by simp) (by decide) hc hq hB
    rw [num_one] at c
    have hr := RowV.rest 1 (by simp) hc hq hn hB
    rw [show (t :: l).drop 1 = l from rfl] at hr
    obtain ⟨a1, k1, e1, g1, g2, g3, g4⟩ := hr
    rw [e1] at c
    obtain ⟨n, hnn⟩ : ∃ n, (t :: l).length = n := ⟨_, rfl⟩
    have hll : l.length ≤ 140737488351232 := by simp at hl; omega
    obtain ⟨T, hT⟩ : ∃ T : Nat, t.toNat = T := ⟨_, rfl⟩
    have tb := byte_lt t
    obtain ⟨R, hR⟩ : ∃ R, partsR (t :: l) = R := ⟨_, rfl⟩
    rw [hR]
    change (if 8 < t.toNat then PR.err 1 else ofCut (cutN t.toNat l)) = R at hR
    rw [hT] at c tb hR
    rw [hnn] at c ⊢
    clear hnn hl hc hq hn hB e1 hT
    by_cases h8 : 8 < T
    · have hI : (8 : Int) < T := by omega
      rw [if_pos h8] at hR
      subst hR
      go_enter Try.func22, Try.ntmps22
      go_wp2_with fail
      refine c.mono ?_
      rintro e w1 ⟨rfl, hB⟩
      clear c
      go_wp2_with fail
      go_ret3
      exact ⟨rfl, hB⟩
    · have hI : ¬ (8 : Int) < T := by omega
      rw [if_neg h8] at hR
      have HR := Lib.hid hR
      have T8 : T ≤ 8 := by omega
      clear hR h8
      go_enter Try.func22, Try.ntmps22
      go_wp2_with fail
      refine c.mono ?_
      rintro e w1 ⟨rfl, hB1⟩
      clear c
      go_wp2_with fail
      have h0 : RowV w (.slice a1 l.length k1) l := ⟨a1, k1, rfl, g1, g2, g3, g4⟩
      generalize Value.slice a1 l.length k1 = u1 at h0 ⊢
      clear g1 g2 g3 g4
      go_loopw [2, 3, 19] (fun v u ix wr => ∃ (i : Nat) (acc : List (List UInt8)) (r : List UInt8), i ≤ T ∧ ix = .int .i64 i ∧ OwnL wr w.heap.size v acc ∧ RowV w u r ∧ Hid (cutN T l = apps acc (cutN (T - i) r)) ∧ Hid (acc.length = i) ∧ Hid (r.length ≤ 140737488351232) ∧ Below w.heap.size w wr) (fun _ _ ix _ => T - (intOf ix).toNat)
      case atStart => exact ⟨0, [], l, Nat.zero_le _, rfl, OwnL.nil _ _, h0, Lib.hid (by rw [apps_nil, Nat.sub_zero]), Lib.hid rfl, Lib.hid hll, hB1⟩
      case round =>
        obtain ⟨i, acc, r, hi, rfl, ho, hu, hcut, hal, hrl, hbr⟩ := hrel
        clear h0 hB1 hll
        obtain ⟨a2, k2, rfl, g1, g2, g3, g4w⟩ := hu
        have g4 := g4w.keep hbr
        by_cases hlt : i < T
        · have iI : (i : Int) < T := by omega
          obtain ⟨k, hk⟩ : ∃ k, T - i = k + 1 := ⟨T - i - 1, by omega⟩
          have hk' : T - (i + 1) = k := by omega
          have hcut' := hcut.out
          rw [hk, cutN_succ] at hcut'
          by_cases h4 : r.length < 4
          · have c := readPart_short r a2 k2 wr h4
            have e1 : cut1 r = none := by unfold cut1; rw [if_pos h4]
            rw [e1] at hcut'
            have HE : Hid (R = .err 4) := by have := HR.out; show _ = _; rw [← this, hcut']; rfl
            clear hcut hcut' hk hk' e1 h4 hlt HR
            generalize r.length = nr at *
            go_wp2_with fail
            refine c.mono ?_
            rintro e w2 ⟨rfl, hB2⟩
            clear c
            have hBB := below_step hbr hbr.size hB2
            go_wp2_with fail
            go_ret3
            rw [HE.out]
            exact ⟨rfl, hBB⟩
          · by_cases h5 : ((r.drop 4).length : Int) < num (r.take 4) 0
            · have c := readPart_long r a2 k2 wr h4 h5 g1 g2 g4
              have e1 : cut1 r = none := by unfold cut1; rw [if_neg h4, if_pos h5]
              rw [e1] at hcut'
              have HE : Hid (R = .err 4) := by have := HR.out; show _ = _; rw [← this, hcut']; rfl
              clear hcut hcut' hk hk' e1 h4 h5 hlt HR g4 g4w
              generalize r.length = nr at *
              go_wp2_with fail
              refine c.mono ?_
              rintro e w2 ⟨rfl, hB2⟩
              clear c
              have hBB := below_step hbr hbr.size hB2
              go_wp2_with fail
              go_ret3
              rw [HE.out]
              exact ⟨rfl, hBB⟩
            · have c := readPart_good r a2 k2 wr h4 h5 g1 g2 g3 hrl.out g4
              have e1 : cut1 r = some ((r.drop 4).take (num (r.take 4) 0).toNat, (r.drop 4).drop (num (r.take 4) 0).toNat) := by unfold cut1; rw [if_neg h4, if_neg h5]
              rw [e1] at hcut'
              simp only [apps_cons] at hcut'
              have hpt := RowV.part (num (r.take 4) 0).toNat (by omega) (by rw [List.length_drop] at h5; omega) g1 g2 g3 g4w
              have hrr : ((r.drop 4).drop (num (r.take 4) 0).toNat).length ≤ 140737488351232 := by have := hrl.out; simp; omega
              generalize (r.drop 4).take (num (r.take 4) 0).toNat = p at *
              generalize (r.drop 4).drop (num (r.take 4) 0).toNat = r' at *
              generalize Value.slice (pieceA (pieceA a2 4 k2) (num (r.take 4) 0).toNat (k2 - 4)) (r.length - 4 - (num (r.take 4) 0).toNat) (k2 - 4 - (num (r.take 4) 0).toNat) = u2 at *
              rw [← hk'] at hcut'
              have HC := Lib.hid hcut'
              have HL : Hid ((acc ++ [p]).length = i + 1) := by have := hal.out; show _ = _; rw [List.length_append, this]; rfl
              have hac : acc.length ≤ 1000000 := by have := hal.out; omega
              have HLT := Lib.hid hlt
              have HRR := Lib.hid hrr
              clear hcut hcut' hk hk' e1 h4 h5 hlt g4 g4w hal hrl hrr
              generalize r.length = nr at *
              go_wp2_with fail
              refine c.mono ?_
              rintro e w2 ⟨v2, rfl, hv2, hB2⟩
              clear c
              have hBB := below_step hbr hbr.size hB2
              have ho2 := ho.keep hB2
              have hs2 := hBB.size
              clear ho hB2 hbr
              obtain ⟨av, nv, kv, rfl⟩ : ∃ av nv kv, v2 = .slice av nv kv := by obtain ⟨av, kv, e, _⟩ := hv2; exact ⟨_, _, _, e⟩
              go_wp2_with (first
                | (at_builtin; refine wpList_append_line rfl _ _ rfl w.heap.size _ _ rfl ho2 _ p _ rfl rfl hv2 hac hs2 ?_; intro v5 w5 ho5 hb5)
                | fail)
              go_roundw
              case rel => exact ⟨i + 1, _, r', HLT.out, by go_num, ho5, hpt, HC, HL, HRR, hBB.trans hb5⟩
              case measure => have := HLT.out; simp [intOf]; omega
        · have iI : ¬ (i : Int) < T := by omega
          have hie : i = T := by omega
          have hcut' := hcut.out
          rw [hie, Nat.sub_self] at hcut'
          have e2 : apps acc (cutN 0 r) = .ok acc r := by show Cut.ok (acc ++ []) r = _; rw [List.append_nil]
          rw [e2] at hcut'
          have HE : Hid (R = .ok acc r) := by have := HR.out; show _ = _; rw [← this, hcut']; rfl
          have hu : RowV w (.slice a2 r.length k2) r := ⟨a2, k2, rfl, g1, g2, g3, g4w⟩
          generalize Value.slice a2 r.length k2 = u2 at hu ⊢
          clear hcut hcut' hie e2 HR hlt g1 g2 g3 g4 g4w
          go_wp2_with fail
          go_ret3
          rw [HE.out]
          exact ⟨_, _, rfl, ho, hu, hbr⟩
end Go.Proofs.Ytmldhnghfdhjmaa
