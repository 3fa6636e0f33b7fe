/-
  CONTRACT of package code's Encode: over a slice of values.
  CONDITIONS: each theorem's own hypotheses; package unicode/utf8's two tables hold what their initialisers lay ('Tabs').
-/
import Derived.Test.YtjllecmlabodaabDoorCodeC
import Derived.StillTailTactics
namespace Go.Proofs.YtjllecmlabodaabDoor
open Go.RowKit CodeMath
set_option linter.unusedVariables false

theorem OwnB.keep {w w1 : World} {base : Nat} {v : Value} {l : List UInt8} (h : OwnB w base v l) (hb : Below w.heap.size w w1) : OwnB w1 base v l :=
  World.ownsRow.kept (row := none) h ⟨hb.os, hb.tape, hb.output, hb.size, fun k hk _ => hb.block k hk⟩ (by cases v.ownBlock <;> simp)
theorem OwnB.shape {w : World} {base : Nat} {v : Value} {l : List UInt8} (h : OwnB w base v l) : ∃ ao cap, v = .slice ao l.length cap := by
  rcases h.2 with ⟨rfl, h0⟩ | ⟨g, cap, cur, rfl, _⟩
  · exact ⟨none, 0, by rw [h0]⟩
  · exact ⟨_, _, rfl⟩
theorem OwnB.shape1 {w : World} {base : Nat} {v : Value} {l : List UInt8} (h : OwnB w base v l) (hl : 0 < l.length) : ∃ g cap, v = .slice (some ⟨g, 0, none⟩) l.length cap ∧ l.length ≤ cap ∧ cap ≤ 9223372036854775807 := by
  rcases h.2 with ⟨rfl, h0⟩ | ⟨g, cap, cur, rfl, _, _, h1, h2, _⟩
  · omega
  · exact ⟨g, cap, rfl, h1, by unfold maxLen at h2; omega⟩
theorem OwnB.nil (w : World) (base : Nat) : OwnB w base (.slice none 0 0) [] := World.ownsRow_nil _ _ _ _

def rowsOf (l : List V) : List CodeMath.Val := l.map V.val
def encE (l : List V) : Int := if 5 < l.length then 1 else firstFault l
def encB (down : Int) (l : List V) : List UInt8 := if encE l = 0 then encRow (dn down) 0 (rowsOf l) else []
def upTo (down : Int) (l : List V) (j : Nat) : List UInt8 := encRow (dn down) 0 (rowsOf (l.take j))
theorem upTo_succ (down : Int) (l : List V) (j : Nat) (v : V) (h : l[j]? = some v) : upTo down l (j + 1) = upTo down l j ++ turnL (dn down j) (enc v.val) := by
  have hj : j < l.length := (List.getElem?_eq_some_iff.1 h).1
  have he : l[j] = v := (List.getElem?_eq_some_iff.1 h).2
  unfold upTo rowsOf
  rw [List.take_succ_eq_append_getElem hj, List.map_append, encRow_append, he]
  simp [encRow]
  rw [Nat.min_eq_left (by omega)]
theorem upTo_length (down : Int) (l : List V) (j : Nat) (hj : j ≤ 5) (h : ∀ v ∈ l.take j, Facts v.val) : (upTo down l j).length ≤ 415 := by
  unfold upTo rowsOf
  have := encRow_length (dn down) ((l.take j).map V.val) 0 (fun v hv => by
    obtain ⟨u, hu, rfl⟩ := List.mem_map.1 hv
    exact h u hu)
  rw [List.length_map, List.length_take] at this
  have h2 : min j l.length ≤ 5 := by omega
  have h3 : 83 * min j l.length ≤ 83 * 5 := Nat.mul_le_mul_left 83 h2
  omega

def EncOk (l : List V) (down : Int) (w : World) (e : Ending) (w' : World) : Prop := ∃ v', e = .returned (.tuple #[v', .int .i64 (encE l)]) ∧ OwnB w' w.heap.size v' (encB down l) ∧ Below w.heap.size w w'

set_option maxRecDepth 100000 in
set_option maxHeartbeats 2000000 in
theorem encode_some (l : List V) (a o cap : Nat) (down : Int) (w : World) (hw : ∀ v ∈ l, v.Fits) (h5 : l.length ≤ 5) (ha : a < w.heap.size) (hc : Lies w a o l) (hT : Tabs w) :
    Calls Tryd.prog 10 #[.slice (some ⟨a, o, none⟩) l.length cap, .int .i64 down] w (EncOk l down w) := by
  have hE : encE l = firstFault l := by unfold encE; rw [if_neg (by omega)]
  unfold EncOk
  obtain ⟨ANS, hANS⟩ : ∃ ANS, firstFault l = ANS := ⟨_, rfl⟩
  obtain ⟨BS, hBS⟩ : ∃ BS, encB down l = BS := ⟨_, rfl⟩
  rw [hE, hANS, hBS]
  obtain ⟨n, hn⟩ : ∃ n, l.length = n := ⟨_, rfl⟩
  rw [hn] at h5 ⊢
  go_enter Tryd.func10, Tryd.ntmps10
  have HN := Lib.hid hn
  have HA : Hid (firstFault (l.drop 0) = ANS) := Lib.hid hANS
  have HS := Lib.hid hBS
  have HE := Lib.hid hE
  have HF := Lib.hid hANS
  have HC := Lib.hid hc
  have HT := Lib.hid hT
  have HW := Lib.hid hw
  clear hn hANS hc hT hw hBS hE
  go_wp2
  go_loopw [6, 16] (fun u i wr => ∃ j : Nat, j ≤ n ∧ i = .int .i64 j ∧ Hid (firstFault (l.drop j) = ANS) ∧ Hid (∀ v ∈ l.take j, v.Fits ∧ v.chk = 0) ∧ OwnB wr w.heap.size u (upTo down l j) ∧ Below w.heap.size w wr) (fun _ i _ => n - (intOf i).toNat)
  case atStart => exact ⟨0, Nat.zero_le _, rfl, HA, (show ∀ v ∈ l.take 0, _ by simp), OwnB.nil _ _, Below.refl _ _⟩
  case round =>
    obtain ⟨j, hj, rfl, hf, hg, ho, hbw⟩ := hrel
    obtain ⟨ao, cp, rfl⟩ := ho.shape
    have hul := upTo_length down l j (by omega) (fun v hv => facts_of v (hg.out v hv).1 (hg.out v hv).2)
    by_cases h1 : j < n
    · have hlt : j < l.length := by rw [HN.out]; exact h1
      obtain ⟨v, hv⟩ : ∃ v, l[j]? = some v := ⟨l[j], List.getElem?_eq_getElem hlt⟩
      have hfit := HW.out v (List.mem_of_getElem? hv)
      have hff := hf.out
      rw [List.drop_eq_getElem_cons hlt] at hff
      have ev : l[j] = v := by rw [List.getElem?_eq_getElem hlt] at hv; exact Option.some.inj hv
      rw [ev, firstFault_cons] at hff
      obtain ⟨c0, c1, c2, c3⟩ := HC.out j v hv
      have d0 := (hbw.cell (p := ⟨a, o + j * 4, none⟩) ha).trans c0
      have d1 := (hbw.cell (p := ⟨a, o + j * 4 + 1, none⟩) ha).trans c1
      have d2 := (hbw.cell (p := ⟨a, o + j * 4 + 2, none⟩) ha).trans c2
      have d3 := (hbw.cell (p := ⟨a, o + j * 4 + 3, none⟩) ha).trans c3
      have hTr := tabs_below HT.out hbw
      have cK := fun w => check_any v.k v.i v.b v.s w hfit.b0 hfit.b1 hfit.s1
      have hT1 : ∀ o, Tabs (wr.alloc o) := fun o => tabs_below hTr ((Below.refl _ _).alloc (Nat.le_refl _) o)
      have hFF := Lib.hid hff
      have eC : Go.Proofs.YtjllecmlabodaabDoor.chk v.k v.i v.b v.s = v.chk := rfl
      rw [eC] at cK
      cases hz : (v.chk == 0)
      · have hne : ¬ v.chk = 0 := by simpa using hz
        rw [if_neg hne] at hFF
        have hA2 := Lib.hid hne
        have hB : Hid (BS = []) := by
          show _ = _
          rw [← HS.out]
          unfold encB
          rw [if_neg (by rw [HE.out, HF.out, ← hFF.out]; exact hne)]
        clear hne hff ev c0 c1 c2 c3 HA hTr eC hf hv hfit hg
        go_wp2_with fail
        refine (cK _ (hT1 _)).mono ?_
        rintro e w1 ⟨rfl, hb⟩
        clear cK hT1
        go_wp2_with fail
        go_ret2
        exact ⟨.slice none 0 0, by rw [← hFF.out]; rfl, by rw [hB.out]; exact OwnB.nil _ _, (hbw.alloc hbw.size _).trans (hb.mono (by have := hbw.size; simp; omega))⟩
      · have he : v.chk = 0 := by simpa using hz
        rw [if_pos he] at hFF
        rw [he] at cK
        have hown1 : ∀ o, OwnB (wr.alloc o) w.heap.size (.slice ao (upTo down l j).length cp) (upTo down l j) := fun o => World.ownsRow.alloc ho o
        have hsz := hbw.size
        have cV := fun v1 w1 ho1 hb1 => appendValue_any v hfit he w.heap.size v1 (upTo down l j) w1 ho1 hb1 (by omega)
        have cT : ∀ w : World, Calls Tryd.prog 25 #[.int .i64 down, .int .i64 j] w (fun e w' => e = .returned (.int .u8 (byD (dn down j))) ∧ w' = w) := fun w => (turning_any down j (by omega) w).mono (fun e w' h => ⟨h.1, h.2.symm⟩)
        have hus := Lib.hid (upTo_succ down l j v hv)
        have hpos := enc_pos v.val
        have hg2 : Hid (∀ u ∈ l.take (j + 1), u.Fits ∧ u.chk = 0) := by
          show ∀ u ∈ l.take (j + 1), u.Fits ∧ u.chk = 0
          rw [List.take_succ_eq_append_getElem hlt, ev]
          intro u hu
          rcases List.mem_append.1 hu with hu | hu
          · exact hg.out u hu
          · rw [List.mem_singleton] at hu
            subst hu
            exact ⟨hfit, he⟩
        have hul2 := upTo_length down l (j + 1) (by omega) (fun v hv => facts_of v (hg2.out v hv).1 (hg2.out v hv).2)
        obtain ⟨UP, hUP⟩ : ∃ UP, upTo down l j = UP := ⟨_, rfl⟩
        obtain ⟨UQ, hUQ⟩ : ∃ UQ, upTo down l (j + 1) = UQ := ⟨_, rfl⟩
        obtain ⟨EV, hEV⟩ : ∃ EV, enc v.val = EV := ⟨_, rfl⟩
        rw [hUP] at hown1 cV hus hul
        rw [hEV] at cV hus hpos
        rw [hUQ] at hus hul2
        have hUQ' := Lib.hid hUQ
        have hcard : (UP ++ EV).length ≤ 415 := by have := congrArg List.length hus.out; simp [turnL_length] at this ⊢; omega
        rw [hUP]
        clear he hz hff ev c0 c1 c2 c3 HA hTr eC hf hv hfit hg ho hUP hUQ hEV
        go_wp2_with fail
        refine (cK _ (hT1 _)).mono ?_
        rintro e w1 ⟨rfl, hb⟩
        clear cK hT1
        have hob := (hown1 _).keep hb
        obtain ⟨hc1, hf1⟩ := bcell hb
        have hz1 : wr.heap.size < w1.heap.size := by have := hb.size; simp at this; omega
        have hbb1 : w.heap.size ≤ w1.heap.size := by omega
        go_wp2_with fail
        refine (cV _ _ hob hbb1).mono ?_
        rintro e w2 ⟨v2, rfl, ho2, hb2⟩
        obtain ⟨g, cap2, rfl, hcp, hcp2⟩ := ho2.shape1 (by simp; omega)
        clear cV hc1 hf1 hob
        have hn2 : UP.length < (UP ++ EV).length := by simp; omega
        have hlen2 : (UP ++ EV).length ≤ 1000000 := by omega
        have hme : (UP ++ EV).length - UP.length = EV.length := by simp
        have hME := Lib.hid hme
        obtain ⟨N2, hN2⟩ : ∃ N2, (UP ++ EV).length = N2 := ⟨_, rfl⟩
        obtain ⟨N1, hN1⟩ : ∃ N1, UP.length = N1 := ⟨_, rfl⟩
        rw [hN2] at hcp hn2 hlen2 hME ho2 ⊢
        rw [hN1] at hn2 hME ⊢
        have HN1 := Lib.hid hN1
        have HN2 := Lib.hid hN2
        clear hN1 hN2 hcard hul hul2
        go_wp2_with fail
        have ho3 : OwnB w2.drew w.heap.size (.slice (some ⟨g, 0, none⟩) N2 cap2) (UP ++ EV) := World.ownsRow.kept (row := none) ho2 ⟨rfl, rfl, rfl, Nat.le_refl _, fun k _ _ => rfl⟩ (by simp [Value.ownBlock])
        have hb3 : Below w.heap.size w1 w2.drew := hb2.drew
        have cU := fun cp => turn_any (dn down j) g N2 cap2 (N2 - N1) cp w.heap.size UP EV w2.drew ho3 HN2.out.symm hME.out hlen2
        rw [HN1.out] at cU
        have hle : N1 ≤ N2 := by omega
        have hnc : ¬ cap2 = N1 := by omega
        go_still_tail 6, (by kernel_rfl)
        still_call (cT _)
        repeat still_step
        try refine wpStill_nil ?_
        change wpList _ _ _ _ _ w2.drew
        generalize w2.drew = w3 at *
        clear hb2 ho2 ho3 cT
        go_wp2_with fail
        refine (cU _).mono ?_
        rintro e w4 ⟨rfl, ho4, hb4⟩
        clear cU
        go_wp2_with fail
        go_roundw
        case rel => exact ⟨j + 1, by omega, by go_num, hFF, hg2, by rw [hUQ'.out, hus.out]; exact ho4, (((hbw.alloc hbw.size _).trans (hb.mono (by simp; omega))).trans hb3).trans hb4⟩
        case measure => simp [intOf]; omega
    · have hff := hf.out
      have hjn : j = n := by omega
      rw [List.drop_of_length_le (by rw [HN.out]; omega)] at hff
      have hz : ANS = 0 := hff.symm
      have hB : Hid (upTo down l j = BS) := by
        show _ = _
        rw [← HS.out]
        unfold encB upTo
        rw [if_pos (by rw [HE.out, HF.out]; exact hz), hjn, ← HN.out, List.take_length]
      have hZ := Lib.hid hz
      clear hf hff HA hz hjn
      go_wp2_with fail
      go_ret2
      exact ⟨.slice ao (upTo down l j).length cp, by rw [hZ.out]; rfl, by rw [← hB.out]; exact ho, hbw⟩

set_option maxRecDepth 100000 in
theorem encode_nil (ao : Option Addr) (cap : Nat) (down : Int) (w : World) :
    Calls Tryd.prog 10 #[.slice ao 0 cap, .int .i64 down] w (EncOk [] down w) := by
  unfold EncOk
  go_enter Tryd.func10, Tryd.ntmps10
  go_wp2
  refine wp_loop_rounds 1 ?_
  rw [rounds_succ]
  go_wp2
  go_ret2
  exact ⟨.slice none 0 0, rfl, OwnB.nil _ _, Below.refl _ _⟩
set_option maxRecDepth 100000 in
theorem encode_many (l : List V) (ao : Option Addr) (cap : Nat) (down : Int) (w : World) (h5 : 5 < l.length) :
    Calls Tryd.prog 10 #[.slice ao l.length cap, .int .i64 down] w (EncOk l down w) := by
  have hE : encE l = 1 := by unfold encE; rw [if_pos h5]
  have hB : encB down l = [] := by unfold encB; rw [hE]; rfl
  unfold EncOk
  rw [hE, hB]
  clear hE hB
  go_enter Tryd.func10, Tryd.ntmps10
  go_wp2
  go_ret2
  exact ⟨.slice none 0 0, rfl, OwnB.nil _ _, Below.refl _ _⟩

/-- A slice of values, wherever it lies. -/
def Vals (w : World) (ao : Option Addr) (l : List V) : Prop := (∀ v ∈ l, v.Fits) ∧ (l = [] ∨ ∃ a o, ao = some ⟨a, o, none⟩ ∧ a < w.heap.size ∧ Lies w a o l)
theorem encode_any (l : List V) (ao : Option Addr) (cap : Nat) (down : Int) (w : World) (hv : Vals w ao l) (hT : Tabs w) :
    Calls Tryd.prog 10 #[.slice ao l.length cap, .int .i64 down] w (EncOk l down w) := by
  by_cases h5 : 5 < l.length
  · exact encode_many l ao cap down w h5
  · rcases hv.2 with rfl | ⟨a, o, rfl, ha, hc⟩
    · exact encode_nil ao cap down w
    · exact encode_some l a o cap down w hv.1 (by omega) ha hc hT
end Go.Proofs.YtjllecmlabodaabDoor
