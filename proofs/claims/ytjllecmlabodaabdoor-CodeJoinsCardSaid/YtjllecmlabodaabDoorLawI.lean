/-
  THE WALK of the law 'chirographkeep.CodeJoins'.
  CONDITIONS: package unicode/utf8's two tables hold what their initialisers lay ('Tabs').
-/
import Derived.Test.YtjllecmlabodaabDoorLawH
namespace Go.Proofs.YtjllecmlabodaabDoor
open Go.RowKit CodeMath
set_option linter.unusedVariables false

theorem dn_zero : dn 0 = fun _ => false := by
  funext i
  unfold dn
  rw [Int.zero_ediv]
  rfl
theorem enc_joins (vs : List V) (k : Nat) : encRow (dn 0) 0 (rowsOf (vs.take k)) ++ encRow (dn 0) 0 (rowsOf (vs.drop k)) = encRow (dn 0) 0 (rowsOf vs) := by
  have h := encRow_append (dn 0) (rowsOf (vs.take k)) (rowsOf (vs.drop k)) 0
  have e : rowsOf (vs.take k) ++ rowsOf (vs.drop k) = rowsOf vs := by
    unfold rowsOf
    rw [← List.map_append, List.take_append_drop]
  rw [e] at h
  rw [h, dn_zero, encRow_false (rowsOf (vs.drop k)) (0 + (rowsOf (vs.take k)).length) 0]
theorem good_take {l : List V} (h : Good l) (k : Nat) : Good (l.take k) := fun u hu => h u (List.mem_of_mem_take hu)
theorem good_drop {l : List V} (h : Good l) (k : Nat) : Good (l.drop k) := fun u hu => h u (List.mem_of_mem_drop hu)
theorem lies_take {w : World} {ao : Option Addr} {l : List V} (h : LiesAt w ao l) (k : Nat) : LiesAt w ao (l.take k) := by
  rcases h with rfl | ⟨a, o, h1, h2, h3⟩
  · left; simp
  · refine .inr ⟨a, o, h1, h2, fun j v hv => h3 j v ?_⟩
    have hj := (List.getElem?_eq_some_iff.1 hv).1
    rw [List.length_take] at hj
    rwa [List.getElem?_take_of_lt (by omega)] at hv
theorem lies_drop {w : World} {g : Nat} {l : List V} (hg : g < w.heap.size) (h : Lies w g 0 l) (k : Nat) : LiesAt w (some ⟨g, k * 4, none⟩) (l.drop k) := by
  refine .inr ⟨g, k * 4, rfl, hg, fun j v hv => ?_⟩
  rw [List.getElem?_drop] at hv
  have := h (k + j) v hv
  rw [show 0 + (k + j) * 4 = k * 4 + j * 4 by omega] at this
  exact this

set_option maxRecDepth 100000 in
set_option maxHeartbeats 8000000 in
theorem codeJoins_walk (l : List R) (ao : Option Addr) (cap : Nat) (cut : Int) (w : World) (hT : Tabs w) (hcap : l.length ≤ cap) (hmax : cap ≤ 9223372036854775807) (hraw : Raws w ao l) (d0 : -9223372036854775808 ≤ cut) (d1 : cut ≤ 9223372036854775807) :
    Calls Tryd.prog 9 #[.slice ao l.length cap, .int .i64 cut] w fun e w' => e = .returned (.bool true) ∧ Below w.heap.size w w' := by
  have c19 := vals_any l ao cap w hraw hcap (by omega)
  generalize l.length = n at c19 ⊢
  clear hraw hcap
  go_enter Tryd.func9, Tryd.ntmps9
  go_wp2_with fail
  refine c19.mono ?_
  rintro e w1 ⟨v, vs, rfl, ho, hg, hlen, hb1⟩
  clear c19
  have h5 : vs.length ≤ 5 := by omega
  have hT1 := tabs_below hT hb1
  have c21 := fun w => picked_any cut ((vs.length : Int) + 1) w (by omega) (by omega) d0 d1
  obtain ⟨k, hk⟩ : ∃ k : Nat, cut % ((vs.length : Int) + 1) = k := ⟨(cut % ((vs.length : Int) + 1)).toNat, by
    have := Int.emod_nonneg cut (show ((vs.length : Int) + 1) ≠ 0 by omega); omega⟩
  have hkm : k ≤ vs.length := by have := Int.emod_lt_of_pos cut (show (0 : Int) < (vs.length : Int) + 1 by omega); omega
  rw [hk] at c21
  have hgt := good_take hg k
  have hgd := good_drop hg k
  have hcat : (⟨(encRow (dn 0) 0 (rowsOf (vs.take k))).toArray⟩ : ByteArray) ++ ⟨(encRow (dn 0) 0 (rowsOf (vs.drop k))).toArray⟩ = ⟨(encRow (dn 0) 0 (rowsOf vs)).toArray⟩ := by
    rw [← enc_joins vs k]
    apply bytes_eq
    simp
  have hlt : (vs.take k).length = k := by rw [List.length_take]; omega
  have hld : (vs.drop k).length = vs.length - k := by rw [List.length_drop]
  have hb1l := encB_len (vs.take k) 0 hgt (by omega)
  have hb2l := encB_len (vs.drop k) 0 hgd (by omega)
  have cA := fun ao cap w hl hT => encode_good (vs.take k) ao cap 0 w hl hgt (by omega) hT
  have cB := fun ao cap w hl hT => encode_good (vs.drop k) ao cap 0 w hl hgd (by omega) hT
  have cC := fun ao cap w hl hT => encode_good vs ao cap 0 w hl hg (by omega) hT
  rw [hlt] at cA
  rw [hld] at cB
  have hS1 : (⟨(encRow (dn 0) 0 (rowsOf (vs.take k))).toArray⟩ : ByteArray).size ≤ 415 := by simpa [ByteArray.size] using hb1l
  have hS2 : (⟨(encRow (dn 0) 0 (rowsOf (vs.drop k))).toArray⟩ : ByteArray).size ≤ 415 := by simpa [ByteArray.size] using hb2l
  obtain ⟨X, hX⟩ : ∃ X, encRow (dn 0) 0 (rowsOf (vs.take k)) = X := ⟨_, rfl⟩
  obtain ⟨Y, hY⟩ : ∃ Y, encRow (dn 0) 0 (rowsOf (vs.drop k)) = Y := ⟨_, rfl⟩
  obtain ⟨Z, hZ⟩ : ∃ Z, encRow (dn 0) 0 (rowsOf vs) = Z := ⟨_, rfl⟩
  rw [hX] at cA hcat hS1
  rw [hY] at cB hcat hS2
  rw [hZ] at cC hcat
  have hq : ∃ (ao1 : Option Addr) (m cap1 : Nat) (ad : Option Addr) (cd : Nat), v = .slice ao1 m cap1 ∧ vs.length = m ∧ m ≤ cap1 ∧ cap1 ≤ 9223372036854775807 ∧ LiesAt w1 ao1 vs ∧ LiesAt w1 ad (vs.drop k) ∧
      ((ao1 = none ∧ ad = none ∧ m = 0 ∧ cap1 = 0 ∧ k = 0) ∨ (∃ g, ao1 = some ⟨g, 0, none⟩ ∧ ((cap1 = k ∧ m = k ∧ ad = some ⟨g, 0, none⟩) ∨ (cap1 ≠ k ∧ ad = some ⟨g, k * 4, none⟩)))) := by
    obtain ⟨ao', cap', e, h1, h2, h3⟩ := ho.lies
    rcases ho.2 with ⟨rfl, h0⟩ | ⟨g, cap1, cur, rfl, hbg, hgc, _⟩
    · exact ⟨none, 0, 0, none, 0, rfl, h0, by omega, by omega, .inl (List.eq_nil_of_length_eq_zero h0), .inl (by rw [List.eq_nil_of_length_eq_zero h0]; simp), .inl ⟨rfl, rfl, rfl, rfl, by omega⟩⟩
    · simp only [Value.slice.injEq] at e
      obtain ⟨rfl, _, rfl⟩ := e
      have hgs : g < w1.heap.size := (Array.getElem?_eq_some_iff.1 hgc).1
      by_cases hck : cap1 = k
      · have hd0 : vs.drop k = [] := List.drop_eq_nil_iff.2 (by omega)
        exact ⟨_, _, _, some ⟨g, 0, none⟩, 0, rfl, rfl, h1, h2, h3, .inl hd0, .inr ⟨g, rfl, .inl ⟨hck, by omega, rfl⟩⟩⟩
      · refine ⟨_, _, _, some ⟨g, k * 4, none⟩, 0, rfl, rfl, h1, h2, h3, ?_, .inr ⟨g, rfl, .inr ⟨hck, rfl⟩⟩⟩
        rcases h3 with h3 | ⟨a, o, e, h4, h5⟩
        · left; rw [h3]; simp
        · simp only [Option.some.injEq, Addr.mk.injEq, and_true] at e
          obtain ⟨rfl, rfl⟩ := e
          exact lies_drop hgs h5 k
  obtain ⟨ao1, m, cap1, ad, cd, rfl, hm, hmc, hcm, hl1, hld1, hcase⟩ := hq
  rw [hm] at c21 hkm h5 cB cC
  have HM := Lib.hid hm
  clear hX hY hZ hgt hgd hg hlt hld hb1l hb2l hk hlen hm ho
  rcases hcase with ⟨rfl, rfl, rfl, rfl, rfl⟩ | ⟨g, rfl, ⟨rfl, rfl, rfl⟩ | ⟨hck, rfl⟩⟩
  all_goals
    try rw [Nat.sub_self] at cB
    go_wp2_with fail
    refine (c21 _).mono ?_
    rintro e w2 ⟨rfl, rfl⟩
    clear c21
    go_wp2_with fail
    refine (cA _ _ _ (lies_take hl1 _) hT1).mono ?_
    rintro e w3 ⟨v3, rfl, ho3, hb3⟩
    have hT3 := tabs_below hT1 hb3
    have hl3 := hl1.keep hb3
    have hd3 := hld1.keep hb3
    clear cA hl1 hld1 hT1
    go_wp2_with fail
    refine (cB _ _ _ hd3 hT3).mono ?_
    rintro e w4 ⟨v4, rfl, ho4, hb4⟩
    have hT4 := tabs_below hT3 hb4
    have hl4 := hl3.keep hb4
    have ho34 := ho3.keep hb4
    clear cB hl3 hd3 hT3 ho3
    go_wp2_with fail
    refine (cC _ _ _ hl4 hT4).mono ?_
    rintro e w5 ⟨v5, rfl, ho5, hb5⟩
    have hT5 := tabs_below hT4 hb5
    have ho35 := ho34.keep hb5
    have ho45 := ho4.keep hb5
    have c18 := codeTells_any w5 hT5
    clear cC hl4 hT4 ho34 ho4 hT5
    go_wp2_with fail
    refine c18.mono ?_
    rintro e w6 ⟨rfl, hb6⟩
    have s3 := ownB_string (ho35.keep hb6)
    have s4 := ownB_string (ho45.keep hb6)
    have s5 := ownB_string (ho5.keep hb6)
    have hs1 := hb1.size
    have hs3 := hb3.size
    have hs4 := hb4.size
    have hs5 := hb5.size
    have hbf : Below w.heap.size w w6 := (((hb1.trans (hb3.mono (by omega))).trans (hb4.mono (by omega))).trans (hb5.mono (by omega))).trans (hb6.mono (by omega))
    clear c18 ho35 ho45 ho5 hs1 hs3 hs4 hs5
    generalize (⟨X.toArray⟩ : ByteArray) = SX at s3 hcat hS1
    generalize (⟨Y.toArray⟩ : ByteArray) = SY at s4 hcat hS2
    generalize (⟨Z.toArray⟩ : ByteArray) = SZ at s5 hcat
    go_wp2_with fail
    go_ret
    exact ⟨rfl, hbf⟩
end Go.Proofs.YtjllecmlabodaabDoor
