/-
  THE WALKS of the laws 'chirographkeep.CodeBack' and 'CodeFixed'.
  CONDITIONS: package unicode/utf8's two tables hold what their initialisers lay ('Tabs').
-/
import Derived.Test.YtjllecmlabodaabDoorLawG
namespace Go.Proofs.YtjllecmlabodaabDoor
open Go.RowKit CodeMath
set_option linter.unusedVariables false

set_option maxRecDepth 100000 in
set_option maxHeartbeats 1000000 in
theorem codeBack_walk (l : List R) (ao : Option Addr) (cap : Nat) (down : Int) (w : World) (hT : Tabs w) (hcap : l.length ≤ cap) (hmax : cap ≤ 9223372036854775807) (hraw : Raws w ao l) (d0 : -9223372036854775808 ≤ down) (d1 : down ≤ 9223372036854775807) :
    Calls Tryd.prog 6 #[.slice ao l.length cap, .int .i64 down] w fun e w' => e = .returned (.bool true) ∧ Below w.heap.size w w' := by
  have c19 := vals_any l ao cap w hraw hcap (by omega)
  generalize l.length = n at c19 ⊢
  clear hraw hcap
  go_enter Tryd.func6, Tryd.ntmps6
  go_wp2_with fail
  refine c19.mono ?_
  rintro e w1 ⟨v, vs, rfl, ho, hg, hlen, hb1⟩
  clear c19
  have h5 : vs.length ≤ 5 := by omega
  obtain ⟨ao1, cap1, rfl, hc1, hm1, hl1⟩ := ho.lies
  have hT1 := tabs_below hT hb1
  have c10 := encode_good vs ao1 cap1 down w1 hl1 hg h5 hT1
  have hdec := decE_back vs down [] hg h5
  rw [List.append_nil, if_pos rfl] at hdec
  have hbl := encB_len vs down hg h5
  obtain ⟨BS, hBS⟩ : ∃ BS, encRow (dn down) 0 (rowsOf vs) = BS := ⟨_, rfl⟩
  rw [hBS] at c10 hdec hbl
  have c13 := fun (w' : World) ao cap (hb : Bytes w' ao BS) hT' => decode_any BS vs.length down ao cap w' (by omega) hb hT'
  rw [hdec] at c13
  have c20 := fun ao cap ao' cap' w => sameRow_any vs ao ao' cap cap' w (by omega)
  have evs : (RRes.ok (rowsOf vs)).vs = vs := rowsOf_v vs
  unfold DecOk at c13
  rw [evs] at c13
  obtain ⟨m, hm⟩ : ∃ m, vs.length = m := ⟨_, rfl⟩
  rw [hm] at c10 c13 c20 h5 hc1
  have HM := Lib.hid hm
  rw [hm]
  clear hT hm hlen hBS hdec evs hg ho
  go_wp2_with fail
  refine c10.mono ?_
  rintro e w2 ⟨v2, rfl, hob, hb2⟩
  obtain ⟨ao2, cap2, rfl, _, _, hby⟩ := hob.bytes
  have hT2 := tabs_below hT1 hb2
  have c := c13 w2 ao2 cap2 hby hT2
  clear c10 c13 hby hob hT1
  go_wp2_with fail
  refine c.mono ?_
  rintro e w3 ⟨v3, rfl, hov, hb3⟩
  obtain ⟨ao3, cap3, rfl, _, _, hl3⟩ := hov.lies
  have e0 : (RRes.ok (rowsOf vs)).e = 0 := rfl
  rw [e0, HM.out]
  have hT3 := tabs_below hT2 hb3
  have c18 := codeTells_any w3 hT3
  clear c e0 hov hT2 hT3
  go_wp2_with fail
  refine c18.mono ?_
  rintro e w4 ⟨rfl, hb4⟩
  have c := c20 ao1 cap1 ao3 cap3 w4 (((hl1.keep hb2).keep hb3).keep hb4) (hl3.keep hb4)
  clear c18 c20 hl1 hl3
  go_wp2_with fail
  refine c.mono ?_
  rintro e w5 ⟨rfl, hb5⟩
  have hs1 := hb1.size
  have hs2 := hb2.size
  have hs3 := hb3.size
  have hs4 := hb4.size
  have hbf : Below w.heap.size w w5 := (((hb1.trans (hb2.mono hs1)).trans (hb3.mono (by omega))).trans (hb4.mono (by omega))).trans (hb5.mono (by omega))
  clear c hs1 hs2 hs3 hs4
  go_wp2_with fail
  go_ret
  exact ⟨rfl, hbf⟩

theorem decRow_good (dnf : Nat → Bool) : ∀ (n i : Nat) (l : List UInt8) (vs : List CodeMath.Val), decRow okV dnf n i l = .ok vs → Good (vs.map CodeMath.Val.v)
  | 0, i, l, vs, h => by
    simp only [decRow] at h
    split at h
    · simp only [RRes.ok.injEq] at h
      subst h
      intro u hu; simp at hu
    · cases h
  | n + 1, i, l, vs, h => by
    simp only [decRow] at h
    split at h
    · cases h
    · rename_i v k hd
      split at h
      · cases h
      · rename_i us hr
        simp only [RRes.ok.injEq] at h
        subst h
        have h1 := dec1_okV_fits _ v k hd
        have h2 := decRow_good dnf n (i + 1) (l.drop k) us hr
        intro u hu
        rw [List.map_cons, List.mem_cons] at hu
        rcases hu with rfl | hu
        · exact h1
        · exact h2 u hu
theorem decRow_err_ne (dnf : Nat → Bool) : ∀ (n i : Nat) (l : List UInt8) (e : Int), decRow okV dnf n i l = .err e → e ≠ 0
  | 0, i, l, e, h => by
    simp only [decRow] at h
    split at h
    · cases h
    · simp only [RRes.err.injEq] at h; omega
  | n + 1, i, l, e, h => by
    simp only [decRow] at h
    split at h
    · rename_i e' hd
      simp only [RRes.err.injEq] at h
      rw [← h]; exact dec1_okV_err _ e' hd
    · rename_i v k hd
      split at h
      · rename_i e' hr
        simp only [RRes.err.injEq] at h
        rw [← h]; exact decRow_err_ne dnf n (i + 1) (l.drop k) e' hr
      · cases h
theorem rowsOf_val (vs : List CodeMath.Val) : rowsOf (vs.map CodeMath.Val.v) = vs := by
  unfold rowsOf
  rw [List.map_map]
  conv => rhs; rw [← List.map_id vs]
  apply List.map_congr_left
  intro v _
  exact v_val v

set_option maxRecDepth 100000 in
set_option maxHeartbeats 1000000 in
theorem codeFixed_walk (l : List UInt8) (ao : Option Addr) (cap : Nat) (n down : Int) (w : World) (hT : Tabs w) (hcap : l.length ≤ cap) (hmax : cap ≤ 9223372036854775807) (hby : Bytes w ao l) (n0 : -9223372036854775808 ≤ n) (n1 : n ≤ 9223372036854775807) (d0 : -9223372036854775808 ≤ down) (d1 : down ≤ 9223372036854775807) :
    Calls Tryd.prog 7 #[.slice ao l.length cap, .int .i64 n, .int .i64 down] w fun e w' => e = .returned (.bool true) ∧ Below w.heap.size w w' := by
  have c21 := fun w => picked_any n 6 w (by decide) (by decide) n0 n1
  obtain ⟨k, hk⟩ : ∃ k : Nat, n % 6 = k := ⟨(n % 6).toNat, by omega⟩
  have hk5 : k ≤ 5 := by omega
  rw [hk] at c21
  have c13 := decode_any l k down ao cap w (by omega) hby hT
  have hde : decE l k down = decRow okV (dn down) k 0 l := by unfold decE; rw [if_neg (by omega), Int.toNat_natCast]
  rw [hde] at c13
  unfold DecOk at c13
  clear hk hde
  cases hA : decRow okV (dn down) k 0 l with
  | err E =>
    rw [hA] at c13
    have hne : (E != 0) = true := by have := decRow_err_ne _ _ _ _ _ hA; simpa using this
    clear hby hcap hA
    generalize l.length = ll at c13 ⊢
    go_enter Tryd.func7, Tryd.ntmps7
    go_wp2_with fail
    refine (c21 _).mono ?_
    rintro e w1 ⟨rfl, rfl⟩
    clear c21
    go_wp2_with fail
    refine c13.mono ?_
    rintro e w2 ⟨v2, rfl, ho, hb⟩
    obtain ⟨ao2, cap2, rfl, _, _, _⟩ := ho.lies
    have e1 : (RRes.err E).e = E := rfl
    have e2 : (RRes.err E).vs.length = 0 := rfl
    rw [e1, e2]
    have c18 := codeTells_any w2 (tabs_below hT hb)
    clear c13 e1 e2 ho
    go_wp2_with fail
    refine c18.mono ?_
    rintro e w3 ⟨rfl, hb2⟩
    have hbf : Below w.heap.size w w3 := hb.trans (hb2.mono hb.size)
    clear c18
    go_wp2_with fail
    go_ret
    exact ⟨rfl, hbf⟩
  | ok us =>
    rw [hA] at c13
    have hg := decRow_good _ _ _ _ _ hA
    obtain ⟨hul, _, henc⟩ := encRow_dec okV (dn down) k 0 l us hA
    have e2 : (RRes.ok us).vs = us.map CodeMath.Val.v := rfl
    have e1 : (RRes.ok us).e = 0 := rfl
    rw [e1, e2] at c13
    obtain ⟨vs, hvs⟩ : ∃ vs, us.map CodeMath.Val.v = vs := ⟨_, rfl⟩
    have hrow : rowsOf vs = us := by rw [← hvs]; exact rowsOf_val us
    have hvl : vs.length = k := by rw [← hvs, List.length_map, hul]
    rw [hvs] at c13 hg
    have c10 := fun ao cap w hl hT => encode_good vs ao cap down w hl hg (by omega) hT
    rw [hrow, henc, hvl] at c10
    have HV := Lib.hid hvl
    clear hA hul henc e1 e2 hvs hrow hvl hg
    have hby0 := hby
    go_enter Tryd.func7, Tryd.ntmps7
    go_wp2_with fail
    refine (c21 _).mono ?_
    rintro e w1 ⟨rfl, rfl⟩
    clear c21
    go_wp2_with fail
    refine c13.mono ?_
    rintro e w2 ⟨v2, rfl, ho, hb⟩
    obtain ⟨ao2, cap2, rfl, _, _, hl2⟩ := ho.lies
    rw [HV.out]
    have hT2 := tabs_below hT hb
    have c := c10 ao2 cap2 w2 hl2 hT2
    clear c13 c10 ho hl2
    go_wp2_with fail
    refine c.mono ?_
    rintro e w3 ⟨v3, rfl, hob, hb3⟩
    have hT3 := tabs_below hT2 hb3
    have c18 := codeTells_any w3 hT3
    clear c hT2 hT3
    go_wp2_with fail
    refine c18.mono ?_
    rintro e w4 ⟨rfl, hb4⟩
    obtain ⟨ao3, cap3, rfl, _, _, hby3⟩ := hob.bytes
    have s1 := bytes_string (cap := cap) (((hby0.keep hb).keep hb3).keep hb4)
    have s2 := bytes_string (cap := cap3) (hby3.keep hb4)
    have hs1 := hb.size
    have hs2 := hb3.size
    have hbf : Below w.heap.size w w4 := (hb.trans (hb3.mono hs1)).trans (hb4.mono (by omega))
    generalize l.length = ll at s1 s2 ⊢
    clear c18 hby hby0 hby3 hob hs1 hs2
    go_wp2_with fail
    go_ret
    exact ⟨rfl, hbf⟩
end Go.Proofs.YtjllecmlabodaabDoor
