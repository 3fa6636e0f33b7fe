/-
  THE WALK of the law 'chirographkeep.CodeApart'.
  CONDITIONS: package unicode/utf8's two tables hold what their initialisers lay ('Tabs').
-/
import Derived.Test.YtjllecmlabodaabDoorLawH
import Derived.Laws.AppendOwnNone
namespace Go.Proofs.YtjllecmlabodaabDoor
open Go.RowKit CodeMath
set_option linter.unusedVariables false

/-- append(s, x...), bytes from wherever they lie. -/
theorem wpList_append_bytes {ops : Array Oper} {rest : List Oper} {o : Oper} {a : Act} {Q : Exit → Act → World → Prop} {w : World} (hgd : o.guard = none) (s x : Operand)
    (ho : o.op = .call { callee := .builtin .append, args := #[s, x], argTypes := #[23, 23] }) (base : Nat) (v : Value) (l : List UInt8) (hs : a.eval s = v) (hown : OwnB w base v l)
    (m : List UInt8) (v2 : Value) (hx : a.eval x = v2) (b2 : Nat) (h2 : OwnB w b2 v2 m) (hl : l.length + m.length ≤ 1000000) (hb : base ≤ w.heap.size)
    (h : ∀ v' w', OwnB w' base v' (l ++ m) → Below base w w' → wpList Tryd.prog ops Q rest (a.put o.dst v') w') : wpList Tryd.prog ops Q (o :: rest) a w := by
  obtain ⟨i0, hi, hz0, hz1, hz2⟩ := info_parts infoB
  rcases h2.2 with ⟨rfl, h0⟩ | ⟨g, cap, cur, rfl, _⟩
  · obtain rfl : m = [] := List.eq_nil_of_length_eq_zero h0
    refine wpList_append_own_none hgd s x 23 ho base 5 i0 1 Tryd.underlying23 hi v l.length (cellsB l) hs hown hx (h v w ?_ (Below.refl _ _))
    rw [List.append_nil]; exact hown
  · refine wpList_append_own _ hgd s x 23 ho base 5 i0 (.int .u8 0) 1 1 Tryd.underlying23 hi hz0 hz1 hz2 rfl (by decide) v l.length (cellsB l) hs hown ⟨g, 0, none⟩ m.length cap (cellsB m) hx (by rw [cellsB_length, Nat.mul_one]) (h2.cells rfl) ?_ (by unfold maxLen; omega) (by omega) hb ?_
    · intro u hu
      obtain ⟨x, _, rfl⟩ := List.mem_map.1 hu
      rfl
    · intro v' w' h1 hg _
      refine h v' w' ?_ ((Below.refl base w).grown hg hb (fun k hk => (hown.lt k hk).1))
      unfold OwnB
      rw [cellsB_append, List.length_append]
      exact h1
theorem ownB_fresh (w : World) (base : Nat) (hb : base ≤ w.heap.size) : OwnB (w.alloc (.cells #[] 5)) base (.slice (some ⟨w.heap.size, 0, none⟩) 0 0) [] :=
  World.ownsRow_lit w #[] 0 hb (by unfold maxLen; omega) rfl
theorem bytes_take {w : World} {ao : Option Addr} {l : List UInt8} (h : Bytes w ao l) (k : Nat) : Bytes w ao (l.take k) := by
  rcases h with rfl | ⟨a, o, h1, h2, h3⟩
  · left; simp
  · refine .inr ⟨a, o, h1, h2, fun j x hx => h3 j x ?_⟩
    have hj := (List.getElem?_eq_some_iff.1 hx).1
    rw [List.length_take] at hj
    rwa [List.getElem?_take_of_lt (by omega)] at hx
theorem encRow_nil (down : Int) (vs : List V) (h : (encRow (dn down) 0 (rowsOf vs)).length = 0) : vs = [] := by
  match vs with
  | [] => rfl
  | v :: vs =>
    simp only [rowsOf, List.map_cons, encRow, List.length_append, turnL_length] at h
    have := enc_pos v.val
    omega
theorem decE_cut (vs : List V) (down : Int) (j : Nat) (h : Good vs) (h5 : vs.length ≤ 5) (hj : j < (encRow (dn down) 0 (rowsOf vs)).length) : decE ((encRow (dn down) 0 (rowsOf vs)).take j) vs.length down = .err 4 := by
  unfold decE
  rw [if_neg (by omega)]
  have := decRow_cut okV (dn down) (rowsOf vs) 0 j (rows_good vs h) hj
  have e : (rowsOf vs).length = vs.length := by simp [rowsOf]
  rw [e] at this
  exact this

set_option maxRecDepth 100000 in
set_option maxHeartbeats 4000000 in
theorem codeApart_walk (l : List R) (ao : Option Addr) (cap : Nat) (down cut : Int) (w : World) (hT : Tabs w) (hcap : l.length ≤ cap) (hmax : cap ≤ 9223372036854775807) (hraw : Raws w ao l) (d0 : -9223372036854775808 ≤ down) (d1 : down ≤ 9223372036854775807) (c0 : -9223372036854775808 ≤ cut) (c1 : cut ≤ 9223372036854775807) :
    Calls Tryd.prog 8 #[.slice ao l.length cap, .int .i64 down, .int .i64 cut] w fun e w' => e = .returned (.bool true) ∧ Below w.heap.size w w' := by
  have c19 := vals_any l ao cap w hraw hcap (by omega)
  generalize l.length = n at c19 ⊢
  clear hraw hcap
  go_enter Tryd.func8, Tryd.ntmps8
  go_wp2_with fail
  refine c19.mono ?_
  rintro e w1 ⟨v, vs, rfl, ho, hg, hlen, hb1⟩
  clear c19
  have h5 : vs.length ≤ 5 := by omega
  obtain ⟨ao1, cap1, rfl, hc1, hm1, hl1⟩ := ho.lies
  have hT1 := tabs_below hT hb1
  have c10 := encode_good vs ao1 cap1 down w1 hl1 hg h5 hT1
  have hdec := decE_back vs down [7] hg h5
  rw [if_neg (by simp)] at hdec
  have hbl := encB_len vs down hg h5
  have hnil := encRow_nil down vs
  have hcut := fun j => decE_cut vs down j hg h5
  obtain ⟨BS, hBS⟩ : ∃ BS, encRow (dn down) 0 (rowsOf vs) = BS := ⟨_, rfl⟩
  rw [hBS] at c10 hdec hbl hnil hcut
  obtain ⟨nb, hnb⟩ : ∃ nb, BS.length = nb := ⟨_, rfl⟩
  rw [hnb] at hbl hnil hcut
  have c21 := fun w => picked_any cut (max (nb : Int) 1) w (by omega) (by omega) c0 c1
  obtain ⟨k, hk⟩ : ∃ k : Nat, cut % (max (nb : Int) 1) = k := ⟨(cut % (max (nb : Int) 1)).toNat, by
    have := Int.emod_nonneg cut (show (max (nb : Int) 1) ≠ 0 by omega); omega⟩
  have hkm : (k : Int) < max (nb : Int) 1 := by rw [← hk]; exact Int.emod_lt_of_pos cut (by omega)
  rw [hk] at c21
  have hkn : (nb = 0 ∧ k = 0) ∨ k < nb := by omega
  have hmin : min (k : Int) (nb : Int) = k := by omega
  have hmin' : k ≤ nb := by omega
  have hFE : ∃ E : RRes, decE (BS.take k) vs.length down = E ∧ ((nb == 0) = true ∨ ((nb == 0) = false ∧ E = .err 4)) := by
    refine ⟨_, rfl, ?_⟩
    rcases hkn with ⟨h, _⟩ | h
    · left; simpa using h
    · right; exact ⟨by simp; omega, hcut k h⟩
  obtain ⟨E, hE, hcase⟩ := hFE
  have htk : (BS.take k).length = k := by rw [List.length_take]; omega
  have cF := fun (w' : World) ao cap (hb : Bytes w' ao (BS.take k)) hT' => decode_any (BS.take k) vs.length down ao cap w' (by omega) hb hT'
  rw [hE, htk] at cF
  have cG := fun (w' : World) ao cap (hb : Bytes w' ao (BS ++ [7])) hT' => decode_any (BS ++ [7]) vs.length down ao cap w' (by simp; omega) hb hT'
  rw [hdec] at cG
  have hB7 : (BS ++ [7]).length = nb + 1 := by simp [hnb]
  rw [hB7] at cG
  obtain ⟨m, hm⟩ : ∃ m, vs.length = m := ⟨_, rfl⟩
  rw [hm] at c10 cF cG h5 hc1
  rw [hm]
  have HNB := Lib.hid hnb
  have HC := Lib.hid hcase
  have hlB : ([] : List UInt8).length + BS.length ≤ 1000000 := by simp; omega
  have hlB2 : ([] ++ BS).length ≤ 1000000 := by simp; omega
  clear hT hm hlen hBS hdec hg ho hnil hcut hk hkm hkn hE htk hB7 hcase hnb d0 d1 c0 c1
  go_wp2_with fail
  refine c10.mono ?_
  rintro e w2 ⟨v2, rfl, hob, hb2⟩
  obtain ⟨ao2, cap2, rfl, hcb, hcb2, hby⟩ := hob.bytes
  rw [HNB.out] at hcb hob ⊢
  have hT2 := tabs_below hT1 hb2
  clear c10 hT1
  go_wp2_with fail
  refine (c21 _).mono ?_
  rintro e w3 ⟨rfl, rfl⟩
  clear c21
  have hck : k ≤ cap2 := by omega
  have cF1 := cF w2 ao2 cap2 (bytes_take hby k) hT2
  unfold DecOk at cF1
  clear cF
  go_wp2_with fail
  refine cF1.mono ?_
  rintro e w4 ⟨v4, rfl, _, hb4⟩
  have hob4 := hob.keep hb4
  have hT4 := tabs_below hT2 hb4
  clear cF1 hT2 hby hob
  have hf4 := ownB_fresh w4 w4.heap.size (Nat.le_refl _)
  have hob5 : ∀ o, OwnB (w4.alloc o) w1.heap.size (.slice ao2 nb cap2) BS := fun o => by
    have := World.ownsRow.alloc hob4 o
    exact this
  go_wp2_with (first | (at_builtin; refine wpList_append_bytes rfl (.tmp 42) (.tmp 43) rfl w4.heap.size _ [] rfl hf4 BS _ rfl w1.heap.size (hob5 _) hlB (by simp) ?_; intro v5 w5 ho5 hb5) | (at_builtin; refine wpList_append_byte rfl (.tmp 44) (.tmp 45) rfl w4.heap.size _ _ rfl ho5 _ 7 _ rfl (by first | rfl | simp) rfl hlB2 (Nat.le_trans (by simp) hb5.size) ?_; intro v6 w6 ho6 hb6 hg6) | fail)
  have hb46 : Below w4.heap.size w4 w6 := (((Below.refl _ _).alloc (Nat.le_refl _) _).trans hb5).trans hb6
  have hT6 := tabs_below hT4 hb46
  obtain ⟨ao6, cap6, e6, _, _, hby6⟩ := ho6.bytes
  rw [List.nil_append] at e6 hby6
  subst e6
  have hcG := cG w6 ao6 cap6 hby6 hT6
  unfold DecOk at hcG
  have e7 : (BS ++ [(7 : UInt8)]).length = nb + 1 := by rw [List.length_append, HNB.out]; rfl
  rw [e7]
  clear cG hT4 hby6 ho6 hf4 hob4 hob5 ho5 hg6 e7
  go_wp2_with fail
  refine hcG.mono ?_
  rintro e w7 ⟨v7, rfl, _, hb7⟩
  have e8 : (RRes.err 3).e = 3 := rfl
  rw [e8]
  have c18 := codeTells_any w7 (tabs_below hT6 hb7)
  clear hcG hT6 e8
  go_wp2_with fail
  refine c18.mono ?_
  rintro e w8 ⟨rfl, hb8⟩
  have hs1 := hb1.size
  have hs2 := hb2.size
  have hs4 := hb4.size
  have hs46 := hb46.size
  have hs7 := hb7.size
  have hbf : Below w.heap.size w w8 := ((((hb1.trans (hb2.mono hs1)).trans (hb4.mono (by omega))).trans (hb46.mono (by omega))).trans (hb7.mono (by omega))).trans (hb8.mono (by omega))
  clear c18 hs1 hs2 hs4 hs46 hs7
  have hcase := HC.out
  rcases hcase with h0 | ⟨h0, h4⟩
  · have h00 : ((nb : Int) == 0) = true := by simpa using h0
    clear h0
    go_wp2_with fail
    go_ret
    exact ⟨rfl, hbf⟩
  · have h00 : ((nb : Int) == 0) = false := by simpa using h0
    have e4 : E.e = 4 := by rw [h4]; rfl
    rw [e4]
    clear h0 h4 e4
    go_wp2_with fail
    go_ret
    exact ⟨rfl, hbf⟩
end Go.Proofs.YtjllecmlabodaabDoor
