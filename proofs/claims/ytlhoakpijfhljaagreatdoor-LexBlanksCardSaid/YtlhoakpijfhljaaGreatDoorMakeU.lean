/-
  CONTRACT of chirographkeep's tokenOf and tokensOf: tokens that may be, out of raw things (numbers, quotes, reals; all kinds; a list).
  CONDITIONS: each theorem's own hypotheses.
-/
import Derived.Test.YtlhoakpijfhljaaGreatDoorMakeT
import Derived.Test.YtlhoakpijfhljaaGreatDoorCutH
namespace Go.Proofs.YtlhoakpijfhljaaGreatDoor
open Go.RowKit
set_option linter.unusedVariables false
set_option maxRecDepth 100000

theorem bcellM {W w1 : World} (hb : Below W.heap.size W w1) : (∀ b o, b < W.heap.size → w1.cell? ⟨b, o, none⟩ = W.cell? ⟨b, o, none⟩) ∧ (∀ b o, b < W.heap.size → w1.frozen? ⟨b, o, none⟩ = W.frozen? ⟨b, o, none⟩) :=
  ⟨fun b o h => hb.cell (p := ⟨b, o, none⟩) h, fun b o h => hb.frozen (p := ⟨b, o, none⟩) h⟩
theorem three_drew {w w1 : World} {o1 o2 o3 : Obj} (hb : Below (((w.alloc o1).alloc o2).alloc o3).heap.size (((w.alloc o1).alloc o2).alloc o3) w1) : Below w.heap.size w w1 :=
  ((((Below.refl _ _).alloc (Nat.le_refl _) _).alloc (by simp) _).alloc (by simp; omega) _).trans (hb.mono (by simp; omega))
theorem good_numT (n : Int) (h0 : 0 ≤ n) (h1 : n ≤ 9223372036854775807) : GoodT ⟨3, [], n, 0⟩ := by
  refine ⟨⟨by simp, by simp, by show _ ≤ n; omega, h1, by simp⟩, ?_, ?_⟩
  · show tokC 3 [] n 0 = 0
    unfold tokC
    rw [if_neg (by decide), if_neg (by decide)]
    have : (ownT 3 [] n 0 && goodT 3 [] n 0) = true := by simp [ownT, goodT, h0]
    rw [if_pos this]
  · unfold shT shownT
    simp only
    rw [if_pos trivial]
    have := Lib.itoa_length_le n (by omega) h1
    omega
theorem good_quoT (s : List UInt8) (h0 : s.length ≤ 20) (h1 : Lib.validD s = true) : GoodT ⟨4, s, 0, 0⟩ := by
  refine ⟨⟨by simp, by simp, by simp, by simp, by show s.length ≤ _; omega⟩, ?_, ?_⟩
  · show tokC 4 s 0 0 = 0
    rw [tokC_quote, if_neg (by omega), if_neg (by rw [h1]; decide)]
  · unfold shT shownT
    simp only
    rw [if_neg (by decide), if_pos trivial]
    have := bodyQ_len s
    simp; omega
theorem good_hexT (b : Int) (h0 : 0 ≤ b) (h1 : b ≤ 18446744073709551615) (h2 : nan b = false) (h3 : (b == 9223372036854775808) = false) : GoodT ⟨5, [], 0, b⟩ := by
  refine ⟨⟨h0, h1, by simp, by simp, by simp⟩, ?_, ?_⟩
  · show tokC 5 [] 0 b = 0
    unfold tokC
    rw [if_neg (by decide), if_neg (by decide)]
    have : (ownT 5 [] 0 b && goodT 5 [] 0 b) = true := by simp [ownT, goodT, h2]; simpa using h3
    rw [if_pos this]
  · unfold shT shownT
    simp only
    rw [if_neg (by decide), if_neg (by decide), if_pos trivial]
    simp only [hex16, List.length_cons, hexAll_len, List.length_nil]
    omega
set_option maxHeartbeats 4000000 in
theorem tokenOf_3 (k a b : Int) (s : ByteArray) (w : World) (k0 : -9223372036854775808 ≤ k) (k1 : k ≤ 9223372036854775807) (hk : k % 6 = 2) :
    Calls Tryz.prog 12 #[.agg #[.int .i64 k, .int .i64 a, .int .i64 b, .string s]] w (TokOk w) := by
  unfold TokOk
  have c1 := fun w => picked_any k 6 w (by decide) (by decide) k0 k1
  rw [hk] at c1
  clear hk
  have hn := good_numT (a % 9223372036854775808) (by omega) (by omega)
  rw [← and_i63] at hn
  have HN := Lib.hid hn
  clear hn
  go_enter Tryz.func12, Tryz.ntmps12
  go_wp2_with fail
  refine (c1 _).mono ?_
  rintro e w1 ⟨rfl, rfl⟩
  clear c1
  go_wp2_with fail
  go_wp2
  refine bodyPost_ret (v := .agg #[.int .i64 3, .string (str []), .int .i64 (bits .and .i64 a 9223372036854775807), .int .u64 0]) (by simp [results, Tryz.results12, go_sem]; first | rfl | exact ⟨rfl, rfl⟩) rfl ?_
  exact ⟨⟨3, [], bits .and .i64 a 9223372036854775807, 0⟩, rfl, HN, by
    repeat first
      | exact Below.refl _ _
      | refine Below.setCell ?_ (by simp <;> omega) _
      | refine Below.alloc ?_ (by simp <;> omega) _
      | refine Below.drew ?_⟩
set_option maxHeartbeats 4000000 in
theorem tokenOf_4 (k a b : Int) (s : ByteArray) (w : World) (k0 : -9223372036854775808 ≤ k) (k1 : k ≤ 9223372036854775807) (hk : k % 6 = 3) :
    Calls Tryz.prog 12 #[.agg #[.int .i64 k, .int .i64 a, .int .i64 b, .string s]] w (TokOk w) := by
  unfold TokOk
  have c1 := fun w => picked_any k 6 w (by decide) (by decide) k0 k1
  rw [hk] at c1
  clear hk
  have c2 := fun w => cleanTo_any s 20 20 rfl (by decide) w
  go_enter Tryz.func12, Tryz.ntmps12
  go_wp2_with fail
  refine (c1 _).mono ?_
  rintro e w1 ⟨rfl, rfl⟩
  clear c1
  go_wp2_with fail
  refine (c2 _).mono ?_
  rintro e w3 ⟨u, rs, rfl, hu, hus, hb⟩
  have HB := Lib.hid (three_drew hb)
  obtain ⟨hc, hf⟩ := bcellM hb
  have hz := hb.size
  simp at hz
  clear c2 hb
  go_wp2_with fail
  go_wp2
  refine bodyPost_ret (v := .agg #[.int .i64 4, .string u, .int .i64 0, .int .u64 0]) (by simp [results, Tryz.results12, go_sem, hc]) rfl ?_
  exact ⟨⟨4, rs.flatMap encL, 0, 0⟩, by rw [← hu.out, ← str_eq u], Lib.hid (good_quoT _ (by rw [← hu.out, ← Lib.size_eq]; exact hus) (flat_valid rs)), by
    repeat first
      | exact HB.out
      | refine Below.setCell ?_ (by simp <;> omega) _
      | refine Below.alloc ?_ (by simp <;> omega) _
      | refine Below.drew ?_⟩
set_option maxHeartbeats 4000000 in
theorem tokenOf_5 (k a b : Int) (s : ByteArray) (w : World) (k0 : -9223372036854775808 ≤ k) (k1 : k ≤ 9223372036854775807) (hk : k % 6 = 4) :
    Calls Tryz.prog 12 #[.agg #[.int .i64 k, .int .i64 a, .int .i64 b, .string s]] w (TokOk w) := by
  unfold TokOk
  have c1 := fun w => picked_any k 6 w (by decide) (by decide) k0 k1
  rw [hk] at c1
  clear hk
  have c2 := fun w => real_any a b w
  go_enter Tryz.func12, Tryz.ntmps12
  go_wp2_with fail
  refine (c1 _).mono ?_
  rintro e w1 ⟨rfl, rfl⟩
  clear c1
  go_wp2_with fail
  refine (c2 _).mono ?_
  rintro e w3 ⟨u, rfl, rfl, h0, h1, h2, h3⟩
  have HH := Lib.hid (good_hexT u h0 h1 h2 h3)
  clear c2 h2 h3
  go_wp2_with fail
  go_wp2
  refine bodyPost_ret (v := .agg #[.int .i64 5, .string (str []), .int .i64 0, .int .u64 u]) (by simp [results, Tryz.results12, go_sem]; first | rfl | exact ⟨rfl, rfl⟩) rfl ?_
  exact ⟨⟨5, [], 0, u⟩, rfl, HH, by
    repeat first
      | exact Below.refl _ _
      | refine Below.setCell ?_ (by simp <;> omega) _
      | refine Below.alloc ?_ (by simp <;> omega) _
      | refine Below.drew ?_⟩
theorem tokenOf_any (r : R) (hf : r.Fits) (w : World) : Calls Tryz.prog 12 #[.agg #[.int .i64 r.k, .int .i64 r.a, .int .i64 r.b, .string r.s]] w (TokOk w) := by
  obtain ⟨k, a, b, s⟩ := r
  obtain ⟨k0, k1, a0, a1, _, _⟩ := hf
  simp only at k0 k1 a0 a1 ⊢
  rcases (show k % 6 = 0 ∨ k % 6 = 1 ∨ k % 6 = 2 ∨ k % 6 = 3 ∨ k % 6 = 4 ∨ k % 6 = 5 by omega) with h | h | h | h | h | h
  · exact tokenOf_1 k a b s w k0 k1 a0 a1 h
  · exact tokenOf_2 k a b s w k0 k1 a0 a1 h
  · exact tokenOf_3 k a b s w k0 k1 h
  · exact tokenOf_4 k a b s w k0 k1 h
  · exact tokenOf_5 k a b s w k0 k1 h
  · exact tokenOf_6 k a b s w k0 k1 a0 a1 h
theorem someN_any (ao : Option Addr) (n cap m : Nat) (M : Int) (hM : M = m) (w : World) (hn : n ≤ cap) (hc : n ≤ 9223372036854775807) (hm : m ≤ 1000000) :
    Calls Tryz.prog 11 #[.slice ao n cap, .int .i64 M] w fun e w' => e = .returned (.slice ao (min n m) cap) ∧ w = w' := by
  have e : min n m = (min (n : Int) M).toNat := by omega
  rw [e]
  have h0 : 0 ≤ M := by omega
  have h1 : M ≤ 1000000 := by omega
  clear e hM
  go_enter Tryz.func11, Tryz.ntmps11
  go_wp2
  go_ret
  exact ⟨rfl, rfl⟩
def ToksOk (m : Nat) (w : World) (e : Ending) (w' : World) : Prop := ∃ (v : Value) (ts : List Tok), e = .returned v ∧ OwnTk w' w.heap.size v ts ∧ Hid (∀ t ∈ ts, GoodT t) ∧ ts.length ≤ m ∧ Below w.heap.size w w'
set_option maxHeartbeats 4000000 in
theorem tokensOf_some (l : List R) (a o cap m : Nat) (M : Int) (hM : M = m) (w : World) (hm : m ≤ 1000) (hf : ∀ r ∈ l, r.Fits) (hcap : l.length ≤ cap) (hc : l.length ≤ 9223372036854775807) (ha : a < w.heap.size) (hl : LiesR w a o l) :
    Calls Tryz.prog 7 #[.slice (some ⟨a, o, none⟩) l.length cap, .int .i64 M] w (ToksOk m w) := by
  unfold ToksOk
  have c36 := fun w => someN_any (some ⟨a, o, none⟩) l.length cap m M hM w hcap hc (by omega)
  obtain ⟨n, hn⟩ : ∃ n, l.length = n := ⟨_, rfl⟩
  rw [hn] at c36 hcap hc
  obtain ⟨q, hq⟩ : ∃ q, min n m = q := ⟨_, rfl⟩
  rw [hq] at c36
  have hq5 : q ≤ 1000 := by omega
  have hqm : q ≤ m := by omega
  rw [hn]
  have HN := Lib.hid hn
  have HQ := Lib.hid hq
  have HF := Lib.hid hf
  have HL := Lib.hid hl
  have HQM := Lib.hid hqm
  clear hn hq hf hl hM hqm hm
  go_enter Tryz.func7, Tryz.ntmps7
  go_wp2_with fail
  refine (c36 _).mono ?_
  rintro e w1 ⟨rfl, rfl⟩
  clear c36
  go_wp2_with fail
  go_loopw [5, 12] (fun u i wr => ∃ (j : Nat) (ts : List Tok), j ≤ q ∧ i = .int .i64 j ∧ ts.length = j ∧ Hid (∀ t ∈ ts, GoodT t) ∧ OwnTk wr w.heap.size u ts ∧ Below w.heap.size w wr) (fun _ i _ => q - (intOf i).toNat)
  case atStart => exact ⟨0, [], Nat.zero_le _, rfl, rfl, (show ∀ u ∈ ([] : List Tok), _ by simp), OwnTk.nil _ _, Below.refl _ _⟩
  case round =>
    obtain ⟨j, ts, hj, rfl, hvl, hg, ho, hbw⟩ := hrel
    by_cases h1 : j < q
    · have hlt : j < l.length := by have := HQ.out; have := HN.out; omega
      obtain ⟨r, hr⟩ : ∃ r, l[j]? = some r := ⟨l[j], List.getElem?_eq_getElem hlt⟩
      have hfit := HF.out r (List.mem_of_getElem? hr)
      obtain ⟨c0, c1, c2, c3⟩ := HL.out j r hr
      have d0 := (hbw.cell (p := ⟨a, o + j * 4, none⟩) ha).trans c0
      have d1 := (hbw.cell (p := ⟨a, o + j * 4 + 1, none⟩) ha).trans c1
      have d2 := (hbw.cell (p := ⟨a, o + j * 4 + 2, none⟩) ha).trans c2
      have d3 := (hbw.cell (p := ⟨a, o + j * 4 + 3, none⟩) ha).trans c3
      have c37 := fun w => tokenOf_any r hfit w
      have hsz := hbw.size
      have ho1 : ∀ o, OwnTk (wr.alloc o) w.heap.size _ ts := fun o => World.ownsRow.alloc ho o
      have hl6 : ts.length ≤ 1000000 := by omega
      have HV := Lib.hid hvl
      clear c0 c1 c2 c3 hr hfit ho hvl
      go_wp2_with fail
      refine (c37 _).mono ?_
      rintro e w1 ⟨v, rfl, HG, hb⟩
      have hob := (ho1 _).keep hb
      have hbb : w.heap.size ≤ w1.heap.size := by have := hb.size; simp at this; omega
      clear c37 ho1
      go_wp2_with (first | (at_builtin; refine wpList_append_tok rfl (.tmp 16) (.tmp 19) rfl w.heap.size _ _ rfl hob v _ rfl _ _ _ rfl rfl rfl _ rfl (by first | rfl | simp) hl6 hbb ?_; intro v1 w2 ho2 hb2) | fail)
      go_roundw
      case rel => exact ⟨j + 1, ts ++ [v], by omega, by go_num, by simp [HV.out], (show ∀ u ∈ ts ++ [v], _ from fun u hu => by
          rcases List.mem_append.1 hu with hu | hu
          · exact hg.out u hu
          · rw [List.mem_singleton] at hu; subst hu; exact HG.out), ho2, ((hbw.alloc hbw.size _).trans (hb.mono (by simp; omega))).trans hb2⟩
      case measure => simp [intOf]; omega
    · have hjm : j = q := by omega
      have HJ := Lib.hid hjm
      clear hjm
      go_wp2_with fail
      go_ret
      exact ⟨_, ts, rfl, ho, hg, by rw [hvl, HJ.out]; exact HQM.out, hbw⟩
theorem tokensOf_nil (ao : Option Addr) (cap m : Nat) (M : Int) (hM : M = m) (w : World) (hm : m ≤ 1000) :
    Calls Tryz.prog 7 #[.slice ao 0 cap, .int .i64 M] w (ToksOk m w) := by
  unfold ToksOk
  have c36 := fun w => someN_any ao 0 cap m M hM w (Nat.zero_le _) (by decide) (by omega)
  rw [Nat.zero_min] at c36
  clear hM
  go_enter Tryz.func7, Tryz.ntmps7
  go_wp2_with fail
  refine (c36 _).mono ?_
  rintro e w1 ⟨rfl, rfl⟩
  clear c36
  go_wp2_with fail
  refine wp_loop_rounds 1 ?_
  rw [rounds_succ]
  go_wp2
  go_ret
  exact ⟨_, [], rfl, OwnTk.nil _ _, Lib.hid (by simp), Nat.zero_le _, Below.refl _ _⟩
theorem tokensOf_any (l : List R) (ao : Option Addr) (cap m : Nat) (M : Int) (hM : M = m) (w : World) (hm : m ≤ 1000) (h : Raws w ao l) (hcap : l.length ≤ cap) (hc : l.length ≤ 9223372036854775807) :
    Calls Tryz.prog 7 #[.slice ao l.length cap, .int .i64 M] w (ToksOk m w) := by
  rcases h.2 with rfl | ⟨a, o, rfl, ha, hl⟩
  · exact tokensOf_nil ao cap m M hM w hm
  · exact tokensOf_some l a o cap m M hM w hm h.1 hcap hc ha hl
end Go.Proofs.YtlhoakpijfhljaaGreatDoor
