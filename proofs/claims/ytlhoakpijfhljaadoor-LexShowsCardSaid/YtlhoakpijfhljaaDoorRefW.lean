/-
  CONTRACT of the reference's tokenText at any token, and of TextOf; the walk of the law 'chirographlaw.LexShows'.
  CONDITIONS: each theorem's own hypotheses.
-/
import Derived.Test.YtlhoakpijfhljaaDoorRefV
import Derived.Test.YtlhoakpijfhljaaDoorShowU
import Derived.Test.YtlhoakpijfhljaaDoorLexE
import Derived.Shelf.Strings.OnBuilder
namespace Go.Proofs.YtlhoakpijfhljaaDoor
open Go.RowKit
set_option linter.unusedVariables false
set_option maxRecDepth 100000

theorem below_dqW {B : Nat} {a w : World} (h : Below B a w) : ∀ q, Below B a (w.drewN q)
  | 0 => h
  | q + 1 => (below_dqW h q).drew
set_option maxHeartbeats 4000000 in
theorem text_num (s : ByteArray) (i b : Int) (w : World) (h0 : 0 ≤ i) (h1 : i ≤ 9223372036854775807) :
    Calls Tryd.prog 13 #[.agg #[.int .i64 3, .string s, .int .i64 i, .int .u64 b]] w fun e w' => e = .returned (.string (str (Lib.itoa i))) ∧ Below w.heap.size w w' := by
  obtain ⟨n, rfl⟩ : ∃ n : Nat, i = n := ⟨i.toNat, by omega⟩
  have e : Lib.itoa (n : Int) = Lib.decDigits n := by unfold Lib.itoa; rw [if_neg (by omega), Int.toNat_natCast]
  rw [e]
  have c := fun W => decimal_any n (by omega) W
  generalize str (Lib.decDigits n) = D at *
  clear e
  go_enter Tryd.func13, Tryd.ntmps13
  go_wp2_with fail
  refine (c _).mono ?_
  rintro e w1 ⟨rfl, q, rfl⟩
  clear c
  go_wp2_with fail
  go_ret
  exact ⟨rfl, by first | exact below_dqW ((Below.refl _ _).alloc (Nat.le_refl _) _) q | simp⟩
theorem text_other (k i b : Int) (s : ByteArray) (w : World) (h3 : (k == 3) = false) (h4 : (k == 4) = false) (h5 : (k == 5) = false) :
    Calls Tryd.prog 13 #[.agg #[.int .i64 k, .string s, .int .i64 i, .int .u64 b]] w fun e w' => e = .returned (.string s) ∧ Below w.heap.size w w' := by
  go_enter Tryd.func13, Tryd.ntmps13
  go_wp2_with fail
  go_ret
  exact ⟨rfl, (Below.refl _ _).alloc (Nat.le_refl _) _⟩
theorem tokenText_any (t : Tok) (w : World) (hf : FitT t) (h : okT t = 0) :
    Calls Tryd.prog 13 #[.agg #[.int .i64 t.k, .string (str t.s), .int .i64 t.i, .int .u64 t.b]] w fun e w' => e = .returned (.string (str (shT t))) ∧ Below w.heap.size w w' := by
  obtain ⟨h4, h12, h6⟩ := tok_ok h
  have hi : t.k = 3 → 0 ≤ t.i := by
    intro hk
    unfold okT tokC at h
    split at h
    · cases h
    · split at h
      · cases h
      · split at h
        · rename_i hg
          simp only [Bool.and_eq_true] at hg
          have := hg.2
          rw [hk] at this
          simpa [goodT] using this
        · cases h
  obtain ⟨k, s, i, b⟩ := t
  unfold shT shownT
  obtain ⟨f0, f1, f2, f3, f4⟩ := hf
  simp only at h4 h12 h6 f0 f1 f2 f3 f4 hi ⊢
  by_cases k3 : k = 3
  · subst k3
    rw [if_pos rfl]; exact text_num _ i b w (hi rfl) f3
  rw [if_neg k3]
  by_cases k4 : k = 4
  · subst k4
    rw [if_pos rfl]; exact text_quote s i b w (h4 rfl).1
  rw [if_neg k4]
  by_cases k5 : k = 5
  · subst k5
    obtain ⟨n, rfl⟩ : ∃ n : Nat, b = n := ⟨b.toNat, by omega⟩
    rw [if_pos rfl, Int.toNat_natCast]; exact text_hex _ i n w (by omega)
  rw [if_neg k5]
  exact text_other k i b _ w (by simpa using k3) (by simpa using k4) (by simpa using k5)
/-! ### texts of the call's own -/
def OwnS (w : World) (base : Nat) (v : Value) (l : List (List UInt8)) : Prop := w.ownsRow base 9 1 v l.length (strsV l)
theorem infoS : (Tryd.prog.info? 9).map (fun i => (i.zero, i.size, i.bytes)) = some (some (.string ⟨#[]⟩), 1, 16) := by kernel_rfl
theorem OwnS.nil (w : World) (base : Nat) : OwnS w base (.slice none 0 0) [] := World.ownsRow_nil _ _ _ _
theorem OwnS.keep {w w1 : World} {base : Nat} {v : Value} {l : List (List UInt8)} (h : OwnS w base v l) (hb : Below w.heap.size w w1) : OwnS w1 base v l :=
  World.ownsRow.kept (row := none) h ⟨hb.os, hb.tape, hb.output, hb.size, fun k hk _ => hb.block k hk⟩ (by cases v.ownBlock <;> simp)
theorem wpList_append_str {ops : Array Oper} {rest : List Oper} {o : Oper} {a : Act} {Q : Exit → Act → World → Prop} {w : World} (hgd : o.guard = none) (s x : Operand)
    (ho : o.op = .call { callee := .builtin .append, args := #[s, x], argTypes := #[43, 43] }) (base : Nat) (v : Value) (l : List (List UInt8)) (hs : a.eval s = v) (hown : OwnS w base v l)
    (u : List UInt8) (S : ByteArray) (hS : S = str u) (m : Nat) (hx : a.eval x = .slice (some ⟨m, 0, none⟩) 1 1) (hm : m = w.heap.size) (hl : l.length ≤ 1000000) (hb : base ≤ w.heap.size)
    (h : ∀ v' w', OwnS w' base v' (l ++ [u]) → Below base w w' → wpList Tryd.prog ops Q rest (a.put o.dst v') w') : wpList Tryd.prog ops Q (o :: rest) a (w.alloc (.cells #[.string S] 9)) := by
  subst hm hS
  obtain ⟨i0, hi, hz0, hz1, hz2⟩ := info_parts infoS
  refine wpList_append_own _ hgd s x 43 ho base 9 i0 _ 1 16 Tryd.underlying43 hi hz0 hz1 hz2 rfl (by decide) v l.length (strsV l) hs (World.ownsRow.alloc hown _) ⟨w.heap.size, 0, none⟩ 1 1 [.string (str u)] hx rfl ?_ ?_ (by unfold maxLen; omega) (by omega) (by simp; omega) ?_
  · intro j y hj
    have hj1 : j < 1 := by have := (List.getElem?_eq_some_iff.1 hj).1; simpa using this
    obtain rfl : j = 0 := by omega
    rw [addr_addT, World.cell?_alloc_new]
    exact hj
  · intro y hy
    rw [List.mem_singleton] at hy
    subst hy; rfl
  · intro v' w' h1 h2 _
    refine h v' w' ?_ ?_
    · unfold OwnS
      have e : strsV (l ++ [u]) = strsV l ++ [.string (str u)] := by simp [strsV]
      rw [e, List.length_append]; exact h1
    · exact ((Below.refl base w).alloc hb _).grown h2 (by simp; omega) (fun k hk => (hown.lt k hk).1)
theorem OwnS.lies {w : World} {base : Nat} {v : Value} {l : List (List UInt8)} (h : OwnS w base v l) : ∃ ao cap, v = .slice ao l.length cap ∧ l.length ≤ cap ∧ (l = [] ∨ ∃ a, ao = some ⟨a, 0, none⟩ ∧ a < w.heap.size ∧ ∀ j x, l[j]? = some x → w.cell? ⟨a, j, none⟩ = some (.string (str x))) := by
  rcases Nat.eq_zero_or_pos l.length with h0 | h0
  · rcases h.2 with ⟨rfl, _⟩ | ⟨g, cap, cur, rfl, _, _, h1, h2, _⟩
    · exact ⟨none, 0, by rw [h0], by omega, .inl (List.eq_nil_of_length_eq_zero h0)⟩
    · exact ⟨_, _, rfl, h1, .inl (List.eq_nil_of_length_eq_zero h0)⟩
  · rcases h.2 with ⟨_, hl⟩ | ⟨g, cap, cur, rfl, _, _, h1, h2, _⟩
    · omega
    · refine ⟨_, _, rfl, h1, .inr ⟨g, rfl, (h.lt g rfl).2, fun j x hx => ?_⟩⟩
      have hj : j < l.length := (List.getElem?_eq_some_iff.1 hx).1
      rw [World.ownsRow.cellAt h j (by simpa [strsV] using hj)]
      exact strsV_get hx
theorem join_text : ∀ l : List Tok, Lib.join (l.map shT) [32] = textT l
  | [] => rfl
  | t :: l => by
    rw [List.map_cons, Lib.join_cons]
    unfold Lib.joinTail textT
    congr 1
    induction l with
    | nil => rfl
    | cons u l ih => simp [List.flatMap_cons] at ih ⊢; rw [ih]
theorem join_any (parts : List (List UInt8)) (ao : Option Addr) (cap : Nat) (w : World) (hc : parts.length ≤ cap) (h1 : parts.length ≤ 1000) (h2 : (Lib.join parts [32]).length ≤ 1000000)
    (h : parts = [] ∨ ∃ a, ao = some ⟨a, 0, none⟩ ∧ a < w.heap.size ∧ ∀ j x, parts[j]? = some x → w.cell? ⟨a, j, none⟩ = some (.string (str x))) :
    Calls Tryd.prog 14 #[.slice ao parts.length cap, .string ⟨#[32]⟩] w fun e w' => e = .returned (.string (str (Lib.join parts [32]))) ∧ Below w.heap.size w w' := by
  rcases h with rfl | ⟨a, rfl, ha, hcl⟩
  · refine (Any.strings_Join_none Tryd.laysRep repX ao cap ⟨#[32]⟩ w).mono ?_
    rintro e w' ⟨rfl, rfl⟩
    exact ⟨rfl, Below.refl _ _⟩
  · have hm : (parts.map str).map (·.data.toList) = parts := by
      rw [List.map_map]
      conv => rhs; rw [← List.map_id parts]
      exact List.map_congr_left (fun x _ => rfl)
    have c := Any.strings_Join Tryd.laysRep repX a 0 cap (parts.map str) ⟨#[32]⟩ w (fun j x hx => by
      rw [List.getElem?_map] at hx
      cases hp : parts[j]? with
      | none => rw [hp] at hx; cases hx
      | some y =>
        rw [hp] at hx
        simp only [Option.map_some, Option.some.injEq] at hx
        rw [← hx, Nat.zero_add]; exact hcl j y hp) ha (by rw [List.length_map]; omega) (by rw [List.length_map]; exact hc) (by rw [hm]; show (Lib.join parts [32]).length ≤ _; omega)
    rw [hm, List.length_map] at c
    exact c
set_option maxHeartbeats 8000000 in
theorem textOf_any (l : List Tok) (ao : Option Addr) (cap : Nat) (w : World) (hTb : Tabs w) (hF : ∀ t ∈ l, FitT t) (hc : l.length ≤ 9223372036854775807) (hT : Toks w ao l) :
    Calls Tryd.prog 5 #[.slice ao l.length cap] w (ShowPost (showR l) w) := by
  obtain ⟨R, hR⟩ : ∃ R, showR l = R := ⟨_, rfl⟩
  rw [hR]
  unfold ShowPost
  obtain ⟨n, hn⟩ : ∃ n, l.length = n := ⟨_, rfl⟩
  by_cases h100 : 100 < n
  · have HRR : Hid (R = .err 1) := by show _ = _; rw [← hR]; unfold showR; rw [if_pos (by omega)]
    rw [hn] at hc ⊢
    have i1 : (100 : Int) < (n : Int) := by omega
    clear hR hF hT hn h100
    go_enter Tryd.func5, Tryd.ntmps5
    go_wp2_with fail
    go_ret2
    exact ⟨_, _, rfl, Lib.hid (by rw [HRR.out]; exact ⟨rfl, rfl, by decide⟩), Below.refl _ _⟩
  · have i1 : ¬ (100 : Int) < (n : Int) := by omega
    have hn100 : n ≤ 100 := by omega
    have hbad := fun j t h => show_bad (l := l) (j := j) (t := t) (by omega) h
    have hgood := fun h => show_good (l := l) (by omega) h
    rw [hR] at hbad hgood
    have htl := fun (h : ∀ u ∈ l, okT u = 0) => textT_len l (fun u hu => ⟨hF u hu, h u hu⟩)
    rw [hn] at hc htl ⊢
    have HN := Lib.hid hn
    have HBAD := Lib.hid hbad
    have HGOOD := Lib.hid hgood
    have HTL := Lib.hid htl
    have HE := Lib.hid hTb
    have HF := Lib.hid hF
    have HT := Lib.hid hT
    have HA2 : Hid (∀ u ∈ l.take 0, okT u = 0) := Lib.hid (by simp)
    clear hR hbad hgood htl hTb hF hT hn h100
    go_enter Tryd.func5, Tryd.ntmps5
    go_wp2_with fail
    go_loopw [4, 14] (fun u i wr => ∃ (j : Nat) (ps : List (List UInt8)), j ≤ n ∧ i = .int .i64 j ∧ ps.length = j ∧ Hid (ps = (l.take j).map shT) ∧ OwnS wr w.heap.size u ps ∧ Hid (∀ u ∈ l.take j, okT u = 0) ∧ Below w.heap.size w wr) (fun _ i _ => n - (intOf i).toNat)
    case atStart => exact ⟨0, [], Nat.zero_le _, rfl, rfl, Lib.hid rfl, OwnS.nil _ _, HA2, Below.refl _ _⟩
    case round =>
      obtain ⟨j, ps, hj, rfl, hpl, hps, ho, hal, hbw⟩ := hrel
      clear HA2
      by_cases hlt : j < n
      · have iI : (j : Int) < (n : Int) := by omega
        have hjl : j < l.length := by rw [HN.out]; exact hlt
        obtain ⟨t, ht⟩ : ∃ t, l[j]? = some t := ⟨l[j], List.getElem?_eq_getElem hjl⟩
        have hft := HF.out t (List.mem_of_getElem? ht)
        rcases HT.out with h0 | ⟨a, o, rfl, ha, hcl⟩
        · rw [h0] at hjl; simp at hjl
        obtain ⟨x0, x1, x2, x3⟩ := hcl j t ht
        have d0 := (hbw.cell (p := ⟨a, o + j * 4, none⟩) ha).trans x0
        have d1 := (hbw.cell (p := ⟨a, o + j * 4 + 1, none⟩) ha).trans x1
        have d2 := (hbw.cell (p := ⟨a, o + j * 4 + 2, none⟩) ha).trans x2
        have d3 := (hbw.cell (p := ⟨a, o + j * 4 + 3, none⟩) ha).trans x3
        have hnext := take_next ht
        have cF := fun W (hW : Below w.heap.size w W) => tokenFault_any t.k t.i t.b t.s W hft.1 hft.2.1 hft.2.2.2.2 (tabs_below HE.out hW)
        have hbd := fun (h : okT t ≠ 0) => HBAD.out j t ht hal.out h
        have hgo := fun (h : okT t = 0) => (show ∀ u ∈ l.take (j + 1), okT u = 0 from fun u hu => by
          rw [hnext, List.mem_append, List.mem_singleton] at hu
          rcases hu with hu | rfl
          · exact hal.out u hu
          · exact h)
        have hps2 : ps ++ [shT t] = (l.take (j + 1)).map shT := by rw [hnext, List.map_append, hps.out]; rfl
        have cX := fun (h : okT t = 0) W => tokenText_any t W hft h
        have HPS := Lib.hid hps2
        have HBD := Lib.hid hbd
        have HGO := Lib.hid hgo
        have hokt : okT t = tokC t.k t.s t.i t.b := rfl
        rw [← hokt] at cF
        generalize okT t = Z at *
        have ho1 : ∀ o, OwnS (wr.alloc o) w.heap.size _ ps := fun o => World.ownsRow.alloc ho o
        have hl6 : ps.length ≤ 1000000 := by omega
        obtain ⟨tk, ts, ti, tb⟩ := t
        simp only at d0 d1 d2 d3 cF cX
        generalize str ts = S at *
        obtain ⟨wa, hwa⟩ : ∃ wa, wr.alloc (.cells #[.int .i64 tk, .string S, .int .i64 ti, .int .u64 tb] 33) = wa := ⟨_, rfl⟩
        have hoa0 := ho1 (.cells #[.int .i64 tk, .string S, .int .i64 ti, .int .u64 tb] 33)
        have hbA : Below wr.heap.size wr (wr.alloc (.cells #[.int .i64 tk, .string S, .int .i64 ti, .int .u64 tb] 33)) := (Below.refl _ _).alloc (Nat.le_refl _) _
        have zT : Blk wa wr.heap.size 33 [.int .i64 tk, .string S, .int .i64 ti, .int .u64 tb] := by rw [← hwa]; exact Blk.new wr #[.int .i64 tk, .string S, .int .i64 ti, .int .u64 tb] _
        rw [hwa] at hbA hoa0
        have hb0a := below_stepL hbw hbw.size hbA
        have cc := cF wa hb0a
        clear x0 x1 x2 x3 hcl ht hft cF hjl hnext hbd hgo hal hokt hps hps2 ho ho1
        go_upto_region 7 with fail
        try rw [hwa]
        clear hwa d0 d1 d2 d3 hbA hbw
        generalize wr.heap.size = g at *
        have p0 := zT.cell (j := 0) rfl
        have p1 := zT.cell (j := 1) rfl
        have p2 := zT.cell (j := 2) rfl
        have p3 := zT.cell (j := 3) rfl
        go_wp2_with fail
        refine cc.mono ?_
        rintro e w3 ⟨rfl, hb3⟩
        have hb03 := below_stepL hb0a hb0a.size hb3
        have zT3 := zT.call hb3
        have ho3 := hoa0.keep hb3
        clear cc p0 p1 p2 p3 zT hb3 hb0a hoa0
        have q0 := zT3.cell (j := 0) rfl
        have q1 := zT3.cell (j := 1) rfl
        have q2 := zT3.cell (j := 2) rfl
        have q3 := zT3.cell (j := 3) rfl
        by_cases hz : Z = 0
        · have hN := Lib.hid (HGO.out hz)
          have z1 : (Z != 0) = false := by rw [hz]; rfl
          have cy := cX hz w3
          generalize shT ⟨tk, ts, ti, tb⟩ = tx at *
          have hV := Lib.hid hpl
          clear HBD HGO hz cX hpl
          go_wp2_with fail
          refine cy.mono ?_
          rintro e w4 ⟨rfl, hb4⟩
          have ho4 := ho3.keep hb4
          have hb04 := below_stepL hb03 hb03.size hb4
          have hbb := hb04.size
          clear cy q0 q1 q2 q3 zT3 hb4 ho3 hb03
          go_wp2_with (first | (at_builtin; refine wpList_append_str rfl (.tmp 23) (.tmp 26) rfl w.heap.size _ _ rfl ho4 tx _ rfl _ rfl (by first | rfl | simp) hl6 hbb ?_; intro v1 w5 ho5 hb5) | fail)
          go_roundw
          case rel => exact ⟨j + 1, ps ++ [tx], by omega, by go_num, by simp [hV.out], HPS, ho5, hN, hb04.trans hb5⟩
          case measure => simp [intOf]; omega
        · have hN := Lib.hid (HBD.out hz)
          have z1 : (Z != 0) = true := by simpa using hz
          have HZ := Lib.hid hz
          clear HBD HGO hz cX q0 q1 q2 q3 zT3 ho3 HPS
          go_wp2_with fail
          go_ret2
          exact ⟨_, _, rfl, Lib.hid (by rw [hN.out]; exact ⟨rfl, rfl, HZ.out⟩), hb03⟩
      · have iI : ¬ (j : Int) < (n : Int) := by omega
        obtain rfl : j = n := by omega
        have hta : l.take j = l := List.take_of_length_le (by rw [HN.out]; exact Nat.le_refl _)
        have hall : ∀ u ∈ l, okT u = 0 := by have := hal.out; rw [hta] at this; exact this
        have hg := HGOOD.out hall
        have hlen := HTL.out hall
        have hj2 : Lib.join ps [32] = textT l := by rw [hps.out, hta]; exact join_text l
        obtain ⟨a1, cap1, rfl, g1, hl1⟩ := ho.lies
        have cJ := join_any ps a1 cap1 wr g1 (by omega) (by rw [hj2]; omega) hl1
        rw [hj2] at cJ
        rw [hpl] at cJ g1 ⊢
        have hsz := str_size (textT l)
        obtain ⟨m, hm⟩ : ∃ m, (textT l).length = m := ⟨_, rfl⟩
        rw [hm] at hg hsz hlen
        have HG := Lib.hid hg
        obtain ⟨X, hX⟩ : ∃ X, str (textT l) = X := ⟨_, rfl⟩
        rw [hX] at cJ hsz
        have hszI : (X.size : Int) = (m : Int) := by omega
        have HX := Lib.hid hX
        clear hta hall hg hj2 hl1 ho hps hal hsz hX hm hlen
        go_wp2_with fail
        refine cJ.mono ?_
        rintro e w4 ⟨rfl, hb4⟩
        have hb04 := below_stepL hbw hbw.size hb4
        clear cJ hb4 hbw
        by_cases h3 : 300 < m
        · have i3 : (300 : Int) < (m : Int) := by omega
          go_wp2_with fail
          go_ret2
          exact ⟨_, _, rfl, Lib.hid (by rw [HG.out, if_pos h3]; exact ⟨rfl, rfl, by decide⟩), hb04⟩
        · have i3 : ¬ (300 : Int) < (m : Int) := by omega
          go_wp2_with fail
          go_ret2
          exact ⟨_, _, rfl, Lib.hid (by rw [HG.out, if_neg h3]; exact ⟨HX.out.symm, rfl⟩), hb04⟩
end Go.Proofs.YtlhoakpijfhljaaDoor
