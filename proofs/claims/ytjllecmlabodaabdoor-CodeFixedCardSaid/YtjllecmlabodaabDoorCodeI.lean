/-
  CONTRACT of package code's Decode.
  CONDITIONS: each theorem's own hypotheses; package unicode/utf8's two tables hold what their initialisers lay ('Tabs').
-/
import Derived.Test.YtjllecmlabodaabDoorCodeH
import Derived.Test.YtjllecmlabodaabDoorCodeR
namespace Go.Proofs.YtjllecmlabodaabDoor
open Go.RowKit CodeMath
set_option linter.unusedVariables false

def CodeMath.RRes.e : RRes → Int
  | .err e => e
  | .ok _ => 0
def CodeMath.RRes.vs : RRes → List V
  | .err _ => []
  | .ok l => l.map CodeMath.Val.v
def glue (vs : List CodeMath.Val) : RRes → RRes
  | .err e => .err e
  | .ok us => .ok (vs ++ us)
def decE (l : List UInt8) (n : Int) (down : Int) : RRes := if n < 0 ∨ 5 < n then .err 1 else decRow okV (dn down) n.toNat 0 l

theorem glue_nil (A : RRes) : glue [] A = A := by cases A <;> rfl
theorem decRow_step (down : Int) (l : List UInt8) (m i p : Nat) (vs : List CodeMath.Val) : glue vs (decRow okV (dn down) (m + 1) i (l.drop p)) = (match dec1 okV (rest l (dn down i) p) with
    | .err e => .err e
    | .ok v k => glue (vs ++ [v]) (decRow okV (dn down) m (i + 1) (l.drop (p + k)))) := by
  unfold rest
  rw [← turnL_drop]
  simp only [decRow]
  cases dec1 okV (turnL (dn down i) (l.drop p)) with
  | err e => rfl
  | ok v k =>
    simp only [List.drop_drop]
    cases decRow okV (dn down) m (i + 1) (l.drop (p + k)) with
    | err e => rfl
    | ok us => simp [glue]
theorem dec1_okV_err (l : List UInt8) (e : Int) (h : dec1 okV l = .err e) : e ≠ 0 := by
  rw [dec1_yes] at h
  cases hu : dec1 yes l with
  | err e' =>
    rw [hu] at h
    simp only [Res.err.injEq] at h
    rw [← h]
    exact dec1_err_ne l e' hu
  | ok u k =>
    rw [hu] at h
    simp only [fin] at h
    split at h
    · cases h
    · simp only [Res.err.injEq] at h
      omega
theorem dec1_okV_fits (l : List UInt8) (u : CodeMath.Val) (k : Nat) (h : dec1 okV l = .ok u k) : u.v.Fits ∧ u.v.chk = 0 := by
  have h1 := (enc_dec1 okV l u k h).1
  rw [dec1_yes] at h
  cases hu : dec1 yes l with
  | err e' => rw [hu] at h; cases h
  | ok u' k' =>
    rw [hu] at h
    obtain ⟨rfl, rfl, _⟩ := fin_ok h
    exact ⟨dec1_fits l u' k' hu, by simpa [okV] using h1⟩

theorem OwnV.moved {w w1 : World} {base P : Nat} {v : Value} {l : List V} (h : OwnV w base v l) (hP : P < base) (hg : w.grownBy w1 (some P)) : OwnV w1 base v l :=
  World.ownsRow.kept h hg (by
    cases hv : v.ownBlock with
    | none => exact .inl rfl
    | some k => exact .inr (by have := (h.lt k hv).1; simp; omega))
theorem OwnV.base {w : World} {base b' : Nat} {v : Value} {l : List V} (h : OwnV w base v l) (hb : b' ≤ base) : OwnV w b' v l := by
  obtain ⟨h1, h2⟩ := h
  refine ⟨h1, ?_⟩
  rcases h2 with h2 | ⟨g, cap, cur, e, hg, r⟩
  · exact .inl h2
  · exact .inr ⟨g, cap, cur, e, by omega, r⟩
/-- A slice of bytes, wherever it lies. -/
def Bytes (w : World) (ao : Option Addr) (l : List UInt8) : Prop := l = [] ∨ ∃ a o, ao = some ⟨a, o, none⟩ ∧ a < w.heap.size ∧ ∀ j x, l[j]? = some x → w.cell? ⟨a, o + j, none⟩ = some (.int .u8 x.toNat)

theorem rdr_new {w : World} {ao : Option Addr} {cap : Nat} {l : List UInt8} (h : Bytes w ao l) (hl : l.length ≤ 9223372036854775807) :
    Rdr (w.heap.size + 2) ((w.alloc (.cells #[.slice ao l.length cap] 23)).alloc (.cells #[.int .i64 0] 3)) (w.heap.size + 1) w.heap.size ao cap l 0 := by
  have hb : Below w.heap.size w ((w.alloc (.cells #[.slice ao l.length cap] 23)).alloc (.cells #[.int .i64 0] 3)) := ((Below.refl _ _).alloc (Nat.le_refl _) _).alloc (by simp) _
  have hs : ((w.alloc (.cells #[.slice ao l.length cap] 23)).alloc (.cells #[.int .i64 0] 3)).heap.size = w.heap.size + 2 := by simp
  refine ⟨?_, ?_, fun j x hx => ?_, by omega, by omega, by omega, by omega, Nat.zero_le _, hl⟩
  · have := heap_alloc_new (w.alloc (.cells #[.slice ao l.length cap] 23)) (.cells #[.int .i64 0] 3)
    simpa using this
  · rw [World.cell?_alloc_past _ _ _ (by simp), World.cell?_alloc_new]
    rfl
  · rcases h with rfl | ⟨a, o, h1, h2, h3⟩
    · simp at hx
    · exact ⟨a, o, h1, by omega, by omega, (hb.cell (p := ⟨a, o + j, none⟩) h2).trans (h3 j x hx)⟩
theorem Rdr.up {M M' : Nat} {w : World} {P B : Nat} {ao : Option Addr} {cap : Nat} {l : List UInt8} {p : Nat} (h : Rdr M w P B ao cap l p) (h1 : M ≤ M') (h2 : M' ≤ w.heap.size) : Rdr M' w P B ao cap l p :=
  ⟨h.place, h.box, fun j x hx => by
    obtain ⟨a, o, e1, e2, e3, e4⟩ := h.bytes j x hx
    exact ⟨a, o, e1, e2, by omega, e4⟩, h.pb, by have := h.pm; omega, by have := h.bm; omega, h2, h.pl, h.sz⟩
theorem Rdr.lower {M M' : Nat} {w w' : World} {P B : Nat} {ao : Option Addr} {cap : Nat} {l : List UInt8} {p p' : Nat} (h : Rdr M w P B ao cap l p) (h' : Rdr M' w' P B ao cap l p') (h1 : M ≤ M') : Rdr M w' P B ao cap l p' :=
  ⟨h'.place, h'.box, fun j x hx => by
    obtain ⟨a, o, e1, e2, e3, e4⟩ := h.bytes j x hx
    obtain ⟨a', o', f1, f2, f3, f4⟩ := h'.bytes j x hx
    rw [e1] at f1
    simp only [Option.some.injEq, Addr.mk.injEq, and_true] at f1
    obtain ⟨rfl, rfl⟩ := f1
    exact ⟨a, o, e1, e2, e3, f4⟩, h.pb, h.pm, h.bm, Nat.le_trans h1 h'.m, h'.pl, h.sz⟩
theorem src_new {M : Nat} {w : World} {P B : Nat} {ao : Option Addr} {cap : Nat} {l : List UInt8} {p : Nat} (h : Rdr M w P B ao cap l p) (d : Bool) :
    Src (w.heap.size + 2) ((w.alloc (.cells #[rd P B] 56)).alloc (.cells #[.int .u8 (byD d)] 5)) P B w.heap.size (w.heap.size + 1) ao cap l d p := by
  have hb : Below M w ((w.alloc (.cells #[rd P B] 56)).alloc (.cells #[.int .u8 (byD d)] 5)) := ((Below.refl _ _).alloc h.m _).alloc (by have := h.m; simp; omega) _
  have hP : P < w.heap.size := Nat.lt_of_lt_of_le h.pm h.m
  refine ⟨(h.below hb).up (by have := h.m; omega) (by simp), ⟨?_, ?_, by omega, by omega, by omega, by omega⟩⟩
  · rw [World.cell?_alloc_past _ _ _ (by simp), World.cell?_alloc_new]
    rfl
  · simp
theorem below_moved {a b : World} {P K : Nat} (hg : a.grownBy b (some P)) (h1 : K ≤ a.heap.size) (h2 : K ≤ P) : Below K a b :=
  ⟨hg.os, hg.tape, hg.output, hg.size, fun k hk => hg.block k (by omega) (by simp; omega)⟩
theorem rest_false {l : List UInt8} {p : Nat} : rest l false p = l.drop p := by unfold rest; rw [turnL_false]

def DecOk (A : RRes) (w : World) (e : Ending) (w' : World) : Prop := ∃ v', e = .returned (.tuple #[v', .int .i64 A.e]) ∧ OwnV w' w.heap.size v' A.vs ∧ Below w.heap.size w w'

set_option maxRecDepth 100000 in
set_option maxHeartbeats 2000000 in
theorem decode_in (l : List UInt8) (n : Nat) (down : Int) (ao : Option Addr) (cap : Nat) (w : World) (hn : n ≤ 5) (hl : l.length ≤ 9223372036854775807) (h : Bytes w ao l) (hT : Tabs w) :
    Calls Tryd.prog 13 #[.slice ao l.length cap, .int .i64 n, .int .i64 down] w (DecOk (decRow okV (dn down) n 0 l) w) := by
  obtain ⟨A, hA⟩ : ∃ A, decRow okV (dn down) n 0 l = A := ⟨_, rfl⟩
  rw [hA]
  unfold DecOk
  have hr0 := rdr_new (cap := cap) h hl
  have c30 := reader_any ao l.length cap w
  have hbelow : Below w.heap.size w ((w.alloc (.cells #[.slice ao l.length cap] 23)).alloc (.cells #[.int .i64 0] 3)) := ((Below.refl _ _).alloc (Nat.le_refl _) _).alloc (by simp) _
  obtain ⟨P, hP⟩ : ∃ P, w.heap.size + 1 = P := ⟨_, rfl⟩
  obtain ⟨B, hB⟩ : ∃ B, w.heap.size = B := ⟨_, rfl⟩
  obtain ⟨M0, hM0⟩ : ∃ M0, w.heap.size + 2 = M0 := ⟨_, rfl⟩
  have hPM : P < M0 := by omega
  have hwP : w.heap.size ≤ P := by omega
  have hwM : w.heap.size ≤ M0 := by omega
  rw [hP, hB] at c30
  rw [hP, hM0] at hr0
  rw [show Rdr M0 _ P w.heap.size ao cap l 0 = Rdr M0 _ P B ao cap l 0 by rw [hB]] at hr0
  generalize l.length = ll at c30 hbelow hr0 ⊢
  have hA' : Hid (glue [] (decRow okV (dn down) (n - 0) 0 (l.drop 0)) = A) := by show _ = _; rw [glue_nil]; exact hA
  have HT := Lib.hid hT
  have HMM := Lib.hid hM0
  clear hA hP hB hM0 hT h hl
  generalize (w.alloc (.cells #[.slice ao ll cap] 23)).alloc (.cells #[.int .i64 0] 3) = W1 at c30 hbelow hr0
  have hR0 := hr0
  go_enter Tryd.func13, Tryd.ntmps13
  go_wp2_with fail
  refine c30.mono ?_
  rintro e w' ⟨rfl, rfl⟩
  clear c30
  go_wp2_with fail
  go_loopw [9, 24] (fun u i wr => ∃ (j p : Nat) (vs : List CodeMath.Val), j ≤ n ∧ i = .int .i64 j ∧ Hid (vs.length = j) ∧ OwnV wr M0 u (vs.map CodeMath.Val.v) ∧ Rdr M0 wr P B ao cap l p ∧ Below w.heap.size w wr ∧ Hid (glue vs (decRow okV (dn down) (n - j) j (l.drop p)) = A)) (fun _ i _ => n - (intOf i).toNat)
  case atStart => exact ⟨0, 0, [], Nat.zero_le _, rfl, rfl, OwnV.nil _ _, hr0, hbelow, hA'⟩
  case round =>
    obtain ⟨j, p, vs, hj, rfl, hvl, ho, hr, hbw, hx⟩ := hrel
    clear hr0 hbelow hA'
    by_cases h1 : j < n
    · obtain ⟨m, hm⟩ : ∃ m, n - j = m + 1 := ⟨n - j - 1, by omega⟩
      have hx' := hx.out
      rw [hm, decRow_step] at hx'
      have cT := fun w => turning_any down j (by omega) w
      have c32 := fun w => turned_any P B (byD (dn down j)) w
      have hs0 := src_new hr (dn down j)
      have hMr := hr.m
      have hPr : P < wr.heap.size := Nat.lt_of_lt_of_le hPM hMr
      have hb2 : Below w.heap.size w ((wr.alloc (.cells #[rd P B] 56)).alloc (.cells #[.int .u8 (byD (dn down j))] 5)) := (hbw.alloc hbw.size _).alloc (by have := hbw.size; simp; omega) _
      have ho2 : OwnV ((wr.alloc (.cells #[rd P B] 56)).alloc (.cells #[.int .u8 (byD (dn down j))] 5)) M0 _ (vs.map CodeMath.Val.v) := World.ownsRow.alloc (World.ownsRow.alloc ho _) _
      have hM2 : M0 ≤ ((wr.alloc (.cells #[rd P B] 56)).alloc (.cells #[.int .u8 (byD (dn down j))] 5)).heap.size := by simp; omega
      obtain ⟨D, hD⟩ : ∃ D, byD (dn down j) = D := ⟨_, rfl⟩
      rw [hD] at cT c32 hs0 hb2 ho2 hM2
      generalize hW2 : (wr.alloc (.cells #[rd P B] 56)).alloc (.cells #[.int .u8 D] 5) = W2 at hs0 hb2 ho2 hM2
      have hw2 := Lib.hid hW2
      have hT2 : ∀ w', W2.grownBy w' (some P) → Tabs w' := fun w' hg => tabs_below HT.out (hb2.trans (below_moved hg hb2.size hwP))
      have c31 := readValue_any hs0 hT2
      have hHM := hm
      have HJ := Lib.hid hm
      clear hW2 hD hs0 hT2 hx hm hHM ho
      cases hd : dec1 okV (rest l (dn down j) p) with
      | err E =>
        rw [hd] at hx' c31
        have HX := Lib.hid hx'
        have hEne := dec1_okV_err _ E hd
        have kE : (E != 0) = true := by simpa using hEne
        clear hx' hd hEne
        go_wp2_with fail
        refine (cT _).mono ?_
        rintro e w4 ⟨rfl, rfl⟩
        clear cT
        go_wp2_with fail
        refine (c32 _).mono ?_
        rintro e w4 ⟨rfl, hw4⟩
        rw [hw2.out] at hw4
        subst hw4
        clear c32
        go_wp2_with fail
        refine c31.mono ?_
        rintro e w3 ⟨rfl, hg, -⟩
        have eE : (Res.err E).e = E := rfl
        rw [eE]
        have hbf := hb2.trans (below_moved hg hb2.size hwP)
        clear c31 eE
        go_wp2_with fail
        go_ret2
        rw [← HX.out]
        exact ⟨.slice none 0 0, rfl, OwnV.nil _ _, hbf.alloc hbf.size _⟩
      | ok u k =>
        rw [hd] at hx' c31
        have HX := Lib.hid hx'
        have hfit := Lib.hid (dec1_okV_fits _ u k hd)
        obtain ⟨uv, huv⟩ : ∃ uv, u.v = uv := ⟨_, rfl⟩
        have HU := Lib.hid huv
        have eV : (Res.ok u k).v = uv := huv
        have HV := Lib.hid eV
        have hlv : (vs.map CodeMath.Val.v).length ≤ 1000000 := by rw [List.length_map]; have := hvl.out; omega
        clear hx' hd huv eV
        go_wp2_with fail
        refine (cT _).mono ?_
        rintro e w4 ⟨rfl, rfl⟩
        clear cT
        go_wp2_with fail
        refine (c32 _).mono ?_
        rintro e w4 ⟨rfl, hw4⟩
        rw [hw2.out] at hw4
        subst hw4
        clear c32
        go_wp2_with fail
        refine c31.mono ?_
        rintro e w3 ⟨rfl, hg, hs3⟩
        have hs4 := hs3 rfl
        have hbf := hb2.trans (below_moved hg hb2.size hwP)
        have hr3 : Rdr M0 w3 P B ao cap l (p + k) := hr.lower hs4.r (by omega)
        have ho3 := ho2.moved hPM hg
        have ho4 : ∀ o, OwnV (w3.alloc o) M0 _ (vs.map CodeMath.Val.v) := fun o => World.ownsRow.alloc ho3 o
        have hM3 : M0 ≤ w3.heap.size := Nat.le_trans hM2 hg.size
        have hM4 : ∀ o, M0 ≤ (w3.alloc o).heap.size := fun o => by simp; omega
        have eE : (Res.ok u k).e = 0 := rfl
        rw [eE, HV.out]
        clear c31 eE hs3 hs4 ho2
        go_wp2_with (first | (at_builtin; refine wpList_append_val rfl (.tmp 39) (.tmp 41) rfl M0 _ _ rfl (ho4 _) uv _ rfl (by first | rfl | simp) hlv (hM4 _) ?_; intro v1 w5 ho5 hb5 hgg) | fail)
        clear hgg
        go_roundw
        case rel =>
          refine ⟨j + 1, p + k, vs ++ [u], by omega, by go_num, (show (vs ++ [u]).length = j + 1 by rw [List.length_append, hvl.out]; rfl), ?_, (hr3.below ((Below.refl M0 w3).alloc hM3 _)).below hb5, ((hbf.alloc hbf.size _).trans (hb5.mono hwM)), ?_⟩
          · rw [List.map_append, List.map_cons, List.map_nil, HU.out]; exact ho5
          · have := HX.out
            rw [show n - (j + 1) = m by have := HJ.out; omega]
            exact this
        case measure => simp [intOf]; omega
    · have hjn : j = n := by omega
      have hx' := hx.out
      rw [hjn, Nat.sub_self] at hx'
      simp only [decRow] at hx'
      obtain ⟨ao', cp', rfl, hcp, _, _⟩ := ho.shape
      by_cases hp : l.drop p = []
      · rw [if_pos hp] at hx'
        have HX := Lib.hid hx'
        have hpl : p = l.length := by have := List.drop_eq_nil_iff.1 hp; have := hr.pl; omega
        subst hpl
        have c47 := reader1_end hr
        clear hx' hx hp hjn
        go_wp2_with fail
        refine c47.mono ?_
        rintro e w3 ⟨rfl, rfl⟩
        clear c47
        go_wp2_with fail
        go_ret2
        rw [← HX.out]
        exact ⟨_, rfl, (by simpa [glue, CodeMath.RRes.vs] using ho.base hwM), hbw⟩
      · rw [if_neg hp] at hx'
        have HX := Lib.hid hx'
        have hpl : p < l.length := by
          rcases Nat.lt_or_ge p l.length with h | h
          · exact h
          · exact absurd (List.drop_eq_nil_iff.2 h) hp
        have c47 := reader1_more hr l[p] (List.getElem?_eq_getElem hpl)
        clear hx' hx hp hjn
        generalize (l[p].toNat : Int) = q at c47
        go_wp2_with fail
        refine c47.mono ?_
        rintro e w3 ⟨rfl, _, hg⟩
        clear c47
        have hbf := hbw.trans (below_moved hg hbw.size hwP)
        go_wp2_with fail
        go_ret2
        rw [← HX.out]
        exact ⟨.slice none 0 0, rfl, OwnV.nil _ _, hbf⟩

set_option maxRecDepth 100000 in
theorem decode_out (l : List UInt8) (n : Int) (down : Int) (ao : Option Addr) (cap : Nat) (w : World) (hn : n < 0 ∨ 5 < n) :
    Calls Tryd.prog 13 #[.slice ao l.length cap, .int .i64 n, .int .i64 down] w (DecOk (.err 1) w) := by
  unfold DecOk
  generalize l.length = ll
  rcases hn with hn | hn
  · go_enter Tryd.func13, Tryd.ntmps13
    go_wp2
    go_ret2
    exact ⟨.slice none 0 0, rfl, OwnV.nil _ _, Below.refl _ _⟩
  · have h0 : ¬ n < 0 := by omega
    go_enter Tryd.func13, Tryd.ntmps13
    go_wp2
    go_ret2
    exact ⟨.slice none 0 0, rfl, OwnV.nil _ _, Below.refl _ _⟩
theorem decode_any (l : List UInt8) (n : Int) (down : Int) (ao : Option Addr) (cap : Nat) (w : World) (hl : l.length ≤ 9223372036854775807) (h : Bytes w ao l) (hT : Tabs w) :
    Calls Tryd.prog 13 #[.slice ao l.length cap, .int .i64 n, .int .i64 down] w (DecOk (decE l n down) w) := by
  unfold decE
  by_cases hn : n < 0 ∨ 5 < n
  · rw [if_pos hn]; exact decode_out l n down ao cap w hn
  · rw [if_neg hn]
    have e : n = ((n.toNat : Nat) : Int) := by omega
    have := decode_in l n.toNat down ao cap w (by omega) hl h hT
    rw [← e] at this
    exact this
end Go.Proofs.YtjllecmlabodaabDoor
