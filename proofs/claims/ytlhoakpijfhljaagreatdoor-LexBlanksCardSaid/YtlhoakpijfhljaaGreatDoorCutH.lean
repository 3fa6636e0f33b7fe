/-
  TOKENS OF THE CALL's OWN; CONTRACT of package lex's Cut.
  CONDITIONS: each theorem's own hypotheses; what 'Env' says.
-/
import Derived.Test.YtlhoakpijfhljaaGreatDoorCutG
import Derived.Test.YtlhoakpijfhljaaGreatDoorCutA
import Derived.OwnWalk
import Derived.Laws.OwnMore
import Derived.Laws.AppendOwnNone
namespace Go.Proofs.YtlhoakpijfhljaaGreatDoor
open Go.RowKit
set_option linter.unusedVariables false
set_option maxRecDepth 100000

def cellsT1 (t : Tok) : List Value := [.int .i64 t.k, .string (str t.s), .int .i64 t.i, .int .u64 t.b]
def cellsTk (l : List Tok) : List Value := l.flatMap cellsT1
theorem cellsTk_length : ∀ l : List Tok, (cellsTk l).length = l.length * 4
  | [] => rfl
  | t :: l => by
    show ((cellsT1 t) ++ cellsTk l).length = _
    rw [List.length_append, cellsTk_length l]
    simp [cellsT1]; omega
theorem cellsTk_append (l m : List Tok) : cellsTk (l ++ m) = cellsTk l ++ cellsTk m := by simp [cellsTk]
theorem cellsTk_at : ∀ (l : List Tok) (j q : Nat) (t : Tok), l[j]? = some t → q < 4 → (cellsTk l)[j * 4 + q]? = (cellsT1 t)[q]?
  | [], j, q, v, h, hq => by simp at h
  | u :: l, 0, q, v, h, hq => by
    simp only [List.getElem?_cons_zero, Option.some.injEq] at h
    subst h
    show ((cellsT1 u) ++ cellsTk l)[0 * 4 + q]? = _
    rw [List.getElem?_append_left (by simp [cellsT1]; omega)]
    simp
  | u :: l, j + 1, q, v, h, hq => by
    simp only [List.getElem?_cons_succ] at h
    show ((cellsT1 u) ++ cellsTk l)[(j + 1) * 4 + q]? = _
    rw [List.getElem?_append_right (by simp [cellsT1]; omega)]
    rw [show (j + 1) * 4 + q - (cellsT1 u).length = j * 4 + q by simp [cellsT1]; omega]
    exact cellsTk_at l j q v h hq
/-- A slice of tokens of the call's own. -/
def OwnTk (w : World) (base : Nat) (v : Value) (l : List Tok) : Prop := w.ownsRow base 32 4 v l.length (cellsTk l)
theorem infoTk : (Tryz.prog.info? 32).map (fun i => (i.zero, i.size, i.bytes)) = some (some (.agg #[.int .i64 0, .string ⟨#[]⟩, .int .i64 0, .int .u64 0]), 4, 40) := by kernel_rfl
theorem OwnTk.nil (w : World) (base : Nat) : OwnTk w base (.slice none 0 0) [] := World.ownsRow_nil _ _ _ _
theorem OwnTk.keep {w w1 : World} {base : Nat} {v : Value} {l : List Tok} (h : OwnTk w base v l) (hb : Below w.heap.size w w1) : OwnTk w1 base v l :=
  World.ownsRow.kept (row := none) h ⟨hb.os, hb.tape, hb.output, hb.size, fun k hk _ => hb.block k hk⟩ (by cases v.ownBlock <;> simp)
theorem OwnTk.shape {w : World} {base : Nat} {v : Value} {l : List Tok} (h : OwnTk w base v l) : ∃ a n k, v = .slice a n k ∧ n = l.length := by
  rcases h.2 with ⟨rfl, h0⟩ | ⟨g, cap, cur, rfl, hbg, hg, h1, h2, _⟩
  · exact ⟨_, _, _, rfl, by omega⟩
  · exact ⟨_, _, _, rfl, rfl⟩
/-- Tokens somewhere. -/
def Toks (w : World) (ao : Option Addr) (l : List Tok) : Prop := l = [] ∨ ∃ a o, ao = some ⟨a, o, none⟩ ∧ a < w.heap.size ∧ ∀ j t, l[j]? = some t → w.cell? ⟨a, o + j * 4, none⟩ = some (.int .i64 t.k) ∧ w.cell? ⟨a, o + j * 4 + 1, none⟩ = some (.string (str t.s)) ∧ w.cell? ⟨a, o + j * 4 + 2, none⟩ = some (.int .i64 t.i) ∧ w.cell? ⟨a, o + j * 4 + 3, none⟩ = some (.int .u64 t.b)
theorem Toks.keep {w w1 : World} {ao : Option Addr} {l : List Tok} (h : Toks w ao l) (hb : Below w.heap.size w w1) : Toks w1 ao l := by
  rcases h with h | ⟨a, o, h1, h2, h3⟩
  · exact .inl h
  · refine .inr ⟨a, o, h1, Nat.lt_of_lt_of_le h2 hb.size, fun j t ht => ?_⟩
    obtain ⟨q0, q1, q2, q3⟩ := h3 j t ht
    exact ⟨(hb.cell (p := ⟨a, _, none⟩) h2).trans q0, (hb.cell (p := ⟨a, _, none⟩) h2).trans q1, (hb.cell (p := ⟨a, _, none⟩) h2).trans q2, (hb.cell (p := ⟨a, _, none⟩) h2).trans q3⟩
theorem OwnTk.toks {w : World} {base : Nat} {v : Value} {l : List Tok} (h : OwnTk w base v l) : ∃ ao cap, v = .slice ao l.length cap ∧ l.length ≤ cap ∧ cap ≤ 9223372036854775807 ∧ Toks w ao l := by
  rcases h.2 with ⟨rfl, h0⟩ | ⟨g, cap, cur, rfl, hbg, hg, h1, h2, _⟩
  · exact ⟨none, 0, by rw [h0], by omega, by omega, .inl (List.eq_nil_of_length_eq_zero h0)⟩
  · refine ⟨_, _, rfl, h1, by unfold maxLen at h2; omega, .inr ⟨g, 0, rfl, (Array.getElem?_eq_some_iff.1 hg).1, fun j t ht => ?_⟩⟩
    have hj : j < l.length := (List.getElem?_eq_some_iff.1 ht).1
    have hc : ∀ q, q < 4 → w.cell? ⟨g, j * 4 + q, none⟩ = (cellsT1 t)[q]? := fun q hq => by
      rw [World.ownsRow.cellAt h (j * 4 + q) (by omega), cellsTk_at l j q t ht hq]
    rw [Nat.zero_add]
    exact ⟨hc 0 (by decide), hc 1 (by decide), hc 2 (by decide), hc 3 (by decide)⟩
theorem addr_addT (b j : Nat) : (⟨b, 0, none⟩ : Addr).add j = ⟨b, j, none⟩ := by unfold Addr.add; split <;> simp_all
theorem grown_transT {a b c : World} {row : Option Nat} (h : a.grownBy b row) (k : b.grownBy c row) : a.grownBy c row :=
  ⟨k.os.trans h.os, k.tape.trans h.tape, k.output.trans h.output, Nat.le_trans h.size k.size, fun i hi hn => (k.block i (Nat.lt_of_lt_of_le hi h.size) hn).trans (h.block i hi hn)⟩
/-- append(l, t), one token. -/
theorem wpList_append_tok {ops : Array Oper} {rest : List Oper} {o : Oper} {a : Act} {Q : Exit → Act → World → Prop} {w : World} (hgd : o.guard = none) (s x : Operand)
    (ho : o.op = .call { callee := .builtin .append, args := #[s, x], argTypes := #[23, 23] }) (base : Nat) (v : Value) (l : List Tok) (hs : a.eval s = v) (hown : OwnTk w base v l)
    (u : Tok) (S : ByteArray) (hS : S = str u.s) (k i b : Int) (hk : k = u.k) (hi' : i = u.i) (hb' : b = u.b) (m : Nat) (hx : a.eval x = .slice (some ⟨m, 0, none⟩) 1 1) (hm : m = w.heap.size) (hl : l.length ≤ 1000000) (hb : base ≤ w.heap.size)
    (h : ∀ v' w', OwnTk w' base v' (l ++ [u]) → Below base w w' → wpList Tryz.prog ops Q rest (a.put o.dst v') w') : wpList Tryz.prog ops Q (o :: rest) a (w.alloc (.cells #[.int .i64 k, .string S, .int .i64 i, .int .u64 b] 32)) := by
  subst hm hS hk hi' hb'
  obtain ⟨i0, hi, hz0, hz1, hz2⟩ := info_parts infoTk
  refine wpList_append_own _ hgd s x 23 ho base 32 i0 _ 4 40 Tryz.underlying23 hi hz0 hz1 hz2 rfl (by decide) v l.length (cellsTk l) hs (World.ownsRow.alloc hown _) ⟨w.heap.size, 0, none⟩ 1 1 (cellsT1 u) hx rfl ?_ ?_ (by unfold maxLen; omega) (by omega) (by simp; omega) ?_
  · intro j y hj
    have hj4 : j < 4 := by have := (List.getElem?_eq_some_iff.1 hj).1; simpa [cellsT1] using this
    rw [addr_addT, World.cell?_alloc_new]
    rcases (show j = 0 ∨ j = 1 ∨ j = 2 ∨ j = 3 by omega) with rfl | rfl | rfl | rfl <;> exact hj
  · intro y hy
    simp [cellsT1] at hy
    rcases hy with rfl | rfl | rfl | rfl <;> rfl
  · intro v' w' h1 h2 _
    refine h v' w' ?_ ?_
    · unfold OwnTk
      rw [cellsTk_append, List.length_append]
      have e : cellsTk [u] = cellsT1 u := by simp [cellsTk]
      rw [e]; exact h1
    · exact ((Below.refl base w).alloc hb _).grown h2 (by simp; omega) (fun k hk => (hown.lt k hk).1)
/-- What the variables of the library and package lex hold. -/
structure Env (w : World) : Prop where
  er : ER w
  ml : MaxL w
  sw : SW w
  tabs : Tabs w
theorem Env.keep {w w1 : World} (h : Env w) (hb : Below w.heap.size w w1) : Env w1 := ⟨h.er.keep hb, h.ml.keep hb, h.sw.keep hb (Nat.le_refl _), tabs_below h.tabs hb⟩
def CutOk (R : CR) (w : World) (base : Nat) (v : Value) (p c : Int) : Prop := match R with
  | .err q e => v = .slice none 0 0 ∧ p = q ∧ c = e ∧ e ≠ 0
  | .ok l => OwnTk w base v l ∧ p = 0 ∧ c = 0
def CutPost (R : CR) (w : World) (e : Ending) (w' : World) : Prop := ∃ a n k p c, e = .returned (.tuple #[.slice a n k, .int .i64 p, .int .i64 c]) ∧ Hid (CutOk R w' w.heap.size (.slice a n k) p c) ∧ Below w.heap.size w w'
theorem cutF_end (f : Nat) (l : List UInt8) (p : Nat) (acc : List Tok) (h : l.length ≤ p) : cutF f l p acc = .ok acc := by
  cases f with
  | zero => rfl
  | succ f => simp only [cutF]; rw [if_neg (by omega)]
theorem cutF_full (f : Nat) (l : List UInt8) (p : Nat) (acc : List Tok) (h : p < l.length) (hf : l.length < f + p) (ha : 100 ≤ acc.length) : cutF f l p acc = .err p 1 := by
  cases f with
  | zero => omega
  | succ f => simp only [cutF]; rw [if_pos h, if_pos ha]
theorem cutF_more (f : Nat) (l : List UInt8) (p : Nat) (acc : List Tok) (h : p < l.length) (hf : l.length < f + p) (ha : ¬ 100 ≤ acc.length) : (∀ e, firstR (l.drop p) = .err e → cutF f l p acc = .err p e) ∧ ∀ t n, firstR (l.drop p) = .ok t n → ∃ f', l.length < f' + (p + n + gapR (l.drop (p + n))) ∧ cutF f l p acc = cutF f' l (p + n + gapR (l.drop (p + n))) (acc ++ [t]) ∧ p + n + gapR (l.drop (p + n)) ≤ l.length ∧ 1 ≤ n := by
  cases f with
  | zero => omega
  | succ f =>
    simp only [cutF]
    rw [if_pos h, if_neg ha]
    refine ⟨fun e he => by rw [he], fun t n he => ?_⟩
    have hp := first_pos _ _ _ he
    have hg := gap_le (l.drop (p + n))
    rw [List.length_drop] at hp hg
    exact ⟨f, by omega, by rw [he], by omega, hp.1⟩
set_option maxHeartbeats 8000000 in
theorem cut_any (l : List UInt8) (w : World) (hl0 : l.length ≤ 9223372036854775807) (hV : Env w) :
    Calls Tryz.prog 9 #[.string (str l)] w (CutPost (cutR l) w) := by
  have hsz := str_size l
  obtain ⟨R, hR⟩ : ∃ R, cutR l = R := ⟨_, rfl⟩
  rw [hR]
  unfold cutR at hR
  unfold CutPost
  by_cases h300 : 300 < l.length
  · rw [if_pos h300] at hR
    have i0 : (300 : Int) < ((str l).size : Int) := by omega
    have HR := Lib.hid hR
    generalize str l = s at *
    clear hR hsz h300 hV hl0
    go_enter Tryz.func9, Tryz.ntmps9
    go_wp2_with fail
    go_ret3
    exact ⟨_, _, _, _, _, rfl, Lib.hid (by rw [← HR.out]; exact ⟨rfl, rfl, rfl, by decide⟩), Below.refl _ _⟩
  · rw [if_neg h300] at hR
    have i0 : ¬ (300 : Int) < ((str l).size : Int) := by omega
    have cG := fun t W => gap_any (l.drop t) W (by rw [List.length_drop]; omega)
    have hcut := fun (t : Nat) (x : Int) (hx : x = (t : Int)) (h : t ≤ l.length) W => drop_str l t x hx h W
    have cF := fun t c r (h : l.drop t = c :: r) W (hW : Env W) => first_any c r W (by rw [← h, List.length_drop]; omega) hW.er hW.ml hW.sw hW.tabs
    have hstart : Hid (∃ f, l.length < f + gapR l ∧ R = cutF f l (gapR l) []) := Lib.hid ⟨l.length + 1, by omega, hR.symm⟩
    have hg0 := gap_le l
    have cG0 := fun W => cG 0 W
    rw [List.drop_zero] at cG0
    obtain ⟨n, hn⟩ : ∃ n, l.length = n := ⟨_, rfl⟩
    rw [hn] at hcut hstart hg0 hsz
    have HN := Lib.hid hn
    have HC := Lib.hid hcut
    have HG := Lib.hid cG
    have HFI := Lib.hid cF
    have HV := Lib.hid hV
    have hsI : (s : ByteArray) → Hid True := fun _ => Lib.hid trivial
    have HSZ := Lib.hid hsz
    have hn300 : n ≤ 300 := by omega
    generalize str l = s at *
    generalize gapR l = g0 at *
    have hsn : (s.size : Int) = (n : Int) := by omega
    clear hR hn hcut cG cF hV h300 hl0 hsI hsz
    go_enter Tryz.func9, Tryz.ntmps9
    go_wp2_with fail
    refine (cG0 _).mono ?_
    rintro e w1 ⟨rfl, rfl⟩
    clear cG0
    go_wp2_with fail
    go_loopw [5, 6] (fun lv av wr => ∃ (p : Nat) (acc : List Tok) (a : Option Addr) (m k : Nat), lv = .slice a m k ∧ av = .int .i64 p ∧ p ≤ n ∧ m ≤ 100 ∧ Hid (m = acc.length) ∧ Hid (OwnTk wr w.heap.size (.slice a m k) acc) ∧ Hid (∃ f, n < f + p ∧ R = cutF f l p acc) ∧ Hid (Below w.heap.size w wr)) (fun _ av _ => n - (intOf av).toNat)
    case atStart => exact ⟨g0, [], none, 0, 0, rfl, rfl, hg0, by omega, Lib.hid rfl, Lib.hid (OwnTk.nil _ _), hstart, Lib.hid (Below.refl _ _)⟩
    case round =>
      obtain ⟨p, acc, a, m, k, rfl, rfl, hp, hm, hma, hown, hcu, hbw⟩ := hrel
      clear hstart
      by_cases hlt : p < n
      · have iI : (p : Int) < (s.size : Int) := by omega
        obtain ⟨f, hf, hfe⟩ := hcu.out
        by_cases h100 : m = 100
        · have HE : Hid (R = .err p 1) := by show _ = _; rw [hfe]; exact cutF_full f l p acc (by rw [HN.out]; exact hlt) (by rw [HN.out]; exact hf) (by rw [← hma.out]; omega)
          subst h100
          clear hcu hfe hf hown HC HG HFI
          go_wp2_with fail
          go_ret3
          exact ⟨_, _, _, _, _, rfl, Lib.hid (by rw [HE.out]; exact ⟨rfl, rfl, rfl, by decide⟩), hbw.out⟩
        · have hm99 : m < 100 := by omega
          have hmI : (m : Int) < 100 := by omega
          have hmE : ((m : Int) == 100) = false := by simp; omega
          obtain ⟨k1, k2⟩ := cutF_more f l p acc (by rw [HN.out]; exact hlt) (by rw [HN.out]; exact hf) (by rw [← hma.out]; omega)
          rw [HN.out] at k2
          have q1 := HC.out p (p : Int) rfl hp
          cases hd : l.drop p with
          | nil =>
            exfalso
            have h3 : (l.drop p).length = 0 := by rw [hd]; rfl
            rw [List.length_drop, HN.out] at h3
            omega
          | cons c r =>
            have cf := HFI.out p c r hd wr (HV.out.keep hbw.out)
            rw [hd] at k1 k2 q1
            unfold ReadPost at cf
            generalize str (c :: r) = s1 at *
            generalize firstR (c :: r) = F at *
            have HK1 := Lib.hid k1
            have HK2 := Lib.hid k2
            have HFE := Lib.hid hfe
            clear hd k1 k2 hfe hf hcu h100
            go_wp2_with fail
            refine cf.mono ?_
            rintro e w3 ⟨tk, ss, ti, tb, tn, cc, rfl, hok, hb3⟩
            clear cf
            have hb03 := below_stepL hbw.out hbw.out.size hb3
            cases F with
            | err x =>
              obtain ⟨rfl, hx⟩ := hok.out
              have hx1 : (cc != 0) = true := by simpa using hx
              have HE : Hid (R = .err p cc) := by show _ = _; rw [HFE.out]; exact HK1.out cc rfl
              have HX := Lib.hid hx
              have HB := Lib.hid (hb03.alloc hb03.size (.cells #[.int .i64 tk, .string ss, .int .i64 ti, .int .u64 tb] 32))
              clear hok HK1 HK2 HFE hown hb03 hb3 hx HC HG HFI
              go_wp2_with fail
              go_ret3
              exact ⟨_, _, _, _, _, rfl, Lib.hid (by rw [HE.out]; exact ⟨rfl, rfl, rfl, HX.out⟩), HB.out⟩
            | ok t nn =>
              obtain ⟨rfl, rfl, rfl, rfl, rfl, rfl⟩ := hok.out
              obtain ⟨f', g1, g2, g3, g4⟩ := HK2.out t nn rfl
              have cg := HG.out (p + nn)
              have hle2 : p + nn ≤ n := by omega
              have q2 := HC.out (p + nn) ((p : Int) + (nn : Int)) (by omega) hle2
              have HCU : Hid (∃ f, n < f + (p + nn + gapR (l.drop (p + nn))) ∧ R = cutF f l (p + nn + gapR (l.drop (p + nn))) (acc ++ [t])) := Lib.hid ⟨f', g1, by rw [HFE.out, g2]⟩
              generalize gapR (l.drop (p + nn)) = gg at *
              generalize str (l.drop (p + nn)) = s2 at *
              obtain ⟨tk, ts, ti, tb⟩ := t
              obtain ⟨S, hS⟩ : ∃ S, str ts = S := ⟨_, rfl⟩
              have hbA : Below w3.heap.size w3 (w3.alloc (.cells #[.int .i64 tk, .string S, .int .i64 ti, .int .u64 tb] 32)) := (Below.refl _ _).alloc (Nat.le_refl _) _
              have ho4 := (hown.out.keep hb3).keep hbA
              have hb04 := below_stepL hb03 hb03.size hbA
              have hM4 := hb04.size
              have hmA := hma.out
              have wA : IntKind.i64.wrap ((p : Int) + (nn : Int)) = (p : Int) + (nn : Int) := by rw [IntKind.wrap_i64] <;> omega
              have hwB : IntKind.i64.wrap ((p : Int) + (nn : Int) + (gg : Int)) = (p : Int) + (nn : Int) + (gg : Int) := by rw [IntKind.wrap_i64] <;> omega
              have zT : Blk (w3.alloc (.cells #[.int .i64 tk, .string S, .int .i64 ti, .int .u64 tb] 32)) w3.heap.size 32 [.int .i64 tk, .string S, .int .i64 ti, .int .u64 tb] := Blk.new w3 #[.int .i64 tk, .string S, .int .i64 ti, .int .u64 tb] _
              simp only [hS]
              go_upto_region 9 with fail
              generalize w3.alloc (.cells #[.int .i64 tk, .string S, .int .i64 ti, .int .u64 tb] 32) = w4 at *
              generalize w3.heap.size = gT at *
              have p0 := zT.cell (j := 0) rfl
              have p1 := zT.cell (j := 1) rfl
              have p2 := zT.cell (j := 2) rfl
              have p3 := zT.cell (j := 3) rfl
              have HS := Lib.hid hS
              clear hok HK1 HK2 HFE hown hb03 hb3 g1 g2 zT hS hbA HC HG HFI hma
              go_wp2_with (first | (at_builtin; refine wpList_append_tok rfl (.tmp 35) (.tmp 37) rfl w.heap.size _ acc rfl ho4 ⟨tk, ts, ti, tb⟩ S HS.out.symm tk ti tb rfl rfl rfl _ rfl (by first | rfl | simp) (by omega) hM4 ?_; intro v1 w5 ho5 hb5) | fail)
              have hb45 : Below w4.heap.size w4 w4 := Below.refl _ _
              refine (cg _).mono ?_
              rintro e w6 ⟨rfl, rfl⟩
              obtain ⟨a5, m5, k5, rfl, hm5⟩ := ho5.shape
              rw [List.length_append, List.length_singleton, ← hmA] at hm5
              have hm5b : m5 ≤ 100 := by omega
              have HM5 : Hid (m5 = (acc ++ [(⟨tk, ts, ti, tb⟩ : Tok)]).length) := Lib.hid (by rw [List.length_append, List.length_singleton, ← hmA]; exact hm5)
              have HO5 := Lib.hid ho5
              have HB5 := Lib.hid (hb04.trans hb5)
              clear ho4 hb04 hb5 ho5 cg p0 p1 p2 p3 hmA hm5
              go_wp2_with fail
              go_roundw
              case rel => exact ⟨p + nn + gg, _, a5, m5, k5, rfl, by go_num, g3, hm5b, HM5, HO5, HCU, HB5⟩
              case measure => simp [intOf]; omega
      · have iI : ¬ (p : Int) < (s.size : Int) := by omega
        have HE : Hid (R = .ok acc) := by
          show _ = _
          obtain ⟨f, hf, hfe⟩ := hcu.out
          rw [hfe]; exact cutF_end f l p acc (by rw [HN.out]; omega)
        clear hcu HC HG HFI
        go_wp2_with fail
        go_ret3
        exact ⟨_, _, _, _, _, rfl, Lib.hid (by rw [HE.out]; exact ⟨hown.out, rfl, rfl⟩), hbw.out⟩
end Go.Proofs.YtlhoakpijfhljaaGreatDoor
