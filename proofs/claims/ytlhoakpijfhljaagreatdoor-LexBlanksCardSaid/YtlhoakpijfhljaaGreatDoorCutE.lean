/-
  CONTRACTS of package lex's inQuote and readQuote.
  CONDITIONS: each theorem's own hypotheses; package bytealg's MaxLen holds some number ('MaxL').
-/
import Derived.Test.YtlhoakpijfhljaaGreatDoorCutC
import Derived.Test.YtlhoakpijfhljaaGreatDoorShelfR
import Derived.Laws.RangeString
import Derived.Laws.RangeAny
import Derived.Laws.Runes
import Derived.BigQuiet
namespace Go.Proofs.YtlhoakpijfhljaaGreatDoor
open Go.RowKit
set_option linter.unusedVariables false
set_option maxRecDepth 1000000

/-- Package bytealg's variable MaxLen holds some number. -/
def MaxL (w : World) : Prop := ∃ m, w.cell? ⟨Tryz.laysRep_ren.g 1, 0, none⟩ = some (.int .i64 m)
theorem MaxL.keep {w w1 : World} (h : MaxL w) (hb : Below w.heap.size w w1) : MaxL w1 := by
  obtain ⟨m, hm⟩ := h
  exact ⟨m, (hb.cell (p := ⟨Tryz.laysRep_ren.g 1, 0, none⟩) (World.block_lt_of_cell? _ _ hm)).trans hm⟩
theorem repX : Builder.Extra Tryz.prog Tryz.laysRep_ren := {
  sizeBuilder := by kernel_rfl
  liesBuilder := by kernel_rfl
  t5 := Tryz.underlying5
  a5 := Tryz.isAgg5
  z5 := Tryz.sizeOf5
  v5 := Tryz.zeroValue5
  infoByte := by kernel_rfl
  cellsByte := by kernel_rfl
  sizeByte := by kernel_rfl
  neB5 := by decide }
theorem unquote_any (l : List UInt8) (w : World) (hl : l.length ≤ 1000000) (hM : MaxL w) :
    Calls Tryz.prog 63 #[.string (str l), .string (str [39, 39]), .string (str [39])] w fun e w' => e = .returned (.string (str (unQ l))) ∧ Below w.heap.size w w' := by
  obtain ⟨m, hm⟩ := hM
  have hcb : Lib.countB (str l) (str [39, 39]) ≤ l.length := by
    have := Lib.countB_mul_le (str [39, 39]) (by simp [str_size]) (str l).size (str l) (Nat.le_refl _)
    rw [str_size, str_size] at this
    simp at this
    omega
  have h := Any.strings_ReplaceAll { Tryz.laysRep with } repX (str l) (str [39, 39]) (str [39]) m w (by rw [str_size]; omega) hm (by simp [str_size]) (by rw [str_size, str_size]; simp only [List.length_cons, List.length_nil]; omega)
  refine h.mono ?_
  rintro e w' ⟨rfl, hb⟩
  refine ⟨?_, hb⟩
  rw [str_data, str_data, str_data, replaceAll_unQ]
  rfl
theorem below_iter (w : World) (s : ByteArray) (p : Nat) : Below w.heap.size w (w.iter s p) := (Below.refl _ _).alloc (Nat.le_refl _) _
/-- What a rune at a place tells. -/
theorem rune_at (l : List UInt8) (pos : Nat) (h : pos < l.length) : 1 ≤ (Utf8.decode (str l) pos).2 ∧ pos + (Utf8.decode (str l) pos).2 ≤ l.length ∧ (l[pos] = 39 → Utf8.decode (str l) pos = (39, 1)) ∧ (l[pos] ≠ 39 → (Utf8.decode (str l) pos).1 ≠ 39 ∧ ∀ p, endQ (l.drop pos) p = endQ (l.drop (pos + (Utf8.decode (str l) pos).2)) (p + (Utf8.decode (str l) pos).2)) := by
  have e := Lib.decodeL_drop (str l) pos
  rw [str_data] at e
  rw [← e]
  have hw := Lib.decodeL_width (l.drop pos)
  have hle := Lib.decodeL_le (l.drop pos) (by rw [← List.length_pos_iff, List.length_drop]; omega)
  rw [List.length_drop] at hle
  have hd := List.drop_eq_getElem_cons h
  obtain ⟨f1, f2⟩ := dec_facts l[pos] (l.drop (pos + 1))
  rw [← hd] at f1 f2
  refine ⟨hw, by omega, f1, fun hc => ⟨(f2 hc).1, fun p => ?_⟩⟩
  rw [endQ_skip _ _ p (by rw [List.length_drop]; omega) (f2 hc).2, List.drop_drop]
/-- Where the loop stands. -/
def QSt (l : List UInt8) (E : Option Nat) (pos e : Nat) : Prop := (pos = 0 ∧ e = 0) ∨ (1 ≤ pos ∧ e = 0 ∧ E = endQ (l.drop pos) pos) ∨ (1 ≤ e ∧ pos = e + 1 ∧ l[e]? = some 39 ∧ E = endQ (l.drop e) e)
theorem lone_mark {l : List UInt8} {e : Nat} (h : l[e]? = some 39) (h2 : ∀ x, l[e + 1]? = some x → x ≠ 39) : endQ (l.drop e) e = some e := by
  obtain ⟨he, hx⟩ := List.getElem?_eq_some_iff.1 h
  rw [List.drop_eq_getElem_cons he, hx]
  refine endQ_lone _ _ (fun hh => ?_)
  have : (l.drop (e + 1))[0]? = some 39 := by rw [← List.head?_eq_getElem?]; exact hh
  rw [List.getElem?_drop] at this
  exact h2 39 this rfl
theorem pair_mark {l : List UInt8} {e : Nat} (h : l[e]? = some 39) (h2 : l[e + 1]? = some 39) : endQ (l.drop e) e = endQ (l.drop (e + 2)) (e + 2) := by
  obtain ⟨he, hx⟩ := List.getElem?_eq_some_iff.1 h
  obtain ⟨he2, hx2⟩ := List.getElem?_eq_some_iff.1 h2
  rw [List.drop_eq_getElem_cons he, hx, List.drop_eq_getElem_cons he2, hx2, endQ_pair]
def QOk (l : List UInt8) (E : Option Nat) (s : ByteArray) (b : Bool) : Prop := match E with
  | none => b = false
  | some p => b = true ∧ s = str ((l.drop 1).take (p - 1)) ∧ p < l.length
def QOut (l : List UInt8) (E : Option Nat) (w : World) (e : Ending) (w' : World) : Prop := ∃ s b, e = .returned (.tuple #[.string s, .bool b]) ∧ Hid (QOk l E s b) ∧ Below w.heap.size w w'
set_option maxHeartbeats 8000000 in
theorem inQuote_any (l : List UInt8) (w : World) (hl : l.length ≤ 1000000) (h0 : l[0]? = some 39) :
    Calls Tryz.prog 62 #[.string (str l)] w (QOut l (endQ (l.drop 1) 1) w) := by
  obtain ⟨E, hE⟩ : ∃ E, endQ (l.drop 1) 1 = E := ⟨_, rfl⟩
  rw [hE]
  have hEp : ∀ p, E = some p → p < l.length ∧ 1 ≤ p := fun p hp => by
    rw [hp] at hE
    have := endQ_ge _ _ _ _ (Nat.le_refl _) hE
    rw [List.length_drop] at this
    omega
  have hru := rune_at l
  have hcut := fun (p : Nat) (y : Int) (hy : y = (p : Int)) (h1 : 1 ≤ p) (h : p ≤ l.length) W => cut_str l 1 p 1 y rfl hy h1 h W
  have hnx := fun (pos : Nat) (h : pos < (str l).size) ty => run_next_any (P := Tryz.prog) w (str l) pos ty h
  have hnx2 := fun (pos : Nat) (h : ¬ pos < (str l).size) ty => run_next_end (P := Tryz.prog) w (str l) pos ty h
  have hsz := str_size l
  have hQ0 : Hid (QSt l E 0 0) := Lib.hid (.inl ⟨rfl, rfl⟩)
  have h1 : Hid (∀ p, QSt l E p 0 → 1 ≤ p ∨ p = 0) := Lib.hid (fun p _ => by omega)
  have HE := Lib.hid hE
  have HP := Lib.hid hEp
  have H0 := Lib.hid h0
  obtain ⟨n, hn⟩ : ∃ n, l.length = n := ⟨_, rfl⟩
  rw [hn] at hsz hl hcut
  have HN := Lib.hid hn
  obtain ⟨s, hs⟩ : ∃ s, str l = s := ⟨_, rfl⟩
  rw [hs] at hsz hcut hnx hnx2 hru ⊢
  have HRU := Lib.hid hru
  have HC := Lib.hid hcut
  have HX := Lib.hid hnx
  have HX2 := Lib.hid hnx2
  have HSZ := Lib.hid hsz
  unfold QOut
  clear hE hEp h0 hn hs hru hcut hnx hnx2 hsz h1
  go_enter Tryz.func62, Tryz.ntmps62
  go_wp2
  go_loopw [4] (fun o wr => ∃ pos e : Nat, wr = w.iter s pos ∧ o = .int .i64 e ∧ pos ≤ n ∧ e ≤ n ∧ Hid (QSt l E pos e)) (fun _ wr => n - wr.iterPos w.heap.size)
  case atStart => exact ⟨0, 0, rfl, rfl, Nat.zero_le _, Nat.zero_le _, hQ0⟩
  case round =>
    obtain ⟨pos, e, rfl, rfl, hpn, hen, hq⟩ := hrel
    clear hQ0
    by_cases hlt : pos < n
    · have hps : pos < s.size := by rw [HSZ.out]; exact hlt
      have hpl : pos < l.length := by rw [HN.out]; exact hlt
      have hnx := HX.out pos hps
      obtain ⟨d1, d2, f1, f2⟩ := HRU.out pos hpl
      rw [HN.out] at d2
      have hget : l[pos]? = some l[pos] := List.getElem?_eq_getElem hpl
      rcases hq.out with ⟨rfl, rfl⟩ | ⟨g1, rfl, g2⟩ | ⟨g1, rfl, g2, g3⟩
      · -- the mark that begins it
        have hx : l[0] = 39 := by have := H0.out; rw [hget] at this; exact Option.some.inj this
        rw [f1 hx] at hnx
        have HQ : Hid (QSt l E 1 0) := Lib.hid (.inr (.inl ⟨by omega, rfl, HE.out.symm⟩))
        clear f1 f2 d1 d2 hget hx HE hq hps hpl
        go_wp2
        go_roundw
        case rel => exact ⟨1, 0, rfl, by first | rfl | trivial, hlt, by omega, HQ⟩
        case measure => simp; omega
      · by_cases hx : l[pos] = 39
        · rw [f1 hx] at hnx
          have hp0 : ((pos : Int) == 0) = false := by simp; omega
          have HQ : Hid (QSt l E (pos + 1) pos) := Lib.hid (.inr (.inr ⟨g1, rfl, by rw [hget, hx], g2⟩))
          clear f1 f2 d1 d2 hget hx HE hq hps hpl
          go_wp2
          go_roundw
          case rel => exact ⟨pos + 1, pos, rfl, by first | rfl | trivial, hlt, by omega, HQ⟩
          case measure => simp; omega
        · obtain ⟨k1, k2⟩ := f2 hx
          have hp0 : ((pos : Int) == 0) = false := by simp; omega
          generalize (Utf8.decode s pos).1 = r at *
          generalize (Utf8.decode s pos).2 = d at *
          have kr : (((r : Nat) : Int) == 39) = false := by simp; omega
          have HQ : Hid (QSt l E (pos + d) 0) := Lib.hid (.inr (.inl ⟨by omega, rfl, by rw [g2, k2 pos]⟩))
          clear f1 f2 hget hx HE hq hps hpl k1 k2
          go_wp2
          go_roundw
          case rel => exact ⟨pos + d, 0, rfl, by first | rfl | trivial, by omega, by omega, HQ⟩
          case measure => simp; omega
      · have hp0 : (((e + 1 : Nat) : Int) == 0) = false := by simp; omega
        have he0 : ((e : Int) == 0) = false := by simp; omega
        have hei : (0 : Int) < (e : Int) := by omega
        by_cases hx : l[e + 1] = 39
        · rw [f1 hx] at hnx
          have HQ : Hid (QSt l E (e + 2) 0) := Lib.hid (.inr (.inl ⟨by omega, rfl, by rw [g3, pair_mark g2 (by rw [hget, hx])]⟩))
          clear f1 f2 d1 d2 hget hx HE hq hps hpl
          go_wp2
          go_roundw
          case rel => exact ⟨e + 2, 0, rfl, by first | rfl | trivial, by omega, by omega, HQ⟩
          case measure => simp; omega
        · obtain ⟨k1, k2⟩ := f2 hx
          generalize (Utf8.decode s (e + 1)).1 = r at *
          generalize (Utf8.decode s (e + 1)).2 = d at *
          have kr : (((r : Nat) : Int) == 39) = false := by simp; omega
          have hEE : E = some e := by rw [g3]; exact lone_mark g2 (fun x hx2 => by rw [hget] at hx2; cases hx2; exact hx)
          have q1 := HC.out e (e : Int) rfl g1 (by omega)
          have hel := (HP.out e hEE).1
          have HEE := Lib.hid hEE
          obtain ⟨I, hI⟩ : ∃ I, str ((l.drop 1).take (e - 1)) = I := ⟨_, rfl⟩
          rw [hI] at q1
          have HI := Lib.hid hI
          clear hEE hI
          clear f1 f2 hget hx HE hq hps hpl k1 k2
          go_wp2
          go_ret2
          exact ⟨_, _, rfl, Lib.hid (show QOk l E _ _ by rw [HEE.out]; exact ⟨rfl, HI.out.symm, hel⟩), below_iter w s _⟩
    · have hps : ¬ pos < s.size := by rw [HSZ.out]; exact hlt
      have hnx := HX2.out pos hps
      rcases hq.out with ⟨rfl, rfl⟩ | ⟨g1, rfl, g2⟩ | ⟨g1, rfl, g2, g3⟩
      · exfalso
        have := H0.out
        rw [List.getElem?_eq_none (by rw [HN.out]; omega)] at this
        cases this
      · have hEE : E = none := by rw [g2, List.drop_of_length_le (by rw [HN.out]; omega), endQ_nil]
        have HEE := Lib.hid hEE
        clear HE hq hps hEE
        go_wp2
        go_ret2
        exact ⟨_, _, rfl, Lib.hid (show QOk l E _ _ by rw [HEE.out]; rfl), below_iter w s _⟩
      · have he0 : ((e : Int) == 0) = false := by simp; omega
        have hEE : E = some e := by rw [g3]; exact lone_mark g2 (fun x hx2 => by rw [List.getElem?_eq_none (by rw [HN.out]; omega)] at hx2; cases hx2)
        have q1 := HC.out e (e : Int) rfl g1 (by omega)
        have hel := (HP.out e hEE).1
        have HEE := Lib.hid hEE
        obtain ⟨I, hI⟩ : ∃ I, str ((l.drop 1).take (e - 1)) = I := ⟨_, rfl⟩
        rw [hI] at q1
        have HI := Lib.hid hI
        clear hEE hI
        clear HE hq hps
        go_wp2
        go_ret2
        exact ⟨_, _, rfl, Lib.hid (show QOk l E _ _ by rw [HEE.out]; exact ⟨rfl, HI.out.symm, hel⟩), below_iter w s _⟩
def quoteP (l : List UInt8) : TR := match endQ (l.drop 1) 1 with
  | none => .err 4
  | some p => .ok ⟨4, unQ ((l.drop 1).take (p - 1)), 0, 0⟩ (p + 1)
set_option maxHeartbeats 4000000 in
theorem readQuote_any (l : List UInt8) (w : World) (hl : l.length ≤ 1000000) (h0 : l[0]? = some 39) (hM : MaxL w) :
    Calls Tryz.prog 51 #[.string (str l)] w (ReadPost (quoteP l) w) := by
  have cQ := fun W => inQuote_any l W hl h0
  obtain ⟨R, hR⟩ : ∃ R, quoteP l = R := ⟨_, rfl⟩
  rw [hR]
  unfold quoteP at hR
  have hge : ∀ p, endQ (l.drop 1) 1 = some p → 1 ≤ p := fun p h => (endQ_ge _ _ _ _ (Nat.le_refl _) h).1
  unfold QOut at cQ
  generalize endQ (l.drop 1) 1 = E at *
  have HR := Lib.hid hR
  have cU := fun p W hM => unquote_any ((l.drop 1).take p) W (by rw [List.length_take, List.length_drop]; omega) hM
  have hlen : ∀ p, p < l.length → 1 ≤ p → (str ((l.drop 1).take (p - 1))).size = p - 1 := fun p h1 h2 => by rw [str_size, List.length_take, List.length_drop]; omega
  have HL := Lib.hid hlen
  have HG := Lib.hid hge
  have CU := Lib.hid cU
  have hlI : (l.length : Int) ≤ 1000000 := by omega
  unfold ReadPost
  generalize str l = s at *
  obtain ⟨w2, hw2⟩ : ∃ w2, w.alloc (.cells #[.int .i64 0, .string ⟨#[]⟩, .int .i64 0, .int .u64 0] 32) = w2 := ⟨_, rfl⟩
  have hb2 : Below w.heap.size w w2 := by rw [← hw2]; exact (Below.refl _ _).alloc (Nat.le_refl _) _
  have z2 : Blk w2 w.heap.size 32 [.int .i64 0, .string ⟨#[]⟩, .int .i64 0, .int .u64 0] := by rw [← hw2]; exact Blk.new w #[.int .i64 0, .string ⟨#[]⟩, .int .i64 0, .int .u64 0] _
  have hM2 := hM.keep hb2
  clear hR hge cU hlen h0 hM
  go_enter Tryz.func51, Tryz.ntmps51
  go_upto_region 1 with fail
  try rw [hw2]
  clear hw2
  go_wp2_with fail
  refine (cQ _).mono ?_
  rintro e w3 ⟨ins, bb, rfl, hq, hb3⟩
  have z3 := z2.call hb3
  have hb03 := below_stepL hb2 hb2.size hb3
  have hM3 := hM2.keep hb3
  clear cQ hM2 hb2 z2
  cases E with
  | none =>
    obtain rfl := hq.out
    have HRR : Hid (R = .err 4) := HR.out.symm
    have c0 := z3.cell (j := 0) rfl
    have c1 := z3.cell (j := 1) rfl
    have c2 := z3.cell (j := 2) rfl
    have c3 := z3.cell (j := 3) rfl
    have y0 := z3.free 0
    have y1 := z3.free 1
    have y2 := z3.free 2
    have y3 := z3.free 3
    have hE := Lib.hid (below_set4 (a := .int .i64 0) (b := .string ⟨#[]⟩) (c := .int .i64 0) (d := .int .u64 0) hb03 (Nat.le_refl _))
    clear HR hq hb3 hb03
    go_wp2_with fail
    refine bodyPost_ret (results_tok rfl _ _ w.heap.size _ _ _ _ rfl z3.set4) rfl ⟨_, _, _, _, _, _, rfl, ?_, hE.out⟩
    rw [HRR.out]; exact Lib.hid ⟨rfl, by decide⟩
  | some p =>
    obtain ⟨rfl, rfl, hpl⟩ := hq.out
    have hp1 := HG.out p rfl
    have hs1 := HL.out p hpl hp1
    have cu := CU.out (p - 1) w3 hM3
    have HRR : Hid (R = .ok ⟨4, unQ ((l.drop 1).take (p - 1)), 0, 0⟩ (p + 1)) := HR.out.symm
    generalize unQ ((l.drop 1).take (p - 1)) = U at *
    obtain ⟨I, hI⟩ : ∃ I, str ((l.drop 1).take (p - 1)) = I := ⟨_, rfl⟩
    rw [hI] at hs1 cu ⊢
    have hIs : (I.size : Int) ≤ 1000000 := by omega
    have hnn : Hid ((I.size : Int) + 2 = ((p + 1 : Nat) : Int)) := Lib.hid (by omega)
    clear HR hq hI HL HG CU hs1 hpl hp1
    go_wp2_with fail
    refine cu.mono ?_
    rintro e w4 ⟨rfl, hb4⟩
    have z4 := z3.call hb4
    have c0 := z4.cell (j := 0) rfl
    have c1 := z4.cell (j := 1) rfl
    have c2 := z4.cell (j := 2) rfl
    have c3 := z4.cell (j := 3) rfl
    have y0 := z4.free 0
    have y1 := z4.free 1
    have y2 := z4.free 2
    have y3 := z4.free 3
    have hb04 := below_stepL hb03 hb03.size hb4
    have hE := Lib.hid (below_set4 (a := .int .i64 4) (b := .string (str U)) (c := .int .i64 0) (d := .int .u64 0) hb04 (Nat.le_refl _))
    clear cu hb3 hb03 hb4 hb04 z3
    go_wp2_with fail
    refine bodyPost_ret (results_tok rfl _ _ w.heap.size _ _ _ _ rfl z4.set4) rfl ⟨_, _, _, _, _, _, rfl, ?_, hE.out⟩
    rw [HRR.out]; exact Lib.hid ⟨rfl, rfl, rfl, rfl, by rw [← hnn.out], rfl⟩
end Go.Proofs.YtlhoakpijfhljaaGreatDoor
