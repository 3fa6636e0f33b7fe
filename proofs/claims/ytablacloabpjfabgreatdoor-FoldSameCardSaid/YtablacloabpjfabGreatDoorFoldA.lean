/-
  CONTRACTS of package eval's literalOf, parts and foreseen.
  CONDITIONS: each theorem's own hypotheses.
-/
import Derived.Test.YtablacloabpjfabGreatDoorGEve
import Derived.Test.YtablacloabpjfabGreatDoorLoX
import Derived.Stop.Asserts
namespace Go.Proofs.YtablacloabpjfabGreatDoor
open Go.RowKit
set_option linter.unusedVariables false
set_option maxRecDepth 100000

theorem litV_cells (k i b : Int) (s : List UInt8) : exprV (litV ⟨k, i, b, s⟩) none 0 = .agg #[.int .i64 1, .int .i64 k, .int .i64 i, .int .u64 b, .string (str s), .string ⟨#[]⟩, .slice none 0 0] := rfl
set_option maxHeartbeats 4000000 in
theorem literalOf_any (v : Vl) (hl : v.s.length ≤ 1000000) (w : World) :
    Calls Tryz.prog 56 #[valV v] w fun e w' => e = .returned (exprV (litV v) none 0) ∧ Below w.heap.size w w' := by
  obtain ⟨k, i, b, s⟩ := v
  have cC := fun W => copied_any ⟨k, i, b, s⟩ hl W
  rw [litV_cells]
  unfold valV at cC ⊢
  simp only at cC ⊢
  generalize str s = S at *
  obtain ⟨z0, z1, hb2⟩ := two_new w #[.int .i64 k, .int .i64 i, .int .u64 b, .string S] #[.int .i64 0, .int .i64 0, .int .i64 0, .int .u64 0, .string ⟨#[]⟩, .string ⟨#[]⟩, .slice none 0 0] 24 27
  generalize hw2 : (w.alloc (.cells #[.int .i64 k, .int .i64 i, .int .u64 b, .string S] 24)).alloc (.cells #[.int .i64 0, .int .i64 0, .int .i64 0, .int .u64 0, .string ⟨#[]⟩, .string ⟨#[]⟩, .slice none 0 0] 27) = w2 at z0 z1 hb2
  obtain ⟨⟨p0, p1, p2, p3⟩, _⟩ := z0.four
  clear hl
  go_enter Tryz.func56, Tryz.ntmps56
  go_upto_region 1 with fail
  try rw [hw2]
  clear hw2
  go_wp2_with fail
  refine (cC _).mono ?_
  rintro e w3 ⟨rfl, hb3⟩
  have y1 := z1.call hb3
  have hb03 := below_stepE hb2 hb2.size hb3
  clear cC hb3 z0 z1 hb2 p0 p1 p2 p3
  obtain ⟨r0, r1, r2, r3, r4, r5, r6⟩ := y1.cells7
  have f0 := y1.free 0
  have f1 := y1.free 1
  have f2 := y1.free 2
  have f3 := y1.free 3
  have f4 := y1.free 4
  have f5 := y1.free 5
  have f6 := y1.free 6
  have hfin := fun a0 a1 a2 a3 a4 a5 a6 => below_set7 (a0 := a0) (a1 := a1) (a2 := a2) (a3 := a3) (a4 := a4) (a5 := a5) (a6 := a6) hb03 (Nat.le_succ w.heap.size)
  go_wp2_with fail
  exact bodyPost_ret (results_expr rfl _ _ (w.heap.size + 1) _ _ _ _ _ _ _ rfl y1.set7) rfl ⟨rfl, hfin _ _ _ _ _ _ _⟩
/-- What a question for the parts answers: a new row of them. -/
def PartsOk (vs : List Value) (n : Nat) (w : World) (e : Ending) (w' : World) : Prop := ∃ g, e = .returned (.slice (some ⟨g, 0, none⟩) n n) ∧ Hid (∃ T, Blk w' g T vs) ∧ Below w.heap.size w w'
set_option maxHeartbeats 4000000 in
theorem parts1_any (ty : TypeId) (rv : Value) (w : World) : Calls Tryz.prog 157 #[.agg #[.iface ty rv]] w (PartsOk [.iface ty rv] 1 w) := by
  unfold PartsOk
  obtain ⟨z0, z1, hb2⟩ := two_new w #[.iface ty rv] #[.iface ty rv] 110 83
  go_enter Tryz.func157, Tryz.ntmps157
  go_wp2_with fail
  go_ret
  exact ⟨_, rfl, Lib.hid ⟨_, z1⟩, hb2⟩
set_option maxHeartbeats 4000000 in
theorem parts2_any (ty : TypeId) (rv : Value) (ty' : TypeId) (rv' : Value) (w : World) : Calls Tryz.prog 158 #[.agg #[.iface ty rv, .iface ty' rv']] w (PartsOk [.iface ty rv, .iface ty' rv'] 2 w) := by
  unfold PartsOk
  obtain ⟨z0, z1, hb2⟩ := two_new w #[.iface ty rv, .iface ty' rv'] #[.iface ty rv, .iface ty' rv'] 113 83
  go_enter Tryz.func158, Tryz.ntmps158
  go_wp2_with fail
  go_ret
  exact ⟨_, rfl, Lib.hid ⟨_, z1⟩, hb2⟩
/-- What may be asked of an operation made ready: its parts; it is neither a literal nor a column. -/
def Operat (iv : Value) (vs : List Value) : Prop :=
  ∃ (ty : TypeId) (rv : Value) (K : FuncId), iv = .iface ty rv ∧ (∀ w : World, (nilAhead 336 ty rv "chirograph/eval.parts").run Tryz.prog w = .ok (some false) w) ∧ (∀ w : World, (method 336 ty rv "chirograph/eval.parts").run Tryz.prog w = .ok (K, rv) w) ∧
  (∀ w : World, (callFunc K #[rv]).run Tryz.prog w = .ok (.enter K #[rv]) w) ∧
  (∀ W, Calls Tryz.prog K #[rv] W (PartsOk vs vs.length W)) ∧
  (∀ W, (Instr.typeAssert (.iface ty rv) 83 97 true).run Tryz.prog W = .ok (.tuple #[.agg #[.int .i64 0, .int .i64 0, .int .u64 0, .string ⟨#[]⟩], .bool false]) W) ∧
  (∀ W, (Instr.typeAssert (.iface ty rv) 83 100 true).run Tryz.prog W = .ok (.tuple #[.agg #[.string ⟨#[]⟩], .bool false]) W) ∧
  (∀ W, (Instr.typeAssert (.iface ty rv) 83 103 true).run Tryz.prog W = .ok (.tuple #[.iface ty rv, .bool true]) W)
theorem operat_one (op : Int) (ty : TypeId) (rv : Value) (ho : op = 3 ∨ op = 4 ∨ op = 17 ∨ op = 18) : Operat (.iface (tyE op) (.agg #[.iface ty rv])) [.iface ty rv] := by
  rcases ho with rfl | rfl | rfl | rfl <;>
  exact ⟨_, _, 157, rfl, fun _ => rfl, fun _ => rfl, fun _ => rfl, fun W => parts1_any ty rv W, fun W => by kernel_rfl, fun W => by kernel_rfl, fun W => run_typeAssert_hasB Tryz.underlying103 (by kernel_rfl) _ _ W⟩
theorem operat_two (op : Int) (ty : TypeId) (rv : Value) (ty' : TypeId) (rv' : Value) (ho : op = 5 ∨ op = 6 ∨ op = 7 ∨ op = 8 ∨ op = 9 ∨ op = 10 ∨ op = 11 ∨ op = 12 ∨ op = 13 ∨ op = 14 ∨ op = 15 ∨ op = 16 ∨ op = 19 ∨ op = 20) : Operat (.iface (tyE op) (.agg #[.iface ty rv, .iface ty' rv'])) [.iface ty rv, .iface ty' rv'] := by
  rcases ho with rfl | rfl | rfl | rfl | rfl | rfl | rfl | rfl | rfl | rfl | rfl | rfl | rfl | rfl <;>
  exact ⟨_, _, 158, rfl, fun _ => rfl, fun _ => rfl, fun _ => rfl, fun W => parts2_any ty rv ty' rv' W, fun W => by kernel_rfl, fun W => by kernel_rfl, fun W => run_typeAssert_hasB Tryz.underlying103 (by kernel_rfl) _ _ W⟩
theorem operat_of (d : Nd) (l : List T) (h3 : 3 ≤ d.op) (hf : nodeF d l.length = 0) : Operat (readyV (.mk d l)) (readyL l) := by
  obtain ⟨⟨o1, o2⟩, hp, _, _⟩ := nodeF_open d _ hf
  unfold partsN at hp
  rw [if_neg (by omega)] at hp
  by_cases ho : d.op = 3 ∨ d.op = 4 ∨ d.op = 17 ∨ d.op = 18
  · rw [if_pos ho] at hp
    match l, hp with
    | [a], _ =>
      rw [ready_one d a h3]
      simp only [readyL]
      obtain ⟨ty, rv, e⟩ := ready_iface a
      rw [e]
      exact operat_one d.op ty rv ho
  · rw [if_neg ho] at hp
    match l, hp with
    | [a, b], _ =>
      rw [ready_two d a b h3]
      simp only [readyL]
      obtain ⟨ty, rv, e⟩ := ready_iface a
      obtain ⟨ty', rv', e'⟩ := ready_iface b
      rw [e, e']
      exact operat_two d.op ty rv ty' rv' (by omega)
theorem readyL_length : ∀ l : List T, (readyL l).length = l.length
  | [] => by simp [readyL]
  | t :: l => by simp only [readyL, List.length_cons]; rw [readyL_length l]
theorem readyL_at : ∀ (l : List T) (j : Nat) (t : T), l[j]? = some t → (readyL l)[j]? = some (readyV t)
  | [], j, t, h => by simp at h
  | u :: l, 0, t, h => by simp at h; subst h; simp [readyL]
  | u :: l, j + 1, t, h => by simp only [readyL, List.getElem?_cons_succ]; exact readyL_at l j t (by simpa using h)
/-- Whether a part is a literal. -/
theorem lit_assert (t : T) (hf : formT t = 0) : ∃ (ty : TypeId) (rv : Value) (a b c : Int) (s : ByteArray), readyV t = .iface ty rv ∧ ∀ W, (Instr.typeAssert (.iface ty rv) 83 97 true).run Tryz.prog W = .ok (.tuple #[.agg #[.int .i64 a, .int .i64 b, .int .u64 c, .string s], .bool (t.nd.op == 1)]) W := by
  obtain ⟨d, l⟩ := t
  obtain ⟨hn, _⟩ := formT_open d l hf
  obtain ⟨⟨o1, o2⟩, _⟩ := nodeF_open d _ hn
  by_cases h1 : d.op = 1
  · have e : ((T.mk d l).nd.op == 1) = true := by show (d.op == 1) = true; simp [h1]
    rw [e]
    exact ⟨_, _, d.k, d.i, d.b, str d.t, ready_lit d l h1, fun W => by kernel_rfl⟩
  · have e : ((T.mk d l).nd.op == 1) = false := by show (d.op == 1) = false; simpa using h1
    rw [e]
    by_cases h2 : d.op = 2
    · exact ⟨_, _, 0, 0, 0, ⟨#[]⟩, ready_col d l h2, fun W => by kernel_rfl⟩
    · obtain ⟨ty, rv, K, e1, _, _, _, _, e2, _⟩ := operat_of d l (by omega) hn
      exact ⟨ty, rv, 0, 0, 0, ⟨#[]⟩, e1, e2⟩
theorem lits_true {l : List T} (h : ∀ (j : Nat) (t : T), l[j]? = some t → t.nd.op = 1) : litsL l = true := by
  unfold litsL
  rw [List.all_eq_true]
  intro t ht
  obtain ⟨j, hj⟩ := List.getElem?_of_mem ht
  simp [h j t hj]
theorem lits_false {l : List T} {j : Nat} {t : T} (ht : l[j]? = some t) (h : (t.nd.op == 1) = false) : litsL l = false := by
  cases hc : litsL l with
  | false => rfl
  | true =>
    unfold litsL at hc
    rw [List.all_eq_true] at hc
    have := hc t (List.mem_of_getElem? ht)
    rw [h] at this; cases this
def foreR (l : List T) (R : RE) : Value := .tuple #[valV (if litsL l = true then R.v else nulV), .bool (litsL l && ((R.f == 0) && decide (0 ≤ R.v.i)))]
set_option maxHeartbeats 8000000 in
theorem foreseen_any (iv : Value) (l : List T) (R : RE) (w : World) (hO : Operat iv (readyL l)) (hl : ∀ t ∈ l, formT t = 0) (hl2 : l.length ≤ 1000) (hS : Says w (.slice none 0 0) (.slice none 0 0) iv R) (hR : OkR R) :
    Calls Tryz.prog 58 #[iv] w fun e w' => e = .returned (foreR l R) ∧ Below w.heap.size w w' := by
  obtain ⟨ty, rv, K, rfl, n1, n2, n3, nC, _⟩ := hO
  obtain ⟨ty', rv', K', e', s1, s2, s3, sC⟩ := hS
  obtain ⟨rfl, rfl⟩ : ty' = ty ∧ rv' = rv := by simp at e'; exact ⟨e'.1.symm, e'.2.symm⟩
  rw [readyL_length] at nC
  unfold PartsOk at nC
  have hat : ∀ (j : Nat) (t : T), l[j]? = some t → (readyL l)[j]? = some (readyV t) ∧ formT t = 0 := fun j t h => ⟨readyL_at l j t h, hl t (List.mem_of_getElem? h)⟩
  have hlt : (∀ (j : Nat) (t : T), l[j]? = some t → t.nd.op = 1) → foreR l R = .tuple #[valV R.v, .bool ((R.f == 0) && decide (0 ≤ R.v.i))] := fun h => by
    unfold foreR; rw [lits_true h]; simp
  have hlf : ∀ (j : Nat) (t : T), l[j]? = some t → (t.nd.op == 1) = false → foreR l R = .tuple #[.agg #[.int .i64 0, .int .i64 0, .int .u64 0, .string ⟨#[]⟩], .bool false] := fun j t h1 h2 => by
    unfold foreR; rw [lits_false h1 h2]; rfl
  obtain ⟨n, hn⟩ : ∃ n, l.length = n := ⟨_, rfl⟩
  have hget : ∀ j, j < n → ∃ t, l[j]? = some t := fun j hj => ⟨l[j]'(by omega), List.getElem?_eq_getElem (by omega)⟩
  have hlen : ∀ (j : Nat) (t : T), l[j]? = some t → j < n := fun j t h => by have := (List.getElem?_eq_some_iff.1 h).1; omega
  rw [hn] at nC hl2
  generalize readyL l = vs at *
  generalize foreR l R = RR at *
  have HAT := Lib.hid hat
  have HLT := Lib.hid hlt
  have HLF := Lib.hid hlf
  have HGET := Lib.hid hget
  have HLEN := Lib.hid hlen
  have HNC := Lib.hid nC
  have HSC := Lib.hid sC
  have hz := Blk.new w #[.int .i64 0, .int .i64 0, .int .u64 0, .string ⟨#[]⟩] 24
  have hb1 := (Below.refl w.heap.size w).alloc (Nat.le_refl _) (.cells #[.int .i64 0, .int .i64 0, .int .u64 0, .string ⟨#[]⟩] 24)
  generalize hw1 : w.alloc (.cells #[.int .i64 0, .int .i64 0, .int .u64 0, .string ⟨#[]⟩] 24) = w1 at hz hb1
  have HRE := Lib.hid (And.intro hR.bad (And.intro hR.f0 hR.f1))
  obtain ⟨⟨rk, ri, rb, rs⟩, rf⟩ := R
  unfold valV at HSC HLT
  simp only at HSC HLT
  obtain ⟨RS, hRS⟩ : ∃ RS, str rs = RS := ⟨_, rfl⟩
  simp only [hRS] at HSC HLT
  clear hat hlt hlf hget hlen nC sC hl hn e' hR hRS HRE
  go_enter Tryz.func58, Tryz.ntmps58
  go_upto_region 1 with fail
  try rw [hw1]
  clear hw1
  go_wp2_with fail
  refine (HNC.out _).mono ?_
  rintro e w2 ⟨gp, rfl, ⟨TP, hzp0⟩, hb2⟩
  have hzp := Lib.hid hzp0
  clear hzp0
  have y0 := hz.call hb2
  have hb02 := below_stepE hb1 hb1.size hb2
  clear hz hb1 hb2 HNC n1 n2 n3
  go_wp2_with fail
  go_loopw [12] (fun i wr => ∃ (j : Nat), j ≤ n ∧ i = .int .i64 j ∧ Hid (∀ (q : Nat) (t : T), l[q]? = some t → q < j → t.nd.op = 1) ∧ Hid (Blk wr w.heap.size 24 [.int .i64 0, .int .i64 0, .int .u64 0, .string ⟨#[]⟩]) ∧ Hid (Blk wr gp TP vs) ∧ Hid (Below w.heap.size w wr)) (fun i _ => n - (intOf i).toNat)
  case atStart => exact ⟨0, Nat.zero_le _, rfl, Lib.hid (fun q t _ h => absurd h (Nat.not_lt_zero q)), Lib.hid y0, hzp, Lib.hid hb02⟩
  case round =>
    obtain ⟨j, hj, rfl, hdone, hz0, hzv, hbw⟩ := hrel
    clear y0 hb02 hzp
    by_cases hlt : j < n
    · have iI : (j : Int) < (n : Int) := by omega
      obtain ⟨t, htj⟩ := HGET.out j hlt
      obtain ⟨hvj, hft⟩ := HAT.out j t htj
      obtain ⟨ty2, rv2, a, b, c, s, hrd, hasr⟩ := lit_assert t hft
      rw [hrd] at hvj
      have p0 := hzv.out.cell hvj
      have hgl := hzv.out.lt
      have HTJ := Lib.hid htj
      obtain ⟨q, hq⟩ : ∃ q, (t.nd.op == 1) = q := ⟨_, rfl⟩
      rw [hq] at hasr
      have HQ := Lib.hid hq
      have yb := hbw.out.alloc hbw.out.size (.cells #[.int .i64 a, .int .i64 b, .int .u64 c, .string s] 97)
      have y0 := hz0.out.alloc (.cells #[.int .i64 a, .int .i64 b, .int .u64 c, .string s] 97)
      have yv := hzv.out.alloc (.cells #[.int .i64 a, .int .i64 b, .int .u64 c, .string s] 97)
      clear hvj hft hrd htj hq
      cases q
      · have hR := HLF.out j t HTJ.out HQ.out
        go_upto_region 5 with fail
        generalize hwa : wr.alloc (.cells #[.int .i64 a, .int .i64 b, .int .u64 c, .string s] 97) = wa at *
        clear hwa p0 hasr hz0 hzv hbw
        obtain ⟨⟨r0, r1, r2, r3⟩, f0, f1, f2, f3⟩ := y0.four
        have hfin := fun a b c d => below_set4 (a := a) (b := b) (c := c) (d := d) yb (Nat.le_refl _)
        go_wp2_with fail
        exact bodyPost_ret (results_val rfl _ _ w.heap.size _ _ _ _ rfl y0.set4) rfl ⟨by rw [hR]; rfl, hfin _ _ _ _⟩
      · have hd2 : ∀ (q : Nat) (t : T), l[q]? = some t → q < j + 1 → t.nd.op = 1 := fun q u hu hqj => by
          by_cases e : q = j
          · subst e
            have := HTJ.out
            rw [this] at hu
            obtain rfl := Option.some.inj hu
            simpa using HQ.out
          · exact hdone.out q u hu (by omega)
        have HD2 := Lib.hid hd2
        clear hd2 hdone
        go_upto_region 5 with fail
        generalize hwa : wr.alloc (.cells #[.int .i64 a, .int .i64 b, .int .u64 c, .string s] 97) = wa at *
        clear hwa p0 hasr hz0 hzv hbw
        have Y0 := Lib.hid y0
        have YV := Lib.hid yv
        have YB := Lib.hid yb
        clear y0 yv yb
        go_wp2_with fail
        go_roundw
        case rel => exact ⟨j + 1, by omega, by go_num, HD2, Y0, YV, YB⟩
        case measure => simp [intOf]; omega
    · have iI : ¬ (j : Int) < (n : Int) := by omega
      have hR := HLT.out (fun q t hq => hdone.out q t hq (by have := HLEN.out q t hq; omega))
      have cS := HSC.out wr hbw.out
      have HR := Lib.hid hR
      clear hR hdone HSC HLT HLF
      go_wp2_with fail
      refine cS.mono ?_
      rintro e w5 ⟨rfl, hb5⟩
      have y5 := hz0.out.call hb5
      have hb05 := below_stepE hbw.out hbw.out.size hb5
      clear cS hb5 hz0 hzv hbw
      have y6 := y5.set4 (a := .int .i64 rk) (b := .int .i64 ri) (c := .int .u64 rb) (d := .string RS)
      have hb06 := below_set4 (a := .int .i64 rk) (b := .int .i64 ri) (c := .int .u64 rb) (d := .string RS) hb05 (Nat.le_refl _)
      obtain ⟨⟨r0, r1, r2, r3⟩, f0, f1, f2, f3⟩ := y5.four
      go_upto_region 9 with fail
      generalize hw6 : (((w5.setCell ⟨w.heap.size, 0, none⟩ (.int .i64 rk)).setCell ⟨w.heap.size, 1, none⟩ (.int .i64 ri)).setCell ⟨w.heap.size, 2, none⟩ (.int .u64 rb)).setCell ⟨w.heap.size, 3, none⟩ (.string RS) = w6 at *
      clear hw6 r0 r1 r2 r3 f0 f1 f2 f3 y5 hb05
      obtain ⟨⟨r0, r1, r2, r3⟩, f0, f1, f2, f3⟩ := y6.four
      have hfin := fun a b c d => below_set4 (a := a) (b := b) (c := c) (d := d) hb06 (Nat.le_refl _)
      by_cases h0 : rf = 0
      · have b0 : (rf == 0) = true := by simpa using h0
        rw [b0, Bool.true_and] at HR
        go_wp2_with fail
        exact bodyPost_ret (results_val rfl _ _ w.heap.size _ _ _ _ rfl y6.set4) rfl ⟨by rw [HR.out]; rfl, hfin _ _ _ _⟩
      · have b0 : (rf == 0) = false := by simpa using h0
        rw [b0, Bool.false_and] at HR
        go_wp2_with fail
        exact bodyPost_ret (results_val rfl _ _ w.heap.size _ _ _ _ rfl y6.set4) rfl ⟨by rw [HR.out]; rfl, hfin _ _ _ _⟩
end Go.Proofs.YtablacloabpjfabGreatDoor
