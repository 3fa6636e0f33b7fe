/-
  CONTRACTS of the reference's litNumber and ands.
  CONDITIONS: each theorem's own hypotheses.
-/
import Derived.Test.YtablacloabpjfabDoorGSpan
import Derived.Test.YtablacloabpjfabDoorExprI
import Derived.Test.YtablacloabpjfabDoorGRegE
namespace Go.Proofs.YtablacloabpjfabDoor
open Go.RowKit
set_option linter.unusedVariables false
set_option maxRecDepth 100000

/-- What litNumber says of a node. -/
def LitAt (minus : Bool) (q : Int × Bool) : Value := .tuple #[.int .i64 (if minus = true then 0 - q.1 else q.1), .bool q.2]
set_option maxHeartbeats 8000000 in
theorem litNumber_plain (t : T) (ao : Option Addr) (cap : Nat) (w : World) (h3 : t.nd.op ≠ 3) :
    Calls Tryd.prog 10 #[exprV t ao cap] w fun e w' => e = .returned (.tuple #[.int .i64 (litN t).1, .bool (litN t).2]) ∧ Below w.heap.size w w' := by
  unfold litN
  rw [exprV_cells]
  generalize t.kids.length = L at *
  generalize t.nd = nd at *
  obtain ⟨op, k, i, b, s, nm⟩ := nd
  simp only at *
  generalize str s = S at *
  generalize str nm = N at *
  have b3 : (op == 3) = false := by simpa using h3
  clear h3
  by_cases h1 : op = 1
  · subst h1
    by_cases h2 : k = 2
    · subst h2
      rw [if_pos ⟨rfl, rfl⟩]
      go_enter Tryd.func10, Tryd.ntmps10
      go_wp2_with fail
      go_ret2
      exact ⟨rfl, (Below.refl _ _).alloc (Nat.le_refl _) _⟩
    · rw [if_neg (by simp [h2])]
      have b1 : (k != 2) = true := by simpa using h2
      clear h2
      go_enter Tryd.func10, Tryd.ntmps10
      go_wp2_with fail
      go_ret2
      exact ⟨rfl, (Below.refl _ _).alloc (Nat.le_refl _) _⟩
  · rw [if_neg (by simp [h1])]
    have b1 : (op != 1) = true := by simpa using h1
    clear h1
    go_enter Tryd.func10, Tryd.ntmps10
    go_wp2_with fail
    go_ret2
    exact ⟨rfl, (Below.refl _ _).alloc (Nat.le_refl _) _⟩
set_option maxHeartbeats 16000000 in
theorem litNumber_any (t : T) (ao : Option Addr) (cap : Nat) (w : World) (hA : AtT w t ao) (hf : formT t = 0) :
    Calls Tryd.prog 10 #[exprV t ao cap] w fun e w' => e = .returned (.tuple #[.int .i64 (numG t).1, .bool (numG t).2]) ∧ Below w.heap.size w w' := by
  by_cases h3 : t.nd.op = 3
  rotate_left
  · have e : numG t = litN t := by unfold numG; rw [if_neg h3]
    rw [e]
    exact litNumber_plain t ao cap w h3
  have hF := atT_fit t.deep t ao (Nat.le_refl _) hA
  obtain ⟨u, hk, fu, gu⟩ := form_one t hf hF h3
  have hr := litN_rng u fu gu
  have e : numG t = (0 - (litN u).1, (litN u).2) := by
    unfold numG; rw [if_pos h3, hk]
  rw [e]
  obtain ⟨d, l⟩ := t
  simp only [T.kids] at hk
  subst hk
  simp only [AtT] at hA
  obtain ⟨a, o, rfl, ha, hnode⟩ := AtL.at hA.2 0 u rfl
  rw [Nat.zero_add] at hnode
  obtain ⟨ao', cap', n1, n2, nA, z0, z1, z2, z3, z4, z5, z6⟩ := hnode.cells
  have wn : IntKind.i64.wrap (-(litN u).1) = 0 - (litN u).1 := by rw [IntKind.wrap_i64]; omega
  have hl : litN u = if u.nd.op = 1 ∧ u.nd.k = 2 then (u.nd.i, true) else (0, false) := rfl
  rw [exprV_cells]
  simp only [T.nd, T.kids, List.length_cons, List.length_nil]
  obtain ⟨op, k, i, b, s, nm⟩ := d
  have h3 : op = 3 := h3
  subst h3
  generalize u.kids.length = L at *
  obtain ⟨⟨op', k', i', b', s', nm'⟩, l'⟩ := u
  generalize litN (T.mk ⟨op', k', i', b', s', nm'⟩ l') = QQ at *
  simp only [T.nd] at *
  generalize str s = S at *
  generalize str nm = N at *
  generalize str s' = S' at *
  generalize str nm' = N' at *
  have hb := (Below.refl w.heap.size w).alloc (Nat.le_refl _) (.cells #[.int .i64 3, .int .i64 k, .int .i64 i, .int .u64 b, .string S, .string N, .slice (some ⟨a, o, none⟩) 1 cap] 27)
  have hz : Blk _ _ _ [_, _, _, _, _, _, _] := Blk.new w #[.int .i64 3, .int .i64 k, .int .i64 i, .int .u64 b, .string S, .string N, .slice (some ⟨a, o, none⟩) 1 cap] 27
  obtain ⟨w1, hw1⟩ : ∃ w1, w.alloc (.cells #[.int .i64 3, .int .i64 k, .int .i64 i, .int .u64 b, .string S, .string N, .slice (some ⟨a, o, none⟩) 1 cap] 27) = w1 := ⟨_, rfl⟩
  rw [hw1] at hz hb
  have y0 := (hb.cell (p := ⟨a, _, none⟩) ha).trans z0
  have y1 := (hb.cell (p := ⟨a, _, none⟩) ha).trans z1
  have y2 := (hb.cell (p := ⟨a, _, none⟩) ha).trans z2
  have y3 := (hb.cell (p := ⟨a, _, none⟩) ha).trans z3
  have y4 := (hb.cell (p := ⟨a, _, none⟩) ha).trans z4
  have y5 := (hb.cell (p := ⟨a, _, none⟩) ha).trans z5
  have y6 := (hb.cell (p := ⟨a, _, none⟩) ha).trans z6
  simp only [Nat.zero_mul, Nat.add_zero] at y0 y1 y2 y3 y4 y5 y6
  obtain ⟨p0, p1, p2, p3, p4, p5, p6⟩ := hz.sevenG
  obtain ⟨j0, j1, j2, j3, j4, j5, j6⟩ := hz.sevenF
  have hz2 := hz.put7 (a0 := .int .i64 op') (a1 := .int .i64 k') (a2 := .int .i64 i') (a3 := .int .u64 b') (a4 := .string S') (a5 := .string N') (a6 := .slice ao' L cap')
  have hb2 := below_put7 (a0 := .int .i64 op') (a1 := .int .i64 k') (a2 := .int .i64 i') (a3 := .int .u64 b') (a4 := .string S') (a5 := .string N') (a6 := .slice ao' L cap') hb (Nat.le_refl w.heap.size)
  obtain ⟨w2, hw2⟩ : ∃ w2, put7 w1 w.heap.size (.int .i64 op') (.int .i64 k') (.int .i64 i') (.int .u64 b') (.string S') (.string N') (.slice ao' L cap') = w2 := ⟨_, rfl⟩
  rw [hw2] at hz2 hb2
  have HW2 := Lib.hid hw2
  have HZ2 := Lib.hid hz2
  have HR := Lib.hid hr
  have HL := Lib.hid hl
  clear hA hnode nA z0 z1 z2 z3 z4 z5 z6 hf hF e fu gu hz hb hw2 hz2 hr hl n1 n2
  go_enter Tryd.func10, Tryd.ntmps10
  go_upto_region 1 with fail
  try rw [hw1]
  clear hw1
  go_upto_region 4 with fail
  have hh := HW2.out
  unfold put7 at hh
  try rw [hh]
  clear hh HW2 y0 y1 y2 y3 y4 y5 y6 p0 p1 p2 p3 p4 p5 p6 j0 j1 j2 j3 j4 j5 j6
  obtain ⟨p0, p1, p2, p3, p4, p5, p6⟩ := HZ2.out.sevenG
  clear HZ2
  by_cases h1 : op' = 1
  · subst h1
    by_cases h2 : k' = 2
    · subst h2
      have HQ : Hid (QQ = (i', true)) := Lib.hid (by simpa using HL.out)
      have wn2 : IntKind.i64.wrap (-i') = 0 - i' := by
        have := wn; rw [HQ.out] at this; exact this
      clear wn HL HR
      go_wp2_with fail
      go_ret2
      exact ⟨by rw [HQ.out]; first | rfl | simp, hb2⟩
    · have b2 : (k' != 2) = true := by simpa using h2
      have HQ : Hid (QQ = (0, false)) := Lib.hid (by simpa [h2] using HL.out)
      clear wn HL HR h2
      go_wp2_with fail
      go_ret2
      exact ⟨by rw [HQ.out]; first | rfl | simp, hb2⟩
  · have b1 : (op' != 1) = true := by simpa using h1
    have HQ : Hid (QQ = (0, false)) := Lib.hid (by simpa [h1] using HL.out)
    clear wn HL HR h1
    go_wp2_with fail
    go_ret2
    exact ⟨by rw [HQ.out]; first | rfl | simp, hb2⟩

theorem ands_len : ∀ (f : Nat) (t : T), (andsT f t).length ≤ t.size
  | 0, t => Nat.zero_le _
  | f + 1, t => by
    simp only [andsT]
    have h := T.size_eq t
    by_cases c : t.nd.op = 15
    · rw [if_pos c]
      match hk : t.kids with
      | [] => exact Nat.zero_le _
      | [a] => exact Nat.zero_le _
      | [a, b] =>
        have h1 := ands_len f a
        have h2 := ands_len f b
        rw [hk] at h
        simp only [sizeL] at h
        simp only [List.length_append]
        omega
      | _ :: _ :: _ :: _ => exact Nat.zero_le _
    · rw [if_neg c]; simp only [List.length_cons, List.length_nil]; omega
theorem OwnX.mono {w : World} {b b' : Nat} {v : Value} {l : List XE} (h : OwnX w b v l) (hb : b' ≤ b) : OwnX w b' v l := by
  refine ⟨h.1, ?_⟩
  rcases h.2 with hn | ⟨g, cap, cur, rfl, hbg, rest⟩
  · exact .inl hn
  · exact .inr ⟨g, cap, cur, rfl, Nat.le_trans hb hbg, rest⟩
theorem OwnX.sl {w : World} {base : Nat} {v : Value} {l : List XE} (h : OwnX w base v l) : ∃ ao cap, v = .slice ao l.length cap ∧ l.length ≤ cap ∧ (ao = none → cap = 0) ∧ XRow w ao l := by
  obtain ⟨ao, cap, e, hr⟩ := OwnX.row h
  refine ⟨ao, cap, e, ?_, ?_, hr⟩
  · rcases h.2 with ⟨rfl, h0⟩ | ⟨g, cap', cur, rfl, _, _, h1, _⟩
    · omega
    · simp only [Value.slice.injEq] at e; omega
  · rcases h.2 with ⟨rfl, h0⟩ | ⟨g, cap', cur, rfl, _, _, h1, _⟩
    · simp only [Value.slice.injEq] at e; intro _; omega
    · simp only [Value.slice.injEq] at e
      intro hn; rw [hn] at e; exact absurd e.1 (by simp)
/-- A row of one, in a block of its own. -/
theorem OwnX.one {w : World} {t : T} {ao : Option Addr} {cap : Nat} : OwnX (w.alloc (.cells (cellsX1 ⟨t, ao, cap⟩).toArray 27)) w.heap.size (.slice (some ⟨w.heap.size, 0, none⟩) 1 1) [⟨t, ao, cap⟩] := by
  have hz := Blk.new w (cellsX1 ⟨t, ao, cap⟩).toArray 27
  refine ⟨rfl, .inr ⟨w.heap.size, 1, _, rfl, Nat.le_refl _, hz, Nat.le_refl _, by unfold maxLen; omega, rfl, rfl⟩⟩
theorem NodeAt.cellsN {W : World} {a o j : Nat} {t : T} (h : NodeAt W a o j t) : ∃ ao' cap', t.kids.length ≤ cap' ∧ cap' ≤ 9223372036854775807 ∧ (ao' = none → cap' = 0) ∧ AtT W t ao' ∧ W.cell? ⟨a, o + j * 7, none⟩ = some (.int .i64 t.nd.op) ∧ W.cell? ⟨a, o + j * 7 + 1, none⟩ = some (.int .i64 t.nd.k) ∧ W.cell? ⟨a, o + j * 7 + 2, none⟩ = some (.int .i64 t.nd.i) ∧ W.cell? ⟨a, o + j * 7 + 3, none⟩ = some (.int .u64 t.nd.b) ∧ W.cell? ⟨a, o + j * 7 + 4, none⟩ = some (.string (str t.nd.t)) ∧ W.cell? ⟨a, o + j * 7 + 5, none⟩ = some (.string (str t.nd.n)) ∧ W.cell? ⟨a, o + j * 7 + 6, none⟩ = some (.slice ao' t.kids.length cap') := by
  obtain ⟨ao', cap', h1, h2, h3, h4, h5⟩ := h
  exact ⟨ao', cap', h3, h4.1, h4.2, h5, h1 0 _ rfl, h1 1 _ rfl, h1 2 _ rfl, h1 3 _ rfl, h1 4 _ rfl, h1 5 _ rfl, h2⟩
def AndsPost (f : Nat) (t : T) (w0 w : World) (e : Ending) (w' : World) : Prop := ∃ (v : Value) (xs : List XE), e = .returned v ∧ Hid (OwnX w' w.heap.size v xs) ∧ Hid (xs.map XE.t = andsT f t) ∧ Hid (XGood w0 xs) ∧ Below w.heap.size w w'
def AndsOk (f : Nat) : Prop := ∀ (t : T) (ao : Option Addr) (cap : Nat) (w0 w : World), t.deep ≤ f → t.size ≤ 40 → formT t = 0 → AtT w0 t ao → Below w0.heap.size w0 w → t.kids.length ≤ cap → cap ≤ 9223372036854775807 → (ao = none → cap = 0) →
    Calls Tryd.prog 9 #[exprV t ao cap] w (AndsPost f t w0 w)
set_option maxHeartbeats 8000000 in
theorem ands_leaf (f : Nat) (t : T) (ao : Option Addr) (cap : Nat) (w0 w : World) (h15 : t.nd.op ≠ 15) (hA : AtT w0 t ao) (hc : t.kids.length ≤ cap) (hm : cap ≤ 9223372036854775807) (hn : ao = none → cap = 0) :
    Calls Tryd.prog 9 #[exprV t ao cap] w (AndsPost (f + 1) t w0 w) := by
  have ea : andsT (f + 1) t = [t] := by simp only [andsT]; rw [if_neg h15]
  unfold AndsPost
  rw [ea]
  have hO := fun W => OwnX.one (w := W) (t := t) (ao := ao) (cap := cap)
  have hG : XGood w0 [⟨t, ao, cap⟩] := fun x hx => by
    rw [List.mem_singleton] at hx; subst hx; exact ⟨hA, hc, hm, hn⟩
  have hMap : ([⟨t, ao, cap⟩] : List XE).map XE.t = [t] := rfl
  have hc1 : (cellsX1 ⟨t, ao, cap⟩).toArray = #[.int .i64 t.nd.op, .int .i64 t.nd.k, .int .i64 t.nd.i, .int .u64 t.nd.b, .string (str t.nd.t), .string (str t.nd.n), .slice ao t.kids.length cap] := rfl
  rw [hc1] at hO
  rw [exprV_cells]
  generalize ([⟨t, ao, cap⟩] : List XE) = xs at *
  have HO := Lib.hid hO
  have HG := Lib.hid hG
  have HM := Lib.hid hMap
  clear hO hG hMap hc1 ea hA hc hm hn
  obtain ⟨nd, hnd⟩ : ∃ nd, t.nd = nd := ⟨_, rfl⟩
  rw [hnd] at HO h15 ⊢
  clear hnd
  generalize t.kids.length = L at *
  obtain ⟨op, k, i, b, s, nm⟩ := nd
  simp only at *
  generalize str s = S at *
  generalize str nm = N at *
  have b0 : (op == 15) = false := by simpa using h15
  clear h15
  have hb := (Below.refl w.heap.size w).alloc (Nat.le_refl _) (.cells #[.int .i64 op, .int .i64 k, .int .i64 i, .int .u64 b, .string S, .string N, .slice ao L cap] 27)
  have hz : Blk _ _ _ [_, _, _, _, _, _, _] := Blk.new w #[.int .i64 op, .int .i64 k, .int .i64 i, .int .u64 b, .string S, .string N, .slice ao L cap] 27
  obtain ⟨w1, hw1⟩ : ∃ w1, w.alloc (.cells #[.int .i64 op, .int .i64 k, .int .i64 i, .int .u64 b, .string S, .string N, .slice ao L cap] 27) = w1 := ⟨_, rfl⟩
  rw [hw1] at hz hb
  obtain ⟨p0, p1, p2, p3, p4, p5, p6⟩ := hz.sevenG
  have hba := (Below.refl w1.heap.size w1).alloc (Nat.le_refl _) (.cells #[.int .i64 op, .int .i64 k, .int .i64 i, .int .u64 b, .string S, .string N, .slice ao L cap] 27)
  have hb2 := below_stepG hb hb.size hba
  have HF := Lib.hid (And.intro ((HO.out w1).mono hb.size) (And.intro HG.out hb2))
  clear HO HG hz hba hb2 hb
  go_enter Tryd.func9, Tryd.ntmps9
  go_upto_region 1 with fail
  try rw [hw1]
  clear hw1
  go_wp2_with fail
  go_ret
  exact ⟨_, xs, rfl, Lib.hid HF.out.1, HM, Lib.hid HF.out.2.1, HF.out.2.2⟩

def AndF (w0 : World) (gx a2 o2 cap base : Nat) (A B : Value) (lu lv : List T) : Nat → Value → World → Prop
  | 0, x, _ => x = .pointer (some ⟨gx, 6, none⟩)
  | 1, x, _ => x = .slice (some ⟨a2, o2, none⟩) 2 cap
  | 2, x, _ => x = .pointer (some ⟨a2, o2, none⟩)
  | 3, x, _ => x = A
  | 4, x, W => ∃ xs, Hid (OwnX W base x xs) ∧ Hid (xs.map XE.t = lu) ∧ Hid (XGood w0 xs)
  | 5, x, _ => x = .pointer (some ⟨gx, 6, none⟩)
  | 6, x, _ => x = .slice (some ⟨a2, o2, none⟩) 2 cap
  | 7, x, _ => x = .pointer (some ⟨a2, o2 + 7, none⟩)
  | 8, x, _ => x = B
  | 9, x, W => ∃ xs, Hid (OwnX W base x xs) ∧ Hid (xs.map XE.t = lv) ∧ Hid (XGood w0 xs)
  | _, _, _ => True
set_option maxHeartbeats 16000000 in
theorem ands_and (f : Nat) (IH : AndsOk f) (d : Nd) (u v : T) (ao : Option Addr) (cap : Nat) (w0 w : World) (h15 : d.op = 15) (hu : u.deep ≤ f) (hv : v.deep ≤ f) (su : u.size + v.size ≤ 40) (fu : formT u = 0) (fv : formT v = 0) (hA : AtT w0 (.mk d [u, v]) ao) (hw0 : Below w0.heap.size w0 w) :
    Calls Tryd.prog 9 #[exprV (.mk d [u, v]) ao cap] w (AndsPost (f + 1) (.mk d [u, v]) w0 w) := by
  have ea : andsT (f + 1) (.mk d [u, v]) = andsT f u ++ andsT f v := by
    simp only [andsT]; rw [if_pos (show (T.mk d [u, v]).nd.op = 15 from h15)]; rfl
  have hlu := ands_len f u
  have hlv := ands_len f v
  simp only [AtT] at hA
  have hA := hA.2
  obtain ⟨a, o, rfl, ha, hnode⟩ := AtL.at hA 0 u rfl
  obtain ⟨a2, o2, e2, _, hnode2⟩ := AtL.at hA 1 v rfl
  obtain ⟨rfl, rfl⟩ : a2 = a ∧ o2 = o := by simp at e2; exact ⟨e2.1.symm, e2.2.symm⟩
  rw [Nat.zero_add] at hnode hnode2
  obtain ⟨ao', cap', n1, n2, n3, nA, z0, z1, z2, z3, z4, z5, z6⟩ := hnode.cellsN
  obtain ⟨ao3, cap3, m1, m2, m3, mA, x0, x1, x2, x3, x4, x5, x6⟩ := hnode2.cellsN
  have z0 := (hw0.cell (p := ⟨_, _, none⟩) ha).trans z0
  have z1 := (hw0.cell (p := ⟨_, _, none⟩) ha).trans z1
  have z2 := (hw0.cell (p := ⟨_, _, none⟩) ha).trans z2
  have z3 := (hw0.cell (p := ⟨_, _, none⟩) ha).trans z3
  have z4 := (hw0.cell (p := ⟨_, _, none⟩) ha).trans z4
  have z5 := (hw0.cell (p := ⟨_, _, none⟩) ha).trans z5
  have z6 := (hw0.cell (p := ⟨_, _, none⟩) ha).trans z6
  have x0 := (hw0.cell (p := ⟨_, _, none⟩) ha).trans x0
  have x1 := (hw0.cell (p := ⟨_, _, none⟩) ha).trans x1
  have x2 := (hw0.cell (p := ⟨_, _, none⟩) ha).trans x2
  have x3 := (hw0.cell (p := ⟨_, _, none⟩) ha).trans x3
  have x4 := (hw0.cell (p := ⟨_, _, none⟩) ha).trans x4
  have x5 := (hw0.cell (p := ⟨_, _, none⟩) ha).trans x5
  have x6 := (hw0.cell (p := ⟨_, _, none⟩) ha).trans x6
  have ha := Nat.lt_of_lt_of_le ha hw0.size
  have c1 := fun W (hW : Below w.heap.size w W) => IH u ao' cap' w0 W hu (by omega) fu nA (hw0.trans (hW.mono hw0.size)) n1 n2 n3
  have c3 := fun W (hW : Below w.heap.size w W) => IH v ao3 cap3 w0 W hv (by omega) fv mA (hw0.trans (hW.mono hw0.size)) m1 m2 m3
  unfold AndsPost at *
  rw [ea]
  clear ea
  simp only [exprV_cells] at c1 c3
  generalize andsT f u = lu at *
  generalize andsT f v = lv at *
  have hsz : lu.length + lv.length ≤ 40 := by omega
  rw [exprV_cells]
  simp only [T.nd, T.kids, List.length_cons, List.length_nil]
  obtain ⟨op, k, i, b, s, nm⟩ := d
  generalize u.kids.length = L at *
  generalize v.kids.length = M at *
  obtain ⟨⟨op', k', i', b', s', nm'⟩, l'⟩ := u
  obtain ⟨⟨op3, k3, i3, b3, s3, nm3⟩, l3⟩ := v
  simp only [T.nd] at *
  generalize str s = S at *
  generalize str nm = N at *
  generalize str s' = S' at *
  generalize str nm' = N' at *
  generalize str s3 = S3 at *
  generalize str nm3 = N3 at *
  have hz := Blk.new w #[.int .i64 op, .int .i64 k, .int .i64 i, .int .u64 b, .string S, .string N, .slice (some ⟨a2, o2, none⟩) 2 cap] 27
  have hb := (Below.refl w.heap.size w).alloc (Nat.le_refl _) (.cells #[.int .i64 op, .int .i64 k, .int .i64 i, .int .u64 b, .string S, .string N, .slice (some ⟨a2, o2, none⟩) 2 cap] 27)
  obtain ⟨w1, hw1⟩ : ∃ w1, w.alloc (.cells #[.int .i64 op, .int .i64 k, .int .i64 i, .int .u64 b, .string S, .string N, .slice (some ⟨a2, o2, none⟩) 2 cap] 27) = w1 := ⟨_, rfl⟩
  rw [hw1] at hz hb
  have d0 := (hb.cell (p := ⟨a2, o2 + 0 * 7, none⟩) ha).trans z0
  have d1 := (hb.cell (p := ⟨a2, o2 + 0 * 7 + 1, none⟩) ha).trans z1
  have d2 := (hb.cell (p := ⟨a2, o2 + 0 * 7 + 2, none⟩) ha).trans z2
  have d3 := (hb.cell (p := ⟨a2, o2 + 0 * 7 + 3, none⟩) ha).trans z3
  have d4 := (hb.cell (p := ⟨a2, o2 + 0 * 7 + 4, none⟩) ha).trans z4
  have d5 := (hb.cell (p := ⟨a2, o2 + 0 * 7 + 5, none⟩) ha).trans z5
  have d6 := (hb.cell (p := ⟨a2, o2 + 0 * 7 + 6, none⟩) ha).trans z6
  have g0 := (hb.cell (p := ⟨a2, o2 + 1 * 7, none⟩) ha).trans x0
  have g1 := (hb.cell (p := ⟨a2, o2 + 1 * 7 + 1, none⟩) ha).trans x1
  have g2 := (hb.cell (p := ⟨a2, o2 + 1 * 7 + 2, none⟩) ha).trans x2
  have g3 := (hb.cell (p := ⟨a2, o2 + 1 * 7 + 3, none⟩) ha).trans x3
  have g4 := (hb.cell (p := ⟨a2, o2 + 1 * 7 + 4, none⟩) ha).trans x4
  have g5 := (hb.cell (p := ⟨a2, o2 + 1 * 7 + 5, none⟩) ha).trans x5
  have g6 := (hb.cell (p := ⟨a2, o2 + 1 * 7 + 6, none⟩) ha).trans x6
  simp only [Nat.zero_mul, Nat.add_zero] at d0 d1 d2 d3 d4 d5 d6
  simp only [Nat.one_mul] at g0 g1 g2 g3 g4 g5 g6
  have ha1 : a2 < w1.heap.size := Nat.lt_of_lt_of_le ha hb.size
  have p0 := hz.cell (j := 0) rfl
  have p6 := hz.cell (j := 6) rfl
  clear z0 z1 z2 z3 z4 z5 z6 x0 x1 x2 x3 x4 x5 x6 hA hnode hnode2
  subst h15
  have HSZ := Lib.hid hsz
  clear ha e2 nA mA fu fv hu hv IH hlu hlv su hsz
  go_enter Tryd.func9, Tryd.ntmps9
  go_upto_region 1 with fail
  try rw [hw1]
  clear hw1
  go_upto_region 2 with fail
  refine wp_region_chain 10 [4, 9] (by kernel_rfl) (by kernel_rfl) (by kernel_rfl) (AndF w0 w.heap.size a2 o2 cap w.heap.size (.agg #[.int .i64 op', .int .i64 k', .int .i64 i', .int .u64 b', .string S', .string N', .slice ao' L cap']) (.agg #[.int .i64 op3, .int .i64 k3, .int .i64 i3, .int .u64 b3, .string S3, .string N3, .slice ao3 M cap3]) lu lv) (fun _ W => Below w1.heap.size w1 W) (fun _ W W' => Below W.heap.size W W') ?hF ?h0 ?hstep ?hcall ?hdone
  case hF =>
    intro s i hs j x W W' hjn hne hpb h he
    match j, h with
    | 0, h => exact h
    | 1, h => exact h
    | 2, h => exact h
    | 3, h => exact h
    | 4, ⟨xs, h1, h2, h3⟩ => exact ⟨xs, Lib.hid (h1.out.keep he), h2, h3⟩
    | 5, h => exact h
    | 6, h => exact h
    | 7, h => exact h
    | 8, h => exact h
    | 9, ⟨xs, h1, h2, h3⟩ => exact ⟨xs, Lib.hid (h1.out.keep he), h2, h3⟩
    | j + 10, h => exact h
  case h0 => exact Below.drew (Below.refl _ _)
  case hstep =>
    intro j hj hni s vs act W K ha' hst hd hu' hK
    simp only [fillF, Act.put, List.take_succ_cons, List.take_zero, List.setIfInBounds_toArray, List.set_cons_zero, List.set_cons_succ] at ha'
    subst ha'
    clear hu'
    rcases (show j = 0 ∨ j = 1 ∨ j = 2 ∨ j = 3 ∨ j = 4 ∨ j = 5 ∨ j = 6 ∨ j = 7 ∨ j = 8 ∨ j = 9 by omega) with rfl | rfl | rfl | rfl | rfl | rfl | rfl | rfl | rfl | rfl
    · refine wpOp_step rfl (fun K' hK' => ?_)
      go_simp
      exact hK' _ _ (hK _ rfl)
    · have e0 : vs 0 = .pointer (some ⟨w.heap.size, 6, none⟩) := hd 0 (by kernel_rfl)
      simp only [e0] at hK ⊢
      have q6 := (hz.call hst).cell (j := 6) rfl
      refine wpOp_step rfl (fun K' hK' => ?_)
      go_simp
      exact hK' _ _ (hK _ rfl)
    · have e1 : vs 1 = .slice (some ⟨a2, o2, none⟩) 2 cap := hd 1 (by kernel_rfl)
      simp only [e1] at hK ⊢
      refine wpOp_step rfl (fun K' hK' => ?_)
      go_simp
      exact hK' _ _ (hK _ rfl)
    · have e2 : vs 2 = .pointer (some ⟨a2, o2, none⟩) := hd 2 (by kernel_rfl)
      simp only [e2] at hK ⊢
      have q0 := (hst.cell (p := ⟨a2, o2, none⟩) ha1).trans d0
      have q1 := (hst.cell (p := ⟨a2, o2 + 1, none⟩) ha1).trans d1
      have q2 := (hst.cell (p := ⟨a2, o2 + 2, none⟩) ha1).trans d2
      have q3 := (hst.cell (p := ⟨a2, o2 + 3, none⟩) ha1).trans d3
      have q4 := (hst.cell (p := ⟨a2, o2 + 4, none⟩) ha1).trans d4
      have q5 := (hst.cell (p := ⟨a2, o2 + 5, none⟩) ha1).trans d5
      have q6 := (hst.cell (p := ⟨a2, o2 + 6, none⟩) ha1).trans d6
      refine wpOp_step rfl (fun K' hK' => ?_)
      go_simp
      exact hK' _ _ (hK _ rfl)
    · exact (hni (by decide)).elim
    · refine wpOp_step rfl (fun K' hK' => ?_)
      go_simp
      exact hK' _ _ (hK _ rfl)
    · have e5 : vs 5 = .pointer (some ⟨w.heap.size, 6, none⟩) := hd 5 (by kernel_rfl)
      simp only [e5] at hK ⊢
      have q6 := (hz.call hst).cell (j := 6) rfl
      refine wpOp_step rfl (fun K' hK' => ?_)
      go_simp
      exact hK' _ _ (hK _ rfl)
    · have e6 : vs 6 = .slice (some ⟨a2, o2, none⟩) 2 cap := hd 6 (by kernel_rfl)
      simp only [e6] at hK ⊢
      refine wpOp_step rfl (fun K' hK' => ?_)
      go_simp
      exact hK' _ _ (hK _ rfl)
    · have e7 : vs 7 = .pointer (some ⟨a2, o2 + 7, none⟩) := hd 7 (by kernel_rfl)
      simp only [e7] at hK ⊢
      have q0 := (hst.cell (p := ⟨a2, o2 + 7, none⟩) ha1).trans g0
      have q1 := (hst.cell (p := ⟨a2, o2 + 7 + 1, none⟩) ha1).trans g1
      have q2 := (hst.cell (p := ⟨a2, o2 + 7 + 2, none⟩) ha1).trans g2
      have q3 := (hst.cell (p := ⟨a2, o2 + 7 + 3, none⟩) ha1).trans g3
      have q4 := (hst.cell (p := ⟨a2, o2 + 7 + 4, none⟩) ha1).trans g4
      have q5 := (hst.cell (p := ⟨a2, o2 + 7 + 5, none⟩) ha1).trans g5
      have q6 := (hst.cell (p := ⟨a2, o2 + 7 + 6, none⟩) ha1).trans g6
      refine wpOp_step rfl (fun K' hK' => ?_)
      go_simp
      exact hK' _ _ (hK _ rfl)
    · exact (hni (by decide)).elim
  case hcall =>
    intro s j hs vs act W K ha' hst hd hK
    simp only [fillF, Act.put, List.take_succ_cons, List.take_zero, List.setIfInBounds_toArray, List.set_cons_zero, List.set_cons_succ] at ha'
    subst ha'
    rcases s with _ | _ | s
    · obtain rfl : 4 = j := by simpa using hs
      have e3 : vs 3 = .agg #[.int .i64 op', .int .i64 k', .int .i64 i', .int .u64 b', .string S', .string N', .slice ao' L cap'] := hd 3 (by kernel_rfl)
      simp only [e3] at hK ⊢
      refine wpOp_step rfl (fun K' hK' => ?_)
      go_simp
      refine (c1 W (below_stepG hb hb.size hst)).mono ?_
      rintro e W' ⟨x, xs, rfl, hO, hM, hG, hbc⟩
      go_simp
      exact hK' _ _ (hK _ _ ⟨xs, Lib.hid (hO.out.mono (by have := hb.size; have := hst.size; omega)), hM, hG⟩ hbc (below_stepG hst hst.size hbc))
    · obtain rfl : 9 = j := by simpa using hs
      have e8 : vs 8 = .agg #[.int .i64 op3, .int .i64 k3, .int .i64 i3, .int .u64 b3, .string S3, .string N3, .slice ao3 M cap3] := hd 8 (by kernel_rfl)
      simp only [e8] at hK ⊢
      refine wpOp_step rfl (fun K' hK' => ?_)
      go_simp
      refine (c3 W (below_stepG hb hb.size hst)).mono ?_
      rintro e W' ⟨x, xs, rfl, hO, hM, hG, hbc⟩
      go_simp
      exact hK' _ _ (hK _ _ ⟨xs, Lib.hid (hO.out.mono (by have := hb.size; have := hst.size; omega)), hM, hG⟩ hbc (below_stepG hst hst.size hbc))
    · simp at hs
  intro vs act W ha' hst hf
  simp only [fillF, Act.put, List.take_succ_cons, List.take_zero, List.drop_succ_cons, List.drop_zero, List.setIfInBounds_toArray, List.set_cons_zero, List.set_cons_succ] at ha' ⊢
  subst ha'
  obtain ⟨xs, hO, hM, hG⟩ := hf 4 (by decide)
  obtain ⟨ys, hO2, hM2, hG2⟩ := hf 9 (by decide)
  obtain ⟨aoy, capy, ey, hly, hny, hry⟩ := hO2.out.sl
  have hbb := below_stepG hb hb.size hst
  have hle : xs.length + ys.length ≤ 1000000 := by
    have h1 := congrArg List.length hM.out
    have h2 := congrArg List.length hM2.out
    have h3 := HSZ.out
    rw [List.length_map] at h1 h2
    omega
  rw [ey]
  have hbs := hbb.size
  clear hf c1 c3 d0 d1 d2 d3 d4 d5 d6 g0 g1 g2 g3 g4 g5 g6 p0 p6 hb hst hz
  generalize vs 4 = x4 at *
  generalize vs 0 = x0
  generalize vs 1 = x1
  generalize vs 2 = x2
  generalize vs 3 = x3
  generalize vs 5 = x5
  generalize vs 6 = x6
  generalize vs 7 = x7
  generalize vs 8 = x8
  refine wpList_append_xs rfl (.tmp 10) (.tmp 15) rfl w.heap.size x4 xs rfl hO.out ys aoy capy _ rfl rfl hry hny hle hbs ?_
  intro v' w' ho' hb'
  have HFIN := Lib.hid (And.intro ho' (Below.trans hbb hb'))
  have hG3 : XGood w0 (xs ++ ys) := fun x hx => by
    rcases List.mem_append.1 hx with h | h
    · exact hG.out x h
    · exact hG2.out x h
  clear ho' hb' hbb hry hO hO2 hG hG2
  go_wp2_with fail
  go_ret
  exact ⟨_, xs ++ ys, rfl, Lib.hid HFIN.out.1, Lib.hid (by rw [List.map_append, hM.out, hM2.out]), Lib.hid hG3, HFIN.out.2⟩
theorem ands_any : ∀ f, AndsOk f := by
  intro f
  induction f with
  | zero => intro t ao cap w0 w h; have := T.deep_eq t; omega
  | succ f ih =>
    intro t ao cap w0 w hd hs hf hA hw0 hc hm hn
    have hF := atT_fit t.deep t ao (Nat.le_refl _) hA
    by_cases h15 : t.nd.op = 15
    · obtain ⟨a, b, hk, ⟨fa, ga⟩, ⟨fb, gb⟩⟩ := form_two t hf hF (by omega)
      have hdd : a.deep ≤ f ∧ b.deep ≤ f := by
        have := T.deep_eq t
        rw [hk] at this
        simp only [deepL] at this
        omega
      have hss : a.size + b.size ≤ 40 := by
        have := T.size_eq t
        rw [hk] at this
        simp only [sizeL] at this
        omega
      obtain ⟨d, l⟩ := t
      simp only [T.kids] at hk
      subst hk
      exact ands_and f ih d a b ao cap w0 w h15 hdd.1 hdd.2 hss fa fb hA hw0
    · exact ands_leaf f t ao cap w0 w h15 hA hc hm hn
end Go.Proofs.YtablacloabpjfabDoor
