/-
  MERGED: EvalR, EvalT.
  CONDITIONS: each theorem's own hypotheses.
-/
import Derived.Test.YtfedlchncngafaaGreatDoorGEvc
import Derived.Test.YtfedlchncngafaaGreatDoorExprC
import Derived.Test.YtfedlchncngafaaGreatDoorKindV
import Derived.Test.YtfedlchncngafaaGreatDoorGReg

/-! An expression made ready: as a value; what it says; the CONTRACTS of makeReady, onOne, onTwo. CONDITIONS: each theorem's own hypotheses; the tables 'Tabs' hold what their initialisers lay. -/
namespace Go.Proofs.YtfedlchncngafaaGreatDoor
open Go.RowKit
set_option linter.unusedVariables false
set_option maxRecDepth 100000

def tyE (op : Int) : TypeId :=
  if op = 3 then 190 else if op = 4 then 191 else if op = 5 then 195 else if op = 6 then 196
  else if op = 7 then 197 else if op = 8 then 198 else if op = 9 then 199 else if op = 10 then 200
  else if op = 11 then 201 else if op = 12 then 202 else if op = 13 then 203 else if op = 14 then 204
  else if op = 15 then 205 else if op = 16 then 206 else if op = 17 then 192 else if op = 18 then 193
  else if op = 19 then 207 else 208
mutual
def readyV : T → Value
  | .mk d l => if d.op = 1 then .iface 158 (.agg #[.int .i64 d.k, .int .i64 d.i, .int .u64 d.b, .string (str d.t)]) else if d.op = 2 then .iface 156 (.agg #[.string (str d.n)]) else .iface (tyE d.op) (.agg (readyL l).toArray)
def readyL : List T → List Value
  | [] => []
  | t :: l => readyV t :: readyL l
end
theorem ready_lit (d : Nd) (l : List T) (h : d.op = 1) : readyV (.mk d l) = .iface 158 (.agg #[.int .i64 d.k, .int .i64 d.i, .int .u64 d.b, .string (str d.t)]) := by
  simp only [readyV]; rw [if_pos h]
theorem ready_col (d : Nd) (l : List T) (h : d.op = 2) : readyV (.mk d l) = .iface 156 (.agg #[.string (str d.n)]) := by
  simp only [readyV]; rw [if_neg (by omega), if_pos h]
theorem ready_one (d : Nd) (a : T) (h : 3 ≤ d.op) : readyV (.mk d [a]) = .iface (tyE d.op) (.agg #[readyV a]) := by
  simp only [readyV, readyL]; rw [if_neg (by omega), if_neg (by omega)]
theorem ready_two (d : Nd) (a b : T) (h : 3 ≤ d.op) : readyV (.mk d [a, b]) = .iface (tyE d.op) (.agg #[readyV a, readyV b]) := by
  simp only [readyV, readyL]; rw [if_neg (by omega), if_neg (by omega)]
theorem says_of (w0 : World) (x y : Value) (ty : TypeId) (rv : Value) (K : FuncId) (R : RE) (h1 : ∀ w : World, (nilAhead 394 ty rv "chirograph/eval.says").run Tryz.prog w = .ok (some false) w) (h2 : ∀ w : World, (method 394 ty rv "chirograph/eval.says").run Tryz.prog w = .ok (K, rv) w)
    (h3 : ∀ w : World, (callFunc K #[rv, .agg #[x, y]]).run Tryz.prog w = .ok (.enter K #[rv, .agg #[x, y]]) w)
    (h4 : ∀ W, Below w0.heap.size w0 W → Calls Tryz.prog K #[rv, .agg #[x, y]] W fun e w' => e = .returned (.tuple #[valV R.v, .int .i64 R.f]) ∧ Below W.heap.size W w') : Says w0 x y (.iface ty rv) R := ⟨ty, rv, K, rfl, h1, h2, h3, h4⟩
/-- What stands where an expression is asked. -/
structure EvEnv (w0 : World) (cs : List Cl) (row : List Vl) (aoc aor : Option Addr) : Prop where
  T : Tabs w0
  C : Cols w0 aoc cs
  V : Vals w0 aor row
  l : cs.length ≤ 9223372036854775807
  same : row.length = cs.length
  ok : ∀ v ∈ row, OkV v
theorem says_ev (w0 : World) (cs : List Cl) (row : List Vl) (aoc : Option Addr) (capc : Nat) (aor : Option Addr) (capr : Nat) (hE : EvEnv w0 cs row aoc aor) : ∀ (n : Nat) (t : T), t.deep ≤ n → FitT t → formT t = 0 →
    Says w0 (.slice aoc cs.length capc) (.slice aor row.length capr) (readyV t) (evT cs row t) := by
  intro n
  induction n with
  | zero => intro t h _ _; have := T.deep_eq t; omega
  | succ n ih =>
    rintro ⟨d, l⟩ hdp hF hf
    have hok : ∀ u ∈ l, OkR (evT cs row u) := fun u hu => by
      obtain ⟨hn, hl⟩ := formT_open d l hf
      simp only [FitT] at hF
      exact ok_ev cs row hE.ok u.deep u (Nat.le_refl _) (hF.2.mem u hu) (formL_mem l hl u hu)
    have hS : ∀ u ∈ l, Says w0 (.slice aoc cs.length capc) (.slice aor row.length capr) (readyV u) (evT cs row u) := fun u hu => by
      obtain ⟨hn, hl⟩ := formT_open d l hf
      simp only [FitT] at hF
      have hdl : deepL l ≤ n := by simp only [T.deep] at hdp; omega
      obtain ⟨j, hj⟩ := List.getElem?_of_mem hu
      exact ih u (Nat.le_trans (deepK_mem hj) hdl) (hF.2.mem u hu) (formL_mem l hl u hu)
    obtain ⟨hn, hl⟩ := formT_open d l hf
    obtain ⟨⟨o1, o2⟩, hp, _, hv⟩ := nodeF_open d _ hn
    by_cases h1 : d.op = 1
    · rw [ready_lit d l h1]
      have e : evT cs row (.mk d l) = okE ⟨d.k, d.i, d.b, d.t⟩ := by simp only [evT]; rw [if_pos h1]
      rw [e]
      exact says_of _ _ _ _ _ 206 _ (fun _ => rfl) (fun _ => rfl) (fun _ => rfl) (fun W hW => eliteral_any _ _ ⟨d.k, d.i, d.b, d.t⟩ W)
    by_cases h2 : d.op = 2
    · rw [ready_col d l h2]
      have e : evT cs row (.mk d l) = colE cs row d.n := by simp only [evT]; rw [if_neg h1, if_pos h2]
      rw [e]
      exact says_of _ _ _ _ _ 205 _ (fun _ => rfl) (fun _ => rfl) (fun _ => rfl) (fun W hW => ecolumn_any d.n cs row aoc capc aor capr W hE.l hE.same (hE.C.keep hW) (hE.V.keep hW))
    have e : evT cs row (.mk d l) = combE d.op (l.map (evT cs row)) := by simp only [evT]; rw [if_neg h1, if_neg h2, evL_map]
    rw [e]
    unfold partsN at hp
    rw [if_neg (by omega)] at hp
    obtain ⟨op, k, i, b, s, nm⟩ := d
    simp only at *
    by_cases ho : op = 3 ∨ op = 4 ∨ op = 17 ∨ op = 18
    · rw [if_pos ho] at hp
      match l, hp, hS, hok with
      | [a], _, hS, hok =>
        have sa := hS a (by simp)
        have oa := hok a (by simp)
        rw [ready_one _ a (by show 3 ≤ op; omega)]
        simp only [List.map_cons, List.map_nil]
        generalize evT cs row a = r at *
        generalize readyV a = iv at *
        rcases ho with rfl | rfl | rfl | rfl
        · exact says_of _ _ _ _ _ 207 _ (fun _ => rfl) (fun _ => rfl) (fun _ => rfl) (fun W hW => neg_any w0 _ _ iv r sa oa W hW)
        · exact says_of _ _ _ _ _ 213 _ (fun _ => rfl) (fun _ => rfl) (fun _ => rfl) (fun W hW => enot_any w0 _ _ iv r sa oa W hW)
        · exact says_of _ _ _ _ _ 218 _ (fun _ => rfl) (fun _ => rfl) (fun _ => rfl) (fun W hW => isNull_any w0 _ _ iv r sa oa W hW)
        · exact says_of _ _ _ _ _ 219 _ (fun _ => rfl) (fun _ => rfl) (fun _ => rfl) (fun W hW => length_any w0 _ _ iv r sa oa W hW)
    · rw [if_neg ho] at hp
      match l, hp, hS, hok with
      | [a, c], _, hS, hok =>
        have sa := hS a (by simp)
        have oa := hok a (by simp)
        have sb := hS c (by simp)
        have ob := hok c (by simp)
        rw [ready_two _ a c (by show 3 ≤ op; omega)]
        simp only [List.map_cons, List.map_nil]
        generalize evT cs row a = r at *
        generalize readyV a = iv at *
        generalize evT cs row c = q at *
        generalize readyV c = iw at *
        have hT := fun W (hW : Below w0.heap.size w0 W) => tabs_below hE.T hW
        rcases (show op = 5 ∨ op = 6 ∨ op = 7 ∨ op = 8 ∨ op = 9 ∨ op = 10 ∨ op = 11 ∨ op = 12 ∨ op = 13 ∨ op = 14 ∨ op = 15 ∨ op = 16 ∨ op = 19 ∨ op = 20 by omega) with rfl | rfl | rfl | rfl | rfl | rfl | rfl | rfl | rfl | rfl | rfl | rfl | rfl | rfl
        · exact says_of _ _ _ _ _ 220 _ (fun _ => rfl) (fun _ => rfl) (fun _ => rfl) (fun W hW => eadd_any w0 _ _ iv iw r q sa sb oa ob W hW)
        · exact says_of _ _ _ _ _ 226 _ (fun _ => rfl) (fun _ => rfl) (fun _ => rfl) (fun W hW => esub_any w0 _ _ iv iw r q sa sb oa ob W hW)
        · exact says_of _ _ _ _ _ 227 _ (fun _ => rfl) (fun _ => rfl) (fun _ => rfl) (fun W hW => emul_any w0 _ _ iv iw r q sa sb oa ob W hW)
        · exact says_of _ _ _ _ _ 229 _ (fun _ => rfl) (fun _ => rfl) (fun _ => rfl) (fun W hW => ediv_any w0 _ _ iv iw r q sa sb oa ob W hW)
        · exact says_of _ _ _ _ _ 231 _ (fun _ => rfl) (fun _ => rfl) (fun _ => rfl) (fun W hW => eeq_any w0 _ _ iv iw r q sa sb oa ob W hW (hT W hW))
        · exact says_of _ _ _ _ _ 243 _ (fun _ => rfl) (fun _ => rfl) (fun _ => rfl) (fun W hW => ene_any w0 _ _ iv iw r q sa sb oa ob W hW (hT W hW))
        · exact says_of _ _ _ _ _ 246 _ (fun _ => rfl) (fun _ => rfl) (fun _ => rfl) (fun W hW => elt_any w0 _ _ iv iw r q sa sb oa ob W hW (hT W hW))
        · exact says_of _ _ _ _ _ 249 _ (fun _ => rfl) (fun _ => rfl) (fun _ => rfl) (fun W hW => ele_any w0 _ _ iv iw r q sa sb oa ob W hW (hT W hW))
        · exact says_of _ _ _ _ _ 252 _ (fun _ => rfl) (fun _ => rfl) (fun _ => rfl) (fun W hW => egt_any w0 _ _ iv iw r q sa sb oa ob W hW (hT W hW))
        · exact says_of _ _ _ _ _ 253 _ (fun _ => rfl) (fun _ => rfl) (fun _ => rfl) (fun W hW => ege_any w0 _ _ iv iw r q sa sb oa ob W hW (hT W hW))
        · exact says_of _ _ _ _ _ 254 _ (fun _ => rfl) (fun _ => rfl) (fun _ => rfl) (fun W hW => eand_any w0 _ _ iv iw r q sa sb oa ob W hW)
        · exact says_of _ _ _ _ _ 259 _ (fun _ => rfl) (fun _ => rfl) (fun _ => rfl) (fun W hW => eor_any w0 _ _ iv iw r q sa sb oa ob W hW)
        · exact says_of _ _ _ _ _ 261 _ (fun _ => rfl) (fun _ => rfl) (fun _ => rfl) (fun W hW => ejoin_any w0 _ _ iv iw r q sa sb oa ob W hW)
        · exact says_of _ _ _ _ _ 262 _ (fun _ => rfl) (fun _ => rfl) (fun _ => rfl) (fun W hW => ecoalesce_any w0 _ _ iv iw r q sa sb oa ob W hW)
set_option maxHeartbeats 8000000 in
theorem onOne_any (op : Int) (iv : Value) (h : op = 3 ∨ op = 4 ∨ op = 17 ∨ op = 18) (w : World) : Calls Tryz.prog 101 #[.int .i64 op, .agg #[iv]] w fun e w' => e = .returned (.iface (tyE op) (.agg #[iv])) ∧ Below w.heap.size w w' := by
  rcases h with rfl | rfl | rfl | rfl
  all_goals
    go_enter Tryz.func101, Tryz.ntmps101
    go_wp2_with fail
    go_ret
    exact ⟨rfl, (Below.refl _ _).alloc (Nat.le_refl _) _⟩
set_option maxHeartbeats 16000000 in
theorem onTwo_any (op : Int) (iv iw : Value) (h : op = 5 ∨ op = 6 ∨ op = 7 ∨ op = 8 ∨ op = 9 ∨ op = 10 ∨ op = 11 ∨ op = 12 ∨ op = 13 ∨ op = 14 ∨ op = 15 ∨ op = 16 ∨ op = 19 ∨ op = 20) (w : World) : Calls Tryz.prog 102 #[.int .i64 op, .agg #[iv, iw]] w fun e w' => e = .returned (.iface (tyE op) (.agg #[iv, iw])) ∧ Below w.heap.size w w' := by
  rcases h with rfl | rfl | rfl | rfl | rfl | rfl | rfl | rfl | rfl | rfl | rfl | rfl | rfl | rfl
  all_goals
    go_enter Tryz.func102, Tryz.ntmps102
    go_wp2_with fail
    go_ret
    exact ⟨rfl, (Below.refl _ _).alloc (Nat.le_refl _) _⟩
end Go.Proofs.YtfedlchncngafaaGreatDoor

/-! CONTRACT of package eval's makeReady. CONDITIONS: each theorem's own hypotheses. -/
namespace Go.Proofs.YtfedlchncngafaaGreatDoor
open Go.RowKit
set_option linter.unusedVariables false
set_option maxRecDepth 100000

theorem Blk.cells7 {w : World} {b : Nat} {T : TypeId} {v0 v1 v2 v3 v4 v5 v6 : Value} (h : Blk w b T [v0, v1, v2, v3, v4, v5, v6]) : w.cell? ⟨b, 0, none⟩ = some v0 ∧ w.cell? ⟨b, 1, none⟩ = some v1 ∧ w.cell? ⟨b, 2, none⟩ = some v2 ∧ w.cell? ⟨b, 3, none⟩ = some v3 ∧ w.cell? ⟨b, 4, none⟩ = some v4 ∧ w.cell? ⟨b, 5, none⟩ = some v5 ∧ w.cell? ⟨b, 6, none⟩ = some v6 :=
  ⟨h.cell (j := 0) rfl, h.cell (j := 1) rfl, h.cell (j := 2) rfl, h.cell (j := 3) rfl, h.cell (j := 4) rfl, h.cell (j := 5) rfl, h.cell (j := 6) rfl⟩
theorem ready_iface (t : T) : ∃ ty rv, readyV t = .iface ty rv := by
  obtain ⟨d, l⟩ := t
  simp only [readyV]
  split
  · exact ⟨_, _, rfl⟩
  · split
    · exact ⟨_, _, rfl⟩
    · exact ⟨_, _, rfl⟩
def RdyOk (n : Nat) : Prop := ∀ (t : T) (ao : Option Addr) (cap : Nat) (w : World), t.deep ≤ n → formT t = 0 → AtT w t ao → t.kids.length ≤ cap → cap ≤ 9223372036854775807 →
    Calls Tryz.prog 68 #[exprV t ao cap] w fun e w' => e = .returned (readyV t) ∧ Below w.heap.size w w'
set_option maxHeartbeats 8000000 in
theorem rdy_leaf (d : Nd) (ao : Option Addr) (cap : Nat) (w : World) (h : d.op = 1 ∨ d.op = 2) :
    Calls Tryz.prog 68 #[exprV (.mk d []) ao cap] w fun e w' => e = .returned (readyV (.mk d [])) ∧ Below w.heap.size w w' := by
  have hz := Blk.new w #[.int .i64 d.op, .int .i64 d.k, .int .i64 d.i, .int .u64 d.b, .string (str d.t), .string (str d.n), .slice ao 0 cap] 27
  have hb := (Below.refl w.heap.size w).alloc (Nat.le_refl _) (.cells #[.int .i64 d.op, .int .i64 d.k, .int .i64 d.i, .int .u64 d.b, .string (str d.t), .string (str d.n), .slice ao 0 cap] 27)
  rw [exprV_cells]
  simp only [T.nd, T.kids, List.length_nil]
  rcases h with h | h
  · rw [ready_lit d [] h]
    obtain ⟨op, k, i, b, s, nm⟩ := d
    simp only at h hz hb ⊢
    subst h
    generalize str s = S at *
    generalize str nm = N at *
    obtain ⟨p0, p1, p2, p3, p4, p5, p6⟩ := hz.cells7
    generalize hw1 : w.alloc (.cells #[.int .i64 1, .int .i64 k, .int .i64 i, .int .u64 b, .string S, .string N, .slice ao 0 cap] 27) = w1 at *
    clear hz
    go_enter Tryz.func68, Tryz.ntmps68
    go_upto_region 1 with fail
    try rw [hw1]
    clear hw1
    go_wp2_with fail
    go_ret
    exact ⟨rfl, hb⟩
  · rw [ready_col d [] h]
    obtain ⟨op, k, i, b, s, nm⟩ := d
    simp only at h hz hb ⊢
    subst h
    generalize str s = S at *
    generalize str nm = N at *
    obtain ⟨p0, p1, p2, p3, p4, p5, p6⟩ := hz.cells7
    generalize hw1 : w.alloc (.cells #[.int .i64 2, .int .i64 k, .int .i64 i, .int .u64 b, .string S, .string N, .slice ao 0 cap] 27) = w1 at *
    clear hz
    go_enter Tryz.func68, Tryz.ntmps68
    go_upto_region 1 with fail
    try rw [hw1]
    clear hw1
    go_wp2_with fail
    go_ret
    exact ⟨rfl, hb⟩
set_option maxHeartbeats 16000000 in
theorem rdy_one (n : Nat) (IH : RdyOk n) (d : Nd) (u : T) (ao : Option Addr) (cap : Nat) (w : World) (ho : d.op = 3 ∨ d.op = 4 ∨ d.op = 17 ∨ d.op = 18) (hdp : u.deep ≤ n) (hf : formT u = 0) (hA : AtL w ao 0 [u]) (hcap : 1 ≤ cap) (hcap2 : cap ≤ 9223372036854775807) :
    Calls Tryz.prog 68 #[exprV (.mk d [u]) ao cap] w fun e w' => e = .returned (readyV (.mk d [u])) ∧ Below w.heap.size w w' := by
  obtain ⟨a, o, rfl, ha, hnode⟩ := AtL.at hA 0 u rfl
  rw [Nat.zero_add] at hnode
  obtain ⟨ao', cap', n1, n2, nA, z0, z1, z2, z3, z4, z5, z6⟩ := hnode.cells
  rw [ready_one d u (by omega)]
  have c1 := fun W (hW : Below w.heap.size w W) => IH u ao' cap' W hdp hf (nA.keep hW) n1 (by omega)
  have c2 := fun W => onOne_any d.op (readyV u) ho W
  simp only [exprV_cells] at c1
  have hz := Blk.new w #[.int .i64 d.op, .int .i64 d.k, .int .i64 d.i, .int .u64 d.b, .string (str d.t), .string (str d.n), .slice (some ⟨a, o, none⟩) 1 cap] 27
  have hb := (Below.refl w.heap.size w).alloc (Nat.le_refl _) (.cells #[.int .i64 d.op, .int .i64 d.k, .int .i64 d.i, .int .u64 d.b, .string (str d.t), .string (str d.n), .slice (some ⟨a, o, none⟩) 1 cap] 27)
  rw [exprV_cells]
  simp only [T.nd, T.kids, List.length_cons, List.length_nil]
  obtain ⟨ty1, rv1, hiv⟩ := ready_iface u
  rw [hiv]
  simp only [hiv] at c1 c2
  clear hiv
  generalize tyE d.op = ty at *
  obtain ⟨op, k, i, b, s, nm⟩ := d
  generalize u.kids.length = L at *
  obtain ⟨⟨op', k', i', b', s', nm'⟩, l'⟩ := u
  simp only [T.nd] at *
  generalize str s = S at *
  generalize str nm = N at *
  generalize str s' = S' at *
  generalize str nm' = N' at *
  have hop2 : (op == 2) = false := by simp; omega
  generalize hw1 : w.alloc (.cells #[.int .i64 op, .int .i64 k, .int .i64 i, .int .u64 b, .string S, .string N, .slice (some ⟨a, o, none⟩) 1 cap] 27) = w1 at *
  have d0 := (hb.cell (p := ⟨a, o + 0 * 7, none⟩) ha).trans z0
  have d1 := (hb.cell (p := ⟨a, o + 0 * 7 + 1, none⟩) ha).trans z1
  have d2 := (hb.cell (p := ⟨a, o + 0 * 7 + 2, none⟩) ha).trans z2
  have d3 := (hb.cell (p := ⟨a, o + 0 * 7 + 3, none⟩) ha).trans z3
  have d4 := (hb.cell (p := ⟨a, o + 0 * 7 + 4, none⟩) ha).trans z4
  have d5 := (hb.cell (p := ⟨a, o + 0 * 7 + 5, none⟩) ha).trans z5
  have d6 := (hb.cell (p := ⟨a, o + 0 * 7 + 6, none⟩) ha).trans z6
  simp only [Nat.zero_mul, Nat.add_zero] at d0 d1 d2 d3 d4 d5 d6
  have ha1 : a < w1.heap.size := Nat.lt_of_lt_of_le ha hb.size
  clear z0 z1 z2 z3 z4 z5 z6 hA hnode nA IH hdp hf ho ha
  obtain ⟨p0, _, _, _, _, _, p6⟩ := hz.cells7
  go_enter Tryz.func68, Tryz.ntmps68
  go_upto_region 1 with fail
  try rw [hw1]
  clear hw1
  go_upto_region 3 with fail
  refine wp_region_det 9 (by kernel_rfl) (by kernel_rfl) (by kernel_rfl) ?_
  simp only [List.take_succ_cons, List.take_zero, List.drop_succ_cons, List.drop_zero]
  apply wpDet_plain _ rfl; (focus (intro W hW; go_simp; exact ⟨rfl, Below.refl _ _⟩)); simp only [Act.put, List.setIfInBounds_toArray, List.set_cons_zero, List.set_cons_succ]
  apply wpDet_plain _ rfl; (focus (intro W hW; have q0 := (hz.call hW).cell (j := 0) rfl; go_simp; exact ⟨rfl, Below.refl _ _⟩)); simp only [Act.put, List.setIfInBounds_toArray, List.set_cons_zero, List.set_cons_succ]
  apply wpDet_plain _ rfl; (focus (intro W hW; go_simp; exact ⟨rfl, Below.refl _ _⟩)); simp only [Act.put, List.setIfInBounds_toArray, List.set_cons_zero, List.set_cons_succ]
  apply wpDet_plain _ rfl; (focus (intro W hW; have q0 := (hz.call hW).cell (j := 6) rfl; go_simp; exact ⟨rfl, Below.refl _ _⟩)); simp only [Act.put, List.setIfInBounds_toArray, List.set_cons_zero, List.set_cons_succ]
  apply wpDet_plain _ rfl; (focus (intro W hW; go_simp; exact ⟨rfl, Below.refl _ _⟩)); simp only [Act.put, List.setIfInBounds_toArray, List.set_cons_zero, List.set_cons_succ]
  apply wpDet_plain _ rfl; (focus (intro W hW; have q0 := (hW.cell (p := ⟨a, o, none⟩) ha1).trans d0; have q1 := (hW.cell (p := ⟨a, o + 1, none⟩) ha1).trans d1; have q2 := (hW.cell (p := ⟨a, o + 2, none⟩) ha1).trans d2; have q3 := (hW.cell (p := ⟨a, o + 3, none⟩) ha1).trans d3; have q4 := (hW.cell (p := ⟨a, o + 4, none⟩) ha1).trans d4; have q5 := (hW.cell (p := ⟨a, o + 5, none⟩) ha1).trans d5; have q6 := (hW.cell (p := ⟨a, o + 6, none⟩) ha1).trans d6; go_simp; exact ⟨rfl, Below.refl _ _⟩)); simp only [Act.put, List.setIfInBounds_toArray, List.set_cons_zero, List.set_cons_succ]
  apply wpDet_plain _ rfl; (focus (intro W hW; go_simp; exact c1 W (below_stepE hb hb.size hW))); simp only [Act.put, List.setIfInBounds_toArray, List.set_cons_zero, List.set_cons_succ]
  apply wpDet_plain _ rfl; (focus (intro W hW; go_simp; exact ⟨rfl, Below.refl _ _⟩)); simp only [Act.put, List.setIfInBounds_toArray, List.set_cons_zero, List.set_cons_succ]
  apply wpDet_plain _ rfl; (focus (intro W hW; go_simp; exact c2 W)); simp only [Act.put, List.setIfInBounds_toArray, List.set_cons_zero, List.set_cons_succ]
  refine wpDet_nil ?_; intro W hW
  clear c1 c2 d0 d1 d2 d3 d4 d5 d6 p0 p6
  go_wp2_with fail
  go_ret
  exact ⟨rfl, below_stepE hb hb.size hW⟩
set_option maxHeartbeats 16000000 in
theorem rdy_two (n : Nat) (IH : RdyOk n) (d : Nd) (u v : T) (ao : Option Addr) (cap : Nat) (w : World) (ho : d.op = 5 ∨ d.op = 6 ∨ d.op = 7 ∨ d.op = 8 ∨ d.op = 9 ∨ d.op = 10 ∨ d.op = 11 ∨ d.op = 12 ∨ d.op = 13 ∨ d.op = 14 ∨ d.op = 15 ∨ d.op = 16 ∨ d.op = 19 ∨ d.op = 20) (hdp : u.deep ≤ n) (hf : formT u = 0) (hdp2 : v.deep ≤ n) (hf2 : formT v = 0) (hA : AtL w ao 0 [u, v]) (hcap : 2 ≤ cap) (hcap2 : cap ≤ 9223372036854775807) :
    Calls Tryz.prog 68 #[exprV (.mk d [u, v]) ao cap] w fun e w' => e = .returned (readyV (.mk d [u, v])) ∧ Below w.heap.size w w' := by
  obtain ⟨a, o, rfl, ha, hnode⟩ := AtL.at hA 0 u rfl
  obtain ⟨a2, o2, e2, _, hnode2⟩ := AtL.at hA 1 v rfl
  obtain ⟨rfl, rfl⟩ : a2 = a ∧ o2 = o := by simp at e2; exact ⟨e2.1.symm, e2.2.symm⟩
  rw [Nat.zero_add] at hnode hnode2
  obtain ⟨ao', cap', n1, n2, nA, z0, z1, z2, z3, z4, z5, z6⟩ := hnode.cells
  obtain ⟨ao3, cap3, m1, m2, mA, x0, x1, x2, x3, x4, x5, x6⟩ := hnode2.cells
  rw [ready_two d u v (by omega)]
  have c1 := fun W (hW : Below w.heap.size w W) => IH u ao' cap' W hdp hf (nA.keep hW) n1 (by omega)
  have c3 := fun W (hW : Below w.heap.size w W) => IH v ao3 cap3 W hdp2 hf2 (mA.keep hW) m1 (by omega)
  have c2 := fun W => onTwo_any d.op (readyV u) (readyV v) ho W
  simp only [exprV_cells] at c1 c3
  have hz := Blk.new w #[.int .i64 d.op, .int .i64 d.k, .int .i64 d.i, .int .u64 d.b, .string (str d.t), .string (str d.n), .slice (some ⟨a2, o2, none⟩) 2 cap] 27
  have hb := (Below.refl w.heap.size w).alloc (Nat.le_refl _) (.cells #[.int .i64 d.op, .int .i64 d.k, .int .i64 d.i, .int .u64 d.b, .string (str d.t), .string (str d.n), .slice (some ⟨a2, o2, none⟩) 2 cap] 27)
  rw [exprV_cells]
  simp only [T.nd, T.kids, List.length_cons, List.length_nil]
  obtain ⟨ty1, rv1, hiv⟩ := ready_iface u
  obtain ⟨ty2, rv2, hiw⟩ := ready_iface v
  rw [hiv, hiw]
  simp only [hiv, hiw] at c1 c2 c3
  clear hiv hiw
  generalize tyE d.op = ty at *
  obtain ⟨op, k, i, b, s, nm⟩ := d
  generalize u.kids.length = L at *
  generalize v.kids.length = M at *
  obtain ⟨⟨op', k', i', b', s', nm'⟩, l'⟩ := u
  obtain ⟨⟨op3, k3, i3, b3, s3, nm3⟩, l3⟩ := v
  simp only [T.nd] at *
  generalize str s = S at *
  generalize str nm = N at *
  generalize str s' = S' at *
  generalize str nm' = N' at *
  generalize str s3 = S3 at *
  generalize str nm3 = N3 at *
  generalize hw1 : w.alloc (.cells #[.int .i64 op, .int .i64 k, .int .i64 i, .int .u64 b, .string S, .string N, .slice (some ⟨a2, o2, none⟩) 2 cap] 27) = w1 at *
  have d0 := (hb.cell (p := ⟨a2, o2 + 0 * 7, none⟩) ha).trans z0
  have d1 := (hb.cell (p := ⟨a2, o2 + 0 * 7 + 1, none⟩) ha).trans z1
  have d2 := (hb.cell (p := ⟨a2, o2 + 0 * 7 + 2, none⟩) ha).trans z2
  have d3 := (hb.cell (p := ⟨a2, o2 + 0 * 7 + 3, none⟩) ha).trans z3
  have d4 := (hb.cell (p := ⟨a2, o2 + 0 * 7 + 4, none⟩) ha).trans z4
  have d5 := (hb.cell (p := ⟨a2, o2 + 0 * 7 + 5, none⟩) ha).trans z5
  have d6 := (hb.cell (p := ⟨a2, o2 + 0 * 7 + 6, none⟩) ha).trans z6
  have g0 := (hb.cell (p := ⟨a2, o2 + 1 * 7, none⟩) ha).trans x0
  have g1 := (hb.cell (p := ⟨a2, o2 + 1 * 7 + 1, none⟩) ha).trans x1
  have g2 := (hb.cell (p := ⟨a2, o2 + 1 * 7 + 2, none⟩) ha).trans x2
  have g3 := (hb.cell (p := ⟨a2, o2 + 1 * 7 + 3, none⟩) ha).trans x3
  have g4 := (hb.cell (p := ⟨a2, o2 + 1 * 7 + 4, none⟩) ha).trans x4
  have g5 := (hb.cell (p := ⟨a2, o2 + 1 * 7 + 5, none⟩) ha).trans x5
  have g6 := (hb.cell (p := ⟨a2, o2 + 1 * 7 + 6, none⟩) ha).trans x6
  simp only [Nat.zero_mul, Nat.add_zero] at d0 d1 d2 d3 d4 d5 d6
  simp only [Nat.one_mul] at g0 g1 g2 g3 g4 g5 g6
  have ha1 : a2 < w1.heap.size := Nat.lt_of_lt_of_le ha hb.size
  clear z0 z1 z2 z3 z4 z5 z6 x0 x1 x2 x3 x4 x5 x6 hA hnode hnode2 nA mA IH hdp hf hdp2 hf2 ho ha e2
  obtain ⟨p0, _, _, _, _, _, p6⟩ := hz.cells7
  go_enter Tryz.func68, Tryz.ntmps68
  go_upto_region 1 with fail
  try rw [hw1]
  clear hw1
  go_upto_region 5 with fail
  refine wp_region_det 14 (by kernel_rfl) (by kernel_rfl) (by kernel_rfl) ?_
  simp only [List.take_succ_cons, List.take_zero, List.drop_succ_cons, List.drop_zero]
  apply wpDet_plain _ rfl; (focus (intro W hW; go_simp; exact ⟨rfl, Below.refl _ _⟩)); simp only [Act.put, List.setIfInBounds_toArray, List.set_cons_zero, List.set_cons_succ]
  apply wpDet_plain _ rfl; (focus (intro W hW; have q0 := (hz.call hW).cell (j := 0) rfl; go_simp; exact ⟨rfl, Below.refl _ _⟩)); simp only [Act.put, List.setIfInBounds_toArray, List.set_cons_zero, List.set_cons_succ]
  apply wpDet_plain _ rfl; (focus (intro W hW; go_simp; exact ⟨rfl, Below.refl _ _⟩)); simp only [Act.put, List.setIfInBounds_toArray, List.set_cons_zero, List.set_cons_succ]
  apply wpDet_plain _ rfl; (focus (intro W hW; have q0 := (hz.call hW).cell (j := 6) rfl; go_simp; exact ⟨rfl, Below.refl _ _⟩)); simp only [Act.put, List.setIfInBounds_toArray, List.set_cons_zero, List.set_cons_succ]
  apply wpDet_plain _ rfl; (focus (intro W hW; go_simp; exact ⟨rfl, Below.refl _ _⟩)); simp only [Act.put, List.setIfInBounds_toArray, List.set_cons_zero, List.set_cons_succ]
  apply wpDet_plain _ rfl; (focus (intro W hW; have q0 := (hW.cell (p := ⟨a2, o2, none⟩) ha1).trans d0; have q1 := (hW.cell (p := ⟨a2, o2 + 1, none⟩) ha1).trans d1; have q2 := (hW.cell (p := ⟨a2, o2 + 2, none⟩) ha1).trans d2; have q3 := (hW.cell (p := ⟨a2, o2 + 3, none⟩) ha1).trans d3; have q4 := (hW.cell (p := ⟨a2, o2 + 4, none⟩) ha1).trans d4; have q5 := (hW.cell (p := ⟨a2, o2 + 5, none⟩) ha1).trans d5; have q6 := (hW.cell (p := ⟨a2, o2 + 6, none⟩) ha1).trans d6; go_simp; exact ⟨rfl, Below.refl _ _⟩)); simp only [Act.put, List.setIfInBounds_toArray, List.set_cons_zero, List.set_cons_succ]
  apply wpDet_plain _ rfl; (focus (intro W hW; go_simp; exact c1 W (below_stepE hb hb.size hW))); simp only [Act.put, List.setIfInBounds_toArray, List.set_cons_zero, List.set_cons_succ]
  apply wpDet_plain _ rfl; (focus (intro W hW; go_simp; exact ⟨rfl, Below.refl _ _⟩)); simp only [Act.put, List.setIfInBounds_toArray, List.set_cons_zero, List.set_cons_succ]
  apply wpDet_plain _ rfl; (focus (intro W hW; have q0 := (hz.call hW).cell (j := 6) rfl; go_simp; exact ⟨rfl, Below.refl _ _⟩)); simp only [Act.put, List.setIfInBounds_toArray, List.set_cons_zero, List.set_cons_succ]
  apply wpDet_plain _ rfl; (focus (intro W hW; go_simp; exact ⟨rfl, Below.refl _ _⟩)); simp only [Act.put, List.setIfInBounds_toArray, List.set_cons_zero, List.set_cons_succ]
  apply wpDet_plain _ rfl; (focus (intro W hW; have q0 := (hW.cell (p := ⟨a2, o2 + 7, none⟩) ha1).trans g0; have q1 := (hW.cell (p := ⟨a2, o2 + 7 + 1, none⟩) ha1).trans g1; have q2 := (hW.cell (p := ⟨a2, o2 + 7 + 2, none⟩) ha1).trans g2; have q3 := (hW.cell (p := ⟨a2, o2 + 7 + 3, none⟩) ha1).trans g3; have q4 := (hW.cell (p := ⟨a2, o2 + 7 + 4, none⟩) ha1).trans g4; have q5 := (hW.cell (p := ⟨a2, o2 + 7 + 5, none⟩) ha1).trans g5; have q6 := (hW.cell (p := ⟨a2, o2 + 7 + 6, none⟩) ha1).trans g6; go_simp; exact ⟨rfl, Below.refl _ _⟩)); simp only [Act.put, List.setIfInBounds_toArray, List.set_cons_zero, List.set_cons_succ]
  apply wpDet_plain _ rfl; (focus (intro W hW; go_simp; exact c3 W (below_stepE hb hb.size hW))); simp only [Act.put, List.setIfInBounds_toArray, List.set_cons_zero, List.set_cons_succ]
  apply wpDet_plain _ rfl; (focus (intro W hW; go_simp; exact ⟨rfl, Below.refl _ _⟩)); simp only [Act.put, List.setIfInBounds_toArray, List.set_cons_zero, List.set_cons_succ]
  apply wpDet_plain _ rfl; (focus (intro W hW; go_simp; exact c2 W)); simp only [Act.put, List.setIfInBounds_toArray, List.set_cons_zero, List.set_cons_succ]
  refine wpDet_nil ?_; intro W hW
  clear c1 c2 c3 d0 d1 d2 d3 d4 d5 d6 g0 g1 g2 g3 g4 g5 g6 p0 p6
  go_wp2_with fail
  go_ret
  exact ⟨rfl, below_stepE hb hb.size hW⟩
theorem rdy_any : ∀ n, RdyOk n := by
  intro n
  induction n with
  | zero => intro t ao cap w h; have := T.deep_eq t; omega
  | succ n ih =>
    rintro ⟨d, l⟩ ao cap w hdp hf hA hcap hcap2
    obtain ⟨hn, hl⟩ := formT_open d l hf
    obtain ⟨⟨o1, o2⟩, hp, _, hv⟩ := nodeF_open d _ hn
    have hdl : deepL l ≤ n := by simp only [T.deep] at hdp; omega
    simp only [AtT] at hA
    have hA2 := hA.2
    simp only [T.kids] at hcap
    unfold partsN at hp
    by_cases h12 : d.op = 1 ∨ d.op = 2
    · rw [if_pos h12] at hp
      obtain rfl := List.eq_nil_of_length_eq_zero hp
      exact rdy_leaf d ao cap w h12
    rw [if_neg h12] at hp
    by_cases ho : d.op = 3 ∨ d.op = 4 ∨ d.op = 17 ∨ d.op = 18
    · rw [if_pos ho] at hp
      match l, hp, hA2, hdl, hl, hcap with
      | [u], _, hA2, hdl, hl, hcap =>
        exact rdy_one n ih d u ao cap w ho (Nat.le_trans (deepK_mem (j := 0) rfl) hdl) (formL_mem _ hl u (by simp)) hA2 hcap hcap2
    · rw [if_neg ho] at hp
      match l, hp, hA2, hdl, hl, hcap with
      | [u, v], _, hA2, hdl, hl, hcap =>
        exact rdy_two n ih d u v ao cap w (by omega) (Nat.le_trans (deepK_mem (j := 0) rfl) hdl) (formL_mem _ hl u (by simp)) (Nat.le_trans (deepK_mem (l := [u, v]) (j := 1) rfl) hdl) (formL_mem _ hl v (by simp)) hA2 hcap hcap2
end Go.Proofs.YtfedlchncngafaaGreatDoor
