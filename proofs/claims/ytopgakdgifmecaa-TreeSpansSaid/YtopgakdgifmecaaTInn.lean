/-
  CONTRACT of the reference's inner.
  CONDITIONS: each theorem's own hypotheses.
-/
import Derived.Test.YtopgakdgifmecaaTPairs
import Derived.Test.YtopgakdgifmecaaTInnP
namespace Go.Proofs.Ytopgakdgifmecaa
open Go.RowKit
set_option linter.unusedVariables false
set_option maxRecDepth 100000

def natsV (l : List Nat) : List Value := l.map (fun n => .int .i64 ((n : Nat) : Int))
/-- All blocks below M but g are as they were. -/
structure Far (g M : Nat) (a w : World) : Prop where
  size : M ≤ w.heap.size
  block : ∀ b, b < M → b ≠ g → w.heap[b]? = a.heap[b]?
theorem Far.refl (g : Nat) (w : World) : Far g w.heap.size w w := ⟨Nat.le_refl _, fun _ _ _ => rfl⟩
theorem Far.trans {g M : Nat} {a b c : World} (h : Far g M a b) (k : Far g b.heap.size b c) : Far g M a c := ⟨Nat.le_trans h.size k.size, fun x hx hg => (k.block x (Nat.lt_of_lt_of_le hx h.size) hg).trans (h.block x hx hg)⟩
theorem Far.ofBelow {w w' : World} (g : Nat) (h : Below w.heap.size w w') : Far g w.heap.size w w' := ⟨h.size, fun b hb _ => h.block b hb⟩
theorem Far.below {g M : Nat} {a w w' : World} (h : Far g M a w) (k : Below w.heap.size w w') : Far g M a w' := h.trans (.ofBelow g k)
theorem Far.grown {g M : Nat} {a w w' : World} (h : Far g M a w) {row : Option Nat} (hg : w.grownBy w' row) (hr : ∀ b, row = some b → M ≤ b) : Far g M a w' := ⟨Nat.le_trans h.size hg.size, fun b hb hne => (hg.block b (Nat.lt_of_lt_of_le hb h.size) (fun e => by have := hr b e.symm; omega)).trans (h.block b hb hne)⟩
theorem Far.blk {g M b : Nat} {a w : World} {T : TypeId} {cs : List Value} (h : Far g M a w) (hB : Blk a b T cs) (hb : b < M) (hne : b ≠ g) : Blk w b T cs := hB.same (h.block b hb hne)
theorem Far.pr {g base : Nat} {w w' : World} {v : Value} {l : List En} (h : Far g w.heap.size w w') (ho : OwnPr w base v l) (hb : g < base) : OwnPr w' base v l := owns_same ho (fun b e => h.block b (ho.lt b e).2 (by have := (ho.lt b e).1; omega))
theorem below_cell_of {g : Nat} {a w : World} (h : Below g a w) {p : Addr} {v : Value} (hp : p.block < g) (hc : a.cell? p = some v) : w.cell? p = some v := (h.cell hp).trans hc
/-- The counts stand in the block g; what lies below is as it was. -/
structure ISt (w0 W : World) (g : Nat) (seen : List Nat) : Prop where
  low : Below g w0 W
  size : g + 1 ≤ W.heap.size
  cnt : Blk W g 3 (natsV seen)
theorem ISt.below {w0 W W' : World} {g : Nat} {seen : List Nat} (h : ISt w0 W g seen) (hb : Below W.heap.size W W') : ISt w0 W' g seen := ⟨below_stepE h.low (Nat.le_trans (Nat.le_succ _) h.size) hb, Nat.le_trans h.size hb.size, h.cnt.call hb⟩
theorem ISt.grown {w0 W W' : World} {g : Nat} {seen : List Nat} (h : ISt w0 W g seen) {row : Option Nat} (hg : W.grownBy W' row) (hr : ∀ b, row = some b → g + 1 ≤ b) : ISt w0 W' g seen :=
  ⟨h.low.grown hg (Nat.le_trans (Nat.le_succ _) h.size) (fun b hb => Nat.le_trans (Nat.le_succ _) (hr b hb)), Nat.le_trans h.size hg.size, h.cnt.same (hg.block g h.size (fun e => by have := hr g e.symm; omega))⟩
theorem nats_get (l : List Nat) (j : Nat) (hj : j < l.length) : (natsV l)[j]? = some (.int .i64 ((l.getD j 0 : Nat) : Int)) := by
  unfold natsV
  rw [List.getElem?_map, List.getElem?_eq_getElem hj, List.getD_eq_getElem?_getD, List.getElem?_eq_getElem hj]; rfl
theorem ISt.bump {w0 W : World} {g : Nat} {seen : List Nat} (h : ISt w0 W g seen) (i : Nat) : ISt w0 (W.setCell ⟨g, i, none⟩ (.int .i64 (((seen.getD i 0 : Nat) : Int) + 1))) g (bump seen i) := by
  refine ⟨h.low.setCell (p := ⟨g, i, none⟩) (Nat.le_refl _) _, by simpa [World.setCell] using h.size, ?_⟩
  have := h.cnt.set i (.int .i64 (((seen.getD i 0 : Nat) : Int) + 1))
  unfold natsV at this ⊢
  unfold Go.Proofs.Ytopgakdgifmecaa.bump
  rw [List.map_set]
  exact this
/-- What holds in the loop: the counts, and all that was there at its start. -/
structure LSt (w0 w3 : World) (g M : Nat) (seen : List Nat) (W : World) : Prop where
  ist : ISt w0 W g seen
  far : Far g M w3 W
  gM : g < M
theorem LSt.below {w0 w3 W W' : World} {g M : Nat} {seen : List Nat} (h : LSt w0 w3 g M seen W) (hb : Below W.heap.size W W') : LSt w0 w3 g M seen W' := ⟨h.ist.below hb, h.far.below hb, h.gM⟩
theorem LSt.grown {w0 w3 W W' : World} {g M : Nat} {seen : List Nat} (h : LSt w0 w3 g M seen W) {row : Option Nat} (hg : W.grownBy W' row) (hr : ∀ b, row = some b → M ≤ b) : LSt w0 w3 g M seen W' := ⟨h.ist.grown hg (fun b hb => Nat.le_trans h.gM (hr b hb)), h.far.grown hg hr, h.gM⟩
theorem LSt.size {w0 w3 W : World} {g M : Nat} {seen : List Nat} (h : LSt w0 w3 g M seen W) : M ≤ W.heap.size := h.far.size
/-- The node's own three slices stand at gn; the tree at gt. -/
structure NodeB (w3 : World) (g M gt gn : Nat) (s : NqS) (L cap K V C : Nat) (ao : Option Addr) : Prop where
  t : Blk w3 gt 24 [.slice ao L cap]
  n : Blk w3 gn 51 [.slice s.ak K s.ck, .slice s.av V s.cv, .slice s.ac C s.cc]
  tM : gt < M
  nM : gn < M
  tg : gt ≠ g
  ng : gn ≠ g
theorem LSt.at0 {w0 w3 W : World} {g M gt gn L cap K V C : Nat} {seen : List Nat} {s : NqS} {ao : Option Addr} (h : LSt w0 w3 g M seen W) (k : NodeB w3 g M gt gn s L cap K V C ao) : W.cell? ⟨gn, 0, none⟩ = some (.slice s.ak K s.ck) := (h.far.blk k.n k.nM k.ng).cell (j := 0) rfl
theorem LSt.at1 {w0 w3 W : World} {g M gt gn L cap K V C : Nat} {seen : List Nat} {s : NqS} {ao : Option Addr} (h : LSt w0 w3 g M seen W) (k : NodeB w3 g M gt gn s L cap K V C ao) : W.cell? ⟨gn, 1, none⟩ = some (.slice s.av V s.cv) := (h.far.blk k.n k.nM k.ng).cell (j := 1) rfl
theorem LSt.at2 {w0 w3 W : World} {g M gt gn L cap K V C : Nat} {seen : List Nat} {s : NqS} {ao : Option Addr} (h : LSt w0 w3 g M seen W) (k : NodeB w3 g M gt gn s L cap K V C ao) : W.cell? ⟨gn, 2, none⟩ = some (.slice s.ac C s.cc) := (h.far.blk k.n k.nM k.ng).cell (j := 2) rfl
theorem LSt.tree {w0 w3 W : World} {g M gt gn L cap K V C : Nat} {seen : List Nat} {s : NqS} {ao : Option Addr} (h : LSt w0 w3 g M seen W) (k : NodeB w3 g M gt gn s L cap K V C ao) : W.cell? ⟨gt, 0, none⟩ = some (.slice ao L cap) := (h.far.blk k.t k.tM k.tg).cell (j := 0) rfl
/-- What the reference's reading of a node answers. -/
def InnQ (w0 W : World) (g L : Nat) (res : Option IR) (e : Ending) (w' : World) : Prop := Far g W.heap.size W w' ∧ ((res = none ∧ e = .returned (.tuple #[.slice none 0 0, .int .i64 0, .bool false]) ∧ ∃ s, s.length = L ∧ ISt w0 w' g s) ∨ (∃ r v, res = some r ∧ e = .returned (.tuple #[v, .int .i64 (r.d : Int), .bool true]) ∧ OwnPr w' (g + 1) v r.l ∧ ISt w0 w' g r.seen))
theorem InnQ.no {w0 W w' : World} {g L : Nat} {res : Option IR} {s : List Nat} (h : Far g W.heap.size W w') (hr : res = none) (hs : s.length = L) (hI : ISt w0 w' g s) : InnQ w0 W g L res (.returned (.tuple #[.slice none 0 0, .int .i64 0, .bool false])) w' := ⟨h, .inl ⟨hr, rfl, s, hs, hI⟩⟩
theorem InnQ.yes {w0 W w' : World} {g L : Nat} {res : Option IR} {r : IR} {v : Value} {d : Int} (h : Far g W.heap.size W w') (hr : res = some r) (hd : d = (r.d : Int)) (ho : OwnPr w' (g + 1) v r.l) (hI : ISt w0 w' g r.seen) : InnQ w0 W g L res (.returned (.tuple #[v, .int .i64 d, .bool true])) w' := ⟨h, .inr ⟨r, v, hr, by rw [hd], ho, hI⟩⟩
/-- The rows stay small. -/
structure SmallP (n : Nat) (s P : List Nat) (out j deep : Nat) : Prop where
  len : s.length = n
  one : ∀ j, s.getD j 0 ≤ 1
  out : out ≤ 3 * P.length + j
  lt : ∀ p ∈ P, p < n
  cnt : ∀ j, P.count j ≤ s.getD j 0
  deep : deep ≤ 200
theorem SmallP.le {n out j deep : Nat} {s P : List Nat} (h : SmallP n s P out j deep) (hn : n ≤ 100) (hj : j ≤ 5) : out ≤ 305 := by
  have := pos_le n P h.lt (fun j => Nat.le_trans (h.cnt j) (h.one j))
  have := h.out
  omega
theorem SmallP.step {ns : List Nq} {s P : List Nat} {out j deep f k : Nat} {r : IR} (h : SmallP ns.length s P out j deep) (hk : k < ns.length) (hf : ns.length - k ≤ f) (hf2 : f ≤ 150) (hr : innerR ns f k s = some r) : SmallP ns.length r.seen (P ++ posQ ns f k) (out + r.l.length) j r.d := by
  obtain ⟨h1, h2, h3, h4, h5, h6⟩ := inner_small ns f k s r hk hf h.len h.one hr
  refine ⟨h5, h4, ?_, fun p hp => ?_, fun q => ?_, by omega⟩
  · have := h.out
    rw [List.length_append]
    omega
  · rcases List.mem_append.1 hp with hp | hp
    · exact h.lt p hp
    · exact h2 p hp
  · rw [List.count_append, h3 q]
    have := h.cnt q
    omega
theorem SmallP.more {n out j deep : Nat} {s P : List Nat} (h : SmallP n s P out j deep) (out' : Nat) (ho : out' ≤ out + 1) : SmallP n s P out' (j + 1) deep := ⟨h.len, h.one, by have := h.out; omega, h.lt, h.cnt, h.deep⟩
theorem take_snocI {α : Type} (l : List α) (j : Nat) (x : α) (h : l[j]? = some x) : l.take (j + 1) = l.take j ++ [x] := by
  obtain ⟨hj, he⟩ := List.getElem?_eq_some_iff.1 h
  rw [List.take_succ_eq_append_getElem hj, he]
theorem ents_at (n : Nq) (hv : n.vals.length = n.keys.length) (j : Nat) (hj : j < n.keys.length) : ∃ key x, n.keys[j]? = some key ∧ n.vals[j]? = some x ∧ (entsQ n)[j]? = some (key, x) := by
  refine ⟨n.keys[j], n.vals[j]'(by omega), List.getElem?_eq_getElem hj, List.getElem?_eq_getElem (by omega), ?_⟩
  unfold entsQ
  rw [List.getElem?_zip_eq_some]
  exact ⟨List.getElem?_eq_getElem hj, List.getElem?_eq_getElem (by omega)⟩
/-- The step over a kid. -/
theorem kidsR_cons (rec : Nat → List Nat → Option IR) (len i : Nat) (k : Int) (ks : List Int) (es : List En) (first : Bool) (seen : List Nat) (out : List En) (deep : Nat) : kidsR rec len i (k :: ks) es first seen out deep = if k ≤ (i : Int) ∨ (len : Int) ≤ k then none else match rec k.toNat seen with
    | none => none
    | some r => if first = false ∧ r.d ≠ deep then none else kidsR rec len i ks es.tail false r.seen (out ++ r.l ++ es.take 1) r.d := rfl
def InF20 (vo : Value) (out : List En) (gn kb ko KN ck nj vb vq V cv M : Nat) (key : List UInt8) (x : Int) : Nat → Value → World → Prop
  | 0, v, _ => v = vo
  | 1, v, _ => v = .pointer (some ⟨gn, 0, none⟩)
  | 2, v, _ => v = .slice (some ⟨kb, ko, none⟩) KN ck
  | 3, v, _ => v = .int .i64 (nj : Int)
  | 4, v, _ => v = .pointer (some ⟨kb, ko + nj, none⟩)
  | 5, v, _ => v = .string (str key)
  | 6, v, _ => v = .pointer (some ⟨gn, 1, none⟩)
  | 7, v, _ => v = .slice (some ⟨vb, vq, none⟩) V cv
  | 8, v, _ => v = .int .i64 (nj : Int)
  | 9, v, _ => v = .pointer (some ⟨vb, vq + nj, none⟩)
  | 10, v, _ => v = .int .i64 x
  | 11, v, _ => v = .agg #[.string (str key), .int .i64 x]
  | 12, v, w => ∃ k, v = .slice (some ⟨k, 0, none⟩) 1 1 ∧ Blk w k 57 (cellsE1 (key, x)) ∧ vo.ownBlock ≠ some k
  | 13, v, w => OwnPr w M v (out ++ [(key, x)])
  | _, _, _ => True
set_option maxHeartbeats 32000000 in
theorem inner_any (w0 : World) (ns : List Nq) (ao : Option Addr) (cap cs : Nat) (hl : ns.length ≤ 100) (hF : FewKeys ns) (hS : Nodes w0 ao ns) : ∀ (f : Nat), f ≤ 150 → ∀ (i : Nat), i < ns.length → ns.length - i ≤ f → ∀ (seen : List Nat) (W : World), seen.length = ns.length → (∀ j, seen.getD j 0 ≤ 1) → ISt w0 W w0.heap.size seen →
    Calls Try.prog 29 #[.agg #[.slice ao ns.length cap], .int .i64 (i : Int), .slice (some ⟨w0.heap.size, 0, none⟩) ns.length cs] W fun e w' => InnQ w0 W w0.heap.size ns.length (innerR ns f i seen) e w' := by
  intro f
  induction f with
  | zero => intro _ i hi hf; omega
  | succ f ih =>
    intro hf150 i hi hfi seen W hsl hs1 hI
    obtain ⟨RES, hRES⟩ : ∃ R, innerR ns (f + 1) i seen = R := ⟨_, rfl⟩
    rw [hRES]
    obtain ⟨n, hn⟩ : ∃ n, ns[i]? = some n := ⟨ns[i], List.getElem?_eq_getElem hi⟩
    simp only [innerR, hn] at hRES
    obtain ⟨a, o, sq, hao, ha, hin, x0, x1, x2⟩ := hS.at hn
    subst hao
    obtain ⟨L, hL⟩ : ∃ L, ns.length = L := ⟨_, rfl⟩
    obtain ⟨KN, hK⟩ : ∃ KN, n.keys.length = KN := ⟨_, rfl⟩
    obtain ⟨V, hV⟩ : ∃ V, n.vals.length = V := ⟨_, rfl⟩
    obtain ⟨C, hC⟩ : ∃ C, n.kids.length = C := ⟨_, rfl⟩
    obtain ⟨S0, hS0⟩ : ∃ S0, seen.getD i 0 = S0 := ⟨_, rfl⟩
    have hS01 : S0 ≤ 1 := by rw [← hS0]; exact hs1 i
    have hbi : (bump seen i).getD i 0 = S0 + 1 := by rw [bump_get seen i i (by omega), if_pos rfl, hS0]
    have hK8 : KN ≤ 8796093022208 := by rw [← hK]; exact hF n (List.mem_of_getElem? hn)
    have hVm : V ≤ 9223372036854775807 := by have := hin.v1; have := hin.v2; omega
    have hCm : C ≤ 9223372036854775807 := by have := hin.c1; have := hin.c2; omega
    obtain ⟨p1, hp1⟩ : ∃ b, decide ((KN : Int) < 1) = b := ⟨_, rfl⟩
    obtain ⟨p2, hp2⟩ : ∃ b, decide ((3 : Int) < (KN : Int)) = b := ⟨_, rfl⟩
    obtain ⟨p3, hp3⟩ : ∃ b, ((V : Int) != (KN : Int)) = b := ⟨_, rfl⟩
    obtain ⟨p4, hp4⟩ : ∃ b, ((C : Int) != 0) = b := ⟨_, rfl⟩
    obtain ⟨p5, hp5⟩ : ∃ b, ((C : Int) != (KN : Int) + 1) = b := ⟨_, rfl⟩
    obtain ⟨p6, hp6⟩ : ∃ b, decide ((1 : Int) < (S0 : Int) + 1) = b := ⟨_, rfl⟩
    have hWQ : wholeQ n = ((!p1 && !p2) && (!p3 && (!p4 || !p5))) := by
      unfold wholeQ
      rw [hK, hV, hC, ← hp1, ← hp2, ← hp3, ← hp4, ← hp5]
      have e1 : decide (1 ≤ KN) = !decide ((KN : Int) < 1) := by rw [Bool.eq_iff_iff]; simp; omega
      have e2 : decide (KN ≤ 3) = !decide ((3 : Int) < (KN : Int)) := by rw [Bool.eq_iff_iff]; simp; omega
      have e3 : (V == KN) = !((V : Int) != (KN : Int)) := by rw [Bool.eq_iff_iff]; simp; omega
      have e4 : (C == 0) = !((C : Int) != 0) := by rw [Bool.eq_iff_iff]; simp
      have e5 : (C == KN + 1) = !((C : Int) != (KN : Int) + 1) := by rw [Bool.eq_iff_iff]; simp; omega
      rw [e1, e2, e3, e4, e5]
    have hP6 : (1 < (bump seen i).getD i 0) ↔ p6 = true := by rw [hbi, ← hp6, decide_eq_true_iff]; omega
    have hKID : (n.kids = []) ↔ p4 = false := by
      rw [← hp4]
      constructor
      · intro h
        have : C = 0 := by rw [← hC, h]; rfl
        subst this; rfl
      · intro h
        have h2 : C = 0 := by
          have : (C : Int) = 0 := by simpa using h
          omega
        exact List.eq_nil_of_length_eq_zero (hC.trans h2)
    have hREJ : (p1 || p2 || p3 || (p4 && p5) || p6) = true → RES = none := fun h => by
      rw [← hRES, if_pos]
      by_cases h6 : p6 = true
      · exact .inr (hP6.2 h6)
      · left
        rw [hWQ]
        cases p1 <;> cases p2 <;> cases p3 <;> cases p4 <;> cases p5 <;> simp_all
    have hACC : (p1 || p2 || p3 || (p4 && p5) || p6) = false → (if n.kids = [] then some (IR.mk (entsQ n) 1 (bump seen i)) else kidsR (innerR ns f) ns.length i n.kids (entsQ n) true (bump seen i) [] 0) = RES := fun h => by
      have hno : ¬ (wholeQ n = false ∨ 1 < (bump seen i).getD i 0) := by
        rintro (h1 | h1)
        · rw [hWQ] at h1
          cases p1 <;> cases p2 <;> cases p3 <;> cases p4 <;> cases p5 <;> simp_all
        · have := hP6.1 h1
          rw [this] at h
          simp at h
      exact (if_neg hno).symm.trans hRES
    have HREJ := Lib.hid hREJ
    have HACC := Lib.hid hACC
    have HKD := Lib.hid hKID
    -- the two blocks of the call'sq own
    obtain ⟨gt, hgt⟩ : ∃ gt, W.heap.size = gt := ⟨_, rfl⟩
    have zt := Blk.new W #[.slice (some ⟨a, o, none⟩) L cap] 24
    have bt := (Below.refl W.heap.size W).alloc (Nat.le_refl _) (.cells #[.slice (some ⟨a, o, none⟩) L cap] 24)
    have nt : (W.alloc (.cells #[.slice (some ⟨a, o, none⟩) L cap] 24)).heap.size = gt + 1 := by simp [hgt]
    generalize hwt : W.alloc (.cells #[.slice (some ⟨a, o, none⟩) L cap] 24) = wt at zt bt nt
    have zn := Blk.new wt #[.slice sq.ak KN sq.ck, .slice sq.av V sq.cv, .slice sq.ac C sq.cc] 51
    have bn := (Below.refl wt.heap.size wt).alloc (Nat.le_refl _) (.cells #[.slice sq.ak KN sq.ck, .slice sq.av V sq.cv, .slice sq.ac C sq.cc] 51)
    have nn : (wt.alloc (.cells #[.slice sq.ak KN sq.ck, .slice sq.av V sq.cv, .slice sq.ac C sq.cc] 51)).heap.size = gt + 2 := by simp [nt]
    generalize hwn : wt.alloc (.cells #[.slice sq.ak KN sq.ck, .slice sq.av V sq.cv, .slice sq.ac C sq.cc] 51) = wn at zn bn nn
    rw [nt] at zn
    rw [hgt] at zt
    have It := hI.below bt
    have In := It.below bn
    have zt2 := zt.call bn
    obtain ⟨g, hg⟩ : ∃ g, w0.heap.size = g := ⟨_, rfl⟩
    rw [hg] at hI It In ih ⊢
    rw [hg] at ha
    have hgg : g < gt := by have := hI.size; omega
    have hB := In.bump i
    rw [hS0] at hB
    generalize hw3 : wn.setCell ⟨g, i, none⟩ (.int .i64 ((S0 : Int) + 1)) = w3 at hB
    have zt3 : Blk w3 gt 24 [.slice (some ⟨a, o, none⟩) L cap] := by rw [← hw3]; exact zt2.other ⟨g, i, none⟩ _ (by show gt ≠ g; omega)
    have zn3 : Blk w3 (gt + 1) 51 [.slice sq.ak KN sq.ck, .slice sq.av V sq.cv, .slice sq.ac C sq.cc] := by rw [← hw3]; exact zn.other ⟨g, i, none⟩ _ (by show gt + 1 ≠ g; omega)
    have n3 : w3.heap.size = gt + 2 := by rw [← hw3]; simpa [World.setCell] using nn
    have hN : NodeB w3 g (gt + 2) gt (gt + 1) sq L cap KN V C (some ⟨a, o, none⟩) := ⟨zt3, zn3, by omega, by omega, by omega, by omega⟩
    have hfar0 : Far g W.heap.size W w3 := by
      have h1 := ((Far.ofBelow g bt).below bn)
      refine ⟨by omega, fun b hb hne => ?_⟩
      rw [← hw3, heap_setCell_other wn ⟨g, i, none⟩ b _ hne]
      exact h1.block b hb hne
    have hfarE : ∀ w', Far g (gt + 2) w3 w' → Far g W.heap.size W w' := fun w' h => hfar0.trans (by rw [n3]; exact h)
    have hLS : LSt w0 w3 g (gt + 2) (bump seen i) w3 := ⟨hB, by rw [← n3]; exact Far.refl g w3, by omega⟩
    -- facts for the walk
    rw [hK] at x0
    rw [hV] at x1
    rw [hC] at x2
    have d0 := below_cell_of It.low (p := ⟨a, o + i * 3, none⟩) ha x0
    have d1 := below_cell_of It.low (p := ⟨a, o + i * 3 + 1, none⟩) ha x1
    have d2 := below_cell_of It.low (p := ⟨a, o + i * 3 + 2, none⟩) ha x2
    have c0 := In.cnt.cell (nats_get seen i (by omega))
    rw [hS0] at c0
    have cz := In.cnt.free i
    have pt := zt.cell (j := 0) rfl
    have HN := hN
    have HLS := Lib.hid hLS
    have HFE := Lib.hid hfarE
    have HWT := Lib.hid hwt
    have HNT := Lib.hid nt
    have HWN := Lib.hid hwn
    have HW3 := Lib.hid hw3
    have HIH := Lib.hid ih
    have HP5 := Lib.hid hp5
    have HP1 := Lib.hid hp1
    have HP2 := Lib.hid hp2
    have HP3 := Lib.hid hp3
    have HP4 := Lib.hid hp4
    have HP6 := Lib.hid hp6
    have HEL : Hid (V = KN → (entsQ n).length = KN) := Lib.hid (fun h => by unfold entsQ; rw [List.length_zip]; omega)
    have HE : Hid (V = KN → ∀ j, j < KN → ∃ (key : List UInt8) (x : Int) (kb ko vb vq : Nat), sq.ak = some ⟨kb, ko, none⟩ ∧ sq.av = some ⟨vb, vq, none⟩ ∧ kb < g ∧ vb < g ∧ w0.cell? ⟨kb, ko + j, none⟩ = some (.string (str key)) ∧ w0.cell? ⟨vb, vq + j, none⟩ = some (.int .i64 x) ∧ (entsQ n)[j]? = some (key, x) ∧ j < V) := Lib.hid (fun h j hj => by
      obtain ⟨key, x, h1, h2, h3⟩ := ents_at n (by omega) j (by omega)
      rcases hin.K with e | ⟨kb, ko, k1, k2, k3⟩
      · rw [e] at h1; simp at h1
      rcases hin.V.2 with e | ⟨vb, vq, v1, v2, v3⟩
      · rw [e] at h2; simp at h2
      exact ⟨key, x, kb, ko, vb, vq, k1, v1, by omega, by omega, k3 j key h1, v3 j x h2, h3, by omega⟩)
    have HKC : Hid (∀ j, j < C → ∃ (kx : Int) (cb cp : Nat), n.kids[j]? = some kx ∧ sq.ac = some ⟨cb, cp, none⟩ ∧ cb < g ∧ w0.cell? ⟨cb, cp + j, none⟩ = some (.int .i64 kx)) := Lib.hid (fun j hj => by
      have h1 : n.kids[j]? = some (n.kids[j]'(by omega)) := List.getElem?_eq_getElem (by omega)
      rcases hin.C.2 with e | ⟨cb, cp, c1, c2, c3⟩
      · have h0 : n.kids.length = 0 := by rw [e]; rfl
        omega
      exact ⟨_, cb, cp, h1, c1, by omega, c3 j _ h1⟩)
    have HL := Lib.hid hL
    have HK := Lib.hid hK
    have HV := Lib.hid hV
    have HC := Lib.hid hC
    have HNN := Lib.hid hn
    have HIN := Lib.hid hin
    have HSL := Lib.hid hsl
    have HS1 := Lib.hid hs1
    have HS0 := Lib.hid hS0
    rw [hL] at hi hfi hl ⊢
    have iL : (i : Int) < (L : Int) := by omega
    have wS : IntKind.i64.wrap ((S0 : Int) + 1) = (S0 : Int) + 1 := by rw [IntKind.wrap_i64]; omega
    have wK : IntKind.i64.wrap ((KN : Int) + 1) = (KN : Int) + 1 := by rw [IntKind.wrap_i64]; omega
    clear hREJ hACC hKID hP6 hWQ hRES hbi zt bt nt zn bn nn hwt hwn hw3 It In hI hB zt2 zt3 zn3 hfar0 hfarE hLS ih hp5 hp1 hp2 hp3 hp4 hp6 x0 x1 x2 hL hK hV hC hn hin hsl hs1 hS0 hF hS hN hCm hVm
    go_enter Try.func29, Try.ntmps29
    go_upto_region 1 with fail
    rw [HWT.out]
    go_upto_region 2 with fail
    rw [HWN.out, HNT.out]
    go_upto_region 3 with fail
    rw [HW3.out]
    have q0 := HLS.out.at0 HN
    have q1 := HLS.out.at1 HN
    have q2 := HLS.out.at2 HN
    have HBL : Hid ((bump seen i).length = L) := Lib.hid (by rw [bump_len, HSL.out, HL.out])
    have HGB : Hid ((bump seen i).getD i 0 = S0 + 1) := Lib.hid (by rw [bump_get seen i i (by rw [HSL.out, HL.out]; exact hi), if_pos rfl, HS0.out])
    have qc := HLS.out.ist.cnt.cell (nats_get (bump seen i) i (by rw [HBL.out]; exact hi))
    rw [HGB.out] at qc
    obtain ⟨k, hkI⟩ : ∃ k : Int, (KN : Int) = k := ⟨_, rfl⟩
    obtain ⟨v, hvI⟩ : ∃ v : Int, (V : Int) = v := ⟨_, rfl⟩
    obtain ⟨c, hcI⟩ : ∃ c : Int, (C : Int) = c := ⟨_, rfl⟩
    obtain ⟨sI, hsI⟩ : ∃ x : Int, (((S0 + 1 : Nat)) : Int) = x := ⟨_, rfl⟩
    rw [hsI] at qc
    have f1 : decide (k < 1) = p1 := by rw [← hkI]; exact HP1.out
    have f2 : decide (3 < k) = p2 := by rw [← hkI]; exact HP2.out
    have f3 : (v != k) = p3 := by rw [← hkI, ← hvI]; exact HP3.out
    have f4 : (c != 0) = p4 := by rw [← hcI]; exact HP4.out
    have f5 : (c != k + 1) = p5 := by rw [← hcI, ← hkI]; exact HP5.out
    have f6 : decide (1 < sI) = p6 := by rw [← hsI, ← HP6.out]; congr 1
    have wk : IntKind.i64.wrap (k + 1) = k + 1 := by rw [← hkI]; exact wK
    have hK63 : KN ≤ 9223372036854775806 := by omega
    clear d0 d1 d2 c0 cz pt wS wK hK8
    go_upto_region 4 with fail
    cases p1
    case true =>
      go_wp2_with fail
      go_ret3
      exact .no (HFE.out _ HLS.out.far) (HREJ.out (by simp)) HBL.out HLS.out.ist
    case false =>
      cases p2
      case true =>
        go_wp2_with fail
        go_ret3
        exact .no (HFE.out _ HLS.out.far) (HREJ.out (by simp)) HBL.out HLS.out.ist
      case false =>
        cases p3
        case true =>
          go_wp2_with fail
          go_ret3
          exact .no (HFE.out _ HLS.out.far) (HREJ.out (by simp)) HBL.out HLS.out.ist
        case false =>
          cases p4
          case false =>
            cases p6
            case true =>
              go_wp2_with fail
              go_ret3
              exact .no (HFE.out _ HLS.out.far) (HREJ.out (by simp)) HBL.out HLS.out.ist
            case false =>
              go_wp2_with fail
              have hA := HACC.out (by rfl)
              rw [if_pos (HKD.out.2 (by trivial))] at hA
              have HA := Lib.hid hA
              subst hkI hvI hcI hsI
              have hVK : V = KN := by have := HP3.out; simp at this; omega
              have hK3 : KN ≤ 3 := by have := of_decide_eq_false f2; omega
              have hC0 : C = 0 := by have := HP4.out; simp at this; omega
              subst hC0
              have HE2 := Lib.hid (HE.out hVK)
              have hEL := HEL.out hVK
              have HEL2 := Lib.hid hEL
              clear hA q0 q1 q2 qc f1 f2 f3 f4 f5 f6 wk hVK HE hEL
              go_loopw [11, 12, 13] (fun vo vd ix wr => ∃ (nj : Nat), nj ≤ KN + 1 ∧ ix = .int .i64 nj ∧ vd = .int .i64 0 ∧ Hid (LSt w0 w3 g (gt + 2) (bump seen i) wr) ∧ Hid (OwnPr wr (gt + 2) vo ((entsQ n).take nj))) (fun _ _ ix _ => KN + 1 - (intOf ix).toNat)
              case atStart => exact ⟨0, by omega, rfl, rfl, HLS, Lib.hid (OwnPr.nil _ _)⟩
              case round =>
                obtain ⟨nj, hj, rfl, rfl, hS, hO⟩ := hrel
                clear HLS
                have q0 := hS.out.at0 HN
                have q1 := hS.out.at1 HN
                have q2 := hS.out.at2 HN
                have w01 : IntKind.i64.wrap ((0 : Int) + 1) = 1 := by rw [IntKind.wrap_i64]; omega
                by_cases hle : nj ≤ KN
                · have iLe : (nj : Int) ≤ (KN : Int) := by omega
                  by_cases hlt : nj < KN
                  · have iLt : (nj : Int) < (KN : Int) := by omega
                    obtain ⟨key, x, kb, ko, vb, vq, hak, hav, hkb, hvb, xk, xv, hej, hjV⟩ := HE2.out nj hlt
                    have iV : (nj : Int) < (V : Int) := by omega
                    have HT : Hid ((entsQ n).take (nj + 1) = (entsQ n).take nj ++ [(key, x)]) := Lib.hid (take_snocI _ nj _ hej)
                    have hlen : ((entsQ n).take nj).length ≤ 1000 := by rw [List.length_take]; omega
                    rw [hak] at q0
                    rw [hav] at q1
                    have HAK := Lib.hid hak
                    have HAV := Lib.hid hav
                    clear hej hak hav
                    go_upto_region 20 with fail
                    clear q0 q1 q2
                    refine wp_region_chain 14 [12, 13] (by kernel_rfl) (by kernel_rfl) (by kernel_rfl) (InF20 u11 ((entsQ n).take nj) (gt + 1) kb ko KN sq.ck nj vb vq V sq.cv (gt + 2) key x) (fun s W => LSt w0 w3 g (gt + 2) (bump seen i) W ∧ (s < 2 → OwnPr W (gt + 2) u11 ((entsQ n).take nj))) (fun s w w' => if s = 0 then Below w.heap.size w w' else w.grownBy w' u11.ownBlock) ?hF ?h0 ?hstep ?hcall ?hdone
                    case hF =>
                      intro s i hs j v W W' hjn hne hpb h he
                      rcases (show j = 0 ∨ j = 1 ∨ j = 2 ∨ j = 3 ∨ j = 4 ∨ j = 5 ∨ j = 6 ∨ j = 7 ∨ j = 8 ∨ j = 9 ∨ j = 10 ∨ j = 11 ∨ j = 12 ∨ j = 13 by omega) with rfl | rfl | rfl | rfl | rfl | rfl | rfl | rfl | rfl | rfl | rfl | rfl | rfl | rfl
                      · exact h
                      · exact h
                      · exact h
                      · exact h
                      · exact h
                      · exact h
                      · exact h
                      · exact h
                      · exact h
                      · exact h
                      · exact h
                      · exact h
                      · rcases s with _ | _ | s
                        · obtain rfl : 12 = i := by simpa using hs
                          exact absurd rfl hne
                        · obtain ⟨k, h1, h2, h3⟩ := h
                          exact ⟨k, h1, h2.same (World.grownBy.block he k h2.lt (fun hh => h3 hh.symm)), h3⟩
                        · simp at hs
                      · rcases s with _ | _ | s
                        · exact OwnPr.keep h he
                        · obtain rfl : 13 = i := by simpa using hs
                          exact absurd rfl hne
                        · simp at hs
                    case h0 => exact ⟨hS.out.below (Below.drew (Below.refl _ _)), fun _ => hO.out.keep (Below.drew (Below.refl _ _))⟩
                    case hstep =>
                      intro j hj hni s vs act W K ha' hst hd hu hK
                      simp only [fillF, Act.put, List.take_succ_cons, List.take_zero, List.setIfInBounds_toArray, List.set_cons_zero, List.set_cons_succ] at ha'
                      subst ha'
                      clear hu
                      have q1 := hst.1.at0 HN
                      have q2 := hst.1.at1 HN
                      rw [HAK.out] at q1
                      rw [HAV.out] at q2
                      have q3 := below_cell_of hst.1.ist.low (p := ⟨kb, ko + nj, none⟩) hkb xk
                      have q4 := below_cell_of hst.1.ist.low (p := ⟨vb, vq + nj, none⟩) hvb xv
                      rcases (show j = 0 ∨ j = 1 ∨ j = 2 ∨ j = 3 ∨ j = 4 ∨ j = 5 ∨ j = 6 ∨ j = 7 ∨ j = 8 ∨ j = 9 ∨ j = 10 ∨ j = 11 ∨ j = 12 ∨ j = 13 by omega) with rfl | rfl | rfl | rfl | rfl | rfl | rfl | rfl | rfl | rfl | rfl | rfl | rfl | rfl
                      · refine wpOp_step rfl (fun K' hK' => ?_)
                        go_simp
                        exact hK' _ _ (hK _ rfl)
                      · refine wpOp_step rfl (fun K' hK' => ?_)
                        go_simp
                        exact hK' _ _ (hK _ rfl)
                      · have e1 : vs 1 = .pointer (some ⟨(gt + 1), 0, none⟩) := hd 1 (by kernel_rfl)
                        simp only [e1] at hK ⊢
                        refine wpOp_step rfl (fun K' hK' => ?_)
                        go_simp
                        exact hK' _ _ (hK _ rfl)
                      · refine wpOp_step rfl (fun K' hK' => ?_)
                        go_simp
                        exact hK' _ _ (hK _ rfl)
                      · have e2 : vs 2 = .slice (some ⟨kb, ko, none⟩) KN sq.ck := hd 2 (by kernel_rfl)
                        have e3 : vs 3 = .int .i64 (nj : Int) := hd 3 (by kernel_rfl)
                        simp only [e2, e3] at hK ⊢
                        refine wpOp_step rfl (fun K' hK' => ?_)
                        go_simp
                        exact hK' _ _ (hK _ rfl)
                      · have e4 : vs 4 = .pointer (some ⟨kb, ko + nj, none⟩) := hd 4 (by kernel_rfl)
                        simp only [e4] at hK ⊢
                        refine wpOp_step rfl (fun K' hK' => ?_)
                        go_simp
                        exact hK' _ _ (hK _ rfl)
                      · refine wpOp_step rfl (fun K' hK' => ?_)
                        go_simp
                        exact hK' _ _ (hK _ rfl)
                      · have e6 : vs 6 = .pointer (some ⟨(gt + 1), 1, none⟩) := hd 6 (by kernel_rfl)
                        simp only [e6] at hK ⊢
                        refine wpOp_step rfl (fun K' hK' => ?_)
                        go_simp
                        exact hK' _ _ (hK _ rfl)
                      · refine wpOp_step rfl (fun K' hK' => ?_)
                        go_simp
                        exact hK' _ _ (hK _ rfl)
                      · have e7 : vs 7 = .slice (some ⟨vb, vq, none⟩) V sq.cv := hd 7 (by kernel_rfl)
                        have e8 : vs 8 = .int .i64 (nj : Int) := hd 8 (by kernel_rfl)
                        simp only [e7, e8] at hK ⊢
                        refine wpOp_step rfl (fun K' hK' => ?_)
                        go_simp
                        exact hK' _ _ (hK _ rfl)
                      · have e9 : vs 9 = .pointer (some ⟨vb, vq + nj, none⟩) := hd 9 (by kernel_rfl)
                        simp only [e9] at hK ⊢
                        refine wpOp_step rfl (fun K' hK' => ?_)
                        go_simp
                        exact hK' _ _ (hK _ rfl)
                      · have e5 : vs 5 = .string (str key) := hd 5 (by kernel_rfl)
                        have e10 : vs 10 = .int .i64 x := hd 10 (by kernel_rfl)
                        simp only [e5, e10] at hK ⊢
                        refine wpOp_step rfl (fun K' hK' => ?_)
                        go_simp
                        exact hK' _ _ (hK _ rfl)
                      · exact (hni (by decide)).elim
                      · exact (hni (by decide)).elim
                    case hcall =>
                      intro s j hs vs act W K ha' hst hd hK
                      simp only [fillF, Act.put, List.take_succ_cons, List.take_zero, List.setIfInBounds_toArray, List.set_cons_zero, List.set_cons_succ] at ha'
                      subst ha'
                      rcases s with _ | _ | s
                      · obtain rfl : 12 = j := by simpa using hs
                        have e11 : vs 11 = .agg #[.string (str key), .int .i64 x] := hd 11 (by kernel_rfl)
                        simp only [e11] at hK ⊢
                        refine wpOp_step rfl (fun K' hK' => ?_)
                        go_simp
                        have hown : u11.ownBlock ≠ some W.heap.size := fun hh => by have := ((hst.2 (by decide)).lt _ hh).2; omega
                        have hba : Below W.heap.size W (W.alloc (.cells #[.string (str key), .int .i64 x] 57)) := (Below.refl _ _).alloc (Nat.le_refl _) _
                        exact hK' _ _ (hK _ _ ⟨_, rfl, Blk.new W _ _, hown⟩ hba ⟨hst.1.below hba, fun _ => (hst.2 (by decide)).keep hba⟩)
                      · obtain rfl : 13 = j := by simpa using hs
                        have e0 : vs 0 = u11 := hd 0 (by kernel_rfl)
                        obtain ⟨k12, e12, y12, o12⟩ := hd 12 (by kernel_rfl)
                        simp only [e0, e12] at hK ⊢
                        refine wpOp_step rfl (fun K' hK' => ?_)
                        rw [if_pos (by simp [Region.wanted])]
                        refine wp_append_pr (.tmp 116) (.tmp 128) rfl (gt + 2) u11 ((entsQ n).take nj) rfl (hst.2 (by decide)) (key, x) k12 rfl y12 hlen hst.1.size ?_
                        intro v' w' ho hg hw
                        exact hK' _ _ (hK v' w' ho hg ⟨hst.1.grown hg (fun b hb => ((hst.2 (by decide)).lt b hb).1), fun hh => absurd hh (by decide)⟩)
                      · simp at hs
                    case hdone =>
                      intro vs act W ha' hst hfs
                      simp only [fillF, Act.put, List.take_succ_cons, List.take_zero, List.drop_succ_cons, List.drop_zero, List.setIfInBounds_toArray, List.set_cons_zero, List.set_cons_succ] at ha' ⊢
                      subst ha'
                      have f13 : OwnPr W (gt + 2) (vs 13) ((entsQ n).take nj ++ [(key, x)]) := hfs 13 (by decide)
                      simp only [Nat.zero_add, Nat.reduceAdd]
                      obtain ⟨hst1, -⟩ := hst
                      clear hfs
                      generalize vs 13 = v13 at *
                      rw [← HT.out] at f13
                      have HS2 := Lib.hid hst1
                      have HO2 := Lib.hid f13
                      clear hst1 f13 HT hS hO
                      go_wp2_with fail
                      go_roundw
                      case rel => exact ⟨nj + 1, by omega, by go_num, rfl, HS2, HO2⟩
                      case measure => simp [intOf]; omega
                  · have iLt : ¬ (nj : Int) < (KN : Int) := by omega
                    have HO2 := Lib.hid (hO.out)
                    have hT : (entsQ n).take (nj + 1) = (entsQ n).take nj := by rw [List.take_of_length_le (by rw [HEL2.out]; omega), List.take_of_length_le (by rw [HEL2.out]; omega)]
                    rw [← hT] at HO2
                    clear hT hO
                    go_wp2_with fail
                    go_roundw
                    case rel => exact ⟨nj + 1, by omega, by go_num, rfl, hS, HO2⟩
                    case measure => simp [intOf]; omega
                · have iLe : ¬ (nj : Int) ≤ (KN : Int) := by omega
                  have hO2 := hO.out
                  rw [List.take_of_length_le (by rw [HEL2.out]; omega)] at hO2
                  have HO2 := Lib.hid hO2
                  clear hO2 hO q0 q1 q2
                  go_wp2_with fail
                  go_ret3
                  exact .yes (HFE.out _ hS.out.far) HA.out.symm (by rfl) (owns_base HO2.out (by have := hS.out.gM; omega)) hS.out.ist
          case true =>
            cases p5
            case true =>
              go_wp2_with fail
              go_ret3
              exact .no (HFE.out _ HLS.out.far) (HREJ.out (by simp)) HBL.out HLS.out.ist
            case false =>
              cases p6
              case true =>
                go_wp2_with fail
                go_ret3
                exact .no (HFE.out _ HLS.out.far) (HREJ.out (by simp)) HBL.out HLS.out.ist
              case false =>
                go_wp2_with fail
                have hA := HACC.out (by rfl)
                rw [if_neg (fun h => by have := HKD.out.1 h; simp at this)] at hA
                clear f5 wk
                generalize k + 1 = kk
                subst hkI hvI hcI hsI
                have hVK : V = KN := by have := HP3.out; simp at this; omega
                have hK3 : KN ≤ 3 := by have := of_decide_eq_false f2; omega
                have hCK : C = KN + 1 := by have := HP5.out; simp at this; omega
                have HCK := Lib.hid hCK
                have HE2 := Lib.hid (HE.out hVK)
                have hEL := HEL.out hVK
                have HEL2 := Lib.hid hEL
                have HKE : Hid (n.kids.drop (KN + 1) = []) := Lib.hid (List.drop_of_length_le (by rw [HC.out]; omega))
                have HK0 : Hid (kidsR (innerR ns f) L i (n.kids.drop 0) ((entsQ n).drop 0) (decide (0 = 0)) (bump seen i) [] 0 = RES) := Lib.hid (by rw [List.drop_zero, List.drop_zero, ← hA, HL.out]; rfl)
                have HP0 : Hid (SmallP L (bump seen i) [] 0 0 0) := Lib.hid ⟨HBL.out, fun nj => by
                  rw [bump_get seen i nj (by rw [HSL.out, HL.out]; exact hi)]
                  by_cases e : i = nj
                  · subst e
                    have h6 := HP6.out
                    have := of_decide_eq_false h6
                    rw [if_pos rfl, HS0.out]; omega
                  · rw [if_neg e]; exact HS1.out nj, (by simp), fun p hp => (by cases hp), fun nj => (by simp), (by omega)⟩
                clear hA q0 q1 q2 qc f1 f2 f3 f4 f6 hVK HE hEL hCK
                go_loopw [11, 12, 13] (fun vo vd ix wr => ∃ (nj deep : Nat) (out : List En) (sn P : List Nat), nj ≤ KN + 1 ∧ ix = .int .i64 nj ∧ vd = .int .i64 (deep : Int) ∧ Hid (kidsR (innerR ns f) L i (n.kids.drop nj) ((entsQ n).drop nj) (decide (nj = 0)) sn out deep = RES) ∧ Hid (LSt w0 w3 g (gt + 2) sn wr) ∧ Hid (OwnPr wr (gt + 2) vo out) ∧ Hid (SmallP L sn P out.length nj deep)) (fun _ _ ix _ => KN + 1 - (intOf ix).toNat)
                case atStart => exact ⟨0, 0, [], _, [], by omega, rfl, rfl, HK0, HLS, Lib.hid (OwnPr.nil _ _), HP0⟩
                case round =>
                  obtain ⟨nj, deep, out, sn, P, hj, rfl, rfl, hk, hS, hO, hP⟩ := hrel
                  clear HLS HK0 HP0
                  have q0 := hS.out.at0 HN
                  have q1 := hS.out.at1 HN
                  have q2 := hS.out.at2 HN
                  have qt := hS.out.tree HN
                  by_cases hle : nj ≤ KN
                  · have iLe : (nj : Int) ≤ (KN : Int) := by omega
                    obtain ⟨kx, cb, cp, hkx, hac, hcb, xc⟩ := HKC.out nj (by have := HCK.out; omega)
                    have hk2 := hk.out
                    rw [drop_at n.kids nj kx hkx, kidsR_cons] at hk2
                    rw [hac] at q2
                    have HAC := Lib.hid hac
                    clear hac
                    have dk := below_cell_of hS.out.ist.low (p := ⟨cb, cp + nj, none⟩) hcb xc
                    have iC0 : (0 : Int) < (C : Int) := by have := HCK.out; omega
                    have iCj : (nj : Int) < (C : Int) := by have := HCK.out; omega
                    clear xc hkx hk
                    by_cases c1 : kx ≤ (i : Int)
                    · rw [if_pos (.inl c1)] at hk2
                      have HK2 := Lib.hid hk2
                      clear hk2
                      go_wp2_with fail
                      go_ret3
                      exact .no (HFE.out _ hS.out.far) HK2.out.symm hP.out.len hS.out.ist
                    · by_cases c2 : (L : Int) ≤ kx
                      · rw [if_pos (.inr c2)] at hk2
                        have HK2 := Lib.hid hk2
                        clear hk2
                        go_wp2_with fail
                        go_ret3
                        exact .no (HFE.out _ hS.out.far) HK2.out.symm hP.out.len hS.out.ist
                      · obtain ⟨kn, rfl⟩ : ∃ kn : Nat, kx = (kn : Int) := ⟨kx.toNat, by omega⟩
                        rw [if_neg (fun h => h.elim c1 c2), Int.toNat_natCast] at hk2
                        have HK2 := Lib.hid hk2
                        have cI := HIH.out (by omega) kn (by rw [HL.out]; omega) (by rw [HL.out]; omega) sn wr (by rw [HL.out]; exact hP.out.len) hP.out.one hS.out.ist
                        rw [HL.out] at cI
                        have hPS : ∀ r, innerR ns f kn sn = some r → SmallP L r.seen (P ++ posQ ns f kn) (out.length + r.l.length) nj r.d := fun r hr => by
                          have h1 := hP.out
                          rw [← HL.out] at h1
                          have := h1.step (k := kn) (by rw [HL.out]; omega) (by rw [HL.out]; omega) (by omega) hr
                          rw [HL.out] at this
                          exact this
                        have HPS := Lib.hid hPS
                        clear hk2 hPS
                        go_wp2_with fail
                        refine cI.mono ?_
                        rintro e w4 ⟨hfar, (⟨hr, rfl, s4, hs4, hI4⟩ | ⟨r, v4, hr, rfl, ho4, hI4⟩)⟩
                        · have hk3 := HK2.out
                          rw [hr] at hk3
                          have HK3 := Lib.hid hk3
                          have HF4 := Lib.hid (hS.out.far.trans hfar)
                          have HI4 := Lib.hid hI4
                          clear hk3 cI hr hfar hI4 q0 q1 q2 qt dk
                          go_wp2_with fail
                          go_ret3
                          exact .no (HFE.out _ HF4.out) HK3.out.symm hs4 HI4.out
                        · have hk3 := HK2.out
                          rw [hr] at hk3
                          simp only at hk3
                          have hP4 := HPS.out r hr
                          have HP4 := Lib.hid hP4
                          have hS4 : LSt w0 w3 g (gt + 2) r.seen w4 := ⟨hI4, hS.out.far.trans hfar, hS.out.gM⟩
                          have hO4 := hfar.pr hO.out hS.out.gM
                          have hsz4 := hS4.size
                          have hle5 := hP4.le (by omega) (by omega)
                          have hlen2 : out.length + r.l.length ≤ 1000000 := by omega
                          have hlen : (out ++ r.l).length ≤ 1000 := by rw [List.length_append]; omega
                          have HS4 := Lib.hid hS4
                          have HO4 := Lib.hid hO4
                          have HV4 := Lib.hid ho4
                          have q0 := hS4.at0 HN
                          have q1 := hS4.at1 HN
                          obtain ⟨z, hz⟩ : ∃ z, decide ((0 : Int) < (nj : Int)) = z := ⟨_, rfl⟩
                          obtain ⟨y, hy⟩ : ∃ y, ((r.d : Int) != (deep : Int)) = y := ⟨_, rfl⟩
                          have hcond : (decide (nj = 0) = false ∧ r.d ≠ deep) ↔ (z && y) = true := by
                            rw [← hz, ← hy]
                            simp
                            omega
                          have hno : (z && y) = true → RES = none := fun h => by rw [if_pos (hcond.2 h)] at hk3; exact hk3.symm
                          have hyes : (z && y) = false → kidsR (innerR ns f) L i (n.kids.drop (nj + 1)) ((entsQ n).drop (nj + 1)) (decide (nj + 1 = 0)) r.seen (out ++ r.l ++ ((entsQ n).drop nj).take 1) r.d = RES := fun h => by
                            rw [if_neg (fun hh => by rw [hcond.1 hh] at h; cases h), List.tail_drop] at hk3
                            rw [← hk3, decide_eq_false (by omega)]
                          have HNO := Lib.hid hno
                          have HYES := Lib.hid hyes
                          clear hk3 cI hr hfar hI4 q2 qt dk hP4 hS4 hO4 ho4 hcond hno hyes hle5 hP hS hO
                          obtain ⟨rd, hrd⟩ : ∃ x : Int, (r.d : Int) = x := ⟨_, rfl⟩
                          obtain ⟨dI, hdI⟩ : ∃ x : Int, (deep : Int) = x := ⟨_, rfl⟩
                          have hy2 : (rd != dI) = y := by rw [← hrd, ← hdI]; exact hy
                          clear hy
                          cases z
                          case true =>
                            have iZ : (0 : Int) < (nj : Int) := of_decide_eq_true hz
                            have iZ2 : 0 < nj := by omega
                            cases y
                            case true =>
                              have HR := Lib.hid (HNO.out (by rfl))
                              clear HNO HYES
                              go_wp2_with fail
                              go_ret3
                              exact .no (HFE.out _ HS4.out.far) HR.out HP4.out.len HS4.out.ist
                            case false =>
                              go_upto_region 18 with fail
                              subst hrd hdI
                              clear hy2 hz
                              have HR := Lib.hid (HYES.out (by rfl))
                              clear HNO HYES
                              by_cases hlt : nj < KN
                              · have iLt : (nj : Int) < (KN : Int) := by omega
                                obtain ⟨key, x, kb, ko, vb, vq, hak, hav, hkb, hvb, xk, xv, hej, hjV⟩ := HE2.out nj hlt
                                have iV : (nj : Int) < (V : Int) := by omega
                                have hR := HR.out
                                rw [drop_at _ nj _ hej] at hR
                                have HR2 : Hid (kidsR (innerR ns f) L i (n.kids.drop (nj + 1)) ((entsQ n).drop (nj + 1)) (decide (nj + 1 = 0)) r.seen (out ++ r.l ++ [(key, x)]) r.d = RES) := Lib.hid hR
                                rw [hak] at q0
                                rw [hav] at q1
                                have HAK := Lib.hid hak
                                have HAV := Lib.hid hav
                                clear hej hR HR hak hav
                                go_upto_region 20 with (first | (at_builtin; refine wpList_append_prs rfl (.tmp 109) (.tmp 110) rfl (gt + 2) u11 out rfl HO4.out (g + 1) v4 r.l rfl HV4.out hlen2 hsz4 ?_; intro v5 w5 ho5 hg5 hw5; have hS5 := HS4.out.grown hg5 (fun b hb => (HO4.out.lt b hb).1); have q0 := hS5.at0 HN; have q1 := hS5.at1 HN; rw [HAK.out] at q0; rw [HAV.out] at q1; have hS := Lib.hid hS5; have hO := Lib.hid ho5; clear hS5 ho5) | fail)
                                clear q0 q1
                                refine wp_region_chain 14 [12, 13] (by kernel_rfl) (by kernel_rfl) (by kernel_rfl) (InF20 v5 (out ++ r.l) (gt + 1) kb ko KN sq.ck nj vb vq V sq.cv (gt + 2) key x) (fun s W => LSt w0 w3 g (gt + 2) r.seen W ∧ (s < 2 → OwnPr W (gt + 2) v5 (out ++ r.l))) (fun s w w' => if s = 0 then Below w.heap.size w w' else w.grownBy w' v5.ownBlock) ?hF ?h0 ?hstep ?hcall ?hdone
                                case hF =>
                                  intro s i hs j v W W' hjn hne hpb h he
                                  rcases (show j = 0 ∨ j = 1 ∨ j = 2 ∨ j = 3 ∨ j = 4 ∨ j = 5 ∨ j = 6 ∨ j = 7 ∨ j = 8 ∨ j = 9 ∨ j = 10 ∨ j = 11 ∨ j = 12 ∨ j = 13 by omega) with rfl | rfl | rfl | rfl | rfl | rfl | rfl | rfl | rfl | rfl | rfl | rfl | rfl | rfl
                                  · exact h
                                  · exact h
                                  · exact h
                                  · exact h
                                  · exact h
                                  · exact h
                                  · exact h
                                  · exact h
                                  · exact h
                                  · exact h
                                  · exact h
                                  · exact h
                                  · rcases s with _ | _ | s
                                    · obtain rfl : 12 = i := by simpa using hs
                                      exact absurd rfl hne
                                    · obtain ⟨k, h1, h2, h3⟩ := h
                                      exact ⟨k, h1, h2.same (World.grownBy.block he k h2.lt (fun hh => h3 hh.symm)), h3⟩
                                    · simp at hs
                                  · rcases s with _ | _ | s
                                    · exact OwnPr.keep h he
                                    · obtain rfl : 13 = i := by simpa using hs
                                      exact absurd rfl hne
                                    · simp at hs
                                case h0 => exact ⟨hS.out.below (Below.drew (Below.refl _ _)), fun _ => hO.out.keep (Below.drew (Below.refl _ _))⟩
                                case hstep =>
                                  intro j hj hni s vs act W K ha' hst hd hu hK
                                  simp only [fillF, Act.put, List.take_succ_cons, List.take_zero, List.setIfInBounds_toArray, List.set_cons_zero, List.set_cons_succ] at ha'
                                  subst ha'
                                  clear hu
                                  have q1 := hst.1.at0 HN
                                  have q2 := hst.1.at1 HN
                                  rw [HAK.out] at q1
                                  rw [HAV.out] at q2
                                  have q3 := below_cell_of hst.1.ist.low (p := ⟨kb, ko + nj, none⟩) hkb xk
                                  have q4 := below_cell_of hst.1.ist.low (p := ⟨vb, vq + nj, none⟩) hvb xv
                                  rcases (show j = 0 ∨ j = 1 ∨ j = 2 ∨ j = 3 ∨ j = 4 ∨ j = 5 ∨ j = 6 ∨ j = 7 ∨ j = 8 ∨ j = 9 ∨ j = 10 ∨ j = 11 ∨ j = 12 ∨ j = 13 by omega) with rfl | rfl | rfl | rfl | rfl | rfl | rfl | rfl | rfl | rfl | rfl | rfl | rfl | rfl
                                  · refine wpOp_step rfl (fun K' hK' => ?_)
                                    go_simp
                                    exact hK' _ _ (hK _ rfl)
                                  · refine wpOp_step rfl (fun K' hK' => ?_)
                                    go_simp
                                    exact hK' _ _ (hK _ rfl)
                                  · have e1 : vs 1 = .pointer (some ⟨(gt + 1), 0, none⟩) := hd 1 (by kernel_rfl)
                                    simp only [e1] at hK ⊢
                                    refine wpOp_step rfl (fun K' hK' => ?_)
                                    go_simp
                                    exact hK' _ _ (hK _ rfl)
                                  · refine wpOp_step rfl (fun K' hK' => ?_)
                                    go_simp
                                    exact hK' _ _ (hK _ rfl)
                                  · have e2 : vs 2 = .slice (some ⟨kb, ko, none⟩) KN sq.ck := hd 2 (by kernel_rfl)
                                    have e3 : vs 3 = .int .i64 (nj : Int) := hd 3 (by kernel_rfl)
                                    simp only [e2, e3] at hK ⊢
                                    refine wpOp_step rfl (fun K' hK' => ?_)
                                    go_simp
                                    exact hK' _ _ (hK _ rfl)
                                  · have e4 : vs 4 = .pointer (some ⟨kb, ko + nj, none⟩) := hd 4 (by kernel_rfl)
                                    simp only [e4] at hK ⊢
                                    refine wpOp_step rfl (fun K' hK' => ?_)
                                    go_simp
                                    exact hK' _ _ (hK _ rfl)
                                  · refine wpOp_step rfl (fun K' hK' => ?_)
                                    go_simp
                                    exact hK' _ _ (hK _ rfl)
                                  · have e6 : vs 6 = .pointer (some ⟨(gt + 1), 1, none⟩) := hd 6 (by kernel_rfl)
                                    simp only [e6] at hK ⊢
                                    refine wpOp_step rfl (fun K' hK' => ?_)
                                    go_simp
                                    exact hK' _ _ (hK _ rfl)
                                  · refine wpOp_step rfl (fun K' hK' => ?_)
                                    go_simp
                                    exact hK' _ _ (hK _ rfl)
                                  · have e7 : vs 7 = .slice (some ⟨vb, vq, none⟩) V sq.cv := hd 7 (by kernel_rfl)
                                    have e8 : vs 8 = .int .i64 (nj : Int) := hd 8 (by kernel_rfl)
                                    simp only [e7, e8] at hK ⊢
                                    refine wpOp_step rfl (fun K' hK' => ?_)
                                    go_simp
                                    exact hK' _ _ (hK _ rfl)
                                  · have e9 : vs 9 = .pointer (some ⟨vb, vq + nj, none⟩) := hd 9 (by kernel_rfl)
                                    simp only [e9] at hK ⊢
                                    refine wpOp_step rfl (fun K' hK' => ?_)
                                    go_simp
                                    exact hK' _ _ (hK _ rfl)
                                  · have e5 : vs 5 = .string (str key) := hd 5 (by kernel_rfl)
                                    have e10 : vs 10 = .int .i64 x := hd 10 (by kernel_rfl)
                                    simp only [e5, e10] at hK ⊢
                                    refine wpOp_step rfl (fun K' hK' => ?_)
                                    go_simp
                                    exact hK' _ _ (hK _ rfl)
                                  · exact (hni (by decide)).elim
                                  · exact (hni (by decide)).elim
                                case hcall =>
                                  intro s j hs vs act W K ha' hst hd hK
                                  simp only [fillF, Act.put, List.take_succ_cons, List.take_zero, List.setIfInBounds_toArray, List.set_cons_zero, List.set_cons_succ] at ha'
                                  subst ha'
                                  rcases s with _ | _ | s
                                  · obtain rfl : 12 = j := by simpa using hs
                                    have e11 : vs 11 = .agg #[.string (str key), .int .i64 x] := hd 11 (by kernel_rfl)
                                    simp only [e11] at hK ⊢
                                    refine wpOp_step rfl (fun K' hK' => ?_)
                                    go_simp
                                    have hown : v5.ownBlock ≠ some W.heap.size := fun hh => by have := ((hst.2 (by decide)).lt _ hh).2; omega
                                    have hba : Below W.heap.size W (W.alloc (.cells #[.string (str key), .int .i64 x] 57)) := (Below.refl _ _).alloc (Nat.le_refl _) _
                                    exact hK' _ _ (hK _ _ ⟨_, rfl, Blk.new W _ _, hown⟩ hba ⟨hst.1.below hba, fun _ => (hst.2 (by decide)).keep hba⟩)
                                  · obtain rfl : 13 = j := by simpa using hs
                                    have e0 : vs 0 = v5 := hd 0 (by kernel_rfl)
                                    obtain ⟨k12, e12, y12, o12⟩ := hd 12 (by kernel_rfl)
                                    simp only [e0, e12] at hK ⊢
                                    refine wpOp_step rfl (fun K' hK' => ?_)
                                    rw [if_pos (by simp [Region.wanted])]
                                    refine wp_append_pr (.tmp 116) (.tmp 128) rfl (gt + 2) v5 (out ++ r.l) rfl (hst.2 (by decide)) (key, x) k12 rfl y12 hlen hst.1.size ?_
                                    intro v' w' ho hg hw
                                    exact hK' _ _ (hK v' w' ho hg ⟨hst.1.grown hg (fun b hb => ((hst.2 (by decide)).lt b hb).1), fun hh => absurd hh (by decide)⟩)
                                  · simp at hs
                                case hdone =>
                                  intro vs act W ha' hst hfs
                                  simp only [fillF, Act.put, List.take_succ_cons, List.take_zero, List.drop_succ_cons, List.drop_zero, List.setIfInBounds_toArray, List.set_cons_zero, List.set_cons_succ] at ha' ⊢
                                  subst ha'
                                  have f13 : OwnPr W (gt + 2) (vs 13) (out ++ r.l ++ [(key, x)]) := hfs 13 (by decide)
                                  simp only [Nat.zero_add, Nat.reduceAdd]
                                  obtain ⟨hst1, -⟩ := hst
                                  clear hfs
                                  generalize vs 13 = v13 at *
                                  have HS2 := Lib.hid hst1
                                  have HO2 := Lib.hid f13
                                  have HP5 : Hid (SmallP L r.seen (P ++ posQ ns f kn) (out ++ r.l ++ [(key, x)]).length (nj + 1) r.d) := Lib.hid (HP4.out.more _ (by rw [List.length_append, List.length_append]; exact Nat.le_refl _))
                                  clear hst1 f13 hS hO
                                  go_wp2_with fail
                                  go_roundw
                                  case rel =>
                                    repeat apply Exists.intro
                                    refine And.intro ?_ rfl
                                    exact ⟨nj + 1, r.d, _, r.seen, _, by omega, by go_num, rfl, HR2, HS2, HO2, HP5⟩
                                  case measure => simp [intOf]; omega
                              · have iLt : ¬ (nj : Int) < (KN : Int) := by omega
                                have hR := HR.out
                                rw [List.drop_of_length_le (l := entsQ n) (i := nj) (by rw [HEL2.out]; omega), List.take_nil, List.append_nil] at hR
                                have HR2 := Lib.hid hR
                                have HP5 : Hid (SmallP L r.seen (P ++ posQ ns f kn) (out ++ r.l).length (nj + 1) r.d) := Lib.hid (HP4.out.more _ (by rw [List.length_append]; omega))
                                clear hR HR
                                go_wp2_with (first | (at_builtin; refine wpList_append_prs rfl (.tmp 109) (.tmp 110) rfl (gt + 2) u11 out rfl HO4.out (g + 1) v4 r.l rfl HV4.out hlen2 hsz4 ?_; intro v5 w5 ho5 hg5 hw5; have hS5 := HS4.out.grown hg5 (fun b hb => (HO4.out.lt b hb).1); have hS := Lib.hid hS5; have hO := Lib.hid ho5; clear hS5 ho5) | fail)
                                go_roundw
                                case rel => first | exact ⟨nj + 1, r.d, _, r.seen, _, by omega, by go_num, rfl, HR2, hS, hO, HP5⟩ | exact ⟨_, _, _, v5, .int .i64 (r.d : Int), .int .i64 ((nj : Int) + 1), ⟨nj + 1, by omega, by go_num, r.d, rfl, _, r.seen, HR2, hS, hO, _, HP5⟩, rfl, rfl, rfl, rfl, rfl, rfl⟩
                                case measure => simp [intOf]; omega
                          case false =>
                            have iZ : ¬ (0 : Int) < (nj : Int) := of_decide_eq_false hz
                            have iZ2 : ¬ 0 < nj := by omega
                            go_upto_region 18 with fail
                            subst hrd hdI
                            clear hy2 hz
                            have HR := Lib.hid (HYES.out (by rfl))
                            clear HNO HYES
                            by_cases hlt : nj < KN
                            · have iLt : (nj : Int) < (KN : Int) := by omega
                              obtain ⟨key, x, kb, ko, vb, vq, hak, hav, hkb, hvb, xk, xv, hej, hjV⟩ := HE2.out nj hlt
                              have iV : (nj : Int) < (V : Int) := by omega
                              have hR := HR.out
                              rw [drop_at _ nj _ hej] at hR
                              have HR2 : Hid (kidsR (innerR ns f) L i (n.kids.drop (nj + 1)) ((entsQ n).drop (nj + 1)) (decide (nj + 1 = 0)) r.seen (out ++ r.l ++ [(key, x)]) r.d = RES) := Lib.hid hR
                              rw [hak] at q0
                              rw [hav] at q1
                              have HAK := Lib.hid hak
                              have HAV := Lib.hid hav
                              clear hej hR HR hak hav
                              go_upto_region 20 with (first | (at_builtin; refine wpList_append_prs rfl (.tmp 109) (.tmp 110) rfl (gt + 2) u11 out rfl HO4.out (g + 1) v4 r.l rfl HV4.out hlen2 hsz4 ?_; intro v5 w5 ho5 hg5 hw5; have hS5 := HS4.out.grown hg5 (fun b hb => (HO4.out.lt b hb).1); have q0 := hS5.at0 HN; have q1 := hS5.at1 HN; rw [HAK.out] at q0; rw [HAV.out] at q1; have hS := Lib.hid hS5; have hO := Lib.hid ho5; clear hS5 ho5) | fail)
                              clear q0 q1
                              refine wp_region_chain 14 [12, 13] (by kernel_rfl) (by kernel_rfl) (by kernel_rfl) (InF20 v5 (out ++ r.l) (gt + 1) kb ko KN sq.ck nj vb vq V sq.cv (gt + 2) key x) (fun s W => LSt w0 w3 g (gt + 2) r.seen W ∧ (s < 2 → OwnPr W (gt + 2) v5 (out ++ r.l))) (fun s w w' => if s = 0 then Below w.heap.size w w' else w.grownBy w' v5.ownBlock) ?hF ?h0 ?hstep ?hcall ?hdone
                              case hF =>
                                intro s i hs j v W W' hjn hne hpb h he
                                rcases (show j = 0 ∨ j = 1 ∨ j = 2 ∨ j = 3 ∨ j = 4 ∨ j = 5 ∨ j = 6 ∨ j = 7 ∨ j = 8 ∨ j = 9 ∨ j = 10 ∨ j = 11 ∨ j = 12 ∨ j = 13 by omega) with rfl | rfl | rfl | rfl | rfl | rfl | rfl | rfl | rfl | rfl | rfl | rfl | rfl | rfl
                                · exact h
                                · exact h
                                · exact h
                                · exact h
                                · exact h
                                · exact h
                                · exact h
                                · exact h
                                · exact h
                                · exact h
                                · exact h
                                · exact h
                                · rcases s with _ | _ | s
                                  · obtain rfl : 12 = i := by simpa using hs
                                    exact absurd rfl hne
                                  · obtain ⟨k, h1, h2, h3⟩ := h
                                    exact ⟨k, h1, h2.same (World.grownBy.block he k h2.lt (fun hh => h3 hh.symm)), h3⟩
                                  · simp at hs
                                · rcases s with _ | _ | s
                                  · exact OwnPr.keep h he
                                  · obtain rfl : 13 = i := by simpa using hs
                                    exact absurd rfl hne
                                  · simp at hs
                              case h0 => exact ⟨hS.out.below (Below.drew (Below.refl _ _)), fun _ => hO.out.keep (Below.drew (Below.refl _ _))⟩
                              case hstep =>
                                intro j hj hni s vs act W K ha' hst hd hu hK
                                simp only [fillF, Act.put, List.take_succ_cons, List.take_zero, List.setIfInBounds_toArray, List.set_cons_zero, List.set_cons_succ] at ha'
                                subst ha'
                                clear hu
                                have q1 := hst.1.at0 HN
                                have q2 := hst.1.at1 HN
                                rw [HAK.out] at q1
                                rw [HAV.out] at q2
                                have q3 := below_cell_of hst.1.ist.low (p := ⟨kb, ko + nj, none⟩) hkb xk
                                have q4 := below_cell_of hst.1.ist.low (p := ⟨vb, vq + nj, none⟩) hvb xv
                                rcases (show j = 0 ∨ j = 1 ∨ j = 2 ∨ j = 3 ∨ j = 4 ∨ j = 5 ∨ j = 6 ∨ j = 7 ∨ j = 8 ∨ j = 9 ∨ j = 10 ∨ j = 11 ∨ j = 12 ∨ j = 13 by omega) with rfl | rfl | rfl | rfl | rfl | rfl | rfl | rfl | rfl | rfl | rfl | rfl | rfl | rfl
                                · refine wpOp_step rfl (fun K' hK' => ?_)
                                  go_simp
                                  exact hK' _ _ (hK _ rfl)
                                · refine wpOp_step rfl (fun K' hK' => ?_)
                                  go_simp
                                  exact hK' _ _ (hK _ rfl)
                                · have e1 : vs 1 = .pointer (some ⟨(gt + 1), 0, none⟩) := hd 1 (by kernel_rfl)
                                  simp only [e1] at hK ⊢
                                  refine wpOp_step rfl (fun K' hK' => ?_)
                                  go_simp
                                  exact hK' _ _ (hK _ rfl)
                                · refine wpOp_step rfl (fun K' hK' => ?_)
                                  go_simp
                                  exact hK' _ _ (hK _ rfl)
                                · have e2 : vs 2 = .slice (some ⟨kb, ko, none⟩) KN sq.ck := hd 2 (by kernel_rfl)
                                  have e3 : vs 3 = .int .i64 (nj : Int) := hd 3 (by kernel_rfl)
                                  simp only [e2, e3] at hK ⊢
                                  refine wpOp_step rfl (fun K' hK' => ?_)
                                  go_simp
                                  exact hK' _ _ (hK _ rfl)
                                · have e4 : vs 4 = .pointer (some ⟨kb, ko + nj, none⟩) := hd 4 (by kernel_rfl)
                                  simp only [e4] at hK ⊢
                                  refine wpOp_step rfl (fun K' hK' => ?_)
                                  go_simp
                                  exact hK' _ _ (hK _ rfl)
                                · refine wpOp_step rfl (fun K' hK' => ?_)
                                  go_simp
                                  exact hK' _ _ (hK _ rfl)
                                · have e6 : vs 6 = .pointer (some ⟨(gt + 1), 1, none⟩) := hd 6 (by kernel_rfl)
                                  simp only [e6] at hK ⊢
                                  refine wpOp_step rfl (fun K' hK' => ?_)
                                  go_simp
                                  exact hK' _ _ (hK _ rfl)
                                · refine wpOp_step rfl (fun K' hK' => ?_)
                                  go_simp
                                  exact hK' _ _ (hK _ rfl)
                                · have e7 : vs 7 = .slice (some ⟨vb, vq, none⟩) V sq.cv := hd 7 (by kernel_rfl)
                                  have e8 : vs 8 = .int .i64 (nj : Int) := hd 8 (by kernel_rfl)
                                  simp only [e7, e8] at hK ⊢
                                  refine wpOp_step rfl (fun K' hK' => ?_)
                                  go_simp
                                  exact hK' _ _ (hK _ rfl)
                                · have e9 : vs 9 = .pointer (some ⟨vb, vq + nj, none⟩) := hd 9 (by kernel_rfl)
                                  simp only [e9] at hK ⊢
                                  refine wpOp_step rfl (fun K' hK' => ?_)
                                  go_simp
                                  exact hK' _ _ (hK _ rfl)
                                · have e5 : vs 5 = .string (str key) := hd 5 (by kernel_rfl)
                                  have e10 : vs 10 = .int .i64 x := hd 10 (by kernel_rfl)
                                  simp only [e5, e10] at hK ⊢
                                  refine wpOp_step rfl (fun K' hK' => ?_)
                                  go_simp
                                  exact hK' _ _ (hK _ rfl)
                                · exact (hni (by decide)).elim
                                · exact (hni (by decide)).elim
                              case hcall =>
                                intro s j hs vs act W K ha' hst hd hK
                                simp only [fillF, Act.put, List.take_succ_cons, List.take_zero, List.setIfInBounds_toArray, List.set_cons_zero, List.set_cons_succ] at ha'
                                subst ha'
                                rcases s with _ | _ | s
                                · obtain rfl : 12 = j := by simpa using hs
                                  have e11 : vs 11 = .agg #[.string (str key), .int .i64 x] := hd 11 (by kernel_rfl)
                                  simp only [e11] at hK ⊢
                                  refine wpOp_step rfl (fun K' hK' => ?_)
                                  go_simp
                                  have hown : v5.ownBlock ≠ some W.heap.size := fun hh => by have := ((hst.2 (by decide)).lt _ hh).2; omega
                                  have hba : Below W.heap.size W (W.alloc (.cells #[.string (str key), .int .i64 x] 57)) := (Below.refl _ _).alloc (Nat.le_refl _) _
                                  exact hK' _ _ (hK _ _ ⟨_, rfl, Blk.new W _ _, hown⟩ hba ⟨hst.1.below hba, fun _ => (hst.2 (by decide)).keep hba⟩)
                                · obtain rfl : 13 = j := by simpa using hs
                                  have e0 : vs 0 = v5 := hd 0 (by kernel_rfl)
                                  obtain ⟨k12, e12, y12, o12⟩ := hd 12 (by kernel_rfl)
                                  simp only [e0, e12] at hK ⊢
                                  refine wpOp_step rfl (fun K' hK' => ?_)
                                  rw [if_pos (by simp [Region.wanted])]
                                  refine wp_append_pr (.tmp 116) (.tmp 128) rfl (gt + 2) v5 (out ++ r.l) rfl (hst.2 (by decide)) (key, x) k12 rfl y12 hlen hst.1.size ?_
                                  intro v' w' ho hg hw
                                  exact hK' _ _ (hK v' w' ho hg ⟨hst.1.grown hg (fun b hb => ((hst.2 (by decide)).lt b hb).1), fun hh => absurd hh (by decide)⟩)
                                · simp at hs
                              case hdone =>
                                intro vs act W ha' hst hfs
                                simp only [fillF, Act.put, List.take_succ_cons, List.take_zero, List.drop_succ_cons, List.drop_zero, List.setIfInBounds_toArray, List.set_cons_zero, List.set_cons_succ] at ha' ⊢
                                subst ha'
                                have f13 : OwnPr W (gt + 2) (vs 13) (out ++ r.l ++ [(key, x)]) := hfs 13 (by decide)
                                simp only [Nat.zero_add, Nat.reduceAdd]
                                obtain ⟨hst1, -⟩ := hst
                                clear hfs
                                generalize vs 13 = v13 at *
                                have HS2 := Lib.hid hst1
                                have HO2 := Lib.hid f13
                                have HP5 : Hid (SmallP L r.seen (P ++ posQ ns f kn) (out ++ r.l ++ [(key, x)]).length (nj + 1) r.d) := Lib.hid (HP4.out.more _ (by rw [List.length_append, List.length_append]; exact Nat.le_refl _))
                                clear hst1 f13 hS hO
                                go_wp2_with fail
                                go_roundw
                                case rel =>
                                  repeat apply Exists.intro
                                  refine And.intro ?_ rfl
                                  exact ⟨nj + 1, r.d, _, r.seen, _, by omega, by go_num, rfl, HR2, HS2, HO2, HP5⟩
                                case measure => simp [intOf]; omega
                            · have iLt : ¬ (nj : Int) < (KN : Int) := by omega
                              have hR := HR.out
                              rw [List.drop_of_length_le (l := entsQ n) (i := nj) (by rw [HEL2.out]; omega), List.take_nil, List.append_nil] at hR
                              have HR2 := Lib.hid hR
                              have HP5 : Hid (SmallP L r.seen (P ++ posQ ns f kn) (out ++ r.l).length (nj + 1) r.d) := Lib.hid (HP4.out.more _ (by rw [List.length_append]; omega))
                              clear hR HR
                              go_wp2_with (first | (at_builtin; refine wpList_append_prs rfl (.tmp 109) (.tmp 110) rfl (gt + 2) u11 out rfl HO4.out (g + 1) v4 r.l rfl HV4.out hlen2 hsz4 ?_; intro v5 w5 ho5 hg5 hw5; have hS5 := HS4.out.grown hg5 (fun b hb => (HO4.out.lt b hb).1); have hS := Lib.hid hS5; have hO := Lib.hid ho5; clear hS5 ho5) | fail)
                              go_roundw
                              case rel => first | exact ⟨nj + 1, r.d, _, r.seen, _, by omega, by go_num, rfl, HR2, hS, hO, HP5⟩ | exact ⟨_, _, _, v5, .int .i64 (r.d : Int), .int .i64 ((nj : Int) + 1), ⟨nj + 1, by omega, by go_num, r.d, rfl, _, r.seen, HR2, hS, hO, _, HP5⟩, rfl, rfl, rfl, rfl, rfl, rfl⟩
                              case measure => simp [intOf]; omega
                  · have iLe : ¬ (nj : Int) ≤ (KN : Int) := by omega
                    have hj2 : nj = KN + 1 := by omega
                    have hk2 := hk.out
                    rw [hj2, HKE.out] at hk2
                    simp only [kidsR] at hk2
                    have HK2 := Lib.hid hk2
                    have wD : IntKind.i64.wrap ((deep : Int) + 1) = (deep : Int) + 1 := by have := hP.out.deep; rw [IntKind.wrap_i64]; omega
                    clear hk2 hk q0 q1 q2 qt hj2
                    go_wp2_with fail
                    go_ret3
                    exact .yes (HFE.out _ hS.out.far) HK2.out.symm (by push_cast; rfl) (owns_base hO.out (by have := hS.out.gM; omega)) hS.out.ist
end Go.Proofs.Ytopgakdgifmecaa
