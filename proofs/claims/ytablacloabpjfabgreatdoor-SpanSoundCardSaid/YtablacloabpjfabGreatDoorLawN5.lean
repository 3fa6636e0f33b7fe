/-
  PLAIN: the kind of an expression that raw things make.
  CONDITIONS: none.
  A RULE for drawn regions in which one thing is made in any order to the others and filled by a store behind them: facts for each operation's slot, and the cell.
  CONDITIONS: the theorem's own hypotheses.
  WHAT THE LAW 'chirographkeep.SpanSound' WANTS: a heap with its first column told; one more column put on it; what a range says of a number alone; expressions that lie apart from two blocks.
  CONDITIONS: each theorem's own hypotheses.
  THE WALK of the law 'chirographkeep.SpanSound': for every two lists of raw things and key the law returns true.
  CONDITIONS: the raw things lie; the tables lie.
-/
import Derived.Test.YtablacloabpjfabGreatDoorTyT
import Derived.Test.YtablacloabpjfabGreatDoorGKindE
import Derived.Test.YtablacloabpjfabGreatDoorRegI
import Derived.Test.YtablacloabpjfabGreatDoorBlk
import Derived.Test.YtablacloabpjfabGreatDoorBoundK
import Derived.Test.YtablacloabpjfabGreatDoorGSpan
import Derived.Test.YtablacloabpjfabGreatDoorGRow
import Derived.ArgAppend
import Derived.Test.YtablacloabpjfabGreatDoorRawB
namespace Go.Proofs.YtablacloabpjfabGreatDoor
open Go.RowKit
set_option linter.unusedVariables false

theorem leaf_kind {cs : List Cl} (hc : colsR cs = 0) {k : Int} {t : T} (h : Leaf cs k t) : KindOk (kT cs t) k := by
  rcases h with ⟨j, c, hj, hk, rfl⟩ | ⟨k', i, b, s, hk, hchk, h0, _, _, _, rfl⟩
  · have hp : placeN c.n cs 0 = (j : Int) := by
      rw [placeN_hit c.n cs 0 j c hj rfl (fun i' x hx hi he => ?_), Nat.zero_add]
      obtain ⟨p1, p2⟩ := List.getElem?_eq_some_iff.1 hx
      obtain ⟨q1, q2⟩ := List.getElem?_eq_some_iff.1 hj
      have := List.pairwise_iff_getElem.1 (colsR_apart cs hc) i' j p1 q1 hi
      rw [p2, q2] at this
      exact this he
    have e : kT cs (colT c.n) = colK c.n cs := by
      simp only [colT, kT]; rw [if_neg (by decide), if_pos trivial]
    rw [e]
    unfold colK
    rw [hp, if_neg (by omega), Int.toNat_natCast, hj]
    exact ⟨rfl, .inl hk⟩
  · have e : kT cs (litT k' i b s) = ⟨k', k' == 0, 0⟩ := by
      simp only [litT, kT]; rw [if_pos trivial]
    rw [e]
    exact ⟨rfl, hk⟩
theorem ty_kind {cs : List Cl} (hc : colsR cs = 0) : ∀ (n : Nat) (k : Int) (t : T), 1 ≤ k ∧ k ≤ 4 → Ty cs n k t → KindOk (kT cs t) k
  | 0, _, _, _, h => h.elim
  | n + 1, k, t, hk, h => by
    rcases h with h | ⟨op, k', a, h1, h2, rfl⟩ | ⟨op, k', a, b, h1, h2, h3, rfl⟩
    · exact leaf_kind hc h
    · obtain ⟨ho, hk'⟩ := mk1_rng h1
      have ha := ty_kind hc n k' a hk' h2
      have e : kT cs (opN op [a]) = opK op [((kT cs a).k, (kT cs a).n)] := by
        have hF : kF cs [a] = 0 := by simp [kF, ha.1]
        simp only [opN, kT]
        rw [if_neg (by omega), if_neg (by omega), if_neg (by rw [hF]; decide)]
        rfl
      rw [e]
      exact opK_ok1 h1 _ ha.2
    · obtain ⟨ho, hk'⟩ := mk2_rng h1 hk
      have ha := ty_kind hc n k' a hk' h2
      have hb := ty_kind hc n k' b hk' h3
      have e : kT cs (opN op [a, b]) = opK op [((kT cs a).k, (kT cs a).n), ((kT cs b).k, (kT cs b).n)] := by
        have hF : kF cs [a, b] = 0 := by simp [kF, ha.1, hb.1]
        simp only [opN, kT]
        rw [if_neg (by omega), if_neg (by omega), if_neg (by rw [hF]; decide)]
        rfl
      rw [e]
      exact opK_ok2 h1 hk _ _ ha.2 hb.2
end Go.Proofs.YtablacloabpjfabGreatDoor
namespace Go.Proofs.YtablacloabpjfabGreatDoor
open Go Go.RowKit
set_option linter.unusedVariables false

theorem getD_put_true {a : Array Bool} {i j : Nat} (h : a.getD j false = true) : (a.setIfInBounds i true).getD j false = true := by
  by_cases hij : i = j
  · subst hij
    by_cases hs : i < a.size
    · simp [hs]
    · simp [hs] at h
  · simpa [hij] using h
theorem getD_put_of {a : Array Bool} {i j : Nat} (hij : i ≠ j) (h : (a.setIfInBounds i true).getD j false = true) : a.getD j false = true := by simpa [hij] using h
section
variable {P : Program} {l : List Oper} {Q : Exit → Act → World → Prop} {a0 : Act}

structure CelI (n p q : Nat) (T : TypeId) (Z V : List Value) (F : Array Bool → Nat → Value → World → Prop) (w0 : World) (ls : Array Bool) (vs : Nat → Value) (w : World) : Prop where
  below : Below w0.heap.size w0 w
  facts : ∀ j, j < n → j ≠ p → j ≠ q → ls.getD j false = true → F ls j (vs j) w
  cell : ls.getD p false = true → ∃ k, vs p = .pointer (some ⟨k, 0, none⟩) ∧ w0.heap.size ≤ k ∧ Blk w k T (if ls.getD q false = true then V else Z)

theorem wp_region_cell {id : Nat} {w0 : World} (n p q : Nat) (hm : P.follows .mixedOrders = true) (hB : factB l n = true) (hpq : (depB l q p && decide (p ≠ q) && decide (p < n) && decide (q < n)) = true)
    (T : TypeId) (Z V : List Value) (F : Array Bool → Nat → Value → World → Prop)
    (hF : ∀ ls i j v w w', i < n → i ≠ q → j ≠ i → ls.getD i true = false → Below w.heap.size w w' → F ls j v w → F (ls.setIfInBounds i true) j v w')
    (hQ : ∀ ls j v w w', (∀ a b, ls.getD a false = true → depB l a b = true → ls.getD b false = true) → (∀ b, depB l q b = true → ls.getD b false = true) → F ls j v w → F (ls.setIfInBounds q true) j v w')
    (hstep : ∀ i, i < n → i ≠ p → i ≠ q → ∀ (ls : Array Bool) (vs : Nat → Value) (w : World) (K : Act → World → Prop), Below w0.heap.size w0 w → (∀ j, j < n → j ≠ p → j ≠ q → depB l i j = true → F ls j (vs j) w) →
      (∀ v w', F (ls.setIfInBounds i true) i v w' → Below w.heap.size w w' → K ((fillF (l.take n) vs 0 a0).put ((l[i]?).bind (·.dst)) v) w') → (∀ a b, ls.getD a false = true → depB l a b = true → ls.getD b false = true) → (∀ j, depB l i j = true → ls.getD j false = true) → ls.getD i false = false → wpOp P l.toArray Q i K (fillF (l.take n) vs 0 a0) w)
    (hp : ∀ (vs : Nat → Value) (w : World) (K : Act → World → Prop), K ((fillF (l.take n) vs 0 a0).put ((l[p]?).bind (·.dst)) (.pointer (some ⟨w.heap.size, 0, none⟩))) (w.alloc (.cells Z.toArray T)) → wpOp P l.toArray Q p K (fillF (l.take n) vs 0 a0) w)
    (hq : ∀ (ls : Array Bool) (vs : Nat → Value) (w : World) (K : Act → World → Prop) (k : Nat), Below w0.heap.size w0 w → vs p = .pointer (some ⟨k, 0, none⟩) → w0.heap.size ≤ k → Blk w k T Z → (∀ j, j < n → j ≠ p → j ≠ q → depB l q j = true → F ls j (vs j) w) →
      (∀ v w', Blk w' k T V → Below w0.heap.size w0 w' → K ((fillF (l.take n) vs 0 a0).put ((l[q]?).bind (·.dst)) v) w') → wpOp P l.toArray Q q K (fillF (l.take n) vs 0 a0) w)
    (hdone : ∀ (ls : Array Bool) (vs : Nat → Value) (w : World) (k : Nat), Below w0.heap.size w0 w → vs p = .pointer (some ⟨k, 0, none⟩) → w0.heap.size ≤ k → Blk w k T V → (∀ j, j < n → j ≠ p → j ≠ q → F ls j (vs j) w) → wpList P l.toArray Q (l.drop n) (fillF (l.take n) vs 0 a0) w) :
    (Code.region id l.toArray true).wp P Q a0 w0 := by
  simp only [Bool.and_eq_true, decide_eq_true_eq] at hpq
  obtain ⟨⟨⟨hdep, hne⟩, hpn⟩, hqn⟩ := hpq
  refine wp_region_joined n hm hB (CelI n p q T Z V F w0) (fun vs => ?_) (fun i hi ls vs w K h hsz hun hcl hd hu hK => ?_) (fun ls vs w h hall => ?_)
  · have hno : ∀ (N j : Nat), (Array.replicate N false).getD j false = true → False := fun N j hh => by rw [getD_replicate_false] at hh; cases hh
    exact ⟨Below.drew (Below.refl _ _), fun j _ _ _ hl => (hno _ _ hl).elim, fun hl => (hno _ _ hl).elim⟩
  · have hset : (ls.setIfInBounds i true).getD i false = true := by simp [hsz]
    have hifalse : ls.getD i false = false := getD_both hun
    by_cases hip : i = p
    · subst hip
      have hqf : ls.getD q false = false := by
        cases h1 : ls.getD q false with
        | false => rfl
        | true => have h2 := hcl q i h1 hdep; rw [hifalse] at h2; cases h2
      have hba : Below w.heap.size w (w.alloc (.cells Z.toArray T)) := (Below.refl _ _).alloc (Nat.le_refl _) _
      refine hp vs w K (hK _ _ ⟨h.below.alloc h.below.size _, fun j hj h1 h2 hl => ?_, fun _ => ⟨_, by simp [upd], h.below.size, ?_⟩⟩)
      · have : upd vs i (.pointer (some ⟨w.heap.size, 0, none⟩)) j = vs j := by simp [upd, h1]
        rw [this]
        exact hF ls i j _ w _ hi hne h1 hun hba (h.facts j hj h1 h2 (getD_put_of (Ne.symm h1) hl))
      · rw [if_neg (by
          intro hh
          rw [getD_put_of hne hh] at hqf; cases hqf)]
        exact Blk.new w Z.toArray T
    by_cases hiq : i = q
    · subst hiq
      obtain ⟨k, e, hk, hz⟩ := h.cell (hd p hdep)
      rw [if_neg (by rw [hifalse]; decide)] at hz
      refine hq ls vs w K k h.below e hk hz (fun j hj h1 h2 hdj => h.facts j hj h1 h2 (hd j hdj)) (fun v w' hv hb => hK _ _ ⟨hb, fun j hj h1 h2 hl => ?_, fun _ => ⟨k, ?_, hk, ?_⟩⟩)
      · have : upd vs i v j = vs j := by simp [upd, h2]
        rw [this]
        exact hQ ls j _ w _ hcl hd (h.facts j hj h1 h2 (getD_put_of (Ne.symm h2) hl))
      · have : upd vs i v p = vs p := by simp [upd, hne]
        rw [this]; exact e
      · rw [if_pos hset]; exact hv
    · refine hstep i hi hip hiq ls vs w K h.below (fun j hj h1 h2 hdj => h.facts j hj h1 h2 (hd j hdj)) (fun v w' hv hb => hK _ _ ⟨h.below.trans (hb.mono h.below.size), fun j hj h1 h2 hl => ?_, fun hl => ?_⟩) hcl hd hifalse
      · by_cases hji : j = i
        · subst hji
          have : upd vs j v j = v := by simp [upd]
          rw [this]; exact hv
        · have : upd vs i v j = vs j := by simp [upd, hji]
          rw [this]
          exact hF ls i j _ w _ hi hiq hji hun hb (h.facts j hj h1 h2 (getD_put_of (Ne.symm hji) hl))
      · have hl' : ls.getD p false = true := getD_put_of (fun e => hip e) hl
        obtain ⟨k, e, hk, hz⟩ := h.cell hl'
        refine ⟨k, by simp [upd, Ne.symm hip]; exact e, hk, ?_⟩
        have e2 : ((ls.setIfInBounds i true).getD q false = true) = (ls.getD q false = true) := by
          rw [show (ls.setIfInBounds i true).getD q false = ls.getD q false by simp [hiq]]
        simp only [e2]
        exact hz.call hb
  · obtain ⟨k, e, hk, hz⟩ := h.cell (hall p hpn)
    rw [if_pos (hall q hqn)] at hz
    exact hdone ls vs w k h.below e hk hz (fun j hj h1 h2 => h.facts j hj h1 h2 (hall j hj))
end
end Go.Proofs.YtablacloabpjfabGreatDoor
namespace Go.Proofs.YtablacloabpjfabGreatDoor
open Go.RowKit
set_option linter.unusedVariables false
set_option maxRecDepth 100000

def HeapFst (w : World) (e : Ending) (w' : World) : Prop := ∃ (S : HpS) (H : Nat), e = .returned (.pointer (some ⟨H, 0, none⟩)) ∧ Hid (HpAt S H w' 0) ∧ Hid (HpK S) ∧ Hid (∃ r, S.cs = ⟨[107], 2, false⟩ :: r) ∧ Hid (1 ≤ S.cs.length ∧ S.cs.length ≤ S.capc ∧ S.capc ≤ 9223372036854775807) ∧ w.heap.size ≤ H ∧ Below w.heap.size w w'
set_option maxHeartbeats 4000000 in
theorem heapOf_first (l : List R) (ao : Option Addr) (cap : Nat) (w : World) (h : Raws w ao l) (hcap : l.length ≤ cap) (hc : l.length ≤ 9223372036854775807) :
    Calls Tryz.prog 31 #[.slice ao l.length cap] w (HeapFst w) := by
  unfold HeapFst
  obtain ⟨n, hn⟩ : ∃ n, l.length = n := ⟨_, rfl⟩
  have c1 := fun W => someH_any ao n cap 40 40 rfl W (by omega) (by omega) (by decide)
  have c2 := fun W => picked_any (n : Int) 4 W (by decide) (by decide) (by omega) (by omega)
  have c3 := fun W => someH_any ao n cap (n % 4) ((n : Int) % 4) (by omega) W (by omega) (by omega) (by omega)
  have hl4 : (l.take (min n (n % 4))).length = min n (n % 4) := by rw [List.length_take]; omega
  have hl40 : (l.take (min n 40)).length = min n 40 := by rw [List.length_take]; omega
  have c4 := Cols_any (l.take (min n (n % 4))) ao cap w (h.take _) (by omega) (by omega)
  rw [hl4] at c4
  unfold ColsOk at c4
  have HR := Lib.hid (h.take (min n 40))
  have hm40 : min n 40 ≤ 40 := by omega
  rw [hn]
  have H40 := Lib.hid (And.intro hl40 hm40)
  clear h hcap hc hn hl4 hl40 hm40
  generalize hq4 : min n (n % 4) = q at *
  generalize hq40 : min n 40 = p at *
  clear hq4 hq40
  generalize (n : Int) % 4 = m4 at *
  go_enter Tryz.func31, Tryz.ntmps31
  go_wp2_with fail
  refine (c1 _).mono ?_
  rintro e w1 ⟨rfl, rfl⟩
  clear c1
  go_wp2_with fail
  refine (c2 _).mono ?_
  rintro e w1 ⟨rfl, rfl⟩
  clear c2
  go_wp2_with fail
  refine (c3 _).mono ?_
  rintro e w1 ⟨rfl, rfl⟩
  clear c3
  go_wp2_with fail
  refine c4.mono ?_
  rintro e w2 ⟨v, ks, rfl, ho, hk, hk4, hb2⟩
  obtain ⟨aoc, capc, rfl, hlc, hcc, hcols, hcb⟩ := OwnC.cols ho (fun c hc => (madeC_fit ks hk4.out c hc).1)
  have hk3 : ks.length ≤ 3 := by omega
  have HC := Lib.hid hcols
  have HLC := Lib.hid (And.intro (show 1 ≤ (madeC ks).length by rw [madeC_length]; omega) (And.intro hlc hcc))
  have HK3 := Lib.hid hk3
  have HCB := Lib.hid hcb
  clear ho hcols hlc hcc hk hk3 hcb c4
  go_wp2_with fail
  go_ret
  obtain ⟨e40, h40⟩ := H40.out
  have hz := Blk.new w2 #[.slice ao (l.take p).length cap, .int .i64 ((0 : Nat) : Int), .slice aoc (madeC ks).length capc] 65
  have hnew := hd_new w2 (.cells #[.slice ao p cap, .int .i64 0, .slice aoc (madeC ks).length capc] 65)
  rw [e40] at hz
  refine ⟨⟨ao, cap, l.take p, aoc, capc, madeC ks⟩, w2.heap.size, rfl, Lib.hid ⟨?_, (HR.out.keep hb2).keep hnew, HC.out.keep hnew⟩, Lib.hid ⟨by show (l.take p).length ≤ 40; omega, by show (madeC ks).length ≤ 4; rw [madeC_length]; have := HK3.out; omega, madeC_ok ks HK3.out hk4.out, fun c hc => by
    have e : some (⟨[107], 2, false⟩ : Cl) = some c := hc
    simp only [Option.some.injEq] at e
    rw [← e]⟩, Lib.hid ⟨_, rfl⟩, HLC, hb2.size, hb2.alloc hb2.size _⟩
  show Blk _ _ _ [.slice ao (l.take p).length cap, _, _]
  rw [e40]
  exact hz

def csKA : List Cl := [⟨[107], 2, false⟩, ⟨nA, 2, true⟩]
theorem csKA_ok : colsR csKA = 0 := by decide
theorem csKA_fit : ∀ c ∈ csKA, FitC c := fun c hc => by
  simp only [csKA, List.mem_cons, List.not_mem_nil, or_false] at hc
  rcases hc with rfl | rfl
  · exact (madeC_fit [] (fun p hp => by cases hp) _ (List.mem_cons_self ..)).1
  · exact (madeC_fit [(2, true)] (fun p hp => by simp only [List.mem_singleton] at hp; subst hp; decide) ⟨nA, 2, true⟩ (List.mem_cons_of_mem _ (List.mem_cons_self ..))).1
/-- One column behind the first, in a block of its own. -/
theorem wp_append_ka {o : Oper} {a : Act} {K : Act → World → Prop} {Q : Exit → Act → World → Prop} {w : World} (s x : Operand)
    (ho : o.op = .call { callee := .builtin .append, args := #[s, x], argTypes := #[34, 34] }) (b f : Nat) (hs : a.eval s = .slice (some ⟨b, f, none⟩) 1 1)
    (h0 : w.cell? ⟨b, f, none⟩ = some (.string ⟨#[107]⟩)) (h1 : w.cell? ⟨b, f + 1, none⟩ = some (.int .i64 2)) (h2 : w.cell? ⟨b, f + 2, none⟩ = some (.bool false)) (m : Nat)
    (hx : a.eval x = .slice (some ⟨m, 0, none⟩) 1 1) (hB : Blk w m 57 [.string ⟨#[97]⟩, .int .i64 2, .bool true])
    (h : ∀ g cap w', w.heap.size ≤ g → 2 ≤ cap → cap ≤ 9223372036854775807 → Cols w' (some ⟨g, 0, none⟩) csKA → Below w.heap.size w w' → K (a.put o.dst (.slice (some ⟨g, 0, none⟩) 2 cap)) w') : o.wp Tryz.prog a w K Q := by
  obtain ⟨⟨y0, y1, y2⟩, _⟩ := hB.three
  obtain ⟨i0, hi, hz0, hz1, hz2⟩ := info_parts infoC
  obtain ⟨v', w', hr, k1, k2⟩ := run_append_arg_grows (P := Tryz.prog) w 34 o.type 57 i0 _ 3 32 Tryz.underlying34 hi hz0 hz1 hz2 rfl (by decide) ⟨b, f, none⟩ 1 1 (cellsC1 ⟨[107], 2, false⟩) rfl (fun j u hj => by
    have hj4 : j < 3 := by have := (List.getElem?_eq_some_iff.1 hj).1; simpa [cellsC1] using this
    rw [Addr.add_lit]
    rcases (show j = 0 ∨ j = 1 ∨ j = 2 by omega) with rfl | rfl | rfl
    · exact h0.trans hj
    · exact h1.trans hj
    · exact h2.trans hj) ⟨m, 0, none⟩ 1 1 (cellsC1 ⟨nA, 2, true⟩) rfl (fun j u hj => by
    have hj4 : j < 3 := by have := (List.getElem?_eq_some_iff.1 hj).1; simpa [cellsC1] using this
    rw [addr_addC]
    rcases (show j = 0 ∨ j = 1 ∨ j = 2 by omega) with rfl | rfl | rfl
    · exact y0.trans hj
    · exact y1.trans hj
    · exact y2.trans hj) (by decide) (by unfold maxLen; omega) (by decide)
  unfold Oper.wp execOp
  simp only [ho, resolve, invoke, builtin, Sem.run_bind, Sem.run_pure, Result.andThen_ok, List.map_toArray, List.map_cons, List.map_nil, hs, hx, hr]
  have hown : OwnC w' w.heap.size v' csKA := k1
  have hb : Below w.heap.size w w' := ⟨k2.os, k2.tape, k2.output, k2.size, fun k hk => k2.block k hk (by simp)⟩
  obtain ⟨ao, cap', e, _, _, hC, _⟩ := hown.cols csKA_fit
  rcases k1.2 with ⟨_, h0'⟩ | ⟨g, cap, cur, rfl, hbg, hg, hn, hc, _⟩
  · omega
  · simp only [Value.slice.injEq] at e
    obtain ⟨rfl, _, _⟩ := e
    exact h g cap w' hbg hn (by unfold maxLen at hc; omega) hC hb

theorem wpList_append_ka {ops : Array Oper} {rest : List Oper} {o : Oper} {a : Act} {Q : Exit → Act → World → Prop} {w : World} (hgd : o.guard = none) (s x : Operand)
    (ho : o.op = .call { callee := .builtin .append, args := #[s, x], argTypes := #[34, 34] }) (b f : Nat) (hs : a.eval s = .slice (some ⟨b, f, none⟩) 1 1)
    (h0 : w.cell? ⟨b, f, none⟩ = some (.string ⟨#[107]⟩)) (h1 : w.cell? ⟨b, f + 1, none⟩ = some (.int .i64 2)) (h2 : w.cell? ⟨b, f + 2, none⟩ = some (.bool false)) (m : Nat)
    (hx : a.eval x = .slice (some ⟨m, 0, none⟩) 1 1) (hB : Blk w m 57 [.string ⟨#[97]⟩, .int .i64 2, .bool true])
    (h : ∀ g cap w', w.heap.size ≤ g → 2 ≤ cap → cap ≤ 9223372036854775807 → Cols w' (some ⟨g, 0, none⟩) csKA → Below w.heap.size w w' → wpList Tryz.prog ops Q rest (a.put o.dst (.slice (some ⟨g, 0, none⟩) 2 cap)) w') : wpList Tryz.prog ops Q (o :: rest) a w :=
  wpList_plain hgd fun _ hK => wp_append_ka s x ho b f hs h0 h1 h2 m hx hB fun g cap w' k1 k2 k3 k4 k5 => hK _ _ (h g cap w' k1 k2 k3 k4 k5)
/-- The heap with the new columns. -/
theorem heap_put {S : HpS} {H : Nat} {w w' : World} {g cap : Nat} (h : HpAt S H w 0) (hg : w.heap.size ≤ g) (hC : Cols w' (some ⟨g, 0, none⟩) csKA) (hb : Below w.heap.size w w') :
    HpAt ⟨S.aol, S.capl, S.l, some ⟨g, 0, none⟩, cap, csKA⟩ H (w'.setCell ⟨H, 2, none⟩ (.slice (some ⟨g, 0, none⟩) 2 cap)) 0 := by
  have hlt := h.lt
  have hB := h.1.call hb
  have hHB : HB H w (w'.setCell ⟨H, 2, none⟩ (.slice (some ⟨g, 0, none⟩) 2 cap)) := ((HB.refl H w).below hb).own 2 _
  have hb' : Below (hd H w).heap.size (hd H w) (hd H (w'.setCell ⟨H, 2, none⟩ (.slice (some ⟨g, 0, none⟩) 2 cap))) := by rw [hd_size]; exact hHB
  refine ⟨hB.set 2 _, h.2.1.keep hb', ?_⟩
  rw [hd_set]
  refine ⟨hC.1, ?_⟩
  rcases hC.2 with e | ⟨a, o, e, h2, h3⟩
  · cases e
  · simp only [Option.some.injEq, Addr.mk.injEq] at e
    obtain ⟨rfl, rfl, _⟩ := e
    have hne : g ≠ H := by omega
    exact .inr ⟨g, 0, rfl, by rw [hd_size]; exact h2, fun j v hv => by
      obtain ⟨c0, c1, c2⟩ := h3 j v hv
      exact ⟨(hd_cell H w' _ hne).trans c0, (hd_cell H w' _ hne).trans c1, (hd_cell H w' _ hne).trans c2⟩⟩

/-! ### expressions apart from two blocks -/
def XTh (H g : Nat) (W : World) (t : T) (ao : Option Addr) (cap : Nat) : Prop := XT (hd g (hd H W)) t ao cap
theorem XTh.hb {H g : Nat} {w w' : World} {t : T} {ao : Option Addr} {cap : Nat} (h : XTh H g w t ao cap) (k : HB H w w') : XTh H g w' t ao cap := by
  refine XT.keep h ?_
  have hb' : Below (hd H w).heap.size (hd H w) (hd H w') := by rw [hd_size]; exact k
  have := (HB.refl g (hd H w)).below hb'
  rw [hd_size]; exact this
theorem XTh.keep {H g : Nat} {w w' : World} {t : T} {ao : Option Addr} {cap : Nat} (h : XTh H g w t ao cap) (hb : Below w.heap.size w w') : XTh H g w' t ao cap := h.hb ((HB.refl H w).below hb)
theorem XTh.set7 {H g : Nat} {w : World} {t : T} {ao : Option Addr} {cap : Nat} (h : XTh H g w t ao cap) (hne : g ≠ H) {a0 a1 a2 a3 a4 a5 a6 : Value} : XTh H g (((((((w.setCell ⟨g, 0, none⟩ a0).setCell ⟨g, 1, none⟩ a1).setCell ⟨g, 2, none⟩ a2).setCell ⟨g, 3, none⟩ a3).setCell ⟨g, 4, none⟩ a4).setCell ⟨g, 5, none⟩ a5).setCell ⟨g, 6, none⟩ a6) t ao cap := by
  unfold XTh at h ⊢
  rw [hd_other H _ ⟨g, 6, none⟩ a6 hne, hd_other H _ ⟨g, 5, none⟩ a5 hne, hd_other H _ ⟨g, 4, none⟩ a4 hne, hd_other H _ ⟨g, 3, none⟩ a3 hne, hd_other H _ ⟨g, 2, none⟩ a2 hne, hd_other H _ ⟨g, 1, none⟩ a1 hne, hd_other H _ ⟨g, 0, none⟩ a0 hne]
  rw [hd_set, hd_set, hd_set, hd_set, hd_set, hd_set, hd_set]
  exact h
theorem XTh.show {H g : Nat} {w : World} {t : T} {ao : Option Addr} {cap : Nat} (h : XTh H g w t ao cap) : XT w t ao cap :=
  ⟨h.A.sub (by rw [hd_size, hd_size]; exact Nat.le_refl _) (fun a v hv => hd_sub (hd_sub hv)), h.n1, h.n2, h.n3⟩
theorem XTh.of {H g b : Nat} {w : World} {t : T} {ao : Option Addr} {cap : Nat} (h : XTb b w t ao cap) (hH : H < b) (hg : g < b) : XTh H g w t ao cap :=
  ⟨h.A.sub (by rw [lo_size, hd_size, hd_size]; exact Nat.le_refl _) (fun a v hv => by
    obtain ⟨h1, h2⟩ := lo_sub hv
    rw [hd_cell g _ a (by omega), hd_cell H _ a (by omega)]; exact h2), h.n1, h.n2, h.n3⟩
theorem XTh.first {H b : Nat} {w : World} {t : T} {ao : Option Addr} {cap : Nat} (h : XTb b w t ao cap) (hH : H < b) (hlt : H < w.heap.size) (o : Obj) : XTh H w.heap.size (w.alloc o) t ao cap := by
  have h1 : XT (hd H w) t ao cap := ⟨h.A.sub (by rw [lo_size, hd_size]; exact Nat.le_refl _) (fun a v hv => by
    obtain ⟨h1, h2⟩ := lo_sub hv
    rw [hd_cell H _ a (by omega)]; exact h2), h.n1, h.n2, h.n3⟩
  unfold XTh
  rw [hd_alloc H w o hlt]
  have := hd_new (hd H w) o
  rw [hd_size] at this
  exact h1.keep (by rw [hd_size]; exact this)
theorem hop2h (op : Int) (h g' : Nat) (hop : 0 ≤ op ∧ op ≤ 100) (t u : T) (ao ap : Option Addr) (cap caq : Nat) (w : World) (ht : XTh h g' w t ao cap) (hu : XTh h g' w u ap caq) (hh : h < w.heap.size) (hg : g' < w.heap.size) :
    Calls Tryz.prog 24 #[.int .i64 op, exprV t ao cap, exprV u ap caq] w fun e w' => ∃ k, e = .returned (.agg #[.int .i64 op, .int .i64 0, .int .i64 0, .int .u64 0, .string ⟨#[]⟩, .string ⟨#[]⟩, .slice (some ⟨k, 0, none⟩) 2 2]) ∧ Hid (XTh h g' w' (opN op [t, u]) (some ⟨k, 0, none⟩) 2) ∧ Below w.heap.size w w' :=
  (op2_any op hop t u ao ap cap caq w ht.show hu.show).mono fun e w' ⟨k, h1, _, h3, h4, h5⟩ => ⟨k, h1, xt_two op hop (ht.keep h4) (hu.keep h4) (by
    unfold Blk at h5 ⊢
    rw [hd_at g' _ k (by omega), hd_at h _ k (by omega)]; exact h5), h4⟩

set_option maxHeartbeats 4000000 in
theorem spanTells_any (w : World) (hX : XEnv w) : Calls Tryz.prog 39 #[] w fun e w' => e = .returned (.bool true) ∧ Below w.heap.size w w' := by
  have cN := knum_any 1 w
  have cO := fun W (hW : Below w.heap.size w W) => span_of_any (litT 2 1 0 []) none 0 nA W (xt_num W 1 (by decide)).A (by decide) (hX.keep hW)
  have e1 : spanR nA (litT 2 1 0 []) = ⟨⟨-9223372036854775808, 9223372036854775807⟩, 0⟩ := by
    have he : exprR (litT 2 1 0 []) = 0 := ty_expr (cs := []) (by decide) 1 (by decide) 2 _ (by decide) (tyNum [] 1 (by decide) (by decide))
    have hd : (litT 2 1 0 []).deep = 1 := by simp [litT, T.deep, deepL]
    unfold spanR
    rw [if_neg (by rw [he]; decide), hd]
    rfl
  rw [e1] at cO
  have hsa : str nA = ⟨#[97]⟩ := rfl
  rw [hsa, ← numV_expr] at cO
  unfold rgV at cO
  unfold numV at cN cO
  simp only at cO
  clear hX e1 hsa
  go_enter Tryz.func39, Tryz.ntmps39
  go_wp2_with fail
  refine cN.mono ?_
  rintro e w1 ⟨rfl, hb1⟩
  have c2 := cO w1 hb1
  clear cN cO
  go_wp2_with fail
  refine c2.mono ?_
  rintro e w2 ⟨rfl, hb2⟩
  have hb02 := below_stepH hb1 hb1.size hb2
  clear c2 hb2 hb1
  have hb03 := hb02.alloc hb02.size (.cells #[.int .i64 (-9223372036854775808), .int .i64 9223372036854775807] 74)
  go_wp2_with fail
  go_ret
  exact ⟨rfl, hb03⟩
end Go.Proofs.YtablacloabpjfabGreatDoor
namespace Go.Proofs.YtablacloabpjfabGreatDoor
open Go.RowKit
set_option linter.unusedVariables false
set_option maxRecDepth 100000

theorem exprV_sevenU (t : T) (ao : Option Addr) (cap : Nat) : ∃ (xo xk xi xb : Int) (xs xm : ByteArray) (xl : Nat), exprV t ao cap = .agg #[.int .i64 xo, .int .i64 xk, .int .i64 xi, .int .u64 xb, .string xs, .string xm, .slice ao xl cap] := ⟨_, _, _, _, _, _, _, exprV_cells t ao cap⟩
theorem someU_any (ao : Option Addr) (n cap m : Nat) (M : Int) (hM : M = m) (w : World) (hn : n ≤ cap) (hc : n ≤ 9223372036854775807) (hm : m ≤ 1000000) :
    Calls Tryz.prog 36 #[.slice ao n cap, .int .i64 M] w fun e w' => e = .returned (.slice ao (min n m) cap) ∧ w = w' := someH_any ao n cap m M hM w hn hc hm
theorem ty_lift {cs : List Cl} {n : Nat} {k : Int} {t : T} (h : Ty cs n k t) : ∀ q, Ty cs (n + q) k t
  | 0 => h
  | q + 1 => Ty.more cs _ _ _ (ty_lift h q)
/-- What the condition is while comparisons are put to it. -/
structure SsOk (j : Nat) (t : T) : Prop where
  ty : Ty csKA (3 + j) 1 t
  size : t.size ≤ 8 + 5 * j
theorem ss_first {t : T} (h : Ty csKA 3 1 t) : SsOk 0 t := ⟨h, by have := (ty_deep 3 1 t h).2; omega⟩
theorem ss_and {j : Nat} {t u : T} (h : SsOk j t) (hu : Bd u) : SsOk (j + 1) (opN 15 [t, u]) := by
  have hb := bd_ok hu
  have h3 := hb.ty csKA ⟨1, ⟨nA, 2, true⟩, rfl, rfl, rfl⟩
  refine ⟨ty_op2 (op := 15) (.inr (.inr (.inl ⟨rfl, .inl rfl, rfl⟩))) h.ty (ty_lift h3 j), ?_⟩
  have := h.size
  have := hb.size
  simp only [opN, T.size, sizeL]
  omega
theorem ss_facts {j : Nat} {t : T} (h : SsOk j t) (hj : j ≤ 3) (hF : FitT t) (r0 r1 : Vl) (hR : rowR [r0, r1] csKA = 0) (hV : ∀ v ∈ [r0, r1], FitV v) :
    ∃ lo hi, spanR nA t = ⟨⟨lo, hi⟩, 0⟩ ∧ ((evalR t csKA [r0, r1]).f = 0 → (evalR t csKA [r0, r1]).v.i = 1 → lo ≤ r1.i ∧ r1.i ≤ hi) := by
  have hf := ty_form csKA_ok _ 1 t (by decide) h.ty
  have hs := h.size
  have hd := (ty_deep _ 1 t h.ty).1
  have he : exprR t = 0 := by
    rw [exprR_small t (by omega) (by omega)]; exact hf
  have hsp : spanR nA t = ⟨leavesG nA t.deep t, 0⟩ := by unfold spanR; rw [if_neg (by rw [he]; decide)]
  have hcol : colE csKA [r0, r1] nA = okE r1 := rfl
  have hin : in64 r1.i := by
    have := hV r1 (by simp)
    exact ⟨this.i0, this.i1⟩
  have hk := ty_kind csKA_ok _ 1 t (by decide) h.ty
  have hS := sound_ev csKA [r0, r1] hR t.deep t (Nat.le_refl _) hf hk.1
  have hO := ok_ev csKA [r0, r1] (rowR_ok [r0, r1] csKA hV hR).1 t.deep t (Nat.le_refl _) hF hf
  rw [evalR_ok t _ _ he hR]
  refine ⟨(leavesG nA t.deep t).lo, (leavesG nA t.deep t).hi, hsp, fun h0 h1 => ?_⟩
  have hk1 : (evT csKA [r0, r1] t).v.k = 1 := by
    rcases hS with ⟨_, h2, _⟩ | h2
    · by_cases hz : (evT csKA [r0, r1] t).v.k = 0
      · rcases hO.v.cases with e | ⟨b, e⟩ | ⟨m, e, _⟩ | ⟨e, _⟩ | ⟨s, e, _⟩
        · rw [e] at h1; cases h1
        · rw [e]; rfl
        · rw [e] at hz; cases hz
        · rw [e] at hz; cases hz
        · rw [e] at hz; cases hz
      · have h3 := h2 hz
        rcases hk.2 with h4 | h4
        · rw [h3, h4]
        · rw [h4] at h3; exact absurd h3 hz
    · unfold FewF at h2; omega
  exact span_sound csKA [r0, r1] nA r1 hcol hin t.deep t (Nat.le_refl _) hf hF h0 hk1 h1
theorem row_two {w w' : World} {v : Value} {vs : List Vl} (ho : OwnW w' w.heap.size v vs) (hr : RowOkL vs csKA ∧ vs.length = csKA.length) :
    ∃ gr capr r0 r1, vs = [r0, r1] ∧ v = .slice (some ⟨gr, 0, none⟩) 2 capr ∧ 2 ≤ capr ∧ capr ≤ 9223372036854775807 ∧ Vals w' (some ⟨gr, 0, none⟩) [r0, r1] ∧ rowR [r0, r1] csKA = 0 ∧ w'.cell? ⟨gr, 5, none⟩ = some (.int .i64 r1.i) ∧ gr < w'.heap.size ∧ w.heap.size ≤ gr := by
  obtain ⟨ao, cap, e, h1, h2, h3, _⟩ := OwnW.vals ho hr.1.fit
  have hrow := hr.1.row hr.2 csKA_ok
  obtain ⟨hr1, hr2⟩ := hr
  match vs, hr2 with
  | [r0, r1], _ =>
    rcases ho.2 with ⟨_, h0⟩ | ⟨g, c, cur, e', hbg, hg, _⟩
    · cases h0
    · rw [e'] at e
      simp only [Value.slice.injEq] at e
      obtain ⟨rfl, _, rfl⟩ := e
      refine ⟨g, c, r0, r1, rfl, e', h1, h2, h3, hrow, ?_, (Array.getElem?_eq_some_iff.1 hg).1, hbg⟩
      rcases h3.2 with h | ⟨a, o, e2, _, hL⟩
      · cases h
      · simp only [Option.some.injEq, Addr.mk.injEq] at e2
        obtain ⟨rfl, rfl, _⟩ := e2
        exact (hL 1 r1 rfl).2.1
def SouF (yo yk yi yb : Int) (ys ym : ByteArray) (ay : Option Addr) (yl cy : Nat) (H gc capc gr capr : Nat) (rk ri rb : Int) (rs : ByteArray) (rf : Int) : Array Bool → Nat → Value → World → Prop
  | _, 0, v, _ => v = .agg #[.int .i64 yo, .int .i64 yk, .int .i64 yi, .int .u64 yb, .string ys, .string ym, .slice ay yl cy]
  | _, 1, v, _ => v = .pointer (some ⟨H, 0, none⟩)
  | _, 2, v, _ => v = .pointer (some ⟨H, 0, none⟩)
  | _, 3, v, _ => v = .pointer (some ⟨H, 2, none⟩)
  | _, 4, v, _ => v = .slice (some ⟨gc, 0, none⟩) 2 capc
  | _, 5, v, _ => v = .slice (some ⟨gr, 0, none⟩) 2 capr
  | _, 6, v, _ => v = .tuple #[.agg #[.int .i64 rk, .int .i64 ri, .int .u64 rb, .string rs], .int .i64 rf]
  | _, 7, v, _ => v = .tuple #[.agg #[.int .i64 rk, .int .i64 ri, .int .u64 rb, .string rs], .int .i64 rf]
  | _, 8, v, _ => v = .agg #[.int .i64 rk, .int .i64 ri, .int .u64 rb, .string rs]
  | _, 9, v, _ => v = .int .i64 rf
  | _, 10, _, _ => True
  | _, 11, _, _ => True
  | _, _, _, _ => True
/-- What the loop's drawn statement leaves in its slots. -/
def SndF (H g : Nat) (xo xk xi xb : Int) (xs xm : ByteArray) (ao : Option Addr) (xl cap : Nat) (rk ra rb : Int) (rs : ByteArray) (t : T) : Nat → Value → World → Prop
  | 0, v, _ => v = .agg #[.int .i64 xo, .int .i64 xk, .int .i64 xi, .int .u64 xb, .string xs, .string xm, .slice ao xl cap]
  | 1, v, _ => v = .agg #[.int .i64 rk, .int .i64 ra, .int .i64 rb, .string rs]
  | 2, v, W => ∃ u au cu, v = exprV u au cu ∧ Hid (Bd u) ∧ Hid (XTh H g W u au cu)
  | 3, v, W => ∃ k u, v = .agg #[.int .i64 15, .int .i64 0, .int .i64 0, .int .u64 0, .string ⟨#[]⟩, .string ⟨#[]⟩, .slice (some ⟨k, 0, none⟩) 2 2] ∧ Hid (Bd u) ∧ Hid (XTh H g W (opN 15 [t, u]) (some ⟨k, 0, none⟩) 2)
  | _, _, _ => True
/-- The condition, as a block holds it. -/
def SsIn (H g j : Nat) (w : World) : Prop := ∃ t ao cap xo xk xi xb xs xm xl, Blk w g 27 [.int .i64 xo, .int .i64 xk, .int .i64 xi, .int .u64 xb, .string xs, .string xm, .slice ao xl cap] ∧ exprV t ao cap = .agg #[.int .i64 xo, .int .i64 xk, .int .i64 xi, .int .u64 xb, .string xs, .string xm, .slice ao xl cap] ∧ XTh H g w t ao cap ∧ SsOk j t
theorem SsIn.call {H g j : Nat} {w w' : World} (h : SsIn H g j w) (hb : Below w.heap.size w w') : SsIn H g j w' := by
  obtain ⟨t, ao, cap, xo, xk, xi, xb, xs, xm, xl, h1, h2, h3, h4⟩ := h
  exact ⟨t, ao, cap, xo, xk, xi, xb, xs, xm, xl, h1.call hb, h2, h3.keep hb, h4⟩
set_option maxHeartbeats 16000000 in
theorem spanSound_walk (l : List R) (aol : Option Addr) (capl : Nat) (l2 : List R) (aom : Option Addr) (capm : Nat) (key : Int) (w : World) (hX : XEnv w) (hc : l.length ≤ capl) (hm : capl ≤ 9223372036854775807) (hx : Raws w aol l) (hc2 : l2.length ≤ capm) (hm2 : capm ≤ 9223372036854775807) (hx2 : Raws w aom l2) (q0 : -9223372036854775808 ≤ key) (q1 : key ≤ 9223372036854775807) :
    Calls Tryz.prog 12 #[.slice aol l.length capl, .slice aom l2.length capm, .int .i64 key] w fun e w' => e = .returned (.bool true) ∧ Below w.heap.size w w' := by
  have cH := heapOf_first l aol capl w hx hc (by omega)
  obtain ⟨n, hn⟩ : ∃ n, l.length = n := ⟨_, rfl⟩
  rw [hn] at cH ⊢
  unfold HeapFst at cH
  have cB := fun W (r : R) (hr : r.Fits) => bound_any r hr W
  have cS := fun W => someU_any aom l2.length capm 3 3 rfl W hc2 (by omega) (by decide)
  obtain ⟨ln, hln⟩ : ∃ ln, l2.length = ln := ⟨_, rfl⟩
  rw [hln] at cS ⊢
  obtain ⟨p, hp⟩ : ∃ p, min ln 3 = p := ⟨_, rfl⟩
  rw [hp] at cS
  have hp3 : p ≤ 3 := by omega
  have HL := Lib.hid (show p ≤ l2.length by omega)
  have HR2 := Lib.hid hx2
  unfold BoundOk at cB
  have HX := Lib.hid hX
  have HKEY := Lib.hid (And.intro q0 q1)
  clear hx hn hc hm hX q0 q1 hx2 hc2 hm2 hln hp
  go_enter Tryz.func12, Tryz.ntmps12
  go_wp2_with fail
  refine cH.mono ?_
  rintro e w1 ⟨S, H, rfl, HA, HS, HFS, HCP, hwH, hb1⟩
  clear cH
  have hA := HA.out
  obtain ⟨⟨c0, c1, c2⟩, f0, f1, f2⟩ := hA.1.three
  obtain ⟨aol0, capl0, l0, aoc, capc0, cs⟩ := S
  obtain ⟨rest, hcs⟩ := HFS.out
  simp only at hcs
  subst hcs
  obtain ⟨b, f, rfl, hb, hL⟩ := hA.2.2.show.2.resolve_left (fun e => by cases e)
  obtain ⟨d0, d1, d2⟩ := hL 0 ⟨[107], 2, false⟩ rfl
  have hd0 : w1.cell? ⟨b, f, none⟩ = some (.string ⟨#[107]⟩) := by have := d0; rw [Nat.zero_mul, Nat.add_zero] at this; exact this
  have hd1 : w1.cell? ⟨b, f + 1, none⟩ = some (.int .i64 2) := by simpa using d1
  have hd2 : w1.cell? ⟨b, f + 2, none⟩ = some (.bool false) := by simpa using d2
  obtain ⟨k1, k2, k3⟩ := HCP.out
  simp only at k1 k2 k3 c0 c1 c2
  have kcap : 1 ≤ capc0 := by omega
  have hHlt := hA.lt
  have HZ := Lib.hid (And.intro hd0 (And.intro hd1 hd2))
  have HHL := Lib.hid hHlt
  have HB1 := Lib.hid hb1
  have HWH := Lib.hid hwH
  have HBB := Lib.hid hb
  have zH := hA.1
  clear hd0 hd1 hd2 d0 d1 d2 hL k1 k2 k3 hA HFS HCP hHlt hb1 hwH hb c0 c1 c2 f0 f1 f2
  simp only at zH
  generalize (({ n := [107], k := 2, nl := false } : Cl) :: rest).length = lc at *
  have hba := (Below.refl w1.heap.size w1).alloc (Nat.le_refl _) (.cells #[.string ⟨#[97]⟩, .int .i64 2, .bool true] 57)
  have HP0 := Lib.hid (And.intro ((hba.cell (p := ⟨b, f, none⟩) HBB.out).trans HZ.out.1) (And.intro ((hba.cell (p := ⟨b, f + 1, none⟩) HBB.out).trans HZ.out.2.1) ((hba.cell (p := ⟨b, f + 2, none⟩) HBB.out).trans HZ.out.2.2)))
  have HPB := Lib.hid (Blk.new w1 #[.string ⟨#[97]⟩, .int .i64 2, .bool true] 57)
  have HBA := Lib.hid hba
  have HZH := Lib.hid (zH.call hba)
  obtain ⟨⟨c0, c1, c2⟩, f0, f1, f2⟩ := zH.three
  clear hba HZ zH
  go_wp2_with (first | (at_builtin; refine wpList_append_ka rfl (.tmp 23) (.tmp 25) rfl b f rfl HP0.out.1 HP0.out.2.1 HP0.out.2.2 w1.heap.size rfl HPB.out ?_; intro gc capc W2 hgc hcc2 hccm hC hb2; clear c0 c1 c2 f0 f1 f2; obtain ⟨⟨c0, c1, c2⟩, f0, f1, f2⟩ := (HZH.out.call hb2).three) | fail)
  have hb12 := below_stepH HBA.out HBA.out.size hb2
  have hgc1 : w1.heap.size ≤ gc := Nat.le_trans HBA.out.size hgc
  have hAt := heap_put (cap := capc) HA.out hgc1 hC hb12
  have hHB := ((HB.refl H w1).below hb12).own 2 (.slice (some ⟨gc, 0, none⟩) 2 capc)
  have hb03 := below_hb HB1.out HWH.out hHB
  have HK : Hid (HpK ⟨aol0, capl0, l0, some ⟨gc, 0, none⟩, capc, csKA⟩) := Lib.hid ⟨HS.out.l40, by show 2 ≤ 4; decide, csKA_ok, fun c hc => by
    have e : some (⟨[107], 2, false⟩ : Cl) = some c := hc
    simp only [Option.some.injEq] at e
    rw [← e]⟩
  have HCC := Lib.hid (And.intro hcc2 hccm)
  clear c0 c1 c2 f0 f1 f2 HP0 HPB HBA HZH hgc hC hb2 hb12 hgc1 hHB HA HS HB1 HHL HBB hcc2 hccm
  generalize W2.setCell ⟨H, 2, none⟩ (.slice (some ⟨gc, 0, none⟩) 2 capc) = w3 at *
  have cX := ex_any ⟨aol0, capl0, l0, some ⟨gc, 0, none⟩, capc, csKA⟩ H HK.out (fun c hc => by
    have hc' : c ∈ csKA := hc
    simp only [csKA, List.mem_cons, List.not_mem_nil, or_false] at hc'
    rcases hc' with rfl | rfl <;> decide) 3 (by decide) 1 0 w3 (by decide) hAt (by decide)
  unfold ExprPost at cX
  refine cX.mono ?_
  rintro e w4 ⟨tx, ax, cx, m, rfl, HTX, hXX, HA4, hm4, hb4⟩
  clear cX
  obtain ⟨xo, xk, xi, xb, xs, xm, xl, hxv⟩ := exprV_sevenU tx ax cx
  rw [hxv]
  have hb04 := below_hb hb03 HWH.out hb4
  have hH4 := HA4.out.lt
  have hx5 := XTh.first hXX.out hAt.lt hH4 (.cells #[.int .i64 xo, .int .i64 xk, .int .i64 xi, .int .u64 xb, .string xs, .string xm, .slice ax xl cx] 27)
  have zX := Blk.new w4 #[.int .i64 xo, .int .i64 xk, .int .i64 xi, .int .u64 xb, .string xs, .string xm, .slice ax xl cx] 27
  have hba := (Below.refl w4.heap.size w4).alloc (Nat.le_refl _) (.cells #[.int .i64 xo, .int .i64 xk, .int .i64 xi, .int .u64 xb, .string xs, .string xm, .slice ax xl cx] 27)
  have hlt5 : w4.heap.size + 1 ≤ (w4.alloc (.cells #[.int .i64 xo, .int .i64 xk, .int .i64 xi, .int .u64 xb, .string xs, .string xm, .slice ax xl cx] 27)).heap.size := by simp
  have HIN := Lib.hid (show SsIn H w4.heap.size 0 (w4.alloc (.cells #[.int .i64 xo, .int .i64 xk, .int .i64 xi, .int .u64 xb, .string xs, .string xm, .slice ax xl cx] 27)) from ⟨tx, ax, cx, xo, xk, xi, xb, xs, xm, xl, zX, hxv, hx5, ss_first HTX.out⟩)
  have HA8 := Lib.hid (fun W (h : Below w4.heap.size w4 W) => HA4.out.call h)
  have HB8 := Lib.hid (fun W (h : Below w4.heap.size w4 W) => below_stepH hb04 hb04.size h)
  have HM : Hid (m ≤ 100000) := Lib.hid (by simp only [Nat.reducePow] at hm4; omega)
  have hwg : w.heap.size ≤ w4.heap.size := hb04.size
  have HBA := Lib.hid hba
  have HS8 := Lib.hid (fun (W W' : World) (h : Below w4.heap.size w4 W) (k : Below W.heap.size W W') => below_stepH h h.size k)
  have HP7 := Lib.hid (fun (W : World) (h : Below w4.heap.size w4 W) (a0 a1 a2 a3 a4 a5 a6 : Value) => below_set7 (g := w4.heap.size) (a0 := a0) (a1 := a1) (a2 := a2) (a3 := a3) (a4 := a4) (a5 := a5) (a6 := a6) h (Nat.le_refl _))
  clear hx5 zX hba hxv HTX hXX HA4 hb4 hAt hb03 hb04 hm4
  go_upto_region 4 with fail
  generalize hw5 : w4.alloc (.cells #[.int .i64 xo, .int .i64 xk, .int .i64 xi, .int .u64 xb, .string xs, .string xm, .slice ax xl cx] 27) = w5 at *
  clear hw5
  generalize w4.heap.size = g8 at *
  go_wp2_with fail
  refine (cS _).mono ?_
  rintro e w6 ⟨rfl, rfl⟩
  clear cS
  go_wp2_with fail
  go_loopw [34] (fun i wr => ∃ j : Nat, j ≤ p ∧ i = .int .i64 j ∧ Hid (SsIn H g8 j wr) ∧ Hid (Below g8 w4 wr) ∧ g8 + 1 ≤ wr.heap.size) (fun i _ => p - (intOf i).toNat)
  case atStart => exact ⟨0, Nat.zero_le _, rfl, HIN, HBA, hlt5⟩
  case round =>
    obtain ⟨j, hj, rfl, hin, hbel, hlt⟩ := hrel
    clear HIN HBA hlt5
    by_cases h1 : j < p
    rotate_left
    · have hj3 : j ≤ 3 := by omega
      have hbw := HB8.out _ hbel.out
      have hAt := HA8.out _ hbel.out
      obtain ⟨t, ay, cy, yo, yk, yi, yb, ys, ym, yl, zx, hyv, hT, hOK⟩ := hin.out
      have hHg : g8 ≠ H := by omega
      have cR := row_h ⟨aol0, capl0, l0, some ⟨gc, 0, none⟩, capc, csKA⟩ H m key wr hAt HK.out HM.out HKEY.out ⟨HCC.out.1, HCC.out.2⟩
      unfold RowPost at cR
      have hHlt := hAt.lt
      clear HB8 HA8 HS8 HP7 hin hbel hlt cB hj hAt HR2 HL
      go_wp2_with fail
      refine cR.mono ?_
      rintro e w7 ⟨vr, vs, rfl, hO, hR, hA7, hb7⟩
      clear cR
      have hb07 := below_hb hbw HWH.out hb7
      have zx7 := zx.hb hb7 hHg
      have hxt := (hT.hb hb7).show
      have X7 := HX.out.keep hb07
      obtain ⟨gr, capr, r0, r1, rfl, rfl, hc2, hcm, hV, hrow, hcell, hgr, _⟩ := row_two hO.out hR.out
      have hcs : Cols w7 (some ⟨gc, 0, none⟩) csKA := hA7.out.2.2.show
      have zH7 := hA7.out.1
      obtain ⟨lo, hi, hsp, hiff⟩ := ss_facts hOK hj3 (atT_fit t.deep t ay (Nat.le_refl _) hxt.A) r0 r1 hrow hV.1
      have hEI : EvIn w7 t ay cy csKA (some ⟨gc, 0, none⟩) capc [r0, r1] (some ⟨gr, 0, none⟩) capr := ⟨hxt.A, hxt.n1, hxt.n2, hcs, HCC.out.1, HCC.out.2, hV, hc2, hcm, X7⟩
      have cV := fun W (hW : Below w7.heap.size w7 W) => eval_any t ay cy csKA (some ⟨gc, 0, none⟩) capc [r0, r1] (some ⟨gr, 0, none⟩) capr W (hEI.keep hW)
      have cO := fun W (hW : Below w7.heap.size w7 W) => span_of_any t ay cy nA W (hxt.A.keep hW) (Nat.le_trans hxt.n1 hxt.n2) (X7.keep hW)
      have HT1 := Lib.hid (fun W (hW : Below w7.heap.size w7 W) => spanTells_any W (X7.keep hW))
      have HT2 := Lib.hid (fun W (hW : Below w7.heap.size w7 W) => evalTells_any W (X7.keep hW))
      rw [hsp] at cO
      generalize evalR t csKA [r0, r1] = R at *
      obtain ⟨⟨rk, ri, rb, rsl⟩, rf⟩ := R
      have HIF : Hid (rf = 0 → ri = 1 → lo ≤ r1.i ∧ r1.i ≤ hi) := Lib.hid hiff
      have hcl : csKA.length = 2 := rfl
      have hrl : ([r0, r1] : List Vl).length = 2 := rfl
      have hsa : str nA = ⟨#[97]⟩ := rfl
      rw [hcl, hrl] at cV
      rw [hsa] at cO
      unfold rgV at cO
      unfold valV at cV
      simp only [hyv] at cV cO
      generalize str rsl = rs at *
      have HV := Lib.hid cV
      have HO := Lib.hid cO
      obtain ⟨vi, hvi⟩ : ∃ vi, r1.i = vi := ⟨_, rfl⟩
      rw [hvi] at HIF hcell
      have HCELL := Lib.hid hcell
      clear zx hT hOK hbw hb7 hO hR hA7 hV hrow hcell hcs hEI cV cO hsp hiff hcl hrl hsa hxt X7 hyv hj3 hHlt hvi
      have zY := zx7
      have zH := zH7
      clear zx7 zH7
      simp only [show csKA.length = 2 from rfl] at zH
      obtain ⟨r0', r1', r2', r3', r4', r5', r6'⟩ := zY.cells7
      go_wp2_with fail
      refine (HO.out _ (Below.refl _ _)).mono ?_
      rintro e w8 ⟨rfl, hb8⟩
      have zY8 := zY.call hb8
      have zH8 := zH.call hb8
      have hb08 := below_stepH hb07 hb07.size hb8
      have zs := Blk.new w8 #[.int .i64 lo, .int .i64 hi] 74
      have hba := (Below.refl w8.heap.size w8).alloc (Nat.le_refl _) (.cells #[.int .i64 lo, .int .i64 hi] 74)
      have hb79 := below_stepH hb8 hb8.size hba
      have hb09 := below_stepH hb08 hb08.size hba
      have zY9 := zY8.call hba
      have zH9 := zH8.call hba
      have HC9 := Lib.hid ((hb79.cell (p := ⟨gr, 5, none⟩) hgr).trans HCELL.out)
      clear r0' r1' r2' r3' r4' r5' r6' zY zH zY8 zH8 hb07 hb08 hb8 HCELL HO
      go_upto_region 11 with fail
      generalize hw9 : w8.alloc (.cells #[.int .i64 lo, .int .i64 hi] 74) = w9 at *
      clear hw9 hba
      have HE := Lib.hid (fun W (hW : Below w9.heap.size w9 W) => HV.out W (below_stepH hb79 hb79.size hW))
      have HU1 := Lib.hid (fun W (hW : Below w9.heap.size w9 W) => HT1.out W (below_stepH hb79 hb79.size hW))
      have HU2 := Lib.hid (fun W (hW : Below w9.heap.size w9 W) => HT2.out W (below_stepH hb79 hb79.size hW))
      have zY := zY9
      have zH := zH9
      have hgr9 := Nat.lt_of_lt_of_le hgr hb79.size
      clear HV HT1 HT2 hb79 zY9 zH9 hgr
      generalize w8.heap.size = gs at *
      refine wp_region_cell 12 10 11 (by kernel_rfl) (by kernel_rfl) (by kernel_rfl) 24 [.int .i64 0, .int .i64 0, .int .u64 0, .string ⟨#[]⟩] [.int .i64 rk, .int .i64 ri, .int .u64 rb, .string rs] (SouF yo yk yi yb ys ym ay yl cy H gc capc gr capr rk ri rb rs rf) ?hF11 ?hQ11 ?hstep11 ?hp11 ?hq11 ?hdone11
      case hF11 =>
        intro ls i j v W W' hi hiq hji hun hb h
        match j, h with
        | 0, h => exact h
        | 1, h => exact h
        | 2, h => exact h
        | 3, h => exact h
        | 4, h => exact h
        | 5, h => exact h
        | 6, h => exact h
        | 7, h => exact h
        | 8, h => exact h
        | 9, h => exact h
        | 10, h => exact h
        | 11, h => exact h
        | j + 12, h => exact h
      case hQ11 =>
        intro ls j v W W' hcl hd h
        match j, h with
        | 0, h => exact h
        | 1, h => exact h
        | 2, h => exact h
        | 3, h => exact h
        | 4, h => exact h
        | 5, h => exact h
        | 6, h => exact h
        | 7, h => exact h
        | 8, h => exact h
        | 9, h => exact h
        | 10, h => exact h
        | 11, h => exact h
        | j + 12, h => exact h
      case hstep11 =>
        intro j hj hnp hnq ls vs W K hst hf hK hcl hd hun
        simp only [fillF, Act.put, List.take_succ_cons, List.take_zero, List.setIfInBounds_toArray, List.set_cons_zero, List.set_cons_succ] at hK ⊢
        obtain ⟨u0, u1, u2, u3, u4, u5, u6⟩ := (zY.call hst).cells7
        obtain ⟨⟨c0, c1, c2⟩, _⟩ := (zH.call hst).three
        rcases (show j = 0 ∨ j = 1 ∨ j = 2 ∨ j = 3 ∨ j = 4 ∨ j = 5 ∨ j = 6 ∨ j = 7 ∨ j = 8 ∨ j = 9 ∨ j = 10 ∨ j = 11 by omega) with rfl | rfl | rfl | rfl | rfl | rfl | rfl | rfl | rfl | rfl | rfl | rfl
        · refine wpOp_step rfl (fun K' hK' => ?_)
          go_simp
          exact hK' _ _ (hK _ _ rfl (Below.refl _ _))
        · refine wpOp_step rfl (fun K' hK' => ?_)
          go_simp
          exact hK' _ _ (hK _ _ rfl (Below.refl _ _))
        · have e1 : vs 1 = .pointer (some ⟨H, 0, none⟩) := hf 1 (by decide) (by decide) (by decide) (by kernel_rfl)
          simp only [e1] at hK ⊢
          refine wpOp_step rfl (fun K' hK' => ?_)
          go_simp
          exact hK' _ _ (hK _ _ rfl (Below.refl _ _))
        · have e2 : vs 2 = .pointer (some ⟨H, 0, none⟩) := hf 2 (by decide) (by decide) (by decide) (by kernel_rfl)
          simp only [e2] at hK ⊢
          refine wpOp_step rfl (fun K' hK' => ?_)
          go_simp
          exact hK' _ _ (hK _ _ rfl (Below.refl _ _))
        · have e3 : vs 3 = .pointer (some ⟨H, 2, none⟩) := hf 3 (by decide) (by decide) (by decide) (by kernel_rfl)
          simp only [e3] at hK ⊢
          refine wpOp_step rfl (fun K' hK' => ?_)
          go_simp
          exact hK' _ _ (hK _ _ rfl (Below.refl _ _))
        · refine wpOp_step rfl (fun K' hK' => ?_)
          go_simp
          exact hK' _ _ (hK _ _ rfl (Below.refl _ _))
        · have e0 : vs 0 = .agg #[.int .i64 yo, .int .i64 yk, .int .i64 yi, .int .u64 yb, .string ys, .string ym, .slice ay yl cy] := hf 0 (by decide) (by decide) (by decide) (by kernel_rfl)
          have e4 : vs 4 = .slice (some ⟨gc, 0, none⟩) 2 capc := hf 4 (by decide) (by decide) (by decide) (by kernel_rfl)
          have e5 : vs 5 = .slice (some ⟨gr, 0, none⟩) 2 capr := hf 5 (by decide) (by decide) (by decide) (by kernel_rfl)
          simp only [e0, e4, e5] at hK ⊢
          refine wpOp_step rfl (fun K' hK' => ?_)
          go_simp
          refine (HE.out W hst).mono ?_
          rintro e W' ⟨rfl, hbc⟩
          go_simp
          exact hK' _ _ (hK _ _ rfl hbc)
        · have e6 : vs 6 = .tuple #[.agg #[.int .i64 rk, .int .i64 ri, .int .u64 rb, .string rs], .int .i64 rf] := hf 6 (by decide) (by decide) (by decide) (by kernel_rfl)
          simp only [e6] at hK ⊢
          refine wpOp_step rfl (fun K' hK' => ?_)
          go_simp
          exact hK' _ _ (hK _ _ rfl (Below.refl _ _))
        · have e7 : vs 7 = .tuple #[.agg #[.int .i64 rk, .int .i64 ri, .int .u64 rb, .string rs], .int .i64 rf] := hf 7 (by decide) (by decide) (by decide) (by kernel_rfl)
          simp only [e7] at hK ⊢
          refine wpOp_step rfl (fun K' hK' => ?_)
          go_simp
          exact hK' _ _ (hK _ _ rfl (Below.refl _ _))
        · have e7 : vs 7 = .tuple #[.agg #[.int .i64 rk, .int .i64 ri, .int .u64 rb, .string rs], .int .i64 rf] := hf 7 (by decide) (by decide) (by decide) (by kernel_rfl)
          simp only [e7] at hK ⊢
          refine wpOp_step rfl (fun K' hK' => ?_)
          go_simp
          exact hK' _ _ (hK _ _ rfl (Below.refl _ _))
        · exact (hnp rfl).elim
        · exact (hnq rfl).elim
      case hp11 =>
        intro vs W K hK
        simp only [fillF, Act.put, List.take_succ_cons, List.take_zero, List.setIfInBounds_toArray, List.set_cons_zero, List.set_cons_succ] at hK ⊢
        refine wpOp_step rfl (fun K' hK' => ?_)
        go_simp
        exact hK' _ _ hK
      case hq11 =>
        intro ls vs W K k hst ek hk hz hf hK
        simp only [fillF, Act.put, List.take_succ_cons, List.take_zero, List.setIfInBounds_toArray, List.set_cons_zero, List.set_cons_succ] at hK ⊢
        have e8 : vs 8 = .agg #[.int .i64 rk, .int .i64 ri, .int .u64 rb, .string rs] := hf 8 (by decide) (by decide) (by decide) (by kernel_rfl)
        simp only [e8] at hK ⊢
        simp only [ek] at hK ⊢
        obtain ⟨⟨p0, p1, p2, p3⟩, f0, f1, f2, f3⟩ := hz.four
        refine wpOp_step rfl (fun K' hK' => ?_)
        go_simp
        exact hK' _ _ (hK undef _ hz.set4 (below_set4 hst hk))
      intro ls vs W gV hst ek hk zV hf
      simp only [fillF, Act.put, List.take_succ_cons, List.take_zero, List.drop_succ_cons, List.drop_zero, List.setIfInBounds_toArray, List.set_cons_zero, List.set_cons_succ]
      have e9 : vs 9 = .int .i64 rf := hf 9 (by decide) (by decide) (by decide)
      clear hf HE
      simp only [ek, e9]
      clear ek e9
      generalize vs 0 = k0
      generalize vs 1 = k1
      generalize vs 2 = k2
      generalize vs 3 = k3
      generalize vs 4 = k4
      generalize vs 5 = k5
      generalize vs 6 = k6
      generalize vs 7 = k7
      generalize vs 8 = k8
      generalize vs 11 = k11
      have hb10 := below_stepH hb09 hb09.size hst
      have zs10 := zs.call hst
      have hcl : W.cell? ⟨gr, 5, none⟩ = some (.int .i64 vi) := (hst.cell (p := ⟨gr, 5, none⟩) hgr9).trans HC9.out
      have HW := Lib.hid hst
      clear zY zH hk hb09 hst zs HC9 hgr9
      obtain ⟨⟨s0, s1⟩, _⟩ := zs10.two
      obtain ⟨v0, v1, v2, v3⟩ := zV.cell4
      by_cases h0 : rf = 0
      · subst h0
        by_cases h1 : ri = 1
        · subst h1
          obtain ⟨g1, g2⟩ := HIF.out rfl rfl
          clear HIF HU1 HU2 HW zs10 zV
          have HB10 := Lib.hid hb10
          clear hb10
          have b1 : decide (lo ≤ vi) = true := by simpa using g1
          have b2 : decide (vi ≤ hi) = true := by simpa using g2
          go_wp2_with fail
          go_quiet (fail)
          have hb12 := below_dn HB10.out nq
          go_wp2_with fail
          go_ret
          exact ⟨by simp, hb12⟩
        · have h1b : (ri != 1) = true := by simpa using h1
          clear HIF
          go_wp2_with fail
          refine (HU1.out _ HW.out).mono ?_
          rintro e W3 ⟨rfl, hb11⟩
          have hb12 := below_stepH HW.out HW.out.size hb11
          have hb13 := below_stepH hb10 hb10.size hb11
          clear hb10 s0 s1 v0 v1 v2 v3 hcl
          go_wp2_with fail
          refine (HU2.out _ hb12).mono ?_
          rintro e W4 ⟨rfl, hb14⟩
          have hb15 := below_stepH hb13 hb13.size hb14
          clear hb13 hb12
          go_wp2_with fail
          go_ret
          exact ⟨rfl, hb15⟩
      · have h0b : (rf != 0) = true := by simpa using h0
        clear HIF
        go_wp2_with fail
        refine (HU1.out _ HW.out).mono ?_
        rintro e W3 ⟨rfl, hb11⟩
        have hb12 := below_stepH HW.out HW.out.size hb11
        have hb13 := below_stepH hb10 hb10.size hb11
        clear hb10 s0 s1 v0 v1 v2 v3 hcl
        go_wp2_with fail
        refine (HU2.out _ hb12).mono ?_
        rintro e W4 ⟨rfl, hb14⟩
        have hb15 := below_stepH hb13 hb13.size hb14
        clear hb13 hb12
        go_wp2_with fail
        go_ret
        exact ⟨rfl, hb15⟩
    · have hlt1 : j < l2.length := by have := HL.out; omega
      have hbw := HB8.out _ hbel.out
      obtain ⟨r, hr⟩ : ∃ r, l2[j]? = some r := ⟨l2[j], List.getElem?_eq_getElem hlt1⟩
      have hfit := HR2.out.1 r (List.mem_of_getElem? hr)
      obtain ⟨a, o, rfl, ha, hL⟩ := (HR2.out.keep hbw).2.resolve_left (fun e => by rw [e] at hlt1; simp at hlt1)
      obtain ⟨d0, d1, d2, d3⟩ := hL j r hr
      have cBr := fun W => cB W r hfit
      obtain ⟨rk, ra, rb, rs⟩ := r
      unfold rawV at cBr
      simp only at d0 d1 d2 d3 cBr
      have zr := Blk.new wr #[.int .i64 rk, .int .i64 ra, .int .i64 rb, .string rs] 54
      have hba := (Below.refl wr.heap.size wr).alloc (Nat.le_refl _) (.cells #[.int .i64 rk, .int .i64 ra, .int .i64 rb, .string rs] 54)
      have hin5 := hin.out.call hba
      have hb5 := HS8.out _ _ hbel.out hba
      have hlt5 := Nat.le_trans hlt hba.size
      have HTOP := Lib.hid hb5
      clear hr hlt1 hL hin hfit cB hbel hbw HX HKEY HK HCC HM HB8 HA8 HR2
      go_upto_region 7 with fail
      generalize hw6 : wr.alloc (.cells #[.int .i64 rk, .int .i64 ra, .int .i64 rb, .string rs] 54) = w6 at *
      clear hw6 d0 d1 d2 d3 hba hlt ha hb5
      generalize wr.heap.size = gr at *
      obtain ⟨t, ao, cap, xo, xk, xi, xb, xs, xm, xl, zx, hxv, hT, hOK⟩ := hin5
      have HOK := Lib.hid hOK
      have hHg : g8 ≠ H := by omega
      have HO2 : Hid (∀ W u au cu, XTh H g8 W u au cu → Below w6.heap.size w6 W → Calls Tryz.prog 24 #[.int .i64 15, .agg #[.int .i64 xo, .int .i64 xk, .int .i64 xi, .int .u64 xb, .string xs, .string xm, .slice ao xl cap], exprV u au cu] W fun e w' => ∃ g, e = .returned (.agg #[.int .i64 15, .int .i64 0, .int .i64 0, .int .u64 0, .string ⟨#[]⟩, .string ⟨#[]⟩, .slice (some ⟨g, 0, none⟩) 2 2]) ∧ Hid (XTh H g8 w' (opN 15 [t, u]) (some ⟨g, 0, none⟩) 2) ∧ Below W.heap.size W w') := Lib.hid (fun W u au cu hu hW => by
          have hsz := hW.size
          have := hop2h 15 H g8 (by decide) t u ao au cap cu W (hT.keep hW) hu (by omega) (by omega)
          rw [hxv] at this
          exact this)
      clear hT hxv hOK
      refine wp_region_chain 4 [2, 3] (by kernel_rfl) (by kernel_rfl) (by kernel_rfl) (SndF H g8 xo xk xi xb xs xm ao xl cap rk ra rb rs t) (fun _ W => Below w6.heap.size w6 W) (fun _ W W' => Below W.heap.size W W') ?hF ?h0 ?hstep ?hcall ?hdone
      case hF =>
        intro s i hs j x W W' hjn hne' hpb h he
        match j, h with
        | 0, h => exact h
        | 1, h => exact h
        | 2, ⟨u, au, cu, h1, h2, h3⟩ => exact ⟨u, au, cu, h1, h2, Lib.hid (h3.out.keep he)⟩
        | 3, ⟨g, u, h1, h2, h3⟩ => exact ⟨g, u, h1, h2, Lib.hid (h3.out.keep he)⟩
        | j + 4, h => exact h
      case h0 => exact Below.drew (Below.refl _ _)
      case hstep =>
        intro i hi hni s vs act W K ha' hst hd hu' hK
        simp only [fillF, Act.put, List.take_succ_cons, List.take_zero, List.setIfInBounds_toArray, List.set_cons_zero, List.set_cons_succ] at ha'
        subst ha'
        obtain ⟨y0, y1, y2, y3, y4, y5, y6⟩ := (zx.call hst).cells7
        obtain ⟨s0, s1, s2, s3⟩ := (zr.call hst).cell4
        rcases (show i = 0 ∨ i = 1 ∨ i = 2 ∨ i = 3 by omega) with rfl | rfl | rfl | rfl
        · refine wpOp_step rfl (fun K' hK' => ?_)
          go_simp
          exact hK' _ _ (hK _ rfl)
        · refine wpOp_step rfl (fun K' hK' => ?_)
          go_simp
          exact hK' _ _ (hK _ rfl)
        · exact (hni (by decide)).elim
        · exact (hni (by decide)).elim
      case hcall =>
        intro s i hs vs act W K ha' hst hd hK
        simp only [fillF, Act.put, List.take_succ_cons, List.take_zero, List.setIfInBounds_toArray, List.set_cons_zero, List.set_cons_succ] at ha'
        subst ha'
        have hsz := hst.size
        rcases s with _ | _ | s
        · obtain rfl : 2 = i := by simpa using hs
          have e1 : vs 1 = .agg #[.int .i64 rk, .int .i64 ra, .int .i64 rb, .string rs] := hd 1 (by kernel_rfl)
          simp only [e1] at hK ⊢
          refine wpOp_step rfl (fun K' hK' => ?_)
          go_simp
          refine (cBr W).mono ?_
          rintro e W' ⟨u, au, cu, rfl, hBu, hTu, hbc⟩
          go_simp
          exact hK' _ _ (hK _ _ ⟨u, au, cu, rfl, hBu, Lib.hid (XTh.of hTu.out (by omega) (by omega))⟩ hbc (below_stepH hst hst.size hbc))
        · obtain rfl : 3 = i := by simpa using hs
          have e0 : vs 0 = .agg #[.int .i64 xo, .int .i64 xk, .int .i64 xi, .int .u64 xb, .string xs, .string xm, .slice ao xl cap] := hd 0 (by kernel_rfl)
          obtain ⟨u, au, cu, e2, hBu, hTu⟩ := hd 2 (by kernel_rfl)
          simp only [e0, e2] at hK ⊢
          refine wpOp_step rfl (fun K' hK' => ?_)
          go_simp
          refine (HO2.out W u au cu hTu.out hst).mono ?_
          rintro e W' ⟨g, rfl, hT, hbc⟩
          go_simp
          exact hK' _ _ (hK _ _ ⟨g, u, rfl, hBu, hT⟩ hbc (below_stepH hst hst.size hbc))
        · simp at hs
      intro vs act W ha' hst hf
      simp only [fillF, Act.put, List.take_succ_cons, List.take_zero, List.drop_succ_cons, List.drop_zero, List.setIfInBounds_toArray, List.set_cons_zero, List.set_cons_succ] at ha' ⊢
      subst ha'
      obtain ⟨g, u, e3, hBu, hT⟩ := hf 3 (by decide)
      have zx6 := zx.call hst
      have hb6 := HS8.out _ _ HTOP.out hst
      simp only [e3]
      obtain ⟨q0, q1, q2, q3, q4, q5, q6⟩ := zx6.cells7
      have f0 := zx6.free 0
      have f1 := zx6.free 1
      have f2 := zx6.free 2
      have f3 := zx6.free 3
      have f4 := zx6.free 4
      have f5 := zx6.free 5
      have f6 := zx6.free 6
      have HS := Lib.hid (And.intro (zx6.set7 (a0 := .int .i64 15) (a1 := .int .i64 0) (a2 := .int .i64 0) (a3 := .int .u64 0) (a4 := .string ⟨#[]⟩) (a5 := .string ⟨#[]⟩) (a6 := .slice (some ⟨g, 0, none⟩) 2 2)) (And.intro (hT.out.set7 hHg (a0 := .int .i64 15) (a1 := .int .i64 0) (a2 := .int .i64 0) (a3 := .int .u64 0) (a4 := .string ⟨#[]⟩) (a5 := .string ⟨#[]⟩) (a6 := .slice (some ⟨g, 0, none⟩) 2 2)) (HP7.out W hb6 (.int .i64 15) (.int .i64 0) (.int .i64 0) (.int .u64 0) (.string ⟨#[]⟩) (.string ⟨#[]⟩) (.slice (some ⟨g, 0, none⟩) 2 2))))
      clear hf zx zx6 hst hb6 HO2 cBr zr hT e3
      generalize vs 0 = x0
      generalize vs 1 = x1
      generalize vs 2 = x2
      go_upto_region 8 with fail
      obtain ⟨z7, hT7, hb7⟩ := HS.out
      clear HS q0 q1 q2 q3 q4 q5 q6 f0 f1 f2 f3 f4 f5 f6
      have hl7 : g8 + 1 ≤ (((((((W.setCell ⟨g8, 0, none⟩ (.int .i64 15)).setCell ⟨g8, 1, none⟩ (.int .i64 0)).setCell ⟨g8, 2, none⟩ (.int .i64 0)).setCell ⟨g8, 3, none⟩ (.int .u64 0)).setCell ⟨g8, 4, none⟩ (.string ⟨#[]⟩)).setCell ⟨g8, 5, none⟩ (.string ⟨#[]⟩)).setCell ⟨g8, 6, none⟩ (.slice (some ⟨g, 0, none⟩) 2 2)).heap.size := z7.lt
      generalize (((((((W.setCell ⟨g8, 0, none⟩ (.int .i64 15)).setCell ⟨g8, 1, none⟩ (.int .i64 0)).setCell ⟨g8, 2, none⟩ (.int .i64 0)).setCell ⟨g8, 3, none⟩ (.int .u64 0)).setCell ⟨g8, 4, none⟩ (.string ⟨#[]⟩)).setCell ⟨g8, 5, none⟩ (.string ⟨#[]⟩)).setCell ⟨g8, 6, none⟩ (.slice (some ⟨g, 0, none⟩) 2 2)) = w7 at *
      have HB7 := Lib.hid (show SsIn H g8 (j + 1) w7 from ⟨opN 15 [t, u], _, _, _, _, _, _, _, _, _, z7, rfl, hT7, ss_and HOK.out hBu.out⟩)
      have HBW := Lib.hid hb7
      clear z7 hT7 HOK hBu hb7
      go_wp2_with fail
      go_roundw
      case rel => exact ⟨j + 1, by omega, by go_num, HB7, HBW, hl7⟩
      case measure => simp [intOf]; omega
end Go.Proofs.YtablacloabpjfabGreatDoor
