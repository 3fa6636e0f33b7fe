/-
  CONTRACTS of shares: where each worker's part begins (the program's and the reference's).
  CONDITIONS: each theorem's own hypotheses.
-/
import Derived.Test.YtkkdpekhhcplnaaProg
import Derived.Test.YtkkdpekhhcplnaaGReg
import Derived.WalkKit
import Derived.WalkLawsBesides
import Derived.WalkMore
import Derived.Below
import Derived.Lib.Hide
import Derived.IntWalk
import Derived.OwnWalk
import Derived.LoopTactic
import Derived.Laws.Rows
import Derived.Deep.WholeRow
import Derived.Deep.MidRow
import Derived.Laws.AppendOwn
import Derived.Maps.AppendAt
import Derived.Laws.MakeOwn
import Derived.BigQuiet
import Derived.Deep.Cut
import Derived.Outline
namespace Go.Proofs.Ytkkdpekhhcplnaa
open Go.RowKit
set_option linter.unusedVariables false
set_option maxRecDepth 100000

/-- A block of cells. -/
def Blk (w : World) (b : Nat) (T : TypeId) (cs : List Value) : Prop := w.heap[b]? = some (.cells cs.toArray T (0, 0))
theorem Blk.new (w : World) (cs : Array Value) (T : TypeId) : Blk (w.alloc (.cells cs T)) w.heap.size T cs.toList := by
  unfold Blk
  rw [heap_alloc_new]
theorem Blk.lt {w : World} {b : Nat} {T : TypeId} {cs : List Value} (h : Blk w b T cs) : b < w.heap.size := by
  unfold Blk at h
  exact (Array.getElem?_eq_some_iff.1 h).1
theorem Blk.same {w w' : World} {b : Nat} {T : TypeId} {cs : List Value} (h : Blk w b T cs) (e : w'.heap[b]? = w.heap[b]?) : Blk w' b T cs := e.trans h
theorem Blk.call {w w' : World} {b : Nat} {T : TypeId} {cs : List Value} (h : Blk w b T cs) (hb : Below w.heap.size w w') : Blk w' b T cs := h.same (hb.block b h.lt)
theorem Blk.cell {w : World} {b : Nat} {T : TypeId} {cs : List Value} (h : Blk w b T cs) {j : Nat} {v : Value} (hv : cs[j]? = some v) : w.cell? ⟨b, j, none⟩ = some v := by
  rw [cell_of_row w b j _ _ _ h]
  simpa using hv
theorem Blk.free {w : World} {b : Nat} {T : TypeId} {cs : List Value} (h : Blk w b T cs) (j : Nat) : w.frozen? ⟨b, j, none⟩ = false := frozen_of_row w b j _ _ h
theorem Blk.set {w : World} {b : Nat} {T : TypeId} {cs : List Value} (h : Blk w b T cs) (j : Nat) (v : Value) : Blk (w.setCell ⟨b, j, none⟩ v) b T (cs.set j v) := by
  unfold Blk
  rw [heap_setCell_same w b j _ _ v h]
  simp
theorem Blk.atNew {w : World} {g : Nat} (cs : Array Value) (T : TypeId) (h : w.heap.size = g) : Blk (w.alloc (.cells cs T)) g T cs.toList := by
  subst h; exact Blk.new w cs T
theorem below_stepE {B : Nat} {a W w : World} (h : Below B a W) (hs : B ≤ W.heap.size) (hb : Below W.heap.size W w) : Below B a w := h.trans (hb.mono hs)

def intsV (l : List Int) : List Value := l.map (Value.int .i64)
theorem intsV_len (l : List Int) : (intsV l).length = l.length := by simp [intsV]
theorem intsV_at (l : List Int) (j : Nat) (x : Int) (h : l[j]? = some x) : (intsV l)[j]? = some (.int .i64 x) := by simp [intsV, h]
theorem infoInt : (Try.prog.info? 3).map (fun i => (i.zero, i.size, i.bytes)) = some (some (.int .i64 0), 1, 8) := by kernel_rfl
theorem made_one (v : Value) (n : Nat) : madeCells #[v] n = (List.replicate n v).toArray := by
  apply Array.ext
  · simp [madeCells]
  · intro i h1 h2
    simp [madeCells, Nat.mod_one]
theorem make_ints (n : Nat) (hn : n ≤ 1000000) (W : World) : (Instr.makeSlice 22 (.int .i64 (n : Int)) (.int .i64 (n : Int))).run Try.prog W = .ok (.slice (some ⟨W.heap.size, 0, none⟩) n n) (W.alloc (.cells (intsV (List.replicate n 0)).toArray 3)) := by
  obtain ⟨i0, hi, hz0, hz1, hz2⟩ := info_parts infoInt
  have := run_make (P := Try.prog) W _ _ i0 _ Try.underlying22 hi hz0 .i64 .i64 n n (by omega) (Int.le_refl _) (by rw [hz2]; omega) (by omega)
  simp only [Int.toNat_natCast, hz1, Nat.mul_one] at this
  rw [this]
  have e : madeCells (Value.int .i64 0).cells n = (intsV (List.replicate n 0)).toArray := by
    show madeCells #[Value.int .i64 0] n = _
    rw [made_one]
    simp [intsV]
  rw [← e]

/-! plain: the shares -/
/-- Where the i-th part begins. -/
def shI (n k i : Nat) : Int := ((i * (n / k) + min i (n % k) : Nat) : Int)
def shL (n k : Nat) (m : Nat) : List Int := (List.range m).map (shI n k)
theorem shL_len (n k m : Nat) : (shL n k m).length = m := by simp [shL]
theorem shL_at (n k m i : Nat) (h : i < m) : (shL n k m)[i]? = some (shI n k i) := by simp [shL, h]
theorem shL_snoc (n k m : Nat) : shL n k (m + 1) = shL n k m ++ [shI n k m] := by simp [shL, List.range_succ]
def midS (n k m i : Nat) : List Int := (List.range m).map (fun j => if j < i then shI n k j else 0)
theorem midS_zero (n k m : Nat) : midS n k m 0 = List.replicate m 0 := by
  apply List.ext_getElem
  · simp [midS]
  · intro j h1 h2; simp [midS]
theorem midS_end (n k m : Nat) : midS n k m m = shL n k m := by
  apply List.ext_getElem
  · simp [midS, shL]
  · intro j h1 h2
    have : j < m := by simpa [midS] using h1
    simp [midS, shL, this]
theorem midS_set (n k m i : Nat) (h : i < m) : (intsV (midS n k m i)).set i (.int .i64 (shI n k i)) = intsV (midS n k m (i + 1)) := by
  apply List.ext_getElem
  · simp [midS, intsV]
  · intro j h1 h2
    have hj : j < m := by simpa [midS, intsV] using h2
    simp only [List.getElem_set, intsV, midS, List.getElem_map, List.getElem_range]
    by_cases e : i = j
    · subst e; simp
    · rw [if_neg e]
      by_cases hl : j < i
      · rw [if_pos hl, if_pos (by omega)]
      · rw [if_neg hl, if_neg (by omega)]
theorem midS_at (n k m i j : Nat) (h : j < m) : ∃ x, (intsV (midS n k m i))[j]? = some x := ⟨_, List.getElem?_eq_getElem (by simp [midS, intsV]; exact h)⟩
theorem sh_facts (n k : Nat) (hn : n ≤ 64) (hk : 1 ≤ k) (hk8 : k ≤ 8) : ∃ E M : Nat, n / k = E ∧ n % k = M ∧ (n : Int).tdiv (k : Int) = (E : Int) ∧ (n : Int).tmod (k : Int) = (M : Int) ∧ E ≤ 64 ∧ M ≤ 7 := by
  refine ⟨_, _, rfl, rfl, (Int.ofNat_tdiv n k).symm, (Int.ofNat_tmod n k).symm, ?_, ?_⟩
  · exact Nat.le_trans (Nat.div_le_self n k) hn
  · have := Nat.mod_lt n (show 0 < k by omega); omega
theorem sh_step (n k E M i : Nat) (hE : n / k = E) (hM : n % k = M) (h1 : E ≤ 64) (h2 : M ≤ 7) (hi : i ≤ 8) : ∃ p : Int, (i : Int) * (E : Int) = p ∧ 0 ≤ p ∧ p ≤ 512 ∧ ((M < i ∧ p + (M : Int) = shI n k i) ∨ (¬ M < i ∧ p + (i : Int) = shI n k i)) := by
  have h3 : (i : Int) * (E : Int) = ((i * E : Nat) : Int) := by simp
  refine ⟨_, rfl, Int.mul_nonneg (by omega) (by omega), ?_, ?_⟩
  · have : i * E ≤ 8 * 64 := Nat.mul_le_mul hi h1
    rw [h3]; omega
  · unfold shI
    rw [hE, hM, h3]
    generalize i * E = z
    omega
theorem wrap_i (p : Int) (h0 : -9223372036854775808 ≤ p) (h1 : p ≤ 9223372036854775807) : IntKind.i64.wrap p = p := by rw [IntKind.wrap_i64]; omega
theorem goodWorkers_any (k : Int) (w : World) : Calls Try.prog 9 #[.int .i64 k] w fun e w' => e = .returned (.bool (decide (1 ≤ k ∧ k ≤ 8))) ∧ w' = w := by
  by_cases h1 : 1 ≤ k
  · by_cases h2 : k ≤ 8
    · rw [decide_eq_true (show 1 ≤ k ∧ k ≤ 8 from ⟨h1, h2⟩)]
      go_enter Try.func9, Try.ntmps9
      go_wp2
      go_ret
      exact ⟨rfl, rfl⟩
    · rw [decide_eq_false (show ¬ (1 ≤ k ∧ k ≤ 8) from fun h => h2 h.2)]
      go_enter Try.func9, Try.ntmps9
      go_wp2
      go_ret
      exact ⟨rfl, rfl⟩
  · rw [decide_eq_false (show ¬ (1 ≤ k ∧ k ≤ 8) from fun h => h1 h.1)]
    go_enter Try.func9, Try.ntmps9
    go_wp2
    go_ret
    exact ⟨rfl, rfl⟩
--CUT1
set_option maxHeartbeats 4000000 in
theorem begins_any (n k : Nat) (hn : n ≤ 64) (hk : 1 ≤ k) (hk8 : k ≤ 8) (w : World) :
    Calls Try.prog 10 #[.int .i64 n, .int .i64 k] w fun e w' => ∃ g, e = .returned (.slice (some ⟨g, 0, none⟩) (k + 1) (k + 1)) ∧ Blk w' g 3 (intsV (shL n k (k + 1))) ∧ w.heap.size ≤ g ∧ Below w.heap.size w w' := by
  obtain ⟨E, M, hE, hM, hq, hr, hE64, hM7⟩ := sh_facts n k hn hk hk8
  have hk0 : ¬ (k : Int) = 0 := by omega
  have hk1 : (k : Int) ≠ 0 := by omega
  have hmk := fun W => make_ints (k + 1) (by omega) W
  have hkc : ((k + 1 : Nat) : Int) = (k : Int) + 1 := by omega
  rw [hkc] at hmk
  have z1 : ∀ i, i ≤ 8 → _ := fun i hi => sh_step n k E M i hE hM hE64 hM7 hi
  have HZ := Lib.hid z1
  obtain ⟨K, hK⟩ : ∃ K, k + 1 = K := ⟨_, rfl⟩
  rw [hK] at hmk ⊢
  have HKK := Lib.hid hK
  have HKI : (K : Int) = (k : Int) + 1 := by omega
  have HKH := Lib.hid HKI
  clear hE hM z1 hkc hK HKI
  go_enter Try.func10, Try.ntmps10
  go_upto_region 1 with fail
  go_quiet (fail)
  have hb0 := below_drewN (Below.refl w.heap.size w) nq
  generalize w.drewN nq = w1 at hb0 ⊢
  have z0 : Blk (w1.alloc (.cells (intsV (List.replicate K 0)).toArray 3)) w1.heap.size 3 (intsV (List.replicate K 0)) := Blk.new w1 (intsV (List.replicate K 0)).toArray _
  have hb1 := hb0.alloc hb0.size (.cells (intsV (List.replicate K 0)).toArray 3)
  have hg0 := hb0.size
  rw [← midS_zero n k K] at z0 hb1 hmk
  have HZ0 := Lib.hid z0
  have HB1 := Lib.hid hb1
  have HG := Lib.hid hg0
  clear hb0 z0 hb1 hg0
  go_upto_region 3 with fail
  generalize hw2 : w1.alloc (.cells (intsV (midS n k K 0)).toArray 3) = w2 at *
  generalize hg : w1.heap.size = g at *
  clear hw2 hg hmk
  go_wp2_with fail
  go_loopw [20] (fun ix wr => ∃ (j : Nat), j ≤ K ∧ ix = .int .i64 j ∧ Hid (Blk wr g 3 (intsV (midS n k K j)) ∧ Below w.heap.size w wr)) (fun ix _ => K - (intOf ix).toNat)
  case atStart => exact ⟨0, Nat.zero_le _, rfl, Lib.hid ⟨HZ0.out, HB1.out⟩⟩
  case round =>
    obtain ⟨j, hj, rfl, hS⟩ := hrel
    obtain ⟨hz, hb⟩ := hS.out
    by_cases hlt : j < K
    · have iI : (j : Int) < (k : Int) + 1 := by have := HKH.out; omega
      have i0 : (0 : Int) ≤ (j : Int) := by omega
      obtain ⟨p, e1, p0, p1, e3⟩ := HZ.out j (by have := HKK.out; omega)
      have wm : IntKind.i64.wrap ((j : Int) * (E : Int)) = p := by rw [e1]; exact wrap_i p (by omega) (by omega)
      obtain ⟨x, hx⟩ := midS_at n k K j j hlt
      have hc := hz.cell hx
      have hf := hz.free j
      have hN : Hid (∀ z : Int, z = shI n k j → Blk (wr.setCell ⟨g, j, none⟩ (.int .i64 z)) g 3 (intsV (midS n k K (j + 1))) ∧ Below w.heap.size w (wr.setCell ⟨g, j, none⟩ (.int .i64 z))) := Lib.hid (fun z hz2 => ⟨by rw [hz2, ← midS_set n k K j hlt]; exact hz.set j _, hb.setCell (p := ⟨g, j, none⟩) HG.out _⟩)
      have H1 := Lib.hid e1
      clear hz hb hx e1
      rcases e3 with ⟨e4, e5⟩ | ⟨e4, e5⟩
      · have H5 := Lib.hid e5
        clear e5
        go_wp2_with fail
        go_roundw
        case rel => exact ⟨j + 1, by omega, by go_num, Lib.hid (hN.out _ H5.out)⟩
        case measure => simp [intOf]; omega
      · have H5 := Lib.hid e5
        clear e5
        go_wp2_with fail
        go_roundw
        case rel => exact ⟨j + 1, by omega, by go_num, Lib.hid (hN.out _ H5.out)⟩
        case measure => simp [intOf]; omega
    · have iI : ¬ (j : Int) < (k : Int) + 1 := by have := HKH.out; omega
      obtain rfl : j = K := by omega
      rw [midS_end] at hz
      go_wp2
      go_ret
      exact ⟨g, rfl, hz, HG.out, hb⟩
def OwnI (w : World) (base : Nat) (v : Value) (l : List Int) : Prop := w.ownsRow base 3 1 v l.length (intsV l)
theorem OwnI.nil (w : World) (base : Nat) : OwnI w base (.slice none 0 0) [] := World.ownsRow_nil _ _ _ _
theorem owns_same {w w1 : World} {base n k : Nat} {e : TypeId} {v : Value} {xs : List Value} (h : w.ownsRow base e k v n xs) (hb : ∀ b, v.ownBlock = some b → w1.heap[b]? = w.heap[b]?) : w1.ownsRow base e k v n xs := by
  refine ⟨h.1, ?_⟩
  rcases h.2 with h | ⟨g, cap, cur, rfl, q1, q2, q3⟩
  · exact .inl h
  · exact .inr ⟨g, cap, cur, rfl, q1, (hb g rfl).trans q2, q3⟩
theorem owns_shape {w : World} {base n k : Nat} {e : TypeId} {v : Value} {xs : List Value} (h : w.ownsRow base e k v n xs) : ∃ ao cap, v = .slice ao n cap ∧ n ≤ cap ∧ cap ≤ 9223372036854775807 ∧ (ao = none → n = 0) ∧ ∀ a, ao = some a → ∃ b, a = ⟨b, 0, none⟩ := by
  rcases h.2 with ⟨rfl, hz⟩ | ⟨g, cap, cur, rfl, _, _, h1, h2, _⟩
  · exact ⟨none, 0, by rw [hz], by omega, by decide, fun _ => hz, fun a h => by cases h⟩
  · exact ⟨_, cap, rfl, h1, h2, (fun h => by cases h), fun a h => by cases h; exact ⟨g, rfl⟩⟩
theorem addr_addT (b o j : Nat) : (⟨b, o, none⟩ : Addr).add j = ⟨b, o + j, none⟩ := by unfold Addr.add; split <;> simp_all
theorem OwnI.keep {w w1 : World} {base : Nat} {v : Value} {l : List Int} (h : OwnI w base v l) (hb : Below w.heap.size w w1) : OwnI w1 base v l := owns_same h (fun b e => hb.block b (h.lt b e).2)
theorem wpList_append_i {ops : Array Oper} {rest : List Oper} {o : Oper} {a : Act} {Q : Exit → Act → World → Prop} {w : World} (hgd : o.guard = none) (s x : Operand)
    (ho : o.op = .call { callee := .builtin .append, args := #[s, x], argTypes := #[22, 22] }) (base : Nat) (v : Value) (l : List Int) (hs : a.eval s = v) (hown : OwnI w base v l)
    (y : Int) (g : Nat) (hx : a.eval x = .slice (some ⟨g, 0, none⟩) 1 1) (h2 : Blk w g 3 [.int .i64 y]) (hl : l.length ≤ 1000) (hb : base ≤ w.heap.size)
    (h : ∀ v' w', OwnI w' base v' (l ++ [y]) → Below base w w' → wpList Try.prog ops Q rest (a.put o.dst v') w') : wpList Try.prog ops Q (o :: rest) a w := by
  obtain ⟨i0, hi, hz0, hz1, hz2⟩ := info_parts infoInt
  obtain ⟨v', w', hr, r1, r2, _, r5⟩ := run_append_own_at (P := Try.prog) w base 22 o.type 3 i0 _ 1 8 Try.underlying22 hi hz0 hz1 hz2 rfl (by decide) v l.length (intsV l) hown ⟨g, 0, none⟩ 1 1 [.int .i64 y] rfl (fun j u hj => by
    rw [addr_addT, Nat.zero_add]
    exact h2.cell hj) (fun u hu => by
    rw [List.mem_singleton] at hu
    subst hu; rfl) (by unfold maxLen; omega) (by omega) hb
  refine wpList_plain hgd fun K hK => ?_
  unfold Oper.wp execOp
  simp only [ho, resolve, invoke, builtin, Sem.run_bind, Sem.run_pure, Result.andThen_ok, List.map_toArray, List.map_cons, List.map_nil, hs, hx, hr]
  refine hK _ _ (h v' w' ?_ ?_)
  · unfold OwnI intsV
    rw [List.map_append, List.length_append]
    exact r1
  · exact (Below.refl base w).grown r2 hb (fun b e => (hown.lt b e).1)
def ShPost (n k : Nat) (w : World) (e : Ending) (w' : World) : Prop := ∃ g, e = .returned (.tuple #[.slice (some ⟨g, 0, none⟩) (k + 1) (k + 1), .int .i64 0]) ∧ Blk w' g 3 (intsV (shL n k (k + 1))) ∧ Below w.heap.size w w'
theorem share_ok (n k : Nat) (hn : n ≤ 64) (hk : 1 ≤ k) (hk8 : k ≤ 8) (w : World) : Calls Try.prog 5 #[.int .i64 n, .int .i64 k] w (ShPost n k w) := by
  have c1 := fun W => goodWorkers_any (k : Int) W
  have c2 := fun W => begins_any n k hn hk hk8 W
  rw [decide_eq_true (show 1 ≤ (k : Int) ∧ (k : Int) ≤ 8 by omega)] at c1
  go_enter Try.func5, Try.ntmps5
  go_wp2_with (first | (go_at_call 9; refine (c1 _).mono ?_; rintro e w2 ⟨rfl, rfl⟩) | (go_at_call 10; refine (c2 _).mono ?_; rintro e w3 ⟨g, rfl, h1, -, h2⟩))
  go_ret2
  exact ⟨g, rfl, h1, h2⟩
theorem share_size (n k : Int) (hn : n < 0 ∨ 64 < n) (w : World) : Calls Try.prog 5 #[.int .i64 n, .int .i64 k] w fun e w' => e = .returned (.tuple #[.slice none 0 0, .int .i64 1]) ∧ w' = w := by
  by_cases h : n < 0
  · go_enter Try.func5, Try.ntmps5
    go_wp2
    go_ret2
    exact ⟨rfl, rfl⟩
  · have h2 : 64 < n := by omega
    have h3 : ¬ n ≤ 64 := by omega
    clear hn
    go_enter Try.func5, Try.ntmps5
    go_wp2
    go_ret2
    exact ⟨rfl, rfl⟩
theorem share_range (n k : Int) (hn : 0 ≤ n) (h64 : n ≤ 64) (hk : ¬ (1 ≤ k ∧ k ≤ 8)) (w : World) : Calls Try.prog 5 #[.int .i64 n, .int .i64 k] w fun e w' => e = .returned (.tuple #[.slice none 0 0, .int .i64 6]) ∧ w' = w := by
  have c1 := fun W => goodWorkers_any k W
  rw [decide_eq_false hk] at c1
  clear hk
  go_enter Try.func5, Try.ntmps5
  go_wp2_with (go_at_call 9; refine (c1 _).mono ?_; rintro e w2 ⟨rfl, rfl⟩)
  go_ret2
  exact ⟨rfl, rfl⟩
theorem ref_size (n k : Int) (hn : n < 0 ∨ 64 < n) (w : World) : Calls Try.prog 6 #[.int .i64 n, .int .i64 k] w fun e w' => e = .returned (.tuple #[.slice none 0 0, .int .i64 1]) ∧ w' = w := by
  by_cases h : n < 0
  · go_enter Try.func6, Try.ntmps6
    go_wp2
    go_ret2
    exact ⟨rfl, rfl⟩
  · have h2 : 64 < n := by omega
    have h3 : ¬ n ≤ 64 := by omega
    clear hn
    go_enter Try.func6, Try.ntmps6
    go_wp2
    go_ret2
    exact ⟨rfl, rfl⟩
theorem ref_range (n k : Int) (hn : 0 ≤ n) (h64 : n ≤ 64) (hk : ¬ (1 ≤ k ∧ k ≤ 8)) (w : World) : Calls Try.prog 6 #[.int .i64 n, .int .i64 k] w fun e w' => e = .returned (.tuple #[.slice none 0 0, .int .i64 6]) ∧ w' = w := by
  by_cases h : k < 1
  · clear hk
    go_enter Try.func6, Try.ntmps6
    go_wp2
    go_ret2
    exact ⟨rfl, rfl⟩
  · have h2 : 8 < k := by omega
    have h3 : ¬ k ≤ 8 := by omega
    clear hk
    go_enter Try.func6, Try.ntmps6
    go_wp2
    go_ret2
    exact ⟨rfl, rfl⟩
--CUT2
set_option maxHeartbeats 4000000 in
theorem ref_ok (n k : Nat) (hn : n ≤ 64) (hk : 1 ≤ k) (hk8 : k ≤ 8) (w : World) :
    Calls Try.prog 6 #[.int .i64 n, .int .i64 k] w fun e w' => ∃ v, e = .returned (.tuple #[v, .int .i64 0]) ∧ OwnI w' w.heap.size v (shL n k (k + 1)) ∧ Below w.heap.size w w' := by
  obtain ⟨E, M, hE, hM, hq, hr, hE64, hM7⟩ := sh_facts n k hn hk hk8
  have hk0 : ¬ (k : Int) = 0 := by omega
  have hk1 : ¬ k = 0 := by omega
  have wE : IntKind.i64.wrap (E : Int) = (E : Int) := wrap_i _ (by omega) (by omega)
  have wM : IntKind.i64.wrap (M : Int) = (M : Int) := wrap_i _ (by omega) (by omega)
  have n0 : ¬ (n : Int) < 0 := by omega
  have n1 : ¬ (64 : Int) < (n : Int) := by omega
  have k0 : ¬ (k : Int) < 1 := by omega
  have k1 : ¬ (8 : Int) < (k : Int) := by omega
  have HZ : Hid (∀ i, i ≤ 8 → _) := Lib.hid (fun i hi => sh_step n k E M i hE hM hE64 hM7 hi)
  clear hE hM
  go_enter Try.func6, Try.ntmps6
  go_wp2_with fail
  go_loopw [6, 7] (fun v ix wr => ∃ (j : Nat), j ≤ k + 1 ∧ ix = .int .i64 j ∧ Hid (OwnI wr w.heap.size v (shL n k j) ∧ Below w.heap.size w wr)) (fun _ ix _ => k + 1 - (intOf ix).toNat)
  case atStart => exact ⟨0, Nat.zero_le _, rfl, Lib.hid ⟨OwnI.nil _ _, Below.refl _ _⟩⟩
  case round =>
    obtain ⟨j, hj, rfl, hS⟩ := hrel
    by_cases hlt : j ≤ k
    · have iI : (j : Int) ≤ (k : Int) := by omega
      have i8 : j ≤ 8 := by omega
      obtain ⟨p, e1, p0, p1, e3⟩ := HZ.out j i8
      have wm : IntKind.i64.wrap ((j : Int) * (E : Int)) = p := by rw [e1]; exact wrap_i p (by omega) (by omega)
      have H1 := Lib.hid e1
      obtain ⟨z, hz, hz0, hz1⟩ : ∃ z : Int, z = shI n k j ∧ 0 ≤ z ∧ z ≤ 1000 := ⟨_, rfl, by omega, by omega⟩
      have HZ2 := Lib.hid hz
      have e4 : (M < j ∧ p + (M : Int) = z) ∨ (¬ M < j ∧ p + (j : Int) = z) := by rw [hz]; exact e3
      clear e1 e3 hz
      go_upto_region 9 with fail
      refine wp_region_new 12 _ rfl rfl (fun v W => ∃ g, v = .slice (some ⟨g, 0, none⟩) 1 1 ∧ Blk W g 3 [.int .i64 z]) (fun v W W' ⟨g, h1, h2⟩ hb => ⟨g, h1, h2.call hb⟩) (by kernel_rfl) (by kernel_rfl) (by kernel_rfl) ?_
      simp only [List.take_succ_cons, List.take_zero, List.drop_succ_cons, List.drop_zero]
      rcases e4 with ⟨e4, e5⟩ | ⟨e4, e5⟩ <;> (
        repeat (first
          | (apply wpDet_plain _ rfl; (focus (intro W hW; go_simp; exact ⟨rfl, Below.refl _ _⟩)); simp only [Act.put, List.setIfInBounds_toArray, List.set_cons_zero, List.set_cons_succ]))
        refine wpDet_nil ?_
        refine ⟨?_, ?_⟩
        · intro W hW
          go_simp
          exact ⟨by first | (rw [wrap_i _ (by omega) (by omega)]; (try rw [e5]); exact Blk.new W _ _) | exact Blk.new W _ _, (Below.refl _ _).alloc (Nat.le_refl _) _⟩
        · rintro v W hW ⟨g, rfl, hq1⟩
          have how := hS.out.1.keep hW
          have hbW := below_stepE hS.out.2 hS.out.2.size hW
          simp only [List.setIfInBounds_toArray, List.set_cons_zero, List.set_cons_succ]
          go_wp2_with (at_builtin; refine wpList_append_i rfl (.tmp 25) (.tmp 37) rfl w.heap.size _ _ rfl how z g rfl hq1 (by rw [shL_len]; omega) hbW.size ?_; intro v1 w5 ho5 hb5)
          rw [HZ2.out, ← shL_snoc] at ho5
          go_roundw
          case rel => exact ⟨j + 1, by omega, by go_num, Lib.hid ⟨ho5, hbW.trans hb5⟩⟩
          case measure => simp [intOf]; omega)
    · have iI : ¬ (j : Int) ≤ (k : Int) := by omega
      obtain rfl : j = k + 1 := by omega
      go_wp2
      go_ret2
      exact ⟨_, rfl, hS.out.1, hS.out.2⟩
end Go.Proofs.Ytkkdpekhhcplnaa
