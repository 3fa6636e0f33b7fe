/-
  WHAT THE REFERENCE'S READING SAYS of a list of nodes, and how it hangs together with what the program's says.
  CONDITIONS: each theorem's own hypotheses.
-/
import Derived.Test.YtopgakdgifmecaaTInn
import Derived.Test.YtopgakdgifmecaaTFlat
import Derived.Test.YtopgakdgifmecaaTRefQ
namespace Go.Proofs.Ytopgakdgifmecaa
open Go.RowKit
set_option linter.unusedVariables false
set_option maxRecDepth 100000

theorem readC_small (ns : List Nq) (h : smallQ ns = false) : readC ns = 1 := by unfold readC; rw [if_pos h]
theorem small_big (ns : List Nq) (h : ¬ ns.length ≤ 100) : smallQ ns = false := by
  unfold smallQ
  rw [decide_eq_false h]; simp
theorem small_long (ns : List Nq) (j : Nat) (n : Nq) (hj : ns[j]? = some n) (h : longN n = true) : smallQ ns = false := by
  unfold smallQ
  rw [List.any_eq_true.2 ⟨n, List.mem_of_getElem? hj, h⟩]; rfl
theorem sumK_mono (ns : List Nq) (j : Nat) : sumK (ns.take j) ≤ sumK ns := by
  have h := List.take_append_drop j ns
  have : sumK ns = sumK (ns.take j) + sumK (ns.drop j) := by
    unfold sumK
    rw [← List.sum_append, ← List.map_append, h]
  omega
theorem small_sum (ns : List Nq) (j : Nat) (h : 100 < sumK (ns.take j)) : smallQ ns = false := by
  have := sumK_mono ns j
  unfold smallQ
  rw [decide_eq_false (p := sumK ns ≤ 100) (by omega)]; simp
theorem small_ok (ns : List Nq) (h1 : ns.length ≤ 100) (h2 : sumK ns ≤ 100) (h3 : ∀ (q : Nat) (n : Nq), ns[q]? = some n → longN n = false) : smallQ ns = true := by
  unfold smallQ
  rw [any_take_none h3, decide_eq_true h1, decide_eq_true h2]; rfl
theorem readC_none (ns : List Nq) (h : ns.length = 0) : readC ns = 0 ∧ flatT (rootQ ns) = [] := by
  have : ns = [] := List.eq_nil_of_length_eq_zero h
  subst this
  constructor
  · decide +kernel
  · rfl
theorem nats_all (r : List Nat) (n : Nat) (h : r.length = n) : (r.all (fun x => x == 1) = true) ↔ ∀ j, j < n → r.getD j 0 = 1 := by
  rw [List.all_eq_true]
  constructor
  · intro h1 j hj
    have := h1 (r[j]'(by omega)) (List.getElem_mem _)
    rw [List.getD_eq_getElem?_getD, List.getElem?_eq_getElem (by omega)]
    simpa using this
  · intro h1 x hx
    obtain ⟨j, hj, rfl⟩ := List.getElem_of_mem hx
    have := h1 j (by omega)
    rw [List.getD_eq_getElem?_getD, List.getElem?_eq_getElem hj] at this
    simpa using this
theorem mem_inter (e : En) : ∀ (es : List En) (kk : List (List En)), e ∈ interT es kk → e ∈ es ∨ ∃ l ∈ kk, e ∈ l
  | [], [], h => by simp [interT] at h
  | x :: es, [], h => .inl (by simpa [interT] using h)
  | [], k :: kk, h => .inr ⟨k, List.mem_cons_self .., by simpa [interT] using h⟩
  | x :: es, k :: kk, h => by
    simp only [interT] at h
    rcases List.mem_append.1 h with h | h
    · exact .inr ⟨k, List.mem_cons_self .., h⟩
    · rcases List.mem_cons.1 h with rfl | h
      · exact .inl (List.mem_cons_self ..)
      · rcases mem_inter e es kk h with h | ⟨l, h1, h2⟩
        · exact .inl (List.mem_cons_of_mem _ h)
        · exact .inr ⟨l, List.mem_cons_of_mem _ h1, h2⟩
theorem flat_keys (ns : List Nq) (e : En) : ∀ (f i : Nat), e ∈ flatT (branchQ ns f i) → ∃ n ∈ ns, e.1 ∈ n.keys
  | 0, i, h => by simp [branchQ, flatT, flatL, interT] at h
  | f + 1, i, h => by
    simp only [branchQ, flatT] at h
    rcases mem_inter e _ _ h with h | ⟨l, h1, h2⟩
    · unfold entsAt at h
      cases hn : ns[i]? with
      | none => rw [hn] at h; simp at h
      | some n =>
        rw [hn] at h
        exact ⟨n, List.mem_of_getElem? hn, (List.of_mem_zip h).1⟩
    · rw [flatL_map, List.map_map] at h1
      obtain ⟨k, hk, rfl⟩ := List.mem_map.1 h1
      exact flat_keys ns e f k h2
theorem flat_short (ns : List Nq) (hs : smallQ ns = true) (e : En) (f i : Nat) (h : e ∈ flatT (branchQ ns f i)) : e.1.length ≤ 60 := by
  obtain ⟨n, hn, hk⟩ := flat_keys ns e f i h
  unfold smallQ at hs
  simp only [Bool.and_eq_true, Bool.not_eq_true', List.any_eq_false] at hs
  have h1 := hs.1 n hn
  unfold longN at h1
  have h2 : ¬ longQ e.1 = true := fun h2 => h1 (List.any_eq_true.2 ⟨e.1, hk, h2⟩)
  unfold longQ at h2
  simp at h2
  exact h2
/-- What comes of the reading, of the counts and of the keys, is what the program says. -/
theorem inn_end {ns : List Nq} {w0 W w' : World} {g : Nat} {e : Ending} (hn : 0 < ns.length) (hl : ns.length ≤ 100) (hs : smallQ ns = true) (h : InnQ w0 W g ns.length (innerR ns ns.length 0 (List.replicate ns.length 0)) e w') : ∃ (b0 : Bool) (s : List Nat) (m : List En) (v : Value) (d : Int), e = .returned (.tuple #[v, .int .i64 d, .bool b0]) ∧ OwnPr w' (g + 1) v m ∧ ISt w0 w' g s ∧ s.length = ns.length ∧ m.length ≤ 1000 ∧ (∀ e ∈ m, e.1.length ≤ 60) ∧ (((b0 && s.all (fun x => x == 1)) && riseR (m.map Prod.fst)) = false → readC ns = 3) ∧ (((b0 && s.all (fun x => x == 1)) && riseR (m.map Prod.fst)) = true → readC ns = 0 ∧ flatT (rootQ ns) = m) := by
  have hz : ∀ j, (List.replicate ns.length 0).getD j 0 = 0 := fun j => by
    simp only [List.getD_eq_getElem?_getD, List.getElem?_replicate]; split <;> rfl
  have hsame := read_same ns hn
  have hbad : ¬ (linkR ns.length 0 ns (List.replicate ns.length false) = true ∧ (deT (rootQ ns)).e = true) → readC ns = 3 := fun hno => by
    unfold readC
    rw [if_neg (by rw [hs]; decide)]
    cases h1 : linkR ns.length 0 ns (List.replicate ns.length false) with
    | false => rw [if_pos rfl]
    | true =>
      rw [if_neg (by decide)]
      cases h2 : (deT (rootQ ns)).e with
      | false => rw [if_pos rfl]
      | true => exact absurd ⟨h1, h2⟩ hno
  obtain ⟨hf, ⟨h1, rfl, s, h2, h3⟩ | ⟨r, v, h1, rfl, h2, h3⟩⟩ := h
  · refine ⟨false, s, [], _, _, rfl, OwnPr.nil _ _, h3, h2, by simp, fun e he => (by cases he), fun _ => hbad (fun hh => ?_), fun h => by simp at h⟩
    obtain ⟨r, hr, -⟩ := hsame.1 hh
    rw [h1] at hr; cases hr
  · obtain ⟨i1, i2, i3, i4, i5, i6⟩ := inner_small ns ns.length 0 _ r hn (by omega) (by simp) (fun j => by rw [hz j]; omega) h1
    obtain ⟨c1, c2, -⟩ := inner_some ns ns.length 0 _ r hn (by omega) (by simp) h1
    have hpl := pos_le ns.length (posQ ns ns.length 0) i2 (fun j => by have := i3 j; have := i4 j; have := hz j; omega)
    refine ⟨true, r.seen, r.l, v, _, rfl, h2, h3, i5, by omega, fun e he => flat_short ns hs e ns.length 0 (by rw [← c1]; exact he), fun hb => ?_, fun hb => ?_⟩
    · cases ha : r.seen.all (fun x => x == 1) with
      | false =>
        refine hbad (fun hh => ?_)
        obtain ⟨r', hr, hc⟩ := hsame.1 hh
        rw [h1] at hr
        obtain rfl := Option.some.inj hr
        rw [(nats_all _ _ i5).2 hc] at ha; cases ha
      | true =>
        rw [ha] at hb
        have hh := hsame.2 ⟨r, h1, (nats_all _ _ i5).1 ha⟩
        unfold readC
        rw [if_neg (by rw [hs]; decide), if_neg (by rw [hh.1]; decide), if_neg (by unfold rootQ; rw [hh.2]; decide), if_pos]
        unfold rootQ
        rw [← c1]; simpa using hb
    · simp only [Bool.true_and, Bool.and_eq_true] at hb
      have hh := hsame.2 ⟨r, h1, (nats_all _ _ i5).1 hb.1⟩
      refine ⟨?_, by unfold rootQ; exact c1.symm⟩
      unfold readC
      rw [if_neg (by rw [hs]; decide), if_neg (by rw [hh.1]; decide), if_neg (by unfold rootQ; rw [hh.2]; decide), if_neg]
      unfold rootQ
      rw [← c1, hb.2]; decide
theorem infoInt : (Try.prog.info? 3).map (fun i => (i.zero, i.size, i.bytes)) = some (some (.int .i64 0), 1, 8) := by kernel_rfl
theorem make_ints (n : Nat) (hn : n ≤ 1000000) (W : World) : (Instr.makeSlice 49 (.int .i64 (n : Int)) (.int .i64 (n : Int))).run Try.prog W = .ok (.slice (some ⟨W.heap.size, 0, none⟩) n n) (W.alloc (.cells (natsV (List.replicate n 0)).toArray 3)) := by
  obtain ⟨i0, hi, hz0, hz1, hz2⟩ := info_parts infoInt
  have := run_make (P := Try.prog) W _ _ i0 _ Try.underlying49 hi hz0 .i64 .i64 n n (by omega) (Int.le_refl _) (by rw [hz2]; omega) (by omega)
  simp only [Int.toNat_natCast, hz1, Nat.mul_one] at this
  rw [this]
  have e : madeCells (Value.int .i64 0).cells n = (natsV (List.replicate n 0)).toArray := by
    show madeCells #[Value.int .i64 0] n = _
    rw [made_one]
    simp [natsV]
  rw [← e]
theorem rise_step (l : List (List UInt8)) (q : Nat) (a b : List UInt8) (ha : l[q]? = some a) (hb : l[q + 1]? = some b) : riseR (l.drop q) = (lessS a b && riseR (l.drop (q + 1))) := by
  rw [drop_at l q a ha, drop_at l (q + 1) b hb, riseR_two]
theorem all_take (s : List Nat) (q x : Nat) (h : s[q]? = some x) : (s.take (q + 1)).all (fun x => x == 1) = ((s.take q).all (fun x => x == 1) && (x == 1)) := by
  rw [take_snocI s q x h, List.all_append]; simp
end Go.Proofs.Ytopgakdgifmecaa
