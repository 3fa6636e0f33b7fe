/-
  MERGED: TSlice, TSlicg, TSlicr, TSlicc, TSlicw.
  CONDITIONS: each theorem's own hypotheses.
-/
import Derived.Test.YtopgakdgifmecaaTRows
import Derived.Laws.CopyRow
import Derived.Shelf.Spec.SlicesInsert
import Derived.Lib.AppendZerosOnto

/-! CONTRACTS of package slices' functions over rows of entries and of kids. CONDITIONS: each theorem's own hypotheses. -/
namespace Go.Proofs.Ytopgakdgifmecaa
open Go.RowKit
set_option linter.unusedVariables false
set_option maxRecDepth 100000

/-- copy, at elements of any size. -/
theorem run_copy_rowK {P : Program} (w : World) (dT sT ty elem : TypeId) (k g o dLen dCap : Nat) (a : Addr) (sLen sCap : Nat) (cur : Array Value) (t : TypeId) (cs : List Value) (m : Nat)
    (hu : P.underlying dT = some (.slice elem)) (hs : (P.info? elem).map (·.size) = some k)
    (hg : w.heap[g]? = some (.cells cur t (0, 0))) (hm : m = Nat.min sLen dLen) (hn : cs.length = m * k)
    (hsrc : ∀ j v, cs[j]? = some v → w.cell? (a.add j) = some v) (hfit : o + cs.length ≤ cur.size) (h1 : ∀ v ∈ cs, v.oneCell' = true) :
    (Builtin.copy_ #[dT, sT] ty #[.slice (some ⟨g, o, none⟩) dLen dCap, .slice (some a) sLen sCap]).run P w =
      .ok (goInt m) (w.setRow g (cur.toList.take o ++ cs ++ cur.toList.drop (o + cs.length)).toArray) := by
  have hl := run_loadCells_list (P := P) w a cs hsrc
  have hst := run_storeCells_at P g o t cs 0 cur w hg (by simpa using hfit) h1
  cases hq : P.info? elem with
  | none => simp [hq] at hs
  | some i =>
    have hi : i.size = k := by simpa [hq] using hs
    rw [hn] at hl
    simp [Builtin.copy_, run_underlying hu, Builtin.lenOf, Builtin.firstCells, sizeOf, typeInfo, hq, hi, ← hm, hl, hst]
set_option maxHeartbeats 8000000 in
/-- slices.Insert of one element in the middle of a row, where there is room: in place. -/
theorem insert_shift_e (g cap i n gx base : Nat) (cur : Array Value) (ys : List Value) (w : World) (hi : i < n) (hroom : n + 1 ≤ cap) (hc63 : cap ≤ 9223372036854775807) (hn : n ≤ 1000) (hg : w.heap[g]? = some (.cells cur 73 (0, 0))) (hcs : cur.size = cap * 2) (hgx : w.heap[gx]? = some (.cells ys.toArray 73 (0, 0))) (hyl : ys.length = 2) (hne : gx ≠ g) (hbase : base ≤ g)
    (h1c : ∀ v ∈ cur.toList.take (n * 2), v.oneCell' = true) (h1y : ∀ v ∈ ys, v.oneCell' = true) :
    Calls Try.prog 60 #[.slice (some ⟨g, 0, none⟩) n cap, .int .i64 (i : Int), .slice (some ⟨gx, 0, none⟩) 1 1] w fun e w' => ∃ v', e = .returned v' ∧ w'.ownsRow base 73 2 v' (n + 1) ((cur.toList.take (n * 2)).take (i * 2) ++ (ys ++ (cur.toList.take (n * 2)).drop (i * 2))) ∧ w.grownBy w' (some g) ∧ (v'.ownBlock = some g ∨ v'.ownBlock = some w.heap.size) := by
  obtain ⟨i0, hi0, hz0, hz1, hz2⟩ := info_parts infoEn
  have hsz : (Try.prog.info? 73).map (·.size) = some 2 := by rw [hi0]; simp [hz1]
  have hsof : ∀ w, (Go.sizeOf 73).run Try.prog w = .ok 2 w := fun w => by simp [Go.sizeOf, Go.typeInfo, hi0, hz1]
  obtain ⟨xs, hxs⟩ : ∃ xs, cur.toList.take (n * 2) = xs := ⟨_, rfl⟩
  rw [hxs] at h1c ⊢
  have hxl : xs.length = n * 2 := by rw [← hxs, List.length_take, Array.length_toList, hcs]; omega
  have hcl : cur.toList = xs ++ cur.toList.drop (n * 2) := by rw [← hxs, List.take_append_drop]
  obtain ⟨ds, hds⟩ : ∃ ds, cur.toList.drop (n * 2) = ds := ⟨_, rfl⟩
  have hdl : ds.length = cap * 2 - n * 2 := by rw [← hds, List.length_drop, Array.length_toList, hcs]
  rw [hds] at hcl
  have hov : ∀ lb cb, (callFunc 67 #[.slice (some ⟨gx, 0, none⟩) 1 1, .slice (some ⟨g, (i + 1) * 2, none⟩) lb cb]).run Try.prog w = .ok (.value (.bool false)) w := fun lb cb => by
    rw [run_callFunc_extern Try.func67 (by kernel_rfl) (by kernel_rfl) (by kernel_rfl) (e := Extern.SlicesOverlaps.overlaps #[80, 80] #[4]) (by kernel_rfl),
      Lib.run_overlaps_apart w 80 4 73 Try.underlying80 2 hsof ⟨gx, 0, none⟩ ⟨g, (i + 1) * 2, none⟩ 1 1 lb cb hne 73 73 2 (cap * 2) (by simp [World.shape?, hgx, hyl]) (by simp [World.shape?, hg, hcs]) (by omega) (by simp [World.frozen?, hgx]) (by simp [World.frozen?, hgx])]
    rfl
  -- the row behind the first copy, and behind the second
  have hcp1 : ∀ (W : World), W.heap[g]? = some (.cells cur 73 (0, 0)) → ∀ ty dl dc sc, dl = n - i → (Builtin.copy_ #[80, 80] ty #[.slice (some ⟨g, (i + 1) * 2, none⟩) dl dc, .slice (some ⟨g, i * 2, none⟩) (n + 1 - i) sc]).run Try.prog W = .ok (goInt ((n - i : Nat) : Int)) (W.setRow g (xs.take (i * 2) ++ (xs.drop (i * 2)).take 2 ++ xs.drop (i * 2) ++ ds.drop 2).toArray) := fun W hW ty dl dc sc hdl2 => by
    have := run_copy_rowK (P := Try.prog) W 80 80 ty 73 2 g ((i + 1) * 2) dl dc ⟨g, i * 2, none⟩ (n + 1 - i) sc cur 73 (xs.drop (i * 2)) (n - i) Try.underlying80 hsz hW (by simp only [Nat.min_def]; split <;> omega) (by rw [List.length_drop, hxl, Nat.sub_mul]) (fun j v hj => by
      rw [addr_addT, cell_of_row W g _ _ _ _ hW]
      rw [List.getElem?_drop] at hj
      rw [← Array.getElem?_toList, hcl, List.getElem?_append_left (by rw [hxl]; have := (List.getElem?_eq_some_iff.1 hj).1; omega)]
      exact hj) (by rw [List.length_drop, hxl, hcs]; omega) (fun v hv => h1c v (List.mem_of_mem_drop hv))
    rw [this]
    have e1 : (xs ++ ds).take ((i + 1) * 2) = xs.take (i * 2) ++ (xs.drop (i * 2)).take 2 := by
      rw [List.take_append_of_le_length (by rw [hxl]; omega), show (i + 1) * 2 = i * 2 + 2 by omega, List.take_add]
    have e2 : (xs ++ ds).drop ((i + 1) * 2 + (n * 2 - i * 2)) = ds.drop 2 := by
      rw [List.drop_append, List.drop_of_length_le (by rw [hxl]; omega), List.nil_append, hxl]
      congr 1
      omega
    rw [hcl, List.length_drop, hxl, e1, e2]
  have hcp2 : ∀ (W : World) (c2 : Array Value), W.heap[g]? = some (.cells c2 73 (0, 0)) → c2 = (xs.take (i * 2) ++ (xs.drop (i * 2)).take 2 ++ xs.drop (i * 2) ++ ds.drop 2).toArray → W.heap[gx]? = some (.cells ys.toArray 73 (0, 0)) → ∀ ty dc, (Builtin.copy_ #[80, 80] ty #[.slice (some ⟨g, i * 2, none⟩) (n + 1 - i) dc, .slice (some ⟨gx, 0, none⟩) 1 1]).run Try.prog W = .ok (goInt ((1 : Nat) : Int)) (W.setRow g (xs.take (i * 2) ++ ys ++ xs.drop (i * 2) ++ ds.drop 2).toArray) := fun W c2 hW hc2 hx ty dc => by
    have := run_copy_rowK (P := Try.prog) W 80 80 ty 73 2 g (i * 2) (n + 1 - i) dc ⟨gx, 0, none⟩ 1 1 c2 73 ys 1 Try.underlying80 hsz hW (by simp only [Nat.min_def]; split <;> omega) (by omega) (fun j v hj => by
      rw [addr_addT, cell_of_row W gx _ _ _ _ hx, Nat.zero_add]
      simpa using hj) (by rw [hc2]; simp only [List.size_toArray, List.length_append, List.length_take, List.length_drop, hxl, hdl, hyl]; omega) h1y
    rw [this, hc2]
    have hl1 : (xs.take (i * 2)).length = i * 2 := by rw [List.length_take, hxl]; omega
    have hl2 : ((xs.drop (i * 2)).take 2).length = 2 := by rw [List.length_take, List.length_drop, hxl]; omega
    have e1 : (xs.take (i * 2) ++ (xs.drop (i * 2)).take 2 ++ xs.drop (i * 2) ++ ds.drop 2).take (i * 2) = xs.take (i * 2) := by
      rw [List.append_assoc, List.append_assoc, List.take_left' hl1]
    have e2 : (xs.take (i * 2) ++ (xs.drop (i * 2)).take 2 ++ xs.drop (i * 2) ++ ds.drop 2).drop (i * 2 + ys.length) = xs.drop (i * 2) ++ ds.drop 2 := by
      rw [List.append_assoc, List.drop_left' (by rw [List.length_append, hl1, hl2, hyl])]
    rw [List.toList_toArray, e1, e2, List.append_assoc (_ ++ ys)]
  have hsl1 : ¬ (cap = i) := by omega
  have hsl2 : ¬ (cap = i + 1) := by omega
  have w1 : IntKind.i64.wrap ((n : Int) + 1) = (n : Int) + 1 := by rw [IntKind.wrap_i64]; omega
  have w2 : IntKind.i64.wrap ((i : Int) + 1) = (i : Int) + 1 := by rw [IntKind.wrap_i64]; omega
  have b1 : ¬ (i : Int) = (n : Int) := by omega
  have b2 : ¬ (cap : Int) < (n : Int) + 1 := by omega
  have b3 : (i : Int) ≤ (n : Int) := by omega
  have b4 : (i : Int) ≤ (n : Int) + 1 := by omega
  have HOV := Lib.hid hov
  have HC1 := Lib.hid hcp1
  have HC2 := Lib.hid hcp2
  have HG := Lib.hid hg
  have HX := Lib.hid hgx
  have hgl : g < w.heap.size := (Array.getElem?_eq_some_iff.1 hg).1
  have hxl2 : gx < w.heap.size := (Array.getElem?_eq_some_iff.1 hgx).1
  clear hov hcp1 hcp2 hg hgx hcs hcl hds hxs h1c h1y hsz hsof hi0 hz0 hz1 hz2
  go_enter Try.func60, Try.ntmps60
  go_upto_region 14 with fail
  go_upto_region 15 with (simp only [HOV.out])
  refine wp_region_det 8 (by kernel_rfl) (by kernel_rfl) (by kernel_rfl) ?_
  simp only [List.take_succ_cons, List.take_zero, List.drop_succ_cons, List.drop_zero]
  iterate 8 (apply wpDet_plain _ rfl; (focus (intro W hW; go_simp; exact ⟨rfl, Below.refl _ _⟩)); simp only [Act.put, List.setIfInBounds_toArray, List.set_cons_zero, List.set_cons_succ])
  refine wpDet_nil ?_
  intro W hW
  have g1 : W.heap[g]? = some (.cells cur 73 (0, 0)) := (hW.block g hgl).trans HG.out
  have x1 : W.heap[gx]? = some (.cells ys.toArray 73 (0, 0)) := (hW.block gx hxl2).trans HX.out
  obtain ⟨c2, hc2⟩ : ∃ c2, (xs.take (i * 2) ++ (xs.drop (i * 2)).take 2 ++ xs.drop (i * 2) ++ ds.drop 2).toArray = c2 := ⟨_, rfl⟩
  have HK1 := fun ty dl dc sc h => HC1.out W g1 ty dl dc sc h
  rw [hc2] at HK1
  have g2 := setRow_heap W g cur c2 _ _ g1
  have x2 := (setRow_other W g gx c2 hne).trans x1
  have HK2 := fun ty dc => HC2.out (W.setRow g c2) c2 g2 hc2.symm x2 ty dc
  obtain ⟨c3, hc3⟩ : ∃ c3, (xs.take (i * 2) ++ ys ++ xs.drop (i * 2) ++ ds.drop 2).toArray = c3 := ⟨_, rfl⟩
  rw [hc3] at HK2
  obtain ⟨W1, hW1⟩ : ∃ V, W.setRow g c2 = V := ⟨_, rfl⟩
  rw [hW1] at HK1 HK2 g2
  have g3 := setRow_heap W1 g c2 c3 _ _ g2
  obtain ⟨W2, hW2⟩ : ∃ V, W1.setRow g c3 = V := ⟨_, rfl⟩
  rw [hW2] at HK2 g3
  have HEND : Hid (W2.ownsRow base 73 2 (.slice (some ⟨g, 0, none⟩) (n + 1) cap) (n + 1) (xs.take (i * 2) ++ (ys ++ xs.drop (i * 2))) ∧ w.grownBy W2 (some g)) := Lib.hid (by
    have hl : (xs.take (i * 2) ++ ys ++ xs.drop (i * 2)).length = (n + 1) * 2 := by
      simp only [List.length_append, List.length_take, List.length_drop, hxl, hyl]; omega
    rw [← List.append_assoc]
    refine ⟨⟨hl, .inr ⟨g, cap, c3, rfl, hbase, g3, hroom, by unfold maxLen; omega, ?_, ?_⟩⟩, ?_⟩
    · rw [← hc3]
      simp only [List.size_toArray, List.length_append, List.length_take, List.length_drop, hxl, hyl, hdl]; omega
    · rw [← hc3, List.toList_toArray, ← hl, List.take_left']
      rfl
    · rw [← hW2, ← hW1]
      exact ⟨hW.os, hW.tape, hW.output, by simp [World.setRow]; exact hW.size, fun b hb hne => by
        have hbg : b ≠ g := fun e => hne (by rw [e])
        rw [setRow_other _ g b _ hbg, setRow_other _ g b _ hbg]
        exact hW.block b hb⟩)
  clear g1 x1 g2 x2 g3 HC1 HC2 hc2 hc3 HG HX hW1 hW2 HOV
  go_wp2_with (first | (at_builtin; refine wpList_copy_runI _ rfl _ _ 80 80 rfl _ _ rfl rfl (HK1 _ _ _ _ (by first | rfl | omega)) ?_) | (at_builtin; refine wpList_copy_runI _ rfl _ _ 80 80 rfl _ _ rfl rfl (HK2 _ _) ?_) | fail)
  go_ret
  exact ⟨_, rfl, HEND.out.1, HEND.out.2, .inl rfl⟩
end Go.Proofs.Ytopgakdgifmecaa

/-! CONTRACTS of package slices' functions over rows of entries and of kids: at the end; where there is no room. CONDITIONS: each theorem's own hypotheses. -/
namespace Go.Proofs.Ytopgakdgifmecaa
open Go.RowKit
set_option linter.unusedVariables false
set_option maxRecDepth 100000

set_option maxHeartbeats 8000000 in
/-- slices.Insert of one element at the end of a row. -/
theorem insert_end_e (v : Value) (n gx base : Nat) (xs ys : List Value) (w : World) (hn : n ≤ 1000) (hown : w.ownsRow base 73 2 v n xs) (hgx : w.heap[gx]? = some (.cells ys.toArray 73 (0, 0))) (hyl : ys.length = 2) (hbase : base ≤ w.heap.size) (h1y : ∀ v ∈ ys, v.oneCell' = true) :
    Calls Try.prog 60 #[v, .int .i64 (n : Int), .slice (some ⟨gx, 0, none⟩) 1 1] w fun e w' => ∃ v', e = .returned v' ∧ w'.ownsRow base 73 2 v' (n + 1) (xs ++ ys) ∧ w.grownBy w' v.ownBlock ∧ (v'.ownBlock = v.ownBlock ∨ v'.ownBlock = some w.heap.size) := by
  obtain ⟨i0, hi0, hz0, hz1, hz2⟩ := info_parts infoEn
  have hnews : ∀ j u, ys[j]? = some u → w.cell? ((⟨gx, 0, none⟩ : Addr).add j) = some u := fun j u hj => by
    rw [addr_addT, cell_of_row w gx _ _ _ _ hgx, Nat.zero_add]
    simpa using hj
  obtain ⟨av, cap, ev, hc1, hc2, hnil, hadr⟩ := owns_shape hown
  subst ev
  have HO := Lib.hid hown
  have HN := Lib.hid hnews
  clear hown hgx hnews
  cases av with
  | none =>
    have hn0 := hnil rfl
    subst hn0
    clear hnil hadr
    go_enter Try.func60, Try.ntmps60
    go_wp2_with (first | (at_builtin; refine wpList_append_own_at _ rfl (.tmp 23) (.tmp 24) 80 rfl base 73 i0 _ 2 24 Try.underlying80 hi0 hz0 hz1 hz2 rfl (by decide) (.slice none 0 cap) 0 xs rfl HO.out ⟨gx, 0, none⟩ 1 1 ys rfl (by omega) HN.out h1y (by unfold maxLen; omega) (by omega) hbase ?_; intro v' w' ho hg _ hw; have HE := Lib.hid (And.intro ho (And.intro hg hw)); clear ho hg hw) | fail)
    go_ret
    exact ⟨_, rfl, HE.out.1, HE.out.2.1, HE.out.2.2⟩
  | some a =>
    obtain ⟨g, rfl⟩ := hadr a rfl
    clear hnil hadr
    go_enter Try.func60, Try.ntmps60
    go_wp2_with (first | (at_builtin; refine wpList_append_own_at _ rfl (.tmp 23) (.tmp 24) 80 rfl base 73 i0 _ 2 24 Try.underlying80 hi0 hz0 hz1 hz2 rfl (by decide) (.slice (some ⟨g, 0, none⟩) n cap) n xs rfl HO.out ⟨gx, 0, none⟩ 1 1 ys rfl (by omega) HN.out h1y (by unfold maxLen; omega) (by omega) hbase ?_; intro v' w' ho hg _ hw; have HE := Lib.hid (And.intro ho (And.intro hg hw)); clear ho hg hw) | fail)
    all_goals
      go_ret
      exact ⟨_, rfl, HE.out.1, HE.out.2.1, HE.out.2.2⟩
theorem zero_size (z : Array Value) (k : Nat) : (Builtin.zeroCells z k).size = k * z.size := by simp [Builtin.zeroCells]
set_option maxHeartbeats 8000000 in
/-- slices.Insert of one element in the middle of a row, where there is no room: a new row. -/
theorem insert_grow_e (g cap i n gx base : Nat) (cur : Array Value) (ys : List Value) (w : World) (hi : i < n) (hnc : n ≤ cap) (hroom : cap < n + 1) (hn : n ≤ 1000) (hg : w.heap[g]? = some (.cells cur 73 (0, 0))) (hcs : cur.size = cap * 2) (hgx : w.heap[gx]? = some (.cells ys.toArray 73 (0, 0))) (hyl : ys.length = 2) (hbase : base ≤ w.heap.size)
    (h1c : ∀ v ∈ cur.toList.take (n * 2), v.oneCell' = true) (h1y : ∀ v ∈ ys, v.oneCell' = true) :
    Calls Try.prog 60 #[.slice (some ⟨g, 0, none⟩) n cap, .int .i64 (i : Int), .slice (some ⟨gx, 0, none⟩) 1 1] w fun e w' => ∃ v', e = .returned v' ∧ w'.ownsRow base 73 2 v' (n + 1) ((cur.toList.take (n * 2)).take (i * 2) ++ (ys ++ (cur.toList.take (n * 2)).drop (i * 2))) ∧ w.grownBy w' (some g) ∧ (v'.ownBlock = some g ∨ v'.ownBlock = some w.heap.size) := by
  obtain ⟨i0, hi0, hz0, hz1, hz2⟩ := info_parts infoEn
  have hsz : (Try.prog.info? 73).map (·.size) = some 2 := by rw [hi0]; simp [hz1]
  obtain rfl : n = cap := by omega
  obtain ⟨xs, hxs⟩ : ∃ xs, cur.toList.take (n * 2) = xs := ⟨_, rfl⟩
  rw [hxs] at h1c ⊢
  have hxl : xs.length = n * 2 := by rw [← hxs, List.length_take, Array.length_toList, hcs]; omega
  have hcx : ∀ j v, xs[j]? = some v → cur[j]? = some v := fun j v hj => by
    have hlt := (List.getElem?_eq_some_iff.1 hj).1
    rw [← hxs, List.getElem?_take_of_lt (by omega), Array.getElem?_toList] at hj
    exact hj
  have hold : (Builtin.firstCells i0.size i (.slice (some ⟨g, 0, none⟩) i n)).run Try.prog w.drew = .ok (xs.take (i * 2)).toArray w.drew := by
    rw [hz1]
    exact run_firstCells_some w.drew 2 i ⟨g, 0, none⟩ i n (xs.take (i * 2)) (by rw [List.length_take]; omega) (fun j v hj => by
      rw [addr_addT, Nat.zero_add]
      rw [List.getElem?_take] at hj
      split at hj
      · exact (cell_of_row w g _ _ _ _ hg).trans (hcx j v hj)
      · cases hj)
  have hkk : (n : Int) + 1 - (i : Int) = ((n + 1 - i : Nat) : Int) := by omega
  have hik : i + (n + 1 - i) = n + 1 := by omega
  obtain ⟨Z, hZ⟩ : ∃ Z : Value, (.agg #[.string ⟨#[]⟩, .int .i64 0]) = Z := ⟨_, rfl⟩
  have hZs : Z.cells.size = 2 := by rw [← hZ]; rfl
  rw [hZ] at hz0
  obtain ⟨G, hG⟩ : ∃ G, grownCap w (n + 1) n 73 = G := ⟨_, rfl⟩
  obtain ⟨ROW, hROW⟩ : ∃ ROW : Array Value, (xs.take (i * 2)).toArray ++ Builtin.zeroCells Z.cells (n + 1 - i) ++ Builtin.zeroCells Z.cells (G - (n + 1)) = ROW := ⟨_, rfl⟩
  have hrz : ∀ ty, (Builtin.append_ #[80, 3] ty #[.slice (some ⟨g, 0, none⟩) i n, .int .i64 ((n : Int) + 1 - (i : Int))]).run Try.prog w = .ok (.slice (some ⟨w.heap.size, 0, none⟩) (n + 1) G) (w.drew.alloc (.cells ROW 73)) := fun ty => by
    have h := Lib.run_append_grow_zeros (P := Try.prog) w 80 3 ty 73 i0 Z .i64 .i64 Try.underlying80 Try.underlying3 hi0 hz0 (some ⟨g, 0, none⟩) i n (xs.take (i * 2)) hold (n + 1 - i) (by omega) (by omega) (by omega) (by omega) (by rw [hz2]; omega) (by rw [hz2, hik]; exact growslice_fits (by omega) (by omega))
    rw [hik] at h
    rw [hkk, ← hROW, ← hG]
    exact h
  have hGn : n + 1 ≤ G := by rw [← hG]; exact grownCap_ge w _ _ _
  have hG63 : G ≤ 9223372036854775807 := by
    have := grownCap_le_maxLen w (n + 1) n 73 (by unfold maxLen; omega)
    rw [hG] at this
    unfold maxLen at this
    omega
  have hRs : ROW.size = G * 2 := by
    rw [← hROW]
    simp only [Array.size_append, List.size_toArray, List.length_take, hxl, zero_size, hZs]; omega
  have hRt : ROW.toList.take (i * 2) = xs.take (i * 2) := by
    rw [← hROW]
    simp only [Array.toList_append, List.append_assoc]
    rw [List.take_left' (by rw [List.length_take, hxl]; omega)]
  have hgl : g < w.heap.size := (Array.getElem?_eq_some_iff.1 hg).1
  have hxl2 : gx < w.heap.size := (Array.getElem?_eq_some_iff.1 hgx).1
  obtain ⟨N, hN⟩ : ∃ N, w.heap.size = N := ⟨_, rfl⟩
  have hb0 : Below w.heap.size w (w.drew.alloc (.cells ROW 73)) := (Below.drew (Below.refl _ _)).alloc (Nat.le_refl _) _
  have z0 : (w.drew.alloc (.cells ROW 73)).heap[N]? = some (.cells ROW 73 (0, 0)) := by rw [← hN]; exact heap_alloc_new w.drew _
  obtain ⟨W0, hW0⟩ : ∃ V, w.drew.alloc (.cells ROW 73) = V := ⟨_, rfl⟩
  rw [hW0] at hb0 z0 hrz
  rw [hN] at hrz
  have g0 : W0.heap[g]? = some (.cells cur 73 (0, 0)) := (hb0.block g hgl).trans hg
  have x0 : W0.heap[gx]? = some (.cells ys.toArray 73 (0, 0)) := (hb0.block gx hxl2).trans hgx
  obtain ⟨c2, hc2⟩ : ∃ c2, (ROW.toList.take (i * 2) ++ ys ++ ROW.toList.drop (i * 2 + ys.length)).toArray = c2 := ⟨_, rfl⟩
  have hc2s : c2.size = G * 2 := by
    rw [← hc2]
    simp only [List.size_toArray, List.length_append, List.length_take, List.length_drop, Array.length_toList, hRs, hyl]; omega
  have hcpA : ∀ ty dl dc, dl = n + 1 - i → (Builtin.copy_ #[80, 80] ty #[.slice (some ⟨N, i * 2, none⟩) dl dc, .slice (some ⟨gx, 0, none⟩) 1 1]).run Try.prog W0 = .ok (goInt ((1 : Nat) : Int)) (W0.setRow N c2) := fun ty dl dc hdl => by
    have := run_copy_rowK (P := Try.prog) W0 80 80 ty 73 2 N (i * 2) dl dc ⟨gx, 0, none⟩ 1 1 ROW 73 ys 1 Try.underlying80 hsz z0 (by simp only [Nat.min_def]; split <;> omega) (by omega) (fun j v hj => by
      rw [addr_addT, cell_of_row W0 gx _ _ _ _ x0, Nat.zero_add]
      simpa using hj) (by rw [hRs, hyl]; omega) h1y
    rw [this, hc2]
  have hNg : g ≠ N := by omega
  have hNx : gx ≠ N := by omega
  have z1 := setRow_heap W0 N ROW c2 _ _ z0
  have g1 := (setRow_other W0 N g c2 hNg).trans g0
  have hs1 : (W0.setRow N c2).heap.size = W0.heap.size := by simp [World.setRow]
  have hbW1 : Below w.heap.size w (W0.setRow N c2) := ⟨hb0.os, hb0.tape, hb0.output, by rw [hs1]; exact hb0.size, fun b hb => (setRow_other W0 N b c2 (by omega)).trans (hb0.block b hb)⟩
  obtain ⟨W1, hW1⟩ : ∃ V, W0.setRow N c2 = V := ⟨_, rfl⟩
  rw [hW1] at hcpA z1 g1 hbW1
  obtain ⟨c3, hc3⟩ : ∃ c3, (c2.toList.take ((i + 1) * 2) ++ xs.drop (i * 2) ++ c2.toList.drop ((i + 1) * 2 + (xs.drop (i * 2)).length)).toArray = c3 := ⟨_, rfl⟩
  have hcpB : ∀ (W : World), W.heap[N]? = some (.cells c2 73 (0, 0)) → W.heap[g]? = some (.cells cur 73 (0, 0)) → ∀ ty dl dc sc, dl = n - i → (Builtin.copy_ #[80, 80] ty #[.slice (some ⟨N, (i + 1) * 2, none⟩) dl dc, .slice (some ⟨g, i * 2, none⟩) (n - i) sc]).run Try.prog W = .ok (goInt ((n - i : Nat) : Int)) (W.setRow N c3) := fun W hW hWg ty dl dc sc hdl => by
    have := run_copy_rowK (P := Try.prog) W 80 80 ty 73 2 N ((i + 1) * 2) dl dc ⟨g, i * 2, none⟩ (n - i) sc c2 73 (xs.drop (i * 2)) (n - i) Try.underlying80 hsz hW (by simp only [Nat.min_def]; split <;> omega) (by rw [List.length_drop, hxl, Nat.sub_mul]) (fun j v hj => by
      rw [addr_addT, cell_of_row W g _ _ _ _ hWg]
      rw [List.getElem?_drop] at hj
      exact hcx _ v hj) (by rw [List.length_drop, hxl, hc2s]; omega) (fun v hv => h1c v (List.mem_of_mem_drop hv))
    rw [this, hc3]
  have hfin : c3.size = G * 2 ∧ c3.toList.take ((n + 1) * 2) = xs.take (i * 2) ++ (ys ++ xs.drop (i * 2)) := by
    have hl1 : (xs.take (i * 2)).length = i * 2 := by rw [List.length_take, hxl]; omega
    have e1 : c2.toList.take ((i + 1) * 2) = xs.take (i * 2) ++ ys := by
      rw [← hc2, List.toList_toArray, hRt, List.take_left' (by rw [List.length_append, hl1, hyl]; omega)]
    have hl3 : (xs.take (i * 2) ++ (ys ++ xs.drop (i * 2))).length = (n + 1) * 2 := by
      simp only [List.length_append, hl1, hyl, List.length_drop, hxl]; omega
    constructor
    · rw [← hc3]
      simp only [List.size_toArray, List.length_append, List.length_take, List.length_drop, Array.length_toList, hc2s, hxl]; omega
    · rw [← hc3, List.toList_toArray, e1, List.append_assoc (xs.take (i * 2)), List.take_left' hl3]
  have HEND : Hid (∀ W, Below W1.heap.size W1 W → (W.setRow N c3).ownsRow base 73 2 (.slice (some ⟨N, 0, none⟩) (n + 1) G) (n + 1) (xs.take (i * 2) ++ (ys ++ xs.drop (i * 2))) ∧ w.grownBy (W.setRow N c3) (some g)) := Lib.hid (fun W hW => by
    have hl : (xs.take (i * 2) ++ (ys ++ xs.drop (i * 2))).length = (n + 1) * 2 := by
      simp only [List.length_append, List.length_take, List.length_drop, hxl, hyl]; omega
    have zW : W.heap[N]? = some (.cells c2 73 (0, 0)) := (hW.block N (Array.getElem?_eq_some_iff.1 z1).1).trans z1
    have hbW := below_stepE hbW1 hbW1.size hW
    refine ⟨⟨hl, .inr ⟨N, G, c3, rfl, by omega, setRow_heap W N c2 c3 _ _ zW, hGn, by unfold maxLen; omega, hfin.1, hfin.2⟩⟩, hbW.os, hbW.tape, hbW.output, by simp [World.setRow]; exact hbW.size, fun b hb hne => ?_⟩
    rw [setRow_other _ N b _ (by omega)]
    exact hbW.block b hb)
  have HRZ := Lib.hid hrz
  have HCA := Lib.hid hcpA
  have HCB : Hid (∀ W, Below W1.heap.size W1 W → ∀ ty dl dc sc, dl = n - i → (Builtin.copy_ #[80, 80] ty #[.slice (some ⟨N, (i + 1) * 2, none⟩) dl dc, .slice (some ⟨g, i * 2, none⟩) (n - i) sc]).run Try.prog W = .ok (goInt ((n - i : Nat) : Int)) (W.setRow N c3)) := Lib.hid (fun W hW => hcpB W ((hW.block N (Array.getElem?_eq_some_iff.1 z1).1).trans z1) ((hW.block g (Array.getElem?_eq_some_iff.1 g1).1).trans g1))
  have HN := Lib.hid hN
  have w1 : IntKind.i64.wrap ((n : Int) + 1) = (n : Int) + 1 := by rw [IntKind.wrap_i64]; omega
  have w2 : IntKind.i64.wrap ((i : Int) + 1) = (i : Int) + 1 := by rw [IntKind.wrap_i64]; omega
  have w5 : IntKind.i64.wrap ((n : Int) + 1 - (i : Int)) = (n : Int) + 1 - (i : Int) := by rw [IntKind.wrap_i64]; omega
  have b1 : ¬ (i : Int) = (n : Int) := by omega
  have b2 : (n : Int) < (n : Int) + 1 := by omega
  have b3 : (i : Int) ≤ (n : Int) := by omega
  have b4 : (i : Int) ≤ (n : Int) + 1 := by omega
  have s1 : ¬ (n = i) := by omega
  have s2 : ¬ (G = i) := by omega
  have s3 : ¬ (G = i + 1) := by omega
  clear hrz hcpA hcpB hfin hg hgx hcs hxs hcx hold hkk hik hG hROW hRs hRt hb0 z0 g0 x0 hc2 hc2s z1 g1 hs1 hbW1 hW1 hc3 h1c h1y hW0 hZs hz0 hZ hsz hi0 hz1 hz2 hN
  go_enter Try.func60, Try.ntmps60
  go_upto_region 10 with (first | (at_builtin; refine Lib.wpList_append_run _ rfl _ _ _ _ rfl _ _ rfl rfl _ _ (HRZ.out _) ?_) | fail)
  go_upto_region 11 with (simp only [HCA.out 3 (n + 1 - i) (G - i) rfl])
  refine wp_region_det 8 (by kernel_rfl) (by kernel_rfl) (by kernel_rfl) ?_
  simp only [List.take_succ_cons, List.take_zero, List.drop_succ_cons, List.drop_zero]
  iterate 8 (apply wpDet_plain _ rfl; (focus (intro W hW; go_simp; exact ⟨rfl, Below.refl _ _⟩)); simp only [Act.put, List.setIfInBounds_toArray, List.set_cons_zero, List.set_cons_succ])
  refine wpDet_nil ?_
  intro W hW
  have HK := fun ty dl dc sc h => HCB.out W hW ty dl dc sc h
  have HE := Lib.hid (HEND.out W hW)
  clear HCA HCB HRZ HEND hW
  go_wp2_with (first | (at_builtin; refine wpList_copy_runI _ rfl _ _ 80 80 rfl _ _ rfl rfl (HK _ _ _ _ (by first | rfl | omega)) ?_) | fail)
  go_ret
  exact ⟨_, rfl, HE.out.1, HE.out.2, .inr (by rw [HN.out]; rfl)⟩
end Go.Proofs.Ytopgakdgifmecaa

/-! CONTRACTS of package slices' functions over rows of entries and of kids: Replace. CONDITIONS: each theorem's own hypotheses. -/
namespace Go.Proofs.Ytopgakdgifmecaa
open Go.RowKit
set_option linter.unusedVariables false
set_option maxRecDepth 100000

theorem kslice_mid (g n cap i j : Nat) (hj : i ≤ j) (h2 : j ≤ cap) (hi : i < cap) (W : World) : (Instr.slice 81 (.slice (some ⟨g, 0, none⟩) n cap) (some (.int .i64 (i : Int))) (some (.int .i64 (j : Int))) none).run Try.prog W = .ok (.slice (some ⟨g, i, none⟩) (j - i) (cap - i)) W := by
  have hs : (sizeOf (Try.prog.elem 81)).run Try.prog W = .ok 1 W := by kernel_rfl
  have h := run_slice_lh (P := Try.prog) W 81 (some ⟨g, 0, none⟩) n cap (by kernel_rfl) .i64 .i64 (i : Int) (j : Int) (by omega) (by omega) (by omega)
  rw [h, hs, Int.toNat_natCast, Int.toNat_natCast]
  have hne : ¬ (cap = i) := by omega
  simp [Result.andThen, sliced, hne, Addr.add]
  omega
theorem owns_cut {w : World} {base n i : Nat} {g cap : Nat} {xs : List Value} (h : w.ownsRow base 61 1 (.slice (some ⟨g, 0, none⟩) n cap) n xs) (hi : i ≤ n) : w.ownsRow base 61 1 (.slice (some ⟨g, 0, none⟩) i cap) i (xs.take i) := by
  obtain ⟨hl, h⟩ := h
  rcases h with ⟨h0, _⟩ | ⟨g', cap', cur, hv, q1, q2, q3, q4, q5, q6⟩
  · cases h0
  · simp only [Value.slice.injEq, Option.some.injEq, Addr.mk.injEq, and_true, true_and] at hv
    obtain ⟨rfl, rfl⟩ := hv
    refine ⟨by rw [List.length_take]; omega, .inr ⟨g, cap, cur, rfl, q1, q2, by omega, q4, q5, ?_⟩⟩
    rw [← q6, List.take_take]
    congr 1
    omega
set_option maxHeartbeats 8000000 in
/-- slices.Replace of the last kid by two. -/
theorem replace_end_k (g cap i j gx base : Nat) (hj : j = i + 1) (xs ys : List Value) (w : World) (hn : i ≤ 1000) (hown : w.ownsRow base 61 1 (.slice (some ⟨g, 0, none⟩) j cap) j xs) (hgx : w.heap[gx]? = some (.cells ys.toArray 61 (0, 0))) (hyl : ys.length = 2) (hbase : base ≤ w.heap.size) (h1y : ∀ v ∈ ys, v.oneCell' = true) :
    Calls Try.prog 70 #[.slice (some ⟨g, 0, none⟩) j cap, .int .i64 (i : Int), .int .i64 (j : Int), .slice (some ⟨gx, 0, none⟩) 2 2] w fun e w' => ∃ v', e = .returned v' ∧ w'.ownsRow base 61 1 v' (i + 2) (xs.take i ++ ys) ∧ w.grownBy w' (some g) ∧ (v'.ownBlock = some g ∨ v'.ownBlock = some w.heap.size) := by
  obtain ⟨i0, hi0, hz0, hz1, hz2⟩ := info_parts infoKid
  have hnews : ∀ j u, ys[j]? = some u → w.cell? ((⟨gx, 0, none⟩ : Addr).add j) = some u := fun j u hj => by
    rw [addr_addT, cell_of_row w gx _ _ _ _ hgx, Nat.zero_add]
    simpa using hj
  have hcap : j ≤ cap := by
    rcases hown.2 with ⟨h0, _⟩ | ⟨g', cap', cur, hv, q1, q2, q3, q4, q5, q6⟩
    · cases h0
    · simp only [Value.slice.injEq, Option.some.injEq, Addr.mk.injEq, and_true, true_and] at hv
      obtain ⟨rfl, rfl⟩ := hv
      exact q3
  have hcut := owns_cut hown (i := i) (by omega)
  have HO := Lib.hid hcut
  have HN := Lib.hid hnews
  have b1 : ¬ (i : Int) = (j : Int) := by omega
  have b5 : ¬ ((i + 2 : Nat) : Int) < (j : Int) := by omega
  have b6 : ¬ (i : Int) + 2 < (j : Int) := by omega
  have b7 : ¬ (cap = i) := by omega
  have b8 : (i : Int) ≤ (cap : Int) := by omega
  clear hown hcut hgx hnews
  have q1 := fun W => kslice_mid g j cap i j (by omega) hcap (by omega) W
  go_enter Try.func70, Try.ntmps70
  go_wp2_with (first | (at_builtin; refine wpList_append_own_at _ rfl (.tmp 32) (.tmp 33) 81 rfl base 61 i0 _ 1 8 Try.underlying81 hi0 hz0 hz1 hz2 rfl (by decide) (.slice (some ⟨g, 0, none⟩) i cap) i (xs.take i) rfl HO.out ⟨gx, 0, none⟩ 2 2 ys rfl (by omega) HN.out h1y (by unfold maxLen; omega) (by omega) hbase ?_; intro v' w' ho hg _ hw; obtain ⟨av, cv, ev, -⟩ := owns_shape ho; subst ev; have HE := Lib.hid (And.intro ho (And.intro hg hw)); clear ho hg hw) | fail)
  go_ret
  exact ⟨_, rfl, HE.out.1, HE.out.2.1, HE.out.2.2⟩
set_option maxHeartbeats 8000000 in
/-- slices.Replace of a kid in the middle by two, where there is room: in place. -/
theorem replace_room_k (g cap i j n k t d gx base : Nat) (hj : j = i + 1) (hk : k = i + 2) (ht : t = n + 1) (hd : n - j = d) (hjn : j < n) (cur : Array Value) (ys : List Value) (w : World) (hroom : t ≤ cap) (hc63 : cap ≤ 9223372036854775807) (hn : n ≤ 1000) (hg : w.heap[g]? = some (.cells cur 61 (0, 0))) (hcs : cur.size = cap) (hgx : w.heap[gx]? = some (.cells ys.toArray 61 (0, 0))) (hyl : ys.length = 2) (hne : gx ≠ g) (hbase : base ≤ g)
    (h1c : ∀ v ∈ cur.toList.take n, v.oneCell' = true) (h1y : ∀ v ∈ ys, v.oneCell' = true) :
    Calls Try.prog 70 #[.slice (some ⟨g, 0, none⟩) n cap, .int .i64 (i : Int), .int .i64 (j : Int), .slice (some ⟨gx, 0, none⟩) 2 2] w fun e w' => ∃ v', e = .returned v' ∧ w'.ownsRow base 61 1 v' t ((cur.toList.take n).take i ++ (ys ++ (cur.toList.take n).drop j)) ∧ w.grownBy w' (some g) ∧ (v'.ownBlock = some g ∨ v'.ownBlock = some w.heap.size) := by
  obtain ⟨i0, hi0, hz0, hz1, hz2⟩ := info_parts infoKid
  have hsz : (Try.prog.info? 61).map (·.size) = some 1 := by rw [hi0]; simp [hz1]
  have hsof : ∀ w, (Go.sizeOf 61).run Try.prog w = .ok 1 w := fun w => by simp [Go.sizeOf, Go.typeInfo, hi0, hz1]
  obtain ⟨xs, hxs⟩ : ∃ xs, cur.toList.take n = xs := ⟨_, rfl⟩
  rw [hxs] at h1c ⊢
  have hxl : xs.length = n := by rw [← hxs, List.length_take, Array.length_toList, hcs]; omega
  have hcx : ∀ q v, xs[q]? = some v → cur[q]? = some v := fun q v hq => by
    have hlt := (List.getElem?_eq_some_iff.1 hq).1
    rw [← hxs, List.getElem?_take_of_lt (by omega), Array.getElem?_toList] at hq
    exact hq
  have hct : cur.toList.take i = xs.take i := by rw [← hxs, List.take_take]; congr 1; omega
  have hov : ∀ W : World, W.heap[g]? = some (.cells cur 61 (0, 0)) → W.heap[gx]? = some (.cells ys.toArray 61 (0, 0)) → ∀ la ca, (callFunc 77 #[.slice (some ⟨g, k, none⟩) la ca, .slice (some ⟨gx, 0, none⟩) 2 2]).run Try.prog W = .ok (.value (.bool false)) W := fun W hgW hxW la ca => by
    rw [run_callFunc_extern Try.func77 (by kernel_rfl) (by kernel_rfl) (by kernel_rfl) (e := Extern.SlicesOverlaps.overlaps #[81, 81] #[4]) (by kernel_rfl),
      Lib.run_overlaps_apart W 81 4 61 Try.underlying81 1 hsof ⟨g, k, none⟩ ⟨gx, 0, none⟩ la ca 2 2 (fun h => hne h.symm) 61 61 cap 2 (by simp [World.shape?, hgW, hcs]) (by simp [World.shape?, hxW, hyl]) (by omega) (by simp [World.frozen?, hgW]) (by simp [World.frozen?, hgW])]
    rfl
  obtain ⟨c2, hc2⟩ : ∃ c2, (cur.toList.take k ++ xs.drop j ++ cur.toList.drop (k + (xs.drop j).length)).toArray = c2 := ⟨_, rfl⟩
  have hdl : (xs.drop j).length = d := by rw [List.length_drop, hxl, hd]
  have hc2s : c2.size = cap := by
    rw [← hc2]
    simp only [List.size_toArray, List.length_append, List.length_take, hdl, List.length_drop, Array.length_toList, hcs]; omega
  have hcp1 : ∀ (W : World), W.heap[g]? = some (.cells cur 61 (0, 0)) → ∀ ty dl dc sl sc, dl = d → sl = d → (Builtin.copy_ #[81, 81] ty #[.slice (some ⟨g, k, none⟩) dl dc, .slice (some ⟨g, j, none⟩) sl sc]).run Try.prog W = .ok (goInt ((d : Nat) : Int)) (W.setRow g c2) := fun W hW ty dl dc sl sc hdl2 hsl2 => by
    have := run_copy_rowK (P := Try.prog) W 81 81 ty 61 1 g k dl dc ⟨g, j, none⟩ sl sc cur 61 (xs.drop j) d Try.underlying81 hsz hW (by simp only [Nat.min_def]; split <;> omega) (by rw [hdl]; omega) (fun q v hq => by
      rw [addr_addT, cell_of_row W g _ _ _ _ hW]
      rw [List.getElem?_drop] at hq
      exact hcx _ v hq) (by rw [hdl, hcs]; omega) (fun v hv => h1c v (List.mem_of_mem_drop hv))
    rw [this, hc2]
  obtain ⟨c3, hc3⟩ : ∃ c3, (c2.toList.take i ++ ys ++ c2.toList.drop (i + ys.length)).toArray = c3 := ⟨_, rfl⟩
  have hcp2 : ∀ (W : World), W.heap[g]? = some (.cells c2 61 (0, 0)) → W.heap[gx]? = some (.cells ys.toArray 61 (0, 0)) → ∀ ty dl dc, 2 ≤ dl → (Builtin.copy_ #[81, 81] ty #[.slice (some ⟨g, i, none⟩) dl dc, .slice (some ⟨gx, 0, none⟩) 2 2]).run Try.prog W = .ok (goInt ((2 : Nat) : Int)) (W.setRow g c3) := fun W hW hx ty dl dc hdl2 => by
    have := run_copy_rowK (P := Try.prog) W 81 81 ty 61 1 g i dl dc ⟨gx, 0, none⟩ 2 2 c2 61 ys 2 Try.underlying81 hsz hW (by simp only [Nat.min_def]; split <;> omega) (by omega) (fun q v hq => by
      rw [addr_addT, cell_of_row W gx _ _ _ _ hx, Nat.zero_add]
      simpa using hq) (by rw [hc2s, hyl]; omega) h1y
    rw [this, hc3]
  have hfin : c3.size = cap ∧ c3.toList.take (t * 1) = xs.take i ++ (ys ++ xs.drop j) := by
    have hl1 : (cur.toList.take i).length = i := by rw [List.length_take, Array.length_toList, hcs]; omega
    have e1 : c2.toList.take i = xs.take i := by
      rw [← hc2, List.toList_toArray, List.append_assoc, List.take_append_of_le_length (by rw [List.length_take, Array.length_toList, hcs]; omega), List.take_take, ← hct]
      congr 1
      omega
    have e2 : c2.toList.drop (i + ys.length) = xs.drop j ++ cur.toList.drop (k + d) := by
      rw [← hc2, List.toList_toArray, hdl, List.append_assoc, List.drop_left' (by rw [List.length_take, Array.length_toList, hcs, hyl]; omega)]
    have hl3 : (xs.take i ++ (ys ++ xs.drop j)).length = t := by
      simp only [List.length_append, List.length_take, hyl, hdl, hxl]; omega
    constructor
    · rw [← hc3]
      simp only [List.size_toArray, List.length_append, List.length_take, List.length_drop, Array.length_toList, hc2s, hyl]; omega
    · rw [← hc3, List.toList_toArray, e1, e2, Nat.mul_one, ← List.append_assoc (xs.take i ++ ys), List.append_assoc (xs.take i) ys, List.take_left' hl3]
  have w1 : IntKind.i64.wrap ((i : Int) + 2) = (k : Int) := by rw [IntKind.wrap_i64]; omega
  have w2 : IntKind.i64.wrap ((k : Int) + (d : Int)) = (t : Int) := by rw [IntKind.wrap_i64]; omega
  have q1 := fun W => kslice_mid g n cap i j (by omega) (by omega) (by omega) W
  have b1 : ¬ (i : Int) = (j : Int) := by omega
  have b2 : ¬ (j : Int) = (n : Int) := by omega
  have b3 : (i : Int) ≤ (cap : Int) := by omega
  have b4 : (j : Int) ≤ (n : Int) := by omega
  have b5 : ¬ (cap : Int) < (t : Int) := by omega
  have b6 : (t : Int) ≤ (cap : Int) := by omega
  have b7 : ¬ (k : Int) ≤ (j : Int) := by omega
  have b8 : (k : Int) ≤ (t : Int) := by omega
  have b9 : (i : Int) ≤ (t : Int) := by omega
  have s1 : ¬ (cap = i) := by omega
  have s2 : ¬ (cap = j) := by omega
  have s3 : ¬ (cap = k) := by omega
  have HKD : Hid (t - k = d) := Lib.hid (by omega)
  have HNJ : Hid (n - j = d) := Lib.hid hd
  have HTI : Hid (2 ≤ t - i) := Lib.hid (by omega)
  have HOV := Lib.hid hov
  have HC1 := Lib.hid hcp1
  have HC2 := Lib.hid hcp2
  have HG := Lib.hid hg
  have HX := Lib.hid hgx
  have HFIN := Lib.hid hfin
  have HXL := Lib.hid hxl
  have HLEN : Hid ((xs.take i ++ (ys ++ xs.drop j)).length = t * 1) := Lib.hid (by simp only [List.length_append, List.length_take, hyl, hdl, hxl]; omega)
  have hgl : g < w.heap.size := (Array.getElem?_eq_some_iff.1 hg).1
  have hxl2 : gx < w.heap.size := (Array.getElem?_eq_some_iff.1 hgx).1
  have hcm : cap ≤ maxLen := by unfold maxLen; omega
  clear hov hcp1 hcp2 hg hgx hcs hfin hxs hcx hct h1c h1y hsz hsof hi0 hz0 hz1 hz2 hc2 hc2s hc3 hdl hj hk ht hxl
  go_enter Try.func70, Try.ntmps70
  go_upto_region 9 with fail
  refine wp_region_det 12 (by kernel_rfl) (by kernel_rfl) (by kernel_rfl) ?_
  simp only [List.take_succ_cons, List.take_zero, List.drop_succ_cons, List.drop_zero]
  iterate 12 (apply wpDet_plain _ rfl; (focus (intro W hW; go_simp; exact ⟨rfl, Below.refl _ _⟩)); simp only [Act.put, List.setIfInBounds_toArray, List.set_cons_zero, List.set_cons_succ])
  refine wpDet_nil ?_
  intro W0 hW0
  have g0 : W0.heap[g]? = some (.cells cur 61 (0, 0)) := (hW0.block g hgl).trans HG.out
  have x0 : W0.heap[gx]? = some (.cells ys.toArray 61 (0, 0)) := (hW0.block gx hxl2).trans HX.out
  have HOW := Lib.hid (HOV.out W0 g0 x0)
  have HB0 := Lib.hid hW0
  clear hW0 HOV
  go_upto_region 22 with (simp only [HOW.out])
  refine wp_region_det 9 (by kernel_rfl) (by kernel_rfl) (by kernel_rfl) ?_
  simp only [List.take_succ_cons, List.take_zero, List.drop_succ_cons, List.drop_zero]
  iterate 9 (apply wpDet_plain _ rfl; (focus (intro W hW; go_simp; exact ⟨rfl, Below.refl _ _⟩)); simp only [Act.put, List.setIfInBounds_toArray, List.set_cons_zero, List.set_cons_succ])
  refine wpDet_nil ?_
  intro W hW
  have g1 : W.heap[g]? = some (.cells cur 61 (0, 0)) := (hW.block g (Array.getElem?_eq_some_iff.1 g0).1).trans g0
  have x1 : W.heap[gx]? = some (.cells ys.toArray 61 (0, 0)) := (hW.block gx (Array.getElem?_eq_some_iff.1 x0).1).trans x0
  have HBW := Lib.hid (below_stepE HB0.out HB0.out.size hW)
  have HK1 := fun ty dl dc sl sc h h' => HC1.out W g1 ty dl dc sl sc h h'
  have g2 := setRow_heap W g cur c2 _ _ g1
  have x2 := (setRow_other W g gx c2 hne).trans x1
  have HK2 := fun ty dl dc h => HC2.out (W.setRow g c2) g2 x2 ty dl dc h
  obtain ⟨W1, hW1⟩ : ∃ V, W.setRow g c2 = V := ⟨_, rfl⟩
  rw [hW1] at HK1 HK2 g2
  have g3 := setRow_heap W1 g c2 c3 _ _ g2
  obtain ⟨W2, hW2⟩ : ∃ V, W1.setRow g c3 = V := ⟨_, rfl⟩
  rw [hW2] at HK2 g3
  have HEND : Hid (W2.ownsRow base 61 1 (.slice (some ⟨g, 0, none⟩) t cap) t (xs.take i ++ (ys ++ xs.drop j)) ∧ w.grownBy W2 (some g)) := Lib.hid (by
    refine ⟨⟨HLEN.out, .inr ⟨g, cap, c3, rfl, hbase, g3, hroom, hcm, by rw [HFIN.out.1, Nat.mul_one], HFIN.out.2⟩⟩, ?_⟩
    rw [← hW2, ← hW1]
    exact ⟨HBW.out.os, HBW.out.tape, HBW.out.output, by simp [World.setRow]; exact HBW.out.size, fun b hb hne => by
        have hbg : b ≠ g := fun e => hne (by rw [e])
        rw [setRow_other _ g b _ hbg, setRow_other _ g b _ hbg]
        exact HBW.out.block b hb⟩)
  clear g0 x0 hW g1 x1 g2 x2 g3 HC1 HC2 HG HX hW1 hW2 HOW
  have hkd := HKD.out
  have hnj := HNJ.out
  have hti := HTI.out
  go_wp2_with (first | (at_builtin; refine wpList_copy_runI _ rfl _ _ 81 81 rfl _ _ rfl rfl (HK1 _ _ _ _ _ (by first | rfl | omega) (by first | rfl | omega)) ?_) | (at_builtin; refine wpList_copy_runI _ rfl _ _ 81 81 rfl _ _ rfl rfl (HK2 _ _ _ (by omega)) ?_) | fail)
  go_ret
  exact ⟨_, rfl, HEND.out.1, HEND.out.2, .inl rfl⟩
set_option maxHeartbeats 8000000 in
/-- slices.Replace of a kid in the middle by two, where there is no room: a new row. -/
theorem replace_grow_k (g i j n k t d m gx base : Nat) (hj : j = i + 1) (hk : k = i + 2) (ht : t = n + 1) (hd : n - j = d) (hm : m + i = t) (hjn : j < n) (cur : Array Value) (ys : List Value) (w : World) (hn : n ≤ 1000) (hg : w.heap[g]? = some (.cells cur 61 (0, 0))) (hcs : cur.size = n) (hgx : w.heap[gx]? = some (.cells ys.toArray 61 (0, 0))) (hyl : ys.length = 2) (hbase : base ≤ w.heap.size)
    (h1c : ∀ v ∈ cur.toList.take n, v.oneCell' = true) (h1y : ∀ v ∈ ys, v.oneCell' = true) :
    Calls Try.prog 70 #[.slice (some ⟨g, 0, none⟩) n n, .int .i64 (i : Int), .int .i64 (j : Int), .slice (some ⟨gx, 0, none⟩) 2 2] w fun e w' => ∃ v', e = .returned v' ∧ w'.ownsRow base 61 1 v' t ((cur.toList.take n).take i ++ (ys ++ (cur.toList.take n).drop j)) ∧ w.grownBy w' (some g) ∧ (v'.ownBlock = some g ∨ w.heap.size ≤ v'.ownBlock.getD 0 ∧ v'.ownBlock.isSome = true) := by
  obtain ⟨i0, hi0, hz0, hz1, hz2⟩ := info_parts infoKid
  have hsz : (Try.prog.info? 61).map (·.size) = some 1 := by rw [hi0]; simp [hz1]
  obtain ⟨xs, hxs⟩ : ∃ xs, cur.toList.take n = xs := ⟨_, rfl⟩
  rw [hxs] at h1c ⊢
  have hxl : xs.length = n := by rw [← hxs, List.length_take, Array.length_toList, hcs]; omega
  have hcx : ∀ q v, xs[q]? = some v → cur[q]? = some v := fun q v hq => by
    have hlt := (List.getElem?_eq_some_iff.1 hq).1
    rw [← hxs, List.getElem?_take_of_lt (by omega), Array.getElem?_toList] at hq
    exact hq
  have hdl : (xs.drop j).length = d := by rw [List.length_drop, hxl, hd]
  obtain ⟨Z, hZ⟩ : ∃ Z : Value, (.pointer none) = Z := ⟨_, rfl⟩
  have hZs : Z.cells.size = 1 := by rw [← hZ]; rfl
  rw [hZ] at hz0
  have hrz : ∀ W : World, W.heap[g]? = some (.cells cur 61 (0, 0)) → ∃ (G : Nat) (ROW : Array Value), t ≤ G ∧ G ≤ maxLen ∧ ROW.size = G ∧ ROW.toList.take i = xs.take i ∧ ∀ ty, (Builtin.append_ #[81, 3] ty #[.slice (some ⟨g, 0, none⟩) i n, .int .i64 (m : Int)]).run Try.prog W = .ok (.slice (some ⟨W.heap.size, 0, none⟩) t G) (W.drew.alloc (.cells ROW 61)) := fun W hgW => by
    have hold : (Builtin.firstCells i0.size i (.slice (some ⟨g, 0, none⟩) i n)).run Try.prog W.drew = .ok (xs.take i).toArray W.drew := by
      rw [hz1]
      exact run_firstCells_some W.drew 1 i ⟨g, 0, none⟩ i n (xs.take i) (by rw [List.length_take]; omega) (fun q v hq => by
        rw [addr_addT, Nat.zero_add]
        rw [List.getElem?_take] at hq
        split at hq
        · exact (cell_of_row W g _ _ _ _ hgW).trans (hcx q v hq)
        · cases hq)
    have h := Lib.run_append_grow_zeros (P := Try.prog) W 81 3 3 61 i0 Z .i64 .i64 Try.underlying81 Try.underlying3 hi0 hz0 (some ⟨g, 0, none⟩) i n (xs.take i) hold m (by omega) (by omega) (by omega) (by omega) (by rw [hz2]; omega) (by rw [hz2]; exact growslice_fits (by omega) (by omega))
    have hit : i + m = t := by omega
    rw [hit] at h
    refine ⟨grownCap W t n 61, _, grownCap_ge W _ _ _, grownCap_le_maxLen W t n 61 (by unfold maxLen; omega), ?_, ?_, fun ty => h⟩
    · have := grownCap_ge W t n 61
      simp only [Array.size_append, List.size_toArray, List.length_take, hxl, zero_size, hZs]; omega
    · simp only [Array.toList_append, List.append_assoc]
      rw [List.take_left' (by rw [List.length_take, hxl]; omega)]
  have w1 : IntKind.i64.wrap ((i : Int) + 2) = (k : Int) := by rw [IntKind.wrap_i64]; omega
  have w2 : IntKind.i64.wrap ((k : Int) + (d : Int)) = (t : Int) := by rw [IntKind.wrap_i64]; omega
  have w3 : IntKind.i64.wrap ((t : Int) - (i : Int)) = (m : Int) := by rw [IntKind.wrap_i64]; omega
  have q1 := fun W => kslice_mid g n n i j (by omega) (by omega) (by omega) W
  have b1 : ¬ (i : Int) = (j : Int) := by omega
  have b2 : ¬ (j : Int) = (n : Int) := by omega
  have b3 : (i : Int) ≤ (n : Int) := by omega
  have b4 : (j : Int) ≤ (n : Int) := by omega
  have b5 : (n : Int) < (t : Int) := by omega
  have b8 : (k : Int) ≤ (t : Int) := by omega
  have b9 : (i : Int) ≤ (t : Int) := by omega
  have s1 : ¬ (n = i) := by omega
  have s2 : ¬ (n = j) := by omega
  have HKD : Hid (t - k = d) := Lib.hid (by omega)
  have HNJ : Hid (n - j = d) := Lib.hid hd
  have HTI : Hid (2 ≤ t - i) := Lib.hid (by omega)
  have HTI2 : Hid (t - i = m) := Lib.hid (by omega)
  have HIK : Hid (k = i + 2) := Lib.hid hk
  have HRZ := Lib.hid hrz
  have HG := Lib.hid hg
  have HX := Lib.hid hgx
  have HXL := Lib.hid hxl
  have HDL := Lib.hid hdl
  have HCX := Lib.hid hcx
  have HSZ := Lib.hid hsz
  have HLEN : Hid ((xs.take i ++ (ys ++ xs.drop j)).length = t * 1) := Lib.hid (by simp only [List.length_append, List.length_take, hyl, hdl, hxl]; omega)
  have hgl : g < w.heap.size := (Array.getElem?_eq_some_iff.1 hg).1
  have hxl2 : gx < w.heap.size := (Array.getElem?_eq_some_iff.1 hgx).1
  have H1C := Lib.hid h1c
  have H1Y := Lib.hid h1y
  have HYL := Lib.hid hyl
  have HKT : Hid (k + d = t) := Lib.hid (by omega)
  clear hrz hg hgx hcs hxs hcx h1c h1y hsz hi0 hz0 hz1 hz2 hZ hZs hdl hj hk ht hxl hyl
  go_enter Try.func70, Try.ntmps70
  go_upto_region 9 with fail
  refine wp_region_det 12 (by kernel_rfl) (by kernel_rfl) (by kernel_rfl) ?_
  simp only [List.take_succ_cons, List.take_zero, List.drop_succ_cons, List.drop_zero]
  iterate 12 (apply wpDet_plain _ rfl; (focus (intro W hW; go_simp; exact ⟨rfl, Below.refl _ _⟩)); simp only [Act.put, List.setIfInBounds_toArray, List.set_cons_zero, List.set_cons_succ])
  refine wpDet_nil ?_
  intro W0 hW0
  have g0 : W0.heap[g]? = some (.cells cur 61 (0, 0)) := (hW0.block g hgl).trans HG.out
  have x0 : W0.heap[gx]? = some (.cells ys.toArray 61 (0, 0)) := (hW0.block gx hxl2).trans HX.out
  obtain ⟨G, ROW, hGt, hGm, hRs, hRt, hrun⟩ := HRZ.out W0 g0
  have hNw := hW0.size
  have hb1 : Below W0.heap.size W0 (W0.drew.alloc (.cells ROW 61)) := (Below.drew (Below.refl _ _)).alloc (Nat.le_refl _) _
  have z1 : (W0.drew.alloc (.cells ROW 61)).heap[W0.heap.size]? = some (.cells ROW 61 (0, 0)) := heap_alloc_new W0.drew _
  obtain ⟨N, hN⟩ : ∃ N, W0.heap.size = N := ⟨_, rfl⟩
  obtain ⟨W1, hW1⟩ : ∃ V, W0.drew.alloc (.cells ROW 61) = V := ⟨_, rfl⟩
  rw [hN] at z1
  rw [hW1] at hb1 z1 hrun
  rw [hN] at hrun
  have g1 := (hb1.block g (Array.getElem?_eq_some_iff.1 g0).1).trans g0
  have x1 := (hb1.block gx (Array.getElem?_eq_some_iff.1 x0).1).trans x0
  have hNg : g ≠ N := by have := (Array.getElem?_eq_some_iff.1 g0).1; omega
  have hNx : gx ≠ N := by have := (Array.getElem?_eq_some_iff.1 x0).1; omega
  have HB1 := Lib.hid (below_stepE hW0 hW0.size hb1)
  obtain ⟨c2, hc2⟩ : ∃ c2, (ROW.toList.take i ++ ys ++ ROW.toList.drop (i + ys.length)).toArray = c2 := ⟨_, rfl⟩
  have hkt := HKT.out
  have hik := HIK.out
  have hc2s : c2.size = G := by
    rw [← hc2]
    simp only [List.size_toArray, List.length_append, List.length_take, List.length_drop, Array.length_toList, hRs, HYL.out]; omega
  have hc2t : c2.toList.take k = xs.take i ++ ys := by
    rw [← hc2, List.toList_toArray, hRt, List.take_left' (by rw [List.length_append, List.length_take, HXL.out, HYL.out]; omega)]
  have hcpA : ∀ ty dl dc, 2 ≤ dl → (Builtin.copy_ #[81, 81] ty #[.slice (some ⟨N, i, none⟩) dl dc, .slice (some ⟨gx, 0, none⟩) 2 2]).run Try.prog W1 = .ok (goInt ((2 : Nat) : Int)) (W1.setRow N c2) := fun ty dl dc hdl => by
    have := run_copy_rowK (P := Try.prog) W1 81 81 ty 61 1 N i dl dc ⟨gx, 0, none⟩ 2 2 ROW 61 ys 2 Try.underlying81 HSZ.out z1 (by simp only [Nat.min_def]; split <;> omega) (by rw [HYL.out]) (fun q v hq => by
      rw [addr_addT, cell_of_row W1 gx _ _ _ _ x1, Nat.zero_add]
      simpa using hq) (by rw [hRs, HYL.out]; omega) H1Y.out
    rw [this, hc2]
  have z2 := setRow_heap W1 N ROW c2 _ _ z1
  have g2 := (setRow_other W1 N g c2 hNg).trans g1
  have hbW2 : Below w.heap.size w (W1.setRow N c2) := ⟨HB1.out.os, HB1.out.tape, HB1.out.output, by simp [World.setRow]; exact HB1.out.size, fun b hb => (setRow_other W1 N b c2 (by omega)).trans (HB1.out.block b hb)⟩
  obtain ⟨W2, hW2⟩ : ∃ V, W1.setRow N c2 = V := ⟨_, rfl⟩
  rw [hW2] at hcpA z2 g2 hbW2
  obtain ⟨c3, hc3⟩ : ∃ c3, (c2.toList.take k ++ xs.drop j ++ c2.toList.drop (k + (xs.drop j).length)).toArray = c3 := ⟨_, rfl⟩
  have hfin : c3.size = G ∧ c3.toList.take (t * 1) = xs.take i ++ (ys ++ xs.drop j) := by
    constructor
    · rw [← hc3]
      simp only [List.size_toArray, List.length_append, List.length_take, List.length_drop, Array.length_toList, hc2s, HXL.out]
      have := HNJ.out
      omega
    · rw [← hc3, List.toList_toArray, hc2t, List.append_assoc (xs.take i), List.take_left' HLEN.out]
  have HCB : Hid (∀ W, Below W2.heap.size W2 W → (∀ ty dl dc sl sc, dl = d → sl = d → (Builtin.copy_ #[81, 81] ty #[.slice (some ⟨N, k, none⟩) dl dc, .slice (some ⟨g, j, none⟩) sl sc]).run Try.prog W = .ok (goInt ((d : Nat) : Int)) (W.setRow N c3)) ∧ (W.setRow N c3).ownsRow base 61 1 (.slice (some ⟨N, 0, none⟩) t G) t (xs.take i ++ (ys ++ xs.drop j)) ∧ w.grownBy (W.setRow N c3) (some g)) := Lib.hid (fun W hW => by
    have zW : W.heap[N]? = some (.cells c2 61 (0, 0)) := (hW.block N (Array.getElem?_eq_some_iff.1 z2).1).trans z2
    have gW : W.heap[g]? = some (.cells cur 61 (0, 0)) := (hW.block g (Array.getElem?_eq_some_iff.1 g2).1).trans g2
    have hbW := below_stepE hbW2 hbW2.size hW
    refine ⟨fun ty dl dc sl sc hdl hsl => ?_, ⟨HLEN.out, .inr ⟨N, G, c3, rfl, by omega, setRow_heap W N c2 c3 _ _ zW, hGt, hGm, by rw [hfin.1, Nat.mul_one], hfin.2⟩⟩, hbW.os, hbW.tape, hbW.output, by simp [World.setRow]; exact hbW.size, fun b hb hne => ?_⟩
    · have := run_copy_rowK (P := Try.prog) W 81 81 ty 61 1 N k dl dc ⟨g, j, none⟩ sl sc c2 61 (xs.drop j) d Try.underlying81 HSZ.out zW (by simp only [Nat.min_def]; split <;> omega) (by rw [HDL.out]; omega) (fun q v hq => by
        rw [addr_addT, cell_of_row W g _ _ _ _ gW]
        rw [List.getElem?_drop] at hq
        exact HCX.out _ v hq) (by rw [HDL.out, hc2s]; omega) (fun v hv => H1C.out v (List.mem_of_mem_drop hv))
      rw [this, hc3]
    · rw [setRow_other _ N b _ (by omega)]
      exact hbW.block b hb)
  have s4 : ¬ (G = i) := by omega
  have s5 : ¬ (G = k) := by omega
  have HRUN := Lib.hid hrun
  have HCA := Lib.hid hcpA
  have HNW : Hid (w.heap.size ≤ N) := Lib.hid (by omega)
  clear hW0 g0 x0 hRs hRt hrun hb1 z1 hW1 g1 x1 hc2 hc2s hc2t hcpA z2 g2 hbW2 hW2 hc3 hfin HRZ HG HX HXL HDL HCX HSZ H1C H1Y HYL hik hkt HIK
  have hti := HTI.out
  go_upto_region 12 with (first | (at_builtin; refine Lib.wpList_append_run _ rfl _ _ _ _ rfl _ _ rfl rfl _ _ (HRUN.out _) ?_) | fail)
  go_upto_region 13 with (simp only [HCA.out 3 (t - i) (G - i) hti])
  refine wp_region_det 9 (by kernel_rfl) (by kernel_rfl) (by kernel_rfl) ?_
  simp only [List.take_succ_cons, List.take_zero, List.drop_succ_cons, List.drop_zero]
  iterate 9 (apply wpDet_plain _ rfl; (focus (intro W hW; go_simp; exact ⟨rfl, Below.refl _ _⟩)); simp only [Act.put, List.setIfInBounds_toArray, List.set_cons_zero, List.set_cons_succ])
  refine wpDet_nil ?_
  intro W hW
  have HK := (HCB.out W hW).1
  have HE := Lib.hid (HCB.out W hW).2
  have hkd := HKD.out
  have hnj := HNJ.out
  clear HCA HCB HRUN hW
  go_wp2_with (first | (at_builtin; refine wpList_copy_runI _ rfl _ _ 81 81 rfl _ _ rfl rfl (HK _ _ _ _ _ (by first | rfl | omega) (by first | rfl | omega)) ?_) | fail)
  go_ret
  exact ⟨_, rfl, HE.out.1, HE.out.2, .inr ⟨HNW.out, rfl⟩⟩
end Go.Proofs.Ytopgakdgifmecaa

/-! CONTRACTS of package slices' functions over rows of entries and of kids: Clone. CONDITIONS: each theorem's own hypotheses. -/
namespace Go.Proofs.Ytopgakdgifmecaa
open Go.RowKit
set_option linter.unusedVariables false
set_option maxRecDepth 100000

set_option maxHeartbeats 4000000 in
/-- slices.Clone of a part of a row: a row of the call's own. -/
theorem clone_e (b o m c : Nat) (xs : List Value) (w : World) (hm : m ≤ 1000) (hxl : xs.length = m * 2) (hx : ∀ j v, xs[j]? = some v → w.cell? ⟨b, o + j, none⟩ = some v) (h1 : ∀ v ∈ xs, v.oneCell' = true) :
    Calls Try.prog 74 #[.slice (some ⟨b, o, none⟩) m c] w fun e w' => ∃ v', e = .returned v' ∧ w'.ownsRow w.heap.size 73 2 v' m xs ∧ Below w.heap.size w w' := by
  obtain ⟨i0, hi0, hz0, hz1, hz2⟩ := info_parts infoEn
  have hba := (Below.refl w.heap.size w).alloc (Nat.le_refl _) (.cells #[] 73)
  have z0 : (w.alloc (.cells #[] 73)).heap[w.heap.size]? = some (.cells #[] 73 (0, 0)) := heap_alloc_new w _
  have hown : (w.alloc (.cells #[] 73)).ownsRow w.heap.size 73 2 (.slice (some ⟨w.heap.size, 0, none⟩) 0 0) 0 [] := ⟨by simp, .inr ⟨w.heap.size, 0, #[], rfl, Nat.le_refl _, z0, Nat.le_refl _, by unfold maxLen; omega, by simp, by simp⟩⟩
  have hsz : (w.alloc (.cells #[] 73)).heap.size = w.heap.size + 1 := by simp
  have hcell : ∀ j v, xs[j]? = some v → (w.alloc (.cells #[] 73)).cell? ((⟨b, o, none⟩ : Addr).add j) = some v := fun j v hj => by
    have hc := hx j v hj
    rw [addr_addT, hba.cell (p := ⟨b, o + j, none⟩) (World.block_lt_of_cell? w _ hc)]
    exact hc
  obtain ⟨w1, hw1⟩ : ∃ V, w.alloc (.cells #[] 73) = V := ⟨_, rfl⟩
  rw [hw1] at hba hown hsz hcell
  have HW1 := Lib.hid hw1
  have HO := Lib.hid hown
  have HC := Lib.hid hcell
  have HB := Lib.hid hba
  have hbs : w.heap.size ≤ w1.heap.size := by omega
  have hmz : ¬ ((m : Int) = -1) := by omega
  have hbb : 0 + m ≤ maxLen := by unfold maxLen; omega
  have hby : (0 + m) * 24 ≤ 140737488355328 := by omega
  clear hw1 hba hown hsz hcell z0 hx
  have hq := fun W => Lib.run_eql_slice_nil (P := Try.prog) W 80 73 (some ⟨b, o, none⟩) m c 0 0 Try.underlying80
  go_enter Try.func74, Try.ntmps74
  go_wp2_with (first | (at_builtin; rw [HW1.out]; refine wpList_append_own_at _ rfl (.tmp 5) (.tmp 6) 80 rfl w.heap.size 73 i0 _ 2 24 Try.underlying80 hi0 hz0 hz1 hz2 rfl (by decide) (.slice (some ⟨w.heap.size, 0, none⟩) 0 0) 0 [] rfl HO.out ⟨b, o, none⟩ m c xs rfl hxl HC.out h1 hbb hby hbs ?_; intro v' w' ho hg _ hw; have HE := Lib.hid (And.intro ho (HB.out.grown hg hbs (fun k hk => by cases hk; exact Nat.le_refl _))); clear ho hg hw) | fail)
  go_ret
  obtain ⟨q1, q2⟩ := HE.out
  rw [Nat.zero_add, List.nil_append] at q1
  exact ⟨_, rfl, q1, q2⟩
set_option maxHeartbeats 4000000 in
/-- slices.Clone of a part of a row: a row of the call's own. -/
theorem clone_k (b o m c : Nat) (xs : List Value) (w : World) (hm : m ≤ 1000) (hxl : xs.length = m * 1) (hx : ∀ j v, xs[j]? = some v → w.cell? ⟨b, o + j, none⟩ = some v) (h1 : ∀ v ∈ xs, v.oneCell' = true) :
    Calls Try.prog 75 #[.slice (some ⟨b, o, none⟩) m c] w fun e w' => ∃ v', e = .returned v' ∧ w'.ownsRow w.heap.size 61 1 v' m xs ∧ Below w.heap.size w w' := by
  obtain ⟨i0, hi0, hz0, hz1, hz2⟩ := info_parts infoKid
  have hba := (Below.refl w.heap.size w).alloc (Nat.le_refl _) (.cells #[] 61)
  have z0 : (w.alloc (.cells #[] 61)).heap[w.heap.size]? = some (.cells #[] 61 (0, 0)) := heap_alloc_new w _
  have hown : (w.alloc (.cells #[] 61)).ownsRow w.heap.size 61 1 (.slice (some ⟨w.heap.size, 0, none⟩) 0 0) 0 [] := ⟨by simp, .inr ⟨w.heap.size, 0, #[], rfl, Nat.le_refl _, z0, Nat.le_refl _, by unfold maxLen; omega, by simp, by simp⟩⟩
  have hsz : (w.alloc (.cells #[] 61)).heap.size = w.heap.size + 1 := by simp
  have hcell : ∀ j v, xs[j]? = some v → (w.alloc (.cells #[] 61)).cell? ((⟨b, o, none⟩ : Addr).add j) = some v := fun j v hj => by
    have hc := hx j v hj
    rw [addr_addT, hba.cell (p := ⟨b, o + j, none⟩) (World.block_lt_of_cell? w _ hc)]
    exact hc
  obtain ⟨w1, hw1⟩ : ∃ V, w.alloc (.cells #[] 61) = V := ⟨_, rfl⟩
  rw [hw1] at hba hown hsz hcell
  have HW1 := Lib.hid hw1
  have HO := Lib.hid hown
  have HC := Lib.hid hcell
  have HB := Lib.hid hba
  have hbs : w.heap.size ≤ w1.heap.size := by omega
  have hmz : ¬ ((m : Int) = -1) := by omega
  have hbb : 0 + m ≤ maxLen := by unfold maxLen; omega
  have hby : (0 + m) * 8 ≤ 140737488355328 := by omega
  clear hw1 hba hown hsz hcell z0 hx
  have hq := fun W => Lib.run_eql_slice_nil (P := Try.prog) W 81 61 (some ⟨b, o, none⟩) m c 0 0 Try.underlying81
  go_enter Try.func75, Try.ntmps75
  go_wp2_with (first | (at_builtin; rw [HW1.out]; refine wpList_append_own_at _ rfl (.tmp 5) (.tmp 6) 81 rfl w.heap.size 61 i0 _ 1 8 Try.underlying81 hi0 hz0 hz1 hz2 rfl (by decide) (.slice (some ⟨w.heap.size, 0, none⟩) 0 0) 0 [] rfl HO.out ⟨b, o, none⟩ m c xs rfl hxl HC.out h1 hbb hby hbs ?_; intro v' w' ho hg _ hw; have HE := Lib.hid (And.intro ho (HB.out.grown hg hbs (fun k hk => by cases hk; exact Nat.le_refl _))); clear ho hg hw) | fail)
  go_ret
  obtain ⟨q1, q2⟩ := HE.out
  rw [Nat.zero_add, List.nil_append] at q1
  exact ⟨_, rfl, q1, q2⟩
end Go.Proofs.Ytopgakdgifmecaa

/-! CONTRACTS of package slices' functions over rows of entries and of kids, as the tree needs them. CONDITIONS: each theorem's own hypotheses. -/
namespace Go.Proofs.Ytopgakdgifmecaa
open Go.RowKit
set_option linter.unusedVariables false
set_option maxRecDepth 100000

/-- A row that was changed: nothing else moves, and it lies where it lay, or in a new block. -/
structure RowOk (w w' : World) (v v' : Value) : Prop where
  grown : w.grownBy w' v.ownBlock
  own : ∀ b, v'.ownBlock = some b → v.ownBlock = some b ∨ w.heap.size ≤ b
theorem cellsE_oneT (l : List En) : ∀ v ∈ cellsE l, v.oneCell' = true := fun u hu => by
  unfold cellsE at hu
  obtain ⟨x, _, hx⟩ := List.mem_flatMap.1 hu
  simp [cellsE1] at hx
  rcases hx with rfl | rfl <;> rfl
theorem cellsE_take (l : List En) (i : Nat) : (cellsE l).take (i * 2) = cellsE (l.take i) := by
  have h := cellsE_append (l.take i) (l.drop i)
  rw [List.take_append_drop] at h
  by_cases hi : i ≤ l.length
  · rw [h, List.take_left' (by rw [cellsE_length, List.length_take]; omega)]
  · rw [List.take_of_length_le (by rw [cellsE_length]; omega), List.take_of_length_le (l := l) (by omega)]
theorem cellsE_drop (l : List En) (i : Nat) : (cellsE l).drop (i * 2) = cellsE (l.drop i) := by
  have h := cellsE_append (l.take i) (l.drop i)
  rw [List.take_append_drop] at h
  by_cases hi : i ≤ l.length
  · rw [h, List.drop_left' (by rw [cellsE_length, List.length_take]; omega)]
  · rw [List.drop_of_length_le (by rw [cellsE_length]; omega), List.drop_of_length_le (l := l) (by omega)]; rfl
theorem insertE_any (v : Value) (l : List En) (i gx : Nat) (x : En) (w : World) (hl : l.length ≤ 1000) (hi : i ≤ l.length) (hown : OwnE w 0 v l) (hx : Blk w gx 73 (cellsE1 x)) (hne : v.ownBlock ≠ some gx) :
    Calls Try.prog 60 #[v, .int .i64 (i : Int), .slice (some ⟨gx, 0, none⟩) 1 1] w fun e w' => ∃ v', e = .returned v' ∧ OwnE w' 0 v' (l.take i ++ x :: l.drop i) ∧ RowOk w w' v v' := by
  have h1y : ∀ v ∈ cellsE1 x, v.oneCell' = true := fun u hu => by
    simp [cellsE1] at hu
    rcases hu with rfl | rfl <;> rfl
  have hlen : (l.take i ++ x :: l.drop i).length = l.length + 1 := by simp only [List.length_append, List.length_cons, List.length_take, List.length_drop]; omega
  have hcells : cellsE (l.take i ++ x :: l.drop i) = (cellsE l).take (i * 2) ++ (cellsE1 x ++ (cellsE l).drop (i * 2)) := by
    rw [cellsE_append, cellsE_take, cellsE_drop]; rfl
  by_cases hin : i = l.length
  · subst hin
    refine (insert_end_e v l.length gx 0 (cellsE l) (cellsE1 x) w hl hown hx rfl (Nat.zero_le _) h1y).mono ?_
    rintro e w' ⟨v', rfl, h1, h2, h3⟩
    refine ⟨v', rfl, ?_, h2, fun b hb => ?_⟩
    · unfold OwnE
      rw [hlen, hcells, List.take_of_length_le (by rw [cellsE_length]; omega), List.drop_of_length_le (by rw [cellsE_length]; omega), List.append_nil]
      exact h1
    · rcases h3 with h3 | h3
      · left; rw [← h3]; exact hb
      · right; rw [h3] at hb; cases hb; exact Nat.le_refl _
  · have hlt : i < l.length := by omega
    rcases id hown.2 with ⟨_, h0⟩ | ⟨g, cap, cur, rfl, q1, q2, q3, q4, q5, q6⟩
    · omega
    have hg : gx ≠ g := fun e => hne (by rw [e]; rfl)
    have h1c : ∀ v ∈ cur.toList.take (l.length * 2), v.oneCell' = true := by rw [q6]; exact cellsE_oneT l
    have hc63 : cap ≤ 9223372036854775807 := by unfold maxLen at q4; omega
    have hgl : g < w.heap.size := (Array.getElem?_eq_some_iff.1 q2).1
    by_cases hroom : l.length + 1 ≤ cap
    · refine (insert_shift_e g cap i l.length gx 0 cur (cellsE1 x) w hlt hroom hc63 hl q2 q5 hx rfl hg (Nat.zero_le _) h1c h1y).mono ?_
      rintro e w' ⟨v', rfl, h1, h2, h3⟩
      rw [q6] at h1
      refine ⟨v', rfl, ?_, h2, fun b hb => ?_⟩
      · unfold OwnE; rw [hlen, hcells]; exact h1
      · rcases h3 with h3 | h3
        · left; rw [h3] at hb; exact hb
        · right; rw [h3] at hb; cases hb; exact Nat.le_refl _
    · refine (insert_grow_e g cap i l.length gx 0 cur (cellsE1 x) w hlt q3 (by omega) hl q2 q5 hx rfl (Nat.zero_le _) h1c h1y).mono ?_
      rintro e w' ⟨v', rfl, h1, h2, h3⟩
      rw [q6] at h1
      refine ⟨v', rfl, ?_, h2, fun b hb => ?_⟩
      · unfold OwnE; rw [hlen, hcells]; exact h1
      · rcases h3 with h3 | h3
        · left; rw [h3] at hb; exact hb
        · right; rw [h3] at hb; cases hb; exact Nat.le_refl _
theorem kids_one (ps : List Nat) : ∀ v ∈ ps.map ptrV, v.oneCell' = true := fun u hu => by
  obtain ⟨p, _, rfl⟩ := List.mem_map.1 hu
  rfl
theorem replaceK_any (v : Value) (ps : List Nat) (i gx a b : Nat) (w : World) (hl : ps.length ≤ 1000) (hi : i < ps.length) (hown : OwnK w 0 v ps) (hx : Blk w gx 61 [ptrV a, ptrV b]) (hne : v.ownBlock ≠ some gx) :
    Calls Try.prog 70 #[v, .int .i64 (i : Int), .int .i64 ((i + 1 : Nat) : Int), .slice (some ⟨gx, 0, none⟩) 2 2] w fun e w' => ∃ v', e = .returned v' ∧ OwnK w' 0 v' (ps.take i ++ a :: b :: ps.drop (i + 1)) ∧ RowOk w w' v v' := by
  have h1y : ∀ v ∈ [ptrV a, ptrV b], v.oneCell' = true := kids_one [a, b]
  have hlen : (ps.take i ++ a :: b :: ps.drop (i + 1)).length = ps.length + 1 := by simp only [List.length_append, List.length_cons, List.length_take, List.length_drop]; omega
  have hcells : (ps.take i ++ a :: b :: ps.drop (i + 1)).map ptrV = (ps.map ptrV).take i ++ ([ptrV a, ptrV b] ++ (ps.map ptrV).drop (i + 1)) := by
    rw [List.map_append, List.map_take, List.map_cons, List.map_cons, List.map_drop]; rfl
  rcases id hown.2 with ⟨_, h0⟩ | ⟨g, cap, cur, rfl, q1, q2, q3, q4, q5, q6⟩
  · omega
  rw [Nat.mul_one] at q5 q6
  have hg : gx ≠ g := fun e => hne (by rw [e]; rfl)
  have h1c : ∀ v ∈ cur.toList.take ps.length, v.oneCell' = true := by rw [q6]; exact kids_one ps
  have hc63 : cap ≤ 9223372036854775807 := by unfold maxLen at q4; omega
  by_cases hin : i + 1 = ps.length
  · rw [hin]
    refine (replace_end_k g cap i ps.length gx 0 hin.symm (ps.map ptrV) [ptrV a, ptrV b] w (by omega) hown hx rfl (Nat.zero_le _) h1y).mono ?_
    rintro e w' ⟨v', rfl, h1, h2, h3⟩
    refine ⟨v', rfl, ?_, h2, fun b hb => ?_⟩
    · unfold OwnK
      rw [hin] at hlen hcells
      rw [hlen, hcells, List.drop_of_length_le (by rw [List.length_map]; omega), List.append_nil, ← hin]
      exact h1
    · rcases h3 with h3 | h3
      · left; rw [h3] at hb; exact hb
      · right; rw [h3] at hb; cases hb; exact Nat.le_refl _
  · by_cases hroom : ps.length + 1 ≤ cap
    · refine (replace_room_k g cap i (i + 1) ps.length (i + 2) (ps.length + 1) (ps.length - (i + 1)) gx 0 rfl rfl rfl rfl (by omega) cur [ptrV a, ptrV b] w hroom hc63 hl q2 q5 hx rfl hg (Nat.zero_le _) h1c h1y).mono ?_
      rintro e w' ⟨v', rfl, h1, h2, h3⟩
      rw [q6] at h1
      refine ⟨v', rfl, ?_, h2, fun b hb => ?_⟩
      · unfold OwnK; rw [hlen, hcells]; exact h1
      · rcases h3 with h3 | h3
        · left; rw [h3] at hb; exact hb
        · right; rw [h3] at hb; cases hb; exact Nat.le_refl _
    · obtain rfl : cap = ps.length := by omega
      refine (replace_grow_k g i (i + 1) ps.length (i + 2) (ps.length + 1) (ps.length - (i + 1)) (ps.length + 1 - i) gx 0 rfl rfl rfl rfl (by omega) (by omega) cur [ptrV a, ptrV b] w hl q2 q5 hx rfl (Nat.zero_le _) h1c h1y).mono ?_
      rintro e w' ⟨v', rfl, h1, h2, h3⟩
      rw [q6] at h1
      refine ⟨v', rfl, ?_, h2, fun b hb => ?_⟩
      · unfold OwnK; rw [hlen, hcells]; exact h1
      · rcases h3 with h3 | ⟨h3, h4⟩
        · left; rw [h3] at hb; exact hb
        · right
          rw [hb] at h3
          exact h3
/-! ### what may change -/
/-- Only the blocks of F may have changed. -/
structure Chg (F : List Nat) (w w' : World) : Prop where
  os : w'.os = w.os
  tape : w'.tape = w.tape
  output : w'.output = w.output
  size : w.heap.size ≤ w'.heap.size
  block : ∀ b, b < w.heap.size → b ∉ F → w'.heap[b]? = w.heap[b]?
theorem Chg.refl (F : List Nat) (w : World) : Chg F w w := ⟨rfl, rfl, rfl, Nat.le_refl _, fun _ _ _ => rfl⟩
theorem Chg.trans {F G : List Nat} {a b c : World} (h : Chg F a b) (k : Chg G b c) (hG : ∀ x ∈ G, x ∈ F ∨ a.heap.size ≤ x) : Chg F a c := ⟨k.os.trans h.os, k.tape.trans h.tape, k.output.trans h.output, Nat.le_trans h.size k.size, fun x hx hf => (k.block x (Nat.lt_of_lt_of_le hx h.size) (fun hg => by
  rcases hG x hg with h1 | h1
  · exact hf h1
  · omega)).trans (h.block x hx hf)⟩
theorem Chg.ofBelow {w w' : World} (F : List Nat) (h : Below w.heap.size w w') : Chg F w w' := ⟨h.os, h.tape, h.output, h.size, fun b hb _ => h.block b hb⟩
theorem Chg.ofGrown {w w' : World} {row : Option Nat} (F : List Nat) (h : w.grownBy w' row) (hr : ∀ b, row = some b → b ∈ F) : Chg F w w' := ⟨h.os, h.tape, h.output, h.size, fun b hb hf => h.block b hb (fun e => hf (hr b e.symm))⟩
theorem Chg.below {w w' : World} {F : List Nat} {B : Nat} (h : Chg F w w') (hF : ∀ b ∈ F, B ≤ b) (hB : B ≤ w.heap.size) : Below B w w' := ⟨h.os, h.tape, h.output, h.size, fun b hb => h.block b (by omega) (fun hf => by have := hF b hf; omega)⟩
theorem Chg.mono {w w' : World} {F G : List Nat} (h : Chg F w w') (hs : ∀ b ∈ F, b ∈ G) : Chg G w w' := ⟨h.os, h.tape, h.output, h.size, fun b hb hg => h.block b hb (fun hf => hg (hs b hf))⟩
theorem Chg.setCell {F : List Nat} {w : World} (p : Addr) (v : Value) (hp : p.block ∈ F) : Chg F w (w.setCell p v) := ⟨rfl, rfl, rfl, by simp [World.setCell], fun b _ hf => heap_setCell_other w p b v (fun e => hf (by rw [e]; exact hp))⟩
theorem NdL.app {w : World} : ∀ {a b : List Tr} {pa pb Fa Fb : List Nat}, NdL w a pa Fa → NdL w b pb Fb → NdL w (a ++ b) (pa ++ pb) (Fa ++ Fb)
  | [], b, pa, pb, Fa, Fb, h, k => by
    simp only [NdL] at h
    obtain ⟨rfl, rfl⟩ := h
    exact k
  | t :: a, b, pa, pb, Fa, Fb, h, k => by
    simp only [NdL] at h
    obtain ⟨p, ps', F1, F2, rfl, rfl, h1, h2⟩ := h
    simp only [List.cons_append, NdL]
    exact ⟨p, ps' ++ pb, F1, F2 ++ Fb, rfl, by rw [List.append_assoc], h1, NdL.app h2 k⟩
theorem NdL.one {w : World} {t : Tr} {p : Nat} {F : List Nat} (h : NdT w t p F) : NdL w [t] [p] F := by
  simp only [NdL]
  exact ⟨p, [], F, [], rfl, by simp, h, rfl, rfl⟩
/-- The kids ahead of one, it, and those behind it. -/
theorem NdL.split {w : World} : ∀ {ts : List Tr} {ps F : List Nat}, NdL w ts ps F → ∀ {i : Nat} {t : Tr}, ts[i]? = some t → ∃ p A G B, ps[i]? = some p ∧ F = A ++ (G ++ B) ∧ NdL w (ts.take i) (ps.take i) A ∧ NdT w t p G ∧ NdL w (ts.drop (i + 1)) (ps.drop (i + 1)) B
  | [], ps, F, h, i, t, hi => by simp at hi
  | x :: ts, ps, F, h, 0, t, hi => by
    simp only [NdL] at h
    obtain ⟨p, ps', F1, F2, rfl, rfl, h1, h2⟩ := h
    simp at hi; subst hi
    exact ⟨p, [], F1, F2, rfl, by simp, NdL.nil w, h1, h2⟩
  | x :: ts, ps, F, h, i + 1, t, hi => by
    simp only [NdL] at h
    obtain ⟨p, ps', F1, F2, rfl, rfl, h1, h2⟩ := h
    obtain ⟨q, A, G, B, e1, e2, e3, e4, e5⟩ := NdL.split h2 (by simpa using hi)
    refine ⟨q, F1 ++ A, G, B, by simpa using e1, by rw [e2, List.append_assoc], ?_, e4, e5⟩
    simp only [List.take_succ_cons, NdL]
    exact ⟨p, ps'.take i, F1, A, rfl, rfl, h1, e3⟩
end Go.Proofs.Ytopgakdgifmecaa
