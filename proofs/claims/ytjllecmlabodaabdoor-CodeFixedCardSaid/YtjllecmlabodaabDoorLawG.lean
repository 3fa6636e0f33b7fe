/-
  THE WALKS of the laws 'chirographkeep.CodeBack' and 'CodeFixed', and the contract of codeTells.
  CONDITIONS: package unicode/utf8's two tables hold what their initialisers lay ('Tabs').
-/
import Derived.Test.YtjllecmlabodaabDoorCodeI
namespace Go.Proofs.YtjllecmlabodaabDoor
open Go.RowKit CodeMath
set_option linter.unusedVariables false

/-- Where values lie. -/
def LiesAt (w : World) (ao : Option Addr) (l : List V) : Prop := l = [] ∨ ∃ a o, ao = some ⟨a, o, none⟩ ∧ a < w.heap.size ∧ Lies w a o l
theorem LiesAt.keep {w w1 : World} {ao : Option Addr} {l : List V} (h : LiesAt w ao l) (hb : Below w.heap.size w w1) : LiesAt w1 ao l := by
  rcases h with h | ⟨a, o, h1, h2, h3⟩
  · exact .inl h
  · refine .inr ⟨a, o, h1, Nat.lt_of_lt_of_le h2 hb.size, fun j v hv => ?_⟩
    obtain ⟨c0, c1, c2, c3⟩ := h3 j v hv
    exact ⟨(hb.cell (p := ⟨a, _, none⟩) h2).trans c0, (hb.cell (p := ⟨a, _, none⟩) h2).trans c1, (hb.cell (p := ⟨a, _, none⟩) h2).trans c2, (hb.cell (p := ⟨a, _, none⟩) h2).trans c3⟩
theorem OwnV.lies {w : World} {base : Nat} {v : Value} {l : List V} (h : OwnV w base v l) : ∃ ao cap, v = .slice ao l.length cap ∧ l.length ≤ cap ∧ cap ≤ 9223372036854775807 ∧ LiesAt w ao l := by
  obtain ⟨ao, cap, h1, h2, h3, h4⟩ := h.shape
  refine ⟨ao, cap, h1, h2, h3, ?_⟩
  rcases h4 with h4 | ⟨a, e, _, h5, h6⟩
  · exact .inl h4
  · exact .inr ⟨a, 0, e, h5, h6⟩
theorem OwnB.bytes {w : World} {base : Nat} {v : Value} {l : List UInt8} (h : OwnB w base v l) : ∃ ao cap, v = .slice ao l.length cap ∧ l.length ≤ cap ∧ cap ≤ 9223372036854775807 ∧ Bytes w ao l := by
  rcases Nat.eq_zero_or_pos l.length with h0 | h0
  · rcases h.2 with ⟨rfl, _⟩ | ⟨g, cap, cur, rfl, _, _, h1, h2, _⟩
    · exact ⟨none, 0, by rw [h0], by omega, by omega, .inl (List.eq_nil_of_length_eq_zero h0)⟩
    · exact ⟨_, _, rfl, h1, by unfold maxLen at h2; omega, .inl (List.eq_nil_of_length_eq_zero h0)⟩
  · obtain ⟨g, cap, rfl, h1, h2⟩ := h.shape1 h0
    refine ⟨_, _, rfl, h1, h2, .inr ⟨g, 0, rfl, (h.lt g rfl).2, fun j x hx => ?_⟩⟩
    have hj : j < l.length := (List.getElem?_eq_some_iff.1 hx).1
    rw [Nat.zero_add, World.ownsRow.cellAt h j (by omega)]
    unfold cellsB
    rw [List.getElem?_map, hx]
    rfl
theorem Bytes.keep {w w1 : World} {ao : Option Addr} {l : List UInt8} (h : Bytes w ao l) (hb : Below w.heap.size w w1) : Bytes w1 ao l := by
  rcases h with h | ⟨a, o, h1, h2, h3⟩
  · exact .inl h
  · exact .inr ⟨a, o, h1, Nat.lt_of_lt_of_le h2 hb.size, fun j x hx => (hb.cell (p := ⟨a, o + j, none⟩) h2).trans (h3 j x hx)⟩
theorem bytes_string {w : World} {ao : Option Addr} {cap : Nat} {l : List UInt8} (h : Bytes w ao l) : (convert 23 9 (.slice ao l.length cap)).run Tryd.prog w = .ok (.string ⟨l.toArray⟩) w := by
  rcases h with rfl | ⟨a, o, rfl, h2, h3⟩
  · cases ao with
    | none => exact run_convert_bytes_nil w 23 5 Tryd.underlying23 Tryd.underlying5 0 cap 9 Tryd.underlying9
    | some a => exact run_convert_bytes_back w 23 9 5 a cap [] Tryd.underlying23 Tryd.underlying5 Tryd.underlying9 (fun j hj => by simp at hj)
  · refine run_convert_bytes_back w 23 9 5 ⟨a, o, none⟩ cap l Tryd.underlying23 Tryd.underlying5 Tryd.underlying9 (fun j hj => ?_)
    have := h3 j l[j] (List.getElem?_eq_getElem hj)
    have e : (⟨a, o, none⟩ : Addr).add j = ⟨a, o + j, none⟩ := by unfold Addr.add; split <;> simp_all
    rw [e]; exact this

/-- Values that may be. -/
def Good (l : List V) : Prop := ∀ u ∈ l, u.Fits ∧ u.chk = 0
theorem firstFault_good : ∀ l : List V, Good l → firstFault l = 0
  | [], _ => rfl
  | v :: l, h => by
    rw [firstFault_cons, if_pos (h v (by simp)).2]
    exact firstFault_good l (fun u hu => h u (by simp [hu]))
theorem encE_good (l : List V) (h : Good l) (h5 : l.length ≤ 5) : encE l = 0 := by unfold encE; rw [if_neg (by omega), firstFault_good l h]
theorem encB_good (l : List V) (down : Int) (h : Good l) (h5 : l.length ≤ 5) : encB down l = encRow (dn down) 0 (rowsOf l) := by unfold encB; rw [if_pos (encE_good l h h5)]
theorem V.val_v (v : V) : v.val.v = v := by
  cases v with
  | mk k i b s =>
    cases s with
    | mk data => simp [V.val, CodeMath.Val.v]
theorem rowsOf_v (l : List V) : (rowsOf l).map CodeMath.Val.v = l := by
  unfold rowsOf
  rw [List.map_map]
  conv => rhs; rw [← List.map_id l]
  apply List.map_congr_left
  intro v _
  exact V.val_v v
theorem rows_good (l : List V) (h : Good l) : ∀ u ∈ rowsOf l, Facts u ∧ okV u = true := by
  intro u hu
  obtain ⟨v, hv, rfl⟩ := List.mem_map.1 hu
  have := h v hv
  refine ⟨facts_of v this.1 this.2, ?_⟩
  unfold okV
  rw [V.val_v]
  simpa using this.2
theorem rows_facts (l : List V) (h : Good l) : ∀ u ∈ rowsOf l, Facts u := fun u hu => (rows_good l h u hu).1
theorem encB_len (l : List V) (down : Int) (h : Good l) (h5 : l.length ≤ 5) : (encRow (dn down) 0 (rowsOf l)).length ≤ 415 := by
  have := encRow_length (dn down) (rowsOf l) 0 (rows_facts l h)
  unfold rowsOf at this ⊢
  rw [List.length_map] at this
  omega
theorem decE_back (l : List V) (down : Int) (r : List UInt8) (h : Good l) (h5 : l.length ≤ 5) : decE (encRow (dn down) 0 (rowsOf l) ++ r) l.length down = if r = [] then .ok (rowsOf l) else .err 3 := by
  unfold decE
  rw [if_neg (by omega)]
  have := decRow_enc okV (dn down) (rowsOf l) 0 r (rows_good l h)
  have e : (rowsOf l).length = l.length := by simp [rowsOf]
  rw [e] at this
  exact this
theorem encode_good (l : List V) (ao : Option Addr) (cap : Nat) (down : Int) (w : World) (hl : LiesAt w ao l) (h : Good l) (h5 : l.length ≤ 5) (hT : Tabs w) :
    Calls Tryd.prog 10 #[.slice ao l.length cap, .int .i64 down] w fun e w' => ∃ v', e = .returned (.tuple #[v', .int .i64 0]) ∧ OwnB w' w.heap.size v' (encRow (dn down) 0 (rowsOf l)) ∧ Below w.heap.size w w' := by
  have := encode_any l ao cap down w ⟨fun v hv => (h v hv).1, hl⟩ hT
  unfold EncOk at this
  rw [encE_good l h h5, encB_good l down h h5] at this
  exact this

theorem sameRow_any (l : List V) (ao ao' : Option Addr) (cap cap' : Nat) (w : World) (hc : l.length ≤ 1000000) (hl : LiesAt w ao l) (hl' : LiesAt w ao' l) :
    Calls Tryd.prog 20 #[.slice ao l.length cap, .slice ao' l.length cap'] w fun e w' => e = .returned (.bool true) ∧ Below w.heap.size w w' := by
  rcases hl with rfl | ⟨a, o, rfl, ha, h1⟩
  · go_enter Tryd.func20, Tryd.ntmps20
    go_wp2
    refine wp_loop_rounds 1 ?_
    rw [rounds_succ]
    go_wp2
    go_ret
    exact ⟨rfl, Below.refl _ _⟩
  · rcases hl' with rfl | ⟨a', o', rfl, ha', h1'⟩
    · go_enter Tryd.func20, Tryd.ntmps20
      go_wp2
      refine wp_loop_rounds 1 ?_
      rw [rounds_succ]
      go_wp2
      go_ret
      exact ⟨rfl, Below.refl _ _⟩
    · exact sameRow_some l a o cap a' o' cap' w hc ha ha' h1 h1'

/-- The null. -/
def vNull : V := ⟨0, 0, 0, ⟨#[]⟩⟩
theorem good_null : Good [vNull] := by
  intro u hu
  rw [List.mem_singleton] at hu
  subst hu
  exact ⟨fits4 _ _ _ _ (by decide) (by decide) (by decide) (by decide) (by decide) (by decide) (by decide), chk_null⟩
theorem null_bytes : encRow (dn 0) 0 (rowsOf [vNull]) = [1] := by
  have : dn 0 0 = false := by decide
  simp only [rowsOf, List.map_cons, List.map_nil, encRow, this, turnL_false, List.append_nil]
  rfl
set_option maxRecDepth 100000 in
set_option maxHeartbeats 1000000 in
theorem codeTells_any (w : World) (hT : Tabs w) : Calls Tryd.prog 18 #[] w fun e w' => e = .returned (.bool true) ∧ Below w.heap.size w w' := by
  have hT1 : ∀ o, Tabs (w.alloc o) := fun o => tabs_below hT ((Below.refl _ _).alloc (Nat.le_refl _) o)
  have hl : LiesAt (w.alloc (.cells #[.int .i64 0, .int .i64 0, .int .u64 0, .string ⟨#[]⟩] 40)) (some ⟨w.heap.size, 0, none⟩) [vNull] := by
    refine .inr ⟨w.heap.size, 0, rfl, by simp, fun j v hv => ?_⟩
    match j, hv with
    | 0, hv =>
      simp only [List.getElem?_cons_zero, Option.some.injEq] at hv
      subst hv
      refine ⟨?_, ?_, ?_, ?_⟩ <;> rw [World.cell?_alloc_new] <;> rfl
  have c10 := encode_good [vNull] (some ⟨w.heap.size, 0, none⟩) 1 0 _ hl good_null (by decide) (hT1 _)
  rw [null_bytes] at c10
  have hdec : decE [1] 1 0 = .ok (rowsOf [vNull]) := by
    have := decE_back [vNull] 0 [] good_null (by decide)
    rw [null_bytes] at this
    exact this
  have c13 := fun (w' : World) ao cap (hb : Bytes w' ao [1]) hT' => decode_any [1] 1 0 ao cap w' (by decide) hb hT'
  rw [hdec] at c13
  have hbw1 : ∀ o, Below w.heap.size w (w.alloc o) := fun o => (Below.refl _ _).alloc (Nat.le_refl _) o
  clear hl hdec hT
  go_enter Tryd.func18, Tryd.ntmps18
  go_wp2_with fail
  refine c10.mono ?_
  rintro e w1 ⟨v1, rfl, ho, hb⟩
  have hT2 := tabs_below (hT1 _) hb
  obtain ⟨ao, cap, rfl, _, _, hbytes⟩ := ho.bytes
  have c := c13 w1 ao cap hbytes hT2
  clear c10 c13 hT1
  go_wp2_with fail
  refine c.mono ?_
  rintro e w2 ⟨v2, rfl, ho2, hb2⟩
  obtain ⟨ao2, cap2, rfl, _, _, _⟩ := ho2.lies
  have e2 : (RRes.ok (rowsOf [vNull])).e = 0 := rfl
  have e3 : (RRes.ok (rowsOf [vNull])).vs.length = 1 := rfl
  rw [e2, e3]
  clear c e2 e3 ho2 hbytes ho
  go_wp2_with fail
  go_ret
  exact ⟨rfl, ((hbw1 _).trans (hb.mono (by simp))).trans (hb2.mono (by have := hb.size; simp at this; omega))⟩
end Go.Proofs.YtjllecmlabodaabDoor
