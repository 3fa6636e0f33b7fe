/-
  CONTRACT of the reference's RangeOf; the walk of the law 'chirographlaw.SpanRanges'.
  CONDITIONS: each theorem's own hypotheses; the tables hold what their initialisers lay (XEnv).
-/
import Derived.Test.YtablacloabpjfabDoorSpanF
namespace Go.Proofs.YtablacloabpjfabDoor
open Go.RowKit
set_option linter.unusedVariables false
set_option maxRecDepth 100000

theorem stepN9 (lo hi : Int) (no : Bool) (m : Int) : stepN ⟨lo, hi, no⟩ 9 m = ⟨max lo m, min hi m, no⟩ := by simp [stepN]
theorem stepN10 (lo hi : Int) (no : Bool) (m : Int) : stepN ⟨lo, hi, no⟩ 10 m = ⟨lo, hi, no⟩ := by simp [stepN]
theorem stepN11 (lo hi : Int) (no : Bool) (m : Int) : stepN ⟨lo, hi, no⟩ 11 m = ⟨lo, min hi (m - 1), no⟩ := by simp [stepN]
theorem stepN12 (lo hi : Int) (no : Bool) (m : Int) : stepN ⟨lo, hi, no⟩ 12 m = ⟨lo, min hi m, no⟩ := by simp [stepN]
theorem stepN14 (lo hi : Int) (no : Bool) (m : Int) : stepN ⟨lo, hi, no⟩ 14 m = ⟨max lo m, hi, no⟩ := by simp [stepN]
theorem stepN13a (lo hi : Int) (no : Bool) (m : Int) (h : m < 9223372036854775807) : stepN ⟨lo, hi, no⟩ 13 m = ⟨max lo (m + 1), hi, no⟩ := by
  have e : (m == 9223372036854775807) = false := by simp; omega
  simp [stepN, h, e]
theorem stepN13b (lo hi : Int) (no : Bool) : stepN ⟨lo, hi, no⟩ 13 9223372036854775807 = ⟨max lo 9223372036854775807, hi, true⟩ := by simp [stepN]
theorem ands_form : ∀ (f : Nat) (t : T), formT t = 0 → FitT t → ∀ x ∈ andsT f t, formT x = 0 ∧ FitT x
  | 0, t, _, _, x, hx => by cases hx
  | f + 1, t, h, hF, x, hx => by
    by_cases c : t.nd.op = 15
    · obtain ⟨a, b, hk, ⟨fa, ga⟩, ⟨fb, gb⟩⟩ := form_two t h hF (by omega)
      have ea : andsT (f + 1) t = andsT f a ++ andsT f b := by
        simp only [andsT]; rw [if_pos c, hk]
      rw [ea] at hx
      rcases List.mem_append.1 hx with hx | hx
      · exact ands_form f a fa ga x hx
      · exact ands_form f b fb gb x hx
    · have ea : andsT (f + 1) t = [t] := by
        simp only [andsT]; rw [if_neg c]
      rw [ea, List.mem_singleton] at hx
      subst hx; exact ⟨h, hF⟩
/-- But for block g nothing that was there has changed. -/
def Kb (g : Nat) (w w' : World) : Prop := w.heap.size ≤ w'.heap.size ∧ ∀ k, k < w.heap.size → k ≠ g → w'.heap[k]? = w.heap[k]?
theorem Kb.refl (g : Nat) (w : World) : Kb g w w := ⟨Nat.le_refl _, fun _ _ _ => rfl⟩
theorem Kb.call {g : Nat} {w W W' : World} (h : Kb g w W) (hb : Below W.heap.size W W') : Kb g w W' := ⟨Nat.le_trans h.1 hb.size, fun k hk hg => (hb.block k (Nat.lt_of_lt_of_le hk h.1)).trans (h.2 k hk hg)⟩
theorem Kb.own {g : Nat} {w W : World} (h : Kb g w W) (j : Nat) (v : Value) : Kb g w (W.setCell ⟨g, j, none⟩ v) := ⟨by simpa using h.1, fun k hk hg => (heap_setCell_other W ⟨g, j, none⟩ k v hg).trans (h.2 k hk hg)⟩
theorem Kb.put7 {g q : Nat} {w W : World} {a0 a1 a2 a3 a4 a5 a6 : Value} (h : Kb g w W) (hq : w.heap.size ≤ q) : Kb g w (Go.Proofs.YtablacloabpjfabDoor.put7 W q a0 a1 a2 a3 a4 a5 a6) :=
  ⟨by unfold Go.Proofs.YtablacloabpjfabDoor.put7; simpa using h.1, fun k hk hg => (far_put7 W q a0 a1 a2 a3 a4 a5 a6 k (by omega) (Nat.lt_of_lt_of_le hk h.1)).trans (h.2 k hk hg)⟩
theorem XRow.kb {g : Nat} {w W : World} {a o : Nat} {l : List XE} (h : ∀ j x, l[j]? = some x → ∀ q v, (cellsX1 x)[q]? = some v → w.cell? ⟨a, o + j * 7 + q, none⟩ = some v) (ha : a < w.heap.size) (hg : a ≠ g) (k : Kb g w W) : ∀ j x, l[j]? = some x → ∀ q v, (cellsX1 x)[q]? = some v → W.cell? ⟨a, o + j * 7 + q, none⟩ = some v := fun j x hx q v hv => by
  rw [← h j x hx q v hv]
  exact World.cell?_of_block (k.2 a ha hg)

/-- Two parts, read ahead of two new things and a number. -/
def PairG (gx a2 o2 cx : Nat) (op : Int) (A B : Value) : Nat → Value → Prop
  | 0, v => v = .pointer (some ⟨gx, 0, none⟩)
  | 1, v => v = .int .i64 op
  | 2, v => v = .pointer (some ⟨gx, 6, none⟩)
  | 3, v => v = .slice (some ⟨a2, o2, none⟩) 2 cx
  | 4, v => v = .pointer (some ⟨a2, o2, none⟩)
  | 5, v => v = A
  | 6, v => v = .pointer (some ⟨gx, 6, none⟩)
  | 7, v => v = .slice (some ⟨a2, o2, none⟩) 2 cx
  | 8, v => v = .pointer (some ⟨a2, o2 + 7, none⟩)
  | 9, v => v = B
  | 12, v => v = .int .i64 op
  | _, _ => True
/-- The parts the other way round, and the operation. -/
def SwapG (SV : List Value) (op : Int) (q : Nat) (tn : Int) (A B : Value) : Nat → Value → World → Prop
  | 0, v, W => ∃ g, v = .slice (some ⟨g, 0, none⟩) 6 6 ∧ Blk W g 3 SV
  | 1, v, _ => v = .int .i64 op
  | 2, v, _ => v = .int .i64 (q : Int)
  | 3, v, W => ∃ g, v = .pointer (some ⟨g, q, none⟩) ∧ Blk W g 3 SV
  | 4, v, _ => v = .int .i64 tn
  | 5, v, _ => v = B
  | 6, v, _ => v = A
  | 7, v, _ => v = .int .i64 tn
  | _, _, _ => True
theorem size_of_room (t : T) (h : exprR t = 0) : t.size ≤ 40 := by
  rcases Nat.lt_or_ge 40 t.size with hc | hc
  · have := ((room_iff 7).1 t 40 (by decide)).2 (fun hh => by omega)
    unfold exprR at h
    rw [if_pos this] at h; cases h
  · exact hc
def rangeE (n : List UInt8) (t : T) : RgE := if exprR t ≠ 0 then ⟨⟨0, 0⟩, exprR t⟩ else ⟨rangeR n t, 0⟩
theorem OwnX.opened {w : World} {base : Nat} {v : Value} {l : List XE} (h : OwnX w base v l) : ∃ ao cap, v = .slice ao l.length cap ∧ (l = [] ∨ ∃ a o, ao = some ⟨a, o, none⟩ ∧ base ≤ a ∧ a < w.heap.size ∧ ∀ j x, l[j]? = some x → ∀ q v, (cellsX1 x)[q]? = some v → w.cell? ⟨a, o + j * 7 + q, none⟩ = some v) := by
  obtain ⟨ao, cap, e, hr⟩ := OwnX.row h
  refine ⟨ao, cap, e, ?_⟩
  rcases hr with hr | ⟨a, o, e2, ha, hc⟩
  · exact .inl hr
  · refine .inr ⟨a, o, e2, ?_, ha, hc⟩
    have := (h.lt a (by rw [e, e2]; rfl)).1
    exact this
theorem fold_snoc (n : List UInt8) (l : List T) (j : Nat) (x : T) (h : l[j]? = some x) : (l.take (j + 1)).foldl (stepA n) ac0 = stepA n ((l.take j).foldl (stepA n) ac0) x := by
  obtain ⟨hj, he⟩ := List.getElem?_eq_some_iff.1 h
  rw [List.take_succ_eq_append_getElem hj, List.foldl_append, he]; rfl

set_option maxHeartbeats 64000000 in
theorem rangeOf_any (t : T) (ao : Option Addr) (cap : Nat) (n : List UInt8) (w : World) (hA : AtT w t ao) (hl : t.kids.length ≤ cap) (hcap : cap ≤ 9223372036854775807) (hn : ao = none → cap = 0) (hT : Tabs w) :
    Calls Tryd.prog 5 #[exprV t ao cap, .string (str n)] w fun e w' => e = .returned (.tuple #[rgV (rangeE n t).r, .int .i64 (rangeE n t).f]) ∧ Below w.heap.size w w' := by
  have c1 := fun W (hW : Below w.heap.size w W) => exprFault_any t ao cap W (hA.keep hW) hl hcap hn (tabs_below hT hW)
  have c2 := fun W (hf : formT t = 0) (hs : t.size ≤ 40) (hW : Below w.heap.size w W) => ands_any t.deep t ao cap w W (Nat.le_refl _) hs hf hA hW hl hcap hn
  have hR : rangeE n t = if exprR t ≠ 0 then ⟨⟨0, 0⟩, exprR t⟩ else ⟨endA ((andsT t.deep t).foldl (stepA n) ac0), 0⟩ := rfl
  have hF := formT_of t
  have hSz := size_of_room t
  have hal := ands_len t.deep t
  have hAF : formT t = 0 → ∀ x ∈ andsT t.deep t, formT x = 0 ∧ FitT x := fun h => ands_form t.deep t h (atT_fit t.deep t ao (Nat.le_refl _) hA)
  unfold AndsPost at c2
  simp only [exprV_cells] at c1 c2 ⊢
  generalize rangeE n t = R at *
  generalize exprR t = F at *
  generalize andsT t.deep t = AL at *
  generalize formT t = FT at *
  generalize t.size = SZ at *
  generalize t.kids.length = L at *
  generalize t.nd = d at *
  obtain ⟨op, k, i, b, s, nm⟩ := d
  simp only at *
  unfold rgV at *
  have HR := Lib.hid hR
  clear hR hA hl hcap hn hT
  generalize str s = S at *
  generalize str nm = N at *
  obtain ⟨NM, hNM⟩ : ∃ NM, str n = NM := ⟨_, rfl⟩
  rw [hNM]
  have HNM := Lib.hid hNM
  clear hNM
  have hz : Blk _ _ _ [_, _, _, _, _, _, _] := (Blk.new w #[.int .i64 op, .int .i64 k, .int .i64 i, .int .u64 b, .string S, .string N, .slice ao L cap] 27).alloc (.cells #[.int .i64 0, .int .i64 0] 29)
  have hy := Blk.new (w.alloc (.cells #[.int .i64 op, .int .i64 k, .int .i64 i, .int .u64 b, .string S, .string N, .slice ao L cap] 27)) #[.int .i64 0, .int .i64 0] 29
  have hb := ((Below.refl w.heap.size w).alloc (Nat.le_refl _) (.cells #[.int .i64 op, .int .i64 k, .int .i64 i, .int .u64 b, .string S, .string N, .slice ao L cap] 27)).alloc (by simp) (.cells #[.int .i64 0, .int .i64 0] 29)
  have hgr : w.heap.size ≤ w.heap.size + 1 := by omega
  have hys : (w.alloc (.cells #[.int .i64 op, .int .i64 k, .int .i64 i, .int .u64 b, .string S, .string N, .slice ao L cap] 27)).heap.size = w.heap.size + 1 := by simp
  rw [hys] at hy
  obtain ⟨w1, hw1⟩ : ∃ w1, (w.alloc (.cells #[.int .i64 op, .int .i64 k, .int .i64 i, .int .u64 b, .string S, .string N, .slice ao L cap] 27)).alloc (.cells #[.int .i64 0, .int .i64 0] 29) = w1 := ⟨_, rfl⟩
  rw [hw1] at hz hy hb
  clear hys
  obtain ⟨gr, hgre⟩ : ∃ gr, w.heap.size + 1 = gr := ⟨_, rfl⟩
  rw [hgre] at hgr
  obtain ⟨r0, r1, r2, r3, r4, r5, r6⟩ := hz.sevenG
  go_enter Tryd.func5, Tryd.ntmps5
  go_upto_region 1 with fail
  try rw [hw1]
  clear hw1
  rw [hgre] at hy
  try rw [hgre]
  clear hgre
  go_wp2_with fail
  refine (c1 _ hb).mono ?_
  rintro e W2 ⟨rfl, hb2⟩
  have B2 := below_stepG hb hb.size hb2
  have X2 := hy.call hb2
  have Z2 := hz.call hb2
  clear hb2 hb hz hy r0 r1 r2 r3 r4 r5 r6 c1
  by_cases hf0 : F = 0
  rotate_left
  · have hb1 : (F != 0) = true := by simpa using hf0
    have HR2 : Hid (R = ⟨⟨0, 0⟩, F⟩) := Lib.hid (by have := HR.out; rw [if_pos hf0] at this; exact this)
    clear HR hF c2 hf0 hSz hAF
    obtain ⟨⟨t1, t2⟩, f1, f2⟩ := X2.two
    go_wp2_with fail
    exact bodyPost_ret (results_rg2 rfl _ _ gr _ _ rfl X2.set2) rfl ⟨by rw [HR2.out]; rfl, below_set2 B2 hgr⟩
  have hft := hF hf0
  have hsz := hSz hf0
  have HAF := Lib.hid (hAF hft)
  subst hf0
  have HR2 : Hid (R = ⟨endA (AL.foldl (stepA n) ac0), 0⟩) := Lib.hid HR.out
  clear HR hF hSz hAF
  obtain ⟨r0, r1, r2, r3, r4, r5, r6⟩ := Z2.sevenG
  have z7n := Blk.new W2 #[.int .i64 (-9223372036854775808), .int .i64 9223372036854775807] 29
  have hba := (Below.refl W2.heap.size W2).alloc (Nat.le_refl _) (.cells #[.int .i64 (-9223372036854775808), .int .i64 9223372036854775807] 29)
  have B3 := below_stepG B2 B2.size hba
  have X3 := X2.call hba
  have Z3 := Z2.call hba
  have h7w := B2.size
  have hr7 : gr ≠ W2.heap.size := by have := X2.lt; omega
  obtain ⟨W3, hW3⟩ : ∃ W3, W2.alloc (.cells #[.int .i64 (-9223372036854775808), .int .i64 9223372036854775807] 29) = W3 := ⟨_, rfl⟩
  have h7s : W3.heap.size = W2.heap.size + 1 := by rw [← hW3]; simp
  rw [hW3] at z7n B3 X3 Z3
  have HW3 := Lib.hid hW3
  clear hW3 hba B2 X2 Z2
  go_upto_region 5 with fail
  rw [HW3.out]
  clear HW3 r0 r1 r2 r3 r4 r5 r6
  have h7b : W2.heap.size < W3.heap.size := by omega
  clear h7s
  generalize W2.heap.size = g7 at *
  obtain ⟨r0, r1, r2, r3, r4, r5, r6⟩ := Z3.sevenG
  go_wp2_with fail
  refine (c2 _ hft hsz B3).mono ?_
  rintro e W4 ⟨v, xs, rfl, hO, hM, hG, hb4⟩
  have B4 := below_stepG B3 B3.size hb4
  have X4 := X3.call hb4
  have z74 := z7n.call hb4
  obtain ⟨aox, capx, rfl, hrow⟩ := hO.out.opened
  obtain ⟨LX, hLX⟩ : ∃ LX, xs.length = LX := ⟨_, rfl⟩
  rw [hLX]
  have hLX40 : LX ≤ 40 := by
    have h1 := congrArg List.length hM.out
    rw [List.length_map] at h1
    omega
  have HLX := Lib.hid hLX
  have HROW := Lib.hid hrow
  have HT0 := Lib.hid hM.out
  have HG0 := Lib.hid hG.out
  clear hM hG
  clear hb4 B3 X3 Z3 z7n r0 r1 r2 r3 r4 r5 r6 c2 hLX hrow hO hft hsz hal
  go_wp2_with fail
  go_loopw [8, 26] (fun nb i wr => ∃ (j : Nat) (s : Ac), j ≤ LX ∧ i = .int .i64 j ∧ nb = .bool s.no ∧ Hid (s = ((xs.map XE.t).take j).foldl (stepA n) ac0) ∧ Hid (Blk wr g7 29 [.int .i64 s.lo, .int .i64 s.hi]) ∧ Hid (Blk wr gr 29 [.int .i64 0, .int .i64 0]) ∧ Hid (Kb g7 W4 wr) ∧ Below w.heap.size w wr) (fun _ i _ => LX - (intOf i).toNat)
  case atStart => exact ⟨0, ac0, Nat.zero_le _, rfl, rfl, Lib.hid rfl, Lib.hid z74, Lib.hid X4, Lib.hid (Kb.refl _ _), B4⟩
  case round =>
    obtain ⟨j, ⟨lo, hi, no⟩, hj, rfl, rfl, HS, HZ, HX', HKB, hbw⟩ := hrel
    clear z74 X4 B4
    by_cases h1 : j < LX
    rotate_left
    · have hjm : j = LX := by omega
      have HEND : Hid (R = ⟨endA ⟨lo, hi, no⟩, 0⟩) := Lib.hid (by
        rw [HR2.out, HS.out, ← HT0.out, hjm, ← HLX.out, List.take_of_length_le (by rw [List.length_map]; exact Nat.le_refl _)])
      have Z9 := HZ.out
      have X9 := HX'.out
      clear HR2 HS HZ HX' HKB HT0 HAF hjm
      obtain ⟨⟨p0, p1⟩, _⟩ := Z9.two
      obtain ⟨⟨q0, q1⟩, f0, f1⟩ := X9.two
      cases no
      · by_cases hlh : hi < lo
        · have bd : decide (hi < lo) = true := decide_eq_true hlh
          have HE2 : Hid (R = ⟨noneG, 0⟩) := Lib.hid (by rw [HEND.out]; unfold endA; rw [if_pos (.inr hlh)])
          clear HEND hlh
          go_wp2_with fail
          exact bodyPost_ret (results_rg2 rfl _ _ gr _ _ rfl X9.set2) rfl ⟨by rw [HE2.out]; rfl, below_set2 hbw hgr⟩
        · have bd : decide (hi < lo) = false := decide_eq_false hlh
          have HE2 : Hid (R = ⟨⟨lo, hi⟩, 0⟩) := Lib.hid (by rw [HEND.out]; unfold endA; rw [if_neg (by simp [hlh])])
          clear HEND hlh
          go_wp2_with fail
          exact bodyPost_ret (results_rg2 rfl _ _ gr _ _ rfl X9.set2) rfl ⟨by rw [HE2.out]; rfl, below_set2 hbw hgr⟩
      · have HE2 : Hid (R = ⟨noneG, 0⟩) := Lib.hid (by rw [HEND.out]; unfold endA; rw [if_pos (.inl rfl)])
        clear HEND
        go_wp2_with fail
        exact bodyPost_ret (results_rg2 rfl _ _ gr _ _ rfl X9.set2) rfl ⟨by rw [HE2.out]; rfl, below_set2 hbw hgr⟩
    · have hlt : j < xs.length := by have := HLX.out; omega
      obtain ⟨x, hxj⟩ : ∃ x, xs[j]? = some x := ⟨xs[j], List.getElem?_eq_getElem hlt⟩
      obtain ⟨a0, o0, rfl, hba0, ha0, hcx⟩ := HROW.out.resolve_left (fun e => by rw [e] at hlt; simp at hlt)
      have hcr := XRow.kb hcx ha0 (show a0 ≠ g7 by omega) HKB.out j x hxj
      have hgx := HG0.out x (List.mem_of_getElem? hxj)
      have hmx : x.t ∈ AL := by rw [← HT0.out]; exact List.mem_map.2 ⟨x, List.mem_of_getElem? hxj, rfl⟩
      obtain ⟨hfx, hFx⟩ := HAF.out _ hmx
      have HT1 := Lib.hid (fold_snoc n (xs.map XE.t) j x.t (by rw [List.getElem?_map, hxj]; rfl))
      have y0 := hcr 0 _ rfl
      have y1 := hcr 1 _ rfl
      have y2 := hcr 2 _ rfl
      have y3 := hcr 3 _ rfl
      have y4 := hcr 4 _ rfl
      have y5 := hcr 5 _ rfl
      have y6 := hcr 6 _ rfl
      obtain ⟨⟨⟨op, k, i, b, s, nm⟩, lx⟩, aoe, cx⟩ := x
      obtain ⟨hAx, hlx, hcx2, hnx⟩ := hgx
      have hfo := formT_open _ _ hfx
      have hnd := nodeF_open _ _ hfo.1
      simp only [T.nd, T.kids, Nat.add_zero] at y0 y1 y2 y3 y4 y5 y6 hlx hnd
      clear hcr hxj hlt hmx hcx HROW hnx hlx hcx2
      generalize str s = S at *
      generalize str nm = N at *
      by_cases ho1 : op < 9
      · obtain ⟨LL, hLL⟩ : ∃ LL, lx.length = LL := ⟨_, rfl⟩
        rw [hLL] at y6
        have HST : Hid (stepA n ⟨lo, hi, no⟩ (T.mk ⟨op, k, i, b, s, nm⟩ lx) = ⟨lo, hi, no⟩) := Lib.hid (by unfold stepA; rw [if_pos (.inl ho1)])
        have bo : decide (op < 9) = true := decide_eq_true ho1
        clear hAx hfx hFx hfo hnd hLL ho1
        have hbe := (Below.refl wr.heap.size wr).alloc (Nat.le_refl _) (.cells #[.int .i64 op, .int .i64 k, .int .i64 i, .int .u64 b, .string S, .string N, .slice aoe LL cx] 27)
        have zx : Blk _ _ _ [_, _, _, _, _, _, _] := Blk.new wr #[.int .i64 op, .int .i64 k, .int .i64 i, .int .u64 b, .string S, .string N, .slice aoe LL cx] 27
        have z7 := HZ.out.call hbe
        have zres := HX'.out.call hbe
        have hkb := HKB.out.call hbe
        have hbx := below_stepG hbw hbw.size hbe
        obtain ⟨wx, hwx⟩ : ∃ wx, wr.alloc (.cells #[.int .i64 op, .int .i64 k, .int .i64 i, .int .u64 b, .string S, .string N, .slice aoe LL cx] 27) = wx := ⟨_, rfl⟩
        rw [hwx] at zx z7 zres hkb hbx
        have HWX := Lib.hid hwx
        clear hwx hbe hbw HZ HX' HKB
        go_upto_region 9 with fail
        rw [HWX.out]
        clear HWX y0 y1 y2 y3 y4 y5 y6
        generalize wr.heap.size = gx at *
        have x0 := zx.cell (j := 0) rfl
        go_wp2_with fail
        go_roundw
        case rel => exact ⟨j + 1, ⟨lo, hi, no⟩, by omega, by go_num, rfl, Lib.hid (by rw [HT1.out, ← HS.out]; exact HST.out.symm), Lib.hid z7, Lib.hid zres, Lib.hid hkb, hbx⟩
        case measure => simp [intOf]; omega
      by_cases ho2 : 14 < op
      · obtain ⟨LL, hLL⟩ : ∃ LL, lx.length = LL := ⟨_, rfl⟩
        rw [hLL] at y6
        have HST : Hid (stepA n ⟨lo, hi, no⟩ (T.mk ⟨op, k, i, b, s, nm⟩ lx) = ⟨lo, hi, no⟩) := Lib.hid (by unfold stepA; rw [if_pos (.inr ho2)])
        have bo : decide (op < 9) = false := decide_eq_false ho1
        have bo2 : decide (14 < op) = true := decide_eq_true ho2
        clear hAx hfx hFx hfo hnd hLL ho1 ho2
        have hbe := (Below.refl wr.heap.size wr).alloc (Nat.le_refl _) (.cells #[.int .i64 op, .int .i64 k, .int .i64 i, .int .u64 b, .string S, .string N, .slice aoe LL cx] 27)
        have zx : Blk _ _ _ [_, _, _, _, _, _, _] := Blk.new wr #[.int .i64 op, .int .i64 k, .int .i64 i, .int .u64 b, .string S, .string N, .slice aoe LL cx] 27
        have z7 := HZ.out.call hbe
        have zres := HX'.out.call hbe
        have hkb := HKB.out.call hbe
        have hbx := below_stepG hbw hbw.size hbe
        obtain ⟨wx, hwx⟩ : ∃ wx, wr.alloc (.cells #[.int .i64 op, .int .i64 k, .int .i64 i, .int .u64 b, .string S, .string N, .slice aoe LL cx] 27) = wx := ⟨_, rfl⟩
        rw [hwx] at zx z7 zres hkb hbx
        have HWX := Lib.hid hwx
        clear hwx hbe hbw HZ HX' HKB
        go_upto_region 9 with fail
        rw [HWX.out]
        clear HWX y0 y1 y2 y3 y4 y5 y6
        generalize wr.heap.size = gx at *
        have x0 := zx.cell (j := 0) rfl
        go_wp2_with fail
        go_roundw
        case rel => exact ⟨j + 1, ⟨lo, hi, no⟩, by omega, by go_num, rfl, Lib.hid (by rw [HT1.out, ← HS.out]; exact HST.out.symm), Lib.hid z7, Lib.hid zres, Lib.hid hkb, hbx⟩
        case measure => simp [intOf]; omega
      have ho : 9 ≤ op ∧ op ≤ 14 := by omega
      have bo : decide (op < 9) = false := decide_eq_false ho1
      have bo2 : decide (14 < op) = false := decide_eq_false ho2
      obtain ⟨u, v, hk, ⟨fu, gu⟩, ⟨fv, gv⟩⟩ := form_two _ hfx hFx (show 9 ≤ op ∧ op ≤ 16 by omega)
      simp only [T.kids] at hk
      subst hk
      simp only [AtT] at hAx
      have hA := hAx.2
      obtain ⟨a, o, rfl, ha, hnode⟩ := AtL.at hA 0 u rfl
      obtain ⟨a2, o2, e2, _, hnode2⟩ := AtL.at hA 1 v rfl
      obtain ⟨rfl, rfl⟩ : a2 = a ∧ o2 = o := by simp at e2; exact ⟨e2.1.symm, e2.2.symm⟩
      rw [Nat.zero_add] at hnode hnode2
      obtain ⟨ao', cap', n1, n2, nA, z0, z1, z2, z3, z4, z5, z6⟩ := hnode.cells
      obtain ⟨ao3, cap3, m1, m2, mA, xx0, xx1, xx2, xx3, xx4, xx5, xx6⟩ := hnode2.cells
      have cNu := fun W (hW : Below w.heap.size w W) => litNumber_any u ao' cap' W (nA.keep hW) fu
      have cNv := fun W (hW : Below w.heap.size w W) => litNumber_any v ao3 cap3 W (mA.keep hW) fv
      have hmu := numG_rng u fu gu
      have hmv := numG_rng v fv gv
      have hst0 : ∀ s0 : Ac, stepA n s0 (T.mk ⟨op, k, i, b, s, nm⟩ [u, v]) = if u.nd.op = 2 then stepC s0 op u v n else stepC s0 (turnO op) v u n := fun s0 => by
        unfold stepA
        rw [if_neg (show ¬ ((T.mk ⟨op, k, i, b, s, nm⟩ [u, v]).nd.op < 9 ∨ 14 < (T.mk ⟨op, k, i, b, s, nm⟩ [u, v]).nd.op) by show ¬ (op < 9 ∨ 14 < op); omega)]
        rfl
      have HSTP : Hid (u.nd.op = 2 → stepA n ⟨lo, hi, no⟩ (T.mk ⟨op, k, i, b, s, nm⟩ [u, v]) = if ((numG v).2 && ((u.nd.op == 2) && (u.nd.n == n))) = true then stepN ⟨lo, hi, no⟩ op (numG v).1 else ⟨lo, hi, no⟩) := Lib.hid (fun h => by rw [hst0, if_pos h]; rfl)
      have HSTQ : Hid ((u.nd.op != 2) = true → stepA n ⟨lo, hi, no⟩ (T.mk ⟨op, k, i, b, s, nm⟩ [u, v]) = if ((numG u).2 && ((v.nd.op == 2) && (v.nd.n == n))) = true then stepN ⟨lo, hi, no⟩ (turnO op) (numG u).1 else ⟨lo, hi, no⟩) := Lib.hid (fun h => by rw [hst0, if_neg (by simpa using h)]; rfl)
      have hs1 := str_eqb u.nd.n n
      have hs3 := str_eqb v.nd.n n
      rw [HNM.out] at hs1 hs3
      obtain ⟨E1, hE1⟩ : ∃ E1, (u.nd.n == n) = E1 := ⟨_, rfl⟩
      obtain ⟨E3, hE3⟩ : ∃ E3, (v.nd.n == n) = E3 := ⟨_, rfl⟩
      rw [hE1] at HSTP hs1
      rw [hE3] at HSTQ hs3
      clear hE1 hE3
      obtain ⟨XT0, hXT0⟩ : ∃ XT0, T.mk ⟨op, k, i, b, s, nm⟩ [u, v] = XT0 := ⟨_, rfl⟩
      rw [hXT0] at HSTP HSTQ HT1
      clear hXT0 hst0 hfx hFx hfo
      simp only [exprV_cells] at cNu cNv
      generalize (numG u).2 = ku at *
      generalize (numG u).1 = mu at *
      generalize (numG v).2 = kv at *
      generalize (numG v).1 = mv at *
      generalize u.kids.length = L at *
      generalize v.kids.length = M at *
      obtain ⟨⟨op', k', i', b', s', nm'⟩, l'⟩ := u
      obtain ⟨⟨op3, k3, i3, b3, s3, nm3⟩, l3⟩ := v
      simp only [T.nd] at *
      generalize str s' = S' at *
      generalize str nm' = N' at *
      generalize str s3 = S3 at *
      generalize str nm3 = N3 at *
      simp only [List.length_cons, List.length_nil, Nat.zero_add, Nat.reduceAdd] at y6
      have hbe := (Below.refl wr.heap.size wr).alloc (Nat.le_refl _) (.cells #[.int .i64 op, .int .i64 k, .int .i64 i, .int .u64 b, .string S, .string N, .slice (some ⟨a2, o2, none⟩) 2 cx] 27)
      have zx : Blk _ _ _ [_, _, _, _, _, _, _] := Blk.new wr #[.int .i64 op, .int .i64 k, .int .i64 i, .int .u64 b, .string S, .string N, .slice (some ⟨a2, o2, none⟩) 2 cx] 27
      have z7 := HZ.out.call hbe
      have zres := HX'.out.call hbe
      have hkb := HKB.out.call hbe
      have hbx := below_stepG hbw hbw.size hbe
      obtain ⟨wx, hwx⟩ : ∃ wx, wr.alloc (.cells #[.int .i64 op, .int .i64 k, .int .i64 i, .int .u64 b, .string S, .string N, .slice (some ⟨a2, o2, none⟩) 2 cx] 27) = wx := ⟨_, rfl⟩
      rw [hwx] at zx z7 zres hkb hbx
      have HWX := Lib.hid hwx
      clear hwx hbe hbw HZ HX' HKB
      go_upto_region 9 with fail
      rw [HWX.out]
      clear HWX y0 y1 y2 y3 y4 y5 y6
      generalize wr.heap.size = gx at *
      have x0 := zx.cell (j := 0) rfl
      have d0 := (hbx.cell (p := ⟨a2, o2 + 0 * 7, none⟩) ha).trans z0
      have d1 := (hbx.cell (p := ⟨a2, o2 + 0 * 7 + 1, none⟩) ha).trans z1
      have d2 := (hbx.cell (p := ⟨a2, o2 + 0 * 7 + 2, none⟩) ha).trans z2
      have d3 := (hbx.cell (p := ⟨a2, o2 + 0 * 7 + 3, none⟩) ha).trans z3
      have d4 := (hbx.cell (p := ⟨a2, o2 + 0 * 7 + 4, none⟩) ha).trans z4
      have d5 := (hbx.cell (p := ⟨a2, o2 + 0 * 7 + 5, none⟩) ha).trans z5
      have d6 := (hbx.cell (p := ⟨a2, o2 + 0 * 7 + 6, none⟩) ha).trans z6
      have g0 := (hbx.cell (p := ⟨a2, o2 + 1 * 7, none⟩) ha).trans xx0
      have g1 := (hbx.cell (p := ⟨a2, o2 + 1 * 7 + 1, none⟩) ha).trans xx1
      have g2 := (hbx.cell (p := ⟨a2, o2 + 1 * 7 + 2, none⟩) ha).trans xx2
      have g3 := (hbx.cell (p := ⟨a2, o2 + 1 * 7 + 3, none⟩) ha).trans xx3
      have g4 := (hbx.cell (p := ⟨a2, o2 + 1 * 7 + 4, none⟩) ha).trans xx4
      have g5 := (hbx.cell (p := ⟨a2, o2 + 1 * 7 + 5, none⟩) ha).trans xx5
      have g6 := (hbx.cell (p := ⟨a2, o2 + 1 * 7 + 6, none⟩) ha).trans xx6
      simp only [Nat.zero_mul, Nat.add_zero] at d0 d1 d2 d3 d4 d5 d6
      simp only [Nat.one_mul] at g0 g1 g2 g3 g4 g5 g6
      have ha1 : a2 < wx.heap.size := Nat.lt_of_lt_of_le ha hbx.size
      have hs2 : (N'.toList != NM.toList) = !E1 := by rw [← hs1]; rfl
      have hs4 : (N3.toList != NM.toList) = !E3 := by rw [← hs3]; rfl
      clear z0 z1 z2 z3 z4 z5 z6 xx0 xx1 xx2 xx3 xx4 xx5 xx6 hA hAx hnode hnode2 nA mA fu gu fv gv hnd ho1 ho2 e2 n1 n2 m1 m2 ha
      go_upto_region 10 with fail
      refine wp_region_two 14 10 11 13 (by kernel_rfl) (by kernel_rfl) (by kernel_rfl) 27 zero7 [.int .i64 op', .int .i64 k', .int .i64 i', .int .u64 b', .string S', .string N', .slice ao' L cap'] (PairG gx a2 o2 cx op (.agg #[.int .i64 op', .int .i64 k', .int .i64 i', .int .u64 b', .string S', .string N', .slice ao' L cap']) (.agg #[.int .i64 op3, .int .i64 k3, .int .i64 i3, .int .u64 b3, .string S3, .string N3, .slice ao3 M cap3])) ?hstep ?hp ?hq ?hdone
      case hstep =>
        intro j hj hnp hnr hnq vs W K hst hf hK
        simp only [fillF, Act.put, List.take_succ_cons, List.take_zero, List.setIfInBounds_toArray, List.set_cons_zero, List.set_cons_succ] at hK ⊢
        rcases (show j = 0 ∨ j = 1 ∨ j = 2 ∨ j = 3 ∨ j = 4 ∨ j = 5 ∨ j = 6 ∨ j = 7 ∨ j = 8 ∨ j = 9 ∨ j = 10 ∨ j = 11 ∨ j = 12 ∨ j = 13 by omega) with rfl | rfl | rfl | rfl | rfl | rfl | rfl | rfl | rfl | rfl | rfl | rfl | rfl | rfl
        · refine wpOp_step rfl (fun K' hK' => ?_)
          go_simp
          exact hK' _ _ (hK _ _ rfl (Below.refl _ _))
        · have e0 : vs 0 = .pointer (some ⟨gx, 0, none⟩) := hf 0 (by decide) (by decide) (by decide) (by decide) (by kernel_rfl)
          simp only [e0] at hK ⊢
          have q0 := (zx.call hst).cell (j := 0) rfl
          refine wpOp_step rfl (fun K' hK' => ?_)
          go_simp
          exact hK' _ _ (hK _ _ rfl (Below.refl _ _))
        · refine wpOp_step rfl (fun K' hK' => ?_)
          go_simp
          exact hK' _ _ (hK _ _ rfl (Below.refl _ _))
        · have e2 : vs 2 = .pointer (some ⟨gx, 6, none⟩) := hf 2 (by decide) (by decide) (by decide) (by decide) (by kernel_rfl)
          simp only [e2] at hK ⊢
          have q6 := (zx.call hst).cell (j := 6) rfl
          refine wpOp_step rfl (fun K' hK' => ?_)
          go_simp
          exact hK' _ _ (hK _ _ rfl (Below.refl _ _))
        · have e3 : vs 3 = .slice (some ⟨a2, o2, none⟩) 2 cx := hf 3 (by decide) (by decide) (by decide) (by decide) (by kernel_rfl)
          simp only [e3] at hK ⊢
          refine wpOp_step rfl (fun K' hK' => ?_)
          go_simp
          exact hK' _ _ (hK _ _ rfl (Below.refl _ _))
        · have e4 : vs 4 = .pointer (some ⟨a2, o2, none⟩) := hf 4 (by decide) (by decide) (by decide) (by decide) (by kernel_rfl)
          simp only [e4] at hK ⊢
          have q0 := (hst.cell (p := ⟨a2, o2, none⟩) ha1).trans d0
          have q1 := (hst.cell (p := ⟨a2, o2 + 1, none⟩) ha1).trans d1
          have q2 := (hst.cell (p := ⟨a2, o2 + 2, none⟩) ha1).trans d2
          have q3 := (hst.cell (p := ⟨a2, o2 + 3, none⟩) ha1).trans d3
          have q4 := (hst.cell (p := ⟨a2, o2 + 4, none⟩) ha1).trans d4
          have q5 := (hst.cell (p := ⟨a2, o2 + 5, none⟩) ha1).trans d5
          have q6 := (hst.cell (p := ⟨a2, o2 + 6, none⟩) ha1).trans d6
          refine wpOp_step rfl (fun K' hK' => ?_)
          go_simp
          exact hK' _ _ (hK _ _ rfl (Below.refl _ _))
        · refine wpOp_step rfl (fun K' hK' => ?_)
          go_simp
          exact hK' _ _ (hK _ _ rfl (Below.refl _ _))
        · have e6 : vs 6 = .pointer (some ⟨gx, 6, none⟩) := hf 6 (by decide) (by decide) (by decide) (by decide) (by kernel_rfl)
          simp only [e6] at hK ⊢
          have q6 := (zx.call hst).cell (j := 6) rfl
          refine wpOp_step rfl (fun K' hK' => ?_)
          go_simp
          exact hK' _ _ (hK _ _ rfl (Below.refl _ _))
        · have e7 : vs 7 = .slice (some ⟨a2, o2, none⟩) 2 cx := hf 7 (by decide) (by decide) (by decide) (by decide) (by kernel_rfl)
          simp only [e7] at hK ⊢
          refine wpOp_step rfl (fun K' hK' => ?_)
          go_simp
          exact hK' _ _ (hK _ _ rfl (Below.refl _ _))
        · have e8 : vs 8 = .pointer (some ⟨a2, o2 + 7, none⟩) := hf 8 (by decide) (by decide) (by decide) (by decide) (by kernel_rfl)
          simp only [e8] at hK ⊢
          have q0 := (hst.cell (p := ⟨a2, o2 + 7, none⟩) ha1).trans g0
          have q1 := (hst.cell (p := ⟨a2, o2 + 7 + 1, none⟩) ha1).trans g1
          have q2 := (hst.cell (p := ⟨a2, o2 + 7 + 2, none⟩) ha1).trans g2
          have q3 := (hst.cell (p := ⟨a2, o2 + 7 + 3, none⟩) ha1).trans g3
          have q4 := (hst.cell (p := ⟨a2, o2 + 7 + 4, none⟩) ha1).trans g4
          have q5 := (hst.cell (p := ⟨a2, o2 + 7 + 5, none⟩) ha1).trans g5
          have q6 := (hst.cell (p := ⟨a2, o2 + 7 + 6, none⟩) ha1).trans g6
          refine wpOp_step rfl (fun K' hK' => ?_)
          go_simp
          exact hK' _ _ (hK _ _ rfl (Below.refl _ _))
        · exact (hnp rfl).elim
        · exact (hnr rfl).elim
        · have e1 : vs 1 = .int .i64 op := hf 1 (by decide) (by decide) (by decide) (by decide) (by kernel_rfl)
          simp only [e1] at hK ⊢
          refine wpOp_step rfl (fun K' hK' => ?_)
          go_simp
          exact hK' _ _ (hK _ _ rfl (Below.refl _ _))
        · exact (hnq rfl).elim
      case hp =>
        intro i hi vs W K hK
        rcases hi with rfl | rfl
        · simp only [fillF, Act.put, List.take_succ_cons, List.take_zero, List.setIfInBounds_toArray, List.set_cons_zero, List.set_cons_succ] at hK ⊢
          refine wpOp_step rfl (fun K' hK' => ?_)
          go_simp
          exact hK' _ _ hK
        · simp only [fillF, Act.put, List.take_succ_cons, List.take_zero, List.setIfInBounds_toArray, List.set_cons_zero, List.set_cons_succ] at hK ⊢
          refine wpOp_step rfl (fun K' hK' => ?_)
          go_simp
          exact hK' _ _ hK
      case hq =>
        intro vs W K k5 hst e10 hk hzb hf hK
        have e5 : vs 5 = .agg #[.int .i64 op', .int .i64 k', .int .i64 i', .int .u64 b', .string S', .string N', .slice ao' L cap'] := hf 5 (by decide) (by decide) (by decide) (by decide) (by kernel_rfl)
        simp only [fillF, Act.put, List.take_succ_cons, List.take_zero, List.setIfInBounds_toArray, List.set_cons_zero, List.set_cons_succ, e5, e10] at hK ⊢
        obtain ⟨j0, j1, j2, j3, j4, j5, j6⟩ := Blk.sevenF (show Blk W k5 _ [_, _, _, _, _, _, _] from hzb)
        obtain ⟨r0, r1, r2, r3, r4, r5, r6⟩ := Blk.sevenG (show Blk W k5 _ [_, _, _, _, _, _, _] from hzb)
        have HY := Lib.hid (Blk.put7 (a0 := .int .i64 op') (a1 := .int .i64 k') (a2 := .int .i64 i') (a3 := .int .u64 b') (a4 := .string S') (a5 := .string N') (a6 := .slice ao' L cap') (show Blk W k5 _ [_, _, _, _, _, _, _] from hzb))
        have HB5 := Lib.hid (below_put7 (a0 := .int .i64 op') (a1 := .int .i64 k') (a2 := .int .i64 i') (a3 := .int .u64 b') (a4 := .string S') (a5 := .string N') (a6 := .slice ao' L cap') hst hk)
        have HF5 := Lib.hid (far_put7 W k5 (.int .i64 op') (.int .i64 k') (.int .i64 i') (.int .u64 b') (.string S') (.string N') (.slice ao' L cap'))
        clear hzb
        refine wpOp_step rfl (fun K' hK' => ?_)
        go_simp
        exact hK' _ _ (hK undef _ HY.out HB5.out HF5.out)
      intro vs W3 gp gq hst e10 hkp hzp e11 hkq hzq hne hf
      have e9 : vs 9 = .agg #[.int .i64 op3, .int .i64 k3, .int .i64 i3, .int .u64 b3, .string S3, .string N3, .slice ao3 M cap3] := hf 9 (by decide) (by decide) (by decide) (by decide)
      have e12 : vs 12 = .int .i64 op := hf 12 (by decide) (by decide) (by decide) (by decide)
      simp only [fillF, Act.put, List.take_succ_cons, List.take_zero, List.drop_succ_cons, List.drop_zero, List.setIfInBounds_toArray, List.set_cons_zero, List.set_cons_succ, e9, e10, e11, e12]
      have z73 := z7.call hst
      have zr3 := zres.call hst
      have hk3 := hkb.call hst
      have hb3 := below_stepG hbx hbx.size hst
      have hgp : w.heap.size ≤ gp := by have := hbx.size; omega
      have hgq : w.heap.size ≤ gq := by have := hbx.size; omega
      have h7p : g7 ≠ gp := by have := z7.lt; omega
      have h7q : g7 ≠ gq := by have := z7.lt; omega
      have hrp : gr ≠ gp := by have := zres.lt; omega
      have hrq : gr ≠ gq := by have := zres.lt; omega
      have hlp : W4.heap.size ≤ gp := by have := hkb.1; omega
      have hlq : W4.heap.size ≤ gq := by have := hkb.1; omega
      have Q5 := Blk.put7 (a0 := .int .i64 op3) (a1 := .int .i64 k3) (a2 := .int .i64 i3) (a3 := .int .u64 b3) (a4 := .string S3) (a5 := .string N3) (a6 := .slice ao3 M cap3) (show Blk W3 gq _ [_, _, _, _, _, _, _] from hzq)
      have P5 := hzp.far7 (g := gq) (a0 := .int .i64 op3) (a1 := .int .i64 k3) (a2 := .int .i64 i3) (a3 := .int .u64 b3) (a4 := .string S3) (a5 := .string N3) (a6 := .slice ao3 M cap3) hne
      have Z5 := z73.far7 (g := gq) (a0 := .int .i64 op3) (a1 := .int .i64 k3) (a2 := .int .i64 i3) (a3 := .int .u64 b3) (a4 := .string S3) (a5 := .string N3) (a6 := .slice ao3 M cap3) h7q
      have X5 := zr3.far7 (g := gq) (a0 := .int .i64 op3) (a1 := .int .i64 k3) (a2 := .int .i64 i3) (a3 := .int .u64 b3) (a4 := .string S3) (a5 := .string N3) (a6 := .slice ao3 M cap3) hrq
      have K5 := hk3.put7 (q := gq) (a0 := .int .i64 op3) (a1 := .int .i64 k3) (a2 := .int .i64 i3) (a3 := .int .u64 b3) (a4 := .string S3) (a5 := .string N3) (a6 := .slice ao3 M cap3) hlq
      have B5 := below_put7 (a0 := .int .i64 op3) (a1 := .int .i64 k3) (a2 := .int .i64 i3) (a3 := .int .u64 b3) (a4 := .string S3) (a5 := .string N3) (a6 := .slice ao3 M cap3) hb3 hgq
      obtain ⟨j0, j1, j2, j3, j4, j5, j6⟩ := Blk.sevenF (show Blk W3 gq _ [_, _, _, _, _, _, _] from hzq)
      obtain ⟨r0, r1, r2, r3, r4, r5, r6⟩ := Blk.sevenG (show Blk W3 gq _ [_, _, _, _, _, _, _] from hzq)
      obtain ⟨W5, hW5⟩ : ∃ W5, put7 W3 gq (.int .i64 op3) (.int .i64 k3) (.int .i64 i3) (.int .u64 b3) (.string S3) (.string N3) (.slice ao3 M cap3) = W5 := ⟨_, rfl⟩
      rw [hW5] at P5 Q5 Z5 X5 K5 B5
      have HH := Lib.hid hW5
      have HX := Lib.hid (And.intro P5 (And.intro Q5 (And.intro Z5 (And.intro X5 (And.intro K5 B5)))))
      clear hW5 P5 Q5 Z5 X5 K5 B5 hf z73 zr3 hk3 hb3 hst d0 d1 d2 d3 d4 d5 d6 g0 g1 g2 g3 g4 g5 g6 ha1 hzp hzq e9 e10 e11 e12 hkp hkq zx z7 zres hkb hbx
      generalize vs 0 = x0
      generalize vs 1 = x1
      generalize vs 2 = x2
      generalize vs 3 = x3
      generalize vs 4 = x4
      generalize vs 5 = x5
      generalize vs 6 = x6
      generalize vs 7 = x7
      generalize vs 8 = x8
      go_upto_region 11 with fail
      have hh := HH.out
      unfold put7 at hh
      try rw [hh]
      clear hh HH j0 j1 j2 j3 j4 j5 j6 r0 r1 r2 r3 r4 r5 r6
      obtain ⟨P5, Q5, Z5, X5, K5, B5⟩ := HX.out
      clear HX
      obtain ⟨B2, hB2⟩ : ∃ B2, (op' != 2) = B2 := ⟨_, rfl⟩
      have pp0 := P5.cell (j := 0) rfl
      go_upto_if 50 with fail
      go_cut [11] (fun x wx => ∃ (co po pk pi pb : Int) (pS pN : ByteArray) (pao : Option Addr) (pL pcap : Nat) (qo qk qi qb : Int) (qS qN : ByteArray) (qao : Option Addr) (qL qcap : Nat) (kq : Bool) (mq : Int) (EQ : Bool), x = .int .i64 co ∧ Hid (9 ≤ co ∧ co ≤ 14) ∧ Hid (Blk wx gp 27 [.int .i64 po, .int .i64 pk, .int .i64 pi, .int .u64 pb, .string pS, .string pN, .slice pao pL pcap]) ∧ Hid (Blk wx gq 27 [.int .i64 qo, .int .i64 qk, .int .i64 qi, .int .u64 qb, .string qS, .string qN, .slice qao qL qcap]) ∧ Hid (Blk wx g7 29 [.int .i64 lo, .int .i64 hi]) ∧ Hid (Blk wx gr 29 [.int .i64 0, .int .i64 0]) ∧ Hid (Kb g7 W4 wx) ∧ Hid (Below w.heap.size w wx) ∧ Hid (∀ W, Below w.heap.size w W → Calls Tryd.prog 10 #[.agg #[.int .i64 qo, .int .i64 qk, .int .i64 qi, .int .u64 qb, .string qS, .string qN, .slice qao qL qcap]] W fun e w' => e = .returned (.tuple #[.int .i64 mq, .bool kq]) ∧ Below W.heap.size W w') ∧ Hid (-9223372036854775807 ≤ mq ∧ mq ≤ 9223372036854775807) ∧ Hid ((pN.toList == NM.toList) = EQ) ∧ Hid (stepA n ⟨lo, hi, no⟩ XT0 = if (kq && ((po == 2) && EQ)) = true then stepN ⟨lo, hi, no⟩ co mq else ⟨lo, hi, no⟩))
      case first =>
        cases B2
        · have hu2 : op' = 2 := by simpa using hB2
          have HST0 := Lib.hid (HSTP.out hu2)
          clear HSTP HSTQ cNu hs3 hs4 pp0 hB2 hu2
          go_wp2_with fail
          go_meet
          exact ⟨op, _, _, _, _, _, _, _, _, _, _, _, _, _, _, _, _, _, _, _, _, _, rfl, Lib.hid (by omega), Lib.hid P5, Lib.hid Q5, Lib.hid Z5, Lib.hid X5, Lib.hid K5, Lib.hid B5, Lib.hid cNv, Lib.hid hmv, Lib.hid hs1, HST0⟩
        · clear HSTP cNv hs1 hs2
          rcases (show op = 9 ∨ op = 10 ∨ op = 11 ∨ op = 12 ∨ op = 13 ∨ op = 14 by omega) with rfl | rfl | rfl | rfl | rfl | rfl
          · have HST0 : Hid (stepA n ⟨lo, hi, no⟩ XT0 = if (ku && ((op3 == 2) && E3)) = true then stepN ⟨lo, hi, no⟩ 9 mu else ⟨lo, hi, no⟩) := Lib.hid (HSTQ.out hB2)
            clear HSTQ
            go_upto_region 12 with fail
            clear pp0
            refine wp_region_chain 8 [0] (by kernel_rfl) (by kernel_rfl) (by kernel_rfl) (SwapG [.int .i64 9, .int .i64 10, .int .i64 13, .int .i64 14, .int .i64 11, .int .i64 12] 9 0 9 (.agg #[.int .i64 op', .int .i64 k', .int .i64 i', .int .u64 b', .string S', .string N', .slice ao' L cap']) (.agg #[.int .i64 op3, .int .i64 k3, .int .i64 i3, .int .u64 b3, .string S3, .string N3, .slice ao3 M cap3])) (fun _ W => Below W5.heap.size W5 W) (fun _ W W' => Below W.heap.size W W') ?hF9 ?h09 ?hstep9 ?hcall9 ?hdone9
            case hF9 =>
              intro s i hs j x W W' hjn hne' hpb h he
              match j, h with
              | 0, ⟨g, h1, h2⟩ => exact ⟨g, h1, h2.call he⟩
              | 1, h => exact h
              | 2, h => exact h
              | 3, ⟨g, h1, h2⟩ => exact ⟨g, h1, h2.call he⟩
              | 4, h => exact h
              | 5, h => exact h
              | 6, h => exact h
              | 7, h => exact h
              | j + 8, h => exact h
            case h09 => exact Below.drew (Below.refl _ _)
            case hstep9 =>
              intro i hi hni s vs act W K ha' hst hd hu' hK
              simp only [fillF, Act.put, List.take_succ_cons, List.take_zero, List.setIfInBounds_toArray, List.set_cons_zero, List.set_cons_succ] at ha'
              subst ha'
              rcases (show i = 0 ∨ i = 1 ∨ i = 2 ∨ i = 3 ∨ i = 4 ∨ i = 5 ∨ i = 6 ∨ i = 7 by omega) with rfl | rfl | rfl | rfl | rfl | rfl | rfl | rfl
              · exact (hni (by decide)).elim
              · have u7 := hu' 7 _ rfl (.inr (by kernel_rfl))
                simp only [slotOf] at u7
                simp at u7
                simp only [u7] at hK ⊢
                refine wpOp_step rfl (fun K' hK' => ?_)
                go_simp
                exact hK' _ _ (hK _ rfl)
              · have e1 : vs 1 = .int .i64 9 := hd 1 (by kernel_rfl)
                simp only [e1] at hK ⊢
                refine wpOp_step rfl (fun K' hK' => ?_)
                go_simp
                exact hK' _ _ (hK _ rfl)
              · obtain ⟨g, e0, zg⟩ := hd 0 (by kernel_rfl)
                have e2 : vs 2 = .int .i64 0 := hd 2 (by kernel_rfl)
                simp only [e0, e2] at hK ⊢
                refine wpOp_step rfl (fun K' hK' => ?_)
                go_simp
                exact hK' _ _ (hK _ ⟨g, rfl, zg⟩)
              · obtain ⟨g, e3, zg⟩ := hd 3 (by kernel_rfl)
                have y0 := zg.cell (j := 0) rfl
                simp only [e3] at hK ⊢
                refine wpOp_step rfl (fun K' hK' => ?_)
                go_simp
                exact hK' _ _ (hK _ rfl)
              · obtain ⟨r0, r1, r2, r3, r4, r5, r6⟩ := (Q5.call hst).sevenG
                refine wpOp_step rfl (fun K' hK' => ?_)
                go_simp
                exact hK' _ _ (hK _ rfl)
              · obtain ⟨r0, r1, r2, r3, r4, r5, r6⟩ := (P5.call hst).sevenG
                refine wpOp_step rfl (fun K' hK' => ?_)
                go_simp
                exact hK' _ _ (hK _ rfl)
              · have e4 : vs 4 = .int .i64 9 := hd 4 (by kernel_rfl)
                simp only [e4] at hK ⊢
                refine wpOp_step rfl (fun K' hK' => ?_)
                go_simp
                exact hK' _ _ (hK _ rfl)
            case hcall9 =>
              intro s i hs vs act W K ha' hst hd hK
              simp only [fillF, Act.put, List.take_succ_cons, List.take_zero, List.setIfInBounds_toArray, List.set_cons_zero, List.set_cons_succ] at ha'
              subst ha'
              rcases s with _ | s
              · obtain rfl : 0 = i := by simpa using hs
                refine wpOp_step rfl (fun K' hK' => ?_)
                go_simp
                exact hK' _ _ (hK _ _ ⟨W.heap.size, rfl, Blk.new W _ _⟩ ((Below.refl _ _).alloc (Nat.le_refl _) _) (hst.alloc hst.size _))
              · simp at hs
            intro vs act W3 ha' hst hf
            simp only [fillF, Act.put, List.take_succ_cons, List.take_zero, List.drop_succ_cons, List.drop_zero, List.setIfInBounds_toArray, List.set_cons_zero, List.set_cons_succ] at ha' ⊢
            subst ha'
            have e5 : vs 5 = .agg #[.int .i64 op3, .int .i64 k3, .int .i64 i3, .int .u64 b3, .string S3, .string N3, .slice ao3 M cap3] := hf 5 (by decide)
            have e6 : vs 6 = .agg #[.int .i64 op', .int .i64 k', .int .i64 i', .int .u64 b', .string S', .string N', .slice ao' L cap'] := hf 6 (by decide)
            have e7 : vs 7 = .int .i64 9 := hf 7 (by decide)
            simp only [e5, e6, e7]
            have P7 := P5.call hst
            have Q7 := Q5.call hst
            have P8 := (P7.put7 (a0 := .int .i64 op3) (a1 := .int .i64 k3) (a2 := .int .i64 i3) (a3 := .int .u64 b3) (a4 := .string S3) (a5 := .string N3) (a6 := .slice ao3 M cap3))
            have Q8 := (Q7.far7 (g := gp) (a0 := .int .i64 op3) (a1 := .int .i64 k3) (a2 := .int .i64 i3) (a3 := .int .u64 b3) (a4 := .string S3) (a5 := .string N3) (a6 := .slice ao3 M cap3) hne.symm)
            have Z8 := ((Z5.call hst).far7 (g := gp) (a0 := .int .i64 op3) (a1 := .int .i64 k3) (a2 := .int .i64 i3) (a3 := .int .u64 b3) (a4 := .string S3) (a5 := .string N3) (a6 := .slice ao3 M cap3) h7p)
            have X8 := ((X5.call hst).far7 (g := gp) (a0 := .int .i64 op3) (a1 := .int .i64 k3) (a2 := .int .i64 i3) (a3 := .int .u64 b3) (a4 := .string S3) (a5 := .string N3) (a6 := .slice ao3 M cap3) hrp)
            have K8 := ((K5.call hst).put7 (q := gp) (a0 := .int .i64 op3) (a1 := .int .i64 k3) (a2 := .int .i64 i3) (a3 := .int .u64 b3) (a4 := .string S3) (a5 := .string N3) (a6 := .slice ao3 M cap3) hlp)
            have B8 := below_put7 (a0 := .int .i64 op3) (a1 := .int .i64 k3) (a2 := .int .i64 i3) (a3 := .int .u64 b3) (a4 := .string S3) (a5 := .string N3) (a6 := .slice ao3 M cap3) (below_stepG B5 B5.size hst) hgp
            obtain ⟨W8, hW8⟩ : ∃ W8, put7 W3 gp (.int .i64 op3) (.int .i64 k3) (.int .i64 i3) (.int .u64 b3) (.string S3) (.string N3) (.slice ao3 M cap3) = W8 := ⟨_, rfl⟩
            rw [hW8] at P8 Q8 Z8 X8 K8 B8
            have P9 := (P8.far7 (g := gq) (a0 := .int .i64 op') (a1 := .int .i64 k') (a2 := .int .i64 i') (a3 := .int .u64 b') (a4 := .string S') (a5 := .string N') (a6 := .slice ao' L cap') hne)
            have Q9 := (Q8.put7 (a0 := .int .i64 op') (a1 := .int .i64 k') (a2 := .int .i64 i') (a3 := .int .u64 b') (a4 := .string S') (a5 := .string N') (a6 := .slice ao' L cap'))
            have Z9 := (Z8.far7 (g := gq) (a0 := .int .i64 op') (a1 := .int .i64 k') (a2 := .int .i64 i') (a3 := .int .u64 b') (a4 := .string S') (a5 := .string N') (a6 := .slice ao' L cap') h7q)
            have X9 := (X8.far7 (g := gq) (a0 := .int .i64 op') (a1 := .int .i64 k') (a2 := .int .i64 i') (a3 := .int .u64 b') (a4 := .string S') (a5 := .string N') (a6 := .slice ao' L cap') hrq)
            have K9 := (K8.put7 (q := gq) (a0 := .int .i64 op') (a1 := .int .i64 k') (a2 := .int .i64 i') (a3 := .int .u64 b') (a4 := .string S') (a5 := .string N') (a6 := .slice ao' L cap') hlq)
            have B9 := below_put7 (a0 := .int .i64 op') (a1 := .int .i64 k') (a2 := .int .i64 i') (a3 := .int .u64 b') (a4 := .string S') (a5 := .string N') (a6 := .slice ao' L cap') B8 hgq
            obtain ⟨W9, hW9⟩ : ∃ W9, put7 W8 gq (.int .i64 op') (.int .i64 k') (.int .i64 i') (.int .u64 b') (.string S') (.string N') (.slice ao' L cap') = W9 := ⟨_, rfl⟩
            rw [hW9] at P9 Q9 Z9 X9 K9 B9
            have HH := Lib.hid (And.intro hW8 hW9)
            have HX := Lib.hid (And.intro P9 (And.intro Q9 (And.intro Z9 (And.intro X9 (And.intro K9 B9)))))
            obtain ⟨j0, j1, j2, j3, j4, j5, j6⟩ := P7.sevenF
            obtain ⟨r0, r1, r2, r3, r4, r5, r6⟩ := P7.sevenG
            obtain ⟨l0, l1, l2, l3, l4, l5, l6⟩ := Q7.sevenF
            obtain ⟨m0, m1, m2, m3, m4, m5, m6⟩ := Q7.sevenG
            clear hf hst e5 e6 e7 P5 Q5 Z5 X5 K5 B5 P8 Q8 Z8 X8 K8 B8 P9 Q9 Z9 X9 K9 B9 hW8 hW9 P7 Q7
            generalize vs 0 = x10
            generalize vs 1 = x11
            generalize vs 2 = x12
            generalize vs 3 = x13
            generalize vs 4 = x14
            go_upto_region 13 with fail
            obtain ⟨hh, hk⟩ := HH.out
            unfold put7 at hh hk
            rw [← hh] at hk
            try rw [hk]
            clear hh hk HH j0 j1 j2 j3 j4 j5 j6 r0 r1 r2 r3 r4 r5 r6 l0 l1 l2 l3 l4 l5 l6 m0 m1 m2 m3 m4 m5 m6
            obtain ⟨P5, Q5, Z5, X5, K5, B5⟩ := HX.out
            clear HX
            go_wp2_with fail
            go_meet
            exact ⟨9, _, _, _, _, _, _, _, _, _, _, _, _, _, _, _, _, _, _, _, _, _, rfl, Lib.hid (by omega), Lib.hid P5, Lib.hid Q5, Lib.hid Z5, Lib.hid X5, Lib.hid K5, Lib.hid B5, Lib.hid cNu, Lib.hid hmu, Lib.hid hs3, HST0⟩
          · have HST0 : Hid (stepA n ⟨lo, hi, no⟩ XT0 = if (ku && ((op3 == 2) && E3)) = true then stepN ⟨lo, hi, no⟩ 10 mu else ⟨lo, hi, no⟩) := Lib.hid (HSTQ.out hB2)
            clear HSTQ
            go_upto_region 12 with fail
            clear pp0
            refine wp_region_chain 8 [0] (by kernel_rfl) (by kernel_rfl) (by kernel_rfl) (SwapG [.int .i64 9, .int .i64 10, .int .i64 13, .int .i64 14, .int .i64 11, .int .i64 12] 10 1 10 (.agg #[.int .i64 op', .int .i64 k', .int .i64 i', .int .u64 b', .string S', .string N', .slice ao' L cap']) (.agg #[.int .i64 op3, .int .i64 k3, .int .i64 i3, .int .u64 b3, .string S3, .string N3, .slice ao3 M cap3])) (fun _ W => Below W5.heap.size W5 W) (fun _ W W' => Below W.heap.size W W') ?hF10 ?h010 ?hstep10 ?hcall10 ?hdone10
            case hF10 =>
              intro s i hs j x W W' hjn hne' hpb h he
              match j, h with
              | 0, ⟨g, h1, h2⟩ => exact ⟨g, h1, h2.call he⟩
              | 1, h => exact h
              | 2, h => exact h
              | 3, ⟨g, h1, h2⟩ => exact ⟨g, h1, h2.call he⟩
              | 4, h => exact h
              | 5, h => exact h
              | 6, h => exact h
              | 7, h => exact h
              | j + 8, h => exact h
            case h010 => exact Below.drew (Below.refl _ _)
            case hstep10 =>
              intro i hi hni s vs act W K ha' hst hd hu' hK
              simp only [fillF, Act.put, List.take_succ_cons, List.take_zero, List.setIfInBounds_toArray, List.set_cons_zero, List.set_cons_succ] at ha'
              subst ha'
              rcases (show i = 0 ∨ i = 1 ∨ i = 2 ∨ i = 3 ∨ i = 4 ∨ i = 5 ∨ i = 6 ∨ i = 7 by omega) with rfl | rfl | rfl | rfl | rfl | rfl | rfl | rfl
              · exact (hni (by decide)).elim
              · have u7 := hu' 7 _ rfl (.inr (by kernel_rfl))
                simp only [slotOf] at u7
                simp at u7
                simp only [u7] at hK ⊢
                refine wpOp_step rfl (fun K' hK' => ?_)
                go_simp
                exact hK' _ _ (hK _ rfl)
              · have e1 : vs 1 = .int .i64 10 := hd 1 (by kernel_rfl)
                simp only [e1] at hK ⊢
                refine wpOp_step rfl (fun K' hK' => ?_)
                go_simp
                exact hK' _ _ (hK _ rfl)
              · obtain ⟨g, e0, zg⟩ := hd 0 (by kernel_rfl)
                have e2 : vs 2 = .int .i64 1 := hd 2 (by kernel_rfl)
                simp only [e0, e2] at hK ⊢
                refine wpOp_step rfl (fun K' hK' => ?_)
                go_simp
                exact hK' _ _ (hK _ ⟨g, rfl, zg⟩)
              · obtain ⟨g, e3, zg⟩ := hd 3 (by kernel_rfl)
                have y0 := zg.cell (j := 1) rfl
                simp only [e3] at hK ⊢
                refine wpOp_step rfl (fun K' hK' => ?_)
                go_simp
                exact hK' _ _ (hK _ rfl)
              · obtain ⟨r0, r1, r2, r3, r4, r5, r6⟩ := (Q5.call hst).sevenG
                refine wpOp_step rfl (fun K' hK' => ?_)
                go_simp
                exact hK' _ _ (hK _ rfl)
              · obtain ⟨r0, r1, r2, r3, r4, r5, r6⟩ := (P5.call hst).sevenG
                refine wpOp_step rfl (fun K' hK' => ?_)
                go_simp
                exact hK' _ _ (hK _ rfl)
              · have e4 : vs 4 = .int .i64 10 := hd 4 (by kernel_rfl)
                simp only [e4] at hK ⊢
                refine wpOp_step rfl (fun K' hK' => ?_)
                go_simp
                exact hK' _ _ (hK _ rfl)
            case hcall10 =>
              intro s i hs vs act W K ha' hst hd hK
              simp only [fillF, Act.put, List.take_succ_cons, List.take_zero, List.setIfInBounds_toArray, List.set_cons_zero, List.set_cons_succ] at ha'
              subst ha'
              rcases s with _ | s
              · obtain rfl : 0 = i := by simpa using hs
                refine wpOp_step rfl (fun K' hK' => ?_)
                go_simp
                exact hK' _ _ (hK _ _ ⟨W.heap.size, rfl, Blk.new W _ _⟩ ((Below.refl _ _).alloc (Nat.le_refl _) _) (hst.alloc hst.size _))
              · simp at hs
            intro vs act W3 ha' hst hf
            simp only [fillF, Act.put, List.take_succ_cons, List.take_zero, List.drop_succ_cons, List.drop_zero, List.setIfInBounds_toArray, List.set_cons_zero, List.set_cons_succ] at ha' ⊢
            subst ha'
            have e5 : vs 5 = .agg #[.int .i64 op3, .int .i64 k3, .int .i64 i3, .int .u64 b3, .string S3, .string N3, .slice ao3 M cap3] := hf 5 (by decide)
            have e6 : vs 6 = .agg #[.int .i64 op', .int .i64 k', .int .i64 i', .int .u64 b', .string S', .string N', .slice ao' L cap'] := hf 6 (by decide)
            have e7 : vs 7 = .int .i64 10 := hf 7 (by decide)
            simp only [e5, e6, e7]
            have P7 := P5.call hst
            have Q7 := Q5.call hst
            have P8 := (P7.put7 (a0 := .int .i64 op3) (a1 := .int .i64 k3) (a2 := .int .i64 i3) (a3 := .int .u64 b3) (a4 := .string S3) (a5 := .string N3) (a6 := .slice ao3 M cap3))
            have Q8 := (Q7.far7 (g := gp) (a0 := .int .i64 op3) (a1 := .int .i64 k3) (a2 := .int .i64 i3) (a3 := .int .u64 b3) (a4 := .string S3) (a5 := .string N3) (a6 := .slice ao3 M cap3) hne.symm)
            have Z8 := ((Z5.call hst).far7 (g := gp) (a0 := .int .i64 op3) (a1 := .int .i64 k3) (a2 := .int .i64 i3) (a3 := .int .u64 b3) (a4 := .string S3) (a5 := .string N3) (a6 := .slice ao3 M cap3) h7p)
            have X8 := ((X5.call hst).far7 (g := gp) (a0 := .int .i64 op3) (a1 := .int .i64 k3) (a2 := .int .i64 i3) (a3 := .int .u64 b3) (a4 := .string S3) (a5 := .string N3) (a6 := .slice ao3 M cap3) hrp)
            have K8 := ((K5.call hst).put7 (q := gp) (a0 := .int .i64 op3) (a1 := .int .i64 k3) (a2 := .int .i64 i3) (a3 := .int .u64 b3) (a4 := .string S3) (a5 := .string N3) (a6 := .slice ao3 M cap3) hlp)
            have B8 := below_put7 (a0 := .int .i64 op3) (a1 := .int .i64 k3) (a2 := .int .i64 i3) (a3 := .int .u64 b3) (a4 := .string S3) (a5 := .string N3) (a6 := .slice ao3 M cap3) (below_stepG B5 B5.size hst) hgp
            obtain ⟨W8, hW8⟩ : ∃ W8, put7 W3 gp (.int .i64 op3) (.int .i64 k3) (.int .i64 i3) (.int .u64 b3) (.string S3) (.string N3) (.slice ao3 M cap3) = W8 := ⟨_, rfl⟩
            rw [hW8] at P8 Q8 Z8 X8 K8 B8
            have P9 := (P8.far7 (g := gq) (a0 := .int .i64 op') (a1 := .int .i64 k') (a2 := .int .i64 i') (a3 := .int .u64 b') (a4 := .string S') (a5 := .string N') (a6 := .slice ao' L cap') hne)
            have Q9 := (Q8.put7 (a0 := .int .i64 op') (a1 := .int .i64 k') (a2 := .int .i64 i') (a3 := .int .u64 b') (a4 := .string S') (a5 := .string N') (a6 := .slice ao' L cap'))
            have Z9 := (Z8.far7 (g := gq) (a0 := .int .i64 op') (a1 := .int .i64 k') (a2 := .int .i64 i') (a3 := .int .u64 b') (a4 := .string S') (a5 := .string N') (a6 := .slice ao' L cap') h7q)
            have X9 := (X8.far7 (g := gq) (a0 := .int .i64 op') (a1 := .int .i64 k') (a2 := .int .i64 i') (a3 := .int .u64 b') (a4 := .string S') (a5 := .string N') (a6 := .slice ao' L cap') hrq)
            have K9 := (K8.put7 (q := gq) (a0 := .int .i64 op') (a1 := .int .i64 k') (a2 := .int .i64 i') (a3 := .int .u64 b') (a4 := .string S') (a5 := .string N') (a6 := .slice ao' L cap') hlq)
            have B9 := below_put7 (a0 := .int .i64 op') (a1 := .int .i64 k') (a2 := .int .i64 i') (a3 := .int .u64 b') (a4 := .string S') (a5 := .string N') (a6 := .slice ao' L cap') B8 hgq
            obtain ⟨W9, hW9⟩ : ∃ W9, put7 W8 gq (.int .i64 op') (.int .i64 k') (.int .i64 i') (.int .u64 b') (.string S') (.string N') (.slice ao' L cap') = W9 := ⟨_, rfl⟩
            rw [hW9] at P9 Q9 Z9 X9 K9 B9
            have HH := Lib.hid (And.intro hW8 hW9)
            have HX := Lib.hid (And.intro P9 (And.intro Q9 (And.intro Z9 (And.intro X9 (And.intro K9 B9)))))
            obtain ⟨j0, j1, j2, j3, j4, j5, j6⟩ := P7.sevenF
            obtain ⟨r0, r1, r2, r3, r4, r5, r6⟩ := P7.sevenG
            obtain ⟨l0, l1, l2, l3, l4, l5, l6⟩ := Q7.sevenF
            obtain ⟨m0, m1, m2, m3, m4, m5, m6⟩ := Q7.sevenG
            clear hf hst e5 e6 e7 P5 Q5 Z5 X5 K5 B5 P8 Q8 Z8 X8 K8 B8 P9 Q9 Z9 X9 K9 B9 hW8 hW9 P7 Q7
            generalize vs 0 = x10
            generalize vs 1 = x11
            generalize vs 2 = x12
            generalize vs 3 = x13
            generalize vs 4 = x14
            go_upto_region 13 with fail
            obtain ⟨hh, hk⟩ := HH.out
            unfold put7 at hh hk
            rw [← hh] at hk
            try rw [hk]
            clear hh hk HH j0 j1 j2 j3 j4 j5 j6 r0 r1 r2 r3 r4 r5 r6 l0 l1 l2 l3 l4 l5 l6 m0 m1 m2 m3 m4 m5 m6
            obtain ⟨P5, Q5, Z5, X5, K5, B5⟩ := HX.out
            clear HX
            go_wp2_with fail
            go_meet
            exact ⟨10, _, _, _, _, _, _, _, _, _, _, _, _, _, _, _, _, _, _, _, _, _, rfl, Lib.hid (by omega), Lib.hid P5, Lib.hid Q5, Lib.hid Z5, Lib.hid X5, Lib.hid K5, Lib.hid B5, Lib.hid cNu, Lib.hid hmu, Lib.hid hs3, HST0⟩
          · have HST0 : Hid (stepA n ⟨lo, hi, no⟩ XT0 = if (ku && ((op3 == 2) && E3)) = true then stepN ⟨lo, hi, no⟩ 13 mu else ⟨lo, hi, no⟩) := Lib.hid (HSTQ.out hB2)
            clear HSTQ
            go_upto_region 12 with fail
            clear pp0
            refine wp_region_chain 8 [0] (by kernel_rfl) (by kernel_rfl) (by kernel_rfl) (SwapG [.int .i64 9, .int .i64 10, .int .i64 13, .int .i64 14, .int .i64 11, .int .i64 12] 11 2 13 (.agg #[.int .i64 op', .int .i64 k', .int .i64 i', .int .u64 b', .string S', .string N', .slice ao' L cap']) (.agg #[.int .i64 op3, .int .i64 k3, .int .i64 i3, .int .u64 b3, .string S3, .string N3, .slice ao3 M cap3])) (fun _ W => Below W5.heap.size W5 W) (fun _ W W' => Below W.heap.size W W') ?hF11 ?h011 ?hstep11 ?hcall11 ?hdone11
            case hF11 =>
              intro s i hs j x W W' hjn hne' hpb h he
              match j, h with
              | 0, ⟨g, h1, h2⟩ => exact ⟨g, h1, h2.call he⟩
              | 1, h => exact h
              | 2, h => exact h
              | 3, ⟨g, h1, h2⟩ => exact ⟨g, h1, h2.call he⟩
              | 4, h => exact h
              | 5, h => exact h
              | 6, h => exact h
              | 7, h => exact h
              | j + 8, h => exact h
            case h011 => exact Below.drew (Below.refl _ _)
            case hstep11 =>
              intro i hi hni s vs act W K ha' hst hd hu' hK
              simp only [fillF, Act.put, List.take_succ_cons, List.take_zero, List.setIfInBounds_toArray, List.set_cons_zero, List.set_cons_succ] at ha'
              subst ha'
              rcases (show i = 0 ∨ i = 1 ∨ i = 2 ∨ i = 3 ∨ i = 4 ∨ i = 5 ∨ i = 6 ∨ i = 7 by omega) with rfl | rfl | rfl | rfl | rfl | rfl | rfl | rfl
              · exact (hni (by decide)).elim
              · have u7 := hu' 7 _ rfl (.inr (by kernel_rfl))
                simp only [slotOf] at u7
                simp at u7
                simp only [u7] at hK ⊢
                refine wpOp_step rfl (fun K' hK' => ?_)
                go_simp
                exact hK' _ _ (hK _ rfl)
              · have e1 : vs 1 = .int .i64 11 := hd 1 (by kernel_rfl)
                simp only [e1] at hK ⊢
                refine wpOp_step rfl (fun K' hK' => ?_)
                go_simp
                exact hK' _ _ (hK _ rfl)
              · obtain ⟨g, e0, zg⟩ := hd 0 (by kernel_rfl)
                have e2 : vs 2 = .int .i64 2 := hd 2 (by kernel_rfl)
                simp only [e0, e2] at hK ⊢
                refine wpOp_step rfl (fun K' hK' => ?_)
                go_simp
                exact hK' _ _ (hK _ ⟨g, rfl, zg⟩)
              · obtain ⟨g, e3, zg⟩ := hd 3 (by kernel_rfl)
                have y0 := zg.cell (j := 2) rfl
                simp only [e3] at hK ⊢
                refine wpOp_step rfl (fun K' hK' => ?_)
                go_simp
                exact hK' _ _ (hK _ rfl)
              · obtain ⟨r0, r1, r2, r3, r4, r5, r6⟩ := (Q5.call hst).sevenG
                refine wpOp_step rfl (fun K' hK' => ?_)
                go_simp
                exact hK' _ _ (hK _ rfl)
              · obtain ⟨r0, r1, r2, r3, r4, r5, r6⟩ := (P5.call hst).sevenG
                refine wpOp_step rfl (fun K' hK' => ?_)
                go_simp
                exact hK' _ _ (hK _ rfl)
              · have e4 : vs 4 = .int .i64 13 := hd 4 (by kernel_rfl)
                simp only [e4] at hK ⊢
                refine wpOp_step rfl (fun K' hK' => ?_)
                go_simp
                exact hK' _ _ (hK _ rfl)
            case hcall11 =>
              intro s i hs vs act W K ha' hst hd hK
              simp only [fillF, Act.put, List.take_succ_cons, List.take_zero, List.setIfInBounds_toArray, List.set_cons_zero, List.set_cons_succ] at ha'
              subst ha'
              rcases s with _ | s
              · obtain rfl : 0 = i := by simpa using hs
                refine wpOp_step rfl (fun K' hK' => ?_)
                go_simp
                exact hK' _ _ (hK _ _ ⟨W.heap.size, rfl, Blk.new W _ _⟩ ((Below.refl _ _).alloc (Nat.le_refl _) _) (hst.alloc hst.size _))
              · simp at hs
            intro vs act W3 ha' hst hf
            simp only [fillF, Act.put, List.take_succ_cons, List.take_zero, List.drop_succ_cons, List.drop_zero, List.setIfInBounds_toArray, List.set_cons_zero, List.set_cons_succ] at ha' ⊢
            subst ha'
            have e5 : vs 5 = .agg #[.int .i64 op3, .int .i64 k3, .int .i64 i3, .int .u64 b3, .string S3, .string N3, .slice ao3 M cap3] := hf 5 (by decide)
            have e6 : vs 6 = .agg #[.int .i64 op', .int .i64 k', .int .i64 i', .int .u64 b', .string S', .string N', .slice ao' L cap'] := hf 6 (by decide)
            have e7 : vs 7 = .int .i64 13 := hf 7 (by decide)
            simp only [e5, e6, e7]
            have P7 := P5.call hst
            have Q7 := Q5.call hst
            have P8 := (P7.put7 (a0 := .int .i64 op3) (a1 := .int .i64 k3) (a2 := .int .i64 i3) (a3 := .int .u64 b3) (a4 := .string S3) (a5 := .string N3) (a6 := .slice ao3 M cap3))
            have Q8 := (Q7.far7 (g := gp) (a0 := .int .i64 op3) (a1 := .int .i64 k3) (a2 := .int .i64 i3) (a3 := .int .u64 b3) (a4 := .string S3) (a5 := .string N3) (a6 := .slice ao3 M cap3) hne.symm)
            have Z8 := ((Z5.call hst).far7 (g := gp) (a0 := .int .i64 op3) (a1 := .int .i64 k3) (a2 := .int .i64 i3) (a3 := .int .u64 b3) (a4 := .string S3) (a5 := .string N3) (a6 := .slice ao3 M cap3) h7p)
            have X8 := ((X5.call hst).far7 (g := gp) (a0 := .int .i64 op3) (a1 := .int .i64 k3) (a2 := .int .i64 i3) (a3 := .int .u64 b3) (a4 := .string S3) (a5 := .string N3) (a6 := .slice ao3 M cap3) hrp)
            have K8 := ((K5.call hst).put7 (q := gp) (a0 := .int .i64 op3) (a1 := .int .i64 k3) (a2 := .int .i64 i3) (a3 := .int .u64 b3) (a4 := .string S3) (a5 := .string N3) (a6 := .slice ao3 M cap3) hlp)
            have B8 := below_put7 (a0 := .int .i64 op3) (a1 := .int .i64 k3) (a2 := .int .i64 i3) (a3 := .int .u64 b3) (a4 := .string S3) (a5 := .string N3) (a6 := .slice ao3 M cap3) (below_stepG B5 B5.size hst) hgp
            obtain ⟨W8, hW8⟩ : ∃ W8, put7 W3 gp (.int .i64 op3) (.int .i64 k3) (.int .i64 i3) (.int .u64 b3) (.string S3) (.string N3) (.slice ao3 M cap3) = W8 := ⟨_, rfl⟩
            rw [hW8] at P8 Q8 Z8 X8 K8 B8
            have P9 := (P8.far7 (g := gq) (a0 := .int .i64 op') (a1 := .int .i64 k') (a2 := .int .i64 i') (a3 := .int .u64 b') (a4 := .string S') (a5 := .string N') (a6 := .slice ao' L cap') hne)
            have Q9 := (Q8.put7 (a0 := .int .i64 op') (a1 := .int .i64 k') (a2 := .int .i64 i') (a3 := .int .u64 b') (a4 := .string S') (a5 := .string N') (a6 := .slice ao' L cap'))
            have Z9 := (Z8.far7 (g := gq) (a0 := .int .i64 op') (a1 := .int .i64 k') (a2 := .int .i64 i') (a3 := .int .u64 b') (a4 := .string S') (a5 := .string N') (a6 := .slice ao' L cap') h7q)
            have X9 := (X8.far7 (g := gq) (a0 := .int .i64 op') (a1 := .int .i64 k') (a2 := .int .i64 i') (a3 := .int .u64 b') (a4 := .string S') (a5 := .string N') (a6 := .slice ao' L cap') hrq)
            have K9 := (K8.put7 (q := gq) (a0 := .int .i64 op') (a1 := .int .i64 k') (a2 := .int .i64 i') (a3 := .int .u64 b') (a4 := .string S') (a5 := .string N') (a6 := .slice ao' L cap') hlq)
            have B9 := below_put7 (a0 := .int .i64 op') (a1 := .int .i64 k') (a2 := .int .i64 i') (a3 := .int .u64 b') (a4 := .string S') (a5 := .string N') (a6 := .slice ao' L cap') B8 hgq
            obtain ⟨W9, hW9⟩ : ∃ W9, put7 W8 gq (.int .i64 op') (.int .i64 k') (.int .i64 i') (.int .u64 b') (.string S') (.string N') (.slice ao' L cap') = W9 := ⟨_, rfl⟩
            rw [hW9] at P9 Q9 Z9 X9 K9 B9
            have HH := Lib.hid (And.intro hW8 hW9)
            have HX := Lib.hid (And.intro P9 (And.intro Q9 (And.intro Z9 (And.intro X9 (And.intro K9 B9)))))
            obtain ⟨j0, j1, j2, j3, j4, j5, j6⟩ := P7.sevenF
            obtain ⟨r0, r1, r2, r3, r4, r5, r6⟩ := P7.sevenG
            obtain ⟨l0, l1, l2, l3, l4, l5, l6⟩ := Q7.sevenF
            obtain ⟨m0, m1, m2, m3, m4, m5, m6⟩ := Q7.sevenG
            clear hf hst e5 e6 e7 P5 Q5 Z5 X5 K5 B5 P8 Q8 Z8 X8 K8 B8 P9 Q9 Z9 X9 K9 B9 hW8 hW9 P7 Q7
            generalize vs 0 = x10
            generalize vs 1 = x11
            generalize vs 2 = x12
            generalize vs 3 = x13
            generalize vs 4 = x14
            go_upto_region 13 with fail
            obtain ⟨hh, hk⟩ := HH.out
            unfold put7 at hh hk
            rw [← hh] at hk
            try rw [hk]
            clear hh hk HH j0 j1 j2 j3 j4 j5 j6 r0 r1 r2 r3 r4 r5 r6 l0 l1 l2 l3 l4 l5 l6 m0 m1 m2 m3 m4 m5 m6
            obtain ⟨P5, Q5, Z5, X5, K5, B5⟩ := HX.out
            clear HX
            go_wp2_with fail
            go_meet
            exact ⟨13, _, _, _, _, _, _, _, _, _, _, _, _, _, _, _, _, _, _, _, _, _, rfl, Lib.hid (by omega), Lib.hid P5, Lib.hid Q5, Lib.hid Z5, Lib.hid X5, Lib.hid K5, Lib.hid B5, Lib.hid cNu, Lib.hid hmu, Lib.hid hs3, HST0⟩
          · have HST0 : Hid (stepA n ⟨lo, hi, no⟩ XT0 = if (ku && ((op3 == 2) && E3)) = true then stepN ⟨lo, hi, no⟩ 14 mu else ⟨lo, hi, no⟩) := Lib.hid (HSTQ.out hB2)
            clear HSTQ
            go_upto_region 12 with fail
            clear pp0
            refine wp_region_chain 8 [0] (by kernel_rfl) (by kernel_rfl) (by kernel_rfl) (SwapG [.int .i64 9, .int .i64 10, .int .i64 13, .int .i64 14, .int .i64 11, .int .i64 12] 12 3 14 (.agg #[.int .i64 op', .int .i64 k', .int .i64 i', .int .u64 b', .string S', .string N', .slice ao' L cap']) (.agg #[.int .i64 op3, .int .i64 k3, .int .i64 i3, .int .u64 b3, .string S3, .string N3, .slice ao3 M cap3])) (fun _ W => Below W5.heap.size W5 W) (fun _ W W' => Below W.heap.size W W') ?hF12 ?h012 ?hstep12 ?hcall12 ?hdone12
            case hF12 =>
              intro s i hs j x W W' hjn hne' hpb h he
              match j, h with
              | 0, ⟨g, h1, h2⟩ => exact ⟨g, h1, h2.call he⟩
              | 1, h => exact h
              | 2, h => exact h
              | 3, ⟨g, h1, h2⟩ => exact ⟨g, h1, h2.call he⟩
              | 4, h => exact h
              | 5, h => exact h
              | 6, h => exact h
              | 7, h => exact h
              | j + 8, h => exact h
            case h012 => exact Below.drew (Below.refl _ _)
            case hstep12 =>
              intro i hi hni s vs act W K ha' hst hd hu' hK
              simp only [fillF, Act.put, List.take_succ_cons, List.take_zero, List.setIfInBounds_toArray, List.set_cons_zero, List.set_cons_succ] at ha'
              subst ha'
              rcases (show i = 0 ∨ i = 1 ∨ i = 2 ∨ i = 3 ∨ i = 4 ∨ i = 5 ∨ i = 6 ∨ i = 7 by omega) with rfl | rfl | rfl | rfl | rfl | rfl | rfl | rfl
              · exact (hni (by decide)).elim
              · have u7 := hu' 7 _ rfl (.inr (by kernel_rfl))
                simp only [slotOf] at u7
                simp at u7
                simp only [u7] at hK ⊢
                refine wpOp_step rfl (fun K' hK' => ?_)
                go_simp
                exact hK' _ _ (hK _ rfl)
              · have e1 : vs 1 = .int .i64 12 := hd 1 (by kernel_rfl)
                simp only [e1] at hK ⊢
                refine wpOp_step rfl (fun K' hK' => ?_)
                go_simp
                exact hK' _ _ (hK _ rfl)
              · obtain ⟨g, e0, zg⟩ := hd 0 (by kernel_rfl)
                have e2 : vs 2 = .int .i64 3 := hd 2 (by kernel_rfl)
                simp only [e0, e2] at hK ⊢
                refine wpOp_step rfl (fun K' hK' => ?_)
                go_simp
                exact hK' _ _ (hK _ ⟨g, rfl, zg⟩)
              · obtain ⟨g, e3, zg⟩ := hd 3 (by kernel_rfl)
                have y0 := zg.cell (j := 3) rfl
                simp only [e3] at hK ⊢
                refine wpOp_step rfl (fun K' hK' => ?_)
                go_simp
                exact hK' _ _ (hK _ rfl)
              · obtain ⟨r0, r1, r2, r3, r4, r5, r6⟩ := (Q5.call hst).sevenG
                refine wpOp_step rfl (fun K' hK' => ?_)
                go_simp
                exact hK' _ _ (hK _ rfl)
              · obtain ⟨r0, r1, r2, r3, r4, r5, r6⟩ := (P5.call hst).sevenG
                refine wpOp_step rfl (fun K' hK' => ?_)
                go_simp
                exact hK' _ _ (hK _ rfl)
              · have e4 : vs 4 = .int .i64 14 := hd 4 (by kernel_rfl)
                simp only [e4] at hK ⊢
                refine wpOp_step rfl (fun K' hK' => ?_)
                go_simp
                exact hK' _ _ (hK _ rfl)
            case hcall12 =>
              intro s i hs vs act W K ha' hst hd hK
              simp only [fillF, Act.put, List.take_succ_cons, List.take_zero, List.setIfInBounds_toArray, List.set_cons_zero, List.set_cons_succ] at ha'
              subst ha'
              rcases s with _ | s
              · obtain rfl : 0 = i := by simpa using hs
                refine wpOp_step rfl (fun K' hK' => ?_)
                go_simp
                exact hK' _ _ (hK _ _ ⟨W.heap.size, rfl, Blk.new W _ _⟩ ((Below.refl _ _).alloc (Nat.le_refl _) _) (hst.alloc hst.size _))
              · simp at hs
            intro vs act W3 ha' hst hf
            simp only [fillF, Act.put, List.take_succ_cons, List.take_zero, List.drop_succ_cons, List.drop_zero, List.setIfInBounds_toArray, List.set_cons_zero, List.set_cons_succ] at ha' ⊢
            subst ha'
            have e5 : vs 5 = .agg #[.int .i64 op3, .int .i64 k3, .int .i64 i3, .int .u64 b3, .string S3, .string N3, .slice ao3 M cap3] := hf 5 (by decide)
            have e6 : vs 6 = .agg #[.int .i64 op', .int .i64 k', .int .i64 i', .int .u64 b', .string S', .string N', .slice ao' L cap'] := hf 6 (by decide)
            have e7 : vs 7 = .int .i64 14 := hf 7 (by decide)
            simp only [e5, e6, e7]
            have P7 := P5.call hst
            have Q7 := Q5.call hst
            have P8 := (P7.put7 (a0 := .int .i64 op3) (a1 := .int .i64 k3) (a2 := .int .i64 i3) (a3 := .int .u64 b3) (a4 := .string S3) (a5 := .string N3) (a6 := .slice ao3 M cap3))
            have Q8 := (Q7.far7 (g := gp) (a0 := .int .i64 op3) (a1 := .int .i64 k3) (a2 := .int .i64 i3) (a3 := .int .u64 b3) (a4 := .string S3) (a5 := .string N3) (a6 := .slice ao3 M cap3) hne.symm)
            have Z8 := ((Z5.call hst).far7 (g := gp) (a0 := .int .i64 op3) (a1 := .int .i64 k3) (a2 := .int .i64 i3) (a3 := .int .u64 b3) (a4 := .string S3) (a5 := .string N3) (a6 := .slice ao3 M cap3) h7p)
            have X8 := ((X5.call hst).far7 (g := gp) (a0 := .int .i64 op3) (a1 := .int .i64 k3) (a2 := .int .i64 i3) (a3 := .int .u64 b3) (a4 := .string S3) (a5 := .string N3) (a6 := .slice ao3 M cap3) hrp)
            have K8 := ((K5.call hst).put7 (q := gp) (a0 := .int .i64 op3) (a1 := .int .i64 k3) (a2 := .int .i64 i3) (a3 := .int .u64 b3) (a4 := .string S3) (a5 := .string N3) (a6 := .slice ao3 M cap3) hlp)
            have B8 := below_put7 (a0 := .int .i64 op3) (a1 := .int .i64 k3) (a2 := .int .i64 i3) (a3 := .int .u64 b3) (a4 := .string S3) (a5 := .string N3) (a6 := .slice ao3 M cap3) (below_stepG B5 B5.size hst) hgp
            obtain ⟨W8, hW8⟩ : ∃ W8, put7 W3 gp (.int .i64 op3) (.int .i64 k3) (.int .i64 i3) (.int .u64 b3) (.string S3) (.string N3) (.slice ao3 M cap3) = W8 := ⟨_, rfl⟩
            rw [hW8] at P8 Q8 Z8 X8 K8 B8
            have P9 := (P8.far7 (g := gq) (a0 := .int .i64 op') (a1 := .int .i64 k') (a2 := .int .i64 i') (a3 := .int .u64 b') (a4 := .string S') (a5 := .string N') (a6 := .slice ao' L cap') hne)
            have Q9 := (Q8.put7 (a0 := .int .i64 op') (a1 := .int .i64 k') (a2 := .int .i64 i') (a3 := .int .u64 b') (a4 := .string S') (a5 := .string N') (a6 := .slice ao' L cap'))
            have Z9 := (Z8.far7 (g := gq) (a0 := .int .i64 op') (a1 := .int .i64 k') (a2 := .int .i64 i') (a3 := .int .u64 b') (a4 := .string S') (a5 := .string N') (a6 := .slice ao' L cap') h7q)
            have X9 := (X8.far7 (g := gq) (a0 := .int .i64 op') (a1 := .int .i64 k') (a2 := .int .i64 i') (a3 := .int .u64 b') (a4 := .string S') (a5 := .string N') (a6 := .slice ao' L cap') hrq)
            have K9 := (K8.put7 (q := gq) (a0 := .int .i64 op') (a1 := .int .i64 k') (a2 := .int .i64 i') (a3 := .int .u64 b') (a4 := .string S') (a5 := .string N') (a6 := .slice ao' L cap') hlq)
            have B9 := below_put7 (a0 := .int .i64 op') (a1 := .int .i64 k') (a2 := .int .i64 i') (a3 := .int .u64 b') (a4 := .string S') (a5 := .string N') (a6 := .slice ao' L cap') B8 hgq
            obtain ⟨W9, hW9⟩ : ∃ W9, put7 W8 gq (.int .i64 op') (.int .i64 k') (.int .i64 i') (.int .u64 b') (.string S') (.string N') (.slice ao' L cap') = W9 := ⟨_, rfl⟩
            rw [hW9] at P9 Q9 Z9 X9 K9 B9
            have HH := Lib.hid (And.intro hW8 hW9)
            have HX := Lib.hid (And.intro P9 (And.intro Q9 (And.intro Z9 (And.intro X9 (And.intro K9 B9)))))
            obtain ⟨j0, j1, j2, j3, j4, j5, j6⟩ := P7.sevenF
            obtain ⟨r0, r1, r2, r3, r4, r5, r6⟩ := P7.sevenG
            obtain ⟨l0, l1, l2, l3, l4, l5, l6⟩ := Q7.sevenF
            obtain ⟨m0, m1, m2, m3, m4, m5, m6⟩ := Q7.sevenG
            clear hf hst e5 e6 e7 P5 Q5 Z5 X5 K5 B5 P8 Q8 Z8 X8 K8 B8 P9 Q9 Z9 X9 K9 B9 hW8 hW9 P7 Q7
            generalize vs 0 = x10
            generalize vs 1 = x11
            generalize vs 2 = x12
            generalize vs 3 = x13
            generalize vs 4 = x14
            go_upto_region 13 with fail
            obtain ⟨hh, hk⟩ := HH.out
            unfold put7 at hh hk
            rw [← hh] at hk
            try rw [hk]
            clear hh hk HH j0 j1 j2 j3 j4 j5 j6 r0 r1 r2 r3 r4 r5 r6 l0 l1 l2 l3 l4 l5 l6 m0 m1 m2 m3 m4 m5 m6
            obtain ⟨P5, Q5, Z5, X5, K5, B5⟩ := HX.out
            clear HX
            go_wp2_with fail
            go_meet
            exact ⟨14, _, _, _, _, _, _, _, _, _, _, _, _, _, _, _, _, _, _, _, _, _, rfl, Lib.hid (by omega), Lib.hid P5, Lib.hid Q5, Lib.hid Z5, Lib.hid X5, Lib.hid K5, Lib.hid B5, Lib.hid cNu, Lib.hid hmu, Lib.hid hs3, HST0⟩
          · have HST0 : Hid (stepA n ⟨lo, hi, no⟩ XT0 = if (ku && ((op3 == 2) && E3)) = true then stepN ⟨lo, hi, no⟩ 11 mu else ⟨lo, hi, no⟩) := Lib.hid (HSTQ.out hB2)
            clear HSTQ
            go_upto_region 12 with fail
            clear pp0
            refine wp_region_chain 8 [0] (by kernel_rfl) (by kernel_rfl) (by kernel_rfl) (SwapG [.int .i64 9, .int .i64 10, .int .i64 13, .int .i64 14, .int .i64 11, .int .i64 12] 13 4 11 (.agg #[.int .i64 op', .int .i64 k', .int .i64 i', .int .u64 b', .string S', .string N', .slice ao' L cap']) (.agg #[.int .i64 op3, .int .i64 k3, .int .i64 i3, .int .u64 b3, .string S3, .string N3, .slice ao3 M cap3])) (fun _ W => Below W5.heap.size W5 W) (fun _ W W' => Below W.heap.size W W') ?hF13 ?h013 ?hstep13 ?hcall13 ?hdone13
            case hF13 =>
              intro s i hs j x W W' hjn hne' hpb h he
              match j, h with
              | 0, ⟨g, h1, h2⟩ => exact ⟨g, h1, h2.call he⟩
              | 1, h => exact h
              | 2, h => exact h
              | 3, ⟨g, h1, h2⟩ => exact ⟨g, h1, h2.call he⟩
              | 4, h => exact h
              | 5, h => exact h
              | 6, h => exact h
              | 7, h => exact h
              | j + 8, h => exact h
            case h013 => exact Below.drew (Below.refl _ _)
            case hstep13 =>
              intro i hi hni s vs act W K ha' hst hd hu' hK
              simp only [fillF, Act.put, List.take_succ_cons, List.take_zero, List.setIfInBounds_toArray, List.set_cons_zero, List.set_cons_succ] at ha'
              subst ha'
              rcases (show i = 0 ∨ i = 1 ∨ i = 2 ∨ i = 3 ∨ i = 4 ∨ i = 5 ∨ i = 6 ∨ i = 7 by omega) with rfl | rfl | rfl | rfl | rfl | rfl | rfl | rfl
              · exact (hni (by decide)).elim
              · have u7 := hu' 7 _ rfl (.inr (by kernel_rfl))
                simp only [slotOf] at u7
                simp at u7
                simp only [u7] at hK ⊢
                refine wpOp_step rfl (fun K' hK' => ?_)
                go_simp
                exact hK' _ _ (hK _ rfl)
              · have e1 : vs 1 = .int .i64 13 := hd 1 (by kernel_rfl)
                simp only [e1] at hK ⊢
                refine wpOp_step rfl (fun K' hK' => ?_)
                go_simp
                exact hK' _ _ (hK _ rfl)
              · obtain ⟨g, e0, zg⟩ := hd 0 (by kernel_rfl)
                have e2 : vs 2 = .int .i64 4 := hd 2 (by kernel_rfl)
                simp only [e0, e2] at hK ⊢
                refine wpOp_step rfl (fun K' hK' => ?_)
                go_simp
                exact hK' _ _ (hK _ ⟨g, rfl, zg⟩)
              · obtain ⟨g, e3, zg⟩ := hd 3 (by kernel_rfl)
                have y0 := zg.cell (j := 4) rfl
                simp only [e3] at hK ⊢
                refine wpOp_step rfl (fun K' hK' => ?_)
                go_simp
                exact hK' _ _ (hK _ rfl)
              · obtain ⟨r0, r1, r2, r3, r4, r5, r6⟩ := (Q5.call hst).sevenG
                refine wpOp_step rfl (fun K' hK' => ?_)
                go_simp
                exact hK' _ _ (hK _ rfl)
              · obtain ⟨r0, r1, r2, r3, r4, r5, r6⟩ := (P5.call hst).sevenG
                refine wpOp_step rfl (fun K' hK' => ?_)
                go_simp
                exact hK' _ _ (hK _ rfl)
              · have e4 : vs 4 = .int .i64 11 := hd 4 (by kernel_rfl)
                simp only [e4] at hK ⊢
                refine wpOp_step rfl (fun K' hK' => ?_)
                go_simp
                exact hK' _ _ (hK _ rfl)
            case hcall13 =>
              intro s i hs vs act W K ha' hst hd hK
              simp only [fillF, Act.put, List.take_succ_cons, List.take_zero, List.setIfInBounds_toArray, List.set_cons_zero, List.set_cons_succ] at ha'
              subst ha'
              rcases s with _ | s
              · obtain rfl : 0 = i := by simpa using hs
                refine wpOp_step rfl (fun K' hK' => ?_)
                go_simp
                exact hK' _ _ (hK _ _ ⟨W.heap.size, rfl, Blk.new W _ _⟩ ((Below.refl _ _).alloc (Nat.le_refl _) _) (hst.alloc hst.size _))
              · simp at hs
            intro vs act W3 ha' hst hf
            simp only [fillF, Act.put, List.take_succ_cons, List.take_zero, List.drop_succ_cons, List.drop_zero, List.setIfInBounds_toArray, List.set_cons_zero, List.set_cons_succ] at ha' ⊢
            subst ha'
            have e5 : vs 5 = .agg #[.int .i64 op3, .int .i64 k3, .int .i64 i3, .int .u64 b3, .string S3, .string N3, .slice ao3 M cap3] := hf 5 (by decide)
            have e6 : vs 6 = .agg #[.int .i64 op', .int .i64 k', .int .i64 i', .int .u64 b', .string S', .string N', .slice ao' L cap'] := hf 6 (by decide)
            have e7 : vs 7 = .int .i64 11 := hf 7 (by decide)
            simp only [e5, e6, e7]
            have P7 := P5.call hst
            have Q7 := Q5.call hst
            have P8 := (P7.put7 (a0 := .int .i64 op3) (a1 := .int .i64 k3) (a2 := .int .i64 i3) (a3 := .int .u64 b3) (a4 := .string S3) (a5 := .string N3) (a6 := .slice ao3 M cap3))
            have Q8 := (Q7.far7 (g := gp) (a0 := .int .i64 op3) (a1 := .int .i64 k3) (a2 := .int .i64 i3) (a3 := .int .u64 b3) (a4 := .string S3) (a5 := .string N3) (a6 := .slice ao3 M cap3) hne.symm)
            have Z8 := ((Z5.call hst).far7 (g := gp) (a0 := .int .i64 op3) (a1 := .int .i64 k3) (a2 := .int .i64 i3) (a3 := .int .u64 b3) (a4 := .string S3) (a5 := .string N3) (a6 := .slice ao3 M cap3) h7p)
            have X8 := ((X5.call hst).far7 (g := gp) (a0 := .int .i64 op3) (a1 := .int .i64 k3) (a2 := .int .i64 i3) (a3 := .int .u64 b3) (a4 := .string S3) (a5 := .string N3) (a6 := .slice ao3 M cap3) hrp)
            have K8 := ((K5.call hst).put7 (q := gp) (a0 := .int .i64 op3) (a1 := .int .i64 k3) (a2 := .int .i64 i3) (a3 := .int .u64 b3) (a4 := .string S3) (a5 := .string N3) (a6 := .slice ao3 M cap3) hlp)
            have B8 := below_put7 (a0 := .int .i64 op3) (a1 := .int .i64 k3) (a2 := .int .i64 i3) (a3 := .int .u64 b3) (a4 := .string S3) (a5 := .string N3) (a6 := .slice ao3 M cap3) (below_stepG B5 B5.size hst) hgp
            obtain ⟨W8, hW8⟩ : ∃ W8, put7 W3 gp (.int .i64 op3) (.int .i64 k3) (.int .i64 i3) (.int .u64 b3) (.string S3) (.string N3) (.slice ao3 M cap3) = W8 := ⟨_, rfl⟩
            rw [hW8] at P8 Q8 Z8 X8 K8 B8
            have P9 := (P8.far7 (g := gq) (a0 := .int .i64 op') (a1 := .int .i64 k') (a2 := .int .i64 i') (a3 := .int .u64 b') (a4 := .string S') (a5 := .string N') (a6 := .slice ao' L cap') hne)
            have Q9 := (Q8.put7 (a0 := .int .i64 op') (a1 := .int .i64 k') (a2 := .int .i64 i') (a3 := .int .u64 b') (a4 := .string S') (a5 := .string N') (a6 := .slice ao' L cap'))
            have Z9 := (Z8.far7 (g := gq) (a0 := .int .i64 op') (a1 := .int .i64 k') (a2 := .int .i64 i') (a3 := .int .u64 b') (a4 := .string S') (a5 := .string N') (a6 := .slice ao' L cap') h7q)
            have X9 := (X8.far7 (g := gq) (a0 := .int .i64 op') (a1 := .int .i64 k') (a2 := .int .i64 i') (a3 := .int .u64 b') (a4 := .string S') (a5 := .string N') (a6 := .slice ao' L cap') hrq)
            have K9 := (K8.put7 (q := gq) (a0 := .int .i64 op') (a1 := .int .i64 k') (a2 := .int .i64 i') (a3 := .int .u64 b') (a4 := .string S') (a5 := .string N') (a6 := .slice ao' L cap') hlq)
            have B9 := below_put7 (a0 := .int .i64 op') (a1 := .int .i64 k') (a2 := .int .i64 i') (a3 := .int .u64 b') (a4 := .string S') (a5 := .string N') (a6 := .slice ao' L cap') B8 hgq
            obtain ⟨W9, hW9⟩ : ∃ W9, put7 W8 gq (.int .i64 op') (.int .i64 k') (.int .i64 i') (.int .u64 b') (.string S') (.string N') (.slice ao' L cap') = W9 := ⟨_, rfl⟩
            rw [hW9] at P9 Q9 Z9 X9 K9 B9
            have HH := Lib.hid (And.intro hW8 hW9)
            have HX := Lib.hid (And.intro P9 (And.intro Q9 (And.intro Z9 (And.intro X9 (And.intro K9 B9)))))
            obtain ⟨j0, j1, j2, j3, j4, j5, j6⟩ := P7.sevenF
            obtain ⟨r0, r1, r2, r3, r4, r5, r6⟩ := P7.sevenG
            obtain ⟨l0, l1, l2, l3, l4, l5, l6⟩ := Q7.sevenF
            obtain ⟨m0, m1, m2, m3, m4, m5, m6⟩ := Q7.sevenG
            clear hf hst e5 e6 e7 P5 Q5 Z5 X5 K5 B5 P8 Q8 Z8 X8 K8 B8 P9 Q9 Z9 X9 K9 B9 hW8 hW9 P7 Q7
            generalize vs 0 = x10
            generalize vs 1 = x11
            generalize vs 2 = x12
            generalize vs 3 = x13
            generalize vs 4 = x14
            go_upto_region 13 with fail
            obtain ⟨hh, hk⟩ := HH.out
            unfold put7 at hh hk
            rw [← hh] at hk
            try rw [hk]
            clear hh hk HH j0 j1 j2 j3 j4 j5 j6 r0 r1 r2 r3 r4 r5 r6 l0 l1 l2 l3 l4 l5 l6 m0 m1 m2 m3 m4 m5 m6
            obtain ⟨P5, Q5, Z5, X5, K5, B5⟩ := HX.out
            clear HX
            go_wp2_with fail
            go_meet
            exact ⟨11, _, _, _, _, _, _, _, _, _, _, _, _, _, _, _, _, _, _, _, _, _, rfl, Lib.hid (by omega), Lib.hid P5, Lib.hid Q5, Lib.hid Z5, Lib.hid X5, Lib.hid K5, Lib.hid B5, Lib.hid cNu, Lib.hid hmu, Lib.hid hs3, HST0⟩
          · have HST0 : Hid (stepA n ⟨lo, hi, no⟩ XT0 = if (ku && ((op3 == 2) && E3)) = true then stepN ⟨lo, hi, no⟩ 12 mu else ⟨lo, hi, no⟩) := Lib.hid (HSTQ.out hB2)
            clear HSTQ
            go_upto_region 12 with fail
            clear pp0
            refine wp_region_chain 8 [0] (by kernel_rfl) (by kernel_rfl) (by kernel_rfl) (SwapG [.int .i64 9, .int .i64 10, .int .i64 13, .int .i64 14, .int .i64 11, .int .i64 12] 14 5 12 (.agg #[.int .i64 op', .int .i64 k', .int .i64 i', .int .u64 b', .string S', .string N', .slice ao' L cap']) (.agg #[.int .i64 op3, .int .i64 k3, .int .i64 i3, .int .u64 b3, .string S3, .string N3, .slice ao3 M cap3])) (fun _ W => Below W5.heap.size W5 W) (fun _ W W' => Below W.heap.size W W') ?hF14 ?h014 ?hstep14 ?hcall14 ?hdone14
            case hF14 =>
              intro s i hs j x W W' hjn hne' hpb h he
              match j, h with
              | 0, ⟨g, h1, h2⟩ => exact ⟨g, h1, h2.call he⟩
              | 1, h => exact h
              | 2, h => exact h
              | 3, ⟨g, h1, h2⟩ => exact ⟨g, h1, h2.call he⟩
              | 4, h => exact h
              | 5, h => exact h
              | 6, h => exact h
              | 7, h => exact h
              | j + 8, h => exact h
            case h014 => exact Below.drew (Below.refl _ _)
            case hstep14 =>
              intro i hi hni s vs act W K ha' hst hd hu' hK
              simp only [fillF, Act.put, List.take_succ_cons, List.take_zero, List.setIfInBounds_toArray, List.set_cons_zero, List.set_cons_succ] at ha'
              subst ha'
              rcases (show i = 0 ∨ i = 1 ∨ i = 2 ∨ i = 3 ∨ i = 4 ∨ i = 5 ∨ i = 6 ∨ i = 7 by omega) with rfl | rfl | rfl | rfl | rfl | rfl | rfl | rfl
              · exact (hni (by decide)).elim
              · have u7 := hu' 7 _ rfl (.inr (by kernel_rfl))
                simp only [slotOf] at u7
                simp at u7
                simp only [u7] at hK ⊢
                refine wpOp_step rfl (fun K' hK' => ?_)
                go_simp
                exact hK' _ _ (hK _ rfl)
              · have e1 : vs 1 = .int .i64 14 := hd 1 (by kernel_rfl)
                simp only [e1] at hK ⊢
                refine wpOp_step rfl (fun K' hK' => ?_)
                go_simp
                exact hK' _ _ (hK _ rfl)
              · obtain ⟨g, e0, zg⟩ := hd 0 (by kernel_rfl)
                have e2 : vs 2 = .int .i64 5 := hd 2 (by kernel_rfl)
                simp only [e0, e2] at hK ⊢
                refine wpOp_step rfl (fun K' hK' => ?_)
                go_simp
                exact hK' _ _ (hK _ ⟨g, rfl, zg⟩)
              · obtain ⟨g, e3, zg⟩ := hd 3 (by kernel_rfl)
                have y0 := zg.cell (j := 5) rfl
                simp only [e3] at hK ⊢
                refine wpOp_step rfl (fun K' hK' => ?_)
                go_simp
                exact hK' _ _ (hK _ rfl)
              · obtain ⟨r0, r1, r2, r3, r4, r5, r6⟩ := (Q5.call hst).sevenG
                refine wpOp_step rfl (fun K' hK' => ?_)
                go_simp
                exact hK' _ _ (hK _ rfl)
              · obtain ⟨r0, r1, r2, r3, r4, r5, r6⟩ := (P5.call hst).sevenG
                refine wpOp_step rfl (fun K' hK' => ?_)
                go_simp
                exact hK' _ _ (hK _ rfl)
              · have e4 : vs 4 = .int .i64 12 := hd 4 (by kernel_rfl)
                simp only [e4] at hK ⊢
                refine wpOp_step rfl (fun K' hK' => ?_)
                go_simp
                exact hK' _ _ (hK _ rfl)
            case hcall14 =>
              intro s i hs vs act W K ha' hst hd hK
              simp only [fillF, Act.put, List.take_succ_cons, List.take_zero, List.setIfInBounds_toArray, List.set_cons_zero, List.set_cons_succ] at ha'
              subst ha'
              rcases s with _ | s
              · obtain rfl : 0 = i := by simpa using hs
                refine wpOp_step rfl (fun K' hK' => ?_)
                go_simp
                exact hK' _ _ (hK _ _ ⟨W.heap.size, rfl, Blk.new W _ _⟩ ((Below.refl _ _).alloc (Nat.le_refl _) _) (hst.alloc hst.size _))
              · simp at hs
            intro vs act W3 ha' hst hf
            simp only [fillF, Act.put, List.take_succ_cons, List.take_zero, List.drop_succ_cons, List.drop_zero, List.setIfInBounds_toArray, List.set_cons_zero, List.set_cons_succ] at ha' ⊢
            subst ha'
            have e5 : vs 5 = .agg #[.int .i64 op3, .int .i64 k3, .int .i64 i3, .int .u64 b3, .string S3, .string N3, .slice ao3 M cap3] := hf 5 (by decide)
            have e6 : vs 6 = .agg #[.int .i64 op', .int .i64 k', .int .i64 i', .int .u64 b', .string S', .string N', .slice ao' L cap'] := hf 6 (by decide)
            have e7 : vs 7 = .int .i64 12 := hf 7 (by decide)
            simp only [e5, e6, e7]
            have P7 := P5.call hst
            have Q7 := Q5.call hst
            have P8 := (P7.put7 (a0 := .int .i64 op3) (a1 := .int .i64 k3) (a2 := .int .i64 i3) (a3 := .int .u64 b3) (a4 := .string S3) (a5 := .string N3) (a6 := .slice ao3 M cap3))
            have Q8 := (Q7.far7 (g := gp) (a0 := .int .i64 op3) (a1 := .int .i64 k3) (a2 := .int .i64 i3) (a3 := .int .u64 b3) (a4 := .string S3) (a5 := .string N3) (a6 := .slice ao3 M cap3) hne.symm)
            have Z8 := ((Z5.call hst).far7 (g := gp) (a0 := .int .i64 op3) (a1 := .int .i64 k3) (a2 := .int .i64 i3) (a3 := .int .u64 b3) (a4 := .string S3) (a5 := .string N3) (a6 := .slice ao3 M cap3) h7p)
            have X8 := ((X5.call hst).far7 (g := gp) (a0 := .int .i64 op3) (a1 := .int .i64 k3) (a2 := .int .i64 i3) (a3 := .int .u64 b3) (a4 := .string S3) (a5 := .string N3) (a6 := .slice ao3 M cap3) hrp)
            have K8 := ((K5.call hst).put7 (q := gp) (a0 := .int .i64 op3) (a1 := .int .i64 k3) (a2 := .int .i64 i3) (a3 := .int .u64 b3) (a4 := .string S3) (a5 := .string N3) (a6 := .slice ao3 M cap3) hlp)
            have B8 := below_put7 (a0 := .int .i64 op3) (a1 := .int .i64 k3) (a2 := .int .i64 i3) (a3 := .int .u64 b3) (a4 := .string S3) (a5 := .string N3) (a6 := .slice ao3 M cap3) (below_stepG B5 B5.size hst) hgp
            obtain ⟨W8, hW8⟩ : ∃ W8, put7 W3 gp (.int .i64 op3) (.int .i64 k3) (.int .i64 i3) (.int .u64 b3) (.string S3) (.string N3) (.slice ao3 M cap3) = W8 := ⟨_, rfl⟩
            rw [hW8] at P8 Q8 Z8 X8 K8 B8
            have P9 := (P8.far7 (g := gq) (a0 := .int .i64 op') (a1 := .int .i64 k') (a2 := .int .i64 i') (a3 := .int .u64 b') (a4 := .string S') (a5 := .string N') (a6 := .slice ao' L cap') hne)
            have Q9 := (Q8.put7 (a0 := .int .i64 op') (a1 := .int .i64 k') (a2 := .int .i64 i') (a3 := .int .u64 b') (a4 := .string S') (a5 := .string N') (a6 := .slice ao' L cap'))
            have Z9 := (Z8.far7 (g := gq) (a0 := .int .i64 op') (a1 := .int .i64 k') (a2 := .int .i64 i') (a3 := .int .u64 b') (a4 := .string S') (a5 := .string N') (a6 := .slice ao' L cap') h7q)
            have X9 := (X8.far7 (g := gq) (a0 := .int .i64 op') (a1 := .int .i64 k') (a2 := .int .i64 i') (a3 := .int .u64 b') (a4 := .string S') (a5 := .string N') (a6 := .slice ao' L cap') hrq)
            have K9 := (K8.put7 (q := gq) (a0 := .int .i64 op') (a1 := .int .i64 k') (a2 := .int .i64 i') (a3 := .int .u64 b') (a4 := .string S') (a5 := .string N') (a6 := .slice ao' L cap') hlq)
            have B9 := below_put7 (a0 := .int .i64 op') (a1 := .int .i64 k') (a2 := .int .i64 i') (a3 := .int .u64 b') (a4 := .string S') (a5 := .string N') (a6 := .slice ao' L cap') B8 hgq
            obtain ⟨W9, hW9⟩ : ∃ W9, put7 W8 gq (.int .i64 op') (.int .i64 k') (.int .i64 i') (.int .u64 b') (.string S') (.string N') (.slice ao' L cap') = W9 := ⟨_, rfl⟩
            rw [hW9] at P9 Q9 Z9 X9 K9 B9
            have HH := Lib.hid (And.intro hW8 hW9)
            have HX := Lib.hid (And.intro P9 (And.intro Q9 (And.intro Z9 (And.intro X9 (And.intro K9 B9)))))
            obtain ⟨j0, j1, j2, j3, j4, j5, j6⟩ := P7.sevenF
            obtain ⟨r0, r1, r2, r3, r4, r5, r6⟩ := P7.sevenG
            obtain ⟨l0, l1, l2, l3, l4, l5, l6⟩ := Q7.sevenF
            obtain ⟨m0, m1, m2, m3, m4, m5, m6⟩ := Q7.sevenG
            clear hf hst e5 e6 e7 P5 Q5 Z5 X5 K5 B5 P8 Q8 Z8 X8 K8 B8 P9 Q9 Z9 X9 K9 B9 hW8 hW9 P7 Q7
            generalize vs 0 = x10
            generalize vs 1 = x11
            generalize vs 2 = x12
            generalize vs 3 = x13
            generalize vs 4 = x14
            go_upto_region 13 with fail
            obtain ⟨hh, hk⟩ := HH.out
            unfold put7 at hh hk
            rw [← hh] at hk
            try rw [hk]
            clear hh hk HH j0 j1 j2 j3 j4 j5 j6 r0 r1 r2 r3 r4 r5 r6 l0 l1 l2 l3 l4 l5 l6 m0 m1 m2 m3 m4 m5 m6
            obtain ⟨P5, Q5, Z5, X5, K5, B5⟩ := HX.out
            clear HX
            go_wp2_with fail
            go_meet
            exact ⟨12, _, _, _, _, _, _, _, _, _, _, _, _, _, _, _, _, _, _, _, _, _, rfl, Lib.hid (by omega), Lib.hid P5, Lib.hid Q5, Lib.hid Z5, Lib.hid X5, Lib.hid K5, Lib.hid B5, Lib.hid cNu, Lib.hid hmu, Lib.hid hs3, HST0⟩
      case rest =>
        clear HSTP HSTQ cNu cNv hs1 hs2 hs3 hs4 pp0 hB2 hmu hmv P5 Q5 Z5 X5 K5 B5
        obtain ⟨co, po, pk, pi, pb, pS, pN, pao, pL, pcap, qo, qk, qi, qb, qS, qN, qao, qL, qcap, kq, m, EQ, rfl, hco, hP, hQ, hZ, hX, hK, hB, hc, hm, hs, HST0⟩ := hcut
        have B5 := hB.out
        have Z5 := hZ.out
        have X5 := hX.out
        have K5 := hK.out
        have P5 := hP.out
        have hco := hco.out
        have hm := hm.out
        have hs := hs.out
        have hsn : (pN.toList != NM.toList) = !EQ := by rw [← hs]; rfl
        obtain ⟨r0, r1, r2, r3, r4, r5, r6⟩ := hQ.out.sevenG
        clear hB hZ hX hK hP hQ
        go_wp2_with fail
        refine (hc.out _ B5).mono ?_
        rintro e W6 ⟨rfl, hb6⟩
        have B6 := below_stepG B5 B5.size hb6
        have P6 := P5.call hb6
        have Z6 := Z5.call hb6
        have X6 := X5.call hb6
        have K6 := K5.call hb6
        clear hb6 hc B5 P5 Z5 X5 K5 r0 r1 r2 r3 r4 r5 r6
        obtain ⟨r0, r1, r2, r3, r4, r5, r6⟩ := P6.sevenG
        cases kq
        · have HST : Hid (stepA n ⟨lo, hi, no⟩ XT0 = ⟨lo, hi, no⟩) := Lib.hid HST0.out
          clear HST0
          go_wp2_with fail
          go_roundw
          case rel => exact ⟨j + 1, ⟨lo, hi, no⟩, by omega, by go_num, rfl, Lib.hid (by rw [HT1.out, ← HS.out]; exact HST.out.symm), Lib.hid Z6, Lib.hid X6, Lib.hid K6, B6⟩
          case measure => simp [intOf]; omega
        · by_cases h32 : po = 2
          · subst h32
            cases EQ
            · have HST : Hid (stepA n ⟨lo, hi, no⟩ XT0 = ⟨lo, hi, no⟩) := Lib.hid HST0.out
              clear HST0
              go_wp2_with fail
              go_roundw
              case rel => exact ⟨j + 1, ⟨lo, hi, no⟩, by omega, by go_num, rfl, Lib.hid (by rw [HT1.out, ← HS.out]; exact HST.out.symm), Lib.hid Z6, Lib.hid X6, Lib.hid K6, B6⟩
              case measure => simp [intOf]; omega
            · have HST : Hid (stepA n ⟨lo, hi, no⟩ XT0 = stepN ⟨lo, hi, no⟩ co m) := Lib.hid HST0.out
              clear HST0
              rcases (show co = 9 ∨ co = 10 ∨ co = 11 ∨ co = 12 ∨ co = 13 ∨ co = 14 by omega) with rfl | rfl | rfl | rfl | rfl | rfl
              · cases no
                · obtain ⟨⟨p0, p1⟩, f0, f1⟩ := Z6.two
                  go_wp2_with fail
                  go_roundw
                  case rel => exact ⟨j + 1, ⟨max lo m, min hi m, false⟩, by omega, by go_num, rfl, Lib.hid (by rw [HT1.out, ← HS.out]; exact (HST.out.trans (stepN9 lo hi false m)).symm), Lib.hid ((Z6.set 0 _).set 1 _), Lib.hid (((X6).other ⟨g7, 0, none⟩ _ hr7).other ⟨g7, 1, none⟩ _ hr7), Lib.hid (((K6).own 0 _).own 1 _), ((B6).setCell (p := ⟨g7, 0, none⟩) h7w _).setCell (p := ⟨g7, 1, none⟩) h7w _⟩
                  case measure => simp [intOf]; omega
                · obtain ⟨⟨p0, p1⟩, f0, f1⟩ := Z6.two
                  go_wp2_with fail
                  go_roundw
                  case rel => exact ⟨j + 1, ⟨max lo m, min hi m, true⟩, by omega, by go_num, rfl, Lib.hid (by rw [HT1.out, ← HS.out]; exact (HST.out.trans (stepN9 lo hi true m)).symm), Lib.hid ((Z6.set 0 _).set 1 _), Lib.hid (((X6).other ⟨g7, 0, none⟩ _ hr7).other ⟨g7, 1, none⟩ _ hr7), Lib.hid (((K6).own 0 _).own 1 _), ((B6).setCell (p := ⟨g7, 0, none⟩) h7w _).setCell (p := ⟨g7, 1, none⟩) h7w _⟩
                  case measure => simp [intOf]; omega
              · obtain ⟨⟨p0, p1⟩, f0, f1⟩ := Z6.two
                go_wp2_with fail
                go_roundw
                case rel => exact ⟨j + 1, ⟨lo, hi, no⟩, by omega, by go_num, rfl, Lib.hid (by rw [HT1.out, ← HS.out]; exact (HST.out.trans (stepN10 lo hi no m)).symm), Lib.hid (Z6), Lib.hid (X6), Lib.hid (K6), B6⟩
                case measure => simp [intOf]; omega
              · have wm : IntKind.i64.wrap (m - 1) = m - 1 := by rw [IntKind.wrap_i64]; omega
                obtain ⟨⟨p0, p1⟩, f0, f1⟩ := Z6.two
                go_wp2_with fail
                go_roundw
                case rel => exact ⟨j + 1, ⟨lo, min hi (m - 1), no⟩, by omega, by go_num, rfl, Lib.hid (by rw [HT1.out, ← HS.out]; exact (HST.out.trans (stepN11 lo hi no m)).symm), Lib.hid (Z6.set 1 _), Lib.hid ((X6).other ⟨g7, 1, none⟩ _ hr7), Lib.hid ((K6).own 1 _), (B6).setCell (p := ⟨g7, 1, none⟩) h7w _⟩
                case measure => simp [intOf]; omega
              · obtain ⟨⟨p0, p1⟩, f0, f1⟩ := Z6.two
                go_wp2_with fail
                go_roundw
                case rel => exact ⟨j + 1, ⟨lo, min hi m, no⟩, by omega, by go_num, rfl, Lib.hid (by rw [HT1.out, ← HS.out]; exact (HST.out.trans (stepN12 lo hi no m)).symm), Lib.hid (Z6.set 1 _), Lib.hid ((X6).other ⟨g7, 1, none⟩ _ hr7), Lib.hid ((K6).own 1 _), (B6).setCell (p := ⟨g7, 1, none⟩) h7w _⟩
                case measure => simp [intOf]; omega
              · cases no
                · by_cases hM : m = 9223372036854775807
                  · subst hM
                    have bM : ((9223372036854775807 : Int) == 9223372036854775807) = true := rfl
                    obtain ⟨⟨p0, p1⟩, f0, f1⟩ := Z6.two
                    go_wp2_with fail
                    go_roundw
                    case rel => exact ⟨j + 1, ⟨max lo 9223372036854775807, hi, true⟩, by omega, by go_num, rfl, Lib.hid (by rw [HT1.out, ← HS.out]; exact (HST.out.trans (stepN13b lo hi false)).symm), Lib.hid (Z6.set 0 _), Lib.hid ((X6).other ⟨g7, 0, none⟩ _ hr7), Lib.hid ((K6).own 0 _), (B6).setCell (p := ⟨g7, 0, none⟩) h7w _⟩
                    case measure => simp [intOf]; omega
                  · have bM : (m == 9223372036854775807) = false := by simpa using hM
                    have bL : m < 9223372036854775807 := by omega
                    have bD : decide (m < 9223372036854775807) = true := decide_eq_true bL
                    have wa : IntKind.i64.wrap (m + 1) = m + 1 := by rw [IntKind.wrap_i64]; omega
                    have HBL := Lib.hid bL
                    obtain ⟨⟨p0, p1⟩, f0, f1⟩ := Z6.two
                    go_wp2_with fail
                    go_roundw
                    case rel => exact ⟨j + 1, ⟨max lo (m + 1), hi, false⟩, by omega, by go_num, rfl, Lib.hid (by rw [HT1.out, ← HS.out]; exact (HST.out.trans (stepN13a lo hi false m HBL.out)).symm), Lib.hid (Z6.set 0 _), Lib.hid ((X6).other ⟨g7, 0, none⟩ _ hr7), Lib.hid ((K6).own 0 _), (B6).setCell (p := ⟨g7, 0, none⟩) h7w _⟩
                    case measure => simp [intOf]; omega
                · by_cases hM : m = 9223372036854775807
                  · subst hM
                    have bM : ((9223372036854775807 : Int) == 9223372036854775807) = true := rfl
                    obtain ⟨⟨p0, p1⟩, f0, f1⟩ := Z6.two
                    go_wp2_with fail
                    go_roundw
                    case rel => exact ⟨j + 1, ⟨max lo 9223372036854775807, hi, true⟩, by omega, by go_num, rfl, Lib.hid (by rw [HT1.out, ← HS.out]; exact (HST.out.trans (stepN13b lo hi true)).symm), Lib.hid (Z6.set 0 _), Lib.hid ((X6).other ⟨g7, 0, none⟩ _ hr7), Lib.hid ((K6).own 0 _), (B6).setCell (p := ⟨g7, 0, none⟩) h7w _⟩
                    case measure => simp [intOf]; omega
                  · have bM : (m == 9223372036854775807) = false := by simpa using hM
                    have bL : m < 9223372036854775807 := by omega
                    have bD : decide (m < 9223372036854775807) = true := decide_eq_true bL
                    have wa : IntKind.i64.wrap (m + 1) = m + 1 := by rw [IntKind.wrap_i64]; omega
                    have HBL := Lib.hid bL
                    obtain ⟨⟨p0, p1⟩, f0, f1⟩ := Z6.two
                    go_wp2_with fail
                    go_roundw
                    case rel => exact ⟨j + 1, ⟨max lo (m + 1), hi, true⟩, by omega, by go_num, rfl, Lib.hid (by rw [HT1.out, ← HS.out]; exact (HST.out.trans (stepN13a lo hi true m HBL.out)).symm), Lib.hid (Z6.set 0 _), Lib.hid ((X6).other ⟨g7, 0, none⟩ _ hr7), Lib.hid ((K6).own 0 _), (B6).setCell (p := ⟨g7, 0, none⟩) h7w _⟩
                    case measure => simp [intOf]; omega
              · cases no
                · obtain ⟨⟨p0, p1⟩, f0, f1⟩ := Z6.two
                  go_wp2_with fail
                  go_roundw
                  case rel => exact ⟨j + 1, ⟨max lo m, hi, false⟩, by omega, by go_num, rfl, Lib.hid (by rw [HT1.out, ← HS.out]; exact (HST.out.trans (stepN14 lo hi false m)).symm), Lib.hid (Z6.set 0 _), Lib.hid ((X6).other ⟨g7, 0, none⟩ _ hr7), Lib.hid ((K6).own 0 _), (B6).setCell (p := ⟨g7, 0, none⟩) h7w _⟩
                  case measure => simp [intOf]; omega
                · obtain ⟨⟨p0, p1⟩, f0, f1⟩ := Z6.two
                  go_wp2_with fail
                  go_roundw
                  case rel => exact ⟨j + 1, ⟨max lo m, hi, true⟩, by omega, by go_num, rfl, Lib.hid (by rw [HT1.out, ← HS.out]; exact (HST.out.trans (stepN14 lo hi true m)).symm), Lib.hid (Z6.set 0 _), Lib.hid ((X6).other ⟨g7, 0, none⟩ _ hr7), Lib.hid ((K6).own 0 _), (B6).setCell (p := ⟨g7, 0, none⟩) h7w _⟩
                  case measure => simp [intOf]; omega
          · have b3 : (po == 2) = false := by simpa using h32
            have b3n : (po != 2) = true := by simpa using h32
            have HST : Hid (stepA n ⟨lo, hi, no⟩ XT0 = ⟨lo, hi, no⟩) := Lib.hid (by have := HST0.out; rw [b3] at this; exact this)
            clear HST0 h32
            go_wp2_with fail
            go_roundw
            case rel => exact ⟨j + 1, ⟨lo, hi, no⟩, by omega, by go_num, rfl, Lib.hid (by rw [HT1.out, ← HS.out]; exact HST.out.symm), Lib.hid Z6, Lib.hid X6, Lib.hid K6, B6⟩
            case measure => simp [intOf]; omega
end Go.Proofs.YtablacloabpjfabDoor
