/-
  PLAIN: what is wrong with the cells of a drawer, with a table. CONTRACTS of the comparison of keys and of hasKey.
  CONDITIONS: each theorem's own hypotheses.
-/
import Derived.Test.YtpneoaehkibdeaaDoorTabO
import Derived.Test.YtpneoaehkibdeaaDoorBlk
import Derived.BigQuiet
namespace Go.Proofs.YtpneoaehkibdeaaDoor
open Go.RowKit
set_option linter.unusedVariables false
set_option maxRecDepth 100000

def keyC (c : Ce) : Int := (c.row.getD 0 ⟨0, 0, 0, []⟩).i
def drL (d : Dr) : List Ce := [d.1, d.2.1, d.2.2.1, d.2.2.2]
/-- Two rows of one key: which keys were seen. -/
def keysG : List Int → List Ce → Int
  | _, [] => 0
  | seen, c :: l => if c.full = true then (if seen.contains (keyC c) = true then 8 else keysG (seen ++ [keyC c]) l) else keysG seen l
def hasK (l : List Ce) (k : Int) : Bool := l.any (fun x => x.full && keyC x == k)
/-- The same, by the cells ahead. -/
def keysP : List Ce → List Ce → Int
  | _, [] => 0
  | prev, c :: l => if (c.full && hasK prev (keyC c)) = true then 8 else keysP (prev ++ [c]) l
theorem seen_has (k : Int) : ∀ prev : List Ce, ((prev.filter (fun x => x.full)).map keyC).contains k = hasK prev k
  | [] => rfl
  | a :: prev => by
    have ih := seen_has k prev
    unfold hasK at ih ⊢
    rw [List.filter_cons, List.any_cons]
    cases ha : a.full
    · simp only [Bool.false_eq_true, if_false, Bool.false_and, Bool.false_or]
      exact ih
    · simp only [if_true, List.map_cons, List.contains_cons, ih, Bool.true_and]
      congr 1
      rw [Bool.eq_iff_iff]
      simp only [beq_iff_eq]
      exact eq_comm
theorem keys_same : ∀ (l prev : List Ce), keysP prev l = keysG ((prev.filter (fun x => x.full)).map keyC) l
  | [], prev => rfl
  | c :: l, prev => by
    have h1 := seen_has (keyC c) prev
    have ih := keys_same l (prev ++ [c])
    rw [List.filter_append, List.map_append] at ih
    simp only [keysP, keysG]
    rw [h1, ih]
    cases hf : c.full
    · rw [List.filter_cons, hf]
      simp
    · rw [List.filter_cons, hf]
      simp
def cellR (cols : List Cl) (c : Ce) : Int := if c.full = true then rowR c.row cols else if 0 < c.row.length then 3 else 0
def cellsR (cols : List Cl) : List Ce → Int
  | [] => 0
  | c :: l => if cellR cols c ≠ 0 then cellR cols c else cellsR cols l
def drawR (cols : List Cl) (l : List Ce) : Int := if cellsR cols l ≠ 0 then cellsR cols l else keysG [] l
def headB : List Cl → Bool
  | [] => false
  | c :: _ => c.k == 2 && !c.nl
def tabR (t : Tb) : Int := if t.there = false then 5 else if (nameB t.name && decide (t.name.length ≤ 8)) = false then 3 else if colsR t.cols ≠ 0 then colsR t.cols else if headB t.cols = false then 3 else if drawR t.cols (drL t.d0) ≠ 0 then drawR t.cols (drL t.d0) else drawR t.cols (drL t.d1)
/-- A full cell has a row that is not empty. -/
def RowsE (l : List Ce) : Prop := ∀ c ∈ l, c.full = true → c.row ≠ []
theorem rows_of {cols : List Cl} (hc : cols ≠ []) : ∀ {l : List Ce}, cellsR cols l = 0 → RowsE l
  | [], _ => fun c h => by cases h
  | a :: l, h => by
    simp only [cellsR] at h
    by_cases h1 : cellR cols a ≠ 0
    · rw [if_pos h1] at h; exact absurd h h1
    · rw [if_neg h1] at h
      intro c hm hf
      rcases List.mem_cons.1 hm with rfl | hm
      · intro he
        have h2 : cellR cols c = 0 := by simpa using h1
        unfold cellR at h2
        rw [if_pos hf] at h2
        unfold rowR at h2
        by_cases h3 : colsR cols ≠ 0
        · rw [if_pos h3] at h2; exact h3 h2
        · rw [if_neg h3, if_pos (by rw [he]; intro hz; exact hc (List.eq_nil_of_length_eq_zero hz.symm))] at h2
          omega
      · exact rows_of hc h c hm hf
/-- How two numbers stand. -/
def cmpI (a b : Int) : Int := if a < b then -1 else if a = b then 0 else 1
theorem cmpI_zero (a b : Int) : (cmpI a b == 0) = (a == b) := by
  unfold cmpI
  by_cases h : a < b
  · rw [if_pos h]
    have : a ≠ b := by omega
    simp [this]
  · rw [if_neg h]
    by_cases h2 : a = b
    · simp [h2]
    · simp [h2]
theorem isNaNI_any (s : Int) (w : World) : Calls Tryd.prog 129 #[.int .i64 s] w fun e w' => e = .returned (.bool false) ∧ w' = w := by
  go_enter Tryd.func129, Tryd.ntmps129
  go_wp2_with fail
  go_ret
  exact ⟨by simp, rfl⟩
theorem compareI_any (a b : Int) (w : World) : Calls Tryd.prog 105 #[.int .i64 a, .int .i64 b] w fun e w' => e = .returned (.int .i64 (cmpI a b)) ∧ w' = w := by
  obtain ⟨R, hR⟩ : ∃ R, cmpI a b = R := ⟨_, rfl⟩
  rw [hR]
  unfold cmpI at hR
  have cA := isNaNI_any a w
  have cB := isNaNI_any b w
  have HR := Lib.hid hR
  clear hR
  go_enter Tryd.func105, Tryd.ntmps105
  go_wp2_with fail
  refine cA.mono ?_
  rintro e w ⟨rfl, rfl⟩
  clear cA
  go_wp2_with fail
  refine cB.mono ?_
  rintro e w ⟨rfl, rfl⟩
  clear cB
  by_cases h1 : a < b
  · have H1 := Lib.hid h1
    go_wp2_with fail
    go_ret
    exact ⟨by rw [← HR.out, if_pos H1.out]; first | done | rfl, rfl⟩
  · have H1 := Lib.hid h1
    by_cases h2 : a = b
    · have h3 : ¬ b < a := by omega
      have H2 := Lib.hid h2
      clear h2
      go_wp2_with fail
      go_ret
      exact ⟨by rw [← HR.out, if_neg (Int.not_lt.2 H1.out), if_pos H2.out]; first | done | rfl, rfl⟩
    · have h3 : b < a := by omega
      have H2 := Lib.hid h2
      clear h2
      go_wp2_with fail
      go_ret
      exact ⟨by rw [← HR.out, if_neg (Int.not_lt.2 H1.out), if_neg H2.out]; first | done | rfl, rfl⟩
theorem drew_moreT {w w' : World} {nd a : Nat} (h : ∃ q, w' = (w.drewN (nd + a)).drewN q) : ∃ n, w' = w.drewN (nd + n) := by
  obtain ⟨q, rfl⟩ := h
  exact ⟨a + q, by rw [World.drewN_drewN, Nat.add_assoc]⟩
theorem byKey_any (x y : Int) (a o n c a' o' n' c' : Nat) (w : World) (hn : 0 < n) (hn' : 0 < n') (hx : w.cell? ⟨a, o + 1, none⟩ = some (.int .i64 x)) (hy : w.cell? ⟨a', o' + 1, none⟩ = some (.int .i64 y)) :
    Calls Tryd.prog 74 #[.slice (some ⟨a, o, none⟩) n c, .slice (some ⟨a', o', none⟩) n' c'] w fun e w' => e = .returned (.int .i64 (cmpI x y)) ∧ Below w.heap.size w w' := by
  have i1 : (0 : Int) < (n : Int) := by omega
  have i2 : (0 : Int) < (n' : Int) := by omega
  have cC := fun W => compareI_any x y W
  have HF : Hid (∀ W, Below w.heap.size w W → W.cell? ⟨a, o + 1, none⟩ = some (.int .i64 x) ∧ W.cell? ⟨a', o' + 1, none⟩ = some (.int .i64 y)) := Lib.hid (fun W h => ⟨(h.cell (p := ⟨a, o + 1, none⟩) (cell_lt hx)).trans hx, (h.cell (p := ⟨a', o' + 1, none⟩) (cell_lt hy)).trans hy⟩)
  clear hx hy
  go_enter Tryd.func74, Tryd.ntmps74
  go_upto_region 1 with fail
  refine wp_region_det 9 (by kernel_rfl) (by kernel_rfl) (by kernel_rfl) ?_
  simp only [List.take_succ_cons, List.take_zero, List.drop_succ_cons, List.drop_zero]
  repeat (first
    | (apply wpDet_plain _ rfl; (focus (intro W hW; obtain ⟨q0, q1⟩ := HF.out W hW; go_simp; exact ⟨rfl, Below.refl _ _⟩)); simp only [Act.put, List.setIfInBounds_toArray, List.set_cons_zero, List.set_cons_succ])
    | (apply wpDet_plain _ rfl; (focus (intro W hW; go_simp; refine (cC W).mono ?_; rintro e w' ⟨rfl, rfl⟩; exact ⟨rfl, Below.refl _ _⟩)); simp only [Act.put, List.setIfInBounds_toArray, List.set_cons_zero, List.set_cons_succ]))
  refine wpDet_nil ?_
  intro W2 hW2
  clear HF
  go_wp2_with fail
  go_ret
  exact ⟨rfl, hW2⟩
theorem vals_head {w : World} {ao : Option Addr} {v : Vl} {r : List Vl} (h : Vals w ao (v :: r)) : ∃ a o, ao = some ⟨a, o, none⟩ ∧ a < w.heap.size ∧ w.cell? ⟨a, o + 1, none⟩ = some (.int .i64 v.i) := by
  rcases h.2 with h | ⟨a, o, h1, h2, h3⟩
  · cases h
  · have := (h3 0 v rfl).2.1
    rw [Nat.zero_mul, Nat.add_zero] at this
    exact ⟨a, o, h1, h2, this⟩
theorem hasKey1_any (c : Ce) (k : Int) (b ar orr nr cr : Nat) (w : World) (hc : CeOk w c) (hne : c.full = true → c.row ≠ []) (hbl : b < w.heap.size) (hb : w.cell? ⟨b, 0, none⟩ = some (.slice (some ⟨ar, orr, none⟩) nr cr)) (har : ar < w.heap.size) (hk : w.cell? ⟨ar, orr + 1, none⟩ = some (.int .i64 k)) (hnr : 0 < nr) :
    Calls Tryd.prog 92 #[.agg #[.bool c.full, .slice c.ao c.row.length c.cap], .pointer (some ⟨b, 0, none⟩)] w fun e w' => e = .returned (.bool (c.full && keyC c == k)) ∧ Below w.heap.size w w' := by
  obtain ⟨f, row, ao, cap⟩ := c
  simp only at hne ⊢
  obtain ⟨h1, h2, h3⟩ := hc
  simp only at h1 h2 h3
  have z0 : Blk _ _ _ [_, _] := Blk.new w #[.bool f, .slice ao row.length cap] 25
  have hb0 := (Below.refl w.heap.size w).alloc (Nat.le_refl _) (.cells #[.bool f, .slice ao row.length cap] 25)
  obtain ⟨w0, hw0⟩ : ∃ W, w.alloc (.cells #[.bool f, .slice ao row.length cap] 25) = W := ⟨_, rfl⟩
  rw [hw0] at z0 hb0
  have q0 := z0.cell (j := 0) rfl
  have q1 := z0.cell (j := 1) rfl
  have q2 := (hb0.cell (p := ⟨b, 0, none⟩) hbl).trans hb
  have q3 := (hb0.cell (p := ⟨ar, orr + 1, none⟩) har).trans hk
  have HW := Lib.hid hw0
  have HB := Lib.hid hb0
  cases f with
  | false =>
    clear hw0 z0 hb0 hb hk h3
    generalize row.length = L at *
    go_enter Tryd.func92, Tryd.ntmps92
    go_upto_region 1 with fail
    rw [HW.out]
    go_wp2_with fail
    go_ret
    exact ⟨rfl, HB.out⟩
  | true =>
    cases row with
    | nil => exact absurd rfl (hne rfl)
    | cons v r =>
      obtain ⟨a, o, rfl, ha, hx⟩ := vals_head h3
      have q4 := (hb0.cell (p := ⟨a, o + 1, none⟩) ha).trans hx
      have cB := byKey_any v.i k a o (r.length + 1) cap ar orr nr cr w0 (by omega) hnr q4 q3
      obtain ⟨R, hR⟩ : ∃ R, cmpI v.i k = R := ⟨_, rfl⟩
      have hz := cmpI_zero v.i k
      rw [hR] at cB hz
      have HZ := Lib.hid hz
      have hkc : keyC ⟨true, v :: r, some ⟨a, o, none⟩, cap⟩ = v.i := rfl
      rw [hkc, ← hz]
      clear hw0 z0 hb0 hb hk h3 hx q4 q3 hz hR hkc
      rw [List.length_cons] at *
      generalize r.length + 1 = L at *
      go_enter Tryd.func92, Tryd.ntmps92
      go_upto_region 1 with fail
      rw [HW.out]
      go_wp2_with fail
      refine cB.mono ?_
      rintro e w2 ⟨rfl, hb2⟩
      have hbb := below_stepL HB.out HB.out.size hb2
      go_wp2_with fail
      go_ret
      exact ⟨by simp, hbb⟩
/-- Cells that lie in memory. -/
def LiesE (W : World) (g o : Nat) (l : List Ce) : Prop := ∀ j c, l[j]? = some c → W.cell? ⟨g, o + j * 2, none⟩ = some (.bool c.full) ∧ W.cell? ⟨g, o + j * 2 + 1, none⟩ = some (.slice c.ao c.row.length c.cap) ∧ CeOk W c
theorem LiesE.keep {w w1 : World} {g o : Nat} {l : List Ce} (h : LiesE w g o l) (hg : g < w.heap.size) (hb : Below w.heap.size w w1) : LiesE w1 g o l := fun j c hj => ⟨(hb.cell (p := ⟨g, _, none⟩) hg).trans (h j c hj).1, (hb.cell (p := ⟨g, _, none⟩) hg).trans (h j c hj).2.1, (h j c hj).2.2.keep hb⟩
theorem hasK_take (l : List Ce) (k : Int) (j : Nat) (c : Ce) (h : l[j]? = some c) : hasK (l.take (j + 1)) k = (hasK (l.take j) k || (c.full && keyC c == k)) := by
  obtain ⟨hj, he⟩ := List.getElem?_eq_some_iff.1 h
  unfold hasK
  rw [List.take_succ_eq_append_getElem hj, List.any_append, he]
  simp
set_option maxHeartbeats 4000000 in
theorem indexKey_any (l : List Ce) (g o cap : Nat) (k : Int) (b ar orr nr cr : Nat) (w : World) (hl : l.length ≤ 9223372036854775807) (hg : g < w.heap.size) (hL : LiesE w g o l) (hR : RowsE l) (hbl : b < w.heap.size) (hb : w.cell? ⟨b, 0, none⟩ = some (.slice (some ⟨ar, orr, none⟩) nr cr)) (har : ar < w.heap.size) (hk : w.cell? ⟨ar, orr + 1, none⟩ = some (.int .i64 k)) (hnr : 0 < nr) :
    Calls Tryd.prog 65 #[.slice (some ⟨g, o, none⟩) l.length cap, .func (.func 92) #[] #[.pointer (some ⟨b, 0, none⟩)]] w fun e w' => (∃ n : Int, e = .returned (.int .i64 n) ∧ decide (0 ≤ n) = hasK l k) ∧ Below w.heap.size w w' := by
  obtain ⟨m, hm⟩ : ∃ m, l.length = m := ⟨_, rfl⟩
  rw [hm] at hl ⊢
  have HC : Hid (∀ j, j < m → ∃ c, l[j]? = some c ∧ (c.full = true → c.row ≠ [])) := Lib.hid (fun j hj => by
    have h1 : l[j]? = some (l[j]'(by omega)) := List.getElem?_eq_getElem _
    exact ⟨_, h1, hR _ (List.mem_of_getElem? h1)⟩)
  have HM := Lib.hid hm
  have HL := Lib.hid hL
  have HCS := Lib.hid (And.intro hb hk)
  clear hm hL hR hb hk
  go_enter Tryd.func65, Tryd.ntmps65
  go_wp2_with fail
  go_loopw [8] (fun i wr => ∃ j : Nat, j ≤ m ∧ i = .int .i64 j ∧ Hid (hasK (l.take j) k = false) ∧ Hid (Below w.heap.size w wr)) (fun i _ => m - (intOf i).toNat)
  case atStart => exact ⟨0, Nat.zero_le _, rfl, Lib.hid rfl, Lib.hid (Below.refl _ _)⟩
  case round =>
    obtain ⟨j, hj, rfl, hal, hbw⟩ := hrel
    by_cases hlt : j < m
    · have iI : (j : Int) < (m : Int) := by omega
      obtain ⟨c, hcj, hcr⟩ := HC.out j hlt
      obtain ⟨x0, x1, x2⟩ := HL.out j c hcj
      have d0 := (hbw.out.cell (p := ⟨g, o + j * 2, none⟩) hg).trans x0
      have d1 := (hbw.out.cell (p := ⟨g, o + j * 2 + 1, none⟩) hg).trans x1
      have cC := hasKey1_any c k b ar orr nr cr wr (x2.keep hbw.out) hcr (Nat.lt_of_lt_of_le hbl hbw.out.size) ((hbw.out.cell (p := ⟨b, 0, none⟩) hbl).trans HCS.out.1) (Nat.lt_of_lt_of_le har hbw.out.size) ((hbw.out.cell (p := ⟨ar, orr + 1, none⟩) har).trans HCS.out.2) hnr
      have ht := hasK_take l k j c hcj
      rw [hal.out, Bool.false_or] at ht
      obtain ⟨z, hz⟩ : ∃ z, (c.full && keyC c == k) = z := ⟨_, rfl⟩
      rw [hz] at cC ht
      have HT := Lib.hid ht
      have HJ : Hid (j + 1 ≤ l.length) := Lib.hid (by rw [HM.out]; exact hlt)
      clear x0 x1 x2 hcj hcr ht hz hal
      generalize c.full = F at *
      generalize c.row.length = L at *
      cases z with
      | true =>
        go_wp2_with fail
        refine cC.mono ?_
        rintro e w1 ⟨rfl, hb2⟩
        have hbb := below_stepL hbw.out hbw.out.size hb2
        have hfin : hasK l k = true := by
          have h1 : hasK (l.take (j + 1)) k = true := HT.out
          unfold hasK at h1 ⊢
          rw [List.any_eq_true] at h1 ⊢
          obtain ⟨x, hx, hy⟩ := h1
          exact ⟨x, List.mem_of_mem_take hx, hy⟩
        have HF := Lib.hid hfin
        clear cC hb2 d0 d1 hfin
        go_wp2_with fail
        go_ret
        exact ⟨⟨_, rfl, by rw [HF.out]; simp⟩, hbb⟩
      | false =>
        go_wp2_with fail
        refine cC.mono ?_
        rintro e w1 ⟨rfl, hb2⟩
        have hbb := Lib.hid (below_stepL hbw.out hbw.out.size hb2)
        clear cC hb2 d0 d1
        go_wp2_with fail
        go_roundw
        case rel => exact ⟨j + 1, by omega, by go_num, HT, hbb⟩
        case measure => simp [intOf]; omega
    · have iI : ¬ (j : Int) < (m : Int) := by omega
      have hfin : hasK l k = false := by
        have := hal.out
        rw [List.take_of_length_le (by rw [HM.out]; omega)] at this
        exact this
      have HF := Lib.hid hfin
      clear hfin
      go_wp2_with fail
      go_ret
      exact ⟨⟨_, rfl, by rw [HF.out]; rfl⟩, hbw.out⟩
theorem containsKey_any (l : List Ce) (g o cap : Nat) (k : Int) (b ar orr nr cr : Nat) (w : World) (hl : l.length ≤ 9223372036854775807) (hg : g < w.heap.size) (hL : LiesE w g o l) (hR : RowsE l) (hbl : b < w.heap.size) (hb : w.cell? ⟨b, 0, none⟩ = some (.slice (some ⟨ar, orr, none⟩) nr cr)) (har : ar < w.heap.size) (hk : w.cell? ⟨ar, orr + 1, none⟩ = some (.int .i64 k)) (hnr : 0 < nr) :
    Calls Tryd.prog 91 #[.slice (some ⟨g, o, none⟩) l.length cap, .func (.func 92) #[] #[.pointer (some ⟨b, 0, none⟩)]] w fun e w' => e = .returned (.bool (hasK l k)) ∧ Below w.heap.size w w' := by
  have c1 := indexKey_any l g o cap k b ar orr nr cr w hl hg hL hR hbl hb har hk hnr
  generalize hasK l k = R at *
  generalize l.length = L at *
  clear hL hR hl hb hk
  go_enter Tryd.func91, Tryd.ntmps91
  go_wp2_with fail
  refine c1.mono ?_
  rintro e w1 ⟨⟨n, rfl, hn⟩, hb1⟩
  clear c1
  have HN := Lib.hid hn
  clear hn
  go_wp2_with fail
  go_ret
  exact ⟨by rw [← HN.out]; first | done | rfl, hb1⟩
/-- Whether one of these cells has a row of that key. -/
theorem hasKey_any (l : List Ce) (g o cap : Nat) (k : Int) (ar orr nr cr : Nat) (w : World) (hl : l.length ≤ 9223372036854775807) (hg : g < w.heap.size) (hL : LiesE w g o l) (hR : RowsE l) (har : ar < w.heap.size) (hk : w.cell? ⟨ar, orr + 1, none⟩ = some (.int .i64 k)) (hnr : 0 < nr) :
    Calls Tryd.prog 64 #[.slice (some ⟨g, o, none⟩) l.length cap, .slice (some ⟨ar, orr, none⟩) nr cr] w fun e w' => e = .returned (.bool (hasK l k)) ∧ Below w.heap.size w w' := by
  have z0 : Blk _ _ _ [_] := Blk.new w #[.slice (some ⟨ar, orr, none⟩) nr cr] 23
  have hb0 := (Below.refl w.heap.size w).alloc (Nat.le_refl _) (.cells #[.slice (some ⟨ar, orr, none⟩) nr cr] 23)
  obtain ⟨w0, hw0⟩ : ∃ W, w.alloc (.cells #[.slice (some ⟨ar, orr, none⟩) nr cr] 23) = W := ⟨_, rfl⟩
  rw [hw0] at z0 hb0
  obtain ⟨b, hb⟩ : ∃ x, w.heap.size = x := ⟨_, rfl⟩
  rw [hb] at z0
  have c1 := containsKey_any l g o cap k b ar orr nr cr w0 hl (Nat.lt_of_lt_of_le hg hb0.size) (hL.keep hg hb0) hR z0.lt (z0.cell (j := 0) rfl) (Nat.lt_of_lt_of_le har hb0.size) ((hb0.cell (p := ⟨ar, orr + 1, none⟩) har).trans hk) hnr
  generalize hasK l k = R at *
  generalize l.length = L at *
  have HW := Lib.hid hw0
  have HB := Lib.hid hb
  have HB0 := Lib.hid hb0
  clear hL hR hl hk hw0 hb hb0 z0
  go_enter Tryd.func64, Tryd.ntmps64
  go_upto_region 1 with fail
  rw [HW.out, HB.out]
  go_wp2_with fail
  refine c1.mono ?_
  rintro e w1 ⟨rfl, hb1⟩
  clear c1
  have hbb := below_stepL HB0.out HB0.out.size hb1
  go_wp2_with fail
  go_ret
  exact ⟨rfl, hbb⟩
end Go.Proofs.YtpneoaehkibdeaaDoor
