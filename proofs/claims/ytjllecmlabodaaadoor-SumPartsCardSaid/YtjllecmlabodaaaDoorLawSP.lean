/-
  THE LAW SumParts: its walk.
  CONDITIONS: package sum's roundWords hold what their initialiser lays ('KW').
-/
import Derived.Test.YtjllecmlabodaaaDoorUpTo
import Derived.Test.YtjllecmlabodaaaDoorTells
import Derived.Test.YtjllecmlabodaaaDoorRegDet
import Derived.Test.YtjllecmlabodaaaDoorEqArr
import Derived.Test.YtjllecmlabodaaaDoorGuard
namespace Go.Proofs.YtjllecmlabodaaaDoor
open Go.RowKit CodeMath
set_option linter.unusedVariables false

theorem bytes_take' {w : World} {ao : Option Addr} {l : List UInt8} (h : Bytes w ao l) (n : Nat) : Bytes w ao (l.take n) := by
  rcases h with h | ⟨a, o, h, h2, h3⟩
  · left; rw [h]; simp
  · exact .inr ⟨a, o, h, h2, fun j x hx => h3 j x (by rw [List.getElem?_take] at hx; split at hx <;> simp_all)⟩
def PartsF (BV P0 P1 P2 : Value) (k j : Nat) : Nat → Value → World → Prop
  | 0, v, _ => v = BV
  | 1, v, _ => v = .int .i64 (k : Int)
  | 2, v, _ => v = P0
  | 3, v, _ => v = BV
  | 4, v, _ => v = .int .i64 (k : Int)
  | 5, v, _ => v = .int .i64 (j : Int)
  | 6, v, _ => v = P1
  | 7, v, _ => v = BV
  | 8, v, _ => v = .int .i64 (j : Int)
  | 9, v, _ => v = P2
  | 10, v, w => ∃ g, v = .slice (some ⟨g, 0, none⟩) 3 3 ∧ Blk w g 27 [P0, P1, P2]
  | 11, v, _ => v = .int .i64 3
  | 12, v, _ => v = .int .i64 0
  | _, _, _ => True
theorem partsF_keep {BV P0 P1 P2 : Value} {k j : Nat} (i : Nat) (v : Value) (w w' : World) (h : PartsF BV P0 P1 P2 k j i v w) (he : Below w.heap.size w w') : PartsF BV P0 P1 P2 k j i v w' := by
  unfold PartsF at *
  split at h <;> (try exact h) <;> (try exact trivial)
  · obtain ⟨g, h1, h2⟩ := h; exact ⟨g, h1, h2.call he⟩

def pos3 (k j m : Nat) : Nat → Nat
  | 0 => 0
  | 1 => k
  | 2 => j
  | _ => m
theorem pieceA_zero (ao : Option Addr) (cap : Nat) : pieceA ao 0 cap = ao := by
  unfold pieceA
  split
  · rfl
  · cases ao with
    | none => rfl
    | some a => simp [Addr.add]
theorem parts_at (ao : Option Addr) (L : List UInt8) (cap k j m : Nat) (hL : L.length = m) (hkj : k ≤ j) (hjm : j ≤ m) (hmc : m ≤ cap) (hcap : cap ≤ 9223372036854775807) : ∃ (ps : Nat → Nat) (pa : Nat → Option Addr) (pn pc : Nat → Nat), ps 0 = 0 ∧ ps 3 = m ∧ ∀ q, q < 3 →
    ([Value.slice ao k cap, .slice (pieceA ao k cap) (j - k) (cap - k), .slice (pieceA ao j cap) (m - j) (cap - j)][q]? = some (.slice (pa q) (pn q) (pc q)) ∧ pn q ≤ pc q ∧ pc q ≤ 9223372036854775807 ∧ ps (q + 1) = ps q + pn q ∧ ps (q + 1) ≤ m ∧ ∀ W, Bytes W ao L → Bytes W (pa q) ((L.drop (ps q)).take (pn q))) := by
  refine ⟨pos3 k j m, fun q => pieceA ao (pos3 k j m q) cap, fun q => pos3 k j m (q + 1) - pos3 k j m q, fun q => cap - pos3 k j m q, rfl, rfl, fun q hq => ?_⟩
  match q, hq with
  | 0, _ => exact ⟨by simp [pos3, pieceA_zero], by simp [pos3]; omega, by simp [pos3]; omega, by simp [pos3], by simp [pos3]; omega, fun W h => piece_bytes ao L cap _ _ (by omega) W h⟩
  | 1, _ => exact ⟨by simp [pos3], by simp [pos3]; omega, by simp [pos3]; omega, by simp [pos3]; omega, by simp [pos3]; omega, fun W h => piece_bytes ao L cap _ _ (by omega) W h⟩
  | 2, _ => exact ⟨by simp [pos3], by simp [pos3]; omega, by simp [pos3]; omega, by simp [pos3]; omega, by simp [pos3], fun W h => piece_bytes ao L cap _ _ (by omega) W h⟩
set_option maxRecDepth 100000 in
set_option maxHeartbeats 4000000 in
theorem sumParts_walk (b : List UInt8) (ao : Option Addr) (cap : Nat) (cut more : Int) (w : World) (hT : KW w) (hc : b.length ≤ cap) (hq : cap ≤ 9223372036854775807) (hr : b.length ≤ 140737488351232) (hn : ao = none → cap = 0) (hb : Bytes w ao b)
    (c0 : -9223372036854775808 ≤ cut) (c1 : cut ≤ 9223372036854775807) (o0 : -9223372036854775808 ≤ more) (o1 : more ≤ 9223372036854775807) :
    Calls Tryd.prog 7 #[.slice ao b.length cap, .int .i64 cut, .int .i64 more] w fun e w' => e = .returned (.bool true) ∧ Below w.heap.size w w' := by
  obtain ⟨m, hm⟩ : ∃ m : Nat, min b.length 300 = m := ⟨_, rfl⟩
  have hmin : ∀ (ts : Array TypeId) (t : TypeId) (W : World), (Builtin.min_ ts t #[.int .i64 (b.length : Int), .int .i64 300]).run Tryd.prog W = .ok (.int .i64 (m : Int)) W := fun ts t W => by
    rw [run_min_int2, ← hm]
    congr 2
    split <;> omega
  have hmc : m ≤ cap := by omega
  have hm3 : m ≤ 300 := by omega
  have hsl := fun W => slice_first ao b.length cap m hmc W
  have hL : (b.take m).length = m := by rw [List.length_take]; omega
  have hbL := bytes_take' hb m
  generalize b.take m = L at hL hbL
  have cP := fun W => picked_any cut ((m : Int) + 1) W (by omega) (by omega) c0 c1
  have k0 := Int.emod_nonneg cut (show (m : Int) + 1 ≠ 0 by omega)
  have k1 := Int.emod_lt_of_pos cut (show (0 : Int) < (m : Int) + 1 by omega)
  obtain ⟨k, hk⟩ : ∃ k : Nat, (k : Int) = cut % ((m : Int) + 1) := ⟨(cut % ((m : Int) + 1)).toNat, by omega⟩
  rw [← hk] at cP k0 k1
  have hkm : k ≤ m := by omega
  clear hk k0 k1
  have cQ := fun W => picked_any more ((m : Int) - k + 1) W (by omega) (by omega) o0 o1
  have j0 := Int.emod_nonneg more (show (m : Int) - k + 1 ≠ 0 by omega)
  have j1 := Int.emod_lt_of_pos more (show (0 : Int) < (m : Int) - k + 1 by omega)
  obtain ⟨r, hr'⟩ : ∃ r : Nat, (r : Int) = more % ((m : Int) - k + 1) := ⟨(more % ((m : Int) - k + 1)).toNat, by omega⟩
  rw [← hr'] at cQ j0 j1
  have hjm : k + r ≤ m := by omega
  clear hr' j0 j1
  have mI : (m : Int) ≤ 300 := by omega
  have kI : (k : Int) ≤ m := by omega
  have rI : (k : Int) + r ≤ m := by omega
  have hzero := zero_stream
  have c3 := fun W => begin_any W
  rw [← upto_zero L] at c3
  obtain ⟨V0, hV0⟩ : ∃ V, (upto L 0).cells.toArray = V := ⟨_, rfl⟩
  rw [hV0] at c3
  have bz : ∀ W : World, Blk (W.alloc (.cells noCells 26)) W.heap.size 26 noStm.cells := fun W => Blk.new W noCells _
  have sz0 := Stm.cells_length _ (upto_held L 0)
  have hnS : noStm.cells.length = 74 := rfl
  clear hm hn
  go_enter Tryd.func7, Tryd.ntmps7
  go_upto_region 5 with (first
    | (go_at_call 23; (first | (with_reducible refine (cP _).mono ?_; clear cP) | (with_reducible refine (cQ _).mono ?_; clear cQ)); rintro e w1 ⟨rfl, rfl⟩)
    | (go_at_call 15; refine (c3 _).mono ?_; rintro e w2 ⟨rfl, k2⟩; have bn := bz w2; clear hmin)
    | (with_reducible refine wpList_store_blk rfl 26 (.tmp 9) (.tmp 37) rfl w2.heap.size 0 rfl _ _ bn (upto L 0).cells V0 (by rw [← hV0]) rfl (by rw [sz0, hnS]; omega) (by rw [sz0]; kernel_rfl) (stm_one _) ?_; intro w3 hg3 hs3 hB3))
  rw [Nat.zero_add, List.take_zero, List.nil_append, List.drop_of_length_le (by rw [sz0, hnS]; exact Nat.le_refl _), List.append_nil] at hB3
  have m3 : Below w.heap.size w w3 := (k2.alloc k2.size _).grown hg3 (by have := k2.size; simp; omega) (fun k h => by cases h; exact k2.size)
  have hge : w.heap.size ≤ w2.heap.size := k2.size
  generalize w2.heap.size = g9 at hB3 hge ⊢
  clear hs3 hg3 bn k2 hsl
  simp only [Act.put]
  obtain ⟨j, hj⟩ : ∃ j : Nat, (k : Int) + r = j := ⟨k + r, by omega⟩
  simp only [hj]
  have hkj : k ≤ j := by omega
  have hjm' : j ≤ m := by omega
  clear hj hjm rI
  have jI : (j : Int) ≤ m := by omega
  have kjI : (k : Int) ≤ j := by omega
  have s0 := fun W => slice_first ao m cap k (by omega) W
  have s1 := fun W => slice_mid ao m cap k j hkj (by omega) W
  have s2 := fun W => slice_last ao m cap j hjm' W
  obtain ⟨ps, pa, pn, pc, ps0, ps3, hps⟩ := parts_at ao L cap k j m hL hkj hjm' hmc hq
  generalize pieceA ao k cap = a1 at s1 hps
  generalize j - k = n1 at s1 hps
  generalize cap - k = d1 at s1 hps
  generalize pieceA ao j cap = a2 at s2 hps
  generalize m - j = n2 at s2 hps
  generalize cap - j = d2 at s2 hps
  refine wp_region_facts' 13 (by kernel_rfl) (by kernel_rfl) (PartsF (.slice ao m cap) (.slice ao k cap) (.slice a1 n1 d1) (.slice a2 n2 d2) k j) (fun W => Below w3.heap.size w3 W) (fun W W' => Below W.heap.size W W') ?hC ?hF ?h0 ?hstep ?hdone
  case hC => exact fun W W' hc he => below_step hc hc.size he
  case hF => exact partsF_keep
  case h0 => exact (Below.refl _ _).drew
  case hstep =>
    intro i hi vs a W K ha hc hd hu hK
    simp only [fillF, Act.put, List.take_succ_cons, List.take_zero, List.setIfInBounds_toArray, List.set_cons_zero, List.set_cons_succ] at ha
    subst ha
    clear hu
    rcases (show i = 0 ∨ i = 1 ∨ i = 2 ∨ i = 3 ∨ i = 4 ∨ i = 5 ∨ i = 6 ∨ i = 7 ∨ i = 8 ∨ i = 9 ∨ i = 10 ∨ i = 11 ∨ i = 12 by omega) with rfl | rfl | rfl | rfl | rfl | rfl | rfl | rfl | rfl | rfl | rfl | rfl | rfl
    · refine wpOp_step rfl (fun K' hK' => ?_)
      go_simp
      exact hK' _ _ (hK _ _ rfl (Below.refl _ _))
    · refine wpOp_step rfl (fun K' hK' => ?_)
      go_simp
      exact hK' _ _ (hK _ _ rfl (Below.refl _ _))
    · have e0 : vs 0 = .slice ao m cap := hd 0 (by kernel_rfl)
      have e1 : vs 1 = .int .i64 (k : Int) := hd 1 (by kernel_rfl)
      simp only [e0, e1] at hK ⊢
      refine wpOp_step rfl (fun K' hK' => ?_)
      go_simp
      exact hK' _ _ (hK _ _ rfl (Below.refl _ _))
    · refine wpOp_step rfl (fun K' hK' => ?_)
      go_simp
      exact hK' _ _ (hK _ _ rfl (Below.refl _ _))
    · refine wpOp_step rfl (fun K' hK' => ?_)
      go_simp
      exact hK' _ _ (hK _ _ rfl (Below.refl _ _))
    · refine wpOp_step rfl (fun K' hK' => ?_)
      go_simp
      exact hK' _ _ (hK _ _ rfl (Below.refl _ _))
    · have e3 : vs 3 = .slice ao m cap := hd 3 (by kernel_rfl)
      have e4 : vs 4 = .int .i64 (k : Int) := hd 4 (by kernel_rfl)
      have e5 : vs 5 = .int .i64 (j : Int) := hd 5 (by kernel_rfl)
      simp only [e3, e4, e5] at hK ⊢
      refine wpOp_step rfl (fun K' hK' => ?_)
      go_simp
      exact hK' _ _ (hK _ _ rfl (Below.refl _ _))
    · refine wpOp_step rfl (fun K' hK' => ?_)
      go_simp
      exact hK' _ _ (hK _ _ rfl (Below.refl _ _))
    · refine wpOp_step rfl (fun K' hK' => ?_)
      go_simp
      exact hK' _ _ (hK _ _ rfl (Below.refl _ _))
    · have e7 : vs 7 = .slice ao m cap := hd 7 (by kernel_rfl)
      have e8 : vs 8 = .int .i64 (j : Int) := hd 8 (by kernel_rfl)
      simp only [e7, e8] at hK ⊢
      refine wpOp_step rfl (fun K' hK' => ?_)
      go_simp
      exact hK' _ _ (hK _ _ rfl (Below.refl _ _))
    · have e2 : vs 2 = .slice ao k cap := hd 2 (by kernel_rfl)
      have e6 : vs 6 = (.slice a1 n1 d1) := hd 6 (by kernel_rfl)
      have e9 : vs 9 = .slice a2 n2 d2 := hd 9 (by kernel_rfl)
      simp only [e2, e6, e9] at hK ⊢
      refine wpOp_step rfl (fun K' hK' => ?_)
      go_simp
      exact hK' _ _ (hK _ _ ⟨_, rfl, Blk.new _ _ _⟩ ((Below.refl _ _).alloc (Nat.le_refl _) _))
    · obtain ⟨g10, e10, y10⟩ := hd 10 (by kernel_rfl)
      simp only [e10] at hK ⊢
      refine wpOp_step rfl (fun K' hK' => ?_)
      go_simp
      exact hK' _ _ (hK _ _ rfl (Below.refl _ _))
    · refine wpOp_step rfl (fun K' hK' => ?_)
      go_simp
      exact hK' _ _ (hK _ _ rfl (Below.refl _ _))
  case hdone =>
    intro vs a W3 ha hW3 hF
    have e11 := hF 11 (by decide)
    have e12 := hF 12 (by decide)
    obtain ⟨g, e10, p3⟩ := hF 10 (by decide)
    simp only [PartsF] at e11 e12
    simp only [fillF, Act.put, List.take_succ_cons, List.take_zero, List.setIfInBounds_toArray, List.set_cons_zero, List.set_cons_succ] at ha
    subst ha
    simp only [e10, e11, e12, List.drop_succ_cons, List.drop_zero, Nat.zero_add, Nat.reduceAdd]
    have B3 := hB3.call hW3
    have m4 := m3.trans (hW3.mono m3.size)
    rw [← ps0] at B3
    have H10 := Lib.hid p3
    have H9 := Lib.hid B3
    have HP := Lib.hid hps
    have HP0 := Lib.hid ps0
    have HP3 := Lib.hid ps3
    clear hF e10 e11 e12 hB3 m3 hW3 s0 s1 s2 p3 B3 hps ps0 ps3
    go_upto_region 6 with fail
    go_loopw [50] (fun ix wr => ∃ q : Nat, q ≤ 3 ∧ ix = .int .i64 q ∧ Hid (Blk wr g 27 [.slice ao k cap, (.slice a1 n1 d1), (.slice a2 n2 d2)]) ∧ Hid (Blk wr g9 26 (upto L (ps q)).cells) ∧ Below w.heap.size w wr) (fun ix _ => 3 - (intOf ix).toNat)
    case atStart => exact ⟨0, by omega, rfl, H10, H9, m4⟩
    case round =>
      obtain ⟨q, hq3, rfl, k1, k2, hbr⟩ := hrel
      clear H10 H9 m4
      by_cases hlt : q < 3
      · obtain ⟨hat, x1, x2, x3, x4, x5⟩ := HP.out q hlt
        have qI : (q : Int) < 3 := by omega
        have cA := fun W h1 h2 => upto_add L (ps q) (ps (q + 1)) (pn q) x3 (by rw [hL]; exact x4) (by omega) (pa q) (pc q) x1 x2 W h1 h2
        have hby := x5 w hbL
        have y72 := upto_72 L (ps (q + 1)) (by omega)
        have y73 := upto_73 L (ps (q + 1))
        have z73 := upto_73 L (ps q)
        have szA := Stm.cells_length _ (upto_held L (ps q))
        have szB := Stm.cells_length _ (upto_held L (ps (q + 1)))
        have k2' := k2.out
        have k1' := k1.out
        have HQ : Hid (Blk wr g 27 [.slice ao k cap, (.slice a1 n1 d1), (.slice a2 n2 d2)]) := k1
        have ce := k1'.cell hat
        have st9 : Hid (∀ W, Blk W g9 26 (upto L (ps (q + 1))).cells → Hid (Blk W g9 26 (upto L (ps (q + 1))).cells)) := fun W h => Lib.hid h
        have Hsucc : Hid (∀ W, Hid (Blk W g9 26 (upto L (ps (q + 1))).cells) → True) := fun _ _ => trivial
        obtain ⟨p', hp'⟩ : ∃ p', ps (q + 1) = p' := ⟨_, rfl⟩
        obtain ⟨p, hp⟩ : ∃ p, ps q = p := ⟨_, rfl⟩
        rw [hp'] at x3 x4 cA y72 y73 szB
        rw [hp] at x3 x5 cA z73 szA k2' hby
        have HP' := Lib.hid hp'
        clear hp hp' st9 Hsucc x5
        generalize pa q = A at ce cA hby hat
        generalize pn q = N at ce cA hby x1 x3 hat
        generalize pc q = C at ce cA x1 x2 hat
        have e1 : ((p' : Nat) : Int) = (p : Int) + N := by omega
        have e2 : ((p' % 64 : Nat) : Int) = ((p : Int) + N) % 64 := by omega
        rw [e1] at y73
        rw [e2] at y72
        have pN : (p : Int) + N ≤ 300 := by omega
        obtain ⟨VA, hVA⟩ : ∃ V, (upto L p).cells.toArray = V := ⟨_, rfl⟩
        obtain ⟨VB, hVB⟩ : ∃ V, (upto L p').cells.toArray = V := ⟨_, rfl⟩
        rw [hVA, hVB] at cA
        have eA : (((upto L p).cells.drop 0).take 74).toArray = VA := by rw [List.drop_zero, List.take_of_length_le (by omega)]; exact hVA
        have eB : (((upto L p').cells.drop 0).take 74).toArray = VB := by rw [List.drop_zero, List.take_of_length_le (by omega)]; exact hVB
        generalize (upto L p).cells = SA at *
        obtain ⟨SB, hSB⟩ : ∃ S, (upto L p').cells = S := ⟨_, rfl⟩
        rw [hSB] at hVB eB szB y72 y73
        have HSB := Lib.hid hSB
        have HX := Lib.hid x3
        clear hSB e1 e2 x3 hat hV0 c3 k2 k1
        go_upto_region 9 with (first
          | (with_reducible refine wpList_load_blk rfl 26 (.tmp 9) rfl g9 0 74 rfl _ _ k2' (by rw [szA]; omega) VA eA _ rfl rfl (by kernel_rfl) ?_)
          | (go_at_call 13; refine (cA _ (hby.keep hbr) (hT.keep hbr (Nat.le_refl _))).mono ?_; rintro e w5 ⟨rfl, k5⟩; have B9 := k2'.call k5; have B10 := k1'.call k5; have m5 := below_step hbr hbr.size k5; have bn := bz w5; clear cA)
          | (with_reducible refine wpList_store_blk rfl 26 (.tmp 12) (.tmp 58) rfl w5.heap.size 0 rfl _ _ bn SB VB (by rw [← hVB]) rfl (by rw [szB, hnS]; omega) (by rw [szB]; kernel_rfl) (by rw [← HSB.out]; exact stm_one _) ?_; intro w6 hg6 hs6 hB6))
        rw [Nat.zero_add, List.take_zero, List.nil_append, List.drop_of_length_le (by rw [szB, hnS]; exact Nat.le_refl _), List.append_nil] at hB6
        have l9 := B9.lt
        have l10 := B10.lt
        have hne : g ≠ g9 := fun e => by
          subst e
          have h : some _ = some _ := Eq.trans (Eq.symm B10) B9
          injection h with h
          injection h with _ hT' _
          exact absurd hT' (by decide)
        have B9' := (B9.alloc (.cells noCells 26)).same (hg6.block g9 (B9.alloc _).lt (by simp; omega))
        have B10' := (B10.alloc (.cells noCells 26)).same (hg6.block g (B10.alloc _).lt (by simp; omega))
        have m6 : Below w.heap.size w w6 := (m5.alloc m5.size _).grown hg6 (by have := m5.size; simp; omega) (fun k h => by cases h; exact m5.size)
        have q73 := hB6.cell y73
        have q72 := hB6.cell y72
        have r73 := B9'.cell z73
        generalize w5.heap.size = gN at hB6 q72 q73 l9 l10 ⊢
        clear B9 B10 bn hs6 hg6 k5 m5 y72 y73 z73 k2' k1' ce hVA hby
        go_upto_region 12 with (first
          | (with_reducible refine wpList_load_blk rfl 26 (.tmp 12) rfl gN 0 74 rfl _ _ hB6 (by rw [szB]; omega) VB eB _ rfl rfl (by kernel_rfl) ?_)
          | (with_reducible refine wpList_store_blk rfl 26 (.tmp 9) (.tmp 80) rfl g9 0 rfl _ _ B9' SB VB (by rw [← hVB]) rfl (by rw [szB, szA]; omega) (by rw [szB]; kernel_rfl) (by rw [← HSB.out]; exact stm_one _) ?_; intro w7 hg7 hs7 hB7))
        rw [Nat.zero_add, List.take_zero, List.nil_append, List.drop_of_length_le (by rw [szB, szA]; exact Nat.le_refl _), List.append_nil] at hB7
        have B10'' := B10'.same (hg7.block g B10'.lt (by simpa using hne))
        have m7 : Below w.heap.size w w7 := m6.grown hg7 m6.size (fun k h => by cases h; exact hge)
        have J1 := Lib.hid B10''
        have J2 := Lib.hid hB7
        clear B9' B10' q72 q73 r73 hB6 hB7 B10'' hg7 hs7 m6
        go_wp2_with fail
        go_roundw
        case rel => exact ⟨q + 1, by omega, by go_num, J1, by rw [HP'.out, HSB.out]; exact J2, m7⟩
        case measure => simp [intOf]; omega
      · have qI : ¬ ((q : Int) < 3) := by omega
        have hqe : q = 3 := by omega
        rw [hqe, HP3.out] at k2
        have b9 := k2.out
        clear hqe k1 k2 HP
        have c4 := fun W h1 h2 => upto_add L 0 m m (by omega) (by omega) (by omega) ao cap hmc hq W h1 h2
        rw [List.drop_zero, List.take_of_length_le (by omega), hV0] at c4
        have c5 := fun W h => upto_end L m hL.symm (by omega) W h
        have c6 := fun W h1 h2 => sum_any L ao cap W (by omega) hq h1 (by omega) h2
        have c7 := fun W h => sumTells_any W h
        have hsl : (ShaMath.sha L).length = 32 := ShaMath.sha_length _
        rw [hL] at c6
        generalize ShaMath.sha L = D at c5 c6 hsl
        have heqS := fun W => eqStm (upto L m) (upto_held L m) W
        have heqD := fun W => eq32 D hsl W
        have szS := Stm.cells_length _ (upto_held L m)
        obtain ⟨S, hS⟩ : ∃ S, (upto L m).cells = S := ⟨_, rfl⟩
        have hone : ∀ v ∈ S, v.oneCell' = true := by rw [← hS]; exact stm_one _
        rw [hS] at c4 c5 heqS szS b9
        obtain ⟨VS, hVS⟩ : ∃ V, S.toArray = V := ⟨_, rfl⟩
        obtain ⟨VD, hVD⟩ : ∃ V, (u8s D).toArray = V := ⟨_, rfl⟩
        rw [hVS] at c4 c5 heqS
        rw [hVD] at c5 c6 heqD
        have szD : (u8s D).length = 32 := by rw [u8s_length, hsl]
        have z32 : (u8s (List.replicate 32 0)).length = 32 := by rw [u8s_length, List.length_replicate]
        have eS : ((S.drop 0).take 74).toArray = VS := by rw [List.drop_zero, List.take_of_length_le (by omega)]; exact hVS
        obtain ⟨Y, hY⟩ : ∃ Y, (u8s (List.replicate 32 0)).toArray = Y := ⟨_, rfl⟩
        have zv32 : ∀ W, (zeroValue 33).run Tryd.prog W = .ok (.agg Y) W := fun W => by rw [← hY]; kernel_rfl
        have by32 : ∀ W : World, Blk (W.alloc (.cells Y 33)) W.heap.size 33 (u8s (List.replicate 32 0)) := fun W => by rw [← hY]; exact Blk.new W _ _
        have hgd1 : Tryd.prog.eqGuardType Tryd.prog.depth 26 = false := by kernel_rfl
        have hgd2 : Tryd.prog.eqGuardType Tryd.prog.depth 33 = false := by kernel_rfl
        have HS := Lib.hid hS
        clear hS hY hV0 hsl
        go_upto_region 14 with (first
          | (go_at_call 15; refine (c3 _).mono ?_; rintro e w4 ⟨rfl, k4⟩; have b4 := b9.call k4; have m4 := below_step hbr hbr.size k4; clear c3)
          | (go_at_call 13; refine (c4 _ (hbL.keep m4) (hT.keep m4 (Nat.le_refl _))).mono ?_; rintro e w5 ⟨rfl, k5⟩; have b5 := b4.call k5; have m5 := below_step m4 m4.size k5; have bn := bz w5; clear c4)
          | (with_reducible refine wpList_store_blk rfl 26 (.tmp 14) (.tmp 86) rfl w5.heap.size 0 rfl _ _ bn S VS (by rw [← hVS]) rfl (by rw [szS, hnS]; omega) (by rw [szS]; kernel_rfl) hone ?_; intro w6 hg6 hs6 hB6))
        rw [Nat.zero_add, List.take_zero, List.nil_append, List.drop_of_length_le (by rw [szS, hnS]; exact Nat.le_refl _), List.append_nil] at hB6
        have l5 := b5.lt
        have b6 := (b5.alloc (.cells noCells 26)).same (hg6.block g9 (b5.alloc _).lt (by simp; omega))
        have m6 : Below w.heap.size w w6 := (m5.alloc m5.size _).grown hg6 (by have := m5.size; simp; omega) (fun k h => by cases h; exact m5.size)
        generalize w5.heap.size = gB at hB6 l5 ⊢
        clear hs6 hg6 bn k5 k4 m4 m5 b4 b5 b9 hbr
        go_upto_region 15 with (first
          | (with_reducible refine wpList_load_blk rfl 26 (.tmp 9) rfl g9 0 74 rfl _ _ b6 (by rw [szS]; omega) VS eS _ rfl rfl (by kernel_rfl) ?_)
          | (go_at_call 17; refine (c5 _ (hT.keep m6 (Nat.le_refl _))).mono ?_; rintro e w7 ⟨rfl, k7⟩; have b7 := b6.call k7; have d7 := hB6.call k7; have m7 := below_step m6 m6.size k7; have bn := by32 w7; clear c5)
          | (with_reducible refine wpList_store_blk rfl 33 (.tmp 16) (.tmp 91) rfl w7.heap.size 0 rfl _ _ bn (u8s D) VD (by rw [← hVD]) rfl (by rw [szD, z32]; omega) (by rw [szD]; kernel_rfl) (u8s_one _) ?_; intro w8 hg8 hs8 hB8))
        rw [Nat.zero_add, List.take_zero, List.nil_append, List.drop_of_length_le (by rw [szD, z32]; exact Nat.le_refl _), List.append_nil] at hB8
        have l7 := b7.lt
        have l7' := d7.lt
        have b8 := (b7.alloc (.cells Y 33)).same (hg8.block g9 (b7.alloc _).lt (by simp; omega))
        have d8 := (d7.alloc (.cells Y 33)).same (hg8.block gB (d7.alloc _).lt (by simp; omega))
        have m8 : Below w.heap.size w w8 := (m7.alloc m7.size _).grown hg8 (by have := m7.size; simp; omega) (fun k h => by cases h; exact m7.size)
        generalize w7.heap.size = gH at hB8 ⊢
        have hld : ∀ X, Below w8.heap.size w8 X → (Instr.loadAt 26 (.pointer (some ⟨g9, 0, none⟩))).run Tryd.prog X = .ok (.agg VS) X ∧ (Instr.loadAt 26 (.pointer (some ⟨gB, 0, none⟩))).run Tryd.prog X = .ok (.agg VS) X ∧ (Instr.loadAt 33 (.pointer (some ⟨gH, 0, none⟩))).run Tryd.prog X = .ok (.agg VD) X := fun X hX => by
          refine ⟨?_, ?_, ?_⟩
          · rw [← hVS]; exact load_whole (b8.call hX) rfl rfl (by rw [szS]; kernel_rfl)
          · rw [← hVS]; exact load_whole (d8.call hX) rfl rfl (by rw [szS]; kernel_rfl)
          · rw [← hVD]; exact load_whole (hB8.call hX) (d := .array 32 5) rfl rfl (by rw [szD]; kernel_rfl)
        have HLD := Lib.hid hld
        have hcS : ∀ X, Below w8.heap.size w8 X → Bytes X ao L ∧ KW X := fun X hX => ⟨hbL.keep (below_step m8 m8.size hX), hT.keep (below_step m8 m8.size hX) (Nat.le_refl _)⟩
        have HCS := Lib.hid hcS
        clear hld hcS b8 d8 hB8 b7 d7 b6 hB6 hs8 hg8 bn k7 m7 m6 l5 l7 l7'
        refine wp_region_det 20 (by kernel_rfl) (by kernel_rfl) (by kernel_rfl) ?_
        simp only [List.take_succ_cons, List.take_zero, List.drop_succ_cons, List.drop_zero]
        repeat (first
          | (apply wpDet_want _ (by kernel_rfl); (focus (intro X hX; first | exact detV_load 26 (.tmp 9) rfl (HLD.out X hX).1 | exact detV_load 26 (.tmp 14) rfl (HLD.out X hX).2.1 | exact detV_load 33 (.tmp 16) rfl (HLD.out X hX).2.2)); simp only [Act.put, List.setIfInBounds_toArray, List.set_cons_zero, List.set_cons_succ])
          | (apply wpDet_want _ (by kernel_rfl); (focus (intro X hX; go_simp; exact ⟨rfl, Below.refl _ _⟩)); simp only [Act.put, List.setIfInBounds_toArray, List.set_cons_zero, List.set_cons_succ])
          | (apply wpDet_want _ (by kernel_rfl); (focus (intro X hX; go_simp; (first | (with_reducible refine (c6 X (HCS.out X hX).1 (HCS.out X hX).2).mono ?_) | (with_reducible refine (c7 X (HCS.out X hX).2).mono ?_)); rintro e w' ⟨rfl, hb⟩; exact ⟨rfl, hb⟩)); simp only [Act.put, List.setIfInBounds_toArray, List.set_cons_zero, List.set_cons_succ]))
        refine wpDet_nil ?_
        intro W9 hW9
        have m9 := m8.trans (hW9.mono m8.size)
        clear HLD HCS m8 hW9 c6 c7
        go_wp2_with fail
        go_ret
        exact ⟨rfl, m9⟩
end Go.Proofs.YtjllecmlabodaaaDoor
