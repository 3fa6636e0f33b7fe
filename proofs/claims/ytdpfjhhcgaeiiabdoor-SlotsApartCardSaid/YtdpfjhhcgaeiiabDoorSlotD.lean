/-
  CONTRACTS of package slots' node and nodes.
  CONDITIONS: package sum's roundWords hold what their initialiser lays ('KW').
-/
import Derived.Test.YtdpfjhhcgaeiiabDoorSlotC
namespace Go.Proofs.YtdpfjhhcgaeiiabDoor
open Go.RowKit CodeMath Go.Proofs.YtdpfjhhcgaeiiabDoor.FrameMath
set_option linter.unusedVariables false
set_option maxRecDepth 100000

def nodeB (m : Int) (a b : List UInt8) : List UInt8 := digB m 2 [a, b]
theorem nodeB_length (m : Int) (a b : List UInt8) : (nodeB m a b).length + 42 ≤ (a.length + 42) + (b.length + 42) := by
  have h := digB_length m 2 [a, b]
  unfold nodeB
  simp only [total] at h
  omega
theorem digR_node (m : Int) (hm : isMode m = true) (a b : List UInt8) (h1 : a.length ≤ 1000000) (h2 : b.length ≤ 1000000) : digR m 2 [a, b] = .ok (nodeB m a b) := by
  unfold digR
  rw [if_neg (by rw [hm]; decide), if_neg (by omega), if_neg (by simp only [total, List.length_cons, List.length_nil]; omega)]
  rfl
set_option maxHeartbeats 2000000 in
theorem node_any (m : Int) (hm : isMode m = true) (m0 : -9223372036854775808 ≤ m) (m1 : m ≤ 9223372036854775807) (a b : List UInt8) (a1 a2 : Option Addr) (n1 k1 n2 k2 : Nat) (w : World) (ha : RowV w (.slice a1 n1 k1) a) (hb : RowV w (.slice a2 n2 k2) b) (h1 : a.length ≤ 1000000) (h2 : b.length ≤ 1000000) (hT : KW w) :
    Calls Tryd.prog 40 #[.int .i64 m, .slice a1 n1 k1, .slice a2 n2 k2] w fun e w' => ∃ v, e = .returned (.tuple #[v, .int .i64 0]) ∧ RowT w' v (nodeB m a b) ∧ Below w.heap.size w w' := by
  have cD := fun ap W h hk => Digest_any m 2 [a, b] ap 2 W m0 m1 (by decide) (by decide) (by simp) (fun l hl => by simp at hl; rcases hl with rfl | rfl <;> omega) h hk
  rw [digR_node m hm a b h1 h2, show [a, b].length = 2 from rfl] at cD
  generalize nodeB m a b = D at *
  have hlin := fun T => lines_two w _ _ T _ _ ha hb
  have hba : ∀ o, Below w.heap.size w (w.alloc o) := fun o => (Below.refl _ _).alloc (Nat.le_refl _) o
  clear ha hb h1 h2 hm
  go_enter Tryd.func40, Tryd.ntmps40
  go_wp2_with fail
  refine (cD _ _ (hlin _) (hT.keep (hba _) (Nat.le_refl _))).mono ?_
  rintro e w1 ⟨v, rfl, hr, hb1⟩
  have hbb := below_step (hba _) (hba _).size hb1
  clear cD hlin hba
  go_wp2_with fail
  go_ret2
  exact ⟨_, rfl, hr, hbb⟩
/-- The level above. -/
def up (m : Int) : List (List UInt8) → List (List UInt8)
  | a :: b :: r => nodeB m a b :: up m r
  | _ => []
theorem up_length (m : Int) : ∀ rows, (up m rows).length = rows.length / 2
  | [] => rfl
  | [a] => by simp [up]
  | a :: b :: r => by
    show (up m r).length + 1 = (r.length + 2) / 2
    rw [up_length m r]; omega
theorem up_get (m : Int) : ∀ (rows : List (List UInt8)) (i : Nat) (a b : List UInt8), rows[2 * i]? = some a → rows[2 * i + 1]? = some b → (up m rows)[i]? = some (nodeB m a b)
  | [], i, a, b, h, h' => by simp at h
  | [x], i, a, b, h, h' => by
    simp at h'
  | x :: y :: r, 0, a, b, h, h' => by
    simp at h h'
    subst h h'
    rfl
  | x :: y :: r, i + 1, a, b, h, h' => by
    have e1 : 2 * (i + 1) = 2 * i + 1 + 1 := by omega
    have e2 : 2 * (i + 1) + 1 = 2 * i + 1 + 1 + 1 := by omega
    rw [e1] at h
    rw [e2] at h'
    simp only [List.getElem?_cons_succ] at h h'
    exact up_get m r i a b h h'
def NodesF (m : Int) (a o q : Nat) (L : Value) (A1 A2 : Option Addr) (n1 k1 n2 k2 : Nat) (D : List UInt8) : Nat → Value → World → Prop
  | 0, v, _ => v = .int .i64 m
  | 1, v, _ => v = L
  | 2, v, _ => v = .int .i64 (q : Int)
  | 3, v, _ => v = .int .i64 (2 * (q : Int))
  | 4, v, _ => v = .pointer (some ⟨a, o + 2 * q, none⟩)
  | 5, v, _ => v = .slice A1 n1 k1
  | 6, v, _ => v = L
  | 7, v, _ => v = .int .i64 (q : Int)
  | 8, v, _ => v = .int .i64 (2 * (q : Int))
  | 9, v, _ => v = .int .i64 (2 * (q : Int) + 1)
  | 10, v, _ => v = .pointer (some ⟨a, o + (2 * q + 1), none⟩)
  | 11, v, _ => v = .slice A2 n2 k2
  | 12, v, w => ∃ u, v = .tuple #[u, .int .i64 0] ∧ RowT w u D
  | 13, v, w => ∃ u, v = .tuple #[u, .int .i64 0] ∧ RowT w u D
  | 14, v, w => RowT w v D
  | 15, v, _ => v = .int .i64 0
  | 16, v, w => RowT w v D
  | _, _, _ => True
theorem nodesF_keep {m : Int} {a o q : Nat} {L : Value} {A1 A2 : Option Addr} {n1 k1 n2 k2 : Nat} {D : List UInt8} (i : Nat) (v : Value) (w w' : World) (h : NodesF m a o q L A1 A2 n1 k1 n2 k2 D i v w) (he : Below w.heap.size w w') : NodesF m a o q L A1 A2 n1 k1 n2 k2 D i v w' := by
  unfold NodesF at *
  split at h <;> (try exact h) <;> (try exact trivial)
  · obtain ⟨u, h1, h2⟩ := h; exact ⟨u, h1, h2.keep he⟩
  · obtain ⟨u, h1, h2⟩ := h; exact ⟨u, h1, h2.keep he⟩
  · exact h.keep he
  · exact h.keep he
set_option maxHeartbeats 4000000 in
theorem nodes_any (m : Int) (hm : isMode m = true) (m0 : -9223372036854775808 ≤ m) (m1 : m ≤ 9223372036854775807) (rows : List (List UInt8)) (ap : Option Addr) (cp : Nat) (w : World) (hn : rows.length ≤ 64) (hL : ∀ b ∈ rows, b.length ≤ 1000000) (hl : Lines w ap rows) (hT : KW w) :
    Calls Tryd.prog 55 #[.int .i64 m, .slice ap rows.length cp] w (LevPost (.ok (up m rows)) (rows.length / 2) w) := by
  obtain ⟨n, hnn⟩ : ∃ n, rows.length = n := ⟨_, rfl⟩
  obtain ⟨k, hk⟩ : ∃ k, n / 2 = k := ⟨_, rfl⟩
  obtain ⟨U, hU⟩ : ∃ U, up m rows = U := ⟨_, rfl⟩
  have hUl : U.length = k := by rw [← hU, up_length, hnn, hk]
  rw [hnn, hk, hU]
  have hdiv : (n : Int).tdiv 2 = k := by rw [Int.tdiv_eq_ediv_of_nonneg (by omega)]; omega
  have hk2 : 2 * k ≤ n := by omega
  have hk32 : k ≤ 32 := by omega
  have HNN := Lib.hid hnn
  have HU := Lib.hid hU
  have HUL := Lib.hid hUl
  have HK2 := Lib.hid hk2
  rw [hnn] at hn
  have nI : (n : Int) ≤ 64 := by omega
  have kI : (k : Int) ≤ 32 := by omega
  obtain ⟨i0, hi, hz0, hz1, hz2⟩ := info_parts infoL
  clear hnn hU hUl hk hk2
  go_enter Tryd.func55, Tryd.ntmps55
  go_wp2_with (first
    | (with_reducible refine wpList_make_full _ rfl (.tmp 12) (.tmp 12) 23 rfl w.heap.size 28 i0 (.slice none 0 0) 1 Tryd.underlying23 hi hz0 hz1 .i64 .i64 (k : Int) (k : Int) k rfl rfl rfl rfl (by rw [hz2]; omega) (by unfold maxLen; omega) (Nat.le_refl _) ?_; intro w1 ho1 hg1)
    | fail)
  have hB1 : Below w.heap.size w w1 := (Below.refl _ _).grown hg1 (Nat.le_refl _) (fun k h => by cases h)
  have hL1 := LevB.fresh ho1
  clear ho1 hg1 hi hz0 hz1 hz2 hdiv
  go_loopw [16] (fun ix wr => ∃ i : Nat, i ≤ k ∧ ix = .int .i64 i ∧ LevB wr w.heap.size (U.take i ++ List.replicate (k - i) []) ∧ Below w.heap.size w wr) (fun ix _ => k - (intOf ix).toNat)
  case atStart => exact ⟨0, Nat.zero_le _, rfl, by simpa using hL1, hB1⟩
  case round =>
    obtain ⟨i, hin, rfl, hlv, hbr⟩ := hrel
    clear hL1 hB1
    by_cases hlt : i < k
    · have iI : (i : Int) < k := by omega
      have h2n : 2 * i + 1 < rows.length := by have := HK2.out; have := HNN.out; omega
      obtain ⟨ra, hra⟩ : ∃ x, rows[2 * i]? = some x := ⟨_, List.getElem?_eq_getElem (by omega)⟩
      obtain ⟨rb, hrb⟩ : ∃ x, rows[2 * i + 1]? = some x := ⟨_, List.getElem?_eq_getElem h2n⟩
      have hUi : U[i]? = some (nodeB m ra rb) := by rw [← HU.out]; exact up_get m rows i ra rb hra hrb
      have hla := hL ra (List.mem_of_getElem? hra)
      have hlb := hL rb (List.mem_of_getElem? hrb)
      rcases hl with h0 | ⟨a, o, rfl, ha, h3⟩
      · rw [h0] at hra; simp at hra
      · obtain ⟨A1, k1, c1, p1, p2, p3, p4⟩ := h3 _ ra hra
        obtain ⟨A2, k2, c2, q1, q2, q3, q4⟩ := h3 _ rb hrb
        have HC1 : Hid (∀ W, Below wr.heap.size wr W → W.cell? ⟨a, o + 2 * i, none⟩ = some (.slice A1 ra.length k1)) := fun W hW => ((below_step hbr hbr.size hW).cell (p := ⟨a, o + 2 * i, none⟩) ha).trans c1
        have HC2 : Hid (∀ W, Below wr.heap.size wr W → W.cell? ⟨a, o + (2 * i + 1), none⟩ = some (.slice A2 rb.length k2)) := fun W hW => ((below_step hbr hbr.size hW).cell (p := ⟨a, o + (2 * i + 1), none⟩) ha).trans c2
        have cN0 := fun W h1 h2 h3 => node_any m hm m0 m1 ra rb A1 A2 ra.length k1 rb.length k2 W h1 h2 hla hlb h3
        have cN : ∀ W, Below wr.heap.size wr W → _ := fun W hW => cN0 W ⟨A1, k1, rfl, p1, p2, p3, p4.keep (below_step hbr hbr.size hW)⟩ ⟨A2, k2, rfl, q1, q2, q3, q4.keep (below_step hbr hbr.size hW)⟩ (hT.keep (below_step hbr hbr.size hW) (Nat.le_refl _))
        have hfill : Hid ((U.take i ++ List.replicate (k - i) []).set i (nodeB m ra rb) = U.take (i + 1) ++ List.replicate (k - (i + 1)) []) := by
          show _ = _
          rw [fill_next (U.take i) k i (nodeB m ra rb) (by rw [List.length_take]; have := HUL.out; omega) hlt, take_next U i _ hUi]
        have hlen : (U.take i ++ List.replicate (k - i) []).length = k := by rw [List.length_append, List.length_take, List.length_replicate]; have := HUL.out; omega
        have HLEN := Lib.hid hlen
        have HLT := Lib.hid hlt
        have i32 : (i : Int) < 32 := by omega
        have i2n : 2 * (i : Int) + 1 < n := by have := HNN.out; omega
        have i2m : 2 * (i : Int) < n := by omega
        have i20 : (0 : Int) ≤ 2 * (i : Int) := by omega
        have t2 : (2 * (i : Int)).toNat = 2 * i := by omega
        have w2 : IntKind.i64.wrap (2 * (i : Int)) = 2 * (i : Int) := by
          simp [IntKind.wrap, IntKind.bits, IntKind.signed]
          omega
        have w3 : IntKind.i64.wrap (2 * (i : Int) + 1) = 2 * (i : Int) + 1 := by
          simp [IntKind.wrap, IntKind.bits, IntKind.signed]
          omega
        generalize nodeB m ra rb = D at *
        generalize ra.length = n1 at *
        generalize rb.length = n2 at *
        generalize U.take i ++ List.replicate (k - i) [] = RS at *
        clear cN0 c1 c2 p1 p2 p3 p4 q1 q2 q3 q4 h3 hra hrb hUi hla hlb hlen hlt h2n
        go_upto_region 5 with fail
        refine wp_region_facts' 17 (by kernel_rfl) (by kernel_rfl) (NodesF m a o i (.slice (some ⟨a, o, none⟩) n cp) A1 A2 n1 k1 n2 k2 D) (fun W => Below wr.heap.size wr W) (fun W W' => Below W.heap.size W W') ?hC ?hF ?h0 ?hstep ?hdone
        case hC => exact fun W W' hc he => below_step hc hc.size he
        case hF => exact nodesF_keep
        case h0 => exact (Below.refl _ _).drew
        case hstep =>
          intro j hj vs act W K ha' hc hd hu hK
          simp only [fillF, Act.put, List.take_succ_cons, List.take_zero, List.setIfInBounds_toArray, List.set_cons_zero, List.set_cons_succ] at ha'
          subst ha'
          clear hu
          rcases (show j = 0 ∨ j = 1 ∨ j = 2 ∨ j = 3 ∨ j = 4 ∨ j = 5 ∨ j = 6 ∨ j = 7 ∨ j = 8 ∨ j = 9 ∨ j = 10 ∨ j = 11 ∨ j = 12 ∨ j = 13 ∨ j = 14 ∨ j = 15 ∨ j = 16 by omega) with rfl | rfl | rfl | rfl | rfl | rfl | rfl | rfl | rfl | rfl | rfl | rfl | rfl | rfl | rfl | rfl | rfl
          · refine wpOp_step rfl (fun K' hK' => ?_)
            go_simp
            exact hK' _ _ (hK _ _ rfl (Below.refl _ _))
          · refine wpOp_step rfl (fun K' hK' => ?_)
            go_simp
            exact hK' _ _ (hK _ _ rfl (Below.refl _ _))
          · refine wpOp_step rfl (fun K' hK' => ?_)
            go_simp
            exact hK' _ _ (hK _ _ rfl (Below.refl _ _))
          · have e2 : vs 2 = .int .i64 (i : Int) := hd 2 (by kernel_rfl)
            simp only [e2] at hK ⊢
            refine wpOp_step rfl (fun K' hK' => ?_)
            go_simp
            exact hK' _ _ (hK _ _ rfl (Below.refl _ _))
          · have e1 : vs 1 = .slice (some ⟨a, o, none⟩) n cp := hd 1 (by kernel_rfl)
            have e3 : vs 3 = .int .i64 (2 * (i : Int)) := hd 3 (by kernel_rfl)
            simp only [e1, e3] at hK ⊢
            refine wpOp_step rfl (fun K' hK' => ?_)
            go_simp
            exact hK' _ _ (hK _ _ (by first | rfl | (congr 3; omega)) (Below.refl _ _))
          · have e4 : vs 4 = .pointer (some ⟨a, o + 2 * i, none⟩) := hd 4 (by kernel_rfl)
            simp only [e4] at hK ⊢
            have q1 := HC1.out W hc
            refine wpOp_step rfl (fun K' hK' => ?_)
            go_simp
            exact hK' _ _ (hK _ _ rfl (Below.refl _ _))
          · refine wpOp_step rfl (fun K' hK' => ?_)
            go_simp
            exact hK' _ _ (hK _ _ rfl (Below.refl _ _))
          · refine wpOp_step rfl (fun K' hK' => ?_)
            go_simp
            exact hK' _ _ (hK _ _ rfl (Below.refl _ _))
          · have e7 : vs 7 = .int .i64 (i : Int) := hd 7 (by kernel_rfl)
            simp only [e7] at hK ⊢
            refine wpOp_step rfl (fun K' hK' => ?_)
            go_simp
            exact hK' _ _ (hK _ _ rfl (Below.refl _ _))
          · have e8 : vs 8 = .int .i64 (2 * (i : Int)) := hd 8 (by kernel_rfl)
            simp only [e8] at hK ⊢
            refine wpOp_step rfl (fun K' hK' => ?_)
            go_simp
            exact hK' _ _ (hK _ _ rfl (Below.refl _ _))
          · have e6 : vs 6 = .slice (some ⟨a, o, none⟩) n cp := hd 6 (by kernel_rfl)
            have e9 : vs 9 = .int .i64 (2 * (i : Int) + 1) := hd 9 (by kernel_rfl)
            simp only [e6, e9] at hK ⊢
            refine wpOp_step rfl (fun K' hK' => ?_)
            go_simp
            exact hK' _ _ (hK _ _ (by first | rfl | (congr 3; omega)) (Below.refl _ _))
          · have e10 : vs 10 = .pointer (some ⟨a, o + (2 * i + 1), none⟩) := hd 10 (by kernel_rfl)
            simp only [e10] at hK ⊢
            have q2 := HC2.out W hc
            refine wpOp_step rfl (fun K' hK' => ?_)
            go_simp
            exact hK' _ _ (hK _ _ rfl (Below.refl _ _))
          · have e0 : vs 0 = .int .i64 m := hd 0 (by kernel_rfl)
            have e5 : vs 5 = .slice A1 n1 k1 := hd 5 (by kernel_rfl)
            have e11 : vs 11 = .slice A2 n2 k2 := hd 11 (by kernel_rfl)
            simp only [e0, e5, e11] at hK ⊢
            refine wpOp_step rfl (fun K' hK' => ?_)
            go_simp
            with_reducible refine (cN W hc).mono ?_
            rintro e w' ⟨u, rfl, hr, hb⟩
            exact hK' _ _ (hK _ _ ⟨u, rfl, hr⟩ hb)
          · obtain ⟨u12, e12, y12⟩ := hd 12 (by kernel_rfl)
            simp only [e12] at hK ⊢
            refine wpOp_step rfl (fun K' hK' => ?_)
            go_simp
            exact hK' _ _ (hK _ _ ⟨u12, rfl, y12⟩ (Below.refl _ _))
          · obtain ⟨u13, e13, y13⟩ := hd 13 (by kernel_rfl)
            simp only [e13] at hK ⊢
            refine wpOp_step rfl (fun K' hK' => ?_)
            go_simp
            exact hK' _ _ (hK _ _ y13 (Below.refl _ _))
          · obtain ⟨u13, e13, y13⟩ := hd 13 (by kernel_rfl)
            simp only [e13] at hK ⊢
            refine wpOp_step rfl (fun K' hK' => ?_)
            go_simp
            exact hK' _ _ (hK _ _ rfl (Below.refl _ _))
          · have y14 : RowT W (vs 14) D := hd 14 (by kernel_rfl)
            refine wpOp_step rfl (fun K' hK' => ?_)
            go_simp
            exact hK' _ _ (hK _ _ y14 (Below.refl _ _))
        case hdone =>
          intro vs act W ha' hc hf
          simp only [fillF, Act.put, List.take_succ_cons, List.take_zero, List.setIfInBounds_toArray, List.set_cons_zero, List.set_cons_succ] at ha'
          subst ha'
          have f15 : vs 15 = .int .i64 0 := hf 15 (by decide)
          have f16 : RowT W (vs 16) D := hf 16 (by decide)
          simp only [Nat.zero_add, Nat.reduceAdd, f15]
          have hBB := below_step hbr hbr.size hc
          have hlv2 := hlv.keep hc
          obtain ⟨⟨u0, hu0⟩, hf0⟩ := hlv2.cell i (by rw [HLEN.out]; exact HLT.out)
          generalize vs 16 = v16 at *
          obtain ⟨a2, n2, k2, rfl⟩ : ∃ a n k, v16 = .slice a n k := by obtain ⟨a, k, e, _⟩ := f16; exact ⟨_, _, _, e⟩
          have hlv3 := hlv2.set i _ D f16
          rw [hfill.out] at hlv3
          have hbb3 := hBB.grown (grown_set W ⟨w.heap.size, i, none⟩ (.slice a2 n2 k2)) hBB.size (fun k h => by cases h; exact Nat.le_refl _)
          clear hf hlv2 hlv f16 hc hbr HC1 HC2 cN hfill hBB
          go_wp2_with fail
          go_roundw
          case rel => exact ⟨i + 1, HLT.out, by go_num, hlv3, hbb3⟩
          case measure => have := HLT.out; simp [intOf]; omega
    · have iI : ¬ (i : Int) < k := by omega
      have hie : i = k := by omega
      have hlv2 : LevB wr w.heap.size U := by
        rw [hie, Nat.sub_self, List.take_of_length_le (by rw [HUL.out]; exact Nat.le_refl _)] at hlv
        simpa using hlv
      clear hlt hie hlv
      go_wp2_with fail
      go_ret2
      exact ⟨_, rfl, Nat.le_refl _, hlv2, hbr⟩
end Go.Proofs.YtdpfjhhcgaeiiabDoor
