/-
  CONTRACT of package tree's branch.
  CONDITIONS: each theorem's own hypotheses.
-/
import Derived.Test.YtopgakdgifmecaaTKids
import Derived.BigRegion
namespace Go.Proofs.Ytopgakdgifmecaa
open Go.RowKit
set_option linter.unusedVariables false
set_option maxRecDepth 100000

def BrF5 (g : Nat) (vE : Value) (es : List En) (key : List UInt8) (x : Int) (a o L cap ni vb vo KN cv nj : Nat) : Nat → Value → World → Prop
  | 0, v, _ => v = .pointer (some ⟨g, 0, none⟩)
  | 1, v, _ => v = .pointer (some ⟨g, 0, none⟩)
  | 2, v, _ => v = .pointer (some ⟨g, 0, none⟩)
  | 3, v, _ => v = .pointer (some ⟨g, 0, none⟩)
  | 4, v, _ => v = vE
  | 5, v, _ => v = .string (str key)
  | 6, v, _ => v = .slice (some ⟨a, o, none⟩) L cap
  | 7, v, _ => v = .int .i64 (ni : Int)
  | 8, v, _ => v = .pointer (some ⟨a, o + ni * 3, none⟩)
  | 9, v, _ => v = .pointer (some ⟨a, o + ni * 3 + 1, none⟩)
  | 10, v, _ => v = .slice (some ⟨vb, vo, none⟩) KN cv
  | 11, v, _ => v = .int .i64 (nj : Int)
  | 12, v, _ => v = .pointer (some ⟨vb, vo + nj, none⟩)
  | 13, v, _ => v = .int .i64 x
  | 14, v, _ => v = .agg #[.string (str key), .int .i64 x]
  | 15, v, w => ∃ k, v = .slice (some ⟨k, 0, none⟩) 1 1 ∧ Blk w k 73 (cellsE1 (key, x)) ∧ vE.ownBlock ≠ some k
  | 16, v, w => OwnE w (g + 1) v (es.take nj ++ [(key, x)])
  | 17, v, _ => v = .pointer (some ⟨g, 0, none⟩)
  | 18, v, _ => v = .pointer (some ⟨g, 0, none⟩)
  | _, _, _ => True
def BrF10 (g : Nat) (vE vK : Value) (ps Fk : List Nat) (ns : List Nq) (f a o L cap kn : Nat) : Nat → Value → World → Prop
  | 0, v, _ => v = .pointer (some ⟨g, 0, none⟩)
  | 1, v, _ => v = .pointer (some ⟨g, 0, none⟩)
  | 2, v, _ => v = .pointer (some ⟨g, 0, none⟩)
  | 3, v, _ => v = .pointer (some ⟨g, 1, none⟩)
  | 4, v, _ => v = vK
  | 5, v, _ => v = .slice (some ⟨a, o, none⟩) L cap
  | 6, v, _ => v = .int .i64 (kn : Int)
  | 7, v, w => ∃ (k : Nat) (G : List Nat), v = .pointer (some ⟨k, 0, none⟩) ∧ NdT w (branchQ ns f kn) k G ∧ Fresh w.heap.size g (vE.ownBlock.toList ++ Fk) G vK
  | 8, v, w => ∃ (q k : Nat) (G : List Nat), v = .slice (some ⟨q, 0, none⟩) 1 1 ∧ Blk w q 61 [.pointer (some ⟨k, 0, none⟩)] ∧ vK.ownBlock ≠ some q ∧ NdT w (branchQ ns f kn) k G ∧ Fresh w.heap.size g (vE.ownBlock.toList ++ Fk) G vK
  | 9, v, w => Put1 w g (vE.ownBlock.toList ++ Fk) v ps (branchQ ns f kn)
  | 10, v, _ => v = .pointer (some ⟨g, 0, none⟩)
  | 11, v, _ => v = .pointer (some ⟨g, 1, none⟩)
  | _, _, _ => True
theorem take_snocT {α : Type} (l : List α) (j : Nat) (x : α) (h : l[j]? = some x) : l.take (j + 1) = l.take j ++ [x] := by
  obtain ⟨hj, he⟩ := List.getElem?_eq_some_iff.1 h
  rw [List.take_succ_eq_append_getElem hj, he]
/-- What is known of a node that may be read: where its keys, vals and kids lie. -/
structure NodeAt (ns : List Nq) (w : World) (ao : Option Addr) (ni : Nat) (n : Nq) : Prop where
  cells : ∃ (a o kb ko ck vb vo cv cc : Nat) (ac : Option Addr), ao = some ⟨a, o, none⟩ ∧ a < w.heap.size ∧ kb < w.heap.size ∧ vb < w.heap.size ∧
    w.cell? ⟨a, o + ni * 3, none⟩ = some (.slice (some ⟨kb, ko, none⟩) n.keys.length ck) ∧ w.cell? ⟨a, o + ni * 3 + 1, none⟩ = some (.slice (some ⟨vb, vo, none⟩) n.keys.length cv) ∧ w.cell? ⟨a, o + ni * 3 + 2, none⟩ = some (.slice ac n.kids.length cc) ∧
    (∀ j, j < n.keys.length → ∃ key x, (entsQ n)[j]? = some (key, x) ∧ w.cell? ⟨kb, ko + j, none⟩ = some (.string (str key)) ∧ w.cell? ⟨vb, vo + j, none⟩ = some (.int .i64 x)) ∧
    (∀ q, q < n.kids.length → ∃ kn : Nat, (kidsQ n)[q]? = some kn ∧ ni < kn ∧ kn < ns.length ∧ ∃ b p, ac = some ⟨b, p, none⟩ ∧ b < w.heap.size ∧ w.cell? ⟨b, p + q, none⟩ = some (.int .i64 (kn : Int)))
theorem Nodes.read {w : World} {ao : Option Addr} {ns : List Nq} (h : Nodes w ao ns) {ni : Nat} {n : Nq} (hn : ns[ni]? = some n) (hg : GoodQ ns ni) : NodeAt ns w ao ni n := by
  obtain ⟨a, o, s, rfl, ha, hs, c0, c1, c2⟩ := h.at hn
  obtain ⟨hw, hin⟩ := hg.w n hn
  obtain ⟨k1, k3, hv, hk, he⟩ := whole_open hw
  rcases hs.K with hK | ⟨kb, ko, hka, hkb, hkc⟩
  · rw [hK] at k1; simp at k1
  rcases hs.V.2 with hV | ⟨vb, vo, hva, hvb, hvc⟩
  · rw [hV] at hv; simp at hv; omega
  obtain ⟨ak, ck, av, cv, ac, cc⟩ := s
  simp only at hka hva c0 c1 c2
  subst hka hva
  rw [hv] at c1
  refine ⟨a, o, kb, ko, ck, vb, vo, cv, cc, ac, rfl, ha, hkb, hvb, c0, c1, c2, fun j hj => ?_, fun q hq => ?_⟩
  · refine ⟨n.keys[j], n.vals[j]'(by omega), ?_, hkc j _ (List.getElem?_eq_getElem hj), hvc j _ (List.getElem?_eq_getElem (by omega))⟩
    unfold entsQ
    rw [List.getElem?_eq_getElem (by rw [List.length_zip]; omega), List.getElem_zip]
  · have hmem : n.kids[q] ∈ n.kids := List.getElem_mem hq
    obtain ⟨g1, g2⟩ := hin _ hmem
    rcases hs.C.2 with hC | ⟨b, p, hca, hcb, hcc⟩
    · rw [hC] at hq; simp at hq
    · refine ⟨n.kids[q].toNat, ?_, by omega, by omega, b, p, hca, hcb, ?_⟩
      · unfold kidsQ
        rw [List.getElem?_map, List.getElem?_eq_getElem hq]; rfl
      · rw [hcc q _ (List.getElem?_eq_getElem hq)]
        congr 2
        omega
theorem pos_kid {ns : List Nq} {f ni q kn : Nat} {n : Nq} (hn : ns[ni]? = some n) (hk : (kidsQ n)[q]? = some kn) (hg : ∀ p ∈ posQ ns (f + 1) ni, GoodQ ns p) : ∀ p ∈ posQ ns f kn, GoodQ ns p := fun p hp => by
  refine hg p ?_
  simp only [posQ, kidsAt, hn]
  exact List.mem_cons_of_mem _ (List.mem_flatMap.2 ⟨kn, List.mem_of_getElem? hk, hp⟩)
set_option maxHeartbeats 16000000 in
theorem branch_any (ns : List Nq) (ao : Option Addr) (cap : Nat) (hl : ns.length ≤ 100) : ∀ (f ni : Nat) (w : World), Nodes w ao ns → ni < ns.length → ns.length - ni ≤ f → (∀ p ∈ posQ ns f ni, GoodQ ns p) →
    Calls Try.prog 42 #[.slice ao ns.length cap, .int .i64 (ni : Int)] w fun e w' => ∃ (p : Nat) (F : List Nat), e = .returned (.pointer (some ⟨p, 0, none⟩)) ∧ BrOk w w' (branchQ ns f ni) p F := by
  intro f
  induction f with
  | zero => intro ni w _ h1 h2; omega
  | succ f ih =>
    intro ni w hN hni hf hgood
    obtain ⟨n, hn⟩ : ∃ n, ns[ni]? = some n := ⟨ns[ni], List.getElem?_eq_getElem hni⟩
    have hg := hgood ni (by simp [posQ])
    have hk3 := (whole_open (hg.w n hn).1).2.1
    have hk5 := (whole_open (hg.w n hn).1).2.2.2.1
    have hel := (whole_open (hg.w n hn).1).2.2.2.2
    obtain ⟨a, o, kb, ko, ck, vb, vo, cv, cc, ac, rfl, ha, hkb, hvb, c0, c1, c2, hE, hC⟩ := (hN.read hn hg).cells
    have hcall : ∀ kn, kn < ns.length → ni < kn → (∀ p ∈ posQ ns f kn, GoodQ ns p) → ∀ W, Below w.heap.size w W → Calls Try.prog 42 #[.slice (some ⟨a, o, none⟩) ns.length cap, .int .i64 (kn : Int)] W fun e w' => ∃ (p : Nat) (F : List Nat), e = .returned (.pointer (some ⟨p, 0, none⟩)) ∧ BrOk W w' (branchQ ns f kn) p F := fun kn h1 h2 h3 W hW => ih kn W (hN.keep hW) h1 (by omega) h3
    have hkids : ∀ q, q < n.kids.length → ∃ kn : Nat, (kidsQ n)[q]? = some kn ∧ (∀ W, Below w.heap.size w W → Calls Try.prog 42 #[.slice (some ⟨a, o, none⟩) ns.length cap, .int .i64 (kn : Int)] W fun e w' => ∃ (p : Nat) (F : List Nat), e = .returned (.pointer (some ⟨p, 0, none⟩)) ∧ BrOk W w' (branchQ ns f kn) p F) ∧ ∃ b p, ac = some ⟨b, p, none⟩ ∧ b < w.heap.size ∧ w.cell? ⟨b, p + q, none⟩ = some (.int .i64 (kn : Int)) := fun q hq => by
      obtain ⟨kn, h1, h2, h3, h4⟩ := hC q hq
      exact ⟨kn, h1, hcall kn h3 h2 (pos_kid hn h1 hgood), h4⟩
    have hT : branchQ ns (f + 1) ni = .mk (entsQ n) ((kidsQ n).map (branchQ ns f)) := by simp only [branchQ, entsAt, kidsAt, hn]
    rw [hT]
    have hiI : (ni : Int) < (ns.length : Int) := by omega
    have hks : n.kids.length ≤ 4 := by rcases hk5 with h | h; (rw [h]; simp); omega
    have hql : (kidsQ n).length = n.kids.length := by unfold kidsQ; rw [List.length_map]
    generalize ns.length = L at *
    generalize entsQ n = es at *
    generalize kidsQ n = qs at *
    generalize n.keys.length = KN at *
    generalize n.kids.length = C at *
    obtain ⟨g, hgw⟩ : ∃ g, w.heap.size = g := ⟨_, rfl⟩
    have HE := Lib.hid hE
    have HC := Lib.hid hkids
    have HL : Hid (es.length = KN ∧ qs.length = C ∧ KN ≤ 3 ∧ C ≤ 4) := Lib.hid ⟨hel, hql, hk3, hks⟩
    have z0 := Blk.new w #[.slice none 0 0, .slice none 0 0] 83
    have hb0 := (Below.refl w.heap.size w).alloc (Nat.le_refl _) (.cells #[.slice none 0 0, .slice none 0 0] 83)
    have hS0 : Hid (ESt w (w.alloc (.cells #[.slice none 0 0, .slice none 0 0] 83)) w.heap.size (.slice none 0 0) (.slice none 0 0)) := Lib.hid ⟨hb0, by simp, z0⟩
    generalize hw0 : w.alloc (.cells #[.slice none 0 0, .slice none 0 0] 83) = w0 at z0 hb0 hS0
    have HW0 := Lib.hid hw0
    have d0 := (hb0.cell (p := ⟨a, o + ni * 3, none⟩) ha).trans c0
    have HQ1 : Hid (∀ W, Below w.heap.size w W → W.cell? ⟨a, o + ni * 3 + 1, none⟩ = some (.slice (some ⟨vb, vo, none⟩) KN cv) ∧ W.cell? ⟨a, o + ni * 3 + 2, none⟩ = some (.slice ac C cc)) := Lib.hid (fun W h => ⟨(h.cell (p := ⟨a, _, none⟩) ha).trans c1, (h.cell (p := ⟨a, _, none⟩) ha).trans c2⟩)
    have HGW := Lib.hid hgw
    have HKB := Lib.hid hkb
    have HVB := Lib.hid hvb
    rw [hgw] at HKB HVB HC HQ1 hS0
    clear hgw hN hni hf hgood hn hg hk5 hel ha hkb hvb c0 c1 c2 hE hC hcall hkids hT hql hw0 z0 hb0 ih
    go_enter Try.func42, Try.ntmps42
    go_upto_region 2 with fail
    rw [HW0.out, HGW.out]
    clear HW0
    go_wp2_with fail
    go_loopw [18] (fun ix wr => ∃ (nj : Nat) (vE : Value), nj ≤ KN ∧ ix = .int .i64 nj ∧ Hid (ESt w wr g vE (.slice none 0 0)) ∧ Hid (OwnE wr (g + 1) vE (es.take nj))) (fun ix _ => KN - (intOf ix).toNat)
    case atStart => exact ⟨0, _, Nat.zero_le _, rfl, hS0, Lib.hid (OwnE.nil _ _)⟩
    case round =>
      obtain ⟨nj, vE, hj, rfl, hS, hO⟩ := hrel
      clear hS0 d0
      by_cases hlt : nj < KN
      · have iI : (nj : Int) < (KN : Int) := by omega
        obtain ⟨key, x, hej, ck0, cv0⟩ := HE.out nj hlt
        have p0 := (hS.out.low.cell (p := ⟨kb, ko + nj, none⟩) HKB.out).trans ck0
        have HQ : Hid (∀ W, Below g w W → W.cell? ⟨a, o + ni * 3 + 1, none⟩ = some (.slice (some ⟨vb, vo, none⟩) KN cv) ∧ W.cell? ⟨vb, vo + nj, none⟩ = some (.int .i64 x)) := Lib.hid (fun W h => ⟨(HQ1.out W h).1, (h.cell (p := ⟨vb, _, none⟩) HVB.out).trans cv0⟩)
        have HT : Hid (es.take (nj + 1) = es.take nj ++ [(key, x)]) := Lib.hid (take_snocT es nj (key, x) hej)
        have hlen : (es.take nj).length ≤ 1000 := by rw [List.length_take]; have := HL.out; omega
        clear ck0 cv0 hej
        go_upto_region 5 with fail
        clear p0
        refine wp_region_chain 19 [15, 16] (by kernel_rfl) (by kernel_rfl) (by kernel_rfl) (BrF5 g vE es key x a o L cap ni vb vo KN cv nj) (fun s W => ESt w W g vE (.slice none 0 0) ∧ (s < 2 → OwnE W (g + 1) vE (es.take nj))) (fun s w w' => if s = 0 then Below w.heap.size w w' else w.grownBy w' vE.ownBlock) ?hF ?h0 ?hstep ?hcall ?hdone
        case hF =>
          intro s i hs j v W W' hjn hne hpb h he
          rcases (show j = 0 ∨ j = 1 ∨ j = 2 ∨ j = 3 ∨ j = 4 ∨ j = 5 ∨ j = 6 ∨ j = 7 ∨ j = 8 ∨ j = 9 ∨ j = 10 ∨ j = 11 ∨ j = 12 ∨ j = 13 ∨ j = 14 ∨ j = 15 ∨ j = 16 ∨ j = 17 ∨ j = 18 by omega) with rfl | rfl | rfl | rfl | rfl | rfl | rfl | rfl | rfl | rfl | rfl | rfl | rfl | rfl | rfl | rfl | rfl | rfl | rfl
          · exact h
          · exact h
          · exact h
          · exact h
          · exact h
          · exact h
          · exact h
          · exact h
          · exact h
          · exact h
          · exact h
          · exact h
          · exact h
          · exact h
          · exact h
          · rcases s with _ | _ | s
            · obtain rfl : 15 = i := by simpa using hs
              exact absurd rfl hne
            · obtain ⟨k, h1, h2, h3⟩ := h
              exact ⟨k, h1, h2.same (World.grownBy.block he k h2.lt (fun hh => h3 hh.symm)), h3⟩
            · simp at hs
          · rcases s with _ | _ | s
            · exact OwnE.keep h he
            · obtain rfl : 16 = i := by simpa using hs
              exact absurd rfl hne
            · simp at hs
          · exact h
          · exact h
        case h0 => exact ⟨hS.out.below (Below.drew (Below.refl _ _)), fun _ => hO.out.keep (Below.drew (Below.refl _ _))⟩
        case hstep =>
          intro j hj hni s vs act W K ha' hst hd hu hK
          simp only [fillF, Act.put, List.take_succ_cons, List.take_zero, List.setIfInBounds_toArray, List.set_cons_zero, List.set_cons_succ] at ha'
          subst ha'
          clear hu
          have q1 := hst.1.node.cell (j := 0) rfl
          have q2 := (HQ.out W hst.1.low).1
          have q3 := (HQ.out W hst.1.low).2
          rcases (show j = 0 ∨ j = 1 ∨ j = 2 ∨ j = 3 ∨ j = 4 ∨ j = 5 ∨ j = 6 ∨ j = 7 ∨ j = 8 ∨ j = 9 ∨ j = 10 ∨ j = 11 ∨ j = 12 ∨ j = 13 ∨ j = 14 ∨ j = 15 ∨ j = 16 ∨ j = 17 ∨ j = 18 by omega) with rfl | rfl | rfl | rfl | rfl | rfl | rfl | rfl | rfl | rfl | rfl | rfl | rfl | rfl | rfl | rfl | rfl | rfl | rfl
          · refine wpOp_step rfl (fun K' hK' => ?_)
            go_simp
            exact hK' _ _ (hK _ rfl)
          · refine wpOp_step rfl (fun K' hK' => ?_)
            go_simp
            exact hK' _ _ (hK _ rfl)
          · have e1 : vs 1 = .pointer (some ⟨g, 0, none⟩) := hd 1 (by kernel_rfl)
            simp only [e1] at hK ⊢
            refine wpOp_step rfl (fun K' hK' => ?_)
            go_simp
            exact hK' _ _ (hK _ rfl)
          · have e2 : vs 2 = .pointer (some ⟨g, 0, none⟩) := hd 2 (by kernel_rfl)
            simp only [e2] at hK ⊢
            refine wpOp_step rfl (fun K' hK' => ?_)
            go_simp
            exact hK' _ _ (hK _ rfl)
          · have e3 : vs 3 = .pointer (some ⟨g, 0, none⟩) := hd 3 (by kernel_rfl)
            simp only [e3] at hK ⊢
            refine wpOp_step rfl (fun K' hK' => ?_)
            go_simp
            exact hK' _ _ (hK _ rfl)
          · refine wpOp_step rfl (fun K' hK' => ?_)
            go_simp
            exact hK' _ _ (hK _ rfl)
          · refine wpOp_step rfl (fun K' hK' => ?_)
            go_simp
            exact hK' _ _ (hK _ rfl)
          · refine wpOp_step rfl (fun K' hK' => ?_)
            go_simp
            exact hK' _ _ (hK _ rfl)
          · have e6 : vs 6 = .slice (some ⟨a, o, none⟩) L cap := hd 6 (by kernel_rfl)
            have e7 : vs 7 = .int .i64 (ni : Int) := hd 7 (by kernel_rfl)
            simp only [e6, e7] at hK ⊢
            refine wpOp_step rfl (fun K' hK' => ?_)
            go_simp
            exact hK' _ _ (hK _ rfl)
          · have e8 : vs 8 = .pointer (some ⟨a, o + ni * 3, none⟩) := hd 8 (by kernel_rfl)
            simp only [e8] at hK ⊢
            refine wpOp_step rfl (fun K' hK' => ?_)
            go_simp
            exact hK' _ _ (hK _ rfl)
          · have e9 : vs 9 = .pointer (some ⟨a, o + ni * 3 + 1, none⟩) := hd 9 (by kernel_rfl)
            simp only [e9] at hK ⊢
            refine wpOp_step rfl (fun K' hK' => ?_)
            go_simp
            exact hK' _ _ (hK _ rfl)
          · refine wpOp_step rfl (fun K' hK' => ?_)
            go_simp
            exact hK' _ _ (hK _ rfl)
          · have e10 : vs 10 = .slice (some ⟨vb, vo, none⟩) KN cv := hd 10 (by kernel_rfl)
            have e11 : vs 11 = .int .i64 (nj : Int) := hd 11 (by kernel_rfl)
            simp only [e10, e11] at hK ⊢
            refine wpOp_step rfl (fun K' hK' => ?_)
            go_simp
            exact hK' _ _ (hK _ rfl)
          · have e12 : vs 12 = .pointer (some ⟨vb, vo + nj, none⟩) := hd 12 (by kernel_rfl)
            simp only [e12] at hK ⊢
            refine wpOp_step rfl (fun K' hK' => ?_)
            go_simp
            exact hK' _ _ (hK _ rfl)
          · have e5 : vs 5 = .string (str key) := hd 5 (by kernel_rfl)
            have e13 : vs 13 = .int .i64 x := hd 13 (by kernel_rfl)
            simp only [e5, e13] at hK ⊢
            refine wpOp_step rfl (fun K' hK' => ?_)
            go_simp
            exact hK' _ _ (hK _ rfl)
          · exact (hni (by decide)).elim
          · exact (hni (by decide)).elim
          · have e0 : vs 0 = .pointer (some ⟨g, 0, none⟩) := hd 0 (by kernel_rfl)
            simp only [e0] at hK ⊢
            refine wpOp_step rfl (fun K' hK' => ?_)
            go_simp
            exact hK' _ _ (hK _ rfl)
          · have e17 : vs 17 = .pointer (some ⟨g, 0, none⟩) := hd 17 (by kernel_rfl)
            simp only [e17] at hK ⊢
            refine wpOp_step rfl (fun K' hK' => ?_)
            go_simp
            exact hK' _ _ (hK _ rfl)
        case hcall =>
          intro s j hs vs act W K ha' hst hd hK
          simp only [fillF, Act.put, List.take_succ_cons, List.take_zero, List.setIfInBounds_toArray, List.set_cons_zero, List.set_cons_succ] at ha'
          subst ha'
          rcases s with _ | _ | s
          · obtain rfl : 15 = j := by simpa using hs
            have e14 : vs 14 = .agg #[.string (str key), .int .i64 x] := hd 14 (by kernel_rfl)
            simp only [e14] at hK ⊢
            refine wpOp_step rfl (fun K' hK' => ?_)
            go_simp
            have hown : vE.ownBlock ≠ some W.heap.size := fun hh => by have := ((hst.2 (by decide)).lt _ hh).2; omega
            have hba : Below W.heap.size W (W.alloc (.cells #[.string (str key), .int .i64 x] 73)) := (Below.refl _ _).alloc (Nat.le_refl _) _
            exact hK' _ _ (hK _ _ ⟨_, rfl, Blk.new W _ _, hown⟩ hba ⟨hst.1.below hba, fun _ => (hst.2 (by decide)).keep hba⟩)
          · obtain rfl : 16 = j := by simpa using hs
            have e4 : vs 4 = vE := hd 4 (by kernel_rfl)
            obtain ⟨k15, e15, y15, o15⟩ := hd 15 (by kernel_rfl)
            simp only [e4, e15] at hK ⊢
            refine wpOp_step rfl (fun K' hK' => ?_)
            rw [if_pos (by simp [Region.wanted])]
            refine wp_append_e (.tmp 27) (.tmp 38) rfl (g + 1) vE (es.take nj) rfl (hst.2 (by decide)) (key, x) k15 rfl y15 hlen hst.1.size ?_
            intro v' w' ho hg hw
            exact hK' _ _ (hK v' w' ho hg ⟨hst.1.grown hg (fun b hb => ((hst.2 (by decide)).lt b hb).1), fun hh => absurd hh (by decide)⟩)
          · simp at hs
        case hdone =>
          intro vs act W ha' hst hfs
          simp only [fillF, Act.put, List.take_succ_cons, List.take_zero, List.drop_succ_cons, List.drop_zero, List.setIfInBounds_toArray, List.set_cons_zero, List.set_cons_succ] at ha' ⊢
          subst ha'
          have f18 : vs 18 = .pointer (some ⟨g, 0, none⟩) := hfs 18 (by decide)
          have f16 : OwnE W (g + 1) (vs 16) (es.take nj ++ [(key, x)]) := hfs 16 (by decide)
          simp only [Nat.zero_add, Nat.reduceAdd, f18]
          obtain ⟨hst1, -⟩ := hst
          obtain ⟨av, cav, ev, -⟩ := owns_shape f16
          clear hfs f18
          generalize vs 16 = v16 at *
          subst ev
          rw [← HT.out] at f16 ⊢
          generalize (es.take (nj + 1)).length = ll at *
          have fr0 := hst1.node.free 0
          have hc0 := hst1.node.cell (j := 0) rfl
          have HS2 := Lib.hid (hst1.setE (.slice av ll cav))
          have HO2 := Lib.hid (f16.set (g := g) (j := 0) (u := .slice av ll cav))
          clear hst1 f16 HT hS hO
          go_wp2_with fail
          go_roundw
          case rel => exact ⟨nj + 1, _, by omega, by go_num, HS2, HO2⟩
          case measure => simp [intOf]; omega
      · have iI : ¬ (nj : Int) < (KN : Int) := by omega
        have HO : Hid (OwnE wr (g + 1) vE es) := Lib.hid (by have := hO.out; rw [List.take_of_length_le (by have := HL.out; omega)] at this; exact this)
        have d2 := (HQ1.out wr hS.out.low).2
        have HK0 := Lib.hid (KSt.start hS.out HO.out)
        clear hS hO HO
        go_wp2_with fail
        go_loopw [49] (fun ix wx => ∃ (nj : Nat) (vK : Value) (ps Fk : List Nat), nj ≤ C ∧ ix = .int .i64 nj ∧ Hid (KSt w wx g vE vK es ((qs.map (branchQ ns f)).take nj) ps Fk) ∧ Hid (OwnK wx (g + 1) vK ps)) (fun ix _ => C - (intOf ix).toNat)
        case atStart => exact ⟨0, _, [], [], Nat.zero_le _, rfl, HK0, Lib.hid (OwnK.nil _ _)⟩
        case round =>
          obtain ⟨nj, vK, ps, Fk, hj, rfl, hS, hO⟩ := hrel
          clear HK0 d2
          by_cases hlt : nj < C
          · have iQ : (nj : Int) < (C : Int) := by omega
            obtain ⟨kn, hqj, hX, b', p', rfl, hb', xk⟩ := HC.out nj hlt
            have dk := (hS.out.e.low.cell (p := ⟨b', p' + nj, none⟩) hb').trans xk
            have HX := Lib.hid hX
            have HT : Hid ((qs.map (branchQ ns f)).take (nj + 1) = (qs.map (branchQ ns f)).take nj ++ [branchQ ns f kn]) := Lib.hid (take_snocT _ nj _ (by rw [List.getElem?_map, hqj]; rfl))
            have hlen : ps.length ≤ 1000 := by rw [hS.out.kids.len, List.length_take]; omega
            clear xk hqj hX hb'
            go_upto_region 10 with fail
            clear dk
            refine wp_region_chain 12 [7, 8, 9] (by kernel_rfl) (by kernel_rfl) (by kernel_rfl) (BrF10 g vE vK ps Fk ns f a o L cap kn) (fun s W => KSt w W g vE vK es ((qs.map (branchQ ns f)).take nj) ps Fk ∧ (s < 3 → OwnK W (g + 1) vK ps)) (fun s w w' => if s < 2 then Below w.heap.size w w' else w.grownBy w' vK.ownBlock) ?hF ?h0 ?hstep ?hcall ?hdone
            case hF =>
              intro s i hs j v W W' hjn hne hpb h he
              rcases (show j = 0 ∨ j = 1 ∨ j = 2 ∨ j = 3 ∨ j = 4 ∨ j = 5 ∨ j = 6 ∨ j = 7 ∨ j = 8 ∨ j = 9 ∨ j = 10 ∨ j = 11 by omega) with rfl | rfl | rfl | rfl | rfl | rfl | rfl | rfl | rfl | rfl | rfl | rfl
              · exact h
              · exact h
              · exact h
              · exact h
              · exact h
              · exact h
              · exact h
              · rcases s with _ | _ | _ | s
                · obtain rfl : 7 = i := by simpa using hs
                  exact absurd rfl hne
                · obtain ⟨k, G, h1, h2, h3⟩ := h
                  exact ⟨k, G, h1, (h3.below h2 he).1, (h3.below h2 he).2⟩
                · obtain ⟨k, G, h1, h2, h3⟩ := h
                  exact ⟨k, G, h1, (h3.grown h2 he).1, (h3.grown h2 he).2⟩
                · simp at hs
              · rcases s with _ | _ | _ | s
                · obtain ⟨q, k, G, h1, h2, h4, h5, h6⟩ := h
                  exact ⟨q, k, G, h1, h2.call he, h4, (h6.below h5 he).1, (h6.below h5 he).2⟩
                · obtain rfl : 8 = i := by simpa using hs
                  exact absurd rfl hne
                · obtain ⟨q, k, G, h1, h2, h4, h5, h6⟩ := h
                  exact ⟨q, k, G, h1, h2.same (World.grownBy.block he q h2.lt (fun hh => h4 hh.symm)), h4, (h6.grown h5 he).1, (h6.grown h5 he).2⟩
                · simp at hs
              · rcases s with _ | _ | _ | s
                · exact Put1.below h he
                · exact Put1.below h he
                · obtain rfl : 9 = i := by simpa using hs
                  exact absurd rfl hne
                · simp at hs
              · exact h
              · exact h
            case h0 => exact ⟨hS.out.below (Below.drew (Below.refl _ _)), fun _ => hO.out.keep (Below.drew (Below.refl _ _))⟩
            case hstep =>
              intro j hj hni s vs act W K ha' hst hd hu hK
              simp only [fillF, Act.put, List.take_succ_cons, List.take_zero, List.setIfInBounds_toArray, List.set_cons_zero, List.set_cons_succ] at ha'
              subst ha'
              clear hu
              have q1 := hst.1.e.node.cell (j := 1) rfl
              rcases (show j = 0 ∨ j = 1 ∨ j = 2 ∨ j = 3 ∨ j = 4 ∨ j = 5 ∨ j = 6 ∨ j = 7 ∨ j = 8 ∨ j = 9 ∨ j = 10 ∨ j = 11 by omega) with rfl | rfl | rfl | rfl | rfl | rfl | rfl | rfl | rfl | rfl | rfl | rfl
              · refine wpOp_step rfl (fun K' hK' => ?_)
                go_simp
                exact hK' _ _ (hK _ rfl)
              · refine wpOp_step rfl (fun K' hK' => ?_)
                go_simp
                exact hK' _ _ (hK _ rfl)
              · have e1 : vs 1 = .pointer (some ⟨g, 0, none⟩) := hd 1 (by kernel_rfl)
                simp only [e1] at hK ⊢
                refine wpOp_step rfl (fun K' hK' => ?_)
                go_simp
                exact hK' _ _ (hK _ rfl)
              · have e2 : vs 2 = .pointer (some ⟨g, 0, none⟩) := hd 2 (by kernel_rfl)
                simp only [e2] at hK ⊢
                refine wpOp_step rfl (fun K' hK' => ?_)
                go_simp
                exact hK' _ _ (hK _ rfl)
              · have e3 : vs 3 = .pointer (some ⟨g, 1, none⟩) := hd 3 (by kernel_rfl)
                simp only [e3] at hK ⊢
                refine wpOp_step rfl (fun K' hK' => ?_)
                go_simp
                exact hK' _ _ (hK _ rfl)
              · refine wpOp_step rfl (fun K' hK' => ?_)
                go_simp
                exact hK' _ _ (hK _ rfl)
              · refine wpOp_step rfl (fun K' hK' => ?_)
                go_simp
                exact hK' _ _ (hK _ rfl)
              · exact (hni (by decide)).elim
              · exact (hni (by decide)).elim
              · exact (hni (by decide)).elim
              · have e0 : vs 0 = .pointer (some ⟨g, 0, none⟩) := hd 0 (by kernel_rfl)
                simp only [e0] at hK ⊢
                refine wpOp_step rfl (fun K' hK' => ?_)
                go_simp
                exact hK' _ _ (hK _ rfl)
              · have e10 : vs 10 = .pointer (some ⟨g, 0, none⟩) := hd 10 (by kernel_rfl)
                simp only [e10] at hK ⊢
                refine wpOp_step rfl (fun K' hK' => ?_)
                go_simp
                exact hK' _ _ (hK _ rfl)
            case hcall =>
              intro s j hs vs act W K ha' hst hd hK
              simp only [fillF, Act.put, List.take_succ_cons, List.take_zero, List.setIfInBounds_toArray, List.set_cons_zero, List.set_cons_succ] at ha'
              subst ha'
              rcases s with _ | _ | _ | s
              · obtain rfl : 7 = j := by simpa using hs
                have e5 : vs 5 = .slice (some ⟨a, o, none⟩) L cap := hd 5 (by kernel_rfl)
                have e6 : vs 6 = .int .i64 (kn : Int) := hd 6 (by kernel_rfl)
                simp only [e5, e6] at hK ⊢
                refine wpOp_step rfl (fun K' hK' => ?_)
                go_simp
                refine (HX.out W hst.1.e.low).mono ?_
                rintro e W' ⟨k, G, rfl, hbr⟩
                have hf : Fresh W'.heap.size g (vE.ownBlock.toList ++ Fk) G vK := ⟨hbr.nodup, fun b hb => ⟨Nat.le_trans hst.1.e.size (hbr.fr b hb).1, (hbr.fr b hb).2, fun hm => by
                  have := (hbr.fr b hb).1
                  rcases List.mem_append.1 hm with hm | hm
                  · have := (hst.1.rowE.lt _ (Option.mem_toList.1 hm)).2; omega
                  · have := (hst.1.fr _ hm).2; omega, fun hm => by have := ((hst.2 (by decide)).lt _ hm).2; have := (hbr.fr b hb).1; omega⟩⟩
                exact hK' _ _ (hK _ _ ⟨k, G, rfl, hbr.nd, hf⟩ hbr.low ⟨hst.1.below hbr.low, fun _ => (hst.2 (by decide)).keep hbr.low⟩)
              · obtain rfl : 8 = j := by simpa using hs
                obtain ⟨k7, G7, e7, x7, y7⟩ := hd 7 (by kernel_rfl)
                simp only [e7] at hK ⊢
                refine wpOp_step rfl (fun K' hK' => ?_)
                go_simp
                have hown : vK.ownBlock ≠ some W.heap.size := fun hh => by have := ((hst.2 (by decide)).lt _ hh).2; omega
                have hba : Below W.heap.size W (W.alloc (.cells #[.pointer (some ⟨k7, 0, none⟩)] 61)) := (Below.refl _ _).alloc (Nat.le_refl _) _
                exact hK' _ _ (hK _ _ ⟨_, k7, G7, rfl, Blk.new W _ _, hown, (y7.below x7 hba).1, (y7.below x7 hba).2⟩ hba ⟨hst.1.below hba, fun _ => (hst.2 (by decide)).keep hba⟩)
              · obtain rfl : 9 = j := by simpa using hs
                have e4 : vs 4 = vK := hd 4 (by kernel_rfl)
                obtain ⟨q8, k8, G8, e8, z8, o8, x8, y8⟩ := hd 8 (by kernel_rfl)
                simp only [e4, e8] at hK ⊢
                refine wpOp_step rfl (fun K' hK' => ?_)
                rw [if_pos (by simp [Region.wanted])]
                refine wp_append_k (.tmp 57) (.tmp 61) rfl (g + 1) vK ps rfl (hst.2 (by decide)) k8 q8 rfl z8 hlen hst.1.e.size ?_
                intro v' w' ho hg hw
                exact hK' _ _ (hK v' w' (Put1.of hst.1 y8 x8 ho hg hw) hg ⟨hst.1.grown (hst.2 (by decide)) hg, fun hh => absurd hh (by decide)⟩)
              · simp at hs
            case hdone =>
              intro vs act W ha' hst hfs
              simp only [fillF, Act.put, List.take_succ_cons, List.take_zero, List.drop_succ_cons, List.drop_zero, List.setIfInBounds_toArray, List.set_cons_zero, List.set_cons_succ] at ha' ⊢
              subst ha'
              have f11 : vs 11 = .pointer (some ⟨g, 1, none⟩) := hfs 11 (by decide)
              have f9 : Put1 W g (vE.ownBlock.toList ++ Fk) (vs 9) ps (branchQ ns f kn) := hfs 9 (by decide)
              simp only [Nat.zero_add, Nat.reduceAdd, f11]
              obtain ⟨hst1, -⟩ := hst
              obtain ⟨av, cav, ll, ev⟩ : ∃ av cav ll, vs 9 = .slice av ll cav := by
                obtain ⟨k, G, h1, -⟩ := f9
                obtain ⟨av, cav, ev, -⟩ := owns_shape h1
                exact ⟨av, cav, _, ev⟩
              clear hfs f11
              generalize vs 9 = v9 at *
              subst ev
              obtain ⟨qs', Fk', hK2, hO2⟩ := hst1.add f9
              rw [← HT.out] at hK2
              have fr0 := hst1.e.node.free 1
              have hc0 := hst1.e.node.cell (j := 1) rfl
              have HK2 := Lib.hid hK2
              have HO2 := Lib.hid hO2
              clear hst1 f9 HT hS hO hK2 hO2
              go_wp2_with fail
              go_roundw
              case rel => exact ⟨nj + 1, _, qs', Fk', by omega, by go_num, HK2, HO2⟩
              case measure => simp [intOf]; omega
          · have iQ : ¬ (nj : Int) < (C : Int) := by omega
            have hK2 := hS.out
            rw [List.take_of_length_le (by rw [List.length_map]; have := HL.out; omega)] at hK2
            obtain ⟨F, hF⟩ := hK2.done HGW.out hO.out
            have HF := Lib.hid hF
            clear hK2 hF hS hO
            go_wp2_with fail
            go_ret
            exact ⟨g, rfl, F, HF.out⟩
end Go.Proofs.Ytopgakdgifmecaa
