/-
  THE WALK of the law 'chirographkeep.TreeDeep'.
  CONDITIONS: each theorem's own hypotheses.
-/
import Derived.Test.YtopgakdgifmecaaLawTm
namespace Go.Proofs.Ytopgakdgifmecaa
open Go.RowKit
set_option linter.unusedVariables false
set_option maxRecDepth 100000

theorem interT_ge (es : List En) (k : List En) (ks : List (List En)) : k.length ≤ (interT es (k :: ks)).length := by
  cases es with
  | nil => simp [interT]
  | cons e es => simp [interT]
/-- A tree that deep has as many entries. -/
theorem ok_size : ∀ (d : Nat) (t : Tr), okT d t → 2 ^ (d + 1) ≤ (flatT t).length + 1
  | 0, .mk es ks, h => by
    obtain ⟨h1, -, rfl⟩ := h
    have : (flatT (.mk es [])).length = es.length := by simp [flatT, flatL, interT]
    omega
  | d + 1, .mk es ks, h => by
    obtain ⟨h1, -, h3, h4⟩ := h
    match es, ks, h1, h3, h4 with
    | [], _, h1, _, _ => simp at h1
    | e :: es, [], _, h3, _ => simp at h3
    | e :: es, [k], _, h3, _ => simp at h3
    | e :: es, k1 :: k2 :: r, _, _, h4 =>
      have i1 := ok_size d k1 (h4 k1 (by simp))
      have i2 := ok_size d k2 (h4 k2 (by simp))
      have e1 : (flatT (.mk (e :: es) (k1 :: k2 :: r))).length = (flatT k1).length + ((interT es (flatT k2 :: flatL r)).length + 1) := by
        simp [flatT, flatL, interT]
      have i3 := interT_ge es (flatT k2) (flatL r)
      have e2 : 2 ^ (d + 1 + 1) = 2 ^ (d + 1) + 2 ^ (d + 1) := by rw [Nat.pow_succ]; omega
      omega
/-- A node on the way down by the first kids. -/
def PathD (ns : List Nq) (D j a : Nat) : Prop := ∃ f d, okT d (branchQ ns f a) ∧ j + d = D
theorem path_node {ns : List Nq} {D j a : Nat} (h : PathD ns D j a) (hin : ∀ q n, ns[q]? = some n → inQ ns.length q n) : ∃ n, ns[a]? = some n ∧ (n.kids = [] → j = D) ∧ ∀ k ks, n.kids = k :: ks → ∃ b : Nat, k = b ∧ j < D ∧ PathD ns D (j + 1) b := by
  obtain ⟨f, d, hok, hD⟩ := h
  cases f with
  | zero =>
    rw [ok_iff] at hok
    have := hok.1
    simp [branchQ, Tr.es] at this
  | succ f =>
    have h1 := ((ok_iff _ _).1 hok).1
    simp only [branchQ, Tr.es] at h1
    cases hn : ns[a]? with
    | none => rw [entsAt, hn] at h1; simp at h1
    | some n =>
      have hk : kidsAt ns a = kidsQ n := by unfold kidsAt; rw [hn]
      refine ⟨n, rfl, fun hz => ?_, fun k ks hc => ?_⟩
      · cases d with
        | zero => omega
        | succ d =>
          simp only [branchQ, okT] at hok
          have := hok.2.2.1
          rw [List.length_map, hk, kidsQ, hz] at this
          simp at this
      · have hpos := hin a n hn k (by rw [hc]; simp)
        cases d with
        | zero =>
          simp only [branchQ, okT] at hok
          have := hok.2.2
          rw [hk, kidsQ, hc] at this
          simp at this
        | succ d =>
          refine ⟨k.toNat, by omega, by omega, f, d, ?_, by omega⟩
          simp only [branchQ, okT] at hok
          refine hok.2.2.2 _ ?_
          rw [hk, kidsQ, hc]
          simp
set_option maxHeartbeats 16000000 in
theorem treeDeep_walk (l : List R) (ao : Option Addr) (cap : Nat) (w : World) (hc : l.length ≤ cap) (hm : cap ≤ 9223372036854775807) (hR : Raws w ao l) :
    Calls Try.prog 9 #[.slice ao l.length cap] w fun e w' => e = .returned (.bool true) ∧ Below w.heap.size w w' := by
  have c1 := grown_any l ao cap 60 60 rfl w hc hm (by omega) hR
  obtain ⟨m, hg⟩ : ∃ m, growL (l.take 60) = m := ⟨_, rfl⟩
  have hlen : m.length ≤ 60 := by
    rw [← hg]
    have := growL_len (l.take 60)
    rw [List.length_take] at this; omega
  rw [hg] at c1
  clear hg
  generalize l.length = RN at *
  go_enter Try.func9, Try.ntmps9
  go_wp2_with fail
  refine c1.mono ?_
  rintro e w1 ⟨au, nu, cu, v, rfl, hT, hO, hB⟩
  clear c1
  have z3 : Blk _ _ _ [_] := Blk.new w1 #[.slice au nu cu] 24
  have hb3 := (Below.refl w1.heap.size w1).alloc (Nat.le_refl _) (.cells #[.slice au nu cu] 24)
  obtain ⟨w2, hw2⟩ : ∃ W, w1.alloc (.cells #[.slice au nu cu] 24) = W := ⟨_, rfl⟩
  rw [hw2] at z3 hb3
  obtain ⟨m3, hm3⟩ : ∃ x, w1.heap.size = x := ⟨_, rfl⟩
  rw [hm3] at z3
  have hT2 := hT.keep hb3
  have hO2 := hO.keep hb3
  have hB2 := below_stepE hB hB.size hb3
  have HW2 := Lib.hid hw2
  have HM3 := Lib.hid hm3
  clear hT hO hB hb3 hw2 hm3
  obtain ⟨av, cv, rfl, -⟩ := owns_shape hO2
  obtain ⟨M, hM⟩ : ∃ M, m.length = M := ⟨_, rfl⟩
  rw [hM] at hlen ⊢
  have q3 := z3.cell (j := 0) rfl
  obtain ⟨ns, rfl, hN, hF, hl, hr, hfl⟩ := hT2
  go_upto_region 2 with fail
  rw [HW2.out, HM3.out]
  clear HW2 HM3 hO2
  rcases root_ok ns hr with ⟨rfl, hz⟩ | ⟨D, -, hok⟩
  · have hM0 : M = 0 := by
      rw [← hM, ← hfl, hz]; rfl
    subst hM0
    clear hN hF hl hr hfl hM hlen hz
    go_wp2_with fail
    go_loopw [6] (fun dp wr => dp = .int .i64 0 ∧ wr = w2) (fun _ _ => 0)
    case atStart => exact ⟨rfl, rfl⟩
    case round =>
      obtain ⟨rfl, hwr⟩ := hrel
      subst hwr
      go_upto_region 9 with fail
      go_wp2_with (go_at_call 25; refine (treeTells_any _).mono ?_; rintro e w4 ⟨rfl, b4⟩)
      go_ret
      exact ⟨rfl, below_stepE hB2 hB2.size b4⟩
  · have hsz := ok_size D _ hok
    rw [hfl, hM] at hsz
    have hD5 : D ≤ 4 := by
      rcases Nat.lt_or_ge 4 D with h | h
      · have := Nat.pow_le_pow_right (show 0 < 2 by omega) (show 6 ≤ D + 1 by omega)
        omega
      · exact h
    obtain ⟨b1, b2, -, -⟩ := root_rise ns hr
    obtain ⟨a1, -⟩ := link_sound ns.length ns 0 _ (by omega) (by simp) b2
    have hin : ∀ q n, ns[q]? = some n → inQ ns.length q n := fun q n h => by have := (a1 q n h).2; rwa [Nat.zero_add] at this
    obtain ⟨L, hL⟩ : ∃ L, ns.length = L := ⟨_, rfl⟩
    have hL0 : 0 < L := by
      cases ns with
      | nil =>
        rw [ok_iff] at hok
        have := hok.1
        simp [rootQ, branchQ, Tr.es] at this
      | cons n ns => simp at hL; omega
    have HP : Hid (∀ j a, PathD ns D j a → ∃ n : Nq, a < L ∧ (n.kids = [] → j = D) ∧ (∀ k ks, n.kids = k :: ks → ∃ b : Nat, k = b ∧ j < D ∧ PathD ns D (j + 1) b) ∧ ∃ ga o ac cc, au = some ⟨ga, o, none⟩ ∧ w2.cell? ⟨ga, o + a * 3 + 2, none⟩ = some (.slice ac n.kids.length cc) ∧ n.kids.length ≤ cc ∧ cc ≤ 9223372036854775807 ∧ ∀ k ks, n.kids = k :: ks → ∃ b p, ac = some ⟨b, p, none⟩ ∧ w2.cell? ⟨b, p, none⟩ = some (.int .i64 k)) := Lib.hid (fun j a h => by
      obtain ⟨n, h1, h2, h3⟩ := path_node h hin
      obtain ⟨ga, o, s, g1, -, g2, -, -, g3⟩ := hN.at h1
      refine ⟨n, by rw [← hL]; exact (List.getElem?_eq_some_iff.1 h1).1, h2, h3, ga, o, s.ac, s.cc, g1, g3, g2.c1, g2.c2, fun k ks hk => ?_⟩
      rcases g2.C.2 with e | ⟨b, p, e1, -, e2⟩
      · rw [hk] at e; cases e
      · exact ⟨b, p, e1, e2 0 k (by rw [hk]; rfl)⟩)
    have HP0 : Hid (PathD ns D 0 0) := Lib.hid ⟨_, D, hok, by omega⟩
    have HSZ := Lib.hid hsz
    have l0 : (0 : Int) < (L : Int) := by omega
    rw [hL] at q3 ⊢
    clear hok hsz b1 b2 a1 hin hL hN hF hl hr hfl
    go_wp2_with fail
    go_loopw [6, 7] (fun dp at_ wr => ∃ (j a : Nat), j ≤ D ∧ dp = .int .i64 j ∧ at_ = .int .i64 a ∧ wr = w2 ∧ Hid (PathD ns D j a)) (fun dp _ _ => D - (intOf dp).toNat)
    case atStart => exact ⟨0, 0, Nat.zero_le _, rfl, rfl, rfl, HP0⟩
    case round =>
      obtain ⟨j, a, hj, rfl, rfl, hwr, hp⟩ := hrel
      obtain rfl := hwr.symm
      obtain ⟨n, haL, hk0, hk1, ga, o, ac, cc, rfl, x2, hcc, hcm, hk2⟩ := HP.out j a hp.out
      have i1 : ¬ (L : Int) ≤ (a : Int) := by omega
      have i2 : (a : Int) < (L : Int) := by omega
      have i3 : (0 : Int) ≤ (a : Int) := by omega
      have i4 : ¬ (10 : Int) < (j : Int) + 1 := by omega
      have i5 : (j : Int) ≤ 4 := by omega
      obtain ⟨ks, hks⟩ : ∃ ks, n.kids = ks := ⟨_, rfl⟩
      rw [hks] at x2 hk0 hk1 hk2 hcc
      cases ks with
      | nil =>
        have hjD := hk0 rfl
        have HJD := Lib.hid hjD
        simp only [List.length_nil] at x2
        clear hk0 hk1 hk2 hjD
        go_upto_region 9 with fail
        obtain rfl : j = D := HJD.out
        have hj4 : j = 0 ∨ j = 1 ∨ j = 2 ∨ j = 3 ∨ j = 4 := by omega
        have hs := HSZ.out
        have hM0 : (0 : Int) < (M : Int) := by have := Nat.pow_le_pow_right (show 0 < 2 by omega) (show 1 ≤ j + 1 by omega); omega
        clear HP HP0 HSZ HJD hp i4 i5 hD5 i1 i2 i3 haL
        rcases hj4 with rfl | rfl | rfl | rfl | rfl
        · skip
          have k1 : (2 : Int) ≤ (M : Int) + 1 := by simp at hs; omega
          clear hs
          go_wp2_with (go_at_call 25; refine (treeTells_any _).mono ?_; rintro e w4 ⟨rfl, b4⟩)
          go_ret
          exact ⟨rfl, below_stepE hB2 hB2.size b4⟩
        · skip
          have k1 : (4 : Int) ≤ (M : Int) + 1 := by simp at hs; omega
          clear hs
          go_wp2_with (go_at_call 25; refine (treeTells_any _).mono ?_; rintro e w4 ⟨rfl, b4⟩)
          go_ret
          exact ⟨rfl, below_stepE hB2 hB2.size b4⟩
        · skip
          have k1 : (8 : Int) ≤ (M : Int) + 1 := by simp at hs; omega
          clear hs
          go_wp2_with (go_at_call 25; refine (treeTells_any _).mono ?_; rintro e w4 ⟨rfl, b4⟩)
          go_ret
          exact ⟨rfl, below_stepE hB2 hB2.size b4⟩
        · skip
          have k1 : (16 : Int) ≤ (M : Int) + 1 := by simp at hs; omega
          clear hs
          go_wp2_with (go_at_call 25; refine (treeTells_any _).mono ?_; rintro e w4 ⟨rfl, b4⟩)
          go_ret
          exact ⟨rfl, below_stepE hB2 hB2.size b4⟩
        · skip
          have k1 : (32 : Int) ≤ (M : Int) + 1 := by simp at hs; omega
          clear hs
          go_wp2_with (go_at_call 25; refine (treeTells_any _).mono ?_; rintro e w4 ⟨rfl, b4⟩)
          go_ret
          exact ⟨rfl, below_stepE hB2 hB2.size b4⟩
      | cons k ks =>
        obtain ⟨b, rfl, hjD, hpb⟩ := hk1 k ks rfl
        obtain ⟨gb, pb, rfl, x3⟩ := hk2 _ ks rfl
        obtain ⟨C, hC⟩ : ∃ C, ks.length + 1 = C := ⟨_, rfl⟩
        rw [List.length_cons, hC] at x2 hcc
        have i6 : ¬ (C : Int) = 0 := by omega
        have i7 : ¬ C = 0 := by omega
        have i8 : (0 : Int) < (C : Int) := by omega
        have HPB := Lib.hid hpb
        clear hk0 hk1 hk2 hC hpb
        go_wp2_with fail
        go_roundw
        case rel => exact ⟨j + 1, b, by omega, by go_num, rfl, by first | rfl | trivial, HPB⟩
        case measure => simp [intOf]; omega
end Go.Proofs.Ytopgakdgifmecaa
