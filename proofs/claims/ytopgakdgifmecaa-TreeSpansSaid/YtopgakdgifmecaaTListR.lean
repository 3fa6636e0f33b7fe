/-
  CONTRACTS of the reference's Listed and Found.
  CONDITIONS: each theorem's own hypotheses.
-/
import Derived.Test.YtopgakdgifmecaaTPof
namespace Go.Proofs.Ytopgakdgifmecaa
open Go.RowKit
set_option linter.unusedVariables false
set_option maxRecDepth 100000

theorem wpList_append_pr {ops : Array Oper} {rest : List Oper} {o : Oper} {a : Act} {Q : Exit → Act → World → Prop} {w : World} (hgd : o.guard = none) (s x : Operand)
    (ho : o.op = .call { callee := .builtin .append, args := #[s, x], argTypes := #[27, 27] }) (base : Nat) (v : Value) (l : List En) (hs : a.eval s = v) (hown : OwnPr w base v l)
    (y : En) (g : Nat) (hx : a.eval x = .slice (some ⟨g, 0, none⟩) 1 1) (h2 : Blk w g 57 (cellsE1 y)) (hl : l.length ≤ 1000) (hb : base ≤ w.heap.size)
    (h : ∀ v' w', OwnPr w' base v' (l ++ [y]) → w.grownBy w' v.ownBlock → (v'.ownBlock = v.ownBlock ∨ v'.ownBlock = some w.heap.size) → wpList Try.prog ops Q rest (a.put o.dst v') w') : wpList Try.prog ops Q (o :: rest) a w :=
  wpList_plain hgd fun K hK => wp_append_pr s x ho base v l hs hown y g hx h2 hl hb (fun v' w' a b c => hK _ _ (h v' w' a b c))
theorem filter_snoc {α : Type} (P : α → Bool) (l : List α) (j : Nat) (x : α) (h : l[j]? = some x) : (l.take (j + 1)).filter P = (l.take j).filter P ++ (if P x = true then [x] else []) := by
  rw [take_snocI l j x h, List.filter_append]
  simp only [List.filter_cons, List.filter_nil]
/-- What stands from one key to another. -/
structure LstR (ns : List Nq) (a b : List UInt8) (w w' : World) (v : Value) : Prop where
  low : Below w.heap.size w w'
  row : readC ns = 0 → OwnPr w' w.heap.size v (listR (flatT (rootQ ns)) a b)
  bad : readC ns ≠ 0 → v = .slice none 0 0
theorem flat_few (ns : List Nq) (h : readC ns = 0) : (flatT (rootQ ns)).length ≤ 300 ∧ ∀ e ∈ flatT (rootQ ns), e.1.length ≤ 60 := by
  obtain ⟨h1, h2, _, _⟩ := root_rise ns h
  have hl : ns.length ≤ 100 := by
    unfold smallQ at h1
    simp only [Bool.and_eq_true, decide_eq_true_eq] at h1
    exact h1.2.1
  exact ⟨(root_good ns h2 hl).2.2, fun e he => flat_short ns h1 e ns.length 0 he⟩
set_option maxHeartbeats 16000000 in
theorem listed_any (ns : List Nq) (ao : Option Addr) (cap : Nat) (a b : List UInt8) (w : World) (hl : ns.length ≤ 9223372036854775806) (hF : FewKeys ns) (hS : Nodes w ao ns) (ha : a.length ≤ 9223372036854775807) (hb : b.length ≤ 9223372036854775807) :
    Calls Try.prog 23 #[.agg #[.slice ao ns.length cap], .string (str a), .string (str b)] w fun e w' => ∃ v, e = .returned (.tuple #[v, .int .i64 (readC ns)]) ∧ LstR ns a b w w' v := by
  have cP := fun W (hW : Below w.heap.size w W) => pairs_any ns ao cap W hl hF (hS.keep hW)
  have hfew := flat_few ns
  have cO := fun (x y : List UInt8) (hx : x.length ≤ 9223372036854775807) (hy : y.length ≤ 9223372036854775807) W => bytesOrder_q (str x) (str y) W (by rw [str_size]; exact hx) (by rw [str_size]; exact hy)
  obtain ⟨m, hm⟩ : ∃ m, flatT (rootQ ns) = m := ⟨_, rfl⟩
  obtain ⟨R, hR⟩ : ∃ R, readC ns = R := ⟨_, rfl⟩
  obtain ⟨L, hL⟩ : ∃ L, ns.length = L := ⟨_, rfl⟩
  rw [hR] at cP hfew ⊢
  rw [hm] at hfew
  rw [hL] at cP ⊢
  have HR := Lib.hid hR
  have HM := Lib.hid hm
  have HFEW := Lib.hid hfew
  have HCO := Lib.hid cO
  have z0 := Blk.new w #[.slice ao L cap] 24
  have hb0 := (Below.refl w.heap.size w).alloc (Nat.le_refl _) (.cells #[.slice ao L cap] 24)
  generalize hw0 : w.alloc (.cells #[.slice ao L cap] 24) = w0 at z0 hb0
  have HW0 := Lib.hid hw0
  have p0 := z0.cell (j := 0) rfl
  have c0 := cP w0 hb0
  have HB0 := Lib.hid hb0
  have hR2 : R = 0 ∨ (R ≠ 0 ∧ ¬ R = 0) := by omega
  have HA : Hid (a.length ≤ 9223372036854775807) := Lib.hid ha
  have HBB : Hid (b.length ≤ 9223372036854775807) := Lib.hid hb
  clear cP hfew cO hm hR hl hF hS hw0 z0 hb0 hL ha hb
  go_enter Try.func23, Try.ntmps23
  go_upto_region 1 with fail
  rw [HW0.out]
  clear HW0
  go_wp2_with fail
  refine c0.mono ?_
  rintro e w1 ⟨v, rfl, hp⟩
  have HP := Lib.hid hp
  have HB1 := Lib.hid (below_stepE HB0.out HB0.out.size hp.low)
  clear c0 p0 hp
  rcases hR2 with h0 | ⟨h0, h1⟩
  · have hrow := HP.out.row (by rw [HR.out]; exact h0)
    rw [HM.out] at hrow
    have hf := HFEW.out h0
    obtain ⟨av, cv, ev, -⟩ := owns_shape hrow
    obtain ⟨M, hM⟩ : ∃ M, m.length = M := ⟨_, rfl⟩
    rw [hM] at ev
    subst ev
    have HC : Hid (∀ j, j < M → ∃ key x bb, m[j]? = some (key, x) ∧ key.length ≤ 60 ∧ av = some ⟨bb, 0, none⟩ ∧ bb < w1.heap.size ∧ w1.cell? ⟨bb, j * 2, none⟩ = some (.string (str key)) ∧ w1.cell? ⟨bb, j * 2 + 1, none⟩ = some (.int .i64 x)) := Lib.hid (fun j hj => by
      have h1 : m[j]? = some (m[j]'(by rw [hM]; exact hj)) := List.getElem?_eq_getElem _
      rw [← hM] at hrow
      obtain ⟨bb, h2, h3, -, h4, h5⟩ := hrow.cell h1
      exact ⟨_, _, bb, h1, hf.2 _ (List.mem_of_getElem? h1), h2, h3, h4, h5⟩)
    have hM3 : M ≤ 300 := by rw [← hM]; exact hf.1
    have HMM := Lib.hid hM
    have HR0 := Lib.hid h0
    subst h0
    clear hrow hf hM
    go_wp2_with fail
    go_loopw [10, 23] (fun vo ix wr => ∃ (j : Nat), j ≤ M ∧ ix = .int .i64 j ∧ Hid (Below w1.heap.size w1 wr) ∧ Hid (OwnPr wr w1.heap.size vo (listR (m.take j) a b))) (fun _ ix _ => M - (intOf ix).toNat)
    case atStart => exact ⟨0, Nat.zero_le _, rfl, Lib.hid (Below.refl _ _), Lib.hid (OwnPr.nil _ _)⟩
    case round =>
      obtain ⟨j, hj, rfl, hbw, hO⟩ := hrel
      by_cases hlt : j < M
      · have iI : (j : Int) < (M : Int) := by omega
        obtain ⟨key, x, bb, hmj, hk60, rfl, hbb, x0, x1⟩ := HC.out j hlt
        have d0 := (hbw.out.cell (p := ⟨bb, j * 2, none⟩) hbb).trans x0
        have d1 := (hbw.out.cell (p := ⟨bb, j * 2 + 1, none⟩) hbb).trans x1
        have hfs := filter_snoc (fun e : En => !lessS e.1 a && !lessS b e.1) m j (key, x) hmj
        have hlen : (listR (m.take j) a b).length ≤ 1000 := by
          have := List.length_filter_le (fun e : En => !lessS e.1 a && !lessS b e.1) (m.take j)
          rw [List.length_take] at this
          unfold listR
          omega
        have c1 := HCO.out key a (by omega) HA.out
        have c2 := HCO.out key b (by omega) HBB.out
        rw [str_data, str_data] at c1 c2
        have g1 := cmp_ge key a
        have g2 := cmp_le key b
        obtain ⟨z1, hz1⟩ : ∃ z, (!lessS key a) = z := ⟨_, rfl⟩
        obtain ⟨z2, hz2⟩ : ∃ z, (!lessS b key) = z := ⟨_, rfl⟩
        rw [hz1] at g1
        rw [hz2] at g2
        have hnext : listR (m.take (j + 1)) a b = listR (m.take j) a b ++ (if (z1 && z2) = true then [(key, x)] else []) := by
          unfold listR
          rw [hfs]
          simp only [hz1, hz2]
        have HN := Lib.hid hnext
        generalize Lib.compareBytes key a = D1 at *
        generalize Lib.compareBytes key b = D2 at *
        have hz : Blk _ _ _ [_, _] := Blk.new wr #[.string (str key), .int .i64 x] 57
        have hba := (Below.refl wr.heap.size wr).alloc (Nat.le_refl _) (.cells #[.string (str key), .int .i64 x] 57)
        have HBA := Lib.hid (below_stepE hbw.out hbw.out.size hba)
        have HOA := Lib.hid (hO.out.keep hba)
        clear x0 x1 hmj hfs hnext hz1 hz2 hbw hO
        go_upto_region 8 with fail
        generalize hwa : wr.alloc (.cells #[.string (str key), .int .i64 x] 57) = wa at *
        clear hwa d0 d1 hba
        generalize wr.heap.size = gp at *
        have p0 := hz.cell (j := 0) rfl
        go_wp2_with fail
        refine (c1 _).mono ?_
        rintro e w2 ⟨rfl, hq2⟩
        have hb2 : Below wa.heap.size wa w2 := by obtain ⟨q, rfl⟩ := hq2; exact below_dqT (Below.refl _ _) q
        have hzb := hz.call hb2
        have HB2 := Lib.hid (below_stepE HBA.out HBA.out.size hb2)
        have HO2 := Lib.hid (HOA.out.keep hb2)
        have p0 := hzb.cell (j := 0) rfl
        have p1 := hzb.cell (j := 1) rfl
        clear c1 hq2 hb2 hz HOA HBA
        cases z1
        · have HN2 : Hid (listR (m.take (j + 1)) a b = listR (m.take j) a b) := Lib.hid (by rw [HN.out]; simp)
          have HO3 := Lib.hid (HO2.out)
          rw [← HN2.out] at HO3
          clear HN HO2
          go_wp2_with fail
          go_roundw
          case rel => exact ⟨j + 1, by omega, by go_num, HB2, HO3⟩
          case measure => simp [intOf]; omega
        · go_wp2_with fail
          refine (c2 _).mono ?_
          rintro e w3 ⟨rfl, hq3⟩
          have hb3 : Below w2.heap.size w2 w3 := by obtain ⟨q, rfl⟩ := hq3; exact below_dqT (Below.refl _ _) q
          have hzc := hzb.call hb3
          have HB3 := Lib.hid (below_stepE HB2.out HB2.out.size hb3)
          have HO3 := Lib.hid (HO2.out.keep hb3)
          have p0 := hzc.cell (j := 0) rfl
          have p1 := hzc.cell (j := 1) rfl
          clear c2 hq3 hb3 hzb hzc HB2 HO2
          cases z2
          · have HN2 : Hid (listR (m.take (j + 1)) a b = listR (m.take j) a b) := Lib.hid (by rw [HN.out]; simp)
            rw [← HN2.out] at HO3
            clear HN
            go_wp2_with fail
            go_roundw
            case rel => exact ⟨j + 1, by omega, by go_num, HB3, HO3⟩
            case measure => simp [intOf]; omega
          · have HN2 : Hid (listR (m.take (j + 1)) a b = listR (m.take j) a b ++ [(key, x)]) := Lib.hid (by rw [HN.out]; simp)
            have z4 : Blk _ _ _ [_, _] := Blk.new w3 #[.string (str key), .int .i64 x] 57
            have hb4 := (Below.refl w3.heap.size w3).alloc (Nat.le_refl _) (.cells #[.string (str key), .int .i64 x] 57)
            generalize hw4 : w3.alloc (.cells #[.string (str key), .int .i64 x] 57) = w4 at z4 hb4
            have HW4 := Lib.hid hw4
            have HB4 := Lib.hid (below_stepE HB3.out HB3.out.size hb4)
            have HO4 := Lib.hid (HO3.out.keep hb4)
            have HZ4 := Lib.hid z4
            have hsz4 := HB4.out.size
            clear hw4 z4 hb4 HN HB3 HO3
            go_wp2_with (first | (at_builtin; rw [HW4.out]; refine wpList_append_pr rfl (.tmp 39) (.tmp 41) rfl w1.heap.size u10 (listR (m.take j) a b) rfl HO4.out (key, x) w3.heap.size rfl HZ4.out hlen hsz4 ?_; intro v5 w5 ho5 hg5 hw5; rw [← HN2.out] at ho5; have HB5 := Lib.hid (HB4.out.grown hg5 hsz4 (fun b hb => (HO4.out.lt b hb).1)); have HO5 := Lib.hid ho5; clear ho5) | fail)
            go_roundw
            case rel => exact ⟨j + 1, by omega, by go_num, HB5, HO5⟩
            case measure => simp [intOf]; omega
      · have iI : ¬ (j : Int) < (M : Int) := by omega
        have hO2 := hO.out
        rw [List.take_of_length_le (by rw [HMM.out]; omega)] at hO2
        have HO2 := Lib.hid (owns_base hO2 (HB1.out.size))
        have HB2 := Lib.hid (below_stepE HB1.out HB1.out.size hbw.out)
        clear hO2 hO hbw
        go_wp2_with fail
        go_ret2
        exact ⟨_, rfl, HB2.out, fun _ => by rw [HM.out]; exact HO2.out, fun h => absurd HR.out h⟩
  · have iR : (R != 0) = true := by simpa using h0
    have HN := Lib.hid h0
    clear h0
    go_wp2_with fail
    go_ret2
    exact ⟨_, rfl, HB1.out, fun h => absurd (HR.out.symm.trans h) HN.out, fun _ => rfl⟩
/-- What the reference finds. -/
def foundV (l : List En) : Int := match l with
  | [] => 0
  | e :: _ => e.2
def foundC (l : List En) : Int := match l with
  | [] => 5
  | _ :: _ => 0
set_option maxHeartbeats 8000000 in
theorem found_any (ns : List Nq) (ao : Option Addr) (cap : Nat) (s : List UInt8) (w : World) (hl : ns.length ≤ 9223372036854775806) (hF : FewKeys ns) (hS : Nodes w ao ns) (hs : s.length ≤ 9223372036854775807) :
    Calls Try.prog 16 #[.agg #[.slice ao ns.length cap], .string (str s)] w fun e w' => ∃ v c : Int, e = .returned (.tuple #[.int .i64 v, .int .i64 c]) ∧ (readC ns ≠ 0 → v = 0 ∧ c = readC ns) ∧ (readC ns = 0 → v = foundV (listR (flatT (rootQ ns)) s s) ∧ c = foundC (listR (flatT (rootQ ns)) s s)) ∧ Below w.heap.size w w' := by
  have cP := fun W (hW : Below w.heap.size w W) => listed_any ns ao cap s s W hl hF (hS.keep hW) hs hs
  obtain ⟨m, hm⟩ : ∃ m, listR (flatT (rootQ ns)) s s = m := ⟨_, rfl⟩
  obtain ⟨R, hR⟩ : ∃ R, readC ns = R := ⟨_, rfl⟩
  obtain ⟨L, hL⟩ : ∃ L, ns.length = L := ⟨_, rfl⟩
  rw [hR] at cP ⊢
  rw [hm]
  rw [hL] at cP ⊢
  have HR := Lib.hid hR
  have HM := Lib.hid hm
  have z0 := Blk.new w #[.slice ao L cap] 24
  have hb0 := (Below.refl w.heap.size w).alloc (Nat.le_refl _) (.cells #[.slice ao L cap] 24)
  generalize hw0 : w.alloc (.cells #[.slice ao L cap] 24) = w0 at z0 hb0
  have HW0 := Lib.hid hw0
  have p0 := z0.cell (j := 0) rfl
  have c0 := cP w0 hb0
  have HB0 := Lib.hid hb0
  have hR2 : R = 0 ∨ (R ≠ 0 ∧ ¬ R = 0) := by omega
  generalize str s = S at *
  clear cP hm hR hl hF hS hw0 z0 hb0 hL hs
  go_enter Try.func16, Try.ntmps16
  go_upto_region 1 with fail
  rw [HW0.out]
  clear HW0
  go_wp2_with fail
  refine c0.mono ?_
  rintro e w1 ⟨v, rfl, hp⟩
  have HP := Lib.hid hp
  have HB1 := Lib.hid (below_stepE HB0.out HB0.out.size hp.low)
  clear c0 p0 hp
  rcases hR2 with h0 | ⟨h0, h1⟩
  · have hrow := HP.out.row (by rw [HR.out]; exact h0)
    rw [HM.out] at hrow
    subst h0
    obtain ⟨av, cv, ev, -⟩ := owns_shape hrow
    subst ev
    cases m with
    | nil =>
      clear hrow
      go_wp2_with fail
      go_ret2
      exact ⟨0, 5, rfl, ⟨rfl, rfl⟩, HB1.out⟩
    | cons e l =>
      obtain ⟨bb, rfl, hbb, -, x0, x1⟩ := hrow.cell (j := 0) (e := e) rfl
      obtain ⟨key, x⟩ := e
      simp only [Nat.zero_mul, Nat.zero_add] at x1
      obtain ⟨M, hM⟩ : ∃ M, ((key, x) :: l).length = M := ⟨_, rfl⟩
      have iM : (0 : Int) < (M : Int) := by rw [← hM]; simp
      have iM2 : ¬ (M : Int) = 0 := by omega
      rw [hM]
      clear hrow x0 hM
      go_wp2_with fail
      go_ret2
      exact ⟨x, 0, rfl, ⟨rfl, rfl⟩, HB1.out⟩
  · have iR : (R != 0) = true := by simpa using h0
    have HN := Lib.hid h0
    clear h0
    go_wp2_with fail
    go_ret2
    exact ⟨0, R, rfl, fun _ => ⟨rfl, rfl⟩, fun h => absurd h HN.out, HB1.out⟩
end Go.Proofs.Ytopgakdgifmecaa
