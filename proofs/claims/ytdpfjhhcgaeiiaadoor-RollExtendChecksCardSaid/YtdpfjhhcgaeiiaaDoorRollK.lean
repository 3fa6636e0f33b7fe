/-
  CONTRACTS of package roll's CheckExtend.
  CONDITIONS: package sum's roundWords hold what their initialiser lays ('KW').
-/
import Derived.Test.YtdpfjhhcgaeiiaaDoorRollJ
import Derived.Test.YtdpfjhhcgaeiiaaDoorRollX
import Derived.Test.YtdpfjhhcgaeiiaaDoorRollE
namespace Go.Proofs.YtdpfjhhcgaeiiaaDoor
open Go.RowKit CodeMath Go.Proofs.YtdpfjhhcgaeiiaaDoor.FrameMath
set_option linter.unusedVariables false
set_option maxRecDepth 100000

theorem extFault_end {a b old top : List UInt8} {O : Option (List UInt8 × List UInt8)} {e : Int} (h : OutE 0 O a b e) :
    (if e = 0 ∧ (decide (a = old) && decide (b = top)) = true then 0 else 10 : Int) = if O = some (old, top) then 0 else 10 := by
  by_cases he : e = 0
  · rw [(h.1 he).2]
    by_cases h1 : a = old <;> by_cases h2 : b = top <;> simp [he, h1, h2]
  · rcases h.2 he with h0 | rfl
    · exact absurd rfl h0
    · simp [he]
set_option maxHeartbeats 8000000 in
theorem CheckExtend_any (m : Int) (old : List UInt8) (ao : Option Addr) (co : Nat) (k : Int) (top : List UInt8) (at_ : Option Addr) (ct : Nat) (n : Int) (path : List (List UInt8)) (ap : Option Addr) (cp : Nat) (w : World) (m0 : -9223372036854775808 ≤ m) (m1 : m ≤ 9223372036854775807) (k0 : -9223372036854775808 ≤ k) (k1 : k ≤ 9223372036854775807) (n0 : -9223372036854775808 ≤ n) (n1 : n ≤ 9223372036854775807) (ho : RowV w (.slice ao old.length co) old) (hO : old.length ≤ 140737488351232) (ht : Bytes w at_ top) (hc : path.length ≤ cp) (hq : cp ≤ 9223372036854775807) (hB : ∀ y ∈ path, y.length ≤ 140737488351232) (hl : Lines w ap path) (hT : KW w) :
    Calls Tryd.prog 34 #[.int .i64 m, .slice ao old.length co, .int .i64 k, .slice at_ top.length ct, .int .i64 n, .slice ap path.length cp] w fun ex w' => ex = .returned (.int .i64 (extFaultR m old k top n path)) ∧ Below w.heap.size w w' := by
  have cR := fun W => refuse_any m n W m0 m1 n0 n1
  have hBB := Below.refl w.heap.size w
  obtain ⟨FIN, hF⟩ : ∃ r, extFaultR m old k top n path = r := ⟨_, rfl⟩
  rw [hF]
  unfold extFaultR at hF
  obtain ⟨r, hr⟩ : ∃ r, refR m n = r := ⟨_, rfl⟩
  rw [hr] at cR hF
  by_cases h0 : r = 0
  · subst h0
    rw [if_neg (by decide)] at hF
    obtain ⟨hm, hn0, hn64⟩ := refR_zero hr
    by_cases hi : k < 0 ∨ n < k
    · rw [if_pos hi] at hF
      subst hF
      have hcs : k < 0 ∨ (¬ k < 0 ∧ n < k) := by omega
      generalize path.length = lp at *
      generalize old.length = lo at *
      generalize top.length = lt at *
      clear hr hB hc hO hi hm hl ht hT ho hn0 hn64
      rcases hcs with hiI | ⟨hiI, hiJ⟩
      all_goals
        go_enter Tryd.func34, Tryd.ntmps34
        go_wp2_with fail
        refine (cR _).mono ?_
        rintro ex w1 ⟨rfl, rfl⟩
        clear cR
        go_wp2_with fail
        go_ret
        exact ⟨rfl, hBB⟩
    · rw [if_neg hi] at hF
      have hiI : ¬ k < 0 := by omega
      have hiJ : ¬ n < k := by omega
      have hba : ∀ o, Below w.heap.size w (w.alloc o) := fun o => (Below.refl _ _).alloc (Nat.le_refl _) o
      have hnew := DigW.new w m
      by_cases hk0 : k = 0
      · rw [if_pos hk0] at hF
        subst hk0
        have cE := fun W hD => endD_any w.heap.size m 0 path ap cp W (by omega) hD
        have cT := fun e W hT hD => rootD_any w.heap.size m m0 m1 _ [] none 0 e W (Nat.le_refl _) (by simp) (by simp) (by decide) (by simp) (.inl rfl) hT hD
        rw [show ([] : List (List UInt8)).length = 0 from rfl] at cT
        have hnil : ∃ z, rollR m [] = .ok z := by
          rw [rollR_nil]
          unfold digR
          rw [if_neg (by rw [hm]; decide), if_neg (by decide), if_neg (by simp [total])]
          exact ⟨_, rfl⟩
        obtain ⟨z, hz⟩ := hnil
        rw [hz] at cT
        rw [rootL_ok hz] at hF
        obtain ⟨e1, he1⟩ : ∃ e1, (if path = [] then (0 : Int) else 10) = e1 := ⟨_, rfl⟩
        rw [he1] at cE
        have cT' := cT e1
        obtain ⟨X, hX⟩ : ∃ X, stD e1 (.ok z) = X := ⟨_, rfl⟩
        rw [hX] at cT'
        obtain ⟨b1, hb1⟩ : ∃ b, decide (old = X.1) = b := ⟨_, rfl⟩
        obtain ⟨b2, hb2⟩ : ∃ b, decide (top = X.1) = b := ⟨_, rfl⟩
        have cQ1 := fun zb zc W h h' => equal_any old X.1 b1 hb1 ao zb co zc W h h'
        have cQ2 := fun zb zc W h h' => equal_any top X.1 b2 hb2 at_ zb ct zc W h h'
        have hF2 : (if X.2 = 0 ∧ (b1 && (decide (0 < n) || b2)) = true then (0 : Int) else 10) = FIN := by
          rw [← hF, ← hb1, ← hb2, ← hX, ← he1]
          by_cases hp : path = []
          · rw [if_pos hp, stD_ok]
            by_cases h1 : old = z
            · subst h1
              by_cases h2 : top = old
              · simp [hp, h2]
              · by_cases h3 : n = 0
                · simp [hp, h2, h3]
                · have : 0 < n := by omega
                  simp [hp, h2, h3, this]
            · simp [hp, h1]
          · rw [if_neg hp, stD_bad (by decide)]
            simp [hp]
        have HF := Lib.hid hF2
        have cV := fun b W hD => verdict_any w.heap.size m X.2 b W hD
        generalize hlz : X.1.length = lz at *
        generalize path.length = lp at *
        generalize hlo : old.length = lo at *
        generalize top.length = lt at *
        have hn0I : 0 ≤ n := hn0
        clear hr hB hc hq hO hi hm hl hF hF2 hz hb1 hb2 cT hn0 hlo hX he1
        have hcs : b1 = false ∨ (b1 = true ∧ 0 < n) ∨ (b1 = true ∧ n = 0) := by cases b1 <;> simp <;> omega
        rcases hcs with rfl | ⟨rfl, hnI⟩ | ⟨rfl, rfl⟩
        · obtain rfl : FIN = 10 := by rw [← HF.out]; simp
          have cV' := cV false
          rw [if_neg (by simp)] at cV'
          clear cV cQ2 ht
          go_enter Tryd.func34, Tryd.ntmps34
          go_wp2_with fail
          refine (cR _).mono ?_
          rintro ex w1 ⟨rfl, rfl⟩
          clear cR
          go_wp2_with fail
          refine (cE _ hnew).mono ?_
          rintro ex w2 ⟨rfl, hD2, hg2⟩
          have hT2 := hT.keep (below_new hg2) (Nat.le_refl _)
          clear cE hnew hT
          go_wp2_with fail
          refine (cT' _ hT2 hD2).mono ?_
          rintro ex w3 ⟨v3, rfl, hr3, hD3, hg3⟩
          have hb3 := below_new (grown_trans hg2 hg3)
          have ho3 := ho.keep hb3
          obtain ⟨a3, k3, rfl, -, -, -, r4⟩ := id hr3.row
          obtain ⟨_, _, eo, -, -, -, o4⟩ := id ho3
          obtain ⟨ee, -, -⟩ := Value.slice.inj eo
          subst ee
          rw [hlz] at *
          clear cT' hT2 hD2 hg2 hg3 hr3 ho ho3 eo
          go_wp2_with fail
          refine (cQ1 _ _ _ o4 r4).mono ?_
          rintro ex w4 ⟨rfl, rfl⟩
          clear cQ1 o4 r4
          go_wp2_with fail
          refine (cV' _ hD3).mono ?_
          rintro ex w5 ⟨rfl, rfl⟩
          go_wp2_with fail
          go_ret
          exact ⟨rfl, hb3⟩
        · have hFn : (if X.2 = 0 ∧ true = true then (0 : Int) else 10) = FIN := by rw [← HF.out]; simp [hnI]
          have cV' := cV true
          rw [hFn] at cV'
          clear cV cQ2 ht hFn HF
          go_enter Tryd.func34, Tryd.ntmps34
          go_wp2_with fail
          refine (cR _).mono ?_
          rintro ex w1 ⟨rfl, rfl⟩
          clear cR
          go_wp2_with fail
          refine (cE _ hnew).mono ?_
          rintro ex w2 ⟨rfl, hD2, hg2⟩
          have hT2 := hT.keep (below_new hg2) (Nat.le_refl _)
          clear cE hnew hT
          go_wp2_with fail
          refine (cT' _ hT2 hD2).mono ?_
          rintro ex w3 ⟨v3, rfl, hr3, hD3, hg3⟩
          have hb3 := below_new (grown_trans hg2 hg3)
          have ho3 := ho.keep hb3
          obtain ⟨a3, k3, rfl, -, -, -, r4⟩ := id hr3.row
          obtain ⟨_, _, eo, -, -, -, o4⟩ := id ho3
          obtain ⟨ee, -, -⟩ := Value.slice.inj eo
          subst ee
          rw [hlz] at *
          clear cT' hT2 hD2 hg2 hg3 hr3 ho ho3 eo
          go_wp2_with fail
          refine (cQ1 _ _ _ o4 r4).mono ?_
          rintro ex w4 ⟨rfl, rfl⟩
          clear cQ1 o4 r4
          go_wp2_with fail
          refine (cV' _ hD3).mono ?_
          rintro ex w5 ⟨rfl, rfl⟩
          go_wp2_with fail
          go_ret
          exact ⟨rfl, hb3⟩
        · have hFn : (if X.2 = 0 ∧ b2 = true then (0 : Int) else 10) = FIN := by rw [← HF.out]; simp
          have cV' := cV b2
          rw [hFn] at cV'
          clear cV hFn HF
          go_enter Tryd.func34, Tryd.ntmps34
          go_wp2_with fail
          refine (cR _).mono ?_
          rintro ex w1 ⟨rfl, rfl⟩
          clear cR
          go_wp2_with fail
          refine (cE _ hnew).mono ?_
          rintro ex w2 ⟨rfl, hD2, hg2⟩
          have hT2 := hT.keep (below_new hg2) (Nat.le_refl _)
          clear cE hnew hT
          go_wp2_with fail
          refine (cT' _ hT2 hD2).mono ?_
          rintro ex w3 ⟨v3, rfl, hr3, hD3, hg3⟩
          have hb3 := below_new (grown_trans hg2 hg3)
          have ho3 := ho.keep hb3
          have ht3 := ht.keep hb3
          obtain ⟨a3, k3, rfl, -, -, -, r4⟩ := id hr3.row
          obtain ⟨_, _, eo, -, -, -, o4⟩ := id ho3
          obtain ⟨ee, -, -⟩ := Value.slice.inj eo
          subst ee
          rw [hlz] at *
          clear cT' hT2 hD2 hg2 hg3 hr3 ho ho3 eo ht
          go_wp2_with fail
          refine (cQ1 _ _ _ o4 r4).mono ?_
          rintro ex w4 ⟨rfl, rfl⟩
          clear cQ1 o4
          go_wp2_with fail
          refine (cQ2 _ _ _ ht3 r4).mono ?_
          rintro ex w4 ⟨rfl, rfl⟩
          clear cQ2 r4 ht3
          go_wp2_with fail
          refine (cV' _ hD3).mono ?_
          rintro ex w5 ⟨rfl, rfl⟩
          go_wp2_with fail
          go_ret
          exact ⟨rfl, hb3⟩
      · rw [if_neg hk0] at hF
        obtain ⟨p, rfl⟩ : ∃ p : Nat, k = p := ⟨k.toNat, by omega⟩
        obtain ⟨N, rfl⟩ : ∃ N : Nat, n = N := ⟨n.toNat, by omega⟩
        rw [Int.toNat_natCast, Int.toNat_natCast] at hF
        have cX := fun xv W h1 hl hT hD => extended_any w.heap.size m m0 m1 6 N p true old xv path ap cp 0 W (by omega) (by omega) (by omega) (by omega) hc hq hO hB h1 hl hT hD
        have hEnd := fun a b e (h : OutE 0 (extO m 6 N p true old path) a b e) => (extFault_end (old := old) (top := top) h).trans hF
        generalize extO m 6 N p true old path = OO at *
        have HE := Lib.hid hEnd
        have cQ1 := fun a ab cb W h h' => equal_any a old (decide (a = old)) rfl ab ao cb co W h h'
        have cQ2 := fun a ab cb W h h' => equal_any a top (decide (a = top)) rfl ab at_ cb ct W h h'
        generalize path.length = lp at *
        generalize hlo : old.length = lo at *
        generalize top.length = lt at *
        have hpI : ¬ (p : Int) = 0 := hk0
        clear hr hB hc hq hO hi hm hn0 hn64 hk0 hF hEnd hlo
        go_enter Tryd.func34, Tryd.ntmps34
        go_wp2_with fail
        refine (cR _).mono ?_
        rintro ex w1 ⟨rfl, rfl⟩
        clear cR
        go_wp2_with fail
        refine (cX _ _ (ho.keep (hba _)) (hl.keep (hba _)) (hT.keep (hba _) (Nat.le_refl _)) hnew).mono ?_
        rintro ex w2 ⟨v2, u2, a, b, e, rfl, hr2, hs2, -, -, hO2, hD2, hg2⟩
        have hb2 := below_new hg2
        have ho2 := ho.keep hb2
        have ht2 := ht.keep hb2
        have hfin := HE.out a b e hO2
        obtain ⟨a3, k3, rfl, -, -, -, r4⟩ := id hr2
        obtain ⟨a5, k5, rfl, -, -, -, s4⟩ := id hs2
        obtain ⟨_, _, eo, -, -, -, o4⟩ := id ho2
        obtain ⟨ee, -, -⟩ := Value.slice.inj eo
        subst ee
        have cQ1' := cQ1 a a3 k3 w2 r4 o4
        have cQ2' := cQ2 b a5 k5 w2 s4 ht2
        obtain ⟨b1, hb1⟩ : ∃ x, decide (a = old) = x := ⟨_, rfl⟩
        obtain ⟨b2, hb2'⟩ : ∃ x, decide (b = top) = x := ⟨_, rfl⟩
        rw [hb1] at cQ1' hfin
        rw [hb2'] at cQ2' hfin
        have cV := fun x => verdict_any w.heap.size m e x w2 hD2
        have HFI := Lib.hid hfin
        generalize a.length = la at *
        generalize b.length = lb at *
        clear cX hl hT hba hnew hg2 hr2 hs2 ho ho2 ht ht2 hO2 HE hb1 hb2' r4 s4 o4 eo cQ1 cQ2 hfin hD2
        cases b1 with
        | false =>
          have cV' := cV false
          rw [show (if e = 0 ∧ false = true then (0 : Int) else 10) = FIN by rw [← HFI.out]; simp] at cV'
          clear cV HFI cQ2'
          go_wp2_with fail
          refine cQ1'.mono ?_
          rintro ex w4 ⟨rfl, rfl⟩
          clear cQ1'
          go_wp2_with fail
          refine cV'.mono ?_
          rintro ex w5 ⟨rfl, rfl⟩
          go_wp2_with fail
          go_ret
          exact ⟨rfl, hb2⟩
        | true =>
          have cV' := cV b2
          rw [show (if e = 0 ∧ b2 = true then (0 : Int) else 10) = FIN by rw [← HFI.out]; simp] at cV'
          clear cV HFI
          go_wp2_with fail
          refine cQ1'.mono ?_
          rintro ex w4 ⟨rfl, rfl⟩
          clear cQ1'
          go_wp2_with fail
          refine cQ2'.mono ?_
          rintro ex w4 ⟨rfl, rfl⟩
          clear cQ2'
          go_wp2_with fail
          refine cV'.mono ?_
          rintro ex w5 ⟨rfl, rfl⟩
          go_wp2_with fail
          go_ret
          exact ⟨rfl, hb2⟩
  · rw [if_pos h0] at hF
    subst hF
    generalize path.length = lp at *
    generalize old.length = lo at *
    generalize top.length = lt at *
    clear hr hB hc hO hl ht hT ho
    go_enter Tryd.func34, Tryd.ntmps34
    go_wp2_with fail
    refine (cR _).mono ?_
    rintro ex w1 ⟨rfl, rfl⟩
    clear cR
    go_wp2_with fail
    go_ret
    exact ⟨rfl, hBB⟩
end Go.Proofs.YtdpfjhhcgaeiiaaDoor
