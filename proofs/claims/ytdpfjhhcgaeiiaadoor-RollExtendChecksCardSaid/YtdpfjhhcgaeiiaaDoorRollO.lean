/-
  CONTRACT of the reference's ExtendFault; the walk of the law 'chirographlaw.RollExtendChecks'.
  CONDITIONS: package sum's roundWords hold what their initialiser lays ('KW'), in the walk of the law.
-/
import Derived.Test.YtdpfjhhcgaeiiaaDoorRollZ2
import Derived.Test.YtdpfjhhcgaeiiaaDoorRollK
namespace Go.Proofs.YtdpfjhhcgaeiiaaDoor
open Go.RowKit CodeMath Go.Proofs.YtdpfjhhcgaeiiaaDoor.FrameMath
set_option linter.unusedVariables false
set_option maxRecDepth 100000

set_option maxHeartbeats 8000000 in
theorem ExtendFault_any (m : Int) (old : List UInt8) (ao : Option Addr) (co : Nat) (k : Int) (top : List UInt8) (at_ : Option Addr) (ct : Nat) (n : Int) (path : List (List UInt8)) (ap : Option Addr) (cp : Nat) (w : World) (m0 : -9223372036854775808 ≤ m) (m1 : m ≤ 9223372036854775807) (k0 : -9223372036854775808 ≤ k) (k1 : k ≤ 9223372036854775807) (n0 : -9223372036854775808 ≤ n) (n1 : n ≤ 9223372036854775807) (ho : RowV w (.slice ao old.length co) old) (hO : old.length ≤ 140737488351232) (ht : Bytes w at_ top) (hc : path.length ≤ cp) (hq : cp ≤ 9223372036854775807) (hpn : path.length ≤ 5864062014634) (hB : ∀ y ∈ path, y.length ≤ 140737488351232) (hl : Lines w ap path) :
    Calls Tryd.prog 35 #[.int .i64 m, .slice ao old.length co, .int .i64 k, .slice at_ top.length ct, .int .i64 n, .slice ap path.length cp] w fun ex w' => ex = .returned (.int .i64 (extFaultR m old k top n path)) ∧ Below w.heap.size w w' := by
  have cM := fun W => badMode_any m W m0 m1
  have hBB := Below.refl w.heap.size w
  obtain ⟨FIN, hF⟩ : ∃ r, extFaultR m old k top n path = r := ⟨_, rfl⟩
  rw [hF]
  unfold extFaultR at hF
  obtain ⟨bm, hm⟩ : ∃ b, isMode m = b := ⟨_, rfl⟩
  rw [hm] at cM
  cases bm with
  | false =>
    obtain rfl : FIN = 2 := by rw [← hF, show refR m n = 2 by unfold refR; rw [if_pos hm], if_pos (by decide)]
    generalize path.length = lp at *
    generalize old.length = lo at *
    generalize top.length = lt at *
    clear hF hm hB hc hq hpn hO hl ht ho
    go_enter Tryd.func35, Tryd.ntmps35
    go_wp2_with fail
    refine (cM _).mono ?_
    rintro e w1 ⟨rfl, rfl⟩
    go_wp2_with fail
    go_ret
    exact ⟨rfl, hBB⟩
  | true =>
    by_cases hn : n < 0 ∨ 64 < n
    · obtain rfl : FIN = 1 := by rw [← hF, show refR m n = 1 by unfold refR; rw [if_neg (by rw [hm]; decide), if_pos hn], if_pos (by decide)]
      have hnI : n < 0 ∨ (¬ n < 0 ∧ 64 < n) := by omega
      generalize path.length = lp at *
      generalize old.length = lo at *
      generalize top.length = lt at *
      clear hF hm hB hc hq hpn hO hl ht ho hn
      rcases hnI with hnI | ⟨hnI, hnJ⟩
      all_goals
        go_enter Tryd.func35, Tryd.ntmps35
        go_wp2_with fail
        refine (cM _).mono ?_
        rintro e w1 ⟨rfl, rfl⟩
        go_wp2_with fail
        go_ret
        exact ⟨rfl, hBB⟩
    · have hnI : ¬ n < 0 := by omega
      have hnJ : ¬ 64 < n := by omega
      rw [show refR m n = 0 by unfold refR; rw [if_neg (by rw [hm]; decide), if_neg hn], if_neg (by decide)] at hF
      by_cases hi : k < 0 ∨ n < k
      · rw [if_pos hi] at hF
        subst hF
        have hcs : k < 0 ∨ (¬ k < 0 ∧ n < k) := by omega
        generalize path.length = lp at *
        generalize old.length = lo at *
        generalize top.length = lt at *
        clear hm hB hc hq hpn hO hl ht ho hn hi
        rcases hcs with hiI | ⟨hiI, hiJ⟩
        all_goals
          go_enter Tryd.func35, Tryd.ntmps35
          go_wp2_with fail
          refine (cM _).mono ?_
          rintro e w1 ⟨rfl, rfl⟩
          go_wp2_with fail
          go_ret
          exact ⟨rfl, hBB⟩
      · rw [if_neg hi] at hF
        have hiI : ¬ k < 0 := by omega
        have hiJ : ¬ n < k := by omega
        have hnil : ∃ z, rollR m [] = .ok z := by
          rw [rollR_nil]
          unfold digR
          rw [if_neg (by rw [hm]; decide), if_neg (by decide), if_neg (by simp [total])]
          exact ⟨_, rfl⟩
        obtain ⟨z, hz⟩ := hnil
        rw [rootL_ok hz] at hF
        have cD := DigestOf_any m 4 [] none 0 w m0 m1 (by decide) (by decide) (by simp) (by simp) (.inl rfl)
        rw [← rollR_nil, hz, show ([] : List (List UInt8)).length = 0 from rfl] at cD
        by_cases hk0 : k = 0
        · subst hk0
          rw [if_pos rfl] at hF
          have hK : ((0 : Int) == 0) = true := rfl
          obtain ⟨_, _, eo, -, -, -, o4⟩ := id ho
          obtain ⟨ee, -, -⟩ := Value.slice.inj eo
          subst ee
          obtain ⟨lp, hlp⟩ : ∃ q, path.length = q := ⟨_, rfl⟩
          rw [hlp] at hc hpn ⊢
          have hfin : ∀ (bp b1 b2 b3 : Bool), ((lp : Int) == 0) = bp → (old == z) = b1 → decide (0 < n) = b2 → (top == old) = b3 → FIN = if (bp && b1 && (b2 || b3)) = true then 0 else 10 := by
            intro bp b1 b2 b3 e1 e2 e3 e4
            rw [← hF, ← e1, ← e2, ← e3, ← e4, ← hlp]
            by_cases h3 : 0 < n
            · have h0 : n ≠ 0 := by omega
              by_cases h1 : path = [] <;> by_cases h2 : old = z <;> simp [h1, h2, h3, h0]
            · have h0 : n = 0 := by omega
              subst h0
              by_cases h1 : path = [] <;> by_cases h2 : old = z <;> by_cases h4 : top = old <;> simp [h1, h2, h4]
          have hz1 := fun W (hW : Below w.heap.size w W) => bytes_string (cap := co) (o4.keep hW)
          have hz2 := fun W (hW : Below w.heap.size w W) => bytes_string (cap := ct) (ht.keep hW)
          have hbp : ((lp : Int) == 0) = true ∨ ((lp : Int) == 0) = false := by cases ((lp : Int) == 0) <;> simp
          have hb1 : (old == z) = true ∨ (old == z) = false := by cases (old == z) <;> simp
          have hb2 : (0 : Int) < n ∨ ¬ (0 : Int) < n := by omega
          have hb3 : (top == old) = true ∨ (top == old) = false := by cases (top == old) <;> simp
          have HFI := Lib.hid hfin
          generalize old.length = lo at *
          generalize top.length = lt at *
          clear hm hB hc hq hpn hO hl ht ho hn hi hz hfin hF hlp eo o4
          go_enter Tryd.func35, Tryd.ntmps35
          go_wp2_with fail
          refine (cM _).mono ?_
          rintro e w1 ⟨rfl, rfl⟩
          go_wp2_with fail
          refine cD.mono ?_
          intro e w2 hpost
          obtain ⟨a3, n3, k3, e3, rfl, hd3, hb⟩ := digPost_in hpost
          have hs1 := hz1 w2 hb
          have hs2 := hz2 w2 hb
          obtain ⟨hr3, hev⟩ := hd3.iv
          obtain rfl : e3 = 0 := (Value.int.inj hev).2
          obtain ⟨ar, kr, er, -, -, -, hr4⟩ := hr3
          obtain ⟨rfl, rfl, rfl⟩ := Value.slice.inj er
          have hs3 := bytes_string (cap := k3) hr4
          generalize z.length = lz at *
          clear hpost hz1 hz2 cD cM hr4 er hev
          rcases hbp with hp | hp
          · rcases hb1 with h1 | h1
            · rcases hb2 with h2 | h2
              · obtain rfl : FIN = 0 := by rw [HFI.out _ _ _ _ hp h1 (decide_eq_true (by omega)) rfl]; simp
                clear HFI hb3
                go_wp2_with fail
                go_ret
                exact ⟨rfl, hb⟩
              · rcases hb3 with h3 | h3
                · obtain rfl : FIN = 0 := by rw [HFI.out _ _ _ _ hp h1 (decide_eq_false (by omega)) h3]; simp
                  have hdec : decide (0 < n) = false := decide_eq_false (by omega)
                  clear HFI
                  go_wp2_with fail
                  go_ret
                  exact ⟨rfl, hb⟩
                · obtain rfl : FIN = 10 := by rw [HFI.out _ _ _ _ hp h1 (decide_eq_false (by omega)) h3]; simp
                  have hdec : decide (0 < n) = false := decide_eq_false (by omega)
                  clear HFI
                  go_wp2_with fail
                  go_ret
                  exact ⟨rfl, hb⟩
            · obtain rfl : FIN = 10 := by rw [HFI.out _ _ _ _ hp h1 rfl rfl]; simp
              clear HFI hb2 hb3
              go_wp2_with fail
              go_ret
              exact ⟨rfl, hb⟩
          · obtain rfl : FIN = 10 := by rw [HFI.out _ _ _ _ hp rfl rfl rfl]; simp
            clear HFI hb1 hb2 hb3
            go_wp2_with fail
            go_ret
            exact ⟨rfl, hb⟩
        · rw [if_neg hk0] at hF
          have hkI : (k == 0) = false := by simpa using hk0
          by_cases hkn : k = n
          · subst hkn
            rw [extO_base m 6 k.toNat k.toNat true old path (Nat.le_refl _)] at hF
            obtain ⟨_, _, eo, -, -, -, o4⟩ := id ho
            obtain ⟨ee, -, -⟩ := Value.slice.inj eo
            subst ee
            obtain ⟨lp, hlp⟩ : ∃ q, path.length = q := ⟨_, rfl⟩
            rw [hlp] at hc hpn ⊢
            have hfin : ∀ (bp b1 : Bool), ((lp : Int) == 0) = bp → (old == top) = b1 → FIN = if (bp && b1) = true then 0 else 10 := by
              intro bp b1 e1 e2
              rw [← hF, ← e1, ← e2, ← hlp]
              cases path with
              | nil => by_cases h2 : old = top <;> simp [baseE, h2]
              | cons p ps => simp [baseE]; omega
            have hz1 := fun W (hW : Below w.heap.size w W) => bytes_string (cap := co) (o4.keep hW)
            have hz2 := fun W (hW : Below w.heap.size w W) => bytes_string (cap := ct) (ht.keep hW)
            have hbp : ((lp : Int) == 0) = true ∨ ((lp : Int) == 0) = false := by cases ((lp : Int) == 0) <;> simp
            have hb1 : (old == top) = true ∨ (old == top) = false := by cases (old == top) <;> simp
            have HFI := Lib.hid hfin
            generalize old.length = lo at *
            generalize top.length = lt at *
            clear hm hB hc hq hpn hO hl ht ho hn hi hz hfin hF hlp eo o4 hk0
            go_enter Tryd.func35, Tryd.ntmps35
            go_wp2_with fail
            refine (cM _).mono ?_
            rintro e w1 ⟨rfl, rfl⟩
            go_wp2_with fail
            refine cD.mono ?_
            intro e w2 hpost
            obtain ⟨a3, n3, k3, e3, rfl, hd3, hb⟩ := digPost_in hpost
            have hs1 := hz1 w2 hb
            have hs2 := hz2 w2 hb
            clear hpost hz1 hz2 cD cM hd3
            rcases hbp with hp | hp
            · rcases hb1 with h1 | h1
              · obtain rfl : FIN = 0 := by rw [HFI.out _ _ hp h1]; simp
                clear HFI
                go_wp2_with fail
                go_ret
                exact ⟨rfl, hb⟩
              · obtain rfl : FIN = 10 := by rw [HFI.out _ _ hp h1]; simp
                clear HFI
                go_wp2_with fail
                go_ret
                exact ⟨rfl, hb⟩
            · obtain rfl : FIN = 10 := by rw [HFI.out _ _ hp rfl]; simp
              clear HFI hb1
              go_wp2_with fail
              go_ret
              exact ⟨rfl, hb⟩
          · have hknI : (k == n) = false := by simpa using hkn
            obtain ⟨K, rfl⟩ : ∃ q : Nat, k = q := ⟨k.toNat, by omega⟩
            obtain ⟨N, rfl⟩ : ∃ q : Nat, n = q := ⟨n.toNat, by omega⟩
            rw [Int.toNat_natCast, Int.toNat_natCast] at hF
            have cE := fun W (hW : Below w.heap.size w W) => extendedR_any m old ao co K N top at_ ct path ap cp W m0 m1 (by omega) (by omega) (by omega) (ho.keep hW) hO (ht.keep hW) hc hq hpn hB (hl.keep hW)
            have hres : (if resB (extO m 6 N K true old path) old top = true then (0 : Int) else 10) = FIN := by
              rw [← hF]; unfold resB; simp
            generalize resB (extO m 6 N K true old path) old top = RS at *
            generalize path.length = lp at *
            generalize old.length = lo at *
            generalize top.length = lt at *
            clear hm hB hc hq hpn hO hl ht ho hn hi hz hF hk0 hkn
            go_enter Tryd.func35, Tryd.ntmps35
            go_wp2_with fail
            refine (cM _).mono ?_
            rintro e w1 ⟨rfl, rfl⟩
            go_wp2_with fail
            refine cD.mono ?_
            intro e w2 hpost
            obtain ⟨a3, n3, k3, e3, rfl, hd3, hb⟩ := digPost_in hpost
            have c := cE w2 hb
            clear hpost cD cM hd3 cE
            go_wp2_with fail
            refine c.mono ?_
            rintro e w3 ⟨rfl, hb3⟩
            have hbb := below_step hb hb.size hb3
            clear c
            cases RS with
            | true =>
              obtain rfl : FIN = 0 := by rw [← hres]; simp
              clear hres
              go_wp2_with fail
              go_ret
              exact ⟨rfl, hbb⟩
            | false =>
              obtain rfl : FIN = 10 := by rw [← hres]; simp
              clear hres
              go_wp2_with fail
              go_ret
              exact ⟨rfl, hbb⟩

open Go.ChangeShapes Go.WideShapes Go.Deep Go.Joins in
theorem open_lines_few {H : Type} {base : Nat} {enc : TypeId × Value → H} {W : World} {v : Value} {d : DataW H} {p : List MemPlace} (hval : Value.okWide Tryd.prog W .any base 23 v) (h : DataW.Trod enc Tryd.prog W 0 (fun _ => true) true 23 v d p) (hw : ∀ n ∈ d.weights Tryd.prog 23, n ≤ reachBytes) : ∀ ao n cap, v = .slice ao n cap → n ≤ 5864062014634 := by
  intro ao n cap hv
  obtain ⟨fuel, hf⟩ := h
  subst hv
  rcases open_slice1 Tryd.underlying23 (by kernel_rfl) hf with ⟨hcs, _⟩ | ⟨a, len', cap', m, n, V, D, Pl, hcs, _, hl, hm, hmm, hxd, hel⟩
  · simp [Value.cells] at hcs
    omega
  · simp [Value.cells] at hcs
    obtain ⟨rfl, rfl, rfl⟩ := hcs
    simp only [if_true] at hmm
    subst hmm
    simp only [Prod.mk.injEq] at hxd
    rw [hxd.1] at hw
    have := hw _ (by simp only [DataW.weights, Tryd.underlying23]; exact List.mem_cons_self ..)
    rw [show Tryd.prog.bytesOf 29 = 24 by kernel_rfl] at this
    simp only [List.length_map, List.length_range, reachBytes] at this
    omega
end Go.Proofs.YtdpfjhhcgaeiiaaDoor
