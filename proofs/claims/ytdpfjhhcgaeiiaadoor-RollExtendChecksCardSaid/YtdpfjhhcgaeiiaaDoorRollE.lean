/-
  CONTRACTS of package roll's CheckInclude, CheckExtend; of the digester: extended.
  CONDITIONS: package sum's roundWords hold what their initialiser lays ('KW').
-/
import Derived.Test.YtdpfjhhcgaeiiaaDoorRollD
import Derived.Test.YtdpfjhhcgaeiiaaDoorRollC
namespace Go.Proofs.YtdpfjhhcgaeiiaaDoor
open Go.RowKit CodeMath Go.Proofs.YtdpfjhhcgaeiiaaDoor.FrameMath
set_option linter.unusedVariables false
set_option maxRecDepth 100000

theorem incFault_end {m : Int} {ss : List Bool} {ps : List (List UInt8)} {R0 : DR} {b top : List UInt8} {e : Int} (hn : ∀ c, R0 = .err c → c ≠ 0) (hO : OutD (stD 0 R0).2 (foldS m ss ps (.ok (stD 0 R0).1)) b e) :
    (if e = 0 ∧ decide (b = top) = true then 0 else 10 : Int) = match foldS m ss ps R0 with
      | .err _ => 10
      | .ok x => if x = top then 0 else 10 := by
  cases R0 with
  | err c =>
    rw [stD_err] at hO
    have he : e ≠ 0 := fun h => hn c rfl (hO.1 h).1
    obtain ⟨c', hc⟩ := foldS_err m ss ps c
    rw [hc, if_neg (by simp [he])]
  | ok x =>
    rw [stD_ok] at hO
    by_cases he : e = 0
    · rw [(hO.1 he).2]
      by_cases hb : b = top <;> simp [he, hb]
    · rcases hO.2 he with h | ⟨c, hc⟩
      · exact absurd rfl h
      · rw [hc, if_neg (by simp [he])]
set_option maxHeartbeats 4000000 in
theorem CheckInclude_any (m : Int) (top : List UInt8) (at_ : Option Addr) (ct : Nat) (n i : Int) (entry : List UInt8) (ae : Option Addr) (ce : Nat) (path : List (List UInt8)) (ap : Option Addr) (cp : Nat) (w : World) (m0 : -9223372036854775808 ≤ m) (m1 : m ≤ 9223372036854775807) (n0 : -9223372036854775808 ≤ n) (n1 : n ≤ 9223372036854775807) (i0 : -9223372036854775808 ≤ i) (i1 : i ≤ 9223372036854775807) (ht : Bytes w at_ top) (he : RowV w (.slice ae entry.length ce) entry) (hE : entry.length ≤ 140737488351232) (hc : path.length ≤ cp) (hq : cp ≤ 9223372036854775807) (hB : ∀ y ∈ path, y.length ≤ 140737488351232) (hl : Lines w ap path) (hT : KW w) :
    Calls Tryd.prog 30 #[.int .i64 m, .slice at_ top.length ct, .int .i64 n, .int .i64 i, .slice ae entry.length ce, .slice ap path.length cp] w fun ex w' => ex = .returned (.int .i64 (incFaultR m top n i entry path)) ∧ Below w.heap.size w w' := by
  have cR := fun W => refuse_any m n W m0 m1 n0 n1
  have cQ := fun W => isPlace_any i n _ rfl W i0 i1
  have hBB := Below.refl w.heap.size w
  obtain ⟨FIN, hF⟩ : ∃ r, incFaultR m top n i entry path = r := ⟨_, rfl⟩
  rw [hF]
  unfold incFaultR at hF
  obtain ⟨r, hr⟩ : ∃ r, refR m n = r := ⟨_, rfl⟩
  rw [hr] at cR hF
  by_cases h0 : r = 0
  · subst h0
    rw [if_neg (by decide)] at hF
    obtain ⟨hm, hn0, hn64⟩ := refR_zero hr
    by_cases hi : 0 ≤ i ∧ i < n
    · rw [if_neg (by simpa using hi)] at hF
      rw [decide_eq_true hi] at cQ
      obtain ⟨p, rfl⟩ : ∃ p : Nat, i = p := ⟨i.toNat, by omega⟩
      obtain ⟨N, rfl⟩ : ∃ N : Nat, n = N := ⟨n.toNat, by omega⟩
      rw [Int.toNat_natCast, Int.toNat_natCast] at hF
      have hba : ∀ o, Below w.heap.size w (w.alloc o) := fun o => (Below.refl _ _).alloc (Nat.le_refl _) o
      have hnew := DigW.new w m
      have cE := fun W h hT hD => ent_any w.heap.size m 0 entry ae entry.length ce W m0 m1 h hE hT hD
      have hO := fun b e (h : OutD (stD 0 (digR m 5 [entry])).2 (foldS m (sidesF 6 N p) path (.ok (stD 0 (digR m 5 [entry])).1)) b e) => (incFault_end (top := top) (fun c hc => digR_ne hc) h).trans hF
      have hxl : (stD 0 (digR m 5 [entry])).1.length ≤ 140737488351232 := stD_small
      have cI := fun xv W h1 hl hT hD => included_any w.heap.size m m0 m1 6 N p (stD 0 (digR m 5 [entry])).1 xv path ap cp (stD 0 (digR m 5 [entry])).2 W (by omega) (by omega) (by omega) hc hq hxl hB h1 hl hT hD
      generalize stD 0 (digR m 5 [entry]) = X at *
      generalize foldS m (sidesF 6 N p) path (.ok X.1) = RR at *
      have HO := Lib.hid hO
      have cQE := fun b ab cb W h h' => equal_any b top (decide (b = top)) rfl ab at_ cb ct W h h'
      generalize path.length = lp at *
      generalize entry.length = le at *
      clear hr hB hc hE hi hn0 hn64 hm hO hF
      go_enter Tryd.func30, Tryd.ntmps30
      go_wp2_with fail
      refine (cR _).mono ?_
      rintro ex w1 ⟨rfl, rfl⟩
      clear cR
      go_wp2_with fail
      refine (cQ _).mono ?_
      rintro ex w1 ⟨rfl, rfl⟩
      clear cQ
      go_wp2_with fail
      refine (cE _ (he.keep (hba _)) (hT.keep (hba _) (Nat.le_refl _)) hnew).mono ?_
      rintro ex w2 ⟨v2, rfl, hr2, hD2, hg2⟩
      have hb2 := below_new hg2
      have hl2 := hl.keep hb2
      have ht2 := ht.keep hb2
      have hT2 := hT.keep hb2 (Nat.le_refl _)
      obtain ⟨a2, k2, rfl, -⟩ := id hr2
      clear cE hl ht hT he hba hnew
      go_wp2_with fail
      refine (cI _ _ hr2.row hl2 hT2 hD2).mono ?_
      rintro ex w3 ⟨v3, b3, e3, rfl, hr3, hb3, ho3, hD3, hg3⟩
      have hb3' := below_new (grown_trans hg2 hg3)
      have ht3 := ht2.moved hD2 hg3
      have hfin := HO.out b3 e3 ho3
      obtain ⟨a3, k3, rfl, r1, r2, r3, r4⟩ := id hr3
      clear cI hr2 hl2 hT2 hD2 hg2 hg3 ht2 ho3 HO hb2
      go_wp2_with fail
      refine (cQE b3 a3 k3 _ r4 ht3).mono ?_
      rintro ex w4 ⟨rfl, rfl⟩
      have cV := verdict_any w.heap.size m e3 (decide (b3 = top)) w3 hD3
      rw [hfin] at cV
      clear cQE hr3 r1 r2 r3 r4 ht3 hfin
      generalize decide (b3 = top) = bb at *
      go_wp2_with fail
      refine cV.mono ?_
      rintro ex w5 ⟨rfl, rfl⟩
      go_wp2_with fail
      go_ret
      exact ⟨rfl, hb3'⟩
    · rw [if_pos hi] at hF
      subst hF
      rw [decide_eq_false hi] at cQ
      clear hr hB hc hE hi hn0 hn64 hm hl ht hT he
      generalize path.length = lp at *
      generalize entry.length = le at *
      go_enter Tryd.func30, Tryd.ntmps30
      go_wp2_with fail
      refine (cR _).mono ?_
      rintro ex w1 ⟨rfl, rfl⟩
      clear cR
      go_wp2_with fail
      refine (cQ _).mono ?_
      rintro ex w1 ⟨rfl, rfl⟩
      clear cQ
      go_wp2_with fail
      go_ret
      exact ⟨rfl, hBB⟩
  · rw [if_pos h0] at hF
    subst hF
    clear hr hB hc hE hl ht hT he cQ
    generalize path.length = lp at *
    generalize entry.length = le at *
    go_enter Tryd.func30, Tryd.ntmps30
    go_wp2_with fail
    refine (cR _).mono ?_
    rintro ex w1 ⟨rfl, rfl⟩
    clear cR
    go_wp2_with fail
    go_ret
    exact ⟨rfl, hBB⟩
end Go.Proofs.YtdpfjhhcgaeiiaaDoor
