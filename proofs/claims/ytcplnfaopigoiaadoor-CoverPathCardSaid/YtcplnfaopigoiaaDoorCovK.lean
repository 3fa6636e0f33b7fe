/-
  CONTRACT of package slots' CoverOf.
  CONDITIONS: package sum's roundWords hold what their initialiser lays ('KW').
-/
import Derived.Test.YtcplnfaopigoiaaDoorCovJ
namespace Go.Proofs.YtcplnfaopigoiaaDoor
open Go.RowKit CodeMath Go.Proofs.YtcplnfaopigoiaaDoor.FrameMath
set_option linter.unusedVariables false
set_option maxRecDepth 100000

theorem part_one {α : Type} (l : List α) (p : Nat) (x : α) (hx : l[p]? = some x) : (l.drop (p * 2 ^ 0)).take (2 ^ 0) = [x] := by
  have hp := (List.getElem?_eq_some_iff.1 hx).1
  rw [Nat.pow_zero, Nat.mul_one, List.drop_eq_getElem_cons hp, (List.getElem?_eq_some_iff.1 hx).2]
  rfl
theorem selO_few : ∀ (l : List Sl) (o : List Bool), (selO l o).length ≤ l.length
  | [], o => by cases o <;> simp [selO]
  | x :: l, [] => by simp [selO]
  | x :: l, b :: o => by
    have := selO_few l o
    cases b <;> simp [selO] <;> omega
theorem resN_few : ∀ (h : Nat) (o : List Bool), resN h o ≤ 2 ^ h
  | 0, o => by unfold resN; split <;> simp
  | h + 1, o => by
    unfold resN
    split
    · have h1 := resN_few h (o.take (2 ^ h))
      have h2 := resN_few h (o.drop (2 ^ h))
      rw [Nat.pow_succ]; omega
    · exact Nat.pow_pos (by decide)
set_option maxHeartbeats 4000000 in
theorem cover1_any (w0 : World) (go gt gl : Nat) (m : Int) (n H : Nat) (l : List Sl) (rows : List (List UInt8)) (o : List Bool) (hS : CvS w0 go gt gl m n H l rows o) : ∀ (h p : Nat), h ≤ H → (p + 1) * 2 ^ h ≤ n → ∀ (accS : List Sl) (accR : List (List UInt8)) (Wb : World), CvW w0 Wb go gt gl accS accR → accS.length + 2 ^ h ≤ 1000 → accR.length + 2 ^ h ≤ 1000 →
    Calls Tryd.prog 29 #[.int .i64 (h : Int), .int .i64 (p : Int), .pointer (some ⟨go, 0, none⟩), .pointer (some ⟨w0.heap.size, 0, none⟩), .pointer (some ⟨gt, 0, none⟩), .pointer (some ⟨gl, 0, none⟩), .pointer (some ⟨w0.heap.size + 1, 0, none⟩)] Wb fun e W => e = .returned (.tuple #[]) ∧ CvW w0 W go gt gl (accS ++ selO (partS l h p) (partO o h p)) (accR ++ covR m h (partR rows h p) (partO o h p)) := by
  intro h
  induction h with
  | zero =>
    intro p hH hp accS accR Wb hW hlS hlR
    cases hc : (partO o 0 p).contains true with
    | false =>
      rw [covR_none m 0 _ _ hc, selO_none _ _ hc, List.append_nil]
      exact cover1_rest w0 Wb go gt gl m n H l rows o hS 0 p hH hp accS accR hW (by omega) hc
    | true =>
      have hpn : p < l.length := by have := hS.ll; simp at hp; omega
      obtain ⟨x, hx⟩ : ∃ x, l[p]? = some x := ⟨_, List.getElem?_eq_getElem hpn⟩
      have hpo : p < o.length := by have := hS.ol; simp at hp; omega
      obtain ⟨b, hb⟩ : ∃ x, o[p]? = some x := ⟨_, List.getElem?_eq_getElem hpo⟩
      have ho : partO o 0 p = [b] := part_one o p b hb
      have hl : partS l 0 p = [x] := part_one l p x hx
      rw [ho] at hc
      cases b with
      | false => cases hc
      | true =>
        have e1 : selO (partS l 0 p) (partO o 0 p) = [x] := by rw [ho, hl]; rfl
        have e2 : covR m 0 (partR rows 0 p) (partO o 0 p) = [] := by rw [ho]; rfl
        rw [e1, e2, List.append_nil]
        exact cover1_leaf w0 Wb go gt gl m n H l rows o hS 0 p rfl hH hp x hx accS accR hW (by omega) (by rw [ho]; rfl)
  | succ h ih =>
    intro p hH hp accS accR Wb hW hlS hlR
    have e1 : 2 ^ (h + 1) = 2 * 2 ^ h := by rw [Nat.pow_succ, Nat.mul_comm]
    have hk0 : 0 < 2 ^ h := Nat.pow_pos (by decide)
    cases hc : (partO o (h + 1) p).contains true with
    | false =>
      rw [covR_none m _ _ _ hc, selO_none _ _ hc, List.append_nil]
      exact cover1_rest w0 Wb go gt gl m n H l rows o hS (h + 1) p hH hp accS accR hW (by omega) hc
    | true =>
      obtain ⟨⟨ao, co, a1, a2, a3, a4⟩, -, -, k1, k2, k3, k4, k5, -⟩ := id hS
      have h6 : h + 1 ≤ 6 := by omega
      have e6 : 2 ^ 6 = 64 := by decide
      have h64 : 2 ^ H ≤ 2 ^ 6 := Nat.pow_le_pow_right (by decide) k5
      have hpa : (2 * p + 1) * 2 ^ h ≤ n := by
        have : (2 * p + 1) * 2 ^ h ≤ (2 * (p + 1)) * 2 ^ h := Nat.mul_le_mul_right _ (by omega)
        rw [e1, ← Nat.mul_assoc, Nat.mul_comm (p + 1) 2] at hp
        omega
      have hpb : (2 * p + 1 + 1) * 2 ^ h ≤ n := by
        rw [e1, ← Nat.mul_assoc, Nat.mul_comm (p + 1) 2] at hp
        exact hp
      have lA : (partO o h (2 * p)).length = 2 ^ h := by
        have h1 : (2 * p + 1) * 2 ^ h = 2 * p * 2 ^ h + 2 ^ h := by rw [Nat.add_mul, Nat.one_mul]
        unfold partO; rw [List.length_take, List.length_drop]; omega
      have lB : (partS l h (2 * p)).length = 2 ^ h := by
        have h1 : (2 * p + 1) * 2 ^ h = 2 * p * 2 ^ h + 2 ^ h := by rw [Nat.add_mul, Nat.one_mul]
        unfold partS; rw [List.length_take, List.length_drop]; omega
      have f1 := selO_few (partS l h (2 * p)) (partO o h (2 * p))
      have f2 := resN_few h (partO o h (2 * p))
      have f3 := covR_length m h (partR rows h (2 * p)) (partO o h (2 * p))
      have c1 := fun W hW => ih (2 * p) (by omega) hpa accS accR W hW (by omega) (by omega)
      have c2 := fun W hW => ih (2 * p + 1) (by omega) hpb (accS ++ selO (partS l h (2 * p)) (partO o h (2 * p))) (accR ++ covR m h (partR rows h (2 * p)) (partO o h (2 * p))) W hW (by rw [List.length_append]; omega) (by rw [List.length_append]; omega)
      have eS : selO (partS l (h + 1) p) (partO o (h + 1) p) = selO (partS l h (2 * p)) (partO o h (2 * p)) ++ selO (partS l h (2 * p + 1)) (partO o h (2 * p + 1)) := by
        rw [← selO_append _ _ _ _ (by rw [lA, lB])]
        congr 1
        · rw [← List.take_append_drop (2 ^ h) (partS l (h + 1) p)]
          exact congr (congrArg _ (half_one l h p)) (half_two l h p)
        · rw [← List.take_append_drop (2 ^ h) (partO o (h + 1) p)]
          exact congr (congrArg _ (half_one o h p)) (half_two o h p)
      have eR : covR m (h + 1) (partR rows (h + 1) p) (partO o (h + 1) p) = covR m h (partR rows h (2 * p)) (partO o h (2 * p)) ++ covR m h (partR rows h (2 * p + 1)) (partO o h (2 * p + 1)) := by
        show (if (partO o (h + 1) p).contains true then covR m h ((partR rows (h + 1) p).take (2 ^ h)) ((partO o (h + 1) p).take (2 ^ h)) ++ covR m h ((partR rows (h + 1) p).drop (2 ^ h)) ((partO o (h + 1) p).drop (2 ^ h)) else _) = _
        rw [hc]
        simp only [if_true]
        rw [show (partR rows (h + 1) p).take (2 ^ h) = partR rows h (2 * p) from half_one rows h p, show (partR rows (h + 1) p).drop (2 ^ h) = partR rows h (2 * p + 1) from half_two rows h p, show (partO o (h + 1) p).take (2 ^ h) = partO o h (2 * p) from half_one o h p, show (partO o (h + 1) p).drop (2 ^ h) = partO o h (2 * p + 1) from half_two o h p]
      rw [eS, eR, ← List.append_assoc, ← List.append_assoc]
      generalize accS ++ selO (partS l h (2 * p)) (partO o h (2 * p)) = accS1 at *
      generalize accR ++ covR m h (partR rows h (2 * p)) (partO o h (2 * p)) = accR1 at *
      generalize accS1 ++ selO (partS l h (2 * p + 1)) (partO o h (2 * p + 1)) = accS2 at *
      generalize accR1 ++ covR m h (partR rows h (2 * p + 1)) (partO o h (2 * p + 1)) = accR2 at *
      obtain ⟨w1, w2⟩ := bits0 (h + 1) p h6 (by omega)
      have eP : (p + 1) * 2 ^ (h + 1) = p * 2 ^ (h + 1) + 2 ^ (h + 1) := by rw [Nat.add_mul, Nat.one_mul]
      have cC := fun W (hW : Below w0.heap.size w0 W) => containsO_any (partO o (h + 1) p) (pieceO ao (p * 2 ^ (h + 1)) co) (co - p * 2 ^ (h + 1)) W (by unfold partO; rw [List.length_take]; omega) (((a4.keep hW).drop _ _ (by omega)).take _)
      rw [show (partO o (h + 1) p).length = 2 ^ (h + 1) by unfold partO; rw [List.length_take, List.length_drop]; omega, hc] at cC
      have sl := fun W => sliceO_mid ao n co (p * 2 ^ (h + 1)) (p * 2 ^ (h + 1) + 2 ^ (h + 1)) _ _ rfl rfl (by omega) (by omega) W
      rw [show p * 2 ^ (h + 1) + 2 ^ (h + 1) - p * 2 ^ (h + 1) = 2 ^ (h + 1) by omega] at sl
      have hB2 := hW.size
      have hbW := hW.below
      have kq : ∀ {q : Addr} {v : Value}, w0.cell? q = some v → ∀ W, Below w0.heap.size w0 W → W.cell? q = some v := fun hq W hW => (hW.cell (World.block_lt_of_cell? w0 _ hq)).trans hq
      have A1 := kq a1
      have hnI : (n : Int) ≤ 64 := by omega
      have hhI2 : ((h + 1 : Nat) : Int) ≤ 64 := by omega
      have hpI2 : (p : Int) ≤ 64 := by
        have : p * 1 ≤ p * 2 ^ (h + 1) := Nat.mul_le_mul_left p (by omega)
        omega
      have hkI : ((p * 2 ^ (h + 1) : Nat) : Int) ≤ 64 := by omega
      have hp1 : IntKind.i64.wrap ((p : Int) + 1) = (p : Int) + 1 := by rw [IntKind.wrap_i64]; omega
      clear ih e1
      generalize hh' : h + 1 = h' at *
      have hz : ((h' : Int) == 0) = false := by simp; omega
      have hh1 : (h' : Int) - 1 = (h : Int) := by omega
      obtain ⟨pa, hpa2⟩ : ∃ k, 2 * p = k := ⟨_, rfl⟩
      obtain ⟨pb, hpb2⟩ : ∃ k, 2 * p + 1 = k := ⟨_, rfl⟩
      have e2 : 2 * (p : Int) = (pa : Int) := by omega
      have e3 : (pa : Int) + 1 = (pb : Int) := by omega
      have hpaI : (pa : Int) ≤ 128 := by omega
      rw [hpb2] at c2
      rw [hpa2] at c1
      have HW := Lib.hid hW
      have C1 := Lib.hid c1
      have C2 := Lib.hid c2
      generalize p * 2 ^ h' = A at *
      generalize A + 2 ^ h' = A2 at *
      generalize 2 ^ h' = k at *
      generalize pieceO ao A co = ao2 at *
      generalize co - A = co2 at *
      clear hS a1 a2 a3 a4 k1 k2 k3 k4 k5 h6 e6 h64 eP hk0 hc hp hH kq hW hpa hpb hpa2 hpb2 f1 f2 f3 lA lB eS eR c1 c2 hlS hlR hh'
      generalize hg : w0.heap.size = g at *
      have HG := Lib.hid hg
      clear hg
      go_enter Tryd.func29, Tryd.ntmps29
      go_upto_region 0 with fail
      refine wp_region_det 9 (by kernel_rfl) (by kernel_rfl) (by kernel_rfl) ?_
      simp only [List.take_succ_cons, List.take_zero, List.drop_succ_cons, List.drop_zero]
      apply wpDet_plain _ rfl; (focus (intro W hq; have q1 := A1 W (hbW.trans (hq.mono (by omega))); go_simp; exact ⟨rfl, Below.refl _ _⟩)); simp only [Act.put, List.setIfInBounds_toArray, List.set_cons_zero, List.set_cons_succ]
      iterate 7 (apply wpDet_plain _ rfl; (focus (intro W hq; go_simp; exact ⟨rfl, Below.refl _ _⟩)); simp only [Act.put, List.setIfInBounds_toArray, List.set_cons_zero, List.set_cons_succ])
      apply wpDet_plain _ rfl; (focus (intro W hq; have q1 := sl W; go_simp; exact ⟨rfl, Below.refl _ _⟩)); simp only [Act.put, List.setIfInBounds_toArray, List.set_cons_zero, List.set_cons_succ]
      refine wpDet_nil ?_; intro W0 hq0
      have hW0 := HW.out.keep hq0
      have c0 := cC W0 (hbW.trans (hq0.mono (by omega)))
      clear cC sl A1 w1 w2 hp1 hq0 hB2 hbW HW
      go_wp2_with fail
      refine c0.mono ?_
      rintro e W1 ⟨rfl, rfl⟩
      clear c0
      have c1 := C1.out W0 hW0
      have hfn : W0.cell? ⟨g + 1, 0, none⟩ = some (cvF go g gt gl) := by have := hW0.fn; rw [HG.out] at this; exact this
      clear hW0 C1
      go_wp2_with fail
      refine c1.mono ?_
      rintro e W2 ⟨rfl, hW2⟩
      have c2 := C2.out W2 hW2
      have hfn : W2.cell? ⟨g + 1, 0, none⟩ = some (cvF go g gt gl) := by have := hW2.fn; rw [HG.out] at this; exact this
      clear c1 hW2 C2
      go_wp2_with fail
      refine c2.mono ?_
      rintro e W3 ⟨rfl, hW3⟩
      clear c2
      go_wp2_with fail
      first | go_ret | go_end0
      exact ⟨rfl, hW3⟩
end Go.Proofs.YtcplnfaopigoiaaDoor
