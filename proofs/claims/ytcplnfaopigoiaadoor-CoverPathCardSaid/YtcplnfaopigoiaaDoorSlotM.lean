/-
  CONTRACT of the laws' slotsOf: raw things as slots, a power of two of them.
  CONDITIONS: each theorem's own hypotheses.
-/
import Derived.Test.YtcplnfaopigoiaaDoorSlotL
namespace Go.Proofs.YtcplnfaopigoiaaDoor
open Go.RowKit CodeMath
set_option linter.unusedVariables false
set_option maxRecDepth 100000

structure Sl.Good (x : Sl) : Prop where
  s3 : x.s.length = 3
  d20 : x.d.length ≤ 20
  nf : x.f = false → x.d = []
theorem R.slot_good (r : R) : r.slot.Good := by
  refine ⟨rfl, ?_, fun h => ?_⟩
  · show (if 0 < r.k % 3 then r.cut 20 else []).length ≤ 20
    split
    · unfold R.cut; rw [List.length_take]; omega
    · simp
  · have : ¬ 0 < r.k % 3 := of_decide_eq_false h
    show (if 0 < r.k % 3 then r.cut 20 else []) = []
    rw [if_neg this]
theorem Blk.set4 {W : World} {g : Nat} {T : TypeId} {a b c d a' b' c' d' : Value} (h : Blk W g T [a', b', c', d']) : Blk ((((W.setCell ⟨g, 0, none⟩ a).setCell ⟨g, 1, none⟩ b).setCell ⟨g, 2, none⟩ c).setCell ⟨g, 3, none⟩ d) g T [a, b, c, d] := (((h.set 0 a).set 1 b).set 2 c).set 3 d
theorem below_set4 {B : Nat} {w W : World} {g : Nat} {a b c d : Value} (h : Below B w W) (hg : B ≤ g) : Below B w ((((W.setCell ⟨g, 0, none⟩ a).setCell ⟨g, 1, none⟩ b).setCell ⟨g, 2, none⟩ c).setCell ⟨g, 3, none⟩ d) := (((h.setCell (p := ⟨g, 0, none⟩) hg a).setCell (p := ⟨g, 1, none⟩) hg b).setCell (p := ⟨g, 2, none⟩) hg c).setCell (p := ⟨g, 3, none⟩) hg d
theorem pow_double : ∀ h : Nat, h ≤ 3 → 2 ^ h * 2 = 2 ^ (h + 1) ∧ 2 ^ h ≤ 8 := by
  have key : ∀ h : Fin 4, 2 ^ h.1 * 2 = 2 ^ (h.1 + 1) ∧ 2 ^ h.1 ≤ 8 := by decide
  intro h hh
  exact key ⟨h, by omega⟩
def SlotsOk (w : World) (e : Ending) (w' : World) : Prop := ∃ v S h, e = .returned v ∧ OwnSl w' w.heap.size v S ∧ S.length = 2 ^ h ∧ h ≤ 4 ∧ (∀ x ∈ S, x.Good) ∧ Below w.heap.size w w'
set_option maxHeartbeats 1000000 in
theorem slotsOf_any (l : List R) (ao : Option Addr) (cap : Nat) (w : World) (hc : l.length ≤ cap) (hq : cap ≤ 9223372036854775807) (hR : Raws w ao l) :
    Calls Tryd.prog 17 #[.slice ao l.length cap] w (SlotsOk w) := by
  have hget : ∀ j r, l[j]? = some r → r.Fits ∧ ∃ a o, ao = some ⟨a, o, none⟩ ∧ a < w.heap.size ∧ w.cell? ⟨a, o + j * 4, none⟩ = some (.int .i64 r.k) ∧ w.cell? ⟨a, o + j * 4 + 1, none⟩ = some (.int .i64 r.a) ∧ w.cell? ⟨a, o + j * 4 + 2, none⟩ = some (.int .i64 r.b) ∧ w.cell? ⟨a, o + j * 4 + 3, none⟩ = some (.string r.s) := fun j r hj => by
    refine ⟨hR.1 r (List.mem_of_getElem? hj), ?_⟩
    rcases hR.2 with h | ⟨a, o, h1, h2, h3⟩
    · rw [h] at hj; simp at hj
    · exact ⟨a, o, h1, h2, h3 j r hj⟩
  have HG := Lib.hid hget
  obtain ⟨n, hn⟩ : ∃ n, l.length = n := ⟨_, rfl⟩
  have HN := Lib.hid hn
  rw [hn] at hc ⊢
  have hnI : (n : Int) ≤ 9223372036854775807 := by omega
  obtain ⟨M, hM⟩ : ∃ M, min n 16 = M := ⟨_, rfl⟩
  have hM16 : M ≤ 16 := by omega
  have hmin : ∀ (ts : Array TypeId) (t : TypeId) (W : World), (Builtin.min_ ts t #[.int .i64 (n : Int), .int .i64 16]).run Tryd.prog W = .ok (.int .i64 (M : Int)) W := fun ts t W => by
    rw [run_min_int2, ← hM]
    congr 2
    split <;> omega
  have hBB := Below.refl w.heap.size w
  clear hget hR hn hM hc hq
  go_enter Tryd.func17, Tryd.ntmps17
  go_wp2_with fail
  go_loopw [3] (fun u wr => ∃ h k : Nat, h ≤ 4 ∧ u = .int .i64 k ∧ Hid (2 ^ h = k) ∧ k ≤ 16 ∧ 1 ≤ k ∧ Below w.heap.size w wr) (fun u _ => 16 - (intOf u).toNat)
  case atStart => exact ⟨0, 1, by decide, rfl, Lib.hid rfl, by decide, by decide, hBB⟩
  case round =>
    obtain ⟨h, k, h4, rfl, hk, k16, k1, hbz⟩ := hrel
    clear hBB
    by_cases hlt : k * 2 ≤ M
    · have hI : (k : Int) * 2 ≤ M := by omega
      have h3 : h ≤ 3 := by
        rcases Nat.lt_or_ge h 4 with h9 | h9
        · omega
        · have := hk.out
          obtain rfl : h = 4 := by omega
          have e4 : 2 ^ 4 = 16 := by decide
          omega
      have HK := Lib.hid k1
      have hk2 : Hid (2 ^ (h + 1) = k * 2) := by show _ = _; rw [← (pow_double h h3).1, hk.out]
      have HH3 := Lib.hid h3
      have H16 := Lib.hid (show k * 2 ≤ 16 by omega)
      have kI : (k : Int) ≤ 16 := by omega
      clear hlt h3 hk
      go_wp2_with fail
      go_roundw
      case rel => exact ⟨h + 1, k * 2, by have := HH3.out; omega, by go_num, hk2, H16.out, by have := HK.out; omega, hbz⟩
      case measure => have := HK.out; simp [intOf]; omega
    · have hI : ¬ (k : Int) * 2 ≤ M := by omega
      have kI : (k : Int) ≤ 16 := by omega
      clear hlt
      go_wp2_with fail
      go_loopw [4, 16] (fun u ix wr => ∃ (j : Nat) (acc : List Sl), j ≤ k ∧ ix = .int .i64 j ∧ Hid (acc.length = j) ∧ Hid (∀ x ∈ acc, x.Good) ∧ OwnSl wr w.heap.size u acc ∧ Below w.heap.size w wr) (fun _ ix _ => k - (intOf ix).toNat)
      case atStart => exact ⟨0, [], Nat.zero_le _, rfl, Lib.hid rfl, Lib.hid (by simp), OwnSl.nil _ _, hbz⟩
      case round =>
        obtain ⟨j, acc, hj, rfl, hvl, hgd, ho, hbw⟩ := hrel
        by_cases h1 : j < k
        · have h1I : (j : Int) < k := by omega
          have H1 := Lib.hid h1
          have hac : acc.length ≤ 1000000 := by rw [hvl.out]; omega
          have hsz := hbw.size
          have z0 : Blk (wr.alloc (.cells #[.int .i64 0, .int .i64 0, .int .i64 0, .string ⟨#[]⟩] 48)) wr.heap.size 48 [.int .i64 0, .int .i64 0, .int .i64 0, .string ⟨#[]⟩] := Blk.new wr _ _
          have z1 : Blk (wr.alloc (.cells #[.int .i64 0, .int .i64 0, .int .i64 0, .string ⟨#[]⟩] 48)) wr.heap.size 48 [.int .i64 0, .int .i64 0, .int .i64 0, .string ⟨#[]⟩] := z0
          have bz : Below wr.heap.size wr (wr.alloc (.cells #[.int .i64 0, .int .i64 0, .int .i64 0, .string ⟨#[]⟩] 48)) := (Below.refl _ _).alloc (Nat.le_refl _) _
          clear h1 z0
          by_cases hjn : j < n
          · have hjI : (j : Int) < n := by omega
            obtain ⟨r, hr⟩ : ∃ r, l[j]? = some r := ⟨_, List.getElem?_eq_getElem (by have := HN.out; omega)⟩
            obtain ⟨hf, a, o, rfl, ha, c0, c1, c2, c3⟩ := HG.out j r hr
            clear hjn hr
            go_upto_region 10 with fail
            generalize wr.alloc (.cells #[.int .i64 0, .int .i64 0, .int .i64 0, .string ⟨#[]⟩] 48) = W1 at *
            have hb1 := below_step hbw hbw.size bz
            have d0 := (hb1.cell (p := ⟨a, o + j * 4, none⟩) ha).trans c0
            have d1 := (hb1.cell (p := ⟨a, o + j * 4 + 1, none⟩) ha).trans c1
            have d2 := (hb1.cell (p := ⟨a, o + j * 4 + 2, none⟩) ha).trans c2
            have d3 := (hb1.cell (p := ⟨a, o + j * 4 + 3, none⟩) ha).trans c3
            have y0 : W1.cell? ⟨wr.heap.size, 0, none⟩ = some (.int .i64 0) := z1.cell rfl
            have y1 : W1.cell? ⟨wr.heap.size, 1, none⟩ = some (.int .i64 0) := z1.cell rfl
            have y2 : W1.cell? ⟨wr.heap.size, 2, none⟩ = some (.int .i64 0) := z1.cell rfl
            have y3 : W1.cell? ⟨wr.heap.size, 3, none⟩ = some (.string ⟨#[]⟩) := z1.cell rfl
            have f0 := z1.free 0
            have f1 := z1.free 1
            have f2 := z1.free 2
            have f3 := z1.free 3
            have z2 := z1.set4 (a := .int .i64 r.k) (b := .int .i64 r.a) (c := .int .i64 r.b) (d := .string r.s)
            have bz2 := below_set4 (g := wr.heap.size) (a := .int .i64 r.k) (b := .int .i64 r.a) (c := .int .i64 r.b) (d := .string r.s) bz (Nat.le_refl _)
            clear c0 c1 c2 c3 ha hb1 z1 bz
            go_upto_region 11 with fail
            clear y0 y1 y2 y3 f0 f1 f2 f3 d0 d1 d2 d3
            generalize (((W1.setCell ⟨wr.heap.size, 0, none⟩ (.int .i64 r.k)).setCell ⟨wr.heap.size, 1, none⟩ (.int .i64 r.a)).setCell ⟨wr.heap.size, 2, none⟩ (.int .i64 r.b)).setCell ⟨wr.heap.size, 3, none⟩ (.string r.s) = W2 at *
            have q0 : W2.cell? ⟨wr.heap.size, 0, none⟩ = some (.int .i64 r.k) := z2.cell rfl
            have q1 : W2.cell? ⟨wr.heap.size, 1, none⟩ = some (.int .i64 r.a) := z2.cell rfl
            have q2 : W2.cell? ⟨wr.heap.size, 2, none⟩ = some (.int .i64 r.b) := z2.cell rfl
            have q3 : W2.cell? ⟨wr.heap.size, 3, none⟩ = some (.string r.s) := z2.cell rfl
            have cS := slotOf_any r hf W2
            have hgx := r.slot_good
            have hb2 := below_step hbw hbw.size bz2
            have ho2 := ho.keep bz2
            clear z2 bz2 ho hbw hf
            generalize r.slot = x at *
            go_wp2_with fail
            refine cS.mono ?_
            rintro e w3 ⟨us, ud, rfl, hu, hv, hb3⟩
            have hbb := below_step hb2 hb2.size hb3
            have ho3 := ho2.keep hb3
            have hs3 := hbb.size
            have HNX : Hid ((acc ++ [x]).length = j + 1) := by show _ = _; rw [List.length_append, hvl.out]; rfl
            have HGX : Hid (∀ y ∈ acc ++ [x], y.Good) := by
              show ∀ y ∈ acc ++ [x], y.Good
              intro y hy
              rcases List.mem_append.1 hy with h | h
              · exact hgd.out y h
              · simp at h; subst h; exact hgx
            obtain ⟨a4, n4, k4, rfl⟩ : ∃ a n k, us = .slice a n k := by obtain ⟨a, k, e, _⟩ := id hu; exact ⟨_, _, _, e⟩
            obtain ⟨a5, n5, k5, rfl⟩ : ∃ a n k, ud = .slice a n k := by obtain ⟨a, k, e, _⟩ := id hv; exact ⟨_, _, _, e⟩
            clear cS q0 q1 q2 q3 hb2 ho2 hb3
            go_wp2_with (first
              | (at_builtin; refine wpList_append_slot rfl _ _ rfl w.heap.size _ _ rfl ho3 x _ _ _ _ rfl rfl rfl hu hv hac hs3 ?_; intro v5 w5 ho5 hb5)
              | fail)
            go_roundw
            case rel => exact ⟨j + 1, _, H1.out, by go_num, HNX, HGX, ho5, hbb.trans hb5⟩
            case measure => have := H1.out; simp [intOf]; omega
          · have hjI : ¬ (j : Int) < n := by omega
            clear hjn
            obtain ⟨r, hr0⟩ : ∃ r : R, r = ⟨0, 0, 0, ⟨#[]⟩⟩ := ⟨_, rfl⟩
            have hf : r.Fits := by rw [hr0]; exact ⟨by decide, by decide, by decide, by decide⟩
            have z2 : Blk (wr.alloc (.cells #[.int .i64 0, .int .i64 0, .int .i64 0, .string ⟨#[]⟩] 48)) wr.heap.size 48 [.int .i64 r.k, .int .i64 r.a, .int .i64 r.b, .string r.s] := by rw [hr0]; exact z1
            have bz2 := bz
            clear z1 bz hr0
            go_upto_region 11 with fail
            generalize wr.alloc (.cells #[.int .i64 0, .int .i64 0, .int .i64 0, .string ⟨#[]⟩] 48) = W2 at *
            have q0 : W2.cell? ⟨wr.heap.size, 0, none⟩ = some (.int .i64 r.k) := z2.cell rfl
            have q1 : W2.cell? ⟨wr.heap.size, 1, none⟩ = some (.int .i64 r.a) := z2.cell rfl
            have q2 : W2.cell? ⟨wr.heap.size, 2, none⟩ = some (.int .i64 r.b) := z2.cell rfl
            have q3 : W2.cell? ⟨wr.heap.size, 3, none⟩ = some (.string r.s) := z2.cell rfl
            have cS := slotOf_any r hf W2
            have hgx := r.slot_good
            have hb2 := below_step hbw hbw.size bz2
            have ho2 := ho.keep bz2
            clear z2 bz2 ho hbw hf
            generalize r.slot = x at *
            go_wp2_with fail
            refine cS.mono ?_
            rintro e w3 ⟨us, ud, rfl, hu, hv, hb3⟩
            have hbb := below_step hb2 hb2.size hb3
            have ho3 := ho2.keep hb3
            have hs3 := hbb.size
            have HNX : Hid ((acc ++ [x]).length = j + 1) := by show _ = _; rw [List.length_append, hvl.out]; rfl
            have HGX : Hid (∀ y ∈ acc ++ [x], y.Good) := by
              show ∀ y ∈ acc ++ [x], y.Good
              intro y hy
              rcases List.mem_append.1 hy with h | h
              · exact hgd.out y h
              · simp at h; subst h; exact hgx
            obtain ⟨a4, n4, k4, rfl⟩ : ∃ a n k, us = .slice a n k := by obtain ⟨a, k, e, _⟩ := id hu; exact ⟨_, _, _, e⟩
            obtain ⟨a5, n5, k5, rfl⟩ : ∃ a n k, ud = .slice a n k := by obtain ⟨a, k, e, _⟩ := id hv; exact ⟨_, _, _, e⟩
            clear cS q0 q1 q2 q3 hb2 ho2 hb3
            go_wp2_with (first
              | (at_builtin; refine wpList_append_slot rfl _ _ rfl w.heap.size _ _ rfl ho3 x _ _ _ _ rfl rfl rfl hu hv hac hs3 ?_; intro v5 w5 ho5 hb5)
              | fail)
            go_roundw
            case rel => exact ⟨j + 1, _, H1.out, by go_num, HNX, HGX, ho5, hbb.trans hb5⟩
            case measure => have := H1.out; simp [intOf]; omega
        · have h1I : ¬ (j : Int) < k := by omega
          have hje : j = k := by omega
          have HL : Hid (acc.length = 2 ^ h) := by show _ = _; rw [hvl.out, hje, hk.out]
          clear h1 hje hvl hk
          go_wp2_with fail
          go_ret
          exact ⟨_, acc, h, rfl, ho, HL.out, h4, hgd.out, hbw⟩
end Go.Proofs.YtcplnfaopigoiaaDoor
