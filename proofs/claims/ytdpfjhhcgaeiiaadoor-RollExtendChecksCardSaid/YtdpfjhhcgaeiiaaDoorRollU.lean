/-
  CONTRACTS of the reference's below, turnedRound.
  CONDITIONS: each theorem's own hypotheses.
-/
import Derived.Test.YtdpfjhhcgaeiiaaDoorLawT3
import Derived.Test.YtdpfjhhcgaeiiaaDoorRollI
namespace Go.Proofs.YtdpfjhhcgaeiiaaDoor
open Go.RowKit CodeMath Go.Proofs.YtdpfjhhcgaeiiaaDoor.FrameMath
set_option linter.unusedVariables false
set_option maxRecDepth 100000

theorem sliceL_head (ap : Option Addr) (n cap k : Nat) (hk : k ≤ cap) (W : World) : (Instr.slice 23 (.slice ap n cap) none (some (.int .i64 (k : Int))) none).run Tryd.prog W = .ok (.slice ap k cap) W := by
  have hs : (sizeOf (Tryd.prog.elem 23)).run Tryd.prog W = .ok 1 W := by kernel_rfl
  have h := run_slice_h (P := Tryd.prog) W 23 ap n cap (by kernel_rfl) .i64 (k : Int) (by omega) (by omega)
  rw [h, hs, Int.toNat_natCast]
  simp only [Result.andThen, sliced, Nat.sub_zero]
  cases ap with
  | none => simp
  | some a => simp [Addr.add]
theorem sliceL_tail (ap : Option Addr) (n cap k : Nat) (hk : k ≤ n) (W : World) : (Instr.slice 23 (.slice ap n cap) (some (.int .i64 (k : Int))) none none).run Tryd.prog W = .ok (.slice (pieceA ap k cap) (n - k) (cap - k)) W := by
  have hs : (sizeOf (Tryd.prog.elem 23)).run Tryd.prog W = .ok 1 W := by kernel_rfl
  have h := run_slice_l (P := Tryd.prog) W 23 ap n cap (by kernel_rfl) .i64 (k : Int) (by omega) (by omega)
  rw [h, hs, Int.toNat_natCast]
  rfl
theorem Lines.dropc {w : World} {ap : Option Addr} {rows : List (List UInt8)} (h : Lines w ap rows) (k cap : Nat) (hc : rows.length ≤ cap) : Lines w (pieceA ap k cap) (rows.drop k) := by
  unfold pieceA
  split
  · left; exact List.drop_of_length_le (by omega)
  · rcases h with h | ⟨a, o, h1, h2, h3⟩
    · left; rw [h]; simp
    · subst h1
      refine .inr ⟨a, o + k * 1, ?_, h2, fun i x hx => ?_⟩
      · by_cases hk : k = 0
        · subst hk; rfl
        · simp [Addr.add, hk]
      · rw [List.getElem?_drop] at hx
        have := h3 _ x hx
        rw [show o + k * 1 + i = o + (k + i) by omega]
        exact this
set_option maxHeartbeats 1000000 in
theorem below_any (n : Nat) (h2 : 2 ≤ n) (h64 : n ≤ 64) (w : World) :
    Calls Tryd.prog 76 #[.int .i64 (n : Int)] w fun e w' => e = .returned (.int .i64 (hf n : Int)) ∧ w = w' := by
  have H2 := Lib.hid h2
  have H64 := Lib.hid h64
  have nI : (n : Int) ≤ 64 := by omega
  obtain ⟨H, hH⟩ : ∃ H, hf n = H := ⟨_, rfl⟩
  have HH := Lib.hid hH
  rw [hH]
  clear h2 h64 hH
  go_enter Tryd.func76, Tryd.ntmps76
  go_wp2_with fail
  go_loopw [3] (fun u wr => w = wr ∧ ∃ a k : Nat, u = .int .i64 k ∧ Hid (k = 2 ^ a) ∧ Hid (n ≤ 2 ^ (a + 1)) ∧ Hid (k ≤ 32)) (fun u _ => (intOf u).toNat)
  case atStart => exact ⟨rfl, 5, 32, rfl, Lib.hid rfl, Lib.hid (by have := H64.out; exact this), Lib.hid (by decide)⟩
  case round =>
    obtain ⟨rfl, a, k, rfl, hk, hn, hk32⟩ := hrel
    by_cases hge : n ≤ k
    · have hI : (n : Int) ≤ k := by omega
      have hdv := nat_tdiv2 k
      have HGE := Lib.hid hge
      have kI : (k : Int) ≤ 32 := by have := hk32.out; omega
      clear hge
      go_wp2_with fail
      go_roundw
      case rel =>
        refine ⟨(by first | trivial | rfl), ?_⟩
        have h1 := hk.out
        have h2 := HGE.out
        have h3 := H2.out
        cases a with
        | zero => simp at h1; omega
        | succ a =>
          rw [Nat.pow_succ] at h1
          exact ⟨a, k / 2, rfl, Lib.hid (by show k / 2 = 2 ^ a; omega), Lib.hid (by show n ≤ 2 ^ (a + 1); rw [Nat.pow_succ]; omega), Lib.hid (by have := hk32.out; show k / 2 ≤ 32; omega)⟩
      case measure => have := HGE.out; have := H2.out; simp [intOf]; omega
    · have hI : ¬ (n : Int) ≤ k := by omega
      have he : Hid (H = k) := by
        show _ = _
        rw [← HH.out, hk.out]
        exact hf_spec (by have := hk.out; omega) hn.out
      have kI : (k : Int) ≤ 32 := by have := hk32.out; omega
      clear hge
      go_wp2_with fail
      go_ret
      exact ⟨by rw [he.out]; rfl, rfl⟩
/-- The cell of a line of the call's own. -/
theorem OwnL.at {w : World} {base : Nat} {v : Value} {rows : List (List UInt8)} (h : OwnL w base v rows) (i : Nat) (l : List UInt8) (hi : rows[i]? = some l) : ∃ g cap u, v = .slice (some ⟨g, 0, none⟩) rows.length cap ∧ g < w.heap.size ∧ w.cell? ⟨g, i, none⟩ = some u ∧ RowT w u l := by
  obtain ⟨us, h1, h2⟩ := h
  have hil := (List.getElem?_eq_some_iff.1 hi).1
  obtain ⟨g, cap, rfl, hc, hm, hb, hg⟩ := ownsRow_shape h1 (by omega)
  obtain ⟨u, k1, k2⟩ := h2 i l hi
  exact ⟨g, cap, u, rfl, hg, by rw [h1.cellAt _ (by omega)]; exact k1, k2⟩
set_option maxHeartbeats 2000000 in
theorem turnedRound_any (base : Nat) (v : Value) (rows : List (List UInt8)) (w : World) (h64 : rows.length ≤ 64) (ho : OwnL w base v rows) :
    Calls Tryd.prog 77 #[v] w fun e w' => ∃ v', e = .returned v' ∧ OwnL w' w.heap.size v' rows.reverse ∧ Below w.heap.size w w' := by
  obtain ⟨n, hn⟩ : ∃ n, rows.length = n := ⟨_, rfl⟩
  have HN := Lib.hid hn
  obtain ⟨ao, co, rfl, -⟩ := id ho.lines
  rw [hn] at h64 ⊢
  rw [hn] at ho
  have hnI : (n : Int) ≤ 64 := by omega
  have hwn : IntKind.i64.wrap ((n : Int) - 1) = (n : Int) - 1 := by rw [IntKind.wrap_i64]; omega
  have H64 := Lib.hid h64
  have hBB := Below.refl w.heap.size w
  clear hn h64
  generalize hW : w = wA at *
  go_enter Tryd.func77, Tryd.ntmps77
  go_wp2_with fail
  go_loopw [3, 4] (fun u ix wr => ∃ (q : Nat) (acc : List (List UInt8)) (z : Int), ix = .int .i64 z ∧ Hid (z = (q : Int) - 1) ∧ Hid (q ≤ n) ∧ Hid (acc = (rows.drop q).reverse) ∧ Hid (acc.length + q = n) ∧ OwnL wr wA.heap.size u acc ∧ Below wA.heap.size wA wr) (fun _ ix _ => (intOf ix + 1).toNat)
  case atStart => exact ⟨n, [], _, rfl, Lib.hid rfl, Lib.hid (Nat.le_refl _), Lib.hid (by rw [List.drop_of_length_le (by rw [HN.out]; exact Nat.le_refl _)]; rfl), Lib.hid (by simp), OwnL.nil _ _, hBB⟩
  case round =>
    obtain ⟨q, acc, z, rfl, hz, hq, hacc, hal, ho2, hb⟩ := hrel
    clear hBB
    cases q with
    | zero =>
      obtain rfl : z = -1 := hz.out
      have HE : Hid (rows.reverse = acc) := by show _ = _; rw [hacc.out, List.drop_zero]
      clear hz hq hacc hal
      go_wp2_with fail
      go_ret
      rw [HE.out]
      exact ⟨_, rfl, ho2, hb⟩
    | succ j =>
      have hzj : z = (j : Int) := by have := hz.out; omega
      subst hzj
      have hjn : j < rows.length := by have := hq.out; have := HN.out; omega
      obtain ⟨x, hx⟩ : ∃ x, rows[j]? = some x := ⟨_, List.getElem?_eq_getElem hjn⟩
      obtain ⟨g, cg, u, eg, hg, hc, hr⟩ := ho.at j x hx
      obtain ⟨ea, -, -⟩ := Value.slice.inj eg
      subst ea
      have hc' := (hb.cell (p := ⟨g, j, none⟩) hg).trans hc
      have hr' := hr.keep hb
      have hjI : (j : Int) < n := by have := hq.out; omega
      have hj64 : (j : Int) ≤ 64 := by omega
      have hwj : IntKind.i64.wrap ((j : Int) - 1) = (j : Int) - 1 := by rw [IntKind.wrap_i64]; omega
      have HA : Hid (acc ++ [x] = (rows.drop j).reverse) := by
        show _ = _
        rw [List.drop_eq_getElem_cons hjn, (List.getElem?_eq_some_iff.1 hx).2, List.reverse_cons, ← hacc.out]
      have HL : Hid ((acc ++ [x]).length + j = n) := by have := hal.out; show _ = _; rw [List.length_append]; simp; omega
      have HQ : Hid (j ≤ n) := by have := hq.out; show j ≤ n; omega
      have hacl : acc.length ≤ 1000000 := by have := hal.out; have := H64.out; omega
      have hbs := hb.size
      obtain ⟨a4, k4, rfl, -⟩ := id hr
      generalize x.length = lx at *
      clear hz hq hacc hal hr hc eg hx hjn
      go_wp2_with (first
        | (at_builtin; refine wpList_append_line rfl _ _ rfl wA.heap.size _ acc rfl ho2 _ x _ rfl rfl hr' hacl hbs ?_; intro v5 w5 ho5 hb5)
        | fail)
      have hb6 := hb.trans hb5
      go_roundw
      case rel => exact ⟨j, _, _, rfl, Lib.hid rfl, HQ, HA, HL, ho5, hb6⟩
      case measure => simp [intOf]
end Go.Proofs.YtdpfjhhcgaeiiaaDoor
