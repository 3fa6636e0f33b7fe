/-
  THE WALK of the law 'chirographkeep.LexBack'.
  CONDITIONS: what 'Env' and 'SEnv' say.
-/
import Derived.Test.YtlhoakpijfhljaaGreatDoorBackC
import Derived.Test.YtlhoakpijfhljaaGreatDoorShowU
import Derived.Test.YtlhoakpijfhljaaGreatDoorMakeU
import Derived.Test.YtlhoakpijfhljaaGreatDoorKeepT
namespace Go.Proofs.YtlhoakpijfhljaaGreatDoor
open Go.RowKit
set_option linter.unusedVariables false
set_option maxRecDepth 100000

theorem textT_42 (l : List Tok) (h : ∀ t ∈ l, GoodT t) : (textT l).length ≤ 43 * l.length := by
  cases l with
  | nil => simp [textT]
  | cons t l =>
    have h1 := (h t (List.mem_cons_self ..)).2.2
    have h2 : ∀ (m : List Tok), (∀ t ∈ m, GoodT t) → (m.flatMap fun u => 32 :: shT u).length ≤ 43 * m.length := by
      intro m
      induction m with
      | nil => intro _; simp
      | cons u m ih =>
        intro hm
        have := ih (fun x hx => hm x (List.mem_cons_of_mem _ hx))
        have h3 := (hm u (List.mem_cons_self ..)).2.2
        simp only [List.flatMap_cons, List.length_append, List.length_cons] at *
        omega
    have := h2 l (fun x hx => h x (List.mem_cons_of_mem _ hx))
    simp only [textT, List.length_append, List.length_cons]
    omega
theorem goods_show {l : List Tok} (h : ∀ t ∈ l, GoodT t) (h6 : l.length ≤ 6) : showR l = .ok (textT l) ∧ cutR (textT l) = .ok l ∧ (textT l).length ≤ 300 := by
  have h3 := textT_42 l h
  refine ⟨?_, cut_show l (fun t ht => ⟨(h t ht).1, (h t ht).2.1⟩) (by omega) (by omega), by omega⟩
  rw [show_good (by omega) (fun u hu => (h u hu).2.1), if_neg (by omega)]
/-- One token in an array of its own. -/
theorem toks_one (w : World) (t : Tok) : Toks (w.alloc (.cells #[.int .i64 t.k, .string (str t.s), .int .i64 t.i, .int .u64 t.b] 32)) (some ⟨w.heap.size, 0, none⟩) [t] := by
  refine .inr ⟨w.heap.size, 0, rfl, by simp, fun j u hu => ?_⟩
  cases j with
  | zero =>
    simp only [List.getElem?_cons_zero, Option.some.injEq] at hu
    subst hu
    exact ⟨by simp, by simp, by simp, by simp⟩
  | succ j => simp at hu
theorem show_semi (w : World) (hE : SEnv w) : Calls Tryz.prog 8 #[.slice (some ⟨w.heap.size, 0, none⟩) 1 1] (w.alloc (.cells #[.int .i64 6, .string ⟨#[59]⟩, .int .i64 0, .int .u64 0] 32)) fun e w' => e = .returned (.tuple #[.string ⟨#[59]⟩, .int .i64 0]) ∧ Below w.heap.size w w' := by
  have hb : Below w.heap.size w (w.alloc (.cells #[.int .i64 6, .string ⟨#[59]⟩, .int .i64 0, .int .u64 0] 32)) := (Below.refl _ _).alloc (Nat.le_refl _) _
  have g : GoodT ⟨6, [59], 0, 0⟩ := good_lit 6 [59] (by decide)
  have c := show_any [⟨6, [59], 0, 0⟩] (some ⟨w.heap.size, 0, none⟩) 1 _ (hE.keep hb) (by simp; exact g.1) (by simp) (toks_one w ⟨6, [59], 0, 0⟩)
  have e : showR [⟨6, [59], 0, 0⟩] = .ok [59] := by
    rw [show_good (by simp) (by simp; exact g.2.1), if_neg (by decide)]; rfl
  rw [e] at c
  refine c.mono ?_
  rintro e w' ⟨s, f, rfl, hs, hb2⟩
  obtain ⟨rfl, rfl⟩ := hs.out
  exact ⟨rfl, below_stepL hb (by simp) hb2⟩
set_option maxHeartbeats 8000000 in
theorem lexBack_walk (l : List R) (ao : Option Addr) (cap : Nat) (w : World) (hE : Env w) (hSE : SEnv w) (hcap : l.length ≤ cap) (hc : cap ≤ 9223372036854775807) (hR : Raws w ao l) :
    Calls Tryz.prog 3 #[.slice ao l.length cap] w fun e w' => e = .returned (.bool true) ∧ Below w.heap.size w w' := by
  have c1 := tokensOf_any l ao cap 6 6 rfl w (by decide) hR hcap (by omega)
  have HE := Lib.hid hE
  have HSE := Lib.hid hSE
  generalize l.length = n at *
  clear hE hSE hR
  go_enter Tryz.func3, Tryz.ntmps3
  go_wp2_with fail
  refine c1.mono ?_
  rintro e w1 ⟨v, ts, rfl, ho, HG, h6, hb1⟩
  clear c1
  obtain ⟨a1, cap1, rfl, g1, g2, ht⟩ := ho.toks
  obtain ⟨hsh, hcut, h300⟩ := goods_show HG.out h6
  have cS := show_any ts a1 cap1 w1 (HSE.out.keep hb1) (fun t h => (HG.out t h).1) (by omega) ht
  rw [hsh] at cS
  unfold ShowPost at cS
  have cC := fun W (hW : Below w1.heap.size w1 W) => cut_any (textT ts) W (by omega) (HE.out.keep (below_stepL hb1 hb1.size hW))
  rw [hcut] at cC
  unfold CutPost at cC
  have cW := fun W (hW : Below w1.heap.size w1 W) => show_semi W (HSE.out.keep (below_stepL hb1 hb1.size hW))
  have cK := fun a' k' W (hW : Below w1.heap.size w1 W) (h : Toks W a' ts) => keepTokens_any ts a1 a' cap1 k' W (by omega) (ht.keep hW) h
  have HB1 := Lib.hid hb1
  obtain ⟨N, hN⟩ : ∃ N, ts.length = N := ⟨_, rfl⟩
  have HN := Lib.hid hN
  rw [hN] at cS cK g1 h6
  simp only [hN]
  have CC := Lib.hid cC
  have CW := Lib.hid cW
  have CK := Lib.hid cK
  clear ho hsh hcut h300 ht hb1 hN cC cW cK HE HSE
  go_wp2_with fail
  refine cS.mono ?_
  rintro e w2 ⟨u, f, rfl, hsh, hb2⟩
  obtain ⟨rfl, rfl⟩ := hsh.out
  have c2 := CC.out w2 hb2
  generalize str (textT ts) = U at *
  clear cS CC hsh
  go_wp2_with fail
  refine c2.mono ?_
  rintro e w3 ⟨a4, n4, k4, p4, c4, rfl, h4, hb3⟩
  obtain ⟨ho4, rfl, rfl⟩ := h4.out
  obtain ⟨ao4, cap4, hv4, g4, g5, ht4⟩ := ho4.toks
  cases hv4
  have hb13 := below_stepL hb2 hb2.size hb3
  have c3 := CW.out w3 hb13
  have HT4 := Lib.hid ht4
  rw [HN.out]
  clear c2 CW h4 ho4 ht4 hb2 hb3
  go_wp2_with fail
  refine c3.mono ?_
  rintro e w4 ⟨rfl, hb4⟩
  have hb14 := below_stepL hb13 hb13.size hb4
  have c4 := CK.out a4 k4 w4 hb14 (HT4.out.keep hb4)
  have hbb := below_stepL HB1.out HB1.out.size hb14
  clear c3 CK HT4 hb4 hb13 hb14 HG
  go_wp2_with fail
  refine c4.mono ?_
  rintro e w5 ⟨rfl, hb5⟩
  have hb := below_stepL hbb hbb.size hb5
  clear c4 hb5 hbb
  go_wp2_with fail
  go_ret
  exact ⟨by first | rfl | trivial, hb⟩
end Go.Proofs.YtlhoakpijfhljaaGreatDoor
