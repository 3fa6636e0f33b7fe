/-
  THE WALK of the law 'chirographkeep.CoverShape'.
  CONDITIONS: package sum's roundWords hold what their initialiser lays ('KW').
-/
import Derived.Test.YtcplnfaopigoiaaDoorAppL
import Derived.Test.YtcplnfaopigoiaaDoorCovL
import Derived.Test.YtcplnfaopigoiaaDoorCovM
import Derived.Test.YtcplnfaopigoiaaDoorCovN
import Derived.Test.YtcplnfaopigoiaaDoorPathK
namespace Go.Proofs.YtcplnfaopigoiaaDoor
open Go.RowKit CodeMath Go.Proofs.YtcplnfaopigoiaaDoor.FrameMath
set_option linter.unusedVariables false
set_option maxRecDepth 100000

theorem ownL_empty (w : World) (base : Nat) (hb : base ≤ w.heap.size) : OwnL (w.alloc (.cells #[] 32)) base (.slice (some ⟨w.heap.size, 0, none⟩) 0 0) [] :=
  ⟨[], World.ownsRow_lit w #[] 0 hb (by decide) rfl, fun i l h => by simp at h⟩
def RestF (B g1 g2 : Nat) (X Y : List (List UInt8)) (vx vy : Value) (n : Nat) : Nat → Nat → Value → World → Prop
  | s, 0, v, w => s = 1 → OwnL w B v []
  | _, 1, v, _ => v = .pointer (some ⟨g1, 1, none⟩)
  | _, 2, v, _ => v = vx
  | s, 3, v, w => s = 2 → OwnL w B v X
  | _, 4, v, _ => v = .pointer (some ⟨g2, 1, none⟩)
  | _, 5, v, _ => v = vy
  | s, 6, v, w => s = 3 ∧ OwnL w B v (X ++ Y)
  | _, 7, v, _ => v = .int .i64 (n : Int)
  | _, 8, v, _ => v = .int .i64 0
  | _, _, _, _ => True

set_option maxHeartbeats 4000000 in
theorem coverShape_walk (l : List R) (ao : Option Addr) (cap : Nat) (l2 : List R) (ao2 : Option Addr) (cap2 : Nat) (which : Int) (w : World) (hT : KW w) (hc : l.length ≤ cap) (hq : cap ≤ 9223372036854775807) (hR : Raws w ao l) (hc2 : l2.length ≤ cap2) (hq2 : cap2 ≤ 9223372036854775807) (hR2 : Raws w ao2 l2) (a0 : -9223372036854775808 ≤ which) (a1 : which ≤ 9223372036854775807) :
    Calls Tryd.prog 7 #[.slice ao l.length cap, .slice ao2 l2.length cap2, .int .i64 which] w fun e w' => e = .returned (.bool true) ∧ Below w.heap.size w w' := by
  have cS := slotsOf_any l ao cap w hc hq hR
  have cS2 := fun W (hW : Below w.heap.size w W) => slotsOf_any l2 ao2 cap2 W hc2 hq2 (hR2.keep hW)
  clear hc hq hR hc2 hq2 hR2
  generalize l.length = n at *
  generalize l2.length = n2 at *
  go_enter Tryd.func7, Tryd.ntmps7
  go_wp2_with fail
  refine cS.mono ?_
  rintro e w1 ⟨v1, S, h, rfl, ho, hl, h4, hg, hb1⟩
  have c2 := cS2 w1 hb1
  clear cS cS2
  have hS16 : S.length ≤ 16 := by
    rw [hl]
    have h9 : 2 ^ h ≤ 2 ^ 4 := Nat.pow_le_pow_right (by decide) h4
    have e4 : 2 ^ 4 = 16 := by decide
    omega
  have hS0 : 0 < S.length := by rw [hl]; exact Nat.pow_pos (by decide)
  obtain ⟨x0, hx0⟩ : ∃ x, S[0]? = some x := ⟨_, List.getElem?_eq_getElem hS0⟩
  obtain ⟨gS, kS, -, -, rfl, -⟩ := ho.at 0 x0 hx0
  obtain ⟨aX, kX, eX, qS1, qS2, -, hSS⟩ := ho.slots
  cases eX
  obtain ⟨sn, hsn⟩ : ∃ k, S.length = k := ⟨_, rfl⟩
  have HSN := Lib.hid hsn
  have hS0' := hS0
  rw [hsn] at hS16 hS0 ⊢ qS1
  have hsI : (sn : Int) ≤ 16 := by omega
  go_wp2_with fail
  refine c2.mono ?_
  rintro e w2 ⟨v2, T, h2, rfl, hoT, hlT, h24, hgT, hb2⟩
  clear c2
  have hT0 : 0 < T.length := by rw [hlT]; exact Nat.pow_pos (by decide)
  have hT16 : T.length ≤ 32 := by
    rw [hlT]
    have h9 : 2 ^ h2 ≤ 2 ^ 4 := Nat.pow_le_pow_right (by decide) h24
    have e4 : 2 ^ 4 = 16 := by decide
    omega
  have hgT' := Lib.hid hgT
  obtain ⟨y0, hy0⟩ : ∃ x, T[0]? = some x := ⟨_, List.getElem?_eq_getElem hT0⟩
  obtain ⟨gT, kT, -, -, rfl, -⟩ := hoT.at 0 y0 hy0
  obtain ⟨tn, htn⟩ : ∃ k, T.length = k := ⟨_, rfl⟩
  have HTN := Lib.hid htn
  rw [htn] at hoT ⊢
  have H0 := Lib.hid (And.intro hT0 hT16)
  clear hT0 hT16 hlT h24 hgT hx0 hy0 htn
  go_wp2_with fail
  go_loopw [8] (fun tv wr => ∃ (T : List Sl) (g k n : Nat), tv = .slice (some ⟨g, 0, none⟩) n k ∧ Hid (T.length = n) ∧ OwnSl wr w1.heap.size tv T ∧ Hid (∀ x ∈ T, x.Good) ∧ Hid (0 < n ∧ n ≤ 32) ∧ Below w1.heap.size w1 wr) (fun tv _ => 32 - lenV tv)
  case atStart => exact ⟨T, gT, kT, tn, rfl, HTN, hoT, hgT', by have := H0.out; rw [HTN.out] at this; exact Lib.hid this, hb2⟩
  case round =>
    obtain ⟨T, g, k, n', rfl, hn', hoT, hgT, h32, hbr⟩ := hrel
    have hnI : (n' : Int) ≤ 32 := by have := h32.out; omega
    by_cases hlt : n' < sn
    · have hI : (n' : Int) < sn := by omega
      have hsz := hbr.size
      have H1 := Lib.hid hlt
      clear hlt
      go_wp2_with (first
        | (at_builtin; refine wpList_append_self rfl _ _ rfl w1.heap.size _ T rfl rfl hoT (by rw [hn'.out]; exact h32.out.1) (by have := h32.out; have := hn'.out; omega) hsz ?_; intro v5 w5 ho5 hb5)
        | fail)
      obtain ⟨z0, hz0⟩ : ∃ x, (T ++ T)[0]? = some x := ⟨_, List.getElem?_eq_getElem (by rw [List.length_append, hn'.out]; have := h32.out; omega)⟩
      obtain ⟨g5, k5, -, -, rfl, -⟩ := ho5.at 0 z0 hz0
      have hl2 : (T ++ T).length = n' + n' := by rw [List.length_append, hn'.out]
      have hgg : ∀ x ∈ T ++ T, x.Good := fun x hx => by
        rcases List.mem_append.1 hx with hx | hx
        · exact hgT.out x hx
        · exact hgT.out x hx
      rw [hl2] at ho5 ⊢
      generalize T ++ T = TT at *
      go_roundw
      case rel => exact ⟨TT, g5, k5, n' + n', rfl, Lib.hid hl2, ho5, Lib.hid hgg, Lib.hid (by have := H1.out; have := h32.out; omega), hbr.trans hb5⟩
      case measure => have := H1.out; have := h32.out; simp [lenV]; omega
    · have hI : ¬ (n' : Int) < sn := by omega
      obtain ⟨aY, kY, eY, qT1, qT2, -, hTT⟩ := hoT.slots
      rw [hn'.out] at eY qT1
      cases eY
      have hTt := hTT.take sn
      have hgt : ∀ x ∈ T.take sn, x.Good := fun x hx => hgT.out x (List.mem_of_mem_take hx)
      have htl : (T.take sn).length = sn := by rw [List.length_take, hn'.out]; omega
      have hnk : sn ≤ k := by omega
      generalize T.take sn = U at *
      have hsl := fun W => sliceS_first (some ⟨g, 0, none⟩) n' k sn hnk W
      have hbS := hbr
      clear hoT hgT h32 hTT qT1 hn' hlt
      -- what is so of both
      have hl' := hl
      rw [hsn] at hl
      obtain ⟨rows, hr, hlv, -, -, hpw⟩ := levels_good 1 rfl S h (by omega) hl' hg
      obtain ⟨rowsU, hrU, hlvU, -, -, -⟩ := levels_good 1 rfl U h (by omega) (by rw [htl]; exact hl) hgt
      have cO := fun W => opens_any sn (some ⟨gS, 0, none⟩) kS which W (by omega) a0 a1
      have hol := opensL_length sn which
      generalize opensL sn which = o at *
      have hb0r := below_step hb1 hb1.size hbr
      have hTr := hT.keep hb0r (Nat.le_refl _)
      have hSr := hSS.keep hbr
      have cV := fun W (hW : Below wr.heap.size wr W) aO cO' h1 h2 h3 => CoverOf_any 1 S (some ⟨gS, 0, none⟩) kS o aO cO' W (by omega) (by omega) (by omega) qS2 (hSr.keep hW) h1 h2 h3 (hTr.keep hW (Nat.le_refl _)) h (by omega) (fun _ => hl')
      have cU := fun W (hW : Below wr.heap.size wr W) aO cO' h1 h2 h3 => CoverOf_any 1 U (some ⟨g, 0, none⟩) k o aO cO' W (by omega) (by omega) (by omega) qT2 (hTt.keep hW) h1 h2 h3 (hTr.keep hW (Nat.le_refl _)) h (by omega) (fun _ => by rw [htl]; exact hl)
      unfold CovPost at cV cU
      rw [hlv] at cV
      rw [hlvU] at cU
      simp only [if_pos (show o.length = S.length by rw [hsn]; exact hol)] at cV
      simp only [if_pos (show o.length = U.length by rw [htl]; exact hol)] at cU
      have c1 := selO_length S o (by rw [hsn]; exact hol.symm)
      have c2 := selO_length U o (by rw [htl]; exact hol.symm)
      have r1 := covR_length 1 h rows o
      have r2 := covR_length 1 h rowsU o
      have hpos := cover_some h o
      have hX32 := cov_hash h rows o (by rw [leavesR_length 1 S rows hr, hl']) (leaves_hash S rows hr)
      have hY32 := cov_hash h rowsU o (by rw [leavesR_length 1 U rowsU hrU, htl, hl]) (leaves_hash U rowsU hrU)
      have hcl : o.count true ≤ 16 := by have := List.count_le_length (a := true) (l := o); omega
      have hrl : resN h o ≤ 16 := by
        have := resN_few h o
        have h9 : 2 ^ h ≤ 2 ^ 4 := Nat.pow_le_pow_right (by decide) h4
        have e4 : 2 ^ 4 = 16 := by decide
        omega
      rw [hsn] at cV
      rw [htl] at cU
      generalize covR 1 h rows o = X at *
      generalize covR 1 h rowsU o = Y at *
      generalize selO S o = SS at *
      generalize selO U o = UU at *
      generalize resN h o = q at *
      generalize o.count true = c at *
      rw [hol] at cV cU
      have hqI : (q : Int) ≤ 16 := by omega
      have hcI : (c : Int) ≤ 16 := by omega
      have HOL := Lib.hid hol
      clear hr hlv hrU hlvU hl hl' hg hgt htl hnk hTt hSr hSS hpw qT2 qS2 hsn hol hb2 hoT
      go_wp2_with fail
      refine (cO _).mono ?_
      rintro e w3 ⟨v3, rfl, hoo, hb3⟩
      obtain ⟨aO, cO', rfl, o1, o2, o3⟩ := hoo.bools
      rw [HOL.out] at o1 ⊢
      have cv := cV w3 hb3 aO cO' o1 o2 o3
      clear cO cV hsl
      go_wp2_with fail
      refine cv.mono ?_
      rintro e w4 ⟨⟨sv, rv, rfl, hSl, hRl⟩, hb4⟩
      obtain ⟨aA, kA, rfl, -⟩ := hSl.slots
      obtain ⟨aP, kP, rfl, p1, -, p3, pL⟩ := hRl.linesT
      rw [c1] at *
      rw [r1] at p1 ⊢
      have hba : Below w4.heap.size w4 (w4.alloc (.cells #[.slice aA c kA, .slice aP q kP] 26)) := (Below.refl _ _).alloc (Nat.le_refl _) _
      have zA : Blk (w4.alloc (.cells #[.slice aA c kA, .slice aP q kP] 26)) w4.heap.size 26 [.slice aA c kA, .slice aP q kP] := Blk.new w4 #[.slice aA c kA, .slice aP q kP] _
      have hb34 := below_step hb4 hb4.size hba
      have hbr5 := below_step hb3 hb3.size hb34
      have pL5 := pL.keep hba
      have o5 := o3.keep hb34
      have cu := cU _ hbr5 aO cO' o1 o2 o5
      clear cv cU hSl hRl pL hb4 hb3 hb34 o3 o5 hba
      go_upto_region 7 with fail
      generalize w4.alloc (.cells #[.slice aA c kA, .slice aP q kP] 26) = w5 at *
      generalize w4.heap.size = gA at *
      go_wp2_with fail
      refine cu.mono ?_
      rintro e w6 ⟨⟨sv, rv, rfl, hSl, hRl⟩, hb6⟩
      obtain ⟨aB, kB, rfl, -⟩ := hSl.slots
      obtain ⟨aQ, kQ, rfl, q1, -, q3, qL⟩ := hRl.linesT
      rw [c2] at *
      rw [r2] at q1 ⊢
      have hba : Below w6.heap.size w6 (w6.alloc (.cells #[.slice aB c kB, .slice aQ q kQ] 26)) := (Below.refl _ _).alloc (Nat.le_refl _) _
      have zB : Blk (w6.alloc (.cells #[.slice aB c kB, .slice aQ q kQ] 26)) w6.heap.size 26 [.slice aB c kB, .slice aQ q kQ] := Blk.new w6 #[.slice aB c kB, .slice aQ q kQ] _
      have hb57 := below_step hb6 hb6.size hba
      have zA7 := zA.call hb57
      have hbr7 := below_step hbr5 hbr5.size hb57
      have hb07 := below_step hb0r hb0r.size hbr7
      have pL7 := pL5.keep hb57
      have qL7 := qL.keep hba
      clear cu hSl hRl pL5 qL hb6 hb57 hbr7 hbr5 zA hba
      go_upto_region 8 with fail
      generalize w6.alloc (.cells #[.slice aB c kB, .slice aQ q kQ] 26) = w7 at *
      generalize w6.heap.size = gB at *
      refine wp_region_chain2 9 [0, 3, 6] (by kernel_rfl) (by kernel_rfl) (by kernel_rfl) (RestF w7.heap.size gA gB X Y (.slice aP q kP) (.slice aQ q kQ) (q + q)) (fun s W => w7.heap.size ≤ W.heap.size ∧ Below w7.heap.size w7 W) (fun s w w' => True) ?hF ?h0 ?hstep ?hcall ?hdone
      case hF =>
        intro s i hs j v W W' hjn hne hpb h he
        rcases (show j = 0 ∨ j = 1 ∨ j = 2 ∨ j = 3 ∨ j = 4 ∨ j = 5 ∨ j = 6 ∨ j = 7 ∨ j = 8 by omega) with rfl | rfl | rfl | rfl | rfl | rfl | rfl | rfl | rfl
        · intro h1
          obtain rfl : s = 0 := by omega
          exact absurd (by simpa using hs) hne
        · exact h
        · exact h
        · intro h1
          obtain rfl : s = 1 := by omega
          exact absurd (by simpa using hs) hne
        · exact h
        · exact h
        · obtain ⟨rfl, -⟩ := h
          simp at hs
        · exact h
        · exact h
      case h0 => exact ⟨Nat.le_refl _, Below.drew (Below.refl _ _)⟩
      case hstep =>
        intro j hj hni s vs act W K ha' hst hd hu hK
        simp only [fillF, Act.put, List.take_succ_cons, List.take_zero, List.setIfInBounds_toArray, List.set_cons_zero, List.set_cons_succ] at ha'
        subst ha'
        clear hu
        rcases (show j = 0 ∨ j = 1 ∨ j = 2 ∨ j = 3 ∨ j = 4 ∨ j = 5 ∨ j = 6 ∨ j = 7 ∨ j = 8 by omega) with rfl | rfl | rfl | rfl | rfl | rfl | rfl | rfl | rfl
        · exact (hni (by decide)).elim
        · refine wpOp_step rfl (fun K' hK' => ?_)
          go_simp
          exact hK' _ _ (hK _ rfl)
        · have e1 : vs 1 = .pointer (some ⟨gA, 1, none⟩) := hd 1 (by kernel_rfl)
          have z1 := (zA7.call hst.2).cell (j := 1) rfl
          simp only [e1] at hK ⊢
          refine wpOp_step rfl (fun K' hK' => ?_)
          go_simp
          exact hK' _ _ (hK _ rfl)
        · exact (hni (by decide)).elim
        · refine wpOp_step rfl (fun K' hK' => ?_)
          go_simp
          exact hK' _ _ (hK _ rfl)
        · have e4 : vs 4 = .pointer (some ⟨gB, 1, none⟩) := hd 4 (by kernel_rfl)
          have z1 := (zB.call hst.2).cell (j := 1) rfl
          simp only [e4] at hK ⊢
          refine wpOp_step rfl (fun K' hK' => ?_)
          go_simp
          exact hK' _ _ (hK _ rfl)
        · exact (hni (by decide)).elim
        · have e6 : s = 3 ∧ OwnL W w7.heap.size (vs 6) (X ++ Y) := hd 6 (by kernel_rfl)
          obtain ⟨ad, cd, e6', -⟩ := e6.2.lines
          rw [List.length_append, r1, r2] at e6'
          simp only [e6'] at hK ⊢
          refine wpOp_step rfl (fun K' hK' => ?_)
          go_simp
          exact hK' _ _ (hK _ (by show Value.int .i64 _ = Value.int .i64 _; congr 1))
        · refine wpOp_step rfl (fun K' hK' => ?_)
          go_simp
          exact hK' _ _ (hK _ rfl)
      case hcall =>
        intro s j hs vs act W K ha' hst hd hK
        simp only [fillF, Act.put, List.take_succ_cons, List.take_zero, List.setIfInBounds_toArray, List.set_cons_zero, List.set_cons_succ] at ha'
        subst ha'
        rcases s with _ | _ | _ | s
        · obtain rfl : 0 = j := by simpa using hs
          refine wpOp_step rfl (fun K' hK' => ?_)
          go_simp
          refine hK' _ _ (hK _ _ (fun _ => ownL_empty W _ hst.1) trivial ⟨Nat.le_trans hst.1 ?_, hst.2.alloc hst.1 _⟩)
          exact ((Below.refl W.heap.size W).alloc (Nat.le_refl _) _).size
        · obtain rfl : 3 = j := by simpa using hs
          have e0 : OwnL W w7.heap.size (vs 0) [] := hd 0 (by kernel_rfl) rfl
          have e2 : vs 2 = .slice aP q kP := hd 2 (by kernel_rfl)
          simp only [e2] at hK ⊢
          refine wpOp_step rfl (fun K' hK' => ?_)
          rw [if_pos (by simp [Region.wanted])]
          refine wp_append_rows (.tmp 47) (.tmp 49) rfl w7.heap.size (vs 0) [] rfl e0 X aP q kP r1 rfl p3 p1 (pL7.keep hst.2) (by simp; omega) hst.1 ?_
          intro v' w' ho hg
          refine hK' _ _ (hK v' w' (fun _ => by simpa using ho) trivial ⟨Nat.le_trans hst.1 hg.size, hst.2.grown hg hst.1 (fun b hb => (e0.typed b hb).2.1)⟩)
        · obtain rfl : 6 = j := by simpa using hs
          have e3 : OwnL W w7.heap.size (vs 3) X := hd 3 (by kernel_rfl) rfl
          have e5 : vs 5 = .slice aQ q kQ := hd 5 (by kernel_rfl)
          simp only [e5] at hK ⊢
          refine wpOp_step rfl (fun K' hK' => ?_)
          rw [if_pos (by simp [Region.wanted])]
          refine wp_append_rows (.tmp 50) (.tmp 52) rfl w7.heap.size (vs 3) X rfl e3 Y aQ q kQ r2 rfl q3 q1 (qL7.keep hst.2) (by omega) hst.1 ?_
          intro v' w' ho hg
          refine hK' _ _ (hK v' w' ⟨rfl, ho⟩ trivial ⟨Nat.le_trans hst.1 hg.size, hst.2.grown hg hst.1 (fun b hb => (e3.typed b hb).2.1)⟩)
        · simp at hs
      case hdone =>
        intro vs act W ha' hst hf
        simp only [fillF, Act.put, List.take_succ_cons, List.take_zero, List.drop_succ_cons, List.drop_zero, List.setIfInBounds_toArray, List.set_cons_zero, List.set_cons_succ] at ha' ⊢
        subst ha'
        have hoD : OwnL W w7.heap.size (vs 6) (X ++ Y) := (hf 6 (by decide)).2
        have e7 : vs 7 = .int .i64 ((q + q : Nat) : Int) := hf 7 (by decide)
        have e8 : vs 8 = .int .i64 0 := hf 8 (by decide)
        rw [e7, e8]
        have hb7 := hst.2
        clear hst hf e7 e8
        have hD32 : ∀ x ∈ X ++ Y, x.length = 32 := fun x hx => by
          rcases List.mem_append.1 hx with h | h
          · exact hX32 x h
          · exact hY32 x h
        have hDl : (X ++ Y).length = q + q := by rw [List.length_append, r1, r2]
        generalize X ++ Y = D at *
        obtain ⟨aD, cD, eD, qD1, -, -, hLD⟩ := hoD.lines
        rw [hDl] at eD qD1
        rw [eD]
        have HD := Lib.hid hD32
        have HDL := Lib.hid hDl
        have hdI : ((q + q : Nat) : Int) ≤ 32 := by omega
        obtain ⟨d, hd⟩ : ∃ d, q + q = d := ⟨_, rfl⟩
        rw [hd] at HDL hdI ⊢
        have hb0W := below_step hb07 hb07.size hb7
        have zAW := Lib.hid (zA7.call hb7)
        have zBW := Lib.hid (zB.call hb7)
        have HLD := Lib.hid hLD
        have hpI : (0 : Int) < (c : Int) + (q : Int) := by omega
        clear hX32 hY32 pL7 qL7 zA7 zB p1 p3 q1 q3 hoD hD32 hDl eD qD1 hb7 hb07 hd hLD
        generalize vs 0 = u0 at *
        generalize vs 1 = u1 at *
        generalize vs 2 = u2 at *
        generalize vs 3 = u3 at *
        generalize vs 4 = u4 at *
        generalize vs 5 = u5 at *
        have hB0 := Below.refl W.heap.size W
        go_wp2_with fail
        go_loopw [15, 55] (fun _ ix wr => ∃ i : Nat, i ≤ d ∧ ix = .int .i64 i ∧ Below W.heap.size W wr) (fun _ ix _ => d - (intOf ix).toNat)
        case atStart => exact ⟨0, Nat.zero_le _, rfl, hB0⟩
        case round =>
          obtain ⟨i, hi, rfl, hbr⟩ := hrel
          clear hB0
          by_cases hlt : i < d
          · have iI : (i : Int) < d := by omega
            have H1 := Lib.hid hlt
            obtain ⟨x, hx⟩ : ∃ x, D[i]? = some x := ⟨_, List.getElem?_eq_getElem (by rw [HDL.out]; exact hlt)⟩
            have hx32 := HD.out x (List.mem_of_getElem? hx)
            rcases HLD.out with h0 | ⟨gb, kb, e1, h2, h3⟩
            · rw [h0] at hx; simp at hx
            subst e1
            obtain ⟨ax, cx, k1, -⟩ := h3 i x hx
            have hcell := (hbr.cell (p := ⟨gb, kb + i, none⟩) h2).trans k1
            rw [hx32] at hcell
            clear hlt hx h2 h3 k1
            go_wp2_with fail
            go_roundw
            case rel => exact ⟨i + 1, H1.out, by go_num, hbr⟩
            case measure => have := H1.out; simp [intOf]; omega
          · have iI : ¬ (i : Int) < d := by omega
            have q0 := (zAW.out.call hbr).cell (j := 0) rfl
            have q1 := (zAW.out.call hbr).cell (j := 1) rfl
            have q2 := (zBW.out.call hbr).cell (j := 0) rfl
            have q3 := (zBW.out.call hbr).cell (j := 1) rfl
            have hBB := below_step hb0W hb0W.size hbr
            clear hlt hi
            go_wp2_with fail
            go_ret
            exact ⟨rfl, hBB⟩
end Go.Proofs.YtcplnfaopigoiaaDoor
