/-
  THE WALK of the law 'chirographkeep.TreeSpans'.
  CONDITIONS: each theorem's own hypotheses.
-/
import Derived.Test.YtopgakdgifmecaaLawTm
namespace Go.Proofs.Ytopgakdgifmecaa
open Go.RowKit
set_option linter.unusedVariables false
set_option maxRecDepth 100000

def key2 (x y : Int) : List UInt8 := [(97 + x.toNat).toUInt8, (97 + y.toNat).toUInt8]
theorem key2_bytes (x y : Int) (x0 : 0 ≤ x) (x6 : x < 6) (y0 : 0 ≤ y) (y6 : y < 6) : ∃ c5 c6 : Int, IntKind.u8.wrap x = x ∧ IntKind.u8.wrap y = y ∧ IntKind.u8.wrap (97 + x) = c5 ∧ IntKind.u8.wrap (97 + y) = c6 ∧
    ∀ (W : World) (k : Nat), Blk W k 5 [.int .u8 c5, .int .u8 c6] → (convert 55 9 (.slice (some ⟨k, 0, none⟩) 2 2)).run Try.prog W = .ok (.string (str (key2 x y))) W := by
  have hw : ∀ z : Int, 0 ≤ z → z ≤ 255 → IntKind.u8.wrap z = z := fun z h0 h9 => by
    unfold IntKind.wrap
    simp [IntKind.bits, IntKind.signed]
    omega
  refine ⟨((97 + x.toNat).toUInt8.toNat : Int), ((97 + y.toNat).toUInt8.toNat : Int), hw _ (by omega) (by omega), hw _ (by omega) (by omega), ?_, ?_, fun W k h => ?_⟩
  · rw [hw _ (by omega) (by omega)]
    simp; omega
  · rw [hw _ (by omega) (by omega)]
    simp; omega
  · exact run_convert_bytes_back (P := Try.prog) _ 55 9 5 ⟨k, 0, none⟩ 2 (key2 x y) Try.underlying55 Try.underlying5 Try.underlying9 (fun j hj => by
      rcases (show j = 0 ∨ j = 1 by simp [key2] at hj; omega) with rfl | rfl
      · exact h.cell (j := 0) rfl
      · exact h.cell (j := 1) rfl)
theorem treeFind_tr2 (au : Option Addr) (nu cu : Nat) (l : List En) (s : List UInt8) (w : World) (h : TrV w au nu cu l) :
    Calls Try.prog 15 #[.agg #[.slice au nu cu], .string (str s)] w fun e w' => ∃ v c : Int, e = .returned (.tuple #[.int .i64 v, .int .i64 c]) ∧ ((c = 0 ∧ (s, v) ∈ l) ∨ c = 5) ∧ Below w.heap.size w w' := by
  obtain ⟨ns, rfl, h2, h3, h4, h5, rfl⟩ := h
  refine (treeFind_any ns au cu s w (by omega) h3 h2 (fun h => root_ord ns h)).mono ?_
  rintro e w' ⟨u, c, rfl, -, hg, hb⟩
  obtain ⟨x, ok, hf, hu, hc⟩ := hg h5
  obtain ⟨g1, g2, g3, g4⟩ := root_rise ns h5
  unfold smallQ at g1
  simp only [Bool.and_eq_true, decide_eq_true_eq] at g1
  obtain ⟨f1, f2⟩ := find_flat s hf (root_good ns g2 g1.2.1).1 g4
  cases ok with
  | false =>
    simp only [if_false, Bool.false_eq_true] at hu hc
    exact ⟨_, _, rfl, .inr hc, hb⟩
  | true =>
    simp only [if_true] at hu hc
    subst hu hc
    exact ⟨_, _, rfl, .inl ⟨rfl, f1 rfl⟩, hb⟩
/-- The first pair of a part that begins at a key of the tree. -/
theorem listR_head {l : List En} {A B : List UInt8} {v : Int} (hr : RiseE l) (hm : (A, v) ∈ l) (hab : lessS B A = false) : ∃ r, listR l A B = (A, v) :: r := by
  unfold listR
  induction l with
  | nil => cases hm
  | cons e l ih =>
    rw [RiseE, List.pairwise_cons] at hr
    rcases List.mem_cons.1 hm with rfl | hm
    · rw [List.filter_cons, if_pos (by rw [lessS_irr, hab]; rfl)]
      exact ⟨_, rfl⟩
    · have hlt : lessS e.1 A = true := hr.1 _ hm
      rw [List.filter_cons, if_neg (by rw [hlt]; simp)]
      exact ih hr.2 hm
theorem le3 (a b : List UInt8) : (lessS b a = true ∧ Op.bytesLess (str a).toList (str b).toList = false ∧ ((str a).toList == (str b).toList) = false ∧ ¬ (str a).toList = (str b).toList) ∨ (lessS b a = false ∧ Op.bytesLess (str a).toList (str b).toList = true) ∨ b = a := by
  by_cases h1 : lessS b a = true
  · left
    have h2 := lessS_asym _ _ h1
    have h3 : a ≠ b := fun e => by rw [e, lessS_irr] at h1; cases h1
    have h4 : ((str a).toList == (str b).toList) = false := by rw [str_ne]; simpa using h3
    exact ⟨h1, h2, h4, by simpa using h4⟩
  · right
    have h1 : lessS b a = false := by simpa using h1
    by_cases h2 : lessS a b = true
    · exact .inl ⟨h1, h2⟩
    · exact .inr (lessS_tot _ _ h1 (by simpa using h2))
theorem wpList_append_pr1 {ops : Array Oper} {rest : List Oper} {o : Oper} {a : Act} {Q : Exit → Act → World → Prop} {w : World} (hgd : o.guard = none) (s x : Operand)
    (ho : o.op = .call { callee := .builtin .append, args := #[s, x], argTypes := #[27, 27] }) (base : Nat) (v : Value) (l : List En) (hs : a.eval s = v) (hown : OwnPr w base v l)
    (y : En) (g : Nat) (hx : a.eval x = .slice (some ⟨g, 0, none⟩) 1 1) (h2 : Blk w g 57 (cellsE1 y)) (hl : l.length ≤ 1000) (hb : base ≤ w.heap.size)
    (h : ∀ v' w', OwnPr w' base v' (l ++ [y]) → Below base w w' → wpList Try.prog ops Q rest (a.put o.dst v') w') : wpList Try.prog ops Q (o :: rest) a w :=
  wpList_plain hgd fun K hK => wp_append_pr s x ho base v l hs hown y g hx h2 hl hb (fun v' w' h1 h3 _ => hK _ _ (h v' w' h1 ((Below.refl base w).grown h3 hb (fun b e => (hown.lt b e).1))))
theorem listR_snoc (l : List En) (A B : List UInt8) (j : Nat) (e : En) (h : l[j]? = some e) : listR (l.take (j + 1)) A B = listR (l.take j) A B ++ (if (!lessS e.1 A && !lessS B e.1) = true then [e] else []) := by
  unfold listR
  rw [take_snocI l j e h, List.filter_append]
  congr 1
  simp only [List.filter_cons, List.filter_nil]
set_option maxHeartbeats 16000000 in
theorem treeSpans_walk (l : List R) (ao : Option Addr) (cap : Nat) (ku aru bru : Int) (su : ByteArray) (kt art brt : Int) (st : ByteArray) (w : World) (hc : l.length ≤ cap) (hm : cap ≤ 9223372036854775807) (hR : Raws w ao l) (h1 : (Lit.int .i64 ku).wf = true) (h2 : (Lit.int .i64 aru).wf = true) (h3 : (Lit.int .i64 bru).wf = true) (h4 : su.size ≤ 9223372036854775807) (h5 : (Lit.int .i64 kt).wf = true) (h6 : (Lit.int .i64 art).wf = true) (h7 : (Lit.int .i64 brt).wf = true) (h8 : st.size ≤ 9223372036854775807) :
    Calls Try.prog 10 #[.slice ao l.length cap, .agg #[.int .i64 ku, .int .i64 aru, .int .i64 bru, .string su], .agg #[.int .i64 kt, .int .i64 art, .int .i64 brt, .string st]] w fun e w' => e = .returned (.bool true) ∧ Below w.heap.size w w' := by
  have CG : Hid (∀ W, Below w.heap.size w W → _) := Lib.hid (fun W h => grown_any l ao cap 40 40 rfl W hc hm (by omega) (hR.keep h))
  obtain ⟨m, hg⟩ : ∃ m, growL (l.take 40) = m := ⟨_, rfl⟩
  have HRI : Hid (RiseE m) := Lib.hid (by rw [← hg]; exact growL_rise _)
  have hlen : m.length ≤ 40 := by
    rw [← hg]
    have := growL_len (l.take 40)
    rw [List.length_take] at this; omega
  rw [hg] at CG
  clear hg
  have CPu : Hid (∀ W, _) := Lib.hid (fun W => picked_any aru 6 W (by decide) (by decide) (bounds_i64 h2).1 (bounds_i64 h2).2)
  have CQu : Hid (∀ W, _) := Lib.hid (fun W => picked_any bru 6 W (by decide) (by decide) (bounds_i64 h3).1 (bounds_i64 h3).2)
  obtain ⟨c5u, c6u, t1u, t2u, t3u, t4u, hcvu⟩ := key2_bytes (aru % 6) (bru % 6) (by omega) (by omega) (by omega) (by omega)
  obtain ⟨x5u, hx5⟩ : ∃ x, aru % 6 = x := ⟨_, rfl⟩
  obtain ⟨x6u, hx6⟩ : ∃ x, bru % 6 = x := ⟨_, rfl⟩
  rw [hx5] at t1u t3u CPu
  rw [hx6] at t2u t4u CQu
  rw [hx5, hx6] at hcvu
  obtain ⟨keyu, hky⟩ : ∃ k, key2 x5u x6u = k := ⟨_, rfl⟩
  rw [hky] at hcvu
  have HCVu := Lib.hid hcvu
  have HKLu : Hid (keyu.length ≤ 60) := Lib.hid (by rw [← hky]; simp [key2])
  clear hcvu hx5 hx6 hky
  have CPt : Hid (∀ W, _) := Lib.hid (fun W => picked_any art 6 W (by decide) (by decide) (bounds_i64 h6).1 (bounds_i64 h6).2)
  have CQt : Hid (∀ W, _) := Lib.hid (fun W => picked_any brt 6 W (by decide) (by decide) (bounds_i64 h7).1 (bounds_i64 h7).2)
  obtain ⟨c5t, c6t, t1t, t2t, t3t, t4t, hcvt⟩ := key2_bytes (art % 6) (brt % 6) (by omega) (by omega) (by omega) (by omega)
  obtain ⟨x5t, hx5⟩ : ∃ x, art % 6 = x := ⟨_, rfl⟩
  obtain ⟨x6t, hx6⟩ : ∃ x, brt % 6 = x := ⟨_, rfl⟩
  rw [hx5] at t1t t3t CPt
  rw [hx6] at t2t t4t CQt
  rw [hx5, hx6] at hcvt
  obtain ⟨keyt, hky⟩ : ∃ k, key2 x5t x6t = k := ⟨_, rfl⟩
  rw [hky] at hcvt
  have HCVt := Lib.hid hcvt
  have HKLt : Hid (keyt.length ≤ 60) := Lib.hid (by rw [← hky]; simp [key2])
  clear hcvt hx5 hx6 hky
  clear h1 h2 h3 h4 h5 h6 h7 h8
  have zbu : Blk _ _ _ [_, _, _, _] := Blk.new w #[.int .i64 ku, .int .i64 aru, .int .i64 bru, .string su] 53
  have hbu := (Below.refl w.heap.size w).alloc (Nat.le_refl _) (.cells #[.int .i64 ku, .int .i64 aru, .int .i64 bru, .string su] 53)
  obtain ⟨wu, hwu⟩ : ∃ W, w.alloc (.cells #[.int .i64 ku, .int .i64 aru, .int .i64 bru, .string su] 53) = W := ⟨_, rfl⟩
  rw [hwu] at zbu hbu
  obtain ⟨mu, hmu⟩ : ∃ x, w.heap.size = x := ⟨_, rfl⟩
  rw [hmu] at zbu
  have HWu := Lib.hid hwu
  have HMu := Lib.hid hmu
  have zbt : Blk _ _ _ [_, _, _, _] := Blk.new wu #[.int .i64 kt, .int .i64 art, .int .i64 brt, .string st] 53
  have hbt := (Below.refl wu.heap.size wu).alloc (Nat.le_refl _) (.cells #[.int .i64 kt, .int .i64 art, .int .i64 brt, .string st] 53)
  obtain ⟨wt, hwt⟩ : ∃ W, wu.alloc (.cells #[.int .i64 kt, .int .i64 art, .int .i64 brt, .string st] 53) = W := ⟨_, rfl⟩
  rw [hwt] at zbt hbt
  obtain ⟨mt, hmt⟩ : ∃ x, wu.heap.size = x := ⟨_, rfl⟩
  rw [hmt] at zbt
  have HWt := Lib.hid hwt
  have HMt := Lib.hid hmt
  have HB0 := Lib.hid (below_stepE hbu hbu.size hbt)
  have HZu := Lib.hid (zbu.call hbt)
  have HZt := Lib.hid zbt
  have hmt2 : mu + 1 = mt := by rw [← hmt, ← hwu, ← hmu]; simp
  clear zbu hbu hwu hmu zbt hbt hwt hmt
  generalize l.length = RN at *
  go_enter Try.func10, Try.ntmps10
  go_upto_region 1 with fail
  rw [HWu.out, HMu.out, HWt.out, hmt2]
  clear hmt2
  go_wp2_with fail
  refine (CG.out wt HB0.out).mono ?_
  rintro e w1 ⟨au, nu, cu, v, rfl, hT, hO, hB⟩
  clear CG
  have z7 : Blk _ _ _ [_] := Blk.new w1 #[.slice au nu cu] 24
  have hb7 := (Below.refl w1.heap.size w1).alloc (Nat.le_refl _) (.cells #[.slice au nu cu] 24)
  obtain ⟨wv, hw7⟩ : ∃ W, w1.alloc (.cells #[.slice au nu cu] 24) = W := ⟨_, rfl⟩
  rw [hw7] at z7 hb7
  obtain ⟨m7, hm7⟩ : ∃ x, w1.heap.size = x := ⟨_, rfl⟩
  rw [hm7] at z7
  have HW7 := Lib.hid hw7
  have HM7 := Lib.hid hm7
  have hZu := (HZu.out.call hB).call hb7
  have hZt := (HZt.out.call hB).call hb7
  have HCu : Hid (∀ W, Below wv.heap.size wv W → W.cell? ⟨mu, 1, none⟩ = some (.int .i64 aru) ∧ W.cell? ⟨mu, 2, none⟩ = some (.int .i64 bru)) := Lib.hid (fun W h => ⟨(hZu.call h).cell (j := 1) rfl, (hZu.call h).cell (j := 2) rfl⟩)
  have HCt0 : Hid (∀ W, Below wv.heap.size wv W → W.cell? ⟨mt, 1, none⟩ = some (.int .i64 art) ∧ W.cell? ⟨mt, 2, none⟩ = some (.int .i64 brt)) := Lib.hid (fun W h => ⟨(hZt.call h).cell (j := 1) rfl, (hZt.call h).cell (j := 2) rfl⟩)
  have HT := Lib.hid (hT.keep hb7)
  have HO := Lib.hid (hO.keep hb7)
  have hB1 := below_stepE HB0.out HB0.out.size hB
  have HB1 := Lib.hid (below_stepE hB1 hB1.size hb7)
  have HZ7 := Lib.hid z7
  clear hT hO hB z7 hb7 hw7 hm7 hZu hZt hB1 HZu HZt HWu HWt HMu HMt
  obtain ⟨av, cv, rfl, -⟩ := owns_shape HO.out
  go_upto_region 2 with fail
  rw [HW7.out, HM7.out]
  clear HW7 HM7
  refine wp_region_facts' 12 (by kernel_rfl) (by kernel_rfl) (KyF mu aru bru x5u x6u c5u c6u keyu) (fun W => Below wv.heap.size wv W) (fun W W' => Below W.heap.size W W') ?hCu ?hFu ?h0u ?hstepu ?hdoneu
  case hCu => exact fun W W' hc he => below_stepE hc hc.size he
  case hFu => exact kyF_keep
  case h0u => exact (Below.refl _ _).drew
  case hstepu =>
    intro i hi vs act W K ha' hc hd hu hK
    simp only [fillF, Act.put, List.take_succ_cons, List.take_zero, List.setIfInBounds_toArray, List.set_cons_zero, List.set_cons_succ] at ha'
    subst ha'
    clear hu
    rcases (show i = 0 ∨ i = 1 ∨ i = 2 ∨ i = 3 ∨ i = 4 ∨ i = 5 ∨ i = 6 ∨ i = 7 ∨ i = 8 ∨ i = 9 ∨ i = 10 ∨ i = 11 by omega) with rfl | rfl | rfl | rfl | rfl | rfl | rfl | rfl | rfl | rfl | rfl | rfl
    · refine wpOp_step rfl (fun K' hK' => ?_)
      go_simp
      exact hK' _ _ (hK _ _ rfl (Below.refl _ _))
    · have e0 : vs 0 = .pointer (some ⟨mu, 1, none⟩) := hd 0 (by kernel_rfl)
      simp only [e0] at hK ⊢
      obtain ⟨q1, q2⟩ := HCu.out W hc
      refine wpOp_step rfl (fun K' hK' => ?_)
      go_simp
      exact hK' _ _ (hK _ _ rfl (Below.refl _ _))
    · have e1 : vs 1 = .int .i64 aru := hd 1 (by kernel_rfl)
      simp only [e1] at hK ⊢
      refine wpOp_step rfl (fun K' hK' => ?_)
      go_simp
      refine (CPu.out W).mono ?_
      rintro e w' ⟨rfl, rfl⟩
      exact hK' _ _ (hK _ _ rfl (Below.refl _ _))
    · have e2 : vs 2 = .int .i64 x5u := hd 2 (by kernel_rfl)
      simp only [e2] at hK ⊢
      refine wpOp_step rfl (fun K' hK' => ?_)
      go_simp
      exact hK' _ _ (hK _ _ rfl (Below.refl _ _))
    · have e3 : vs 3 = .int .u8 x5u := hd 3 (by kernel_rfl)
      simp only [e3] at hK ⊢
      refine wpOp_step rfl (fun K' hK' => ?_)
      go_simp
      exact hK' _ _ (hK _ _ rfl (Below.refl _ _))
    · refine wpOp_step rfl (fun K' hK' => ?_)
      go_simp
      exact hK' _ _ (hK _ _ rfl (Below.refl _ _))
    · have e5 : vs 5 = .pointer (some ⟨mu, 2, none⟩) := hd 5 (by kernel_rfl)
      simp only [e5] at hK ⊢
      obtain ⟨q1, q2⟩ := HCu.out W hc
      refine wpOp_step rfl (fun K' hK' => ?_)
      go_simp
      exact hK' _ _ (hK _ _ rfl (Below.refl _ _))
    · have e6 : vs 6 = .int .i64 bru := hd 6 (by kernel_rfl)
      simp only [e6] at hK ⊢
      refine wpOp_step rfl (fun K' hK' => ?_)
      go_simp
      refine (CQu.out W).mono ?_
      rintro e w' ⟨rfl, rfl⟩
      exact hK' _ _ (hK _ _ rfl (Below.refl _ _))
    · have e7 : vs 7 = .int .i64 x6u := hd 7 (by kernel_rfl)
      simp only [e7] at hK ⊢
      refine wpOp_step rfl (fun K' hK' => ?_)
      go_simp
      exact hK' _ _ (hK _ _ rfl (Below.refl _ _))
    · have e8 : vs 8 = .int .u8 x6u := hd 8 (by kernel_rfl)
      simp only [e8] at hK ⊢
      refine wpOp_step rfl (fun K' hK' => ?_)
      go_simp
      exact hK' _ _ (hK _ _ rfl (Below.refl _ _))
    · have e4 : vs 4 = .int .u8 c5u := hd 4 (by kernel_rfl)
      have e9 : vs 9 = .int .u8 c6u := hd 9 (by kernel_rfl)
      simp only [e4, e9] at hK ⊢
      refine wpOp_step rfl (fun K' hK' => ?_)
      go_simp
      exact hK' _ _ (hK _ _ ⟨_, rfl, Blk.new W _ _⟩ ((Below.refl _ _).alloc (Nat.le_refl _) _))
    · obtain ⟨k10, e10, y10⟩ := hd 10 (by kernel_rfl)
      simp only [e10] at hK ⊢
      have hcv := HCVu.out W k10 y10
      refine wpOp_step rfl (fun K' hK' => ?_)
      go_simp
      exact hK' _ _ (hK _ _ rfl (Below.refl _ _))
  intro vs act w4 ha' hst hfs
  simp only [fillF, Act.put, List.take_succ_cons, List.take_zero, List.drop_succ_cons, List.drop_zero, List.setIfInBounds_toArray, List.set_cons_zero, List.set_cons_succ] at ha' ⊢
  subst ha'
  have f11 : vs 11 = .string (str keyu) := hfs 11 (by decide)
  simp only [Nat.zero_add, Nat.reduceAdd, f11]
  clear hfs f11
  have HCt : Hid (∀ W, Below w4.heap.size w4 W → W.cell? ⟨mt, 1, none⟩ = some (.int .i64 art) ∧ W.cell? ⟨mt, 2, none⟩ = some (.int .i64 brt)) := Lib.hid (fun W h => HCt0.out W (below_stepE hst hst.size h))
  replace HT := Lib.hid (HT.out.keep hst)
  replace HO := Lib.hid (HO.out.keep hst)
  replace HZ7 := Lib.hid (HZ7.out.call hst)
  replace HB1 := Lib.hid (below_stepE HB1.out HB1.out.size hst)
  clear hst HCt0 HCu
  go_upto_region 3 with fail
  refine wp_region_facts' 12 (by kernel_rfl) (by kernel_rfl) (KyF mt art brt x5t x6t c5t c6t keyt) (fun W => Below w4.heap.size w4 W) (fun W W' => Below W.heap.size W W') ?hCt ?hFt ?h0t ?hstept ?hdonet
  case hCt => exact fun W W' hc he => below_stepE hc hc.size he
  case hFt => exact kyF_keep
  case h0t => exact (Below.refl _ _).drew
  case hstept =>
    intro i hi vs act W K ha' hc hd hu hK
    simp only [fillF, Act.put, List.take_succ_cons, List.take_zero, List.setIfInBounds_toArray, List.set_cons_zero, List.set_cons_succ] at ha'
    subst ha'
    clear hu
    rcases (show i = 0 ∨ i = 1 ∨ i = 2 ∨ i = 3 ∨ i = 4 ∨ i = 5 ∨ i = 6 ∨ i = 7 ∨ i = 8 ∨ i = 9 ∨ i = 10 ∨ i = 11 by omega) with rfl | rfl | rfl | rfl | rfl | rfl | rfl | rfl | rfl | rfl | rfl | rfl
    · refine wpOp_step rfl (fun K' hK' => ?_)
      go_simp
      exact hK' _ _ (hK _ _ rfl (Below.refl _ _))
    · have e0 : vs 0 = .pointer (some ⟨mt, 1, none⟩) := hd 0 (by kernel_rfl)
      simp only [e0] at hK ⊢
      obtain ⟨q1, q2⟩ := HCt.out W hc
      refine wpOp_step rfl (fun K' hK' => ?_)
      go_simp
      exact hK' _ _ (hK _ _ rfl (Below.refl _ _))
    · have e1 : vs 1 = .int .i64 art := hd 1 (by kernel_rfl)
      simp only [e1] at hK ⊢
      refine wpOp_step rfl (fun K' hK' => ?_)
      go_simp
      refine (CPt.out W).mono ?_
      rintro e w' ⟨rfl, rfl⟩
      exact hK' _ _ (hK _ _ rfl (Below.refl _ _))
    · have e2 : vs 2 = .int .i64 x5t := hd 2 (by kernel_rfl)
      simp only [e2] at hK ⊢
      refine wpOp_step rfl (fun K' hK' => ?_)
      go_simp
      exact hK' _ _ (hK _ _ rfl (Below.refl _ _))
    · have e3 : vs 3 = .int .u8 x5t := hd 3 (by kernel_rfl)
      simp only [e3] at hK ⊢
      refine wpOp_step rfl (fun K' hK' => ?_)
      go_simp
      exact hK' _ _ (hK _ _ rfl (Below.refl _ _))
    · refine wpOp_step rfl (fun K' hK' => ?_)
      go_simp
      exact hK' _ _ (hK _ _ rfl (Below.refl _ _))
    · have e5 : vs 5 = .pointer (some ⟨mt, 2, none⟩) := hd 5 (by kernel_rfl)
      simp only [e5] at hK ⊢
      obtain ⟨q1, q2⟩ := HCt.out W hc
      refine wpOp_step rfl (fun K' hK' => ?_)
      go_simp
      exact hK' _ _ (hK _ _ rfl (Below.refl _ _))
    · have e6 : vs 6 = .int .i64 brt := hd 6 (by kernel_rfl)
      simp only [e6] at hK ⊢
      refine wpOp_step rfl (fun K' hK' => ?_)
      go_simp
      refine (CQt.out W).mono ?_
      rintro e w' ⟨rfl, rfl⟩
      exact hK' _ _ (hK _ _ rfl (Below.refl _ _))
    · have e7 : vs 7 = .int .i64 x6t := hd 7 (by kernel_rfl)
      simp only [e7] at hK ⊢
      refine wpOp_step rfl (fun K' hK' => ?_)
      go_simp
      exact hK' _ _ (hK _ _ rfl (Below.refl _ _))
    · have e8 : vs 8 = .int .u8 x6t := hd 8 (by kernel_rfl)
      simp only [e8] at hK ⊢
      refine wpOp_step rfl (fun K' hK' => ?_)
      go_simp
      exact hK' _ _ (hK _ _ rfl (Below.refl _ _))
    · have e4 : vs 4 = .int .u8 c5t := hd 4 (by kernel_rfl)
      have e9 : vs 9 = .int .u8 c6t := hd 9 (by kernel_rfl)
      simp only [e4, e9] at hK ⊢
      refine wpOp_step rfl (fun K' hK' => ?_)
      go_simp
      exact hK' _ _ (hK _ _ ⟨_, rfl, Blk.new W _ _⟩ ((Below.refl _ _).alloc (Nat.le_refl _) _))
    · obtain ⟨k10, e10, y10⟩ := hd 10 (by kernel_rfl)
      simp only [e10] at hK ⊢
      have hcv := HCVt.out W k10 y10
      refine wpOp_step rfl (fun K' hK' => ?_)
      go_simp
      exact hK' _ _ (hK _ _ rfl (Below.refl _ _))
  intro vs act w5 ha' hst hfs
  simp only [fillF, Act.put, List.take_succ_cons, List.take_zero, List.drop_succ_cons, List.drop_zero, List.setIfInBounds_toArray, List.set_cons_zero, List.set_cons_succ] at ha' ⊢
  subst ha'
  have f11 : vs 11 = .string (str keyt) := hfs 11 (by decide)
  simp only [Nat.zero_add, Nat.reduceAdd, f11]
  clear hfs f11
  replace HT := Lib.hid (HT.out.keep hst)
  replace HO := Lib.hid (HO.out.keep hst)
  replace HZ7 := Lib.hid (HZ7.out.call hst)
  replace HB1 := Lib.hid (below_stepE HB1.out HB1.out.size hst)
  clear hst HCt
  go_upto_region 4 with fail
  have q7 := HZ7.out.cell (j := 0) rfl
  have c2 := treeList_tr au nu cu m keyu keyt w5 HT.out
  go_wp2_with fail
  refine c2.mono ?_
  rintro e w6 ⟨u, rfl, ho, hb⟩
  clear c2 q7
  obtain ⟨L, hL⟩ : ∃ L, listR m keyu keyt = L := ⟨_, rfl⟩
  rw [hL] at ho
  have HL := Lib.hid hL
  obtain ⟨a6, k6, rfl, -⟩ := owns_shape ho
  have HG := Lib.hid ho
  replace HT := Lib.hid (HT.out.keep hb)
  replace HO := Lib.hid (HO.out.keep hb)
  replace HZ7 := Lib.hid (HZ7.out.call hb)
  replace HB1 := Lib.hid (below_stepE HB1.out HB1.out.size hb)
  clear ho hb hL
  obtain ⟨M, hM⟩ : ∃ M, m.length = M := ⟨_, rfl⟩
  have HM := Lib.hid hM
  rw [hM] at hlen ⊢
  have HCL : Hid (∀ j, j < M → ∃ k x b, m[j]? = some (k, x) ∧ av = some ⟨b, 0, none⟩ ∧ b < w6.heap.size ∧ w6.cell? ⟨b, j * 2, none⟩ = some (.string (str k)) ∧ w6.cell? ⟨b, j * 2 + 1, none⟩ = some (.int .i64 x)) := Lib.hid (fun j hj => by
    have h1 : m[j]? = some (m[j]'(by omega)) := List.getElem?_eq_getElem _
    obtain ⟨b, h2, h3, -, h4, h5⟩ := HO.out.cell h1
    exact ⟨_, _, b, h1, h2, h3, h4, h5⟩)
  clear hM
  go_wp2_with fail
  go_loopw [14, 58] (fun v14 ix wr => ∃ (j : Nat), j ≤ M ∧ ix = .int .i64 j ∧ Hid (Below w6.heap.size w6 wr ∧ OwnPr wr w6.heap.size v14 (listR (m.take j) keyu keyt))) (fun _ ix _ => M - (intOf ix).toNat)
  case atStart => exact ⟨0, Nat.zero_le _, rfl, Lib.hid ⟨Below.refl _ _, OwnPr.nil _ _⟩⟩
  case round =>
    obtain ⟨j, hj, rfl, hS⟩ := hrel
    by_cases hlt : j < M
    · have iI : (j : Int) < (M : Int) := by omega
      have i0 : (0 : Int) ≤ (j : Int) := by omega
      obtain ⟨kj, xj, b, hmj, rfl, hbl, x0, x1⟩ := HCL.out j hlt
      have d0 := (hS.out.1.cell (p := ⟨b, _, none⟩) hbl).trans x0
      have d1 := (hS.out.1.cell (p := ⟨b, _, none⟩) hbl).trans x1
      have z16 : Blk _ _ _ [_, _] := Blk.new wr #[.string (str kj), .int .i64 xj] 57
      have hb16 := (Below.refl wr.heap.size wr).alloc (Nat.le_refl _) (.cells #[.string (str kj), .int .i64 xj] 57)
      obtain ⟨wa, hwa⟩ : ∃ W, wr.alloc (.cells #[.string (str kj), .int .i64 xj] 57) = W := ⟨_, rfl⟩
      rw [hwa] at z16 hb16
      obtain ⟨m16, hm16⟩ : ∃ x, wr.heap.size = x := ⟨_, rfl⟩
      rw [hm16] at z16
      have HWA := Lib.hid hwa
      have HM16 := Lib.hid hm16
      have q0 := z16.cell (j := 0) rfl
      have q1 := z16.cell (j := 1) rfl
      have HS2 := Lib.hid (And.intro (below_stepE hS.out.1 hS.out.1.size hb16) (hS.out.2.keep hb16))
      have hsn := listR_snoc m keyu keyt j (kj, xj) hmj
      simp only at hsn
      have HSN := Lib.hid hsn
      clear x0 x1 z16 hb16 hwa hm16 hmj hsn hS
      go_upto_region 9 with fail
      rw [HWA.out, HM16.out]
      clear d0 d1 HWA HM16
      rcases le3 keyu kj with ⟨r1, g1, g2, g3⟩ | ⟨r1, g1⟩ | rfl
      · have r1 := Lib.hid r1
        have HN : Hid (Below w6.heap.size w6 wa ∧ OwnPr wa w6.heap.size u14 (listR (m.take (j + 1)) keyu keyt)) := Lib.hid (by rw [HSN.out, r1.out]; simp; exact HS2.out)
        go_wp2_with fail
        go_roundw
        case rel => exact ⟨j + 1, by omega, by go_num, HN⟩
        case measure => simp [intOf]; omega
      · have r1 := Lib.hid r1
        rcases le3 kj keyt with ⟨r2, h1, h2, h3⟩ | ⟨r2, h1⟩ | rfl
        · have r2 := Lib.hid r2
          have HN : Hid (Below w6.heap.size w6 wa ∧ OwnPr wa w6.heap.size u14 (listR (m.take (j + 1)) keyu keyt)) := Lib.hid (by (first | rw [HSN.out, r1.out, r2.out] | rw [HSN.out, r1.out]); simp; exact HS2.out)
          go_wp2_with fail
          go_roundw
          case rel => exact ⟨j + 1, by omega, by go_num, HN⟩
          case measure => simp [intOf]; omega
        · have r2 := Lib.hid r2
          go_upto_region 10 with fail
          have HP9 : Hid (Blk (wa.alloc (.cells #[.string (str kj), .int .i64 xj] 57)) wa.heap.size 57 (cellsE1 (kj, xj)) ∧ OwnPr (wa.alloc (.cells #[.string (str kj), .int .i64 xj] 57)) w6.heap.size u14 (listR (m.take j) keyu keyt)) := Lib.hid ⟨Blk.new wa #[.string (str kj), .int .i64 xj] _, HS2.out.2.keep ((Below.refl _ wa).alloc (Nat.le_refl _) _)⟩
          have hl9 : (listR (m.take j) keyu keyt).length ≤ 1000 := by
            have h1 : (listR (m.take j) keyu keyt).length ≤ (m.take j).length := List.length_filter_le _ _
            rw [List.length_take] at h1
            omega
          have hb9 : w6.heap.size ≤ (wa.alloc (.cells #[.string (str kj), .int .i64 xj] 57)).heap.size := by have := HS2.out.1.size; simp; omega
          have HL9 := Lib.hid (And.intro hl9 hb9)
          clear hl9 hb9
          go_upto_region 11 with (at_builtin; refine wpList_append_pr1 rfl (.tmp 72) (.tmp 74) rfl w6.heap.size _ _ rfl HP9.out.2 (kj, xj) wa.heap.size rfl HP9.out.1 HL9.out.1 HL9.out.2 ?_; intro v9 w9 ho9 hb9)
          have HN : Hid (Below w6.heap.size w6 w9 ∧ OwnPr w9 w6.heap.size v9 (listR (m.take (j + 1)) keyu keyt)) := Lib.hid ⟨(HS2.out.1.alloc HS2.out.1.size _).trans hb9, by (first | rw [HSN.out, r1.out, r2.out] | rw [HSN.out, r1.out]); rw [if_pos (by decide)]; exact ho9⟩
          clear ho9 hb9
          go_wp2_with fail
          go_roundw
          case rel => exact ⟨j + 1, by omega, by go_num, HN⟩
          case measure => simp [intOf]; omega
        · have r2 := Lib.hid (lessS_irr keyt)
          go_upto_region 10 with fail
          have HP9 : Hid (Blk (wa.alloc (.cells #[.string (str keyt), .int .i64 xj] 57)) wa.heap.size 57 (cellsE1 (keyt, xj)) ∧ OwnPr (wa.alloc (.cells #[.string (str keyt), .int .i64 xj] 57)) w6.heap.size u14 (listR (m.take j) keyu keyt)) := Lib.hid ⟨Blk.new wa #[.string (str keyt), .int .i64 xj] _, HS2.out.2.keep ((Below.refl _ wa).alloc (Nat.le_refl _) _)⟩
          have hl9 : (listR (m.take j) keyu keyt).length ≤ 1000 := by
            have h1 : (listR (m.take j) keyu keyt).length ≤ (m.take j).length := List.length_filter_le _ _
            rw [List.length_take] at h1
            omega
          have hb9 : w6.heap.size ≤ (wa.alloc (.cells #[.string (str keyt), .int .i64 xj] 57)).heap.size := by have := HS2.out.1.size; simp; omega
          have HL9 := Lib.hid (And.intro hl9 hb9)
          clear hl9 hb9
          go_upto_region 11 with (at_builtin; refine wpList_append_pr1 rfl (.tmp 72) (.tmp 74) rfl w6.heap.size _ _ rfl HP9.out.2 (keyt, xj) wa.heap.size rfl HP9.out.1 HL9.out.1 HL9.out.2 ?_; intro v9 w9 ho9 hb9)
          have HN : Hid (Below w6.heap.size w6 w9 ∧ OwnPr w9 w6.heap.size v9 (listR (m.take (j + 1)) keyu keyt)) := Lib.hid ⟨(HS2.out.1.alloc HS2.out.1.size _).trans hb9, by (first | rw [HSN.out, r1.out, r2.out] | rw [HSN.out, r1.out]); rw [if_pos (by decide)]; exact ho9⟩
          clear ho9 hb9
          go_wp2_with fail
          go_roundw
          case rel => exact ⟨j + 1, by omega, by go_num, HN⟩
          case measure => simp [intOf]; omega
      · have r1 := Lib.hid (lessS_irr kj)
        rcases le3 kj keyt with ⟨r2, h1, h2, h3⟩ | ⟨r2, h1⟩ | rfl
        · have r2 := Lib.hid r2
          have HN : Hid (Below w6.heap.size w6 wa ∧ OwnPr wa w6.heap.size u14 (listR (m.take (j + 1)) kj keyt)) := Lib.hid (by (first | rw [HSN.out, r1.out, r2.out] | rw [HSN.out, r1.out]); simp; exact HS2.out)
          go_wp2_with fail
          go_roundw
          case rel => exact ⟨j + 1, by omega, by go_num, HN⟩
          case measure => simp [intOf]; omega
        · have r2 := Lib.hid r2
          go_upto_region 10 with fail
          have HP9 : Hid (Blk (wa.alloc (.cells #[.string (str kj), .int .i64 xj] 57)) wa.heap.size 57 (cellsE1 (kj, xj)) ∧ OwnPr (wa.alloc (.cells #[.string (str kj), .int .i64 xj] 57)) w6.heap.size u14 (listR (m.take j) kj keyt)) := Lib.hid ⟨Blk.new wa #[.string (str kj), .int .i64 xj] _, HS2.out.2.keep ((Below.refl _ wa).alloc (Nat.le_refl _) _)⟩
          have hl9 : (listR (m.take j) kj keyt).length ≤ 1000 := by
            have h1 : (listR (m.take j) kj keyt).length ≤ (m.take j).length := List.length_filter_le _ _
            rw [List.length_take] at h1
            omega
          have hb9 : w6.heap.size ≤ (wa.alloc (.cells #[.string (str kj), .int .i64 xj] 57)).heap.size := by have := HS2.out.1.size; simp; omega
          have HL9 := Lib.hid (And.intro hl9 hb9)
          clear hl9 hb9
          go_upto_region 11 with (at_builtin; refine wpList_append_pr1 rfl (.tmp 72) (.tmp 74) rfl w6.heap.size _ _ rfl HP9.out.2 (kj, xj) wa.heap.size rfl HP9.out.1 HL9.out.1 HL9.out.2 ?_; intro v9 w9 ho9 hb9)
          have HN : Hid (Below w6.heap.size w6 w9 ∧ OwnPr w9 w6.heap.size v9 (listR (m.take (j + 1)) kj keyt)) := Lib.hid ⟨(HS2.out.1.alloc HS2.out.1.size _).trans hb9, by (first | rw [HSN.out, r1.out, r2.out] | rw [HSN.out, r1.out]); rw [if_pos (by decide)]; exact ho9⟩
          clear ho9 hb9
          go_wp2_with fail
          go_roundw
          case rel => exact ⟨j + 1, by omega, by go_num, HN⟩
          case measure => simp [intOf]; omega
        · have r2 := Lib.hid (lessS_irr keyt)
          go_upto_region 10 with fail
          have HP9 : Hid (Blk (wa.alloc (.cells #[.string (str keyt), .int .i64 xj] 57)) wa.heap.size 57 (cellsE1 (keyt, xj)) ∧ OwnPr (wa.alloc (.cells #[.string (str keyt), .int .i64 xj] 57)) w6.heap.size u14 (listR (m.take j) keyt keyt)) := Lib.hid ⟨Blk.new wa #[.string (str keyt), .int .i64 xj] _, HS2.out.2.keep ((Below.refl _ wa).alloc (Nat.le_refl _) _)⟩
          have hl9 : (listR (m.take j) keyt keyt).length ≤ 1000 := by
            have h1 : (listR (m.take j) keyt keyt).length ≤ (m.take j).length := List.length_filter_le _ _
            rw [List.length_take] at h1
            omega
          have hb9 : w6.heap.size ≤ (wa.alloc (.cells #[.string (str keyt), .int .i64 xj] 57)).heap.size := by have := HS2.out.1.size; simp; omega
          have HL9 := Lib.hid (And.intro hl9 hb9)
          clear hl9 hb9
          go_upto_region 11 with (at_builtin; refine wpList_append_pr1 rfl (.tmp 72) (.tmp 74) rfl w6.heap.size _ _ rfl HP9.out.2 (keyt, xj) wa.heap.size rfl HP9.out.1 HL9.out.1 HL9.out.2 ?_; intro v9 w9 ho9 hb9)
          have HN : Hid (Below w6.heap.size w6 w9 ∧ OwnPr w9 w6.heap.size v9 (listR (m.take (j + 1)) keyt keyt)) := Lib.hid ⟨(HS2.out.1.alloc HS2.out.1.size _).trans hb9, by (first | rw [HSN.out, r1.out, r2.out] | rw [HSN.out, r1.out]); rw [if_pos (by decide)]; exact ho9⟩
          clear ho9 hb9
          go_wp2_with fail
          go_roundw
          case rel => exact ⟨j + 1, by omega, by go_num, HN⟩
          case measure => simp [intOf]; omega
    · have iI : ¬ (j : Int) < (M : Int) := by omega
      obtain rfl : j = M := by omega
      have hq : m.take j = m := List.take_of_length_le (by rw [HM.out]; exact Nat.le_refl _)
      rw [hq, HL.out] at hS
      have HTr := Lib.hid (HT.out.keep hS.out.1)
      have HGr := Lib.hid (HG.out.keep hS.out.1)
      have HIr := Lib.hid hS.out.2
      have hB1 := HB1.out
      have HBr := Lib.hid (below_stepE hB1 hB1.size hS.out.1)
      have q7 := (HZ7.out.call hS.out.1).cell (j := 0) rfl
      obtain ⟨a14, k14, hv14, -⟩ := owns_shape hS.out.2
      subst hv14
      have c3 := treeFind_tr2 au nu cu m keyu wr HTr.out
      obtain ⟨LN, hLN⟩ : ∃ x, L.length = x := ⟨_, rfl⟩
      rw [hLN] at HGr HIr ⊢
      have HLN := Lib.hid hLN
      have HLl : Hid (L.length ≤ 1000) := Lib.hid (by
        rw [← HL.out]
        have h1 : (listR m keyu keyt).length ≤ m.length := List.length_filter_le _ _
        rw [HM.out] at h1
        omega)
      clear hq hS hB1 hLN HCL HG HZ7 HB1 HO CPu CQu CPt CQt HCVu HCVt HB0
      go_wp2_with fail
      refine c3.mono ?_
      rintro e w7 ⟨n, c, rfl, hfc, hb⟩
      have HG7 := Lib.hid (HGr.out.keep hb)
      have HI7 := Lib.hid (HIr.out.keep hb)
      have HB7 := Lib.hid (below_stepE HBr.out HBr.out.size hb)
      have HSP : Hid (∀ W, Below w7.heap.size w7 W → Calls Try.prog 26 #[.slice a6 LN k6, .slice a14 LN k14] W fun e w' => e = .returned (.bool true) ∧ ∃ q, w' = W.drewN q) := Lib.hid (fun W h => by
        have g1 := HG7.out
        have g2 := HI7.out
        rw [← HLN.out] at g1 g2 ⊢
        exact keepPairs_any L a6 a14 k6 k14 _ _ W HLl.out (g1.keep h) (g2.keep h))
      clear c3 q7 hb HGr HIr HBr
      rcases hfc with ⟨rfl, hmem⟩ | rfl
      · have HMEM := Lib.hid hmem
        clear hmem
        rcases le3 keyu keyt with ⟨r1, g1, g2, g3⟩ | ⟨r1, g1⟩ | hk
        · have r1 := Lib.hid r1
          go_upto_region 15 with fail
          go_wp2_with fail
          refine (treeTells_any _).mono ?_
          rintro e w8 ⟨rfl, b8⟩
          go_wp2_with fail
          refine (HSP.out _ b8).mono ?_
          rintro e w9 ⟨rfl, q, rfl⟩
          go_wp2_with fail
          go_ret
          exact ⟨rfl, below_dqT (below_stepE HB7.out HB7.out.size b8) q⟩
        · obtain ⟨r, hr⟩ := listR_head HRI.out HMEM.out r1
          have r1 := Lib.hid r1
          rw [HL.out] at hr
          obtain ⟨b6, hb6, -, -, x0, x1⟩ := HG7.out.cell (j := 0) (e := (keyu, n)) (by rw [hr]; rfl)
          subst hb6
          have hLp : (0 : Int) < (LN : Int) := by rw [← HLN.out, hr, List.length_cons]; omega
          have hLz : ¬ (LN : Int) = 0 := by omega
          have hLn : ¬ LN = 0 := by omega
          simp only [Nat.zero_mul, Nat.zero_add] at x0 x1
          clear hr
          go_upto_region 15 with fail
          go_wp2_with fail
          refine (treeTells_any _).mono ?_
          rintro e w8 ⟨rfl, b8⟩
          go_wp2_with fail
          refine (HSP.out _ b8).mono ?_
          rintro e w9 ⟨rfl, q, rfl⟩
          go_wp2_with fail
          go_ret
          exact ⟨rfl, below_dqT (below_stepE HB7.out HB7.out.size b8) q⟩
        · have r1 : lessS keyt keyu = false := by rw [hk]; exact lessS_irr _
          obtain ⟨r, hr⟩ := listR_head HRI.out HMEM.out r1
          rw [HL.out] at hr
          obtain ⟨b6, hb6, -, -, x0, x1⟩ := HG7.out.cell (j := 0) (e := (keyu, n)) (by rw [hr]; rfl)
          subst hb6
          have hLp : (0 : Int) < (LN : Int) := by rw [← HLN.out, hr, List.length_cons]; omega
          have hLz : ¬ (LN : Int) = 0 := by omega
          have hLn : ¬ LN = 0 := by omega
          simp only [Nat.zero_mul, Nat.zero_add] at x0 x1
          clear hr r1
          subst hk
          go_upto_region 15 with fail
          go_wp2_with fail
          refine (treeTells_any _).mono ?_
          rintro e w8 ⟨rfl, b8⟩
          go_wp2_with fail
          refine (HSP.out _ b8).mono ?_
          rintro e w9 ⟨rfl, q, rfl⟩
          go_wp2_with fail
          go_ret
          exact ⟨rfl, below_dqT (below_stepE HB7.out HB7.out.size b8) q⟩
      · go_upto_region 15 with fail
        go_wp2_with fail
        refine (treeTells_any _).mono ?_
        rintro e w8 ⟨rfl, b8⟩
        go_wp2_with fail
        refine (HSP.out _ b8).mono ?_
        rintro e w9 ⟨rfl, q, rfl⟩
        go_wp2_with fail
        go_ret
        exact ⟨rfl, below_dqT (below_stepE HB7.out HB7.out.size b8) q⟩
end Go.Proofs.Ytopgakdgifmecaa
