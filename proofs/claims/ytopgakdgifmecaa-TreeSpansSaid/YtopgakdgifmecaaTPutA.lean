/-
  CONTRACT of package tree's put (a node's), case by case.
  CONDITIONS: each theorem's own hypotheses.
-/
import Derived.Test.YtopgakdgifmecaaGTPart
import Derived.Test.YtopgakdgifmecaaTPlace
import Derived.Test.YtopgakdgifmecaaTLay
namespace Go.Proofs.Ytopgakdgifmecaa
open Go.RowKit
set_option linter.unusedVariables false
set_option maxRecDepth 100000

def ThF (p ge ix E ce : Nat) (sk : List UInt8) (y : Int) : Nat → Value → World → Prop
  | 0, v, _ => v = .pointer (some ⟨p, 0, none⟩)
  | 1, v, _ => v = .pointer (some ⟨p, 0, none⟩)
  | 2, v, _ => v = .pointer (some ⟨p, 0, none⟩)
  | 3, v, _ => v = .slice (some ⟨ge, 0, none⟩) E ce
  | 4, v, _ => v = .int .i64 (ix : Int)
  | 5, v, _ => v = .agg #[.string (str sk), .int .i64 y]
  | 6, v, _ => v = .pointer (some ⟨ge, ix * 2, none⟩)
  | _, _, _ => True
def KdF (p gk ix C ck q : Nat) (sk : List UInt8) (y : Int) : Nat → Value → World → Prop
  | 0, v, _ => v = .pointer (some ⟨p, 0, none⟩)
  | 1, v, _ => v = .pointer (some ⟨p, 0, none⟩)
  | 2, v, _ => v = .pointer (some ⟨p, 1, none⟩)
  | 3, v, _ => v = .slice (some ⟨gk, 0, none⟩) C ck
  | 4, v, _ => v = .int .i64 (ix : Int)
  | 5, v, _ => v = .pointer (some ⟨gk, ix, none⟩)
  | 6, v, _ => v = ptrV q
  | 7, v, _ => v = .agg #[.string (str sk), .int .i64 y]
  | _, _, _ => True
theorem rise_mono {es : List En} (hr : RiseE es) (s : List UInt8) (a b : Nat) (ea eb : En) (hab : a ≤ b) (ha : es[a]? = some ea) (hb : es[b]? = some eb) (h : lessS eb.1 s = true) : lessS ea.1 s = true := by
  by_cases he : a = b
  · subst he; rw [ha] at hb; cases hb; exact h
  · obtain ⟨h1, e1⟩ := List.getElem?_eq_some_iff.1 ha
    obtain ⟨h2, e2⟩ := List.getElem?_eq_some_iff.1 hb
    have := List.pairwise_iff_getElem.1 hr a b h1 h2 (by omega)
    rw [e1, e2] at this
    exact lessS_trans _ _ _ this h
theorem cellsE_set : ∀ (l : List En) (j : Nat) (x : En), ((cellsE l).set (j * 2) (.string (str x.1))).set (j * 2 + 1) (.int .i64 x.2) = cellsE (l.set j x)
  | [], j, x => by simp [cellsE]
  | e :: l, 0, x => rfl
  | e :: l, j + 1, x => by
    have ih := cellsE_set l j x
    show ((_ :: _ :: cellsE l).set ((j + 1) * 2) _).set ((j + 1) * 2 + 1) _ = _ :: _ :: cellsE (l.set j x)
    rw [← ih, show (j + 1) * 2 = j * 2 + 1 + 1 by omega]
    rfl
/-- An entry of a row is written. -/
theorem OwnE.put {w : World} {base g n cap : Nat} {l : List En} (hn : l.length = n) (h : OwnE w base (.slice (some ⟨g, 0, none⟩) n cap) l) (j : Nat) (x : En) : OwnE ((w.setCell ⟨g, j * 2, none⟩ (.string (str x.1))).setCell ⟨g, j * 2 + 1, none⟩ (.int .i64 x.2)) base (.slice (some ⟨g, 0, none⟩) n cap) (l.set j x) := by
  subst hn
  unfold OwnE at h ⊢
  rw [List.length_set, ← cellsE_set]
  exact ((h.stored (j * 2) (.string (str x.1))).1.stored (j * 2 + 1) (.int .i64 x.2)).1
theorem OwnE.free {w : World} {base g n cap : Nat} {l : List En} (h : OwnE w base (.slice (some ⟨g, 0, none⟩) n cap) l) (j : Nat) : w.frozen? ⟨g, j, none⟩ = false := by
  rcases h.2 with ⟨h', _⟩ | ⟨g', cp, cur, hv, hB, hh, _⟩
  · cases h'
  · simp only [Value.slice.injEq, Option.some.injEq, Addr.mk.injEq] at hv
    obtain ⟨⟨rfl, -⟩, -⟩ := hv
    exact frozen_of_row w g j cur _ hh
def PutPost (t' : Tr) (p : Nat) (F : List Nat) (w : World) (e : Ending) (w' : World) : Prop := e = .returned (.tuple #[]) ∧ ∃ F', NdT w' t' p F' ∧ F'.Nodup ∧ (∀ b ∈ F', b ∈ F ∨ w.heap.size ≤ b) ∧ Chg F w w'
set_option maxHeartbeats 16000000 in
theorem put_there (sk : List UInt8) (y : Int) (es : List En) (ks : List Tr) (p : Nat) (F : List Nat) (w : World) (hfd : plF es sk = true) (hl : es.length ≤ 1000) (hre : RiseE es) (h : NdT w (.mk es ks) p F) (hnd : F.Nodup) :
    Calls Try.prog 49 #[.pointer (some ⟨p, 0, none⟩), .agg #[.string (str sk), .int .i64 y]] w (PutPost (.mk (es.set (plI es sk) (sk, y)) ks) p F w) := by
  simp only [NdT] at h
  obtain ⟨vE, vK, ps, Fk, hB, hE, hK, hL, rfl⟩ := h
  obtain ⟨ae, ce, rfl, hce, hce2, -, -⟩ := owns_shape hE
  have hb0 := (Below.refl w.heap.size w).alloc (Nat.le_refl _) (.cells #[.string (str sk), .int .i64 y] 73)
  have z0 : Blk _ _ _ [_, _] := Blk.new w #[.string (str sk), .int .i64 y] 73
  obtain ⟨w0, hw0⟩ : ∃ W, w.alloc (.cells #[.string (str sk), .int .i64 y] 73) = W := ⟨_, rfl⟩
  obtain ⟨m5, hm5⟩ : ∃ m, w.heap.size = m := ⟨_, rfl⟩
  rw [hw0] at hb0 z0
  have cP := place_any es ae ce p vK sk w0 (hB.keep hb0 hB.lt) hl (hE.keep hb0) (rise_mono hre sk)
  rw [hm5] at z0
  have k0 := z0.cell (j := 0) rfl
  obtain ⟨ix, hix⟩ : ∃ i, plI es sk = i := ⟨_, rfl⟩
  have hpl := is_place es sk hre
  rw [hix, hfd] at hpl
  rw [hix]
  obtain ⟨e0, he0⟩ : ∃ e, es[ix]? = some e := by
    have := hpl.fd
    cases hq : es[ix]? with
    | none => rw [hq] at this; cases this
    | some e => exact ⟨e, rfl⟩
  have hil : ix < es.length := (List.getElem?_eq_some_iff.1 he0).1
  obtain ⟨ge, rfl, hgl, -, -, -⟩ := hE.cell he0
  have HB := Lib.hid hB
  have HE := Lib.hid hE
  have HK := Lib.hid hK
  have HL := Lib.hid hL
  have HND := Lib.hid hnd
  have HB0 := Lib.hid hb0
  have HZ0 := Lib.hid z0
  have HW0 := Lib.hid hw0
  have HIX := Lib.hid (And.intro hix (And.intro hfd hil))
  have HM5 := Lib.hid hm5
  have iI : (ix : Int) < (es.length : Int) := by omega
  obtain ⟨E, hEE⟩ : ∃ E, es.length = E := ⟨_, rfl⟩
  have HEE := Lib.hid hEE
  rw [hEE] at iI
  clear hB hE hK hL hnd hb0 z0 hw0 hix hfd hil hpl he0 hm5 hEE hl hre hce hce2
  go_enter Try.func49, Try.ntmps49
  go_upto_region 1 with fail
  rw [HW0.out, HM5.out]
  go_wp2_with fail
  refine cP.mono ?_
  rintro e w1 ⟨i1, f1, rfl, hp1, hb1⟩
  obtain ⟨e1, e2⟩ := place_is hp1
  rw [HIX.out.1] at e1
  rw [HIX.out.2.1] at e2
  subst i1
  subst f1
  have HB1 := Lib.hid hb1
  clear cP k0 hp1 hb1
  go_upto_region 5 with fail
  have HC : Hid (∀ W, W = { w1 with drawn := w1.drawn + 1 } → W.cell? ⟨p, 0, none⟩ = some (.slice (some ⟨ge, 0, none⟩) E ce) ∧ W.cell? ⟨m5, 0, none⟩ = some (.string (str sk)) ∧ W.cell? ⟨m5, 1, none⟩ = some (.int .i64 y)) := Lib.hid (fun W hW => by
    have hb : Below w0.heap.size w0 W := by rw [hW]; exact Below.drew HB1.out
    have hB := HB.out.keep (HB0.out.trans (hb.mono HB0.out.size)) HB.out.lt
    have h3 := HZ0.out.call hb
    rw [HEE.out] at hB
    exact ⟨hB.cell (j := 0) rfl, h3.cell (j := 0) rfl, h3.cell (j := 1) rfl⟩)
  refine wp_region_chain 7 [] (by kernel_rfl) (by kernel_rfl) (by kernel_rfl) (ThF p ge ix E ce sk y) (fun _ W => W = { w1 with drawn := w1.drawn + 1 }) (fun _ _ _ => True) ?hF ?h0 ?hstep ?hcall ?hdone
  case hF =>
    intro s i hs; simp at hs
  case h0 => exact rfl
  case hstep =>
    intro j hj hni s vs act W K ha' hst hd hu hK
    simp only [fillF, Act.put, List.take_succ_cons, List.take_zero, List.setIfInBounds_toArray, List.set_cons_zero, List.set_cons_succ] at ha'
    subst ha'
    clear hu
    obtain ⟨q0, q1, q2⟩ := HC.out W hst
    clear hst
    rcases (show j = 0 ∨ j = 1 ∨ j = 2 ∨ j = 3 ∨ j = 4 ∨ j = 5 ∨ j = 6 by omega) with rfl | rfl | rfl | rfl | rfl | rfl | rfl
    · refine wpOp_step rfl (fun K' hK' => ?_)
      go_simp
      exact hK' _ _ (hK _ rfl)
    · have e0 : vs 0 = .pointer (some ⟨p, 0, none⟩) := hd 0 (by kernel_rfl)
      simp only [e0] at hK ⊢
      refine wpOp_step rfl (fun K' hK' => ?_)
      go_simp
      exact hK' _ _ (hK _ rfl)
    · have e1 : vs 1 = .pointer (some ⟨p, 0, none⟩) := hd 1 (by kernel_rfl)
      simp only [e1] at hK ⊢
      refine wpOp_step rfl (fun K' hK' => ?_)
      go_simp
      exact hK' _ _ (hK _ rfl)
    · have e2 : vs 2 = .pointer (some ⟨p, 0, none⟩) := hd 2 (by kernel_rfl)
      simp only [e2] at hK ⊢
      refine wpOp_step rfl (fun K' hK' => ?_)
      go_simp
      exact hK' _ _ (hK _ rfl)
    · refine wpOp_step rfl (fun K' hK' => ?_)
      go_simp
      exact hK' _ _ (hK _ rfl)
    · refine wpOp_step rfl (fun K' hK' => ?_)
      go_simp
      exact hK' _ _ (hK _ rfl)
    · have e3 : vs 3 = .slice (some ⟨ge, 0, none⟩) E ce := hd 3 (by kernel_rfl)
      have e4 : vs 4 = .int .i64 (ix : Int) := hd 4 (by kernel_rfl)
      simp only [e3, e4] at hK ⊢
      refine wpOp_step rfl (fun K' hK' => ?_)
      go_simp
      exact hK' _ _ (hK _ rfl)
  case hcall =>
    intro s j hs vs act W K ha' hst hd hK
    simp at hs
  case hdone =>
    intro vs act W4 ha' hst hfs
    simp only [fillF, Act.put, List.take_succ_cons, List.take_zero, List.drop_succ_cons, List.drop_zero, List.setIfInBounds_toArray, List.set_cons_zero, List.set_cons_succ] at ha' ⊢
    subst ha'
    have f6 : vs 6 = .pointer (some ⟨ge, ix * 2, none⟩) := hfs 6 (by decide)
    have f5 : vs 5 = .agg #[.string (str sk), .int .i64 y] := hfs 5 (by decide)
    simp only [Nat.zero_add, Nat.reduceAdd, f5, f6]
    clear hfs f5 f6
    have hB4 : Below w.heap.size w W4 := by rw [hst]; exact Below.drew (HB0.out.trans (HB1.out.mono HB0.out.size))
    have hE4 : OwnE W4 0 (.slice (some ⟨ge, 0, none⟩) E ce) es := by have := HE.out.keep hB4; rw [HEE.out] at this; exact this
    obtain ⟨e0, he0⟩ : ∃ e, es[ix]? = some e := ⟨_, List.getElem?_eq_getElem HIX.out.2.2⟩
    obtain ⟨g2, hg2, -, -, q0, q1⟩ := hE4.cell he0
    cases hg2
    have q2 := hE4.free (ix * 2)
    have q3 := hE4.free (ix * 2 + 1)
    have HST := Lib.hid hst
    have hO := OwnE.put HEE.out hE4 ix (sk, y)
    have HG : Hid (∀ W, W = (W4.setCell ⟨ge, ix * 2, none⟩ (.string (str sk))).setCell ⟨ge, ix * 2 + 1, none⟩ (.int .i64 y) → PutPost (.mk (es.set ix (sk, y)) ks) p (p :: ((Value.slice (some ⟨ge, 0, none⟩) es.length ce).ownBlock.toList ++ (vK.ownBlock.toList ++ Fk))) w (.returned (.tuple #[])) W) := Lib.hid (fun W hW => by
      rw [← hW] at hO
      rw [HEE.out]
      have hnd := HND.out
      rw [HEE.out] at hnd
      have hc : Chg [ge] W4 W := by
        rw [hW]
        exact (Chg.setCell _ _ (by simp)).trans (Chg.setCell _ _ (by simp)) (fun _ h => .inl h)
      obtain ⟨dP, dE, dK⟩ := nd_apart _ _ _ _ hnd
      have k : ∀ b, b < w.heap.size → b ≠ ge → W.heap[b]? = w.heap[b]? := fun b hb hn => by
        rw [hc.block b (Nat.lt_of_lt_of_le hb hB4.size) (by simpa using hn), hB4.block b hb]
      refine ⟨rfl, _, ?_, hnd, fun b hb => .inl hb, (Chg.ofBelow _ hB4).trans hc (fun x hx => .inl (by simp only [List.mem_cons, List.not_mem_nil, or_false] at hx; subst hx; simp [Value.ownBlock]))⟩
      simp only [NdT]
      have hB := HB.out
      rw [HEE.out] at hB
      exact ⟨_, vK, ps, Fk, hB.same (k p HB.out.lt (fun e => dP.1 (by rw [e]; rfl))), hO, owns_same HK.out (fun b e => k b (HK.out.lt b e).2 (fun e2 => dE ge rfl (by rw [← e2]; exact e))), HL.out.same (fun b hb => k b (HL.out.lt b hb) (fun e => (dK b hb).2.1 (by rw [e]; rfl))), rfl⟩)
    clear hB4 hE4 he0 hO hst
    go_wp2_with fail
    exact bodyPost_end (results_none rfl _ _ _) rfl (HG.out _ rfl)
set_option maxHeartbeats 16000000 in
theorem put_leaf (sk : List UInt8) (y : Int) (es : List En) (p : Nat) (F : List Nat) (w : World) (hfd : plF es sk = false) (hl : es.length ≤ 1000) (hre : RiseE es) (h : NdT w (.mk es []) p F) (hnd : F.Nodup) :
    Calls Try.prog 49 #[.pointer (some ⟨p, 0, none⟩), .agg #[.string (str sk), .int .i64 y]] w (PutPost (.mk (es.take (plI es sk) ++ (sk, y) :: es.drop (plI es sk)) []) p F w) := by
  simp only [NdT, NdL] at h
  obtain ⟨vE, vK, ps, Fk, hB, hE, hK, ⟨rfl, rfl⟩, rfl⟩ := h
  obtain ⟨ae, ce, rfl, hce, hce2, -, -⟩ := owns_shape hE
  obtain ⟨ak, ck, rfl, -, -, -, -⟩ := owns_shape hK
  have hb0 := (Below.refl w.heap.size w).alloc (Nat.le_refl _) (.cells #[.string (str sk), .int .i64 y] 73)
  have z0 : Blk _ _ _ [_, _] := Blk.new w #[.string (str sk), .int .i64 y] 73
  have hs0 : (w.alloc (.cells #[.string (str sk), .int .i64 y] 73)).heap.size = w.heap.size + 1 := by simp
  obtain ⟨w0, hw0⟩ : ∃ W, w.alloc (.cells #[.string (str sk), .int .i64 y] 73) = W := ⟨_, rfl⟩
  obtain ⟨m5, hm5⟩ : ∃ m, w.heap.size = m := ⟨_, rfl⟩
  rw [hw0] at hb0 z0 hs0
  have cP := place_any es ae ce p _ sk w0 (hB.keep hb0 hB.lt) hl (hE.keep hb0) (rise_mono hre sk)
  have cL : ∀ W, Below w.heap.size w W → Calls Try.prog 47 #[.pointer (some ⟨p, 0, none⟩)] W fun e w' => e = .returned (.bool true) ∧ w' = W := fun W hW => leaf_any p ae ak es.length 0 ce ck W (hB.keep hW hB.lt)
  rw [hm5] at z0
  have k0 := z0.cell (j := 0) rfl
  obtain ⟨ix, hix⟩ : ∃ i, plI es sk = i := ⟨_, rfl⟩
  have hpl := is_place es sk hre
  rw [hix, hfd] at hpl
  rw [hix]
  have HB := Lib.hid hB
  have HE := Lib.hid hE
  have HK := Lib.hid hK
  have HND := Lib.hid hnd
  have HB0 := Lib.hid hb0
  have HZ0 := Lib.hid z0
  have HW0 := Lib.hid hw0
  have HCL := Lib.hid cL
  have HIX := Lib.hid (And.intro hix hfd)
  have HM5 := Lib.hid hm5
  have HS0 := Lib.hid hs0
  have HLEN : Hid (es.length ≤ 1000 ∧ ix ≤ es.length) := Lib.hid ⟨hl, hpl.le⟩
  clear hB hE hK hnd hb0 z0 hw0 hix hfd hpl hm5 hl hre hce hce2 cL hs0
  go_enter Try.func49, Try.ntmps49
  go_upto_region 1 with fail
  rw [HW0.out, HM5.out]
  go_wp2_with fail
  refine cP.mono ?_
  rintro e w1 ⟨i1, f1, rfl, hp1, hb1⟩
  obtain ⟨e1, e2⟩ := place_is hp1
  rw [HIX.out.1] at e1
  rw [HIX.out.2] at e2
  subst i1
  subst f1
  have HB1 := Lib.hid hb1
  have c1 := HCL.out w1 (HB0.out.trans (hb1.mono HB0.out.size))
  clear cP k0 hp1 hb1
  go_wp2_with fail
  refine c1.mono ?_
  rintro e w1 ⟨rfl, rfl⟩
  clear c1
  go_upto_region 7 with fail
  obtain ⟨n0, hn0⟩ : ∃ m, w1.heap.size = m := ⟨_, rfl⟩
  obtain ⟨vE, hvE⟩ : ∃ v, Value.slice ae es.length ce = v := ⟨_, rfl⟩
  obtain ⟨vK, hvK⟩ : ∃ v, Value.slice ak ([] : List Nat).length ck = v := ⟨_, rfl⟩
  have hB1 : Below w.heap.size w w1 := HB0.out.trans (HB1.out.mono HB0.out.size)
  have hF : ∀ b ∈ p :: ((Value.slice ae es.length ce).ownBlock.toList ++ ((Value.slice ak ([] : List Nat).length ck).ownBlock.toList ++ [])), b < w.heap.size := fun b hb => by
    simp only [List.mem_cons, List.mem_append, Option.mem_toList, List.not_mem_nil, or_false] at hb
    rcases hb with rfl | hb | hb
    · exact HB.out.lt
    · exact (HE.out.lt b hb).2
    · exact (HK.out.lt b hb).2
  have hnd := HND.out
  have hE := HE.out
  have hK := HK.out
  have hB := HB.out
  rw [hvE, hvK] at hF hnd hB
  rw [hvE] at hE
  rw [hvK] at hK
  have hs := hB1.size
  have HVE : Hid (∀ b, vE.ownBlock = some b → b < n0) := Lib.hid (fun b hb => by have := (hE.lt b hb).2; omega)
  have HVP : Hid (vE.ownBlock ≠ some p ∧ vE.ownBlock ≠ some m5) := Lib.hid ⟨fun hb => by simp [hb] at hnd, fun hb => by have := (hE.lt _ hb).2; have := HM5.out; omega⟩
  obtain ⟨es2, hes2⟩ : ∃ l, es.take ix ++ (sk, y) :: es.drop ix = l := ⟨_, rfl⟩
  have HES : Hid (es.take ix ++ (sk, y) :: es.drop ix = es2) := Lib.hid hes2
  have HST : Hid (InsSt w1 n0 p m5 vE vK sk y es 0 { w1 with drawn := w1.drawn + 1 }) := Lib.hid (by
    have hd : Below w1.heap.size w1 { w1 with drawn := w1.drawn + 1 } := Below.drew (Below.refl _ _)
    exact ⟨.ofBelow _ hd, by rw [← hn0]; exact hd.size, (hB.call hB1).call hd, fun _ => (hE.keep hB1).keep hd, (HZ0.out.call HB1.out).call hd⟩)
  have HQ : Hid (w1.heap.size = n0 ∧ Below w.heap.size w w1) := Lib.hid ⟨hn0, hB1⟩
  have HVV : Hid (Value.slice ae es.length ce = vE ∧ Value.slice ak ([] : List Nat).length ck = vK) := Lib.hid ⟨hvE, hvK⟩
  have HE2 := Lib.hid hE
  have HK2 := Lib.hid hK
  have HF2 := Lib.hid hF
  have HND2 := Lib.hid hnd
  clear hn0 hvE hvK hB1 hF hnd hE hK hB hs hes2
  refine wp_region_chain 11 [7, 8] (by kernel_rfl) (by kernel_rfl) (by kernel_rfl) (InsF n0 p ix vE sk y es2) (fun s W => InsSt w1 n0 p m5 vE vK sk y es s W) (fun _ W W' => Chg vE.ownBlock.toList W W') ?hF ?h0 ?hstep ?hcall ?hdone
  case hF =>
    intro s i hs j v W W' hjn hne hpb h he
    rcases (show j = 0 ∨ j = 1 ∨ j = 2 ∨ j = 3 ∨ j = 4 ∨ j = 5 ∨ j = 6 ∨ j = 7 ∨ j = 8 ∨ j = 9 ∨ j = 10 by omega) with rfl | rfl | rfl | rfl | rfl | rfl | rfl | rfl | rfl | rfl | rfl
    · exact h
    · exact h
    · exact h
    · exact h
    · exact h
    · exact h
    · exact h
    · obtain ⟨k, h1, h2, h3⟩ := h
      exact ⟨k, h1, h2.same (he.block k h2.lt (fun hb => by have := HVE.out k (by simpa using hb); omega)), h3⟩
    · rcases s with _ | _ | s
      · obtain rfl : 7 = i := by simpa using hs
        exact absurd (show false = true from hpb.symm.trans (by kernel_rfl)) (by decide)
      · obtain rfl : 8 = i := by simpa using hs
        exact absurd rfl hne
      · simp at hs
    · exact h
    · exact h
  case h0 => exact HST.out
  case hstep =>
    intro j hj hni s vs act W K ha' hst hd hu hK
    simp only [fillF, Act.put, List.take_succ_cons, List.take_zero, List.setIfInBounds_toArray, List.set_cons_zero, List.set_cons_succ] at ha'
    subst ha'
    clear hu
    have q0 := hst.node.cell (j := 0) rfl
    have q1 := hst.box.cell (j := 0) rfl
    have q2 := hst.box.cell (j := 1) rfl
    rcases (show j = 0 ∨ j = 1 ∨ j = 2 ∨ j = 3 ∨ j = 4 ∨ j = 5 ∨ j = 6 ∨ j = 7 ∨ j = 8 ∨ j = 9 ∨ j = 10 by omega) with rfl | rfl | rfl | rfl | rfl | rfl | rfl | rfl | rfl | rfl | rfl
    · refine wpOp_step rfl (fun K' hK' => ?_)
      go_simp
      exact hK' _ _ (hK _ rfl)
    · refine wpOp_step rfl (fun K' hK' => ?_)
      go_simp
      exact hK' _ _ (hK _ rfl)
    · have e1 : vs 1 = .pointer (some ⟨p, 0, none⟩) := hd 1 (by kernel_rfl)
      simp only [e1] at hK ⊢
      refine wpOp_step rfl (fun K' hK' => ?_)
      go_simp
      exact hK' _ _ (hK _ rfl)
    · have e2 : vs 2 = .pointer (some ⟨p, 0, none⟩) := hd 2 (by kernel_rfl)
      simp only [e2] at hK ⊢
      refine wpOp_step rfl (fun K' hK' => ?_)
      go_simp
      exact hK' _ _ (hK _ rfl)
    · have e3 : vs 3 = .pointer (some ⟨p, 0, none⟩) := hd 3 (by kernel_rfl)
      simp only [e3] at hK ⊢
      refine wpOp_step rfl (fun K' hK' => ?_)
      go_simp
      exact hK' _ _ (hK _ rfl)
    · refine wpOp_step rfl (fun K' hK' => ?_)
      go_simp
      exact hK' _ _ (hK _ rfl)
    · refine wpOp_step rfl (fun K' hK' => ?_)
      go_simp
      exact hK' _ _ (hK _ rfl)
    · exact (hni (by decide)).elim
    · exact (hni (by decide)).elim
    · have e0 : vs 0 = .pointer (some ⟨p, 0, none⟩) := hd 0 (by kernel_rfl)
      simp only [e0] at hK ⊢
      refine wpOp_step rfl (fun K' hK' => ?_)
      go_simp
      exact hK' _ _ (hK _ rfl)
    · have e9 : vs 9 = .pointer (some ⟨p, 0, none⟩) := hd 9 (by kernel_rfl)
      simp only [e9] at hK ⊢
      refine wpOp_step rfl (fun K' hK' => ?_)
      go_simp
      exact hK' _ _ (hK _ rfl)
  case hcall =>
    intro s j hs vs act W K ha' hst hd hK
    simp only [fillF, Act.put, List.take_succ_cons, List.take_zero, List.setIfInBounds_toArray, List.set_cons_zero, List.set_cons_succ] at ha'
    subst ha'
    rcases s with _ | _ | s
    · obtain rfl : 7 = j := by simpa using hs
      have e6 : vs 6 = .agg #[.string (str sk), .int .i64 y] := hd 6 (by kernel_rfl)
      simp only [e6] at hK ⊢
      refine wpOp_step rfl (fun K' hK' => ?_)
      go_simp
      have hba : Below W.heap.size W (W.alloc (.cells #[.string (str sk), .int .i64 y] 73)) := (Below.refl _ _).alloc (Nat.le_refl _) _
      exact hK' _ _ (hK _ _ ⟨W.heap.size, rfl, Blk.new W _ _, hst.size⟩ (.ofBelow _ hba) (hst.step1 (by decide) HVE.out hba))
    · obtain rfl : 8 = j := by simpa using hs
      have e4 : vs 4 = vE := hd 4 (by kernel_rfl)
      have e5 : vs 5 = .int .i64 (ix : Int) := hd 5 (by kernel_rfl)
      obtain ⟨k7, e7, x7, l7⟩ := hd 7 (by kernel_rfl)
      simp only [e4, e5, e7] at hK ⊢
      refine wpOp_step rfl (fun K' hK' => ?_)
      go_simp
      refine (insertE_any vE es ix k7 (sk, y) W HLEN.out.1 HLEN.out.2 (hst.row (by decide)) x7 (fun hb => by have := HVE.out k7 hb; omega)).mono ?_
      rintro e W' ⟨v', rfl, ho, hr⟩
      have hz : ∀ b, v'.ownBlock = some b → vE.ownBlock = some b ∨ n0 ≤ b := fun b hb => (hr.own b hb).imp id (fun h => Nat.le_trans hst.size h)
      have hc : Chg vE.ownBlock.toList W W' := .ofGrown _ hr.grown (fun b hb => by simp [hb])
      exact hK' _ _ (hK _ _ ⟨HES.out ▸ ho, hz⟩ hc (hst.step2 HVP.out hc))
    · simp at hs
  case hdone =>
    intro vs act W4 ha' hst hfs
    simp only [fillF, Act.put, List.take_succ_cons, List.take_zero, List.drop_succ_cons, List.drop_zero, List.setIfInBounds_toArray, List.set_cons_zero, List.set_cons_succ] at ha' ⊢
    subst ha'
    have f8 : OwnE W4 0 (vs 8) es2 ∧ ∀ b, (vs 8).ownBlock = some b → vE.ownBlock = some b ∨ n0 ≤ b := hfs 8 (by decide)
    have f10 : vs 10 = .pointer (some ⟨p, 0, none⟩) := hfs 10 (by decide)
    simp only [Nat.zero_add, Nat.reduceAdd, f10]
    clear hfs f10
    generalize vs 8 = v8 at *
    obtain ⟨y8, z8⟩ := f8
    obtain ⟨a8, c8, e8, -, -, -, -⟩ := owns_shape y8
    obtain ⟨L8, hL8⟩ : ∃ L, es2.length = L := ⟨_, rfl⟩
    rw [hL8] at e8
    subst e8
    have q0 := hst.node.cell (j := 0) rfl
    have q2 := hst.node.free 0
    have hc5 : Chg [p] W4 (W4.setCell ⟨p, 0, none⟩ (.slice a8 L8 c8)) := Chg.setCell _ _ (by simp)
    have hB5 := hst.node.set 0 (.slice a8 L8 c8)
    have hB5 : Blk (W4.setCell ⟨p, 0, none⟩ (.slice a8 L8 c8)) p 83 [.slice a8 L8 c8, vK] := hB5
    have HST4 := Lib.hid hst
    have HY8 := Lib.hid y8
    have HZ8 := Lib.hid z8
    have HG : Hid (∀ W, W = W4.setCell ⟨p, 0, none⟩ (.slice a8 L8 c8) → PutPost (.mk (es.take ix ++ (sk, y) :: es.drop ix) []) p (p :: ((Value.slice ae es.length ce).ownBlock.toList ++ ((Value.slice ak ([] : List Nat).length ck).ownBlock.toList ++ []))) w (.returned (.tuple #[])) W) := Lib.hid (fun W hW => by
      rw [← hW] at hc5 hB5
      rw [HVV.out.1, HVV.out.2, HES.out]
      obtain ⟨hn0, hb1⟩ := HQ.out
      obtain ⟨dP, dE, dK⟩ := nd_apart _ _ _ _ HND2.out
      have hFl := HF2.out
      have hpl : p < w.heap.size := hFl p (List.mem_cons_self ..)
      have s1 := hb1.size
      have s4 := HST4.out.size
      have c15 : Chg (p :: vE.ownBlock.toList) w1 W := (HST4.out.chg.mono (fun x hx => List.mem_cons_of_mem _ hx)).trans hc5 (fun x hx => .inl (by simp only [List.mem_cons, List.not_mem_nil, or_false] at hx; simp [hx]))
      have eE : OwnE W 0 (.slice a8 L8 c8) es2 := owns_same HY8.out (fun b e => hc5.block b (HY8.out.lt b e).2 (fun hb => by
        simp only [List.mem_cons, List.not_mem_nil, or_false] at hb
        subst hb
        rcases HZ8.out b e with h1 | h1
        · exact dP.1 h1
        · omega))
      have eK : OwnK W 0 vK [] := owns_same (HK2.out.keep hb1) (fun b e => c15.block b (by have := (HK2.out.lt b e).2; omega) (fun hb => by
        simp only [List.mem_cons, Option.mem_toList] at hb
        rcases hb with rfl | hb
        · exact dP.2 e
        · exact dE b hb e))
      obtain ⟨nod, inF⟩ := kid_nodup p vE.ownBlock vK.ownBlock (Value.slice a8 L8 c8).ownBlock vK.ownBlock [] [] [] [] w.heap.size n0 W4.heap.size HND2.out hFl List.nodup_nil (fun b hb => by cases hb) (fun b hb => by cases hb) (by omega) HZ8.out (fun b e => (HY8.out.lt b e).2) (fun b e => .inl e) (by omega)
      refine ⟨rfl, _, ?_, nod, inF, ?_⟩
      · simp only [NdT]
        exact ⟨_, vK, [], [], hB5, eE, eK, NdL.nil _, rfl⟩
      · exact (Chg.ofBelow _ hb1).trans c15 (fun x hx => .inl (by simp only [List.mem_cons, List.mem_append] at hx ⊢; grind)))
    clear y8 z8 hst hc5 hB5 hL8
    go_wp2_with fail
    exact bodyPost_end (results_none rfl _ _ _) rfl (HG.out _ rfl)
theorem NdL.put {w : World} {ks : List Tr} {ps A G B : List Nat} {i q : Nat} {k : Tr} (hA : NdL w (ks.take i) (ps.take i) A) (hG : NdT w k q G) (hB : NdL w (ks.drop (i + 1)) (ps.drop (i + 1)) B) (hq : ps[i]? = some q) (hi : i < ks.length) : NdL w (ks.set i k) ps (A ++ (G ++ B)) := by
  obtain ⟨h1, h2⟩ := List.getElem?_eq_some_iff.1 hq
  have hps : ps = ps.take i ++ q :: ps.drop (i + 1) := by rw [← h2, List.getElem_cons_drop, List.take_append_drop]
  rw [List.set_eq_take_append_cons_drop, if_pos hi, hps]
  have e1 : (ps.take i ++ q :: ps.drop (i + 1)) = ps.take i ++ ([q] ++ ps.drop (i + 1)) := rfl
  rw [e1, show ks.take i ++ k :: ks.drop (i + 1) = ks.take i ++ ([k] ++ ks.drop (i + 1)) from rfl]
  exact NdL.app hA (NdL.app (NdL.one hG) hB)
set_option maxHeartbeats 16000000 in
theorem put_kid (sk : List UInt8) (y : Int) (es : List En) (ks : List Tr) (k k' : Tr) (p : Nat) (F : List Nat) (w : World) (hfd : plF es sk = false) (hl : es.length ≤ 1000) (hkl : ks.length ≤ 1000) (hre : RiseE es) (h : NdT w (.mk es ks) p F) (hnd : F.Nodup) (hk : ks[plI es sk]? = some k)
    (ih : ∀ q G W, NdT W k q G → G.Nodup → Calls Try.prog 49 #[.pointer (some ⟨q, 0, none⟩), .agg #[.string (str sk), .int .i64 y]] W (PutPost k' q G W)) (h4 : k'.es.length ≤ 4) (hfit : k'.ks = [] ∨ k'.ks.length = k'.es.length + 1) :
    Calls Try.prog 49 #[.pointer (some ⟨p, 0, none⟩), .agg #[.string (str sk), .int .i64 y]] w (PutPost (partK es (ks.set (plI es sk) k') (plI es sk)) p F w) := by
  simp only [NdT] at h
  obtain ⟨vE, vK, ps, Fk, hB, hE, hK, hL, rfl⟩ := h
  have hF : ∀ b ∈ p :: (vE.ownBlock.toList ++ (vK.ownBlock.toList ++ Fk)), b < w.heap.size := fun b hb => by
    simp only [List.mem_cons, List.mem_append, Option.mem_toList] at hb
    rcases hb with rfl | hb | hb | hb
    · exact hB.lt
    · exact (hE.lt b hb).2
    · exact (hK.lt b hb).2
    · exact hL.lt b hb
  have hplen := NdL.len hL
  obtain ⟨q, A, G, B, hq, rfl, hA, hG, hR⟩ := hL.split hk
  have hGn : G.Nodup := by
    simp only [List.nodup_cons, List.nodup_append] at hnd
    exact hnd.2.2.1.2.1.2.1.1
  obtain ⟨ae, ce, rfl, -, -, -, -⟩ := owns_shape hE
  obtain ⟨ak, ck, rfl, -, -, -, -⟩ := owns_shape hK
  have hb0 := (Below.refl w.heap.size w).alloc (Nat.le_refl _) (.cells #[.string (str sk), .int .i64 y] 73)
  have z0 : Blk _ _ _ [_, _] := Blk.new w #[.string (str sk), .int .i64 y] 73
  obtain ⟨w0, hw0⟩ : ∃ W, w.alloc (.cells #[.string (str sk), .int .i64 y] 73) = W := ⟨_, rfl⟩
  obtain ⟨m5, hm5⟩ : ∃ m, w.heap.size = m := ⟨_, rfl⟩
  rw [hw0] at hb0 z0
  have cP := place_any es ae ce p _ sk w0 (hB.keep hb0 hB.lt) hl (hE.keep hb0) (rise_mono hre sk)
  have hik := (List.getElem?_eq_some_iff.1 hk).1
  have cL : ∀ W, Below w.heap.size w W → Calls Try.prog 47 #[.pointer (some ⟨p, 0, none⟩)] W fun e w' => e = .returned (.bool false) ∧ w' = W := fun W hW => by
    have := leaf_any p ae ak es.length ps.length ce ck W (hB.keep hW hB.lt)
    rw [show (ps.length == 0) = false by rw [hplen]; simp; intro h; rw [h] at hik; simp at hik] at this
    exact this
  rw [hm5] at z0
  have k0 := z0.cell (j := 0) rfl
  obtain ⟨ix, hix⟩ : ∃ i, plI es sk = i := ⟨_, rfl⟩
  have hpl := is_place es sk hre
  rw [hix, hfd] at hpl
  rw [hix] at hk hq hA hR hik ⊢
  obtain ⟨gk, rfl, hgl, -, hgq⟩ := hK.cell hq
  have HB := Lib.hid hB
  have HE := Lib.hid hE
  have HK := Lib.hid hK
  have HA := Lib.hid hA
  have HG := Lib.hid hG
  have HR := Lib.hid hR
  have HF := Lib.hid hF
  have HND := Lib.hid hnd
  have HB0 := Lib.hid hb0
  have HZ0 := Lib.hid z0
  have HW0 := Lib.hid hw0
  have HCL := Lib.hid cL
  have HIX := Lib.hid (And.intro hix hfd)
  have HM5 := Lib.hid hm5
  have HLEN : Hid (es.length ≤ 1000 ∧ ix ≤ es.length ∧ ps.length = ks.length ∧ ix < ks.length ∧ ks.length ≤ 1000) := Lib.hid ⟨hl, hpl.le, hplen, hik, hkl⟩
  have HQ : Hid (ps[ix]? = some q ∧ G.Nodup) := Lib.hid ⟨hq, hGn⟩
  have HGQ : Hid (∀ W, Below w.heap.size w W → W.cell? ⟨gk, ix, none⟩ = some (ptrV q)) := Lib.hid (fun W hW => (hW.cell (p := ⟨gk, ix, none⟩) hgl).trans hgq)
  have HIH := Lib.hid ih
  have HK4 : Hid (k'.es.length ≤ 4 ∧ (k'.ks = [] ∨ k'.ks.length = k'.es.length + 1)) := Lib.hid ⟨h4, hfit⟩
  have iI : (ix : Int) < (ps.length : Int) := by omega
  obtain ⟨C, hC⟩ : ∃ C, ps.length = C := ⟨_, rfl⟩
  have HCC := Lib.hid hC
  rw [hC] at iI
  clear hB hE hK hL hA hG hR hF hnd hb0 z0 hw0 hix hfd hpl hm5 hl hre cL hplen hik hkl hgl hgq hq hGn ih h4 hfit hk hC
  go_enter Try.func49, Try.ntmps49
  go_upto_region 1 with fail
  rw [HW0.out, HM5.out]
  go_wp2_with fail
  refine cP.mono ?_
  rintro e w1 ⟨i1, f1, rfl, hp1, hb1⟩
  obtain ⟨e1, e2⟩ := place_is hp1
  rw [HIX.out.1] at e1
  rw [HIX.out.2] at e2
  subst i1
  subst f1
  have HB1 := Lib.hid hb1
  have c1 := HCL.out w1 (HB0.out.trans (hb1.mono HB0.out.size))
  clear cP k0 hp1 hb1
  go_wp2_with fail
  refine c1.mono ?_
  rintro e w1 ⟨rfl, rfl⟩
  clear c1
  go_upto_region 2 with fail
  have HC : Hid (∀ W, W = { w1 with drawn := w1.drawn + 1 } → W.cell? ⟨p, 1, none⟩ = some (.slice (some ⟨gk, 0, none⟩) C ck) ∧ W.cell? ⟨gk, ix, none⟩ = some (ptrV q) ∧ W.cell? ⟨m5, 0, none⟩ = some (.string (str sk)) ∧ W.cell? ⟨m5, 1, none⟩ = some (.int .i64 y)) := Lib.hid (fun W hW => by
    have hb : Below w0.heap.size w0 W := by rw [hW]; exact Below.drew HB1.out
    have hb2 := HB0.out.trans (hb.mono HB0.out.size)
    have hB := HB.out.keep hb2 HB.out.lt
    have h3 := HZ0.out.call hb
    rw [HCC.out] at hB
    exact ⟨hB.cell (j := 1) rfl, HGQ.out W hb2, h3.cell (j := 0) rfl, h3.cell (j := 1) rfl⟩)
  refine wp_region_chain 8 [] (by kernel_rfl) (by kernel_rfl) (by kernel_rfl) (KdF p gk ix C ck q sk y) (fun _ W => W = { w1 with drawn := w1.drawn + 1 }) (fun _ _ _ => True) ?hF ?h0 ?hstep ?hcall ?hdone
  case hF =>
    intro s i hs; simp at hs
  case h0 => exact rfl
  case hstep =>
    intro j hj hni s vs act W K ha' hst hd hu hK
    simp only [fillF, Act.put, List.take_succ_cons, List.take_zero, List.setIfInBounds_toArray, List.set_cons_zero, List.set_cons_succ] at ha'
    subst ha'
    clear hu
    obtain ⟨q0, q3, q1, q2⟩ := HC.out W hst
    clear hst
    rcases (show j = 0 ∨ j = 1 ∨ j = 2 ∨ j = 3 ∨ j = 4 ∨ j = 5 ∨ j = 6 ∨ j = 7 by omega) with rfl | rfl | rfl | rfl | rfl | rfl | rfl | rfl
    · refine wpOp_step rfl (fun K' hK' => ?_)
      go_simp
      exact hK' _ _ (hK _ rfl)
    · have e0 : vs 0 = .pointer (some ⟨p, 0, none⟩) := hd 0 (by kernel_rfl)
      simp only [e0] at hK ⊢
      refine wpOp_step rfl (fun K' hK' => ?_)
      go_simp
      exact hK' _ _ (hK _ rfl)
    · have e1 : vs 1 = .pointer (some ⟨p, 0, none⟩) := hd 1 (by kernel_rfl)
      simp only [e1] at hK ⊢
      refine wpOp_step rfl (fun K' hK' => ?_)
      go_simp
      exact hK' _ _ (hK _ rfl)
    · have e2 : vs 2 = .pointer (some ⟨p, 1, none⟩) := hd 2 (by kernel_rfl)
      simp only [e2] at hK ⊢
      refine wpOp_step rfl (fun K' hK' => ?_)
      go_simp
      exact hK' _ _ (hK _ rfl)
    · refine wpOp_step rfl (fun K' hK' => ?_)
      go_simp
      exact hK' _ _ (hK _ rfl)
    · have e3 : vs 3 = .slice (some ⟨gk, 0, none⟩) C ck := hd 3 (by kernel_rfl)
      have e4 : vs 4 = .int .i64 (ix : Int) := hd 4 (by kernel_rfl)
      simp only [e3, e4] at hK ⊢
      refine wpOp_step rfl (fun K' hK' => ?_)
      go_simp
      exact hK' _ _ (hK _ rfl)
    · have e5 : vs 5 = .pointer (some ⟨gk, ix, none⟩) := hd 5 (by kernel_rfl)
      simp only [e5] at hK ⊢
      refine wpOp_step rfl (fun K' hK' => ?_)
      go_simp
      exact hK' _ _ (hK _ rfl)
    · refine wpOp_step rfl (fun K' hK' => ?_)
      go_simp
      exact hK' _ _ (hK _ rfl)
  case hcall =>
    intro s j hs vs act W K ha' hst hd hK
    simp at hs
  case hdone =>
    intro vs act W4 ha' hst hfs
    simp only [fillF, Act.put, List.take_succ_cons, List.take_zero, List.drop_succ_cons, List.drop_zero, List.setIfInBounds_toArray, List.set_cons_zero, List.set_cons_succ] at ha' ⊢
    subst ha'
    have f6 : vs 6 = ptrV q := hfs 6 (by decide)
    have f7 : vs 7 = .agg #[.string (str sk), .int .i64 y] := hfs 7 (by decide)
    simp only [Nat.zero_add, Nat.reduceAdd, f6, f7]
    clear hfs f6 f7
    have hb4 : Below w.heap.size w W4 := by rw [hst]; exact Below.drew (HB0.out.trans (HB1.out.mono HB0.out.size))
    have c2 := HIH.out q G W4 (HG.out.below hb4) HQ.out.2
    have HB4 := Lib.hid hb4
    clear hst hb4
    go_wp2_with fail
    refine c2.mono ?_
    rintro e w2 ⟨rfl, G', hN2, hnd2, hin2, hc2⟩
    clear c2
    obtain ⟨hl, hil, hpk, hik, hkl⟩ := HLEN.out
    obtain ⟨dP, dE, dK⟩ := nd_apart _ _ _ _ HND.out
    have hFl := HF.out
    have s4 := HB4.out.size
    have s2 := hc2.size
    have inG : ∀ b, b ∈ G → b ≠ p ∧ (Value.slice ae es.length ce).ownBlock ≠ some b ∧ (Value.slice (some ⟨gk, 0, none⟩) ps.length ck).ownBlock ≠ some b := fun b hb => dK b (List.mem_append_right _ (List.mem_append_left _ hb))
    have same : ∀ b, b < w.heap.size → b ∉ G → w2.heap[b]? = w.heap[b]? := fun b hb hg => by rw [hc2.block b (by omega) hg, HB4.out.block b hb]
    have nAB : ∀ b, b ∈ A ∨ b ∈ B → b ∉ G := fun b hb hg => by
      have := HND.out
      simp only [List.nodup_cons, List.nodup_append, List.mem_append] at this
      grind
    have hN : NdT w2 (.mk es (ks.set ix k')) p (p :: ((Value.slice ae es.length ce).ownBlock.toList ++ ((Value.slice (some ⟨gk, 0, none⟩) ps.length ck).ownBlock.toList ++ (A ++ (G' ++ B))))) := by
      simp only [NdT]
      refine ⟨_, _, ps, _, HB.out.same (same p HB.out.lt (fun h => (inG p h).1 rfl)), owns_same HE.out (fun b e => same b (HE.out.lt b e).2 (fun h => (inG b h).2.1 e)), owns_same HK.out (fun b e => same b (HK.out.lt b e).2 (fun h => (inG b h).2.2 e)), ?_, rfl⟩
      exact NdL.put (HA.out.same (fun b hb => same b (HA.out.lt b hb) (nAB b (.inl hb)))) hN2 (HR.out.same (fun b hb => same b (HR.out.lt b hb) (nAB b (.inr hb)))) HQ.out.1 hik
    obtain ⟨nod, inF⟩ := kid_nodup p (Value.slice ae es.length ce).ownBlock (Value.slice (some ⟨gk, 0, none⟩) ps.length ck).ownBlock (Value.slice ae es.length ce).ownBlock (Value.slice (some ⟨gk, 0, none⟩) ps.length ck).ownBlock A G B G' w.heap.size w2.heap.size w2.heap.size HND.out hFl hnd2 (fun b hb => (hin2 b hb).imp id (fun h => by omega)) (fun b hb => hN2.lt b hb) (by omega) (fun b e => .inl e) (fun b e => by have := (HE.out.lt b e).2; omega) (fun b e => .inl e) (Nat.le_refl _)
    have c3 := partKid_any es (ks.set ix k') ix k' p _ w2 hN nod (List.getElem?_set_self hik) HK4.out.1 HK4.out.2 hil hl (by rw [List.length_set]; exact hkl)
    have HFIN : Hid (∀ w3, Chg (p :: ((Value.slice ae es.length ce).ownBlock.toList ++ ((Value.slice (some ⟨gk, 0, none⟩) ps.length ck).ownBlock.toList ++ (A ++ (G' ++ B))))) w2 w3 → Chg (p :: ((Value.slice ae es.length ce).ownBlock.toList ++ ((Value.slice (some ⟨gk, 0, none⟩) ps.length ck).ownBlock.toList ++ (A ++ (G ++ B))))) w w3) := Lib.hid (fun w3 h3 => by
      have a1 := (Chg.ofBelow (p :: ((Value.slice ae es.length ce).ownBlock.toList ++ ((Value.slice (some ⟨gk, 0, none⟩) ps.length ck).ownBlock.toList ++ (A ++ (G ++ B))))) HB4.out).trans hc2 (fun x hx => .inl (by simp only [List.mem_cons, List.mem_append]; grind))
      exact a1.trans h3 inF)
    have HIN := Lib.hid inF
    have HS2 : Hid (w.heap.size ≤ w2.heap.size) := Lib.hid (by omega)
    clear hl hil hpk hik hkl dP dE dK hFl s4 s2 inG same nAB hN nod inF hN2 hnd2 hin2 hc2
    go_wp2_with fail
    refine c3.mono ?_
    rintro e w3 ⟨rfl, F3, hN3, hnd3, hin3, hc3⟩
    clear c3
    have HP : Hid (PutPost (partK es (ks.set ix k') ix) p (p :: ((Value.slice ae es.length ce).ownBlock.toList ++ ((Value.slice (some ⟨gk, 0, none⟩) ps.length ck).ownBlock.toList ++ (A ++ (G ++ B))))) w (.returned (.tuple #[])) w3) := Lib.hid ⟨rfl, F3, hN3, hnd3, fun b hb => by
      rcases hin3 b hb with h | h
      · exact HIN.out b h
      · have := HS2.out; exact .inr (by omega), HFIN.out w3 hc3⟩
    clear hN3 hnd3 hin3 hc3
    go_wp2_with fail
    exact bodyPost_end (results_none rfl _ _ _) rfl HP.out
theorem put_any (sk : List UInt8) (y : Int) : ∀ (n d : Nat) (t : Tr) (p : Nat) (F : List Nat) (w : World), d < n → shT d t → t.es.length ≤ 3 → RiseE (flatT t) → NdT w t p F → F.Nodup →
    Calls Try.prog 49 #[.pointer (some ⟨p, 0, none⟩), .agg #[.string (str sk), .int .i64 y]] w (PutPost (putF n t (sk, y)) p F w)
  | 0, d, t, p, F, w, h, _, _, _, _, _ => by omega
  | n + 1, d, .mk es ks, p, F, w, hd, hsh, h3, hr, h, hnd => by
    have hfit := sh_fit0 d _ hsh
    simp only [Tr.es, Tr.ks] at hfit h3
    have hr2 := hr
    rw [flat_mk] at hr2
    have hre := es_rise hr2
    simp only [putF]
    by_cases hfd : plF es sk = true
    · rw [if_pos hfd]
      exact put_there sk y es ks p F w hfd (by omega) hre h hnd
    · rw [if_neg hfd]
      have hfd2 : plF es sk = false := by simpa using hfd
      by_cases hz : ks = []
      · subst hz
        rw [if_pos rfl]
        exact put_leaf sk y es p F w hfd2 (by omega) hre h hnd
      · rw [if_neg hz]
        have hkl : ks.length = es.length + 1 := hfit.resolve_left hz
        have hil := plI_le es sk
        obtain ⟨k, hk⟩ : ∃ k, ks[plI es sk]? = some k := ⟨ks[plI es sk]'(by omega), List.getElem?_eq_getElem _⟩
        rw [hk]
        cases d with
        | zero => simp only [shT] at hsh; exact absurd hsh hz
        | succ d =>
        simp only [shT] at hsh
        have hok2 := (ok_iff d k).1 (hsh.2 k (List.mem_of_getElem? hk))
        have hky : (flatL ks)[plI es sk]? = some (flatT k) := by rw [flatL_map, List.getElem?_map, hk]; rfl
        have hkl2 : (flatL ks).length = es.length + 1 := by rw [flatL_map, List.length_map]; exact hkl
        have hrk := rise_kid hr2 hkl2 (List.mem_of_getElem? hky)
        obtain ⟨_, i2, i3, i4⟩ := put_all (sk, y) n d k (by omega) hok2.2.2 hok2.2.1 hrk
        exact put_kid sk y es ks k (putF n k (sk, y)) p F w hfd2 (by omega) (by omega) hre h hnd hk (fun q G W hN hG => put_any sk y n d k q G W (by omega) hok2.2.2 hok2.2.1 hrk hN hG) (by omega) (sh_fit0 d _ i2)
end Go.Proofs.Ytopgakdgifmecaa
