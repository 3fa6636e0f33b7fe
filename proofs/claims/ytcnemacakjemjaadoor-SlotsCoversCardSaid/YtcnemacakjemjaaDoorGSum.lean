/-
  MERGED: Add, End, Sum, Good, Ends.
  CONDITIONS: each theorem's own hypotheses.
-/
import Derived.Test.YtcnemacakjemjaaDoorGSha
import Derived.Laws.Tables

/-! CONTRACT of package sum's add: bytes worked into a stream. CONDITIONS: package sum's roundWords hold what their initialiser lays ('KW'). -/
namespace Go.Proofs.YtcnemacakjemjaaDoor
open Go.RowKit CodeMath
set_option linter.unusedVariables false
set_option maxRecDepth 100000

/-- copy(x, y), x a part of a block, y bytes from wherever they lie. -/
theorem wpList_copy_blk {ops : Array Oper} {rest : List Oper} {o : Oper} {a : Act} {Q : Exit → Act → World → Prop} {w : World} (hgd : o.guard = none) (d s : Operand)
    (ho : o.op = .call { callee := .builtin .copy, args := #[d, s], argTypes := #[37, 37] }) (g off dLen dCap : Nat) (p q sLen sCap : Nat) (hd : a.eval d = .slice (some ⟨g, off, none⟩) dLen dCap) (hs : a.eval s = .slice (some ⟨p, q, none⟩) sLen sCap)
    (T0 : TypeId) (cs : List Value) (hB : Blk w g T0 cs) (c : List UInt8) (n : Nat) (hcn : c.length = n) (hn : n = Nat.min sLen dLen) (hsrc : ∀ j x, c[j]? = some x → w.cell? ⟨p, q + j, none⟩ = some (.int .u8 x.toNat)) (hfit : off + n ≤ cs.length)
    (h : ∀ w', w.grownBy w' (some g) → w'.heap.size = w.heap.size → Blk w' g T0 (splice cs off (u8s c)) → wpList Tryd.prog ops Q rest (a.put o.dst (.int .i64 (n : Int))) w') : wpList Tryd.prog ops Q (o :: rest) a w := by
  subst hcn
  refine wpList_copy_own hgd d s 37 37 ho 5 Tryd.underlying37 (by kernel_rfl) g off dLen dCap ⟨p, q, none⟩ sLen sCap hd hs cs.toArray T0 hB (u8s c) (by rw [u8s_length]; exact hn) ?_ (by rw [u8s_length]; simpa using hfit) (u8s_one c) ?_
  · intro j v hv
    unfold u8s at hv
    rw [List.getElem?_map] at hv
    cases hx : c[j]? with
    | none => rw [hx] at hv; cases hv
    | some x =>
      rw [hx] at hv
      simp only [Option.map_some, Option.some.injEq] at hv
      rw [← hv, show (⟨p, q, none⟩ : Addr).add j = ⟨p, q + j, none⟩ by unfold Addr.add; split <;> simp_all]
      exact hsrc j x hx
  · rw [u8s_length]
    refine h _ ⟨rfl, rfl, rfl, by simp [World.setRow], fun k hk hne => setRow_other w g k _ (fun e => hne (by rw [e]))⟩ (by simp [World.setRow]) ?_
    unfold Blk splice
    rw [setRow_heap w g cs.toArray _ T0 _ hB, u8s_length]
/-- x[q:]. -/
theorem slice_rest (p o n cap q : Nat) (hq : q ≤ n) (hn : n ≤ cap) (h63 : cap ≤ 9223372036854775807) (W : World) : ∃ o', (Instr.slice 37 (.slice (some ⟨p, o, none⟩) n cap) (some (.int .i64 (q : Int))) none none).run Tryd.prog W = .ok (.slice (some ⟨p, o', none⟩) (n - q) (cap - q)) W ∧ (q < n → o' = o + q) := by
  have h1 : (q : Int) ≤ n := by omega
  by_cases hc : cap = q
  · refine ⟨o, ?_, fun h => by omega⟩
    have h2 : ¬ q < n := by omega
    have h3 : n = q := by omega
    subst hc
    subst h3
    go_simp
  · refine ⟨o + q, ?_, fun _ => rfl⟩
    go_simp
theorem sharp (b : List UInt8) (ao : Option Addr) (w : World) (h : Bytes w ao b) (hl : 0 < b.length) : ∃ p q, ao = some ⟨p, q, none⟩ ∧ p < w.heap.size ∧ ∀ j x, b[j]? = some x → w.cell? ⟨p, q + j, none⟩ = some (.int .u8 x.toNat) := by
  rcases h with h | ⟨p, q, h1, h2, h3⟩
  · rw [h] at hl; simp at hl
  · exact ⟨p, q, h1, h2, h3⟩
theorem stm_one (s : Stm) : ∀ v ∈ s.cells, v.oneCell' = true := by
  intro v hv
  unfold Stm.cells at hv
  rw [List.mem_append, List.mem_append] at hv
  rcases hv with hv | hv | hv
  · exact u32s_one _ v hv
  · exact u8s_one _ v hv
  · simp at hv
    rcases hv with rfl | rfl <;> rfl
def noStm : Stm := ⟨⟨0, 0, 0, 0, 0, 0, 0, 0⟩, List.replicate 64 0, 0, 0⟩
def noCells : Array Value := noStm.cells.toArray
theorem zero_stream (W : World) : (zeroValue 74).run Tryd.prog W = .ok (.agg noCells) W := by kernel_rfl
def lenOf (v : Value) : Nat := match v with
  | .slice _ n _ => n
  | _ => 0
set_option maxRecDepth 100000 in
set_option maxHeartbeats 4000000 in
theorem add_any (h : ShaMath.St) (o : Ok8 h) (m : List UInt8) (hm : m.length < 64) (L : Int) (b : List UInt8) (ao : Option Addr) (cap : Nat) (w : World) (hL0 : 0 ≤ L) (hL1 : L + b.length ≤ 1152921504606846976) (hcap : b.length ≤ cap) (h63 : cap ≤ 9223372036854775807) (hb : Bytes w ao b) (hT : KW w) :
    Calls Tryd.prog 56 #[.agg (can h m L).cells.toArray, .slice ao b.length cap] w fun e w' => e = .returned (.agg (can (ShaMath.run ShaMath.blk h (m ++ b)) (ShaMath.rest (m ++ b)) (L + b.length)).cells.toArray) ∧ Below w.heap.size w w' := by
  obtain ⟨A, hA⟩ : ∃ A, (can h m L).cells.toArray = A := ⟨_, rfl⟩
  rw [hA]
  have hch := can_held h m L (by omega)
  have hzero := zero_stream
  go_enter Tryd.func56, Tryd.ntmps56
  go_upto_region 1 with fail
  refine wp_gen (fun W => Blk W w.heap.size 74 (can h m L).cells ∧ Blk W (w.heap.size + 1) 74 noStm.cells ∧ Below w.heap.size w W) ?_ ?_
  · refine ⟨?_, Blk.atNew noCells _ (by simp), ((Below.refl _ _).alloc (Nat.le_refl _) _).alloc (by simp) _⟩
    rw [← hA]
    exact (Blk.new w (can h m L).cells.toArray 74).alloc _
  rintro W ⟨b1, b2, hbw⟩
  have q1 := b1.cell ((can h m L).get_len hch)
  have f1 := b1.free 73
  have hst := b1.set 73 (.int .i64 (L + b.length))
  rw [Stm.set_len _ hch] at hst
  have hot := b2.other ⟨w.heap.size, 73, none⟩ (.int .i64 (L + b.length)) (show w.heap.size + 1 ≠ w.heap.size by omega)
  have q1' : W.cell? ⟨w.heap.size, 73, none⟩ = some (.int .i64 L) := q1
  have S1 := Lib.hid hst
  have S2 := Lib.hid hot
  clear hst hot q1 b1 b2 hzero
  go_wp2
  have hsc : ({ can h m L with len := L + b.length } : Stm) = can h m (L + b.length) := rfl
  rw [hsc] at S1
  refine wp_gen (fun W => Hid (Blk W w.heap.size 74 (can h m (L + b.length)).cells) ∧ Hid (Blk W (w.heap.size + 1) 74 noStm.cells) ∧ Below w.heap.size w W) ⟨S1, S2, hbw.setCell (Nat.le_refl _) _⟩ ?_
  clear S1 S2 q1' f1 hbw hsc
  rintro W1 ⟨S1, S2, hbw⟩
  obtain ⟨L2, hL2⟩ : ∃ L2, L + (b.length : Int) = L2 := ⟨_, rfl⟩
  rw [hL2] at S1
  have HL2 := Lib.hid hL2
  clear hL2
  go_loopw [1] (fun v wr => ∃ (g : ShaMath.St) (x r : List UInt8) (a1 : Option Addr) (c1 : Nat), v = .slice a1 r.length c1 ∧ r.length ≤ c1 ∧ c1 ≤ 9223372036854775807 ∧ Hid (Bytes w a1 r) ∧ Ok8 g ∧ x.length < 64 ∧ Hid (ShaMath.run ShaMath.blk g (x ++ r) = ShaMath.run ShaMath.blk h (m ++ b)) ∧ Hid (ShaMath.rest (x ++ r) = ShaMath.rest (m ++ b)) ∧ Hid (Blk wr w.heap.size 74 (can g x L2).cells) ∧ Hid (Blk wr (w.heap.size + 1) 74 noStm.cells) ∧ Below w.heap.size w wr ∧ Hid (KW wr)) (fun v _ => lenOf v)
  case atStart => exact ⟨h, m, b, ao, cap, rfl, hcap, h63, Lib.hid hb, o, hm, Lib.hid rfl, Lib.hid rfl, S1, S2, hbw, Lib.hid (hT.keep hbw (Nat.le_refl _))⟩
  case round =>
    obtain ⟨g, x, r, a1, c1, rfl, hrc, hc63, hby, og, hx, hrun, hrest, k1, k2, hbr, hK⟩ := hrel
    by_cases hr : 0 < r.length
    · obtain ⟨p, q, rfl, hp, hsrc0⟩ := sharp r a1 w hby.out hr
      have hsrc : ∀ j x, r[j]? = some x → wr.cell? ⟨p, q + j, none⟩ = some (.int .u8 x.toNat) := fun j x hx => (hbr.cell (p := ⟨p, q + j, none⟩) hp).trans (hsrc0 j x hx)
      have rI : (0 : Int) < r.length := by omega
      have xI : (x.length : Int) < 64 := by omega
      have hcx := can_held g x L2 (by omega)
      have qn := k1.out.cell ((can g x L2).get_n hcx)
      have qn' : wr.cell? ⟨w.heap.size, 72, none⟩ = some (.int .i64 (x.length : Int)) := qn
      have hsl := slice_from w.heap.size 8 x.length hx
      obtain ⟨n, hn⟩ : ∃ n, Nat.min r.length (64 - x.length) = n := ⟨_, rfl⟩
      have hn' : n = min r.length (64 - x.length) := hn.symm
      have hcl : (r.take n).length = n := by rw [List.length_take]; omega
      have hsrc' : ∀ j c, (r.take n)[j]? = some c → wr.cell? ⟨p, q + j, none⟩ = some (.int .u8 c.toNat) := fun j c hj => hsrc j c (by rw [List.getElem?_take] at hj; split at hj <;> simp_all)
      have hfit : 8 + x.length + n ≤ (can g x L2).cells.length := by rw [Stm.cells_length _ hcx]; omega
      have HQ := Lib.hid qn'
      clear qn S1 S2 hbw
      go_upto_region 4 with (with_reducible refine wpList_copy_blk rfl (.tmp 18) (.tmp 19) rfl w.heap.size (8 + x.length) (64 - x.length) (64 - x.length) p q r.length c1 rfl rfl _ _ k1.out (r.take n) n hcl hn.symm hsrc' hfit ?_; intro w2 hg2 hs2 hB2)
      simp only [Act.put, List.setIfInBounds_toArray, List.set_cons_zero, List.set_cons_succ]
      go_upto_region 4 with fail
      have k1' := hB2
      rw [Stm.copy_held _ hcx _ _ (by rw [hcl]; omega)] at k1'
      have k2' := k2.out.same (hg2.block (w.heap.size + 1) k2.out.lt (by simp))
      have hb2 : Below w.heap.size w w2 := hbr.grown hg2 hbr.size (fun k h => by cases h; exact Nat.le_refl _)
      have hh2 : (splice (can g x L2).held x.length (r.take n)).length = 64 := by rw [length_splice _ _ _ (by rw [hcl, hcx]; omega), hcx]
      have qm : w2.cell? ⟨w.heap.size, 72, none⟩ = some (.int .i64 (x.length : Int)) := k1'.cell (Stm.get_n _ hh2)
      have fm := k1'.free 72
      have hst := k1'.set 72 (.int .i64 ((x.length + n : Nat) : Int))
      rw [Stm.set_n _ hh2] at hst
      have hgr := can_grown g x (r.take n) L2 (by rw [hcl]; omega)
      rw [hcl] at hgr
      rw [hgr] at hst
      have hot := k2'.other ⟨w.heap.size, 72, none⟩ (.int .i64 ((x.length + n : Nat) : Int)) (show w.heap.size + 1 ≠ w.heap.size by omega)
      have hbs := hb2.setCell (p := ⟨w.heap.size, 72, none⟩) (Nat.le_refl _) (.int .i64 ((x.length + n : Nat) : Int))
      obtain ⟨o', hrun1, ho'⟩ := slice_rest p q r.length c1 n (by omega) hrc hc63 w2
      have hby' : Hid (Bytes w (some ⟨p, o', none⟩) (r.drop n)) := Lib.hid (by
        by_cases hnl : n < r.length
        · refine .inr ⟨p, o', rfl, hp, fun j x hj => ?_⟩
          rw [List.getElem?_drop] at hj
          rw [ho' hnl, Nat.add_assoc]
          exact hsrc0 _ _ hj
        · left; exact List.drop_of_length_le (by omega))
      have hdl : (r.drop n).length = r.length - n := List.length_drop
      have hch1 : (x ++ r.take n) ++ r.drop n = x ++ r := by rw [List.append_assoc, List.take_append_drop]
      have hpush : (((x.length + n : Nat) : Nat) : Int) = (x.length : Int) + n := by omega
      rw [hpush] at hst hot hbs
      have S1 := Lib.hid hst
      have S2 := Lib.hid hot
      have nI : (n : Int) ≤ 64 := by omega
      have HN := Lib.hid hn'
      have HDL := Lib.hid hdl
      have HCH := Lib.hid hch1
      have HCL := Lib.hid hcl
      clear hst hot hgr hh2 k1' k2' hB2 hb2 HQ hsrc hsrc' hsrc0 hfit hsl k1 k2 hpush hn hn' hdl hch1 hcl
      go_upto_region 6 with fail
      refine wp_gen (fun W => Hid (Blk W w.heap.size 74 (can g (x ++ r.take n) L2).cells) ∧ Hid (Blk W (w.heap.size + 1) 74 noStm.cells) ∧ Below w.heap.size w W) ⟨S1, S2, hbs⟩ ?_
      clear S1 S2 hbs qm fm hbr
      rintro W3 ⟨S1, S2, hb3⟩
      have hn2 := HN.out
      have hML : (x ++ r.take n).length = x.length + n := by rw [List.length_append, HCL.out]
      have hML64 : x.length + n ≤ 64 := by omega
      have hrn : n ≤ r.length := by omega
      have hn0 : 0 < n := by omega
      have hdl := HDL.out
      have hrunM : Hid (ShaMath.run ShaMath.blk g ((x ++ r.take n) ++ r.drop n) = ShaMath.run ShaMath.blk h (m ++ b)) := Lib.hid (by rw [HCH.out]; exact hrun.out)
      have hrestM : Hid (ShaMath.rest ((x ++ r.take n) ++ r.drop n) = ShaMath.rest (m ++ b)) := Lib.hid (by rw [HCH.out]; exact hrest.out)
      have qM := S1.out.cell (Stm.get_n _ (can_held g (x ++ r.take n) L2 (by omega)))
      have qM' : W3.cell? ⟨w.heap.size, 72, none⟩ = some (.int .i64 (((x ++ r.take n).length : Nat) : Int)) := qM
      have hr2 : (r.drop n).length ≤ c1 - n := by omega
      have hms : (r.drop n).length < r.length := by omega
      rw [← hdl]
      generalize r.drop n = r2 at hby' hrunM hrestM hr2 hms ⊢
      generalize hMe : x ++ r.take n = M at S1 hML hrunM hrestM qM' 
      clear qM hMe HDL HCH HCL HN hn2 hdl hrun hrest hby hrun1
      by_cases hf : M.length = 64
      · have hK3 := hT.keep hb3 (Nat.le_refl _)
        have cS := fun W (hk : KW W) => stir_any g og M W hf hk
        obtain ⟨V1, hV1⟩ : ∃ V, (u32s (lst g)).toArray = V := ⟨_, rfl⟩
        obtain ⟨V2, hV2⟩ : ∃ V, (u8s M).toArray = V := ⟨_, rfl⟩
        obtain ⟨V3, hV3⟩ : ∃ V, (u32s (lst (ShaMath.blk g M))).toArray = V := ⟨_, rfl⟩
        rw [hV1, hV2, hV3] at cS
        have hch2 := can_held g M L2 (by omega)
        have e1 : (((can g M L2).cells.drop 0).take 8).toArray = V1 := by rw [Stm.get_h]; exact hV1
        have e2 : (((can g M L2).cells.drop 8).take 64).toArray = V2 := by rw [Stm.get_all _ hch2, can_full g M L2 hf]; exact hV2
        have hcl74 := Stm.cells_length _ hch2
        rw [hf] at qM'
        clear hML hML64 hrn hn0 hr hx hrc
        go_upto_region 8 with (first
          | (with_reducible refine wpList_load_blk rfl 71 (.tmp 32) rfl w.heap.size 0 8 rfl _ _ S1.out (by rw [hcl74]; omega) V1 e1 _ rfl rfl (by kernel_rfl) ?_)
          | (with_reducible refine wpList_load_blk rfl 72 (.tmp 34) rfl w.heap.size 8 64 rfl _ _ S1.out (by rw [hcl74]; omega) V2 e2 _ rfl rfl (by kernel_rfl) ?_)
          | (go_at_call 59; refine (cS _ hK3).mono ?_; rintro e w4 ⟨rfl, hb4⟩; have k4 := S1.out.call hb4)
          | (with_reducible refine wpList_store_blk rfl 71 (.tmp 37) (.tmp 36) rfl w.heap.size 0 rfl _ _ k4 (u32s (lst (ShaMath.blk g M))) V3 (by rw [← hV3]) rfl (by rw [lenH, hcl74]; omega) (by rw [lenH]; kernel_rfl) (u32s_one _) ?_; intro w5 hg5 hs5 hB5))
        simp only [Act.put]
        rw [Stm.put_h] at hB5
        have hl5 : ({ can g M L2 with h := ShaMath.blk g M } : Stm).held.length = 64 := hch2
        have hc5 := Stm.cells_length _ hl5
        have k2a := (S2.out.call hb4)
        have k2b := k2a.same (hg5.block (w.heap.size + 1) k2a.lt (by simp))
        have hb45 : Below w.heap.size w w5 := (below_step hb3 hb3.size hb4).grown hg5 (Nat.le_trans hb3.size hb4.size) (fun k h => by cases h; exact Nat.le_refl _)
        obtain ⟨V4, hV4⟩ : ∃ V, (u8s (List.replicate 64 0)).toArray = V := ⟨_, rfl⟩
        have z24 : ∀ W, (zeroValue 72).run Tryd.prog W = .ok (.agg V4) W := fun W => by rw [← hV4]; kernel_rfl
        have sz64 : (u8s (List.replicate 64 0)).length = 64 := by rw [u8s_length, List.length_replicate]
        clear cS e1 e2 hV1 hV2 hV3 k4 S1 S2 qM' hK3
        go_wp2_with (first
          | (with_reducible refine wpList_store_blk rfl 72 (.tmp 39) (.tmp 38) rfl w.heap.size 8 rfl _ _ hB5 (u8s (List.replicate 64 0)) V4 (by rw [← hV4]) rfl (by rw [sz64, hc5]; omega) (by rw [sz64]; kernel_rfl) (u8s_one _) ?_; intro w6 hg6 hs6 hB6; rw [Stm.put_held _ hl5 _ (List.length_replicate ..)] at hB6; have q6 := hB6.cell (Stm.get_n _ (List.length_replicate ..)); have f6 := hB6.free 72))
        have k6 := hB6.set 72 (.int .i64 0)
        rw [Stm.set_n _ (List.length_replicate ..), can_empty] at k6
        have k6b := (k2b.same (hg6.block (w.heap.size + 1) k2b.lt (by simp))).other ⟨w.heap.size, 72, none⟩ (.int .i64 0) (show w.heap.size + 1 ≠ w.heap.size by omega)
        have hb6 := (hb45.grown hg6 hb45.size (fun k h => by cases h; exact Nat.le_refl _)).setCell (p := ⟨w.heap.size, 72, none⟩) (Nat.le_refl _) (.int .i64 0)
        have hrunE : ShaMath.run ShaMath.blk (ShaMath.blk g M) ([] ++ r2) = ShaMath.run ShaMath.blk h (m ++ b) := by rw [List.nil_append, ← run_block g M r2 hf]; exact hrunM.out
        have hrestE : ShaMath.rest ([] ++ r2) = ShaMath.rest (m ++ b) := by rw [List.nil_append, ← rest_block M r2 hf]; exact hrestM.out
        go_roundw
        case rel => exact ⟨ShaMath.blk g M, [], r2, some ⟨p, o', none⟩, c1 - n, rfl, hr2, by omega, hby', blk_ok g M, by simp, Lib.hid hrunE, Lib.hid hrestE, Lib.hid k6, Lib.hid k6b, hb6, Lib.hid (hT.keep hb6 (Nat.le_refl _))⟩
        case measure => show r2.length < r.length; exact hms
      · have hfI : ¬ (((M.length : Nat) : Int) = 64) := by omega
        have hfb : (((M.length : Nat) : Int) == 64) = false := by simpa using hfI
        have hK3 := Lib.hid (hT.keep hb3 (Nat.le_refl _))
        have hM64 : M.length < 64 := by omega
        clear hrn hn0 hr hx hrc hf hfI
        go_wp2
        go_roundw
        case rel => exact ⟨g, M, r2, some ⟨p, o', none⟩, c1 - n, rfl, hr2, by omega, hby', og, hM64, hrunM, hrestM, S1, S2, hb3, hK3⟩
        case measure => show r2.length < r.length; exact hms
    · have hr0 : r = [] := List.eq_nil_of_length_eq_zero (by omega)
      have rI : ¬ ((0 : Int) < r.length) := by omega
      have hrunE := hrun.out
      have hrestE := hrest.out
      rw [hr0, List.append_nil, ShaMath.run_short _ _ _ hx] at hrunE
      rw [hr0, List.append_nil, ShaMath.rest_short _ hx] at hrestE
      have k3 := k1.out
      have k4 := k2.out
      have hcx := can_held g x L2 (by omega)
      have hc74 := Stm.cells_length _ hcx
      have hn74 : noStm.cells.length = 74 := rfl
      have HE : Hid (can g x L2 = can (ShaMath.run ShaMath.blk h (m ++ b)) (ShaMath.rest (m ++ b)) (L + b.length)) := Lib.hid (by rw [← hrunE, ← hrestE, HL2.out])
      obtain ⟨V, hV⟩ : ∃ V, (can g x L2).cells.toArray = V := ⟨_, rfl⟩
      have eV : (((can g x L2).cells.drop 0).take 74).toArray = V := by rw [List.drop_zero, List.take_of_length_le (by omega)]; exact hV
      clear hr0 hr hrunE hrestE hrun hrest k1 k2 hby S1 S2 hbw
      go_wp2_with (first
        | (with_reducible refine wpList_load_blk rfl 74 (.tmp 2) rfl w.heap.size 0 74 rfl _ _ k3 (by rw [hc74]; omega) V eV _ rfl rfl (by kernel_rfl) ?_)
        | (with_reducible refine wpList_store_blk rfl 74 (.tmp 4) (.tmp 41) rfl (w.heap.size + 1) 0 rfl _ _ k4 (can g x L2).cells V (by rw [← hV]) rfl (by rw [hc74, hn74]; omega) (by rw [hc74]; kernel_rfl) (stm_one _) ?_; intro w7 hg7 hs7 hB7))
      refine bodyPost_ret (results_arr rfl _ _ (w.heap.size + 1) (can g x L2).cells rfl ?_ rfl rfl (by rw [hc74]; kernel_rfl)) rfl ⟨by rw [HE.out], ?_⟩
      · rw [Nat.zero_add, List.take_zero, List.nil_append, List.drop_of_length_le (by rw [hc74, hn74]; exact Nat.le_refl _), List.append_nil] at hB7; exact hB7
      · exact hbr.grown hg7 hbr.size (fun k h => by cases h; omega)
end Go.Proofs.YtcnemacakjemjaaDoor

/-! CONTRACT of package sum's end: the sum of a stream. CONDITIONS: package sum's roundWords hold what their initialiser lays ('KW'). -/
namespace Go.Proofs.YtcnemacakjemjaaDoor
open Go.RowKit CodeMath
set_option linter.unusedVariables false
set_option maxRecDepth 100000

theorem be_get (n : Int) (t : Nat) (h : t < 8) : (be n 8)[t]? = some (lowB (n / 256 ^ (7 - t))) := by
  rcases (show t = 0 ∨ t = 1 ∨ t = 2 ∨ t = 3 ∨ t = 4 ∨ t = 5 ∨ t = 6 ∨ t = 7 by omega) with rfl | rfl | rfl | rfl | rfl | rfl | rfl | rfl <;> rfl
/-- The last block when so many bytes of the number are in. -/
def lastL (P : List UInt8) (n : Int) (i : Nat) : List UInt8 := P ++ fillZ (be n 8) (i - 56)
theorem lastL_length (P : List UInt8) (n : Int) (i : Nat) (hP : P.length = 56) (hi : i ≤ 64) : (lastL P n i).length = 64 := by
  unfold lastL
  rw [List.length_append, fillZ_length _ _ (by rw [be_length]; omega), hP, be_length]
theorem lastL_set (P : List UInt8) (n : Int) (i : Nat) (hP : P.length = 56) (h56 : 56 ≤ i) (hi : i < 64) : (lastL P n i).set i (lowB (n / 256 ^ (63 - i))) = lastL P n (i + 1) := by
  unfold lastL
  rw [List.set_append_right _ _ (by omega), hP, fillZ_set _ _ _ (by rw [be_get n (i - 56) (by omega), show 7 - (i - 56) = 63 - i by omega]), show i - 56 + 1 = i + 1 - 56 by omega]
theorem lastL_end (P : List UInt8) (n : Int) : lastL P n 64 = P ++ be n 8 := by
  unfold lastL
  rw [show 64 - 56 = (be n 8).length by rw [be_length], fillZ_end]
theorem lastL_start (P : List UInt8) (n : Int) : lastL P n 56 = P ++ List.replicate 8 0 := by
  unfold lastL
  rw [Nat.sub_self, fillZ_zero, be_length]
theorem fin_one (h : ShaMath.St) (m : List UInt8) (N : Nat) (hm : m.length = N % 64) (hs : m.length < 56) :
    ShaMath.run ShaMath.blk h (m ++ ShaMath.pad N) = ShaMath.blk h ((m ++ (128 :: List.replicate (55 - m.length) 0)) ++ be (N * 8 : Nat) 8) := by
  have hn : ShaMath.noughts N = 55 - m.length := by unfold ShaMath.noughts; omega
  have e : m ++ ShaMath.pad N = (m ++ (128 :: List.replicate (55 - m.length) 0)) ++ be (N * 8 : Nat) 8 := by unfold ShaMath.pad; rw [hn]; simp
  have hl : ((m ++ (128 :: List.replicate (55 - m.length) 0)) ++ be (N * 8 : Nat) 8).length = 64 := by simp [be_length]; omega
  rw [e, ← List.append_nil ((m ++ (128 :: List.replicate (55 - m.length) 0)) ++ be (N * 8 : Nat) 8), run_block _ _ _ hl, ShaMath.run_short _ _ _ (by simp), List.append_nil]
theorem fin_two (h : ShaMath.St) (m : List UInt8) (N : Nat) (hm : m.length = N % 64) (hs : 56 ≤ m.length) (h64 : m.length < 64) :
    ShaMath.run ShaMath.blk h (m ++ ShaMath.pad N) = ShaMath.blk (ShaMath.blk h (m ++ (128 :: List.replicate (63 - m.length) 0))) (List.replicate 56 0 ++ be (N * 8 : Nat) 8) := by
  have hn : ShaMath.noughts N = (63 - m.length) + 56 := by unfold ShaMath.noughts; omega
  have e : m ++ ShaMath.pad N = (m ++ (128 :: List.replicate (63 - m.length) 0)) ++ ((List.replicate 56 0 ++ be (N * 8 : Nat) 8) ++ []) := by unfold ShaMath.pad; rw [hn, ← List.replicate_append_replicate]; simp
  have hl1 : (m ++ (128 :: List.replicate (63 - m.length) 0)).length = 64 := by simp; omega
  have hl2 : (List.replicate 56 (0 : UInt8) ++ be (N * 8 : Nat) 8).length = 64 := by simp [be_length]
  rw [e, run_block _ _ _ hl1, run_block _ _ _ hl2, ShaMath.run_short _ _ _ (by simp)]
/-- What is held, 128 behind it. -/
theorem marked (m : List UInt8) (h : m.length < 64) : (m ++ List.replicate (64 - m.length) 0).set m.length 128 = m ++ (128 :: List.replicate (63 - m.length) 0) := by
  rw [List.set_append_right _ _ (Nat.le_refl _), Nat.sub_self, show 64 - m.length = (63 - m.length) + 1 by omega, List.replicate_succ, List.set_cons_zero]
theorem marked_low (m : List UInt8) (h : m.length < 56) : m ++ (128 :: List.replicate (63 - m.length) 0) = (m ++ (128 :: List.replicate (55 - m.length) 0)) ++ List.replicate 8 0 := by
  rw [show 63 - m.length = (55 - m.length) + 8 by omega, ← List.replicate_append_replicate]; simp
set_option maxRecDepth 100000 in
set_option maxHeartbeats 4000000 in
theorem end_any (h : ShaMath.St) (o : Ok8 h) (m : List UInt8) (hm : m.length < 64) (N : Nat) (hN : m.length = N % 64) (hN1 : N ≤ 1152921504606846976) (w : World) (hT : KW w) :
    Calls Tryd.prog 55 #[.agg (can h m N).cells.toArray] w fun e w' => e = .returned (.agg (u8s (ShaMath.fin h m N)).toArray) ∧ Below w.heap.size w w' := by
  obtain ⟨A, hA⟩ : ∃ A, (can h m N).cells.toArray = A := ⟨_, rfl⟩
  rw [hA]
  have hch := can_held h m N (by omega)
  have hc74 := Stm.cells_length _ hch
  have mI : (m.length : Int) < 64 := by omega
  have HN := Lib.hid hN
  clear hN
  go_enter Tryd.func55, Tryd.ntmps55
  go_upto_region 1 with fail
  refine wp_gen (fun W => Blk W w.heap.size 74 (can h m N).cells ∧ Blk W (w.heap.size + 1) 68 (u8s (List.replicate 32 0)) ∧ Below w.heap.size w W) ?_ ?_
  · refine ⟨?_, Blk.atNew _ _ (by simp), ((Below.refl _ _).alloc (Nat.le_refl _) _).alloc (by simp) _⟩
    rw [← hA]
    exact (Blk.new w (can h m N).cells.toArray 74).alloc _
  rintro W ⟨b1, b2, hbw⟩
  obtain ⟨V1, hV1⟩ : ∃ V, (u8s (can h m N).held).toArray = V := ⟨_, rfl⟩
  have e1 : (((can h m N).cells.drop 8).take 64).toArray = V1 := by rw [Stm.get_all _ hch]; exact hV1
  have hl64 : (u8s (can h m N).held).length = 64 := by rw [u8s_length, hch]
  obtain ⟨V0, hV0⟩ : ∃ V, (u8s (List.replicate 64 0)).toArray = V := ⟨_, rfl⟩
  have z24 : ∀ W, (zeroValue 72).run Tryd.prog W = .ok (.agg V0) W := fun W => by rw [← hV0]; kernel_rfl
  have sz64 : (u8s (List.replicate 64 0)).length = 64 := by rw [u8s_length, List.length_replicate]
  have bn : Blk (W.alloc (.cells V0 72)) W.heap.size 72 (u8s (List.replicate 64 0)) := by rw [← hV0]; exact Blk.new W _ _
  go_upto_region 2 with (first
    | (with_reducible refine wpList_load_blk rfl 72 (.tmp 6) rfl w.heap.size 8 64 rfl _ _ b1 (by rw [hc74]; omega) V1 e1 _ rfl rfl (by kernel_rfl) ?_)
    | (with_reducible refine wpList_store_blk rfl 72 (.tmp 3) (.tmp 7) rfl W.heap.size 0 rfl _ _ bn (u8s (can h m N).held) V1 (by rw [← hV1]) rfl (by rw [hl64, sz64]; omega) (by rw [hl64]; kernel_rfl) (u8s_one _) ?_; intro w2 hg2 hs2 hB2))
  simp only [Act.put]
  rw [Nat.zero_add, List.take_zero, List.nil_append, List.drop_of_length_le (by rw [hl64, sz64]; exact Nat.le_refl _), List.append_nil] at hB2
  have hWs : w.heap.size + 1 < W.heap.size := b2.lt
  have b1' := (b1.alloc (.cells V0 72)).same (hg2.block w.heap.size (b1.alloc _).lt (by simp; omega))
  have b2' := (b2.alloc (.cells V0 72)).same (hg2.block (w.heap.size + 1) (b2.alloc _).lt (by simp; omega))
  have hbw2 : Below w.heap.size w w2 := (hbw.alloc hbw.size _).grown hg2 (by have := hbw.size; simp; omega) (fun k h => by cases h; exact hbw.size)
  generalize W.heap.size = A6 at hB2 hWs ⊢
  have hheld : (can h m N).held = m ++ List.replicate (64 - m.length) 0 := rfl
  have qn : w2.cell? ⟨w.heap.size, 72, none⟩ = some (.int .i64 (m.length : Int)) := b1'.cell ((can h m N).get_n hch)
  obtain ⟨c0, hc0⟩ : ∃ c, (can h m N).held[m.length]? = some c := ⟨_, List.getElem?_eq_getElem (by omega)⟩
  have ca := hB2.cell (u8s_get hc0)
  have cf := hB2.free m.length
  have hst := hB2.set m.length (.int .u8 (((128 : UInt8).toNat : Nat) : Int))
  rw [u8s_set, hheld, marked m hm] at hst
  have ho1 := b1'.other ⟨A6, m.length, none⟩ (.int .u8 (((128 : UInt8).toNat : Nat) : Int)) (show w.heap.size ≠ A6 by omega)
  have ho2 := b2'.other ⟨A6, m.length, none⟩ (.int .u8 (((128 : UInt8).toNat : Nat) : Int)) (show w.heap.size + 1 ≠ A6 by omega)
  have hb3 := hbw2.setCell (p := ⟨A6, m.length, none⟩) (show w.heap.size ≤ A6 by omega) (.int .u8 128)
  have S1 := Lib.hid hst
  have S2 := Lib.hid ho1
  have S3 := Lib.hid ho2
  clear hst ho1 ho2 hB2 b1' b2' b1 b2 hc0 hheld hbw2 hbw e1 bn
  go_upto_region 3 with fail
  refine wp_gen (fun W => Hid (Blk W w.heap.size 74 (can h m N).cells) ∧ Hid (Blk W (w.heap.size + 1) 68 (u8s (List.replicate 32 0))) ∧ Hid (Blk W A6 72 (u8s (m ++ (128 :: List.replicate (63 - m.length) 0)))) ∧ Below w.heap.size w W) ⟨S2, S3, S1, hb3⟩ ?_
  clear S1 S2 S3 hb3 qn ca cf
  rintro W6 ⟨d1, d2, d3, db⟩
  have qn : W6.cell? ⟨w.heap.size, 72, none⟩ = some (.int .i64 (m.length : Int)) := d1.out.cell ((can h m N).get_n hch)
  by_cases hs : m.length < 56
  · have hI : ¬ ((56 : Int) ≤ m.length) := by omega
    obtain ⟨h1, hh1⟩ : ∃ h1, h = h1 := ⟨_, rfl⟩
    obtain ⟨P, hPe⟩ : ∃ P, m ++ (128 :: List.replicate (55 - m.length) 0) = P := ⟨_, rfl⟩
    have hP : P.length = 56 := by rw [← hPe]; simp; omega
    have hfin := fin_one h m N HN.out hs
    have d3' := d3.out
    rw [marked_low m hs, hPe, ← lastL_start P (N * 8 : Nat)] at d3'
    rw [hPe] at hfin
    have D3 := Lib.hid d3'
    have D1 := d1
    rw [hh1] at D1
    have HF : Hid (ShaMath.run ShaMath.blk h (m ++ ShaMath.pad N) = ShaMath.blk h1 (P ++ be (N * 8 : Nat) 8)) := Lib.hid (by rw [hfin, hh1])
    have o1 : Ok8 h1 := hh1 ▸ o
    clear d3 d3' d1 hfin hPe hh1 hs
    go_upto_region 6 with fail
    refine wp_gen (fun W => Hid (Blk W w.heap.size 74 (can h1 m N).cells) ∧ Hid (Blk W (w.heap.size + 1) 68 (u8s (List.replicate 32 0))) ∧ Hid (Blk W A6 72 (u8s (lastL P (N * 8 : Nat) 56))) ∧ Below w.heap.size w W) ⟨D1, d2, D3, db⟩ ?_
    rintro W7 ⟨g1, g2, g3, gb⟩
    have q73 : W7.cell? ⟨w.heap.size, 73, none⟩ = some (.int .i64 (N : Int)) := g1.out.cell (Stm.get_len _ (can_held h1 m N (by omega)))
    have nI : (N : Int) ≤ 1152921504606846976 := by omega
    go_upto_region 8 with fail
    go_loopw [5] (fun ix wr => ∃ i : Nat, 56 ≤ i ∧ i ≤ 64 ∧ ix = .int .i64 i ∧ Hid (Blk wr w.heap.size 74 (can h1 m N).cells) ∧ Hid (Blk wr (w.heap.size + 1) 68 (u8s (List.replicate 32 0))) ∧ Hid (Blk wr A6 72 (u8s (lastL P (N * 8 : Nat) i))) ∧ Below w.heap.size w wr) (fun ix _ => 64 - (intOf ix).toNat)
    case atStart => exact ⟨56, by omega, by omega, rfl, g1, g2, g3, gb⟩
    case round =>
      obtain ⟨i, hi0, hi1, rfl, k1, k2, k3, kb⟩ := hrel
      by_cases hi : i < 64
      · have iI : (i : Int) < 64 := by omega
        have iJ : (56 : Int) ≤ i := by omega
        have hll := lastL_length P (N * 8 : Nat) i hP (by omega)
        obtain ⟨c0, hc0⟩ : ∃ c, (lastL P (N * 8 : Nat) i)[i]? = some c := ⟨_, List.getElem?_eq_getElem (by omega)⟩
        have ca := k3.out.cell (u8s_get hc0)
        have cf := k3.out.free i
        have hst := k3.out.set i (.int .u8 (((lowB (((N * 8 : Nat) : Int) / 256 ^ (63 - i))).toNat : Nat) : Int))
        rw [u8s_set, lastL_set P _ i hP hi0 hi] at hst
        have ho1 := k1.out.other ⟨A6, i, none⟩ (.int .u8 (((lowB (((N * 8 : Nat) : Int) / 256 ^ (63 - i))).toNat : Nat) : Int)) (show w.heap.size ≠ A6 by omega)
        have ho2 := k2.out.other ⟨A6, i, none⟩ (.int .u8 (((lowB (((N * 8 : Nat) : Int) / 256 ^ (63 - i))).toNat : Nat) : Int)) (show w.heap.size + 1 ≠ A6 by omega)
        have hval : (8 * (N : Int)) / 2 ^ (8 * (63 - i)) % 256 = ((lowB (((N * 8 : Nat) : Int) / 256 ^ (63 - i))).toNat : Int) := by rw [show (8 * (N : Int)) = ((N * 8 : Nat) : Int) by omega]; exact shifted' _ _
        rw [← hval] at hst ho1 ho2
        have S1 := Lib.hid hst
        have S2 := Lib.hid ho1
        have S3 := Lib.hid ho2
        clear hst ho1 ho2 hc0 hll g1 g2 g3 gb q73 k1 k2 k3 hval
        go_wp2
        go_roundw
        case rel => exact ⟨i + 1, by omega, by omega, by go_num, S2, S3, S1, kb.setCell (p := ⟨A6, i, none⟩) (show w.heap.size ≤ A6 by omega) _⟩
        case measure => simp [intOf]; omega
      · have hi64 : i = 64 := by omega
        have iI : ¬ ((i : Int) < 64) := by omega
        have k3' := k3.out
        rw [hi64, lastL_end] at k3'
        have hlen : (P ++ be (N * 8 : Nat) 8).length = 64 := by rw [List.length_append, hP, be_length]
        generalize P ++ be (N * 8 : Nat) 8 = Q at k3' hlen HF
        have hK := hT.keep kb (Nat.le_refl _)
        have cS := fun W (hk : KW W) => stir_any h1 o1 Q W hlen hk
        have cB := fun W => bytesOf_any (ShaMath.blk h1 Q) W
        obtain ⟨U1, hU1⟩ : ∃ V, (u32s (lst h1)).toArray = V := ⟨_, rfl⟩
        obtain ⟨U2, hU2⟩ : ∃ V, (u8s Q).toArray = V := ⟨_, rfl⟩
        obtain ⟨U3, hU3⟩ : ∃ V, (u32s (lst (ShaMath.blk h1 Q))).toArray = V := ⟨_, rfl⟩
        obtain ⟨U4, hU4⟩ : ∃ V, (u8s (ShaMath.blk h1 Q).bytes).toArray = V := ⟨_, rfl⟩
        rw [hU1, hU2, hU3] at cS
        rw [hU3, hU4] at cB
        have r1 : (((can h1 m N).cells.drop 0).take 8).toArray = U1 := by rw [Stm.get_h]; exact hU1
        have r2 : (((u8s Q).drop 0).take 64).toArray = U2 := by rw [List.drop_zero, List.take_of_length_le (by rw [u8s_length]; omega)]; exact hU2
        have hcl1 := Stm.cells_length _ (can_held h1 m N (by omega))
        have k1' := k1.out
        have k2' := k2.out
        have hbl := (ShaMath.blk h1 Q).bytes_length
        have HE : Hid (ShaMath.fin h m N = (ShaMath.blk h1 Q).bytes) := Lib.hid (by unfold ShaMath.fin; rw [HF.out])
        clear hi64 hi k1 k2 k3 g1 g2 g3 gb q73 hU1 hU2 hU3 HF
        go_wp2_with (first
          | (with_reducible refine wpList_load_blk rfl 71 (.tmp 36) rfl w.heap.size 0 8 rfl _ _ k1' (by rw [hcl1]; omega) U1 r1 _ rfl rfl (by kernel_rfl) ?_)
          | (with_reducible refine wpList_load_blk rfl 72 (.tmp 3) rfl A6 0 64 rfl _ _ k3' (by rw [u8s_length]; omega) U2 r2 _ rfl rfl (by kernel_rfl) ?_)
          | (go_at_call 59; refine (cS _ hK).mono ?_; rintro e x1 ⟨rfl, hx1⟩)
          | (go_at_call 60; refine (cB _).mono ?_; rintro e x2 ⟨rfl, hx2⟩; have k5 := (k2'.call hx1).call hx2)
          | (with_reducible refine wpList_store_blk rfl 68 (.tmp 2) (.tmp 40) rfl (w.heap.size + 1) 0 rfl _ _ k5 (u8s (ShaMath.blk h1 Q).bytes) U4 (by rw [← hU4]) rfl (by rw [u8s_length, u8s_length, List.length_replicate, hbl]; omega) (by rw [u8s_length, hbl]; kernel_rfl) (u8s_one _) ?_; intro x3 hg7 hs7 hB7))
        refine bodyPost_ret (results_arr rfl _ _ (w.heap.size + 1) (u8s (ShaMath.blk h1 Q).bytes) rfl ?_ rfl rfl (by rw [u8s_length, hbl]; kernel_rfl)) rfl ⟨by rw [HE.out, hU4], ?_⟩
        · rw [Nat.zero_add, List.take_zero, List.nil_append, List.drop_of_length_le (by rw [u8s_length, u8s_length, List.length_replicate, hbl]; exact Nat.le_refl _), List.append_nil] at hB7; exact hB7
        · have hs1 := kb.size
          have hs2 := hx1.size
          have hs3 := hx2.size
          exact ((below_step kb hs1 hx1).trans (hx2.mono (by omega))).grown hg7 (by omega) (fun k h => by cases h; omega)
  · have hI : (56 : Int) ≤ m.length := by omega
    obtain ⟨M1, hM1⟩ : ∃ M1, m ++ (128 :: List.replicate (63 - m.length) 0) = M1 := ⟨_, rfl⟩
    have hlen1 : M1.length = 64 := by rw [← hM1]; simp; omega
    obtain ⟨h1, hh1⟩ : ∃ h1, ShaMath.blk h M1 = h1 := ⟨_, rfl⟩
    obtain ⟨P, hPe⟩ : ∃ P, List.replicate 56 (0 : UInt8) = P := ⟨_, rfl⟩
    have hP : P.length = 56 := by rw [← hPe]; simp
    have hfin := fin_two h m N HN.out (by omega) hm
    rw [hM1, hh1, hPe] at hfin
    have HF := Lib.hid hfin
    have o1 : Ok8 h1 := hh1 ▸ blk_ok h M1
    have e3 := d3.out
    rw [hM1] at e3
    have hK6 := hT.keep db (Nat.le_refl _)
    have cS := fun W (hk : KW W) => stir_any h o M1 W hlen1 hk
    rw [hh1] at cS
    obtain ⟨U1, hU1⟩ : ∃ V, (u32s (lst h)).toArray = V := ⟨_, rfl⟩
    obtain ⟨U2, hU2⟩ : ∃ V, (u8s M1).toArray = V := ⟨_, rfl⟩
    obtain ⟨U3, hU3⟩ : ∃ V, (u32s (lst h1)).toArray = V := ⟨_, rfl⟩
    rw [hU1, hU2, hU3] at cS
    have r1 : (((can h m N).cells.drop 0).take 8).toArray = U1 := by rw [Stm.get_h]; exact hU1
    have r2 : (((u8s M1).drop 0).take 64).toArray = U2 := by rw [List.drop_zero, List.take_of_length_le (by rw [u8s_length]; omega)]; exact hU2
    have d1' := d1.out
    have d2' := d2.out
    have hm64 : (u8s M1).length = 64 := by rw [u8s_length, hlen1]
    clear d1 d2 d3 hfin hM1 hh1 hs
    go_upto_region 6 with (first
      | (with_reducible refine wpList_load_blk rfl 71 (.tmp 14) rfl w.heap.size 0 8 rfl _ _ d1' (by rw [hc74]; omega) U1 r1 _ rfl rfl (by kernel_rfl) ?_)
      | (with_reducible refine wpList_load_blk rfl 72 (.tmp 3) rfl A6 0 64 rfl _ _ e3 (by rw [u8s_length]; omega) U2 r2 _ rfl rfl (by kernel_rfl) ?_)
      | (go_at_call 59; refine (cS _ hK6).mono ?_; rintro e x1 ⟨rfl, hx1⟩; have k1a := d1'.call hx1; have k3a := e3.call hx1)
      | (with_reducible refine wpList_store_blk rfl 71 (.tmp 18) (.tmp 17) rfl w.heap.size 0 rfl _ _ k1a (u32s (lst h1)) U3 (by rw [← hU3]) rfl (by rw [lenH, hc74]; omega) (by rw [lenH]; kernel_rfl) (u32s_one _) ?_; intro w5 hg5 hs5 hB5; have k3b := k3a.same (hg5.block A6 k3a.lt (by simp; omega)))
      | (with_reducible refine wpList_store_blk rfl 72 (.tmp 3) (.tmp 19) rfl A6 0 rfl _ _ k3b (u8s (List.replicate 64 0)) V0 (by rw [← hV0]) rfl (by rw [sz64, hm64]; omega) (by rw [sz64]; kernel_rfl) (u8s_one _) ?_; intro w6 hg6 hs6 hB6))
    simp only [Act.put]
    rw [Stm.put_h] at hB5
    rw [Nat.zero_add, List.take_zero, List.nil_append, List.drop_of_length_le (by rw [sz64, hm64]; exact Nat.le_refl _), List.append_nil, show List.replicate 64 (0 : UInt8) = List.replicate 56 0 ++ List.replicate 8 0 from rfl, hPe, ← lastL_start P (N * 8 : Nat)] at hB6
    have k2a := d2'.call hx1
    have k2b := k2a.same (hg5.block (w.heap.size + 1) k2a.lt (by simp))
    have k2c := k2b.same (hg6.block (w.heap.size + 1) k2b.lt (by simp; omega))
    have hB5' := hB5.same (hg6.block w.heap.size hB5.lt (by simp; omega))
    have db1 := below_step db db.size hx1
    have db2 := db1.grown hg5 db1.size (fun k h => by cases h; exact Nat.le_refl _)
    have db3 := db2.grown hg6 db2.size (fun k h => by cases h; omega)
    have D1 : Hid (Blk w6 w.heap.size 74 (can h1 m N).cells) := Lib.hid hB5'
    have D2 := Lib.hid k2c
    have D3 := Lib.hid hB6
    clear hB5 hB5' hB6 k2a k2b k2c k1a k3a k3b cS r1 r2 d1' d2' e3 hU1 hU2 hU3 db db1 db2 hK6 qn
    refine wp_gen (fun W => Hid (Blk W w.heap.size 74 (can h1 m N).cells) ∧ Hid (Blk W (w.heap.size + 1) 68 (u8s (List.replicate 32 0))) ∧ Hid (Blk W A6 72 (u8s (lastL P (N * 8 : Nat) 56))) ∧ Below w.heap.size w W) ⟨D1, D2, D3, db3⟩ ?_
    rintro W7 ⟨g1, g2, g3, gb⟩
    have q73 : W7.cell? ⟨w.heap.size, 73, none⟩ = some (.int .i64 (N : Int)) := g1.out.cell (Stm.get_len _ (can_held h1 m N (by omega)))
    have nI : (N : Int) ≤ 1152921504606846976 := by omega
    go_upto_region 8 with fail
    go_loopw [5] (fun ix wr => ∃ i : Nat, 56 ≤ i ∧ i ≤ 64 ∧ ix = .int .i64 i ∧ Hid (Blk wr w.heap.size 74 (can h1 m N).cells) ∧ Hid (Blk wr (w.heap.size + 1) 68 (u8s (List.replicate 32 0))) ∧ Hid (Blk wr A6 72 (u8s (lastL P (N * 8 : Nat) i))) ∧ Below w.heap.size w wr) (fun ix _ => 64 - (intOf ix).toNat)
    case atStart => exact ⟨56, by omega, by omega, rfl, g1, g2, g3, gb⟩
    case round =>
      obtain ⟨i, hi0, hi1, rfl, k1, k2, k3, kb⟩ := hrel
      by_cases hi : i < 64
      · have iI : (i : Int) < 64 := by omega
        have iJ : (56 : Int) ≤ i := by omega
        have hll := lastL_length P (N * 8 : Nat) i hP (by omega)
        obtain ⟨c0, hc0⟩ : ∃ c, (lastL P (N * 8 : Nat) i)[i]? = some c := ⟨_, List.getElem?_eq_getElem (by omega)⟩
        have ca := k3.out.cell (u8s_get hc0)
        have cf := k3.out.free i
        have hst := k3.out.set i (.int .u8 (((lowB (((N * 8 : Nat) : Int) / 256 ^ (63 - i))).toNat : Nat) : Int))
        rw [u8s_set, lastL_set P _ i hP hi0 hi] at hst
        have ho1 := k1.out.other ⟨A6, i, none⟩ (.int .u8 (((lowB (((N * 8 : Nat) : Int) / 256 ^ (63 - i))).toNat : Nat) : Int)) (show w.heap.size ≠ A6 by omega)
        have ho2 := k2.out.other ⟨A6, i, none⟩ (.int .u8 (((lowB (((N * 8 : Nat) : Int) / 256 ^ (63 - i))).toNat : Nat) : Int)) (show w.heap.size + 1 ≠ A6 by omega)
        have hval : (8 * (N : Int)) / 2 ^ (8 * (63 - i)) % 256 = ((lowB (((N * 8 : Nat) : Int) / 256 ^ (63 - i))).toNat : Int) := by rw [show (8 * (N : Int)) = ((N * 8 : Nat) : Int) by omega]; exact shifted' _ _
        rw [← hval] at hst ho1 ho2
        have S1 := Lib.hid hst
        have S2 := Lib.hid ho1
        have S3 := Lib.hid ho2
        clear hst ho1 ho2 hc0 hll g1 g2 g3 gb q73 k1 k2 k3 hval
        go_wp2
        go_roundw
        case rel => exact ⟨i + 1, by omega, by omega, by go_num, S2, S3, S1, kb.setCell (p := ⟨A6, i, none⟩) (show w.heap.size ≤ A6 by omega) _⟩
        case measure => simp [intOf]; omega
      · have hi64 : i = 64 := by omega
        have iI : ¬ ((i : Int) < 64) := by omega
        have k3' := k3.out
        rw [hi64, lastL_end] at k3'
        have hlen : (P ++ be (N * 8 : Nat) 8).length = 64 := by rw [List.length_append, hP, be_length]
        generalize P ++ be (N * 8 : Nat) 8 = Q at k3' hlen HF
        have hK := hT.keep kb (Nat.le_refl _)
        have cS := fun W (hk : KW W) => stir_any h1 o1 Q W hlen hk
        have cB := fun W => bytesOf_any (ShaMath.blk h1 Q) W
        obtain ⟨U1, hU1⟩ : ∃ V, (u32s (lst h1)).toArray = V := ⟨_, rfl⟩
        obtain ⟨U2, hU2⟩ : ∃ V, (u8s Q).toArray = V := ⟨_, rfl⟩
        obtain ⟨U3, hU3⟩ : ∃ V, (u32s (lst (ShaMath.blk h1 Q))).toArray = V := ⟨_, rfl⟩
        obtain ⟨U4, hU4⟩ : ∃ V, (u8s (ShaMath.blk h1 Q).bytes).toArray = V := ⟨_, rfl⟩
        rw [hU1, hU2, hU3] at cS
        rw [hU3, hU4] at cB
        have r1 : (((can h1 m N).cells.drop 0).take 8).toArray = U1 := by rw [Stm.get_h]; exact hU1
        have r2 : (((u8s Q).drop 0).take 64).toArray = U2 := by rw [List.drop_zero, List.take_of_length_le (by rw [u8s_length]; omega)]; exact hU2
        have hcl1 := Stm.cells_length _ (can_held h1 m N (by omega))
        have k1' := k1.out
        have k2' := k2.out
        have hbl := (ShaMath.blk h1 Q).bytes_length
        have HE : Hid (ShaMath.fin h m N = (ShaMath.blk h1 Q).bytes) := Lib.hid (by unfold ShaMath.fin; rw [HF.out])
        clear hi64 hi k1 k2 k3 g1 g2 g3 gb q73 hU1 hU2 hU3 HF
        go_wp2_with (first
          | (with_reducible refine wpList_load_blk rfl 71 (.tmp 36) rfl w.heap.size 0 8 rfl _ _ k1' (by rw [hcl1]; omega) U1 r1 _ rfl rfl (by kernel_rfl) ?_)
          | (with_reducible refine wpList_load_blk rfl 72 (.tmp 3) rfl A6 0 64 rfl _ _ k3' (by rw [u8s_length]; omega) U2 r2 _ rfl rfl (by kernel_rfl) ?_)
          | (go_at_call 59; refine (cS _ hK).mono ?_; rintro e x1 ⟨rfl, hx1⟩)
          | (go_at_call 60; refine (cB _).mono ?_; rintro e x2 ⟨rfl, hx2⟩; have k5 := (k2'.call hx1).call hx2)
          | (with_reducible refine wpList_store_blk rfl 68 (.tmp 2) (.tmp 40) rfl (w.heap.size + 1) 0 rfl _ _ k5 (u8s (ShaMath.blk h1 Q).bytes) U4 (by rw [← hU4]) rfl (by rw [u8s_length, u8s_length, List.length_replicate, hbl]; omega) (by rw [u8s_length, hbl]; kernel_rfl) (u8s_one _) ?_; intro x3 hg7 hs7 hB7))
        refine bodyPost_ret (results_arr rfl _ _ (w.heap.size + 1) (u8s (ShaMath.blk h1 Q).bytes) rfl ?_ rfl rfl (by rw [u8s_length, hbl]; kernel_rfl)) rfl ⟨by rw [HE.out, hU4], ?_⟩
        · rw [Nat.zero_add, List.take_zero, List.nil_append, List.drop_of_length_le (by rw [u8s_length, u8s_length, List.length_replicate, hbl]; exact Nat.le_refl _), List.append_nil] at hB7; exact hB7
        · have hs1 := kb.size
          have hs2 := hx1.size
          have hs3 := hx2.size
          exact ((below_step kb hs1 hx1).trans (hx2.mono (by omega))).grown hg7 (by omega) (fun k h => by cases h; omega)
end Go.Proofs.YtcnemacakjemjaaDoor

/-! CONTRACTS of package sum's Begin, sumBehind, Sum. CONDITIONS: package sum's roundWords hold what their initialiser lays ('KW'). -/
namespace Go.Proofs.YtcnemacakjemjaaDoor
open Go.RowKit CodeMath
set_option linter.unusedVariables false
set_option maxRecDepth 100000

theorem wpList_build_as {P : Program} {ops : Array Oper} {rest : List Oper} {o : Oper} {a : Act} {w : World} {Q : Exit → Act → World → Prop} (hg : o.guard = none) (t : TypeId) (parts : Array (Nat × Operand)) (ho : o.op = .build t parts) (V : Array Value)
    (hV : P.built t (parts.map fun (i, x) => (i, a.eval x)).toList = some V)
    (h : wpList P ops Q rest (a.put o.dst (.agg V)) w) : wpList P ops Q (o :: rest) a w :=
  wpList_build hg t parts ho (by rw [hV]; rfl) (by rw [hV]; exact h)
theorem h0_ok : Ok8 ShaMath.h0 := ⟨by decide, by decide, by decide, by decide, by decide, by decide, by decide, by decide⟩
theorem begin_any (w : World) : Calls Tryd.prog 57 #[] w fun e w' => e = .returned (.agg (can ShaMath.h0 [] 0).cells.toArray) ∧ Below w.heap.size w w' := by
  have hzero := zero_stream
  obtain ⟨V, hV⟩ : ∃ V, (can ShaMath.h0 [] 0).cells.toArray = V := ⟨_, rfl⟩
  rw [hV]
  have bn : Blk (w.alloc (.cells noCells 74)) w.heap.size 74 noStm.cells := Blk.new w noCells _
  have hl : (can ShaMath.h0 [] 0).cells.length = 74 := rfl
  have hn : noStm.cells.length = 74 := rfl
  go_enter Tryd.func57, Tryd.ntmps57
  go_wp2_with (first
    | (with_reducible refine wpList_build_as rfl 74 #[(0, .tmp 1)] rfl V (by rw [← hV]; kernel_rfl) ?_)
    | (with_reducible refine wpList_store_blk rfl 74 (.tmp 0) (.tmp 2) rfl w.heap.size 0 rfl _ _ bn (can ShaMath.h0 [] 0).cells V (by rw [← hV]) rfl (by rw [hl, hn]; omega) (by rw [hl]; kernel_rfl) (stm_one _) ?_; intro w7 hg7 hs7 hB7))
  refine bodyPost_ret (results_arr rfl _ _ w.heap.size (can ShaMath.h0 [] 0).cells rfl ?_ rfl rfl (by rw [hl]; kernel_rfl)) rfl ⟨by rw [hV], ?_⟩
  · rw [Nat.zero_add, List.take_zero, List.nil_append, List.drop_of_length_le (by rw [hl, hn]; exact Nat.le_refl _), List.append_nil] at hB7; exact hB7
  · exact ((Below.refl _ _).alloc (Nat.le_refl _) _).grown hg7 (by simp) (fun k h => by cases h; exact Nat.le_refl _)
theorem run_ok : ∀ (n : Nat) (h : ShaMath.St) (l : List UInt8), Ok8 h → Ok8 (ShaMath.runN ShaMath.blk n h l)
  | 0, _, _, o => o
  | n + 1, h, l, o => run_ok n _ _ (blk_ok _ _)
set_option maxRecDepth 100000 in
set_option maxHeartbeats 2000000 in
theorem sumBehind_any (l b : List UInt8) (al ab : Option Addr) (cl cb : Nat) (w : World) (hcl : l.length ≤ cl) (hcl1 : cl ≤ 9223372036854775807) (hcb : b.length ≤ cb) (hcb1 : cb ≤ 9223372036854775807) (hl : Bytes w al l) (hb : Bytes w ab b) (hmax : l.length + b.length ≤ 1152921504606846976) (hT : KW w) :
    Calls Tryd.prog 48 #[.slice al l.length cl, .slice ab b.length cb] w fun e w' => e = .returned (.agg (u8s (ShaMath.sha (l ++ b))).toArray) ∧ Below w.heap.size w w' := by
  obtain ⟨V0, hV0⟩ : ∃ V, (can ShaMath.h0 [] 0).cells.toArray = V := ⟨_, rfl⟩
  obtain ⟨V1, hV1⟩ : ∃ V, (can (ShaMath.run ShaMath.blk ShaMath.h0 l) (ShaMath.rest l) l.length).cells.toArray = V := ⟨_, rfl⟩
  obtain ⟨V2, hV2⟩ : ∃ V, (can (ShaMath.run ShaMath.blk ShaMath.h0 (l ++ b)) (ShaMath.rest (l ++ b)) (l ++ b).length).cells.toArray = V := ⟨_, rfl⟩
  obtain ⟨R, hR⟩ : ∃ R, (u8s (ShaMath.sha (l ++ b))).toArray = R := ⟨_, rfl⟩
  have ok1 : Ok8 (ShaMath.run ShaMath.blk ShaMath.h0 l) := run_ok _ _ _ h0_ok
  have ok2 : Ok8 (ShaMath.run ShaMath.blk ShaMath.h0 (l ++ b)) := run_ok _ _ _ h0_ok
  have hlb : (l ++ b).length = l.length + b.length := List.length_append
  have c0 := fun W => begin_any W
  have c1 := fun W (h1 : Bytes W al l) (h2 : KW W) => add_any ShaMath.h0 h0_ok [] (by decide) 0 l al cl W (by decide) (by omega) hcl hcl1 h1 h2
  have c2 := fun W (h1 : Bytes W ab b) (h2 : KW W) => add_any _ ok1 (ShaMath.rest l) (ShaMath.rest_lt l) l.length b ab cb W (by omega) (by omega) hcb hcb1 h1 h2
  have c3 := fun W (h2 : KW W) => end_any _ ok2 (ShaMath.rest (l ++ b)) (ShaMath.rest_lt _) (l ++ b).length (ShaMath.rest_length _) (by omega) W h2
  have e1 : (0 : Int) + (l.length : Int) = (l.length : Int) := by omega
  have e2 : (l.length : Int) + (b.length : Int) = ((l ++ b).length : Int) := by omega
  rw [hV0] at c0
  rw [hV0] at c1
  rw [List.nil_append, e1, hV1] at c1
  rw [hV1, ShaMath.run_cut, ShaMath.rest_cut, e2, hV2] at c2
  rw [hV2] at c3
  have eF : ShaMath.fin (ShaMath.run ShaMath.blk ShaMath.h0 (l ++ b)) (ShaMath.rest (l ++ b)) (l ++ b).length = ShaMath.sha (l ++ b) := rfl
  rw [eF, hR] at c3
  have hsl : (ShaMath.sha (l ++ b)).length = 32 := ShaMath.sha_length _
  rw [hR]
  clear e1 e2 eF hlb hV0 hV1 hV2
  go_enter Tryd.func48, Tryd.ntmps48
  go_wp2_with (first
    | (go_at_call 57; refine (c0 _).mono ?_; rintro e w1 ⟨rfl, k1⟩; have B1 : Blk w1 w.heap.size 68 (u8s (List.replicate 32 0)) := (Blk.new w (u8s (List.replicate 32 0)).toArray _).call k1; have m1 : Below w.heap.size w w1 := below_step ((Below.refl _ _).alloc (Nat.le_refl _) _) (by simp) k1; have l1 := hl.keep m1; have t1 := hT.keep m1 (Nat.le_refl _); have b1 := hb.keep m1; clear c0)
    | (go_at_call 56; refine (c1 _ l1 t1).mono ?_; rintro e w2 ⟨rfl, k2⟩; have B2 := B1.call k2; have m2 := below_step m1 m1.size k2; have b2 := b1.keep k2; have t2 := t1.keep k2 (Nat.le_refl _); clear c1)
    | (go_at_call 56; refine (c2 _ b2 t2).mono ?_; rintro e w3 ⟨rfl, k3⟩; have B3 := B2.call k3; have m3 := below_step m2 m2.size k3; have t3 := t2.keep k3 (Nat.le_refl _); clear c2)
    | (go_at_call 55; refine (c3 _ t3).mono ?_; rintro e w4 ⟨rfl, k4⟩; have B4 := B3.call k4; have m4 := below_step m3 m3.size k4; clear c3)
    | (with_reducible refine wpList_store_blk rfl 68 (.tmp 4) (.tmp 10) rfl w.heap.size 0 rfl _ _ B4 (u8s (ShaMath.sha (l ++ b))) R (by rw [← hR]) rfl (by rw [u8s_length, u8s_length, List.length_replicate, hsl]; omega) (by rw [u8s_length, hsl]; kernel_rfl) (u8s_one _) ?_; intro x3 hg7 hs7 hB7))
  refine bodyPost_ret (results_arr rfl _ _ w.heap.size (u8s (ShaMath.sha (l ++ b))) rfl ?_ rfl rfl (by rw [u8s_length, hsl]; kernel_rfl)) rfl ⟨by rw [hR], ?_⟩
  · rw [Nat.zero_add, List.take_zero, List.nil_append, List.drop_of_length_le (by rw [u8s_length, u8s_length, List.length_replicate, hsl]; exact Nat.le_refl _), List.append_nil] at hB7; exact hB7
  · exact m4.grown hg7 m4.size (fun k h => by cases h; exact Nat.le_refl _)
theorem sum_any (b : List UInt8) (ab : Option Addr) (cb : Nat) (w : World) (hcb : b.length ≤ cb) (hcb1 : cb ≤ 9223372036854775807) (hb : Bytes w ab b) (hmax : b.length ≤ 1152921504606846976) (hT : KW w) :
    Calls Tryd.prog 40 #[.slice ab b.length cb] w fun e w' => e = .returned (.agg (u8s (ShaMath.sha b)).toArray) ∧ Below w.heap.size w w' := by
  obtain ⟨R, hR⟩ : ∃ R, (u8s (ShaMath.sha b)).toArray = R := ⟨_, rfl⟩
  have hsl : (ShaMath.sha b).length = 32 := ShaMath.sha_length _
  have c0 := fun W (h1 : Bytes W ab b) (h2 : KW W) => sumBehind_any [] b none ab 0 cb W (by decide) (by decide) hcb hcb1 (Or.inl rfl) h1 (by rw [List.length_nil]; omega) h2
  rw [List.nil_append, hR, List.length_nil] at c0
  rw [hR]
  go_enter Tryd.func40, Tryd.ntmps40
  have m0 : ∀ o, Below w.heap.size w (w.alloc o) := fun o => (Below.refl _ _).alloc (Nat.le_refl _) o
  go_wp2_with (first
    | (go_at_call 48; refine (c0 _ (hb.keep (m0 _)) (hT.keep (m0 _) (Nat.le_refl _))).mono ?_; rintro e w1 ⟨rfl, k1⟩; have B1 : Blk w1 w.heap.size 68 (u8s (List.replicate 32 0)) := (Blk.new w (u8s (List.replicate 32 0)).toArray _).call k1; have m1 : Below w.heap.size w w1 := below_step (m0 _) (by simp) k1; clear c0)
    | (with_reducible refine wpList_store_blk rfl 68 (.tmp 2) (.tmp 4) rfl w.heap.size 0 rfl _ _ B1 (u8s (ShaMath.sha b)) R (by rw [← hR]) rfl (by rw [u8s_length, u8s_length, List.length_replicate, hsl]; omega) (by rw [u8s_length, hsl]; kernel_rfl) (u8s_one _) ?_; intro x3 hg7 hs7 hB7))
  refine bodyPost_ret (results_arr rfl _ _ w.heap.size (u8s (ShaMath.sha b)) rfl ?_ rfl rfl (by rw [u8s_length, hsl]; kernel_rfl)) rfl ⟨by rw [hR], ?_⟩
  · rw [Nat.zero_add, List.take_zero, List.nil_append, List.drop_of_length_le (by rw [u8s_length, u8s_length, List.length_replicate, hsl]; exact Nat.le_refl _), List.append_nil] at hB7; exact hB7
  · exact m1.grown hg7 m1.size (fun k h => by cases h; exact Nat.le_refl _)
end Go.Proofs.YtcnemacakjemjaaDoor

/-! A STREAM THAT MAY BE is the canonical one of what it holds. -/
namespace Go.Proofs.YtcnemacakjemjaaDoor
open Go.RowKit CodeMath
theorem all_nought (l : List UInt8) (h : l.all (· == 0) = true) : l = List.replicate l.length 0 := by
  induction l with
  | nil => rfl
  | cons x l ih =>
    rw [List.all_cons, Bool.and_eq_true] at h
    have e : x = 0 := by simpa using h.1
    rw [List.length_cons, List.replicate_succ, e, ← ih h.2]
theorem good_facts (s : Stm) (h : s.good = true) : 0 ≤ s.len ∧ s.len ≤ 1152921504606846976 ∧ s.n = s.len % 64 ∧ (s.held.drop s.n.toNat).all (· == 0) = true := by
  unfold Stm.good at h
  simp only [Bool.and_eq_true, decide_eq_true_eq] at h
  exact ⟨h.1.1.1, h.1.1.2, h.1.2, h.2⟩
theorem good_can (s : Stm) (h : s.good = true) (h64 : s.held.length = 64) : s = can s.h (s.held.take s.n.toNat) s.len ∧ (s.held.take s.n.toNat).length < 64 ∧ (s.held.take s.n.toNat).length = s.len.toNat % 64 := by
  obtain ⟨a, b, c, d⟩ := good_facts s h
  have hl : (s.held.take s.n.toNat).length = s.n.toNat := by rw [List.length_take]; omega
  have hz := all_nought _ d
  rw [List.length_drop, h64] at hz
  refine ⟨?_, by omega, by omega⟩
  unfold can
  rw [hl, ← hz, List.take_append_drop]
  have e : ((s.n.toNat : Nat) : Int) = s.n := by omega
  rw [e]
end Go.Proofs.YtcnemacakjemjaaDoor

/-! CONTRACTS of package sum's End and Add. -/
namespace Go.Proofs.YtcnemacakjemjaaDoor
open Go.RowKit CodeMath
set_option linter.unusedVariables false
set_option maxRecDepth 100000
theorem results_arr_tmp {fn : Func} {p u : Tmp} {T : TypeId} {d : TypeDesc} (h : fn.results = #[.cell p T, .tmp u]) (tmps : Array Value) (w : World) (g : Nat) (cs : List Value) (hp : tmps.getD p undef = .pointer (some ⟨g, 0, none⟩)) (hg : Blk w g T cs)
    (hu : Tryd.prog.underlying T = some d) (hd : d.isRow = true) (hi : (Tryd.prog.info? T).map (·.size) = some cs.length) :
    (results fn tmps).run Tryd.prog w = .ok (.tuple #[.agg cs.toArray, tmps.getD u undef]) w := by
  have hl := run_loadVar_row w g T T cs.toArray (0, 0) d hg hu (by cases d <;> simp_all) (by simpa using hi)
  rw [results_cell_tmp h, hp]
  simp [asAddr, hl, Result.andThen]
end Go.Proofs.YtcnemacakjemjaaDoor
