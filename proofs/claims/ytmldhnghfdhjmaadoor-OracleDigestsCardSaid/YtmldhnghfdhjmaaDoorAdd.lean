/-
  CONTRACT of package sum's add: bytes worked into a stream.
  CONDITIONS: package sum's roundWords hold what their initialiser lays ('KW').
-/
import Derived.Test.YtmldhnghfdhjmaaDoorAddMath
namespace Go.Proofs.YtmldhnghfdhjmaaDoor
open Go.RowKit CodeMath
set_option linter.unusedVariables false
set_option maxRecDepth 100000

/-- copy(x, y), x a part of a block, y bytes from wherever they lie. -/
theorem wpList_copy_blk {ops : Array Oper} {rest : List Oper} {o : Oper} {a : Act} {Q : Exit → Act → World → Prop} {w : World} (hgd : o.guard = none) (d s : Operand)
    (ho : o.op = .call { callee := .builtin .copy, args := #[d, s], argTypes := #[23, 23] }) (g off dLen dCap : Nat) (p q sLen sCap : Nat) (hd : a.eval d = .slice (some ⟨g, off, none⟩) dLen dCap) (hs : a.eval s = .slice (some ⟨p, q, none⟩) sLen sCap)
    (T0 : TypeId) (cs : List Value) (hB : Blk w g T0 cs) (c : List UInt8) (n : Nat) (hcn : c.length = n) (hn : n = Nat.min sLen dLen) (hsrc : ∀ j x, c[j]? = some x → w.cell? ⟨p, q + j, none⟩ = some (.int .u8 x.toNat)) (hfit : off + n ≤ cs.length)
    (h : ∀ w', w.grownBy w' (some g) → w'.heap.size = w.heap.size → Blk w' g T0 (splice cs off (u8s c)) → wpList Tryd.prog ops Q rest (a.put o.dst (.int .i64 (n : Int))) w') : wpList Tryd.prog ops Q (o :: rest) a w := by
  subst hcn
  refine wpList_copy_own hgd d s 23 23 ho 5 Tryd.underlying23 (by kernel_rfl) g off dLen dCap ⟨p, q, none⟩ sLen sCap hd hs cs.toArray T0 hB (u8s c) (by rw [u8s_length]; exact hn) ?_ (by rw [u8s_length]; simpa using hfit) (u8s_one c) ?_
  · intro j v hv
    unfold u8s at hv
    rw [List.getElem?_map] at hv
    cases hx : c[j]? with
    | none => rw [hx] at hv; cases hv
    | some x =>
      rw [hx] at hv
      simp only [Option.map_some, Option.some.injEq] at hv
      rw [← hv, show (⟨p, q, none⟩ : Addr).add j = ⟨p, q + j, none⟩ by unfold Addr.add; split <;> simp_all]
      exact hsrc j x hx
  · rw [u8s_length]
    refine h _ ⟨rfl, rfl, rfl, by simp [World.setRow], fun k hk hne => setRow_other w g k _ (fun e => hne (by rw [e]))⟩ (by simp [World.setRow]) ?_
    unfold Blk splice
    rw [setRow_heap w g cs.toArray _ T0 _ hB, u8s_length]
/-- x[q:]. -/
theorem slice_rest (p o n cap q : Nat) (hq : q ≤ n) (hn : n ≤ cap) (h63 : cap ≤ 9223372036854775807) (W : World) : ∃ o', (Instr.slice 23 (.slice (some ⟨p, o, none⟩) n cap) (some (.int .i64 (q : Int))) none none).run Tryd.prog W = .ok (.slice (some ⟨p, o', none⟩) (n - q) (cap - q)) W ∧ (q < n → o' = o + q) := by
  have h1 : (q : Int) ≤ n := by omega
  by_cases hc : cap = q
  · refine ⟨o, ?_, fun h => by omega⟩
    have h2 : ¬ q < n := by omega
    have h3 : n = q := by omega
    subst hc
    subst h3
    go_simp
  · refine ⟨o + q, ?_, fun _ => rfl⟩
    go_simp
theorem sharp (b : List UInt8) (ao : Option Addr) (w : World) (h : Bytes w ao b) (hl : 0 < b.length) : ∃ p q, ao = some ⟨p, q, none⟩ ∧ p < w.heap.size ∧ ∀ j x, b[j]? = some x → w.cell? ⟨p, q + j, none⟩ = some (.int .u8 x.toNat) := by
  rcases h with h | ⟨p, q, h1, h2, h3⟩
  · rw [h] at hl; simp at hl
  · exact ⟨p, q, h1, h2, h3⟩
theorem stm_one (s : Stm) : ∀ v ∈ s.cells, v.oneCell' = true := by
  intro v hv
  unfold Stm.cells at hv
  rw [List.mem_append, List.mem_append] at hv
  rcases hv with hv | hv | hv
  · exact u32s_one _ v hv
  · exact u8s_one _ v hv
  · simp at hv
    rcases hv with rfl | rfl <;> rfl
def noStm : Stm := ⟨⟨0, 0, 0, 0, 0, 0, 0, 0⟩, List.replicate 64 0, 0, 0⟩
def noCells : Array Value := noStm.cells.toArray
theorem zero_stream (W : World) : (zeroValue 78).run Tryd.prog W = .ok (.agg noCells) W := by kernel_rfl
def lenOf (v : Value) : Nat := match v with
  | .slice _ n _ => n
  | _ => 0
set_option maxRecDepth 100000 in
set_option maxHeartbeats 4000000 in
theorem add_any (h : ShaMath.St) (o : Ok8 h) (m : List UInt8) (hm : m.length < 64) (L : Int) (b : List UInt8) (ao : Option Addr) (cap : Nat) (w : World) (hL0 : 0 ≤ L) (hL1 : L + b.length ≤ 1152921504606846976) (hcap : b.length ≤ cap) (h63 : cap ≤ 9223372036854775807) (hb : Bytes w ao b) (hT : KW w) :
    Calls Tryd.prog 64 #[.agg (can h m L).cells.toArray, .slice ao b.length cap] w fun e w' => e = .returned (.agg (can (ShaMath.run ShaMath.blk h (m ++ b)) (ShaMath.rest (m ++ b)) (L + b.length)).cells.toArray) ∧ Below w.heap.size w w' := by
  obtain ⟨A, hA⟩ : ∃ A, (can h m L).cells.toArray = A := ⟨_, rfl⟩
  rw [hA]
  have hch := can_held h m L (by omega)
  have hzero := zero_stream
  go_enter Tryd.func64, Tryd.ntmps64
  go_upto_region 1 with fail
  refine wp_gen (fun W => Blk W w.heap.size 78 (can h m L).cells ∧ Blk W (w.heap.size + 1) 78 noStm.cells ∧ Below w.heap.size w W) ?_ ?_
  · refine ⟨?_, Blk.atNew noCells _ (by simp), ((Below.refl _ _).alloc (Nat.le_refl _) _).alloc (by simp) _⟩
    rw [← hA]
    exact (Blk.new w (can h m L).cells.toArray 78).alloc _
  rintro W ⟨b1, b2, hbw⟩
  have q1 := b1.cell ((can h m L).get_len hch)
  have f1 := b1.free 73
  have hst := b1.set 73 (.int .i64 (L + b.length))
  rw [Stm.set_len _ hch] at hst
  have hot := b2.other ⟨w.heap.size, 73, none⟩ (.int .i64 (L + b.length)) (show w.heap.size + 1 ≠ w.heap.size by omega)
  have q1' : W.cell? ⟨w.heap.size, 73, none⟩ = some (.int .i64 L) := q1
  have S1 := Lib.hid hst
  have S2 := Lib.hid hot
  clear hst hot q1 b1 b2 hzero
  go_wp2
  have hsc : ({ can h m L with len := L + b.length } : Stm) = can h m (L + b.length) := rfl
  rw [hsc] at S1
  refine wp_gen (fun W => Hid (Blk W w.heap.size 78 (can h m (L + b.length)).cells) ∧ Hid (Blk W (w.heap.size + 1) 78 noStm.cells) ∧ Below w.heap.size w W) ⟨S1, S2, hbw.setCell (Nat.le_refl _) _⟩ ?_
  clear S1 S2 q1' f1 hbw hsc
  rintro W1 ⟨S1, S2, hbw⟩
  obtain ⟨L2, hL2⟩ : ∃ L2, L + (b.length : Int) = L2 := ⟨_, rfl⟩
  rw [hL2] at S1
  have HL2 := Lib.hid hL2
  clear hL2
  go_loopw [1] (fun v wr => ∃ (g : ShaMath.St) (x r : List UInt8) (a1 : Option Addr) (c1 : Nat), v = .slice a1 r.length c1 ∧ r.length ≤ c1 ∧ c1 ≤ 9223372036854775807 ∧ Hid (Bytes w a1 r) ∧ Ok8 g ∧ x.length < 64 ∧ Hid (ShaMath.run ShaMath.blk g (x ++ r) = ShaMath.run ShaMath.blk h (m ++ b)) ∧ Hid (ShaMath.rest (x ++ r) = ShaMath.rest (m ++ b)) ∧ Hid (Blk wr w.heap.size 78 (can g x L2).cells) ∧ Hid (Blk wr (w.heap.size + 1) 78 noStm.cells) ∧ Below w.heap.size w wr ∧ Hid (KW wr)) (fun v _ => lenOf v)
  case atStart => exact ⟨h, m, b, ao, cap, rfl, hcap, h63, Lib.hid hb, o, hm, Lib.hid rfl, Lib.hid rfl, S1, S2, hbw, Lib.hid (hT.keep hbw (Nat.le_refl _))⟩
  case round =>
    obtain ⟨g, x, r, a1, c1, rfl, hrc, hc63, hby, og, hx, hrun, hrest, k1, k2, hbr, hK⟩ := hrel
    by_cases hr : 0 < r.length
    · obtain ⟨p, q, rfl, hp, hsrc0⟩ := sharp r a1 w hby.out hr
      have hsrc : ∀ j x, r[j]? = some x → wr.cell? ⟨p, q + j, none⟩ = some (.int .u8 x.toNat) := fun j x hx => (hbr.cell (p := ⟨p, q + j, none⟩) hp).trans (hsrc0 j x hx)
      have rI : (0 : Int) < r.length := by omega
      have xI : (x.length : Int) < 64 := by omega
      have hcx := can_held g x L2 (by omega)
      have qn := k1.out.cell ((can g x L2).get_n hcx)
      have qn' : wr.cell? ⟨w.heap.size, 72, none⟩ = some (.int .i64 (x.length : Int)) := qn
      have hsl := slice_from w.heap.size 8 x.length hx
      obtain ⟨n, hn⟩ : ∃ n, Nat.min r.length (64 - x.length) = n := ⟨_, rfl⟩
      have hn' : n = min r.length (64 - x.length) := hn.symm
      have hcl : (r.take n).length = n := by rw [List.length_take]; omega
      have hsrc' : ∀ j c, (r.take n)[j]? = some c → wr.cell? ⟨p, q + j, none⟩ = some (.int .u8 c.toNat) := fun j c hj => hsrc j c (by rw [List.getElem?_take] at hj; split at hj <;> simp_all)
      have hfit : 8 + x.length + n ≤ (can g x L2).cells.length := by rw [Stm.cells_length _ hcx]; omega
      have HQ := Lib.hid qn'
      clear qn S1 S2 hbw
      go_upto_region 4 with (with_reducible refine wpList_copy_blk rfl (.tmp 18) (.tmp 19) rfl w.heap.size (8 + x.length) (64 - x.length) (64 - x.length) p q r.length c1 rfl rfl _ _ k1.out (r.take n) n hcl hn.symm hsrc' hfit ?_; intro w2 hg2 hs2 hB2)
      simp only [Act.put, List.setIfInBounds_toArray, List.set_cons_zero, List.set_cons_succ]
      go_upto_region 4 with fail
      have k1' := hB2
      rw [Stm.copy_held _ hcx _ _ (by rw [hcl]; omega)] at k1'
      have k2' := k2.out.same (hg2.block (w.heap.size + 1) k2.out.lt (by simp))
      have hb2 : Below w.heap.size w w2 := hbr.grown hg2 hbr.size (fun k h => by cases h; exact Nat.le_refl _)
      have hh2 : (splice (can g x L2).held x.length (r.take n)).length = 64 := by rw [length_splice _ _ _ (by rw [hcl, hcx]; omega), hcx]
      have qm : w2.cell? ⟨w.heap.size, 72, none⟩ = some (.int .i64 (x.length : Int)) := k1'.cell (Stm.get_n _ hh2)
      have fm := k1'.free 72
      have hst := k1'.set 72 (.int .i64 ((x.length + n : Nat) : Int))
      rw [Stm.set_n _ hh2] at hst
      have hgr := can_grown g x (r.take n) L2 (by rw [hcl]; omega)
      rw [hcl] at hgr
      rw [hgr] at hst
      have hot := k2'.other ⟨w.heap.size, 72, none⟩ (.int .i64 ((x.length + n : Nat) : Int)) (show w.heap.size + 1 ≠ w.heap.size by omega)
      have hbs := hb2.setCell (p := ⟨w.heap.size, 72, none⟩) (Nat.le_refl _) (.int .i64 ((x.length + n : Nat) : Int))
      obtain ⟨o', hrun1, ho'⟩ := slice_rest p q r.length c1 n (by omega) hrc hc63 w2
      have hby' : Hid (Bytes w (some ⟨p, o', none⟩) (r.drop n)) := Lib.hid (by
        by_cases hnl : n < r.length
        · refine .inr ⟨p, o', rfl, hp, fun j x hj => ?_⟩
          rw [List.getElem?_drop] at hj
          rw [ho' hnl, Nat.add_assoc]
          exact hsrc0 _ _ hj
        · left; exact List.drop_of_length_le (by omega))
      have hdl : (r.drop n).length = r.length - n := List.length_drop
      have hch1 : (x ++ r.take n) ++ r.drop n = x ++ r := by rw [List.append_assoc, List.take_append_drop]
      have hpush : (((x.length + n : Nat) : Nat) : Int) = (x.length : Int) + n := by omega
      rw [hpush] at hst hot hbs
      have S1 := Lib.hid hst
      have S2 := Lib.hid hot
      have nI : (n : Int) ≤ 64 := by omega
      have HN := Lib.hid hn'
      have HDL := Lib.hid hdl
      have HCH := Lib.hid hch1
      have HCL := Lib.hid hcl
      clear hst hot hgr hh2 k1' k2' hB2 hb2 HQ hsrc hsrc' hsrc0 hfit hsl k1 k2 hpush hn hn' hdl hch1 hcl
      go_upto_region 6 with fail
      refine wp_gen (fun W => Hid (Blk W w.heap.size 78 (can g (x ++ r.take n) L2).cells) ∧ Hid (Blk W (w.heap.size + 1) 78 noStm.cells) ∧ Below w.heap.size w W) ⟨S1, S2, hbs⟩ ?_
      clear S1 S2 hbs qm fm hbr
      rintro W3 ⟨S1, S2, hb3⟩
      have hn2 := HN.out
      have hML : (x ++ r.take n).length = x.length + n := by rw [List.length_append, HCL.out]
      have hML64 : x.length + n ≤ 64 := by omega
      have hrn : n ≤ r.length := by omega
      have hn0 : 0 < n := by omega
      have hdl := HDL.out
      have hrunM : Hid (ShaMath.run ShaMath.blk g ((x ++ r.take n) ++ r.drop n) = ShaMath.run ShaMath.blk h (m ++ b)) := Lib.hid (by rw [HCH.out]; exact hrun.out)
      have hrestM : Hid (ShaMath.rest ((x ++ r.take n) ++ r.drop n) = ShaMath.rest (m ++ b)) := Lib.hid (by rw [HCH.out]; exact hrest.out)
      have qM := S1.out.cell (Stm.get_n _ (can_held g (x ++ r.take n) L2 (by omega)))
      have qM' : W3.cell? ⟨w.heap.size, 72, none⟩ = some (.int .i64 (((x ++ r.take n).length : Nat) : Int)) := qM
      have hr2 : (r.drop n).length ≤ c1 - n := by omega
      have hms : (r.drop n).length < r.length := by omega
      rw [← hdl]
      generalize r.drop n = r2 at hby' hrunM hrestM hr2 hms ⊢
      generalize hMe : x ++ r.take n = M at S1 hML hrunM hrestM qM' 
      clear qM hMe HDL HCH HCL HN hn2 hdl hrun hrest hby hrun1
      by_cases hf : M.length = 64
      · have hK3 := hT.keep hb3 (Nat.le_refl _)
        have cS := fun W (hk : KW W) => stir_any g og M W hf hk
        obtain ⟨V1, hV1⟩ : ∃ V, (u32s (lst g)).toArray = V := ⟨_, rfl⟩
        obtain ⟨V2, hV2⟩ : ∃ V, (u8s M).toArray = V := ⟨_, rfl⟩
        obtain ⟨V3, hV3⟩ : ∃ V, (u32s (lst (ShaMath.blk g M))).toArray = V := ⟨_, rfl⟩
        rw [hV1, hV2, hV3] at cS
        have hch2 := can_held g M L2 (by omega)
        have e1 : (((can g M L2).cells.drop 0).take 8).toArray = V1 := by rw [Stm.get_h]; exact hV1
        have e2 : (((can g M L2).cells.drop 8).take 64).toArray = V2 := by rw [Stm.get_all _ hch2, can_full g M L2 hf]; exact hV2
        have hcl74 := Stm.cells_length _ hch2
        rw [hf] at qM'
        clear hML hML64 hrn hn0 hr hx hrc
        go_upto_region 8 with (first
          | (with_reducible refine wpList_load_blk rfl 75 (.tmp 32) rfl w.heap.size 0 8 rfl _ _ S1.out (by rw [hcl74]; omega) V1 e1 _ rfl rfl (by kernel_rfl) ?_)
          | (with_reducible refine wpList_load_blk rfl 76 (.tmp 34) rfl w.heap.size 8 64 rfl _ _ S1.out (by rw [hcl74]; omega) V2 e2 _ rfl rfl (by kernel_rfl) ?_)
          | (go_at_call 74; refine (cS _ hK3).mono ?_; rintro e w4 ⟨rfl, hb4⟩; have k4 := S1.out.call hb4)
          | (with_reducible refine wpList_store_blk rfl 75 (.tmp 37) (.tmp 36) rfl w.heap.size 0 rfl _ _ k4 (u32s (lst (ShaMath.blk g M))) V3 (by rw [← hV3]) rfl (by rw [lenH, hcl74]; omega) (by rw [lenH]; kernel_rfl) (u32s_one _) ?_; intro w5 hg5 hs5 hB5))
        simp only [Act.put]
        rw [Stm.put_h] at hB5
        have hl5 : ({ can g M L2 with h := ShaMath.blk g M } : Stm).held.length = 64 := hch2
        have hc5 := Stm.cells_length _ hl5
        have k2a := (S2.out.call hb4)
        have k2b := k2a.same (hg5.block (w.heap.size + 1) k2a.lt (by simp))
        have hb45 : Below w.heap.size w w5 := (below_step hb3 hb3.size hb4).grown hg5 (Nat.le_trans hb3.size hb4.size) (fun k h => by cases h; exact Nat.le_refl _)
        obtain ⟨V4, hV4⟩ : ∃ V, (u8s (List.replicate 64 0)).toArray = V := ⟨_, rfl⟩
        have z24 : ∀ W, (zeroValue 76).run Tryd.prog W = .ok (.agg V4) W := fun W => by rw [← hV4]; kernel_rfl
        have sz64 : (u8s (List.replicate 64 0)).length = 64 := by rw [u8s_length, List.length_replicate]
        clear cS e1 e2 hV1 hV2 hV3 k4 S1 S2 qM' hK3
        go_wp2_with (first
          | (with_reducible refine wpList_store_blk rfl 76 (.tmp 39) (.tmp 38) rfl w.heap.size 8 rfl _ _ hB5 (u8s (List.replicate 64 0)) V4 (by rw [← hV4]) rfl (by rw [sz64, hc5]; omega) (by rw [sz64]; kernel_rfl) (u8s_one _) ?_; intro w6 hg6 hs6 hB6; rw [Stm.put_held _ hl5 _ (List.length_replicate ..)] at hB6; have q6 := hB6.cell (Stm.get_n _ (List.length_replicate ..)); have f6 := hB6.free 72))
        have k6 := hB6.set 72 (.int .i64 0)
        rw [Stm.set_n _ (List.length_replicate ..), can_empty] at k6
        have k6b := (k2b.same (hg6.block (w.heap.size + 1) k2b.lt (by simp))).other ⟨w.heap.size, 72, none⟩ (.int .i64 0) (show w.heap.size + 1 ≠ w.heap.size by omega)
        have hb6 := (hb45.grown hg6 hb45.size (fun k h => by cases h; exact Nat.le_refl _)).setCell (p := ⟨w.heap.size, 72, none⟩) (Nat.le_refl _) (.int .i64 0)
        have hrunE : ShaMath.run ShaMath.blk (ShaMath.blk g M) ([] ++ r2) = ShaMath.run ShaMath.blk h (m ++ b) := by rw [List.nil_append, ← run_block g M r2 hf]; exact hrunM.out
        have hrestE : ShaMath.rest ([] ++ r2) = ShaMath.rest (m ++ b) := by rw [List.nil_append, ← rest_block M r2 hf]; exact hrestM.out
        go_roundw
        case rel => exact ⟨ShaMath.blk g M, [], r2, some ⟨p, o', none⟩, c1 - n, rfl, hr2, by omega, hby', blk_ok g M, by simp, Lib.hid hrunE, Lib.hid hrestE, Lib.hid k6, Lib.hid k6b, hb6, Lib.hid (hT.keep hb6 (Nat.le_refl _))⟩
        case measure => show r2.length < r.length; exact hms
      · have hfI : ¬ (((M.length : Nat) : Int) = 64) := by omega
        have hfb : (((M.length : Nat) : Int) == 64) = false := by simpa using hfI
        have hK3 := Lib.hid (hT.keep hb3 (Nat.le_refl _))
        have hM64 : M.length < 64 := by omega
        clear hrn hn0 hr hx hrc hf hfI
        go_wp2
        go_roundw
        case rel => exact ⟨g, M, r2, some ⟨p, o', none⟩, c1 - n, rfl, hr2, by omega, hby', og, hM64, hrunM, hrestM, S1, S2, hb3, hK3⟩
        case measure => show r2.length < r.length; exact hms
    · have hr0 : r = [] := List.eq_nil_of_length_eq_zero (by omega)
      have rI : ¬ ((0 : Int) < r.length) := by omega
      have hrunE := hrun.out
      have hrestE := hrest.out
      rw [hr0, List.append_nil, ShaMath.run_short _ _ _ hx] at hrunE
      rw [hr0, List.append_nil, ShaMath.rest_short _ hx] at hrestE
      have k3 := k1.out
      have k4 := k2.out
      have hcx := can_held g x L2 (by omega)
      have hc74 := Stm.cells_length _ hcx
      have hn74 : noStm.cells.length = 74 := rfl
      have HE : Hid (can g x L2 = can (ShaMath.run ShaMath.blk h (m ++ b)) (ShaMath.rest (m ++ b)) (L + b.length)) := Lib.hid (by rw [← hrunE, ← hrestE, HL2.out])
      obtain ⟨V, hV⟩ : ∃ V, (can g x L2).cells.toArray = V := ⟨_, rfl⟩
      have eV : (((can g x L2).cells.drop 0).take 74).toArray = V := by rw [List.drop_zero, List.take_of_length_le (by omega)]; exact hV
      clear hr0 hr hrunE hrestE hrun hrest k1 k2 hby S1 S2 hbw
      go_wp2_with (first
        | (with_reducible refine wpList_load_blk rfl 78 (.tmp 2) rfl w.heap.size 0 74 rfl _ _ k3 (by rw [hc74]; omega) V eV _ rfl rfl (by kernel_rfl) ?_)
        | (with_reducible refine wpList_store_blk rfl 78 (.tmp 4) (.tmp 41) rfl (w.heap.size + 1) 0 rfl _ _ k4 (can g x L2).cells V (by rw [← hV]) rfl (by rw [hc74, hn74]; omega) (by rw [hc74]; kernel_rfl) (stm_one _) ?_; intro w7 hg7 hs7 hB7))
      refine bodyPost_ret (results_arr rfl _ _ (w.heap.size + 1) (can g x L2).cells rfl ?_ rfl rfl (by rw [hc74]; kernel_rfl)) rfl ⟨by rw [HE.out], ?_⟩
      · rw [Nat.zero_add, List.take_zero, List.nil_append, List.drop_of_length_le (by rw [hc74, hn74]; exact Nat.le_refl _), List.append_nil] at hB7; exact hB7
      · exact hbr.grown hg7 hbr.size (fun k h => by cases h; omega)
end Go.Proofs.YtmldhnghfdhjmaaDoor
