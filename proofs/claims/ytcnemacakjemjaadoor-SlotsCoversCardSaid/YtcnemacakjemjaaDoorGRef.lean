/-
  MERGED: ShaC, Block, Blocks, RefStm, RefAdd, RefAdd2, RefEnd, RefSum.
  CONDITIONS: each theorem's own hypotheses.
-/
import Derived.Test.YtcnemacakjemjaaDoorGSha
import Derived.Test.YtcnemacakjemjaaDoorGReg
import Derived.Test.YtcnemacakjemjaaDoorGSum
import Derived.Test.YtcnemacakjemjaaDoorGBase

/-! CONTRACT of the reference's schedule: the words of a block. CONDITIONS: each theorem's own hypotheses. -/
namespace Go.Proofs.YtcnemacakjemjaaDoor
open Go.RowKit CodeMath
set_option linter.unusedVariables false

def lenS (v : Value) : Nat := match v with
  | .slice _ n _ => n
  | _ => 0
theorem below_drewN {B : Nat} {a w : World} (h : Below B a w) (n : Nat) : Below B a (w.drewN n) := ⟨h.os, h.tape, h.output, h.size, h.block⟩
theorem rot_at (x n : Nat) (k : Int) (hk : k = n) (w : World) (hx : x < 4294967296) (h1 : 1 ≤ n) (h2 : n ≤ 31) :
    Calls Tryd.prog 62 #[.int .u32 x, .int .i64 k] w fun e w' => e = .returned (.int .u32 (ShaMath.rot x n : Nat)) ∧ Below w.heap.size w w' := by
  subst hk
  refine (rot_any x n w hx h1 h2).mono ?_
  rintro e w' ⟨h, q, rfl⟩
  exact ⟨h, below_drewN (Below.refl _ _) q⟩
def SchedOk (l : List UInt8) (w : World) (e : Ending) (w' : World) : Prop := ∃ v', e = .returned v' ∧ OwnW w' w.heap.size v' (ShaMath.sched l) ∧ Below w.heap.size w w'
theorem ext16 (l : List UInt8) (m : Nat) (h16 : 16 ≤ m) : (ShaMath.extend (m - 16) (ShaMath.words 16 l)).length = m := by
  rw [extend_length, words_length]; omega
theorem OwnW.cell' {w : World} {base g cap m : Nat} {l : List Nat} (h : OwnW w base (.slice (some ⟨g, 0, none⟩) m cap) l) (hm : l.length = m) (j : Nat) (hj : j < m) : w.cell? ⟨g, j, none⟩ = some (.int .u32 (l.getD j 0 : Nat)) := by
  subst hm; exact h.cell j hj
theorem next_sum (l : List UInt8) (m a b c d s1 s0 N : Nat) (h16 : 16 ≤ m)
    (ha : (ShaMath.extend (m - 16) (ShaMath.words 16 l)).getD (m - 2) 0 = a) (hb : (ShaMath.extend (m - 16) (ShaMath.words 16 l)).getD (m - 7) 0 = b) (hc : (ShaMath.extend (m - 16) (ShaMath.words 16 l)).getD (m - 15) 0 = c) (hd : (ShaMath.extend (m - 16) (ShaMath.words 16 l)).getD (m - 16) 0 = d)
    (h1 : ShaMath.small1 a = s1) (h0 : ShaMath.small0 c = s0) (hN : ShaMath.nextW (ShaMath.extend (m - 16) (ShaMath.words 16 l)) = N) : ((d : Int) + b + s0 + s1) % 4294967296 = (N : Int) := by
  unfold ShaMath.nextW at hN
  rw [ext16 l m h16, ha, hb, hc, hd, h1, h0] at hN
  unfold ShaMath.w32 at hN
  omega
/-- append(w, x), one word out of a cell. -/
theorem wpList_append_wordC {ops : Array Oper} {rest : List Oper} {o : Oper} {a : Act} {Q : Exit → Act → World → Prop} {w : World} (hgd : o.guard = none) (s x : Operand)
    (ho : o.op = .call { callee := .builtin .append, args := #[s, x], argTypes := #[91, 91] }) (base : Nat) (v : Value) (l : List Nat) (hs : a.eval s = v) (hown : OwnW w base v l)
    (b m : Nat) (hx : a.eval x = .slice (some ⟨m, 0, none⟩) 1 1) (hc : w.cell? ⟨m, 0, none⟩ = some (.int .u32 (b : Nat))) (hl : l.length ≤ 1000000) (hb : base ≤ w.heap.size)
    (h : ∀ v' w', OwnW w' base v' (l ++ [b]) → Below base w w' → wpList Tryd.prog ops Q rest (a.put o.dst v') w') : wpList Tryd.prog ops Q (o :: rest) a w := by
  obtain ⟨i0, hi, hz0, hz1, hz2⟩ := info_parts infoW
  refine wpList_append_own _ hgd s x 91 ho base 63 i0 (.int .u32 0) 1 4 Tryd.underlying91 hi hz0 hz1 hz2 rfl (by decide) v l.length (cellsW l) hs hown ⟨m, 0, none⟩ 1 1 [.int .u32 (b : Nat)] hx rfl ?_ ?_ (by unfold maxLen; omega) (by omega) hb ?_
  · intro j u hj
    match j, hj with
    | 0, hj =>
      simp at hj; subst hj
      rw [addr_zero']; exact hc
  · intro u hu
    simp at hu; subst hu; rfl
  · intro v' w' h1 h2 _
    refine h v' w' ?_ ((Below.refl base w).grown h2 hb (fun k hk => (hown.lt k hk).1))
    unfold OwnW
    rw [cellsW_append, List.length_append]
    exact h1
set_option maxRecDepth 100000 in
set_option maxHeartbeats 4000000 in
theorem schedule_any (l : List UInt8) (w : World) (hl : l.length = 64) :
    Calls Tryd.prog 61 #[.string (str l)] w (SchedOk l w) := by
  unfold SchedOk
  have cut := fun (j : Nat) (hj : j < 16) (w : World) => cut_str l (4 * j) (4 * j + 4) (4 * (j : Int)) (4 * (j : Int) + 4) (by omega) (by omega) (by omega) (by omega) w
  have HL := Lib.hid hl
  have HCUT := Lib.hid cut
  obtain ⟨SL, hSL⟩ : ∃ SL, str l = SL := ⟨_, rfl⟩
  rw [hSL] at HCUT ⊢
  clear cut hl hSL
  go_enter Tryd.func61, Tryd.ntmps61
  go_wp2
  go_loopw [3, 4] (fun u i wr => ∃ j : Nat, j ≤ 16 ∧ i = .int .i64 j ∧ OwnW wr w.heap.size u (ShaMath.words j l) ∧ Below w.heap.size w wr) (fun _ i _ => 16 - (intOf i).toNat)
  case atStart => exact ⟨0, Nat.zero_le _, rfl, OwnW.nil _ _, Below.refl _ _⟩
  case round =>
    obtain ⟨j, hj, rfl, ho, hbw⟩ := hrel
    by_cases h1 : j < 16
    · have cutj := HCUT.out j h1
      rw [Nat.add_sub_cancel_left] at cutj
      have hDl : ((l.drop (4 * j)).take 4).length = 4 := by rw [List.length_take, List.length_drop, HL.out]; omega
      have hsn := words_snoc j l
      have hwl := words_length j l
      obtain ⟨D, hD⟩ : ∃ D, (l.drop (4 * j)).take 4 = D := ⟨_, rfl⟩
      rw [hD] at cutj hDl hsn
      have cN := fun w => number_any D w (by omega)
      rw [num_word4] at cN
      have hXl := word4_lt D hDl
      obtain ⟨X, hX⟩ : ∃ X, ShaMath.word4 D = X := ⟨_, rfl⟩
      rw [hX] at cN hXl hsn
      generalize str D = S at cutj cN
      have hXi : (X : Int) ≤ 4294967295 := by omega
      have hll : (ShaMath.words j l).length ≤ 1000000 := by omega
      have hM := hbw.size
      have HSN := Lib.hid hsn
      clear hD hX hsn hwl hDl
      go_wp2_with fail
      refine (cN _).mono ?_
      rintro e w1 ⟨rfl, rfl⟩
      clear cN
      go_wp2_with (first | (at_builtin; refine wpList_append_word rfl _ _ rfl w.heap.size _ _ rfl ho _ X _ rfl (by first | rfl | simp) rfl hll hM ?_; intro v1 w5 ho5 hb5 hgg) | fail)
      clear hgg
      go_roundw
      case rel => exact ⟨j + 1, by omega, by go_num, by rw [HSN.out]; exact ho5, hbw.trans hb5⟩
      case measure => simp [intOf]; omega
    · have hj16 : j = 16 := by omega
      have jI : ¬ ((j : Int) < 16) := by omega
      rw [hj16] at ho
      clear h1 hj16
      obtain ⟨w0, hw0⟩ : ∃ w0 : World, w0 = wr := ⟨_, rfl⟩
      rw [← hw0] at hbw ho ⊢
      clear hw0
      go_wp2_with fail
      go_loopw [3] (fun u wr => ∃ (m g cap : Nat), 16 ≤ m ∧ m ≤ 64 ∧ u = .slice (some ⟨g, 0, none⟩) m cap ∧ m ≤ cap ∧ cap ≤ 9223372036854775807 ∧ OwnW wr w.heap.size (.slice (some ⟨g, 0, none⟩) m cap) (ShaMath.extend (m - 16) (ShaMath.words 16 l)) ∧ Below w.heap.size w wr) (fun u _ => 64 - lenS u)
      case atStart =>
        obtain ⟨g, cap, rfl, hc1, hc2⟩ := ho.shape1 (by rw [words_length]; omega)
        rw [words_length] at hc1 ho
        rw [words_length]
        exact ⟨16, g, cap, by omega, by omega, rfl, hc1, hc2, ho, hbw⟩
      case round =>
        obtain ⟨m, g, cap, h16, hm64, rfl, hcp, hcp63, ho2, hbr⟩ := hrel
        have hlm := ext16 l m h16
        by_cases h64 : m < 64
        · have ga := ho2.cell' hlm (m - 2) (by omega)
          have gb := ho2.cell' hlm (m - 7) (by omega)
          have gc := ho2.cell' hlm (m - 15) (by omega)
          have gd := ho2.cell' hlm (m - 16) (by omega)
          have la := E2_lt l (m - 16) (m - 2)
          have lb := E2_lt l (m - 16) (m - 7)
          have lc := E2_lt l (m - 16) (m - 15)
          have ld := E2_lt l (m - 16) (m - 16)
          have hsum := next_sum l m _ _ _ _ _ _ _ h16 rfl rfl rfl rfl rfl rfl rfl
          have hnext : Hid (ShaMath.extend (m - 16) (ShaMath.words 16 l) ++ [ShaMath.nextW (ShaMath.extend (m - 16) (ShaMath.words 16 l))] = ShaMath.extend (m + 1 - 16) (ShaMath.words 16 l)) := Lib.hid (by rw [show m + 1 - 16 = (m - 16) + 1 by omega, extend_succ])
          have hN := nextW_lt (ShaMath.extend (m - 16) (ShaMath.words 16 l))
          generalize ShaMath.nextW (ShaMath.extend (m - 16) (ShaMath.words 16 l)) = N at hsum hnext hN
          generalize (ShaMath.extend (m - 16) (ShaMath.words 16 l)).getD (m - 2) 0 = a at ga la hsum
          generalize (ShaMath.extend (m - 16) (ShaMath.words 16 l)).getD (m - 7) 0 = b at gb lb hsum
          generalize (ShaMath.extend (m - 16) (ShaMath.words 16 l)).getD (m - 15) 0 = c at gc lc hsum
          generalize (ShaMath.extend (m - 16) (ShaMath.words 16 l)).getD (m - 16) 0 = d at gd ld hsum
          have hll : (ShaMath.extend (m - 16) (ShaMath.words 16 l)).length ≤ 1000000 := by omega
          have hown : OwnW wr w.heap.size (.slice (some ⟨g, 0, none⟩) m cap) (ShaMath.extend (m - 16) (ShaMath.words 16 l)) := ho2
          have t7 := fun W => rot_at c 7 7 rfl W lc (by decide) (by decide)
          have t18 := fun W => rot_at c 18 18 rfl W lc (by decide) (by decide)
          have t17 := fun W => rot_at a 17 17 rfl W la (by decide) (by decide)
          have t19 := fun W => rot_at a 19 19 rfl W la (by decide) (by decide)
          have s1 := small1_bits a la
          have s0 := small0_bits c lc
          have s1l := small1_lt a la
          have s0l := small0_lt c lc
          generalize ShaMath.rot a 17 = ra at t17 s1
          generalize ShaMath.rot a 19 = rb at t19 s1
          generalize ShaMath.rot c 7 = rc at t7 s0
          generalize ShaMath.rot c 18 = rd at t18 s0
          generalize ShaMath.small1 a = S1 at s1 s1l hsum
          generalize ShaMath.small0 c = S0 at s0 s0l hsum
          have hlt : g < wr.heap.size := (ho2.lt g rfl).2
          have w2' : IntKind.i64.wrap ((m : Int) - 2) = ((m - 2 : Nat) : Int) := by simp [IntKind.wrap, IntKind.signed, IntKind.bits]; omega
          have w7 : IntKind.i64.wrap ((m : Int) - 7) = ((m - 7 : Nat) : Int) := by simp [IntKind.wrap, IntKind.signed, IntKind.bits]; omega
          have w15 : IntKind.i64.wrap ((m : Int) - 15) = ((m - 15 : Nat) : Int) := by simp [IntKind.wrap, IntKind.signed, IntKind.bits]; omega
          have w16 : IntKind.i64.wrap ((m : Int) - 16) = ((m - 16 : Nat) : Int) := by simp [IntKind.wrap, IntKind.signed, IntKind.bits]; omega
          have mI0 : (16 : Int) ≤ m := by omega
          have mI1 : (m : Int) < 64 := by omega
          have HSUM := Lib.hid hsum
          have HLM := Lib.hid hlm
          obtain ⟨p2, hp2⟩ : ∃ p, m - 2 = p := ⟨_, rfl⟩
          obtain ⟨p7, hp7⟩ : ∃ p, m - 7 = p := ⟨_, rfl⟩
          obtain ⟨p15, hp15⟩ : ∃ p, m - 15 = p := ⟨_, rfl⟩
          obtain ⟨p16, hp16⟩ : ∃ p, m - 16 = p := ⟨_, rfl⟩
          have l2 : (p2 : Int) < m := by omega
          have l7 : (p7 : Int) < m := by omega
          have l15 : (p15 : Int) < m := by omega
          have l16 : (p16 : Int) < m := by omega
          rw [hp2] at ga w2'
          rw [hp7] at gb w7
          rw [hp15] at gc w15
          rw [hp16] at gd w16 
          clear hsum hlm hp2 hp7 hp15 hp16 ho
          go_upto_region 8 with fail
          go_quiet (fail)
          have hbq : Below w.heap.size w (wr.drewN nq) := below_drewN hbr nq
          have hoq : OwnW (wr.drewN nq) w.heap.size (.slice (some ⟨g, 0, none⟩) m cap) (ShaMath.extend (m - 16) (ShaMath.words 16 l)) := World.ownsRow.kept (row := none) hown ⟨rfl, rfl, rfl, Nat.le_refl _, fun k _ _ => rfl⟩ (by simp [Value.ownBlock])
          have gb' : (wr.drewN nq).cell? ⟨g, p7, none⟩ = some (.int .u32 (b : Nat)) := gb
          have gd' : (wr.drewN nq).cell? ⟨g, p16, none⟩ = some (.int .u32 (d : Nat)) := gd
          have hltq : g < (wr.drewN nq).heap.size := hlt
          generalize wr.drewN nq = W2 at hbq hoq gb' gd' hltq ⊢
          clear ga gb gc gd ho2 hown hbr hlt hbw
          have hC : ∀ W, Below W2.heap.size W2 W → W.cell? ⟨g, p7, none⟩ = some (.int .u32 (b : Nat)) ∧ W.cell? ⟨g, p16, none⟩ = some (.int .u32 (d : Nat)) := fun W h => ⟨(h.cell (p := ⟨g, p7, none⟩) hltq).trans gb', (h.cell (p := ⟨g, p16, none⟩) hltq).trans gd'⟩
          have HCC := Lib.hid hC
          clear hC gb' gd'
          go_upto_region 9 with fail
          refine wp_region_new 30 _ rfl rfl (fun v W => ∃ m, v = .slice (some ⟨m, 0, none⟩) 1 1 ∧ m < W.heap.size ∧ W.cell? ⟨m, 0, none⟩ = some (.int .u32 (N : Nat))) (fun v W W' ⟨m, h1, h2, h3⟩ hb => ⟨m, h1, Nat.lt_of_lt_of_le h2 hb.size, (hb.cell (p := ⟨m, 0, none⟩) h2).trans h3⟩) (by kernel_rfl) (by kernel_rfl) (by kernel_rfl) ?_
          simp only [List.take_succ_cons, List.take_zero, List.drop_succ_cons, List.drop_zero]
          repeat (first
            | (apply wpDet_plain _ rfl; (focus (intro W hW; go_simp; exact ⟨rfl, Below.refl _ _⟩)); simp only [Act.put, List.setIfInBounds_toArray, List.set_cons_zero, List.set_cons_succ])
            | (apply wpDet_plain _ rfl; (focus (intro W hW; obtain ⟨q1, q2⟩ := HCC.out W hW; go_simp; exact ⟨rfl, Below.refl _ _⟩)); simp only [Act.put, List.setIfInBounds_toArray, List.set_cons_zero, List.set_cons_succ])
            | (apply wpDet_plain _ rfl; (focus (intro W hW; go_simp; (first | (with_reducible refine (t7 W).mono ?_) | (with_reducible refine (t18 W).mono ?_) | (with_reducible refine (t17 W).mono ?_) | (with_reducible refine (t19 W).mono ?_)); rintro e w' ⟨rfl, hb⟩; exact ⟨rfl, hb⟩)); simp only [Act.put, List.setIfInBounds_toArray, List.set_cons_zero, List.set_cons_succ]))
          refine wpDet_nil ?_
          refine ⟨?_, ?_⟩
          · intro W hW
            go_simp
            refine ⟨?_, (Below.refl _ _).alloc (Nat.le_refl _) _⟩
            have := HSUM.out
            rw [IntKind.wrap_u32, IntKind.wrap_u32, IntKind.wrap_u32]
            omega
          · rintro v W hW ⟨q, rfl, hq1, hq2⟩
            have how := hoq.keep hW
            have hbW := below_step' hbq hbq.size hW
            have hbs := hbW.size
            simp only [List.setIfInBounds_toArray, List.set_cons_zero, List.set_cons_succ]
            clear hoq hbq hW
            go_wp2_with (at_builtin; refine wpList_append_wordC rfl (.tmp 39) (.tmp 69) rfl w.heap.size _ _ rfl how N q rfl hq2 hll hbs ?_; intro v1 w5 ho5 hb5)
            rw [hnext.out] at ho5
            obtain ⟨g5, cap5, rfl, hc5, hd5⟩ := ho5.shape1 (by rw [ext16 l (m + 1) (by omega)]; omega)
            rw [ext16 l (m + 1) (by omega)] at hc5 ho5 ⊢
            go_roundw
            case rel => exact ⟨m + 1, g5, cap5, by omega, by omega, rfl, hc5, hd5, ho5, hbW.trans hb5⟩
            case measure => show 64 - (m + 1) < 64 - m; omega
        · have hme : m = 64 := by omega
          subst hme
          rw [show 64 - 16 = 48 from rfl] at ho2
          clear h64 h16 hm64 hbw ho
          go_wp2
          go_ret
          exact ⟨_, rfl, ho2, hbr⟩
end Go.Proofs.YtcnemacakjemjaaDoor

/-! CONTRACT of the reference's block: a block worked in. CONDITIONS: each theorem's own hypotheses. -/
namespace Go.Proofs.YtcnemacakjemjaaDoor
open Go.RowKit CodeMath
set_option linter.unusedVariables false

theorem choice_or (h : ShaMath.St) (o : Ok8 h) : bits .or .u32 (bits .and .u32 (h.t : Int) (h.u : Int)) (bits .and .u32 (bits .xor .u32 (if IntKind.u32.signed = true then -1 else IntKind.u32.max) (h.t : Int)) (h.v : Int)) = ((choice h : Nat) : Int) := by
  rw [show (if IntKind.u32.signed = true then (-1 : Int) else IntKind.u32.max) = ((4294967295 : Nat) : Int) from rfl, u32_xor_nat _ _ (by decide) o.t, not_nat _ o.t, u32_and_nat _ _ o.t o.u, u32_and_nat _ _ (by omega) o.v, u32_or_nat _ _ (and_lt _ _ o.t) (and_lt _ _ (by omega))]
  rfl
theorem most_or (h : ShaMath.St) (o : Ok8 h) : bits .or .u32 (bits .or .u32 (bits .and .u32 (h.p : Int) (h.q : Int)) (bits .and .u32 (h.p : Int) (h.r : Int))) (bits .and .u32 (h.q : Int) (h.r : Int)) = ((most h : Nat) : Int) := by
  rw [u32_and_nat _ _ o.p o.q, u32_and_nat _ _ o.p o.r, u32_and_nat _ _ o.q o.r, u32_or_nat _ _ (and_lt _ _ o.p) (and_lt _ _ o.p), u32_or_nat _ _ (Nat.or_lt_two_pow (n := 32) (and_lt _ _ o.p) (and_lt _ _ o.p)) (and_lt _ _ o.q)]
  rfl
/-- Of the words of the rounds, as hex digits, the i-th one. -/
theorem hexK (s : ByteArray) (hs : (decide (s.data.toList.length = 512) && s.data.toList.all fun c => decide (48 ≤ c.toNat ∧ c.toNat ≤ 57 ∨ 97 ≤ c.toNat ∧ c.toNat ≤ 102)) = true)
    (hk : ((List.range 64).all fun i => decide (hexL ((s.data.toList.drop (8 * i)).take 8) = ShaMath.kk.getD i 0)) = true) (i : Nat) (hi : i < 64) (w : World) :
    Calls Tryd.prog 53 #[.string s, .int .i64 i] w fun e w' => e = .returned (.int .u32 (ShaMath.kk.getD i 0 : Nat)) ∧ Below w.heap.size w w' := by
  simp only [Bool.and_eq_true, decide_eq_true_eq, List.all_eq_true] at hs
  simp only [List.all_eq_true, List.mem_range, decide_eq_true_eq] at hk
  have h := hexWord_any s.data.toList i w (by omega) (by omega) (fun c hc => hs.2 c hc)
  rw [hk i hi, ← str_eq] at h
  exact h
theorem one_wrap (h : ShaMath.St) (k w : Nat) : (((((h.x : Int) + (ShaMath.big1 h.t : Nat)) % 4294967296 + (choice h : Nat)) % 4294967296 + (k : Nat)) % 4294967296 + (w : Nat)) % 4294967296 = ((ShaMath.one h k w : Nat) : Int) := by
  rw [← one_sum]
  omega
set_option maxRecDepth 100000 in
set_option maxHeartbeats 4000000 in
theorem block_any (h : ShaMath.St) (o : Ok8 h) (l : List UInt8) (w : World) (hl : l.length = 64) :
    Calls Tryd.prog 58 #[.agg (u32s (lst h)).toArray, .string (str l)] w fun e w' => e = .returned (.agg (u32s (lst (ShaMath.blk h l))).toArray) ∧ Below w.heap.size w w' := by
  have cS := fun W => schedule_any l W hl
  obtain ⟨SL, hSL⟩ : ∃ SL, str l = SL := ⟨_, rfl⟩
  rw [hSL] at cS ⊢
  obtain ⟨H, hH⟩ : ∃ H, (u32s (lst h)).toArray = H := ⟨_, rfl⟩
  rw [hH]
  clear hSL
  go_enter Tryd.func58, Tryd.ntmps58
  go_upto_region 1 with fail
  refine wp_gen (fun W => Blk W w.heap.size 71 (u32s (lst h)) ∧ Blk W (w.heap.size + 1) 71 (u32s (List.replicate 8 0)) ∧ Below w.heap.size w W) ?_ ?_
  · refine ⟨?_, Blk.atNew _ _ (by simp), ((Below.refl _ _).alloc (Nat.le_refl _) _).alloc (by simp) _⟩
    rw [← hH]
    exact (Blk.new w (u32s (lst h)).toArray 71).alloc _
  rintro W ⟨b1, b2, hb⟩
  go_upto_region 2 with (go_at_call 61; refine (cS _).mono ?_; rintro e w4 ⟨v4, rfl, ho4, hb4⟩)
  have hsl : (ShaMath.sched l).length = 64 := by rw [← E2_end, E2_length l 48 (by omega)]
  obtain ⟨g4, cap4, rfl, hc4, hd4⟩ := ho4.shape1 (by rw [hsl]; omega)
  have hsy : ∀ j, (ShaMath.sched l).getD j 0 < 4294967296 := fun j => by have := E2_lt l 48 j; exact this
  rw [hsl] at hc4 ho4 ⊢
  have c4 : ∀ j, j < 64 → w4.cell? ⟨g4, j, none⟩ = some (.int .u32 ((ShaMath.sched l).getD j 0 : Nat)) := fun j hj => ho4.cell' hsl j hj
  have lt4 : g4 < w4.heap.size := (ho4.lt g4 rfl).2
  have k1 := b1.call hb4
  have k2 := b2.call hb4
  have kb : Below w.heap.size w w4 := below_step hb hb.size hb4
  clear b1 b2 hb hb4 cS ho4
  generalize hS : ShaMath.sched l = S at hsl c4 hsy
  have HS := Lib.hid hS
  have C4 := Lib.hid c4
  have SY := Lib.hid hsy
  clear hS c4 hsy hsl
  have c0 := k1.cell (u32s_get (show (lst h)[0]? = some h.p from rfl))
  have c1 := k1.cell (u32s_get (show (lst h)[1]? = some h.q from rfl))
  have c2 := k1.cell (u32s_get (show (lst h)[2]? = some h.r from rfl))
  have c3 := k1.cell (u32s_get (show (lst h)[3]? = some h.s from rfl))
  have c4 := k1.cell (u32s_get (show (lst h)[4]? = some h.t from rfl))
  have c5 := k1.cell (u32s_get (show (lst h)[5]? = some h.u from rfl))
  have c6 := k1.cell (u32s_get (show (lst h)[6]? = some h.v from rfl))
  have c7 := k1.cell (u32s_get (show (lst h)[7]? = some h.x from rfl))
  go_quiet (fail)
  have k1' : Blk (w4.drewN nq) w.heap.size 71 (u32s (lst h)) := k1.same rfl
  have k2' : Blk (w4.drewN nq) (w.heap.size + 1) 71 (u32s (List.replicate 8 0)) := k2.same rfl
  have kb' : Below w.heap.size w (w4.drewN nq) := below_drewN kb nq
  have C4' : Hid (∀ j, j < 64 → (w4.drewN nq).cell? ⟨g4, j, none⟩ = some (.int .u32 (S.getD j 0 : Nat))) := C4
  have lt4' : g4 < (w4.drewN nq).heap.size := lt4
  clear k1 k2 kb C4 lt4 c0 c1 c2 c3 c4 c5 c6 c7
  generalize w4.drewN nq = w5 at k1' k2' kb' C4' lt4' ⊢
  go_wp2_with fail
  go_loopw [6, 7, 8, 9, 10, 11, 12, 13, 14] (fun t5 t6 t7 t8 t9 t10 t11 t12 ix wr => ∃ (i : Nat) (g : ShaMath.St), i ≤ 64 ∧ ix = .int .i64 i ∧ Hid (g = ShaMath.roundsN i ShaMath.kk S h) ∧ t5 = .int .u32 (g.p : Nat) ∧ t6 = .int .u32 (g.q : Nat) ∧ t7 = .int .u32 (g.r : Nat) ∧ t8 = .int .u32 (g.s : Nat) ∧ t9 = .int .u32 (g.t : Nat) ∧ t10 = .int .u32 (g.u : Nat) ∧ t11 = .int .u32 (g.v : Nat) ∧ t12 = .int .u32 (g.x : Nat) ∧ Below w5.heap.size w5 wr) (fun _ _ _ _ _ _ _ _ ix _ => 64 - (intOf ix).toNat)
  case atStart => exact ⟨0, h, by omega, rfl, Lib.hid rfl, rfl, rfl, rfl, rfl, rfl, rfl, rfl, rfl, Below.refl _ _⟩
  case round =>
    obtain ⟨i, g, hi, rfl, hg, rfl, rfl, rfl, rfl, rfl, rfl, rfl, rfl, hbr⟩ := hrel
    by_cases h64 : i < 64
    · have hnext : Hid (ShaMath.round g (ShaMath.kk.getD i 0) (S.getD i 0) = ShaMath.roundsN (i + 1) ShaMath.kk S h) := Lib.hid (by rw [rounds_snoc, ← hg.out])
      have hidx : ∀ W, Below wr.heap.size wr W → W.cell? ⟨g4, i, none⟩ = some (.int .u32 (S.getD i 0 : Nat)) := fun W hW => (hW.cell (p := ⟨g4, i, none⟩) (Nat.lt_of_lt_of_le lt4' hbr.size)).trans ((hbr.cell (p := ⟨g4, i, none⟩) lt4').trans (C4'.out i h64))
      have cH := fun s h1 h2 W => hexK s h1 h2 i h64 W
      have hsx := SY.out i
      obtain ⟨sx, hsx'⟩ : ∃ sx, S.getD i 0 = sx := ⟨_, rfl⟩
      obtain ⟨kx, hkx⟩ : ∃ kx, ShaMath.kk.getD i 0 = kx := ⟨_, rfl⟩
      rw [hsx'] at hidx hnext hsx
      rw [hkx] at cH hnext
      have HID := Lib.hid hidx
      have CH := Lib.hid cH
      clear hsx' hkx hidx cH
      have og : Ok8 g := by rw [hg.out]; exact rounds_ok _ _ _ _ o
      have z1 := choice_or g og
      have z2 := most_or g og
      have z3 := big1_bits g.t og.t
      have z4 := big0_bits g.p og.p
      have z5 := Lib.hid (one_wrap g kx sx)
      have z6 := Lib.hid (two_sum g)
      have t6 := fun W => rot_at g.t 6 6 rfl W og.t (by decide) (by decide)
      have t11 := fun W => rot_at g.t 11 11 rfl W og.t (by decide) (by decide)
      have t25 := fun W => rot_at g.t 25 25 rfl W og.t (by decide) (by decide)
      have t2 := fun W => rot_at g.p 2 2 rfl W og.p (by decide) (by decide)
      have t13 := fun W => rot_at g.p 13 13 rfl W og.p (by decide) (by decide)
      have t22 := fun W => rot_at g.p 22 22 rfl W og.p (by decide) (by decide)
      have hr : (ShaMath.round g kx sx).p = (ShaMath.one g kx sx + ShaMath.two g) % 4294967296 ∧ (ShaMath.round g kx sx).t = (g.s + ShaMath.one g kx sx) % 4294967296 := ⟨rfl, rfl⟩
      generalize ShaMath.rot g.t 6 = r6 at t6 z3
      generalize ShaMath.rot g.t 11 = r11 at t11 z3
      generalize ShaMath.rot g.t 25 = r25 at t25 z3
      generalize ShaMath.rot g.p 2 = r2 at t2 z4
      generalize ShaMath.rot g.p 13 = r13 at t13 z4
      generalize ShaMath.rot g.p 22 = r22 at t22 z4
      have HR := Lib.hid hr
      have iI : (i : Int) < 64 := by omega
      clear hr hg og
      go_upto_region 8 with fail
      refine wp_region_det 20 (by kernel_rfl) (by kernel_rfl) (by kernel_rfl) ?_
      simp only [List.take_succ_cons, List.take_zero, List.drop_succ_cons, List.drop_zero]
      repeat (first
        | (apply wpDet_plain _ rfl; (focus (intro W hW; go_simp; exact ⟨rfl, Below.refl _ _⟩)); simp only [Act.put, List.setIfInBounds_toArray, List.set_cons_zero, List.set_cons_succ])
        | (apply wpDet_plain _ rfl; (focus (intro W hW; have q1 := HID.out W hW; go_simp; exact ⟨rfl, Below.refl _ _⟩)); simp only [Act.put, List.setIfInBounds_toArray, List.set_cons_zero, List.set_cons_succ])
        | (apply wpDet_plain _ rfl; (focus (intro W hW; go_simp; (first | (with_reducible refine (t6 W).mono ?_) | (with_reducible refine (t11 W).mono ?_) | (with_reducible refine (t25 W).mono ?_)); rintro e w' ⟨rfl, hb⟩; exact ⟨rfl, hb⟩)); simp only [Act.put, List.setIfInBounds_toArray, List.set_cons_zero, List.set_cons_succ])
        | (apply wpDet_plain _ rfl; (focus (intro W hW; go_simp; refine (CH.out _ (by decide +kernel) (by decide +kernel) W).mono ?_; rintro e w' ⟨rfl, hb⟩; exact ⟨rfl, hb⟩)); simp only [Act.put, List.setIfInBounds_toArray, List.set_cons_zero, List.set_cons_succ]))
      refine wpDet_nil ?_
      intro W hW
      have hbW := hbr.trans (hW.mono hbr.size)
      clear HID CH hW hbr t6 t11 t25 z1 z3 
      go_wp2_with (first
        | (go_at_call 62; (with_reducible refine (t2 _).mono ?_); rintro e w' ⟨rfl, hb⟩; have m1 := hbW.trans (hb.mono hbW.size); clear hb t2)
        | (go_at_call 62; (with_reducible refine (t13 _).mono ?_); rintro e w' ⟨rfl, hb⟩; have m2 := m1.trans (hb.mono m1.size); clear hb t13)
        | (go_at_call 62; (with_reducible refine (t22 _).mono ?_); rintro e w' ⟨rfl, hb⟩; have m3 := m2.trans (hb.mono m2.size); clear hb t22))
      go_roundw
      case rel =>
        refine ⟨i + 1, ShaMath.round g kx sx, by omega, by go_num, hnext, ?_, rfl, rfl, rfl, ?_, rfl, rfl, rfl, m3⟩
        · rw [z5.out, z6.out, HR.out.1, cast_add_mod]
        · rw [z5.out, HR.out.2, cast_add_mod]
      case measure => simp [intOf]; omega
    · have hi64 : i = 64 := by omega
      have hgE := hg.out
      rw [hi64] at hgE
      have hblk : Hid (ShaMath.plus h g = ShaMath.blk h l) := Lib.hid (by rw [hgE, ← HS.out]; rfl)
      have iI : ¬ ((i : Int) < 64) := by omega
      have q1 := k1'.call hbr
      have q2 := k2'.call hbr
      have qb := kb'.trans (hbr.mono kb'.size)
      have c0 := q1.cell (u32s_get (show (lst h)[0]? = some h.p from rfl))
      have c1 := q1.cell (u32s_get (show (lst h)[1]? = some h.q from rfl))
      have c2 := q1.cell (u32s_get (show (lst h)[2]? = some h.r from rfl))
      have c3 := q1.cell (u32s_get (show (lst h)[3]? = some h.s from rfl))
      have c4 := q1.cell (u32s_get (show (lst h)[4]? = some h.t from rfl))
      have c5 := q1.cell (u32s_get (show (lst h)[5]? = some h.u from rfl))
      have c6 := q1.cell (u32s_get (show (lst h)[6]? = some h.v from rfl))
      have c7 := q1.cell (u32s_get (show (lst h)[7]? = some h.x from rfl))
      clear hi64 hgE hg q1 k1' k2' kb' C4' lt4' hbr h64
      have hpl : (u32s (lst (ShaMath.plus h g))).length = 8 := rfl
      have hz8 : (u32s (List.replicate 8 0)).length = 8 := rfl
      have e0 := cast_add_mod h.p g.p
      have e1 := cast_add_mod h.q g.q
      have e2 := cast_add_mod h.r g.r
      have e3 := cast_add_mod h.s g.s
      have e4 := cast_add_mod h.t g.t
      have e5 := cast_add_mod h.u g.u
      have e6 := cast_add_mod h.v g.v
      have e7 := cast_add_mod h.x g.x
      have hV : (#[.int .u32 (((h.p + g.p) % 4294967296 : Nat) : Int), .int .u32 (((h.q + g.q) % 4294967296 : Nat) : Int), .int .u32 (((h.r + g.r) % 4294967296 : Nat) : Int), .int .u32 (((h.s + g.s) % 4294967296 : Nat) : Int), .int .u32 (((h.t + g.t) % 4294967296 : Nat) : Int), .int .u32 (((h.u + g.u) % 4294967296 : Nat) : Int), .int .u32 (((h.v + g.v) % 4294967296 : Nat) : Int), .int .u32 (((h.x + g.x) % 4294967296 : Nat) : Int)] : Array Value) = (u32s (lst (ShaMath.plus h g))).toArray := rfl
      generalize (h.p + g.p) % 4294967296 = y0 at e0 hV
      generalize (h.q + g.q) % 4294967296 = y1 at e1 hV
      generalize (h.r + g.r) % 4294967296 = y2 at e2 hV
      generalize (h.s + g.s) % 4294967296 = y3 at e3 hV
      generalize (h.t + g.t) % 4294967296 = y4 at e4 hV
      generalize (h.u + g.u) % 4294967296 = y5 at e5 hV
      generalize (h.v + g.v) % 4294967296 = y6 at e6 hV
      generalize (h.x + g.x) % 4294967296 = y7 at e7 hV
      have HV := Lib.hid hV
      clear hV
      go_wp2_with (with_reducible refine wpList_store_blk rfl 71 (.tmp 4) (.tmp 134) rfl (w.heap.size + 1) 0 rfl _ _ q2 (u32s (lst (ShaMath.plus h g))) _ (congrArg Array.toList HV.out) rfl (by rw [hpl, hz8]; omega) (by rw [hpl]; kernel_rfl) (u32s_one _) ?_; intro w7 hg7 hs7 hB7)
      refine bodyPost_ret (results_arr rfl _ _ (w.heap.size + 1) (u32s (lst (ShaMath.plus h g))) rfl ?_ rfl rfl (by rw [hpl]; kernel_rfl)) rfl ⟨by rw [hblk.out], ?_⟩
      · rw [Nat.zero_add, List.take_zero, List.nil_append, List.drop_of_length_le (by rw [hpl, hz8]; exact Nat.le_refl _), List.append_nil] at hB7; exact hB7
      · exact qb.grown hg7 qb.size (fun k h => by cases h; omega)
end Go.Proofs.YtcnemacakjemjaaDoor

/-! CONTRACT of the reference's blocks: all whole blocks worked in. CONDITIONS: each theorem's own hypotheses. -/
namespace Go.Proofs.YtcnemacakjemjaaDoor
open Go.RowKit CodeMath
set_option linter.unusedVariables false

theorem cut_to (l : List UInt8) (j : Nat) (y : Int) (hy : y = j) (hj : j ≤ l.length) (w : World) :
    (Instr.slice 9 (.string (str l)) none (some (.int .i64 y)) none).run Tryd.prog w = .ok (.string (str (l.take j))) w := by
  subst hy
  rw [run_slice_string_to_if (h := Tryd.underlying9), if_pos ⟨by omega, by rw [str_size]; omega⟩, Int.toNat_natCast, str_extract l 0 j (Nat.zero_le _)]
  rfl
theorem cut_from (l : List UInt8) (i : Nat) (x : Int) (hx : x = i) (hi : i ≤ l.length) (w : World) :
    (Instr.slice 9 (.string (str l)) (some (.int .i64 x)) none none).run Tryd.prog w = .ok (.string (str (l.drop i))) w := by
  subst hx
  rw [run_slice_string_from_if (h := Tryd.underlying9), if_pos ⟨by omega, by rw [str_size]; omega⟩, Int.toNat_natCast, str_size, str_extract l i _ hi, List.take_of_length_le (by rw [List.length_drop]; exact Nat.le_refl _)]
def sizeS (v : Value) : Nat := match v with
  | .string s => s.size
  | _ => 0
theorem whole8 (g : ShaMath.St) (hz : (u32s (lst g)).length = 8) (x : Nat) (hx : x = 8) : (List.take 0 (u32s (List.replicate 8 0)) ++ (u32s (lst g) ++ List.drop (0 + x) (u32s (List.replicate 8 0)))) = u32s (lst g) := by
  subst hx; rfl
set_option maxRecDepth 100000 in
set_option maxHeartbeats 4000000 in
theorem blocks_any (h : ShaMath.St) (o : Ok8 h) (l : List UInt8) (w : World) (hl : l.length ≤ 9223372036854775807) :
    Calls Tryd.prog 52 #[.agg (u32s (lst h)).toArray, .string (str l)] w fun e w' => e = .returned (.agg (u32s (lst (ShaMath.run ShaMath.blk h l))).toArray) ∧ Below w.heap.size w w' := by
  obtain ⟨H, hH⟩ : ∃ H, (u32s (lst h)).toArray = H := ⟨_, rfl⟩
  rw [hH]
  go_enter Tryd.func52, Tryd.ntmps52
  go_upto_region 1 with fail
  refine wp_gen (fun W => Hid (Blk W w.heap.size 71 (u32s (lst h))) ∧ Hid (Blk W (w.heap.size + 1) 71 (u32s (List.replicate 8 0))) ∧ Below w.heap.size w W) ?_ ?_
  · refine ⟨?_, Blk.atNew _ _ (by simp), ((Below.refl _ _).alloc (Nat.le_refl _) _).alloc (by simp) _⟩
    rw [← hH]
    exact (Blk.new w (u32s (lst h)).toArray 71).alloc _
  rintro W ⟨b1, b2, hb⟩
  clear hH
  go_loopw [1] (fun t wr => ∃ (m : List UInt8) (g : ShaMath.St), t = .string (str m) ∧ m.length ≤ 9223372036854775807 ∧ Ok8 g ∧ Hid (ShaMath.run ShaMath.blk g m = ShaMath.run ShaMath.blk h l) ∧ Hid (Blk wr w.heap.size 71 (u32s (lst g))) ∧ Hid (Blk wr (w.heap.size + 1) 71 (u32s (List.replicate 8 0))) ∧ Below w.heap.size w wr) (fun t _ => sizeS t)
  case atStart => exact ⟨l, h, rfl, hl, o, Lib.hid rfl, b1, b2, hb⟩
  case round =>
    obtain ⟨m, g, rfl, hm, og, hrun, k1, k2, hbr⟩ := hrel
    have hsz := str_size m
    by_cases h64 : 64 ≤ m.length
    · have ht := cut_to m 64 64 rfl h64
      have hf := cut_from m 64 64 rfl h64
      have cB := fun W => block_any g og (m.take 64) W (by rw [List.length_take]; omega)
      have hnext : Hid (ShaMath.run ShaMath.blk (ShaMath.blk g (m.take 64)) (m.drop 64) = ShaMath.run ShaMath.blk h l) := Lib.hid (by rw [← ShaMath.run_step _ _ _ h64]; exact hrun.out)
      have hdl : (m.drop 64).length ≤ 9223372036854775807 := by rw [List.length_drop]; omega
      have hms : (str (m.drop 64)).size < (str m).size := by rw [str_size, str_size, List.length_drop]; omega
      have hI : (64 : Int) ≤ (str m).size := by rw [hsz]; omega
      obtain ⟨S, hS⟩ : ∃ S, str m = S := ⟨_, rfl⟩
      obtain ⟨T, hT⟩ : ∃ T, str (m.take 64) = T := ⟨_, rfl⟩
      obtain ⟨R, hR⟩ : ∃ R, str (m.drop 64) = R := ⟨_, rfl⟩
      obtain ⟨G, hG⟩ : ∃ G, (u32s (lst g)).toArray = G := ⟨_, rfl⟩
      obtain ⟨G2, hG2⟩ : ∃ G2, (u32s (lst (ShaMath.blk g (m.take 64)))).toArray = G2 := ⟨_, rfl⟩
      rw [hS] at ht hf hms hI ⊢
      rw [hT] at ht cB
      rw [hR] at hf hms
      rw [hG, hG2] at cB
      have okn := blk_ok g (m.take 64)
      have hld : ∀ W, Below wr.heap.size wr W → (Instr.loadAt 71 (.pointer (some ⟨w.heap.size, 0, none⟩))).run Tryd.prog W = .ok (.agg G) W := fun W hW => by
        rw [← hG]; exact load_whole (k1.out.call hW) (d := .array 8 63) rfl rfl (by kernel_rfl)
      have h8 : (u32s (lst (ShaMath.blk g (m.take 64)))).length = 8 := rfl
      have h8' : (u32s (lst g)).length = 8 := rfl
      have HLD := Lib.hid hld
      have HSR := Lib.hid hR
      clear hld hsz hS hT hR hG b1 b2 hb hrun
      go_upto_region 3 with fail
      refine wp_region_det 3 (by kernel_rfl) (by kernel_rfl) (by kernel_rfl) ?_
      simp only [List.take_succ_cons, List.take_zero, List.drop_succ_cons, List.drop_zero]
      repeat (first
        | (apply wpDet_plain _ rfl; (focus (intro W hW; exact detV_load 71 (.tmp 2) rfl (HLD.out W hW))); simp only [Act.put, List.setIfInBounds_toArray, List.set_cons_zero, List.set_cons_succ])
        | (apply wpDet_plain _ rfl; (focus (intro W hW; go_simp; exact ⟨rfl, Below.refl _ _⟩)); simp only [Act.put, List.setIfInBounds_toArray, List.set_cons_zero, List.set_cons_succ]))
      refine wpDet_nil ?_
      intro W hW
      have k1' := k1.out.call hW
      have k2' := k2.out.call hW
      have hbW := hbr.trans (hW.mono hbr.size)
      clear HLD
      go_wp2_with (first
        | (go_at_call 58; refine (cB _).mono ?_; rintro e w4 ⟨rfl, hb4⟩; have k3 := k1'.call hb4)
        | (with_reducible refine wpList_store_blk rfl 71 (.tmp 2) (.tmp 13) rfl w.heap.size 0 rfl _ _ k3 (u32s (lst (ShaMath.blk g (m.take 64)))) G2 (by rw [← hG2]) rfl (by rw [h8, h8']; omega) (by rw [h8]; kernel_rfl) (u32s_one _) ?_; intro w7 hg7 hs7 hB7))
      have k4 := (k2'.call hb4).same (hg7.block (w.heap.size + 1) (k2'.call hb4).lt (by simp))
      have hb7 : Below w.heap.size w w7 := (below_step hbW hbW.size hb4).grown hg7 (Nat.le_trans hbW.size hb4.size) (fun k h => by cases h; exact Nat.le_refl _)
      have hB8 : Blk w7 w.heap.size 71 (u32s (lst (ShaMath.blk g (m.take 64)))) := hB7
      go_roundw
      case rel => exact ⟨m.drop 64, _, by rw [HSR.out], hdl, okn, hnext, Lib.hid hB8, Lib.hid k4, hb7⟩
      case measure => exact hms
    · have hI : ¬ ((64 : Int) ≤ (str m).size) := by rw [hsz]; omega
      have he := hrun.out
      rw [ShaMath.run_short _ _ _ (by omega)] at he
      have k1' := k1.out
      have k2' := k2.out
      have HE := Lib.hid he
      obtain ⟨G, hG⟩ : ∃ G, (u32s (lst g)).toArray = G := ⟨_, rfl⟩
      have eG : (((u32s (lst g)).drop 0).take 8).toArray = G := by rw [← hG]; rfl
      have h8 : (u32s (lst g)).length = 8 := rfl
      have h8' : (u32s (List.replicate 8 0)).length = 8 := rfl
      obtain ⟨S, hS⟩ : ∃ S, str m = S := ⟨_, rfl⟩
      rw [hS] at hI ⊢
      clear he hrun k1 k2 hsz hS b1 b2 hb
      go_wp2_with (first
        | (with_reducible refine wpList_load_blk rfl 71 (.tmp 2) rfl w.heap.size 0 8 rfl _ _ k1' (by rw [h8]; omega) G eG _ rfl rfl (by kernel_rfl) ?_)
        | (with_reducible refine wpList_store_blk rfl 71 (.tmp 4) (.tmp 14) rfl (w.heap.size + 1) 0 rfl _ _ k2' (u32s (lst g)) G (by rw [← hG]) rfl (by rw [h8, h8']; omega) (by rw [h8]; kernel_rfl) (u32s_one _) ?_; intro w7 hg7 hs7 hB7))
      refine bodyPost_ret (results_arr rfl _ _ (w.heap.size + 1) (u32s (lst g)) rfl ?_ rfl rfl (by rw [h8]; kernel_rfl)) rfl ⟨by rw [HE.out], ?_⟩
      · exact hB7
      · exact hbr.grown hg7 hbr.size (fun k h => by cases h; exact Nat.le_succ _)
end Go.Proofs.YtcnemacakjemjaaDoor

/-! CONTRACTS of the reference's Begun, badStream, heldOf, and big of any size. CONDITIONS: each theorem's own hypotheses. -/
namespace Go.Proofs.YtcnemacakjemjaaDoor
open Go.RowKit CodeMath
set_option linter.unusedVariables false
set_option maxRecDepth 100000

/-- Of words as hex digits the i-th one. -/
theorem hexG (K : List Nat) (n : Nat) (hn : n ≤ 64) (s : ByteArray) (hs : (decide (s.data.toList.length = 8 * n) && s.data.toList.all fun c => decide (48 ≤ c.toNat ∧ c.toNat ≤ 57 ∨ 97 ≤ c.toNat ∧ c.toNat ≤ 102)) = true)
    (hk : ((List.range n).all fun i => decide (hexL ((s.data.toList.drop (8 * i)).take 8) = K.getD i 0)) = true) (i : Nat) (hi : i < n) (w : World) :
    Calls Tryd.prog 53 #[.string s, .int .i64 i] w fun e w' => e = .returned (.int .u32 (K.getD i 0 : Nat)) ∧ Below w.heap.size w w' := by
  simp only [Bool.and_eq_true, decide_eq_true_eq, List.all_eq_true] at hs
  simp only [List.all_eq_true, List.mem_range, decide_eq_true_eq] at hk
  have h := hexWord_any s.data.toList i w (by omega) (by omega) (fun c hc => hs.2 c hc)
  rw [hk i hi, ← str_eq] at h
  exact h
def begC (i : Nat) : List Value := u32s ((lst ShaMath.h0).take i ++ List.replicate (8 - i) 0) ++ (u8s (List.replicate 64 0) ++ [.int .i64 0, .int .i64 0])
theorem begC_set (i : Nat) (hi : i < 8) : (begC i).set i (.int .u32 ((lst ShaMath.h0).getD i 0 : Nat)) = begC (i + 1) := by
  rcases (show i = 0 ∨ i = 1 ∨ i = 2 ∨ i = 3 ∨ i = 4 ∨ i = 5 ∨ i = 6 ∨ i = 7 by omega) with rfl | rfl | rfl | rfl | rfl | rfl | rfl | rfl <;> rfl
theorem begC_len (i : Nat) (hi : i ≤ 8) : (begC i).length = 74 := by
  unfold begC
  rw [List.length_append, u32s_length, List.length_append, List.length_take, lst_length, List.length_replicate, List.length_append, u8s_length, List.length_replicate]
  simp only [List.length_cons, List.length_nil]
  omega
theorem begC_end : begC 8 = (can ShaMath.h0 [] 0).cells := rfl
set_option maxRecDepth 100000 in
set_option maxHeartbeats 4000000 in
theorem begun_any (w : World) : Calls Tryd.prog 43 #[] w fun e w' => e = .returned (.agg (can ShaMath.h0 [] 0).cells.toArray) ∧ Below w.heap.size w w' := by
  have hzero := zero_stream
  go_enter Tryd.func43, Tryd.ntmps43
  go_upto_region 2 with fail
  refine wp_gen (fun W => Hid (Blk W w.heap.size 74 noStm.cells) ∧ Hid (Blk W (w.heap.size + 1) 74 (begC 0)) ∧ Below w.heap.size w W) ?_ ?_
  · refine ⟨?_, ?_, ((Below.refl _ _).alloc (Nat.le_refl _) _).alloc (by simp) _⟩
    · exact (Blk.new w noCells 74).alloc _
    · exact Blk.atNew noCells _ (by simp)
  rintro W ⟨b1, b2, hb⟩
  clear hzero
  go_wp2_with fail
  go_loopw [3] (fun t wr => ∃ i : Nat, i ≤ 8 ∧ t = .int .i64 i ∧ Hid (Blk wr w.heap.size 74 noStm.cells) ∧ Hid (Blk wr (w.heap.size + 1) 74 (begC i)) ∧ Below w.heap.size w wr) (fun t _ => 8 - (intOf t).toNat)
  case atStart => exact ⟨0, by omega, rfl, b1, b2, hb⟩
  case round =>
    obtain ⟨i, hi, rfl, k1, k2, hbr⟩ := hrel
    by_cases h8 : i < 8
    · have iI : (i : Int) < 8 := by omega
      have hset := Lib.hid (begC_set i h8)
      have hlen := begC_len i (by omega)
      have cH := fun s h1 h2 W => hexG (lst ShaMath.h0) 8 (by decide) s h1 h2 i h8 W
      obtain ⟨x, hx⟩ : ∃ x, (lst ShaMath.h0).getD i 0 = x := ⟨_, rfl⟩
      have hget : ∃ u, (begC i)[i]? = some u := ⟨_, List.getElem?_eq_getElem (by omega)⟩
      obtain ⟨u, hu⟩ := hget
      rw [hx] at cH hset
      have CH := Lib.hid cH
      clear hx cH hlen b1 b2 hb
      go_wp2_with (go_at_call 53; refine (CH.out _ (by decide +kernel) (by decide +kernel) _).mono ?_; rintro e w4 ⟨rfl, hb4⟩; have m1 := Lib.hid (k1.out.call hb4); have m2 := Lib.hid (k2.out.call hb4); have m3 := below_step hbr hbr.size hb4; have q1 := m2.out.cell hu; have f1 := m2.out.free i)
      have n1 := m1.out.other ⟨w.heap.size + 1, i, none⟩ (.int .u32 (x : Nat)) (show w.heap.size ≠ w.heap.size + 1 by omega)
      have n2 := m2.out.set i (.int .u32 (x : Nat))
      rw [hset.out] at n2
      have n3 := m3.setCell (p := ⟨w.heap.size + 1, i, none⟩) (Nat.le_succ _) (.int .u32 (x : Nat))
      go_roundw
      case rel => exact ⟨i + 1, by omega, by go_num, Lib.hid n1, Lib.hid n2, n3⟩
      case measure => simp [intOf]; omega
    · have iI : ¬ ((i : Int) < 8) := by omega
      have hie : i = 8 := by omega
      rw [hie, begC_end] at k2
      have k2' := k2.out
      have k1' := k1.out
      have hl : (can ShaMath.h0 [] 0).cells.length = 74 := rfl
      have hn : noStm.cells.length = 74 := rfl
      obtain ⟨V, hV⟩ : ∃ V, (can ShaMath.h0 [] 0).cells.toArray = V := ⟨_, rfl⟩
      have e1 : (((can ShaMath.h0 [] 0).cells.drop 0).take 74).toArray = V := by rw [List.drop_zero, List.take_of_length_le (by rw [hl]; exact Nat.le_refl _)]; exact hV
      clear hie k1 k2 h8 b1 b2 hb
      go_wp2_with (first
        | (with_reducible refine wpList_load_blk rfl 74 (.tmp 1) rfl (w.heap.size + 1) 0 74 rfl _ _ k2' (by rw [hl]; omega) V e1 _ rfl rfl (by kernel_rfl) ?_)
        | (with_reducible refine wpList_store_blk rfl 74 (.tmp 0) (.tmp 12) rfl w.heap.size 0 rfl _ _ k1' (can ShaMath.h0 [] 0).cells V (by rw [← hV]) rfl (by rw [hl, hn]; omega) (by rw [hl]; kernel_rfl) (stm_one _) ?_; intro w7 hg7 hs7 hB7))
      refine bodyPost_ret (results_arr rfl _ _ w.heap.size (can ShaMath.h0 [] 0).cells rfl ?_ rfl rfl (by rw [hl]; kernel_rfl)) rfl ⟨by rw [hV], ?_⟩
      · rw [Nat.zero_add, List.take_zero, List.nil_append, List.drop_of_length_le (by rw [hl, hn]; exact Nat.le_refl _), List.append_nil] at hB7; exact hB7
      · exact hbr.grown hg7 hbr.size (fun k h => by cases h; exact Nat.le_refl _)

/-! ### badStream -/
theorem all_take_drop (l : List UInt8) (n i : Nat) (c : UInt8) (h : l[i]? = some c) (hz : n ≤ i → c = 0) (ha : ((l.take i).drop n).all (· == 0) = true) : ((l.take (i + 1)).drop n).all (· == 0) = true := by
  have hi := (List.getElem?_eq_some_iff.1 h).1
  have hc := (List.getElem?_eq_some_iff.1 h).2
  rw [List.take_succ_eq_append_getElem hi, hc, List.drop_append, List.all_append, ha, Bool.true_and]
  rw [List.length_take, Nat.min_eq_left (by omega)]
  by_cases hn : n ≤ i
  · rw [hz hn, show n - i = 0 by omega]; rfl
  · rw [List.drop_of_length_le (by simp; omega)]; rfl
set_option maxRecDepth 100000 in
set_option maxHeartbeats 4000000 in
theorem badStream_any (s : Stm) (f : s.Fit) (w : World) :
    Calls Tryd.prog 50 #[.agg s.cells.toArray] w fun e w' => e = .returned (.bool (!s.good)) ∧ Below w.heap.size w w' := by
  obtain ⟨A, hA⟩ : ∃ A, s.cells.toArray = A := ⟨_, rfl⟩
  rw [hA]
  have n0 := f.n0
  have n1 := f.n1
  have l0 := f.l0
  have l1 := f.l1
  have key : ∀ W, Blk W w.heap.size 74 s.cells → W.cell? ⟨w.heap.size, 72, none⟩ = some (.int .i64 s.n) ∧ W.cell? ⟨w.heap.size, 73, none⟩ = some (.int .i64 s.len) := fun W b => ⟨b.cell (s.get_n f.held), b.cell (s.get_len f.held)⟩
  by_cases hlen : 0 ≤ s.len ∧ s.len ≤ 1152921504606846976 ∧ s.n = s.len % 64
  · rw [s.good_len hlen]
    obtain ⟨g1, g2, g3⟩ := hlen
    obtain ⟨k, hk⟩ : ∃ k : Nat, s.n = (k : Int) := ⟨s.n.toNat, by omega⟩
    have hk64 : k < 64 := by omega
    have hkt : s.n.toNat = k := by omega
    rw [hkt]
    rw [hk] at key
    have hb64 := f.held
    obtain ⟨ANS, hANS⟩ : ∃ ANS, (s.held.drop k).all (· == 0) = ANS := ⟨_, rfl⟩
    rw [hANS]
    have hc74 := Stm.cells_length _ f.held
    obtain ⟨V, hV⟩ : ∃ V, (u8s s.held).toArray = V := ⟨_, rfl⟩
    have eV : ((s.cells.drop 8).take 64).toArray = V := by rw [Stm.get_all _ f.held]; exact hV
    have g7 : s.len % 64 = (k : Int) := by omega
    generalize hL : s.len = L at g1 g2 g7 key
    have g5 : ¬ (L < 0) := by omega
    have g6 : ¬ (1152921504606846976 < L) := by omega
    have g8 : ((k : Int) == (k : Int)) = true := by simp
    clear n0 n1 l0 l1 hkt hk g3 hL
    go_enter Tryd.func50, Tryd.ntmps50
    go_upto_region 1 with fail
    refine wp_gen (fun W => Blk W w.heap.size 74 s.cells ∧ Below w.heap.size w W) ⟨by rw [← hA]; exact Blk.new _ _ _, (Below.refl _ _).alloc (Nat.le_refl _) _⟩ ?_
    rintro W ⟨b, hb⟩
    obtain ⟨q1, q2⟩ := key W b
    go_wp2_with (with_reducible refine wpList_load_blk rfl 72 (.tmp 21) rfl w.heap.size 8 64 rfl _ _ b (by rw [hc74]; omega) V eV _ rfl rfl (by kernel_rfl) ?_)
    go_loopw [23] (fun ix wr => ∃ i : Nat, i ≤ 64 ∧ ix = .int .i64 i ∧ Hid (((s.held.take i).drop k).all (· == 0) = true) ∧ wr = W) (fun ix _ => 64 - (intOf ix).toNat)
    case atStart => exact ⟨0, Nat.zero_le _, rfl, Lib.hid (by simp), rfl⟩
    case round =>
      obtain ⟨i, hi, rfl, hal, rfl⟩ := hrel
      by_cases h1 : i < 64
      · have iI : (i : Int) < 64 := by omega
        obtain ⟨c, hc⟩ : ∃ c, s.held[i]? = some c := ⟨_, List.getElem?_eq_getElem (by omega)⟩
        have hidx := fun W => run_index_u8s (t := 72) rfl s.held hb64 i c hc W
        rw [hV] at hidx
        by_cases hn : k ≤ i
        · have kI : (k : Int) ≤ i := by omega
          by_cases hz : c = 0
          · have ht : ((c.toNat : Int) != 0) = false := by rw [hz]; rfl
            have hal2 : Hid (((s.held.take (i + 1)).drop k).all (· == 0) = true) := Lib.hid (all_take_drop _ _ _ _ hc (fun _ => hz) hal.out)
            clear hc hal hz
            go_wp2
            go_roundw
            case rel => exact ⟨i + 1, by omega, by go_num, hal2, trivial⟩
            case measure => simp [intOf]; omega
          · have hne : ¬ ((c.toNat : Int) = 0) := by
              intro e
              exact hz (UInt8.toNat_inj.1 (show c.toNat = (0 : UInt8).toNat from by simpa using e))
            have ht : ((c.toNat : Int) != 0) = true := by simpa using hne
            have hfalse : ANS = false := by rw [← hANS]; exact all_here _ (i - k) c (by rw [List.getElem?_drop, show k + (i - k) = i by omega]; exact hc) (by simpa using hz)
            have HF := Lib.hid hfalse
            clear hc hal hz hfalse hne
            go_wp2
            go_ret
            exact ⟨by rw [HF.out]; rfl, hb⟩
        · have kI : ¬ ((k : Int) ≤ i) := by omega
          have hal2 : Hid (((s.held.take (i + 1)).drop k).all (· == 0) = true) := Lib.hid (all_take_drop _ _ _ _ hc (fun h => absurd h hn) hal.out)
          clear hc hal
          go_wp2
          go_roundw
          case rel => exact ⟨i + 1, by omega, by go_num, hal2, trivial⟩
          case measure => simp [intOf]; omega
      · have iI : ¬ ((i : Int) < 64) := by omega
        have htrue : ANS = true := by
          have := hal.out
          rw [List.take_of_length_le (by omega)] at this
          rw [← hANS]; exact this
        have HT := Lib.hid htrue
        clear htrue h1 hal
        go_wp2
        go_ret
        exact ⟨by rw [HT.out]; rfl, hb⟩
  · rw [s.bad_len hlen]
    by_cases h1 : s.len < 0
    · go_enter Tryd.func50, Tryd.ntmps50
      go_upto_region 1 with fail
      refine wp_gen (fun W => Blk W w.heap.size 74 s.cells ∧ Below w.heap.size w W) ⟨by rw [← hA]; exact Blk.new _ _ _, (Below.refl _ _).alloc (Nat.le_refl _) _⟩ ?_
      rintro W ⟨b, hb⟩
      obtain ⟨q1, q2⟩ := key W b
      go_wp2
      go_ret
      exact ⟨rfl, hb⟩
    · by_cases h2 : 1152921504606846976 < s.len
      · go_enter Tryd.func50, Tryd.ntmps50
        go_upto_region 1 with fail
        refine wp_gen (fun W => Blk W w.heap.size 74 s.cells ∧ Below w.heap.size w W) ⟨by rw [← hA]; exact Blk.new _ _ _, (Below.refl _ _).alloc (Nat.le_refl _) _⟩ ?_
        rintro W ⟨b, hb⟩
        obtain ⟨q1, q2⟩ := key W b
        go_wp2
        go_ret
        exact ⟨rfl, hb⟩
      · have h3 : ¬ s.n = s.len % 64 := by omega
        obtain ⟨L, hL⟩ : ∃ L, s.len % 64 = L := ⟨_, rfl⟩
        have h4 : (s.n == L) = false := by rw [← hL]; simpa using h3
        have h4' : (s.n != L) = true := by rw [bne, h4]; rfl
        have h5 : ¬ (s.n = L) := by rw [← hL]; exact h3
        have h6 : s.len.tmod 64 = L := by rw [Int.tmod_eq_emod_of_nonneg (by omega)]; exact hL
        clear h3 hlen
        go_enter Tryd.func50, Tryd.ntmps50
        go_upto_region 1 with fail
        refine wp_gen (fun W => Blk W w.heap.size 74 s.cells ∧ Below w.heap.size w W) ⟨by rw [← hA]; exact Blk.new _ _ _, (Below.refl _ _).alloc (Nat.le_refl _) _⟩ ?_
        rintro W ⟨b, hb⟩
        obtain ⟨q1, q2⟩ := key W b
        go_wp2
        go_ret
        exact ⟨rfl, hb⟩
end Go.Proofs.YtcnemacakjemjaaDoor

/-! CONTRACTS of the reference's heldOf and Added. CONDITIONS: each theorem's own hypotheses. -/
namespace Go.Proofs.YtcnemacakjemjaaDoor
open Go.RowKit CodeMath
set_option linter.unusedVariables false
set_option maxRecDepth 100000

/-- x[:], x an array of 64 bytes in a block. -/
theorem slice_all64 (b o : Nat) (W : World) : (Instr.sliceAt 72 (.pointer (some ⟨b, o, none⟩)) none none none).run Tryd.prog W = .ok (.slice (some ⟨b, o, none⟩) 64 64) W := by
  have hs : (sizeOf (Tryd.prog.elem 72)).run Tryd.prog W = .ok 1 W := by kernel_rfl
  have hl : Tryd.prog.arrayLen 72 = 64 := by kernel_rfl
  have h := run_sliceAt_array_all (P := Tryd.prog) W 72 ⟨b, o, none⟩ (by kernel_rfl)
  rw [h, hs, hl]
  simp [Result.andThen, slicedAt, Addr.add]
theorem bytes_of_blk {w : World} {g : Nat} {T : TypeId} {l : List UInt8} (h : Blk w g T (u8s l)) : Bytes w (some ⟨g, 0, none⟩) l :=
  .inr ⟨g, 0, rfl, h.lt, fun j x hx => by rw [Nat.zero_add]; exact h.cell (u8s_get hx)⟩
set_option maxRecDepth 100000 in
set_option maxHeartbeats 4000000 in
theorem heldOf_any (s : Stm) (f : s.Fit) (k : Nat) (hk : s.n = k) (h64 : k ≤ 64) (w : World) :
    Calls Tryd.prog 51 #[.agg s.cells.toArray] w fun e w' => e = .returned (.string (str (s.held.take k))) ∧ Below w.heap.size w w' := by
  obtain ⟨A, hA⟩ : ∃ A, s.cells.toArray = A := ⟨_, rfl⟩
  rw [hA]
  have hct := fun W => cut_to s.held k k rfl (by rw [f.held]; exact h64) W
  obtain ⟨R, hR⟩ : ∃ R, str (s.held.take k) = R := ⟨_, rfl⟩
  rw [hR] at hct ⊢
  have hc74 := Stm.cells_length _ f.held
  obtain ⟨V, hV⟩ : ∃ V, (u8s s.held).toArray = V := ⟨_, rfl⟩
  have eV : ((s.cells.drop 8).take 64).toArray = V := by rw [Stm.get_all _ f.held]; exact hV
  have hl64 : (u8s s.held).length = 64 := by rw [u8s_length, f.held]
  obtain ⟨V0, hV0⟩ : ∃ V, (u8s (List.replicate 64 0)).toArray = V := ⟨_, rfl⟩
  have z24 : ∀ W, (zeroValue 72).run Tryd.prog W = .ok (.agg V0) W := fun W => by rw [← hV0]; kernel_rfl
  have sz64 : (u8s (List.replicate 64 0)).length = 64 := by rw [u8s_length, List.length_replicate]
  go_enter Tryd.func51, Tryd.ntmps51
  go_upto_region 1 with fail
  refine wp_gen (fun W => Blk W w.heap.size 74 s.cells ∧ Below w.heap.size w W) ⟨by rw [← hA]; exact Blk.new _ _ _, (Below.refl _ _).alloc (Nat.le_refl _) _⟩ ?_
  rintro W ⟨b, hb⟩
  have bn : Blk (W.alloc (.cells V0 72)) W.heap.size 72 (u8s (List.replicate 64 0)) := by rw [← hV0]; exact Blk.new W _ _
  go_upto_region 2 with (first
    | (with_reducible refine wpList_load_blk rfl 72 (.tmp 4) rfl w.heap.size 8 64 rfl _ _ b (by rw [hc74]; omega) V eV _ rfl rfl (by kernel_rfl) ?_)
    | (with_reducible refine wpList_store_blk rfl 72 (.tmp 3) (.tmp 5) rfl W.heap.size 0 rfl _ _ bn (u8s s.held) V (by rw [← hV]) rfl (by rw [hl64, sz64]; omega) (by rw [hl64]; kernel_rfl) (u8s_one _) ?_; intro w2 hg2 hs2 hB2))
  have hWs : w.heap.size < W.heap.size := b.lt
  have b' := (b.alloc (.cells V0 72)).same (hg2.block w.heap.size (b.alloc _).lt (by simp; omega))
  have hb2 : Below w.heap.size w w2 := (hb.alloc hb.size _).grown hg2 (by have := hb.size; simp; omega) (fun k h => by cases h; exact hb.size)
  rw [Nat.zero_add, List.take_zero, List.nil_append, List.drop_of_length_le (by rw [hl64, sz64]; exact Nat.le_refl _), List.append_nil] at hB2
  generalize W.heap.size = A6 at hB2 hWs ⊢
  have hq : ∀ W, Below w2.heap.size w2 W → W.cell? ⟨w.heap.size, 72, none⟩ = some (.int .i64 (k : Int)) ∧ (convert 37 9 (.slice (some ⟨A6, 0, none⟩) 64 64)).run Tryd.prog W = .ok (.string (str s.held)) W := fun W hW => by
    refine ⟨by rw [← hk]; exact (b'.call hW).cell (s.get_n f.held), ?_⟩
    have := bytes_string (cap := 64) (bytes_of_blk (hB2.call hW))
    rw [f.held] at this
    exact this
  have hsl := fun W => slice_all64 A6 0 W
  obtain ⟨S, hS⟩ : ∃ S, str s.held = S := ⟨_, rfl⟩
  rw [hS] at hq hct
  have HQ := Lib.hid hq
  clear hq hS hR hB2 b' b bn hg2 hs2 hb z24 hV0 hV hA eV hl64 sz64 hc74 
  refine wp_region_det 5 (by kernel_rfl) (by kernel_rfl) (by kernel_rfl) ?_
  simp only [List.take_succ_cons, List.take_zero, List.drop_succ_cons, List.drop_zero]
  repeat (first
    | (apply wpDet_plain _ rfl; (focus (intro W hW; go_simp; exact ⟨rfl, Below.refl _ _⟩)); simp only [Act.put, List.setIfInBounds_toArray, List.set_cons_zero, List.set_cons_succ])
    | (apply wpDet_plain _ rfl; (focus (intro W hW; obtain ⟨q1, q2⟩ := HQ.out W hW; go_simp; exact ⟨rfl, Below.refl _ _⟩)); simp only [Act.put, List.setIfInBounds_toArray, List.set_cons_zero, List.set_cons_succ]))
  refine wpDet_nil ?_
  intro W hW
  go_wp2
  go_ret
  exact ⟨rfl, hb2.trans (hW.mono hb2.size)⟩

/-! ### Added -/
theorem detV_build {P : Program} {o : Oper} {a : Act} {w : World} (t : TypeId) (parts : Array (Nat × Operand)) (ho : o.op = .build t parts) {V : Array Value} (hV : P.built t (parts.map fun (i, x) => (i, a.eval x)).toList = some V) : DetV P (.agg V) w ((execOp a.eval o).run P w) := by
  have e : (execOp a.eval o).run P w = .ok (.value (.agg V)) w := by
    unfold execOp
    simp only [ho, Sem.run_bind, run_build w t _ V hV, Result.andThen_ok]
    rfl
  rw [e]
  exact ⟨rfl, Below.refl _ _⟩
theorem Stm.set_held_at (s : Stm) (hf : s.held.length = 64) (i : Nat) (hi : i < 64) (c : UInt8) : s.cells.set (8 + i) (.int .u8 (c.toNat : Nat)) = ({ s with held := s.held.set i c } : Stm).cells := by
  unfold Stm.cells
  rw [List.set_append_right _ _ (by rw [lenH]; omega), lenH, Nat.add_sub_cancel_left, List.set_append_left _ _ (by rw [u8s_length, hf]; exact hi), u8s_set]
/-- So many bytes, noughts behind them. -/
def fill64 (r : List UInt8) (i : Nat) : List UInt8 := r.take i ++ List.replicate (64 - i) 0
theorem fill64_length (r : List UInt8) (i : Nat) (h : i ≤ r.length) (h64 : i ≤ 64) : (fill64 r i).length = 64 := by
  unfold fill64; rw [List.length_append, List.length_take, List.length_replicate]; omega
theorem fill64_set (r : List UInt8) (i : Nat) (c : UInt8) (h : r[i]? = some c) (h64 : i < 64) : (fill64 r i).set i c = fill64 r (i + 1) := by
  have hi := (List.getElem?_eq_some_iff.1 h).1
  have hc := (List.getElem?_eq_some_iff.1 h).2
  unfold fill64
  rw [List.take_succ_eq_append_getElem hi, hc, List.set_append_right _ _ (by rw [List.length_take]; omega), List.length_take, Nat.min_eq_left (by omega), Nat.sub_self, show 64 - i = (64 - (i + 1)) + 1 by omega, List.replicate_succ, List.set_cons_zero]
  simp
theorem rest_from (l : List UInt8) : ShaMath.rest l = l.drop (l.length - l.length % 64) := by
  unfold ShaMath.rest
  congr 1
  omega
set_option maxRecDepth 100000 in
set_option maxHeartbeats 2000000 in
theorem Added_bad (s : Stm) (f : s.Fit) (v : Value) (hg : s.good = false) (w : World) :
    Calls Tryd.prog 42 #[.agg s.cells.toArray, v] w fun e w' => e = .returned (.tuple #[.agg noStm.cells.toArray, .int .i64 11]) ∧ Below w.heap.size w w' := by
  obtain ⟨A, hA⟩ : ∃ A, s.cells.toArray = A := ⟨_, rfl⟩
  obtain ⟨Z, hZ⟩ : ∃ Z, noStm.cells.toArray = Z := ⟨_, rfl⟩
  have hzero := zero_stream
  have cI := fun W => badStream_any s f W
  have hc74 := Stm.cells_length _ f.held
  have hn : noStm.cells.length = 74 := rfl
  rw [hA, hg] at cI
  rw [hA]
  go_enter Tryd.func42, Tryd.ntmps42
  go_upto_region 1 with fail
  refine wp_gen (fun W => Blk W w.heap.size 74 s.cells ∧ Blk W (w.heap.size + 1) 74 noStm.cells ∧ Below w.heap.size w W) ?_ ?_
  · refine ⟨?_, Blk.atNew noCells _ (by simp), ((Below.refl _ _).alloc (Nat.le_refl _) _).alloc (by simp) _⟩
    rw [← hA]
    exact (Blk.new w s.cells.toArray 74).alloc _
  rintro W ⟨b1, b2, hbw⟩
  have e1 : ((s.cells.drop 0).take 74).toArray = A := by rw [List.drop_zero, List.take_of_length_le (by omega)]; exact hA
  clear hzero
  go_wp2_with (first
    | (with_reducible refine wpList_load_blk rfl 74 (.tmp 2) rfl w.heap.size 0 74 rfl _ _ b1 (by rw [hc74]; omega) A e1 _ rfl rfl (by kernel_rfl) ?_)
    | (go_at_call 50; refine (cI _).mono ?_; rintro e w4 ⟨rfl, k1⟩; have B2 := b2.call k1; have m4 := below_step hbw hbw.size k1; clear cI)
    | (with_reducible refine wpList_build_as rfl 74 #[] rfl Z (by rw [← hZ]; kernel_rfl) ?_)
    | (with_reducible refine wpList_store_blk rfl 74 (.tmp 4) (.tmp 12) rfl (w.heap.size + 1) 0 rfl _ _ B2 noStm.cells Z (by rw [← hZ]) rfl (by rw [hn]; omega) (by rw [hn]; kernel_rfl) (stm_one _) ?_; intro x3 hg7 hs7 hB7))
  refine bodyPost_ret (results_arr_tmp rfl _ _ (w.heap.size + 1) noStm.cells rfl ?_ rfl rfl (by rw [hn]; kernel_rfl)) rfl ⟨by rw [hZ]; rfl, ?_⟩
  · rw [Nat.zero_add, List.take_zero, List.nil_append, List.drop_of_length_le (by rw [hn]; exact Nat.le_refl _), List.append_nil] at hB7; exact hB7
  · exact m4.grown hg7 m4.size (fun k h => by cases h; exact Nat.le_succ _)
set_option maxRecDepth 100000 in
set_option maxHeartbeats 2000000 in
theorem Added_big (s : Stm) (f : s.Fit) (b : List UInt8) (ao : Option Addr) (cap : Nat) (hcap : b.length ≤ cap) (h63 : cap ≤ 9223372036854775807) (hg : s.good = true) (hbig : 1152921504606846976 - (b.length : Int) < s.len) (w : World) :
    Calls Tryd.prog 42 #[.agg s.cells.toArray, .slice ao b.length cap] w fun e w' => e = .returned (.tuple #[.agg noStm.cells.toArray, .int .i64 1]) ∧ Below w.heap.size w w' := by
  obtain ⟨A, hA⟩ : ∃ A, s.cells.toArray = A := ⟨_, rfl⟩
  obtain ⟨Z, hZ⟩ : ∃ Z, noStm.cells.toArray = Z := ⟨_, rfl⟩
  have hzero := zero_stream
  have cI := fun W => badStream_any s f W
  have hc74 := Stm.cells_length _ f.held
  have hn : noStm.cells.length = 74 := rfl
  obtain ⟨ga, gb, -, -⟩ := good_facts s hg
  rw [hA, hg] at cI
  rw [hA]
  go_enter Tryd.func42, Tryd.ntmps42
  go_upto_region 1 with fail
  refine wp_gen (fun W => Blk W w.heap.size 74 s.cells ∧ Blk W (w.heap.size + 1) 74 noStm.cells ∧ Below w.heap.size w W) ?_ ?_
  · refine ⟨?_, Blk.atNew noCells _ (by simp), ((Below.refl _ _).alloc (Nat.le_refl _) _).alloc (by simp) _⟩
    rw [← hA]
    exact (Blk.new w s.cells.toArray 74).alloc _
  rintro W ⟨b1, b2, hbw⟩
  have e1 : ((s.cells.drop 0).take 74).toArray = A := by rw [List.drop_zero, List.take_of_length_le (by omega)]; exact hA
  clear hzero
  go_wp2_with (first
    | (with_reducible refine wpList_load_blk rfl 74 (.tmp 2) rfl w.heap.size 0 74 rfl _ _ b1 (by rw [hc74]; omega) A e1 _ rfl rfl (by kernel_rfl) ?_)
    | (go_at_call 50; refine (cI _).mono ?_; rintro e w4 ⟨rfl, k1⟩; have B1 := b1.call k1; have B2 := b2.call k1; have m4 := below_step hbw hbw.size k1; have q1 : w4.cell? ⟨w.heap.size, 73, none⟩ = some (.int .i64 s.len) := B1.cell (Stm.get_len _ f.held); clear cI)
    | (with_reducible refine wpList_build_as rfl 74 #[] rfl Z (by rw [← hZ]; kernel_rfl) ?_)
    | (with_reducible refine wpList_store_blk rfl 74 (.tmp 4) (.tmp 19) rfl (w.heap.size + 1) 0 rfl _ _ B2 noStm.cells Z (by rw [← hZ]) rfl (by rw [hn]; omega) (by rw [hn]; kernel_rfl) (stm_one _) ?_; intro x3 hg7 hs7 hB7))
  refine bodyPost_ret (results_arr_tmp rfl _ _ (w.heap.size + 1) noStm.cells rfl ?_ rfl rfl (by rw [hn]; kernel_rfl)) rfl ⟨by rw [hZ]; rfl, ?_⟩
  · rw [Nat.zero_add, List.take_zero, List.nil_append, List.drop_of_length_le (by rw [hn]; exact Nat.le_refl _), List.append_nil] at hB7; exact hB7
  · exact m4.grown hg7 m4.size (fun k h => by cases h; exact Nat.le_succ _)
end Go.Proofs.YtcnemacakjemjaaDoor

/-! CONTRACT of the reference's Added where a stream may be and has room. CONDITIONS: the theorem's own hypotheses. -/
namespace Go.Proofs.YtcnemacakjemjaaDoor
open Go.RowKit CodeMath
set_option linter.unusedVariables false
set_option maxRecDepth 100000

set_option maxRecDepth 100000 in
set_option maxHeartbeats 4000000 in
theorem Added_good (s : Stm) (f : s.Fit) (b : List UInt8) (ao : Option Addr) (cap : Nat) (hcap : b.length ≤ cap) (h63 : cap ≤ 9223372036854775807) (hg : s.good = true) (hfit : ¬ (1152921504606846976 - (b.length : Int) < s.len)) (w : World) (hb : Bytes w ao b) :
    Calls Tryd.prog 42 #[.agg s.cells.toArray, .slice ao b.length cap] w fun e w' => e = .returned (.tuple #[.agg (can (ShaMath.run ShaMath.blk s.h (s.held.take s.n.toNat ++ b)) (ShaMath.rest (s.held.take s.n.toNat ++ b)) (s.len + b.length)).cells.toArray, .int .i64 0]) ∧ Below w.heap.size w w' := by
  obtain ⟨A, hA⟩ : ∃ A, s.cells.toArray = A := ⟨_, rfl⟩
  have hc74 := Stm.cells_length _ f.held
  have hn : noStm.cells.length = 74 := rfl
  have hzero := zero_stream
  obtain ⟨ga, gb, gc, -⟩ := good_facts s hg
  have hk0 : s.n = ((s.n.toNat : Nat) : Int) := by omega
  have cI := fun W => badStream_any s f W
  have cH := fun W => heldOf_any s f s.n.toNat hk0 (by omega) W
  have hml : (s.held.take s.n.toNat).length ≤ 64 := by rw [List.length_take]; omega
  rw [hA, hg] at cI
  rw [hA] at cH
  rw [hA]
  generalize s.held.take s.n.toNat = m at cH hml ⊢
  have hall : (m ++ b).length = m.length + b.length := List.length_append
  have hall63 : (m ++ b).length ≤ 9223372036854775807 := by omega
  have cB := fun W => blocks_any s.h f.h (m ++ b) W hall63
  have hrl := ShaMath.rest_lt (m ++ b)
  have hrf := rest_from (m ++ b)
  have happ : str m ++ str b = str (m ++ b) := str_append _ _
  have hsz : ¬ 9223372036854775807 < (str m).size + (str b).size := by rw [str_size, str_size]; omega
  have hcut := fun W => cut_from (m ++ b) ((m ++ b).length - (m ++ b).length % 64) (((m ++ b).length : Int) - ((m ++ b).length : Int) % 64) (by omega) (by omega) W
  rw [← hrf] at hcut
  have hs12 : (str (m ++ b)).size = (m ++ b).length := str_size _
  rw [← hs12] at hcut
  have hs12' : ((str (m ++ b)).size : Int) ≤ 9223372036854775807 := by rw [hs12]; omega
  have hcv : ∀ W, Below w.heap.size w W → (convert 37 9 (.slice ao b.length cap)).run Tryd.prog W = .ok (.string (str b)) W := fun W h => bytes_string (hb.keep h)
  generalize hS12 : str (m ++ b) = S12 at cB happ hcut hs12 hs12'
  generalize hg2 : ShaMath.run ShaMath.blk s.h (m ++ b) = g2 at cB ⊢
  generalize hr : ShaMath.rest (m ++ b) = r at hcut hrl ⊢
  have hsr : (str r).size = r.length := str_size _
  obtain ⟨Rs, hRs⟩ : ∃ Rs, str r = Rs := ⟨_, rfl⟩
  rw [hRs] at hcut hsr
  have hget : ∀ j (h : j < Rs.size) (h' : j < r.length), Rs[j] = r[j] := by subst hRs; exact fun j h h' => rfl
  generalize str m = S1 at cH happ hsz
  generalize str b = S2 at happ hsz hcv
  obtain ⟨L2, hL2⟩ : ∃ L2, s.len + (b.length : Int) = L2 := ⟨_, rfl⟩
  rw [hL2]
  have hw2 : IntKind.i64.wrap (s.len + (b.length : Int)) = L2 := by rw [← hL2]; simp [IntKind.wrap, IntKind.signed, IntKind.bits]; omega
  obtain ⟨G2, hG2⟩ : ∃ G2, (u32s (lst g2)).toArray = G2 := ⟨_, rfl⟩
  rw [hG2] at cB
  obtain ⟨V2, hV2⟩ : ∃ V2, (⟨g2, List.replicate 64 0, 0, L2⟩ : Stm).cells.toArray = V2 := ⟨_, rfl⟩
  obtain ⟨G1, hG1⟩ : ∃ G1, (u32s (lst s.h)).toArray = G1 := ⟨_, rfl⟩
  rw [hG1] at cB
  have hq2 : ∀ W, Blk W w.heap.size 74 s.cells → (Instr.loadAt 74 (.pointer (some ⟨w.heap.size, 0, none⟩))).run Tryd.prog W = .ok (.agg A) W ∧ (Instr.loadAt 71 (.pointer (some ⟨w.heap.size, 0, none⟩))).run Tryd.prog W = .ok (.agg G1) W ∧ W.cell? ⟨w.heap.size, 73, none⟩ = some (.int .i64 s.len) := fun W hB => by
    refine ⟨?_, ?_, hB.cell (Stm.get_len _ f.held)⟩
    · rw [← hA]; exact load_whole hB rfl rfl (by rw [hc74]; kernel_rfl)
    · have := load_arr (T := 71) (d := .array 8 63) hB 0 8 (by rw [hc74]; omega) rfl rfl (by kernel_rfl)
      rw [Stm.get_h, hG1] at this
      exact this
  have HQ2 := Lib.hid hq2
  have HL2 := Lib.hid hL2
  have HCV := Lib.hid hcv
  have HSR := Lib.hid hsr
  clear hq2 hL2 hcv hsr hS12 hg2 hr hRs hrf hall hs12 gc hk0 hml
  go_enter Tryd.func42, Tryd.ntmps42
  go_upto_region 1 with fail
  refine wp_gen (fun W => Blk W w.heap.size 74 s.cells ∧ Blk W (w.heap.size + 1) 74 noStm.cells ∧ Below w.heap.size w W) ?_ ?_
  · refine ⟨?_, Blk.atNew noCells _ (by simp), ((Below.refl _ _).alloc (Nat.le_refl _) _).alloc (by simp) _⟩
    rw [← hA]
    exact (Blk.new w s.cells.toArray 74).alloc _
  rintro W ⟨b1, b2, hbw⟩
  have e1 : ((s.cells.drop 0).take 74).toArray = A := by rw [List.drop_zero, List.take_of_length_le (by omega)]; exact hA
  go_upto_region 5 with (first
    | (with_reducible refine wpList_load_blk rfl 74 (.tmp 2) rfl w.heap.size 0 74 rfl _ _ b1 (by rw [hc74]; omega) A e1 _ rfl rfl (by kernel_rfl) ?_)
    | (go_at_call 50; refine (cI _).mono ?_; rintro e w4 ⟨rfl, k1⟩; have B1 := b1.call k1; have B2 := b2.call k1; have m4 := below_step hbw hbw.size k1; have q1 : w4.cell? ⟨w.heap.size, 73, none⟩ = some (.int .i64 s.len) := B1.cell (Stm.get_len _ f.held); clear cI))
  clear q1 b1 b2 hbw e1
  refine wp_region_det 5 (by kernel_rfl) (by kernel_rfl) (by kernel_rfl) ?_
  simp only [List.take_succ_cons, List.take_zero, List.drop_succ_cons, List.drop_zero]
  repeat (first
    | (apply wpDet_plain _ rfl; (focus (intro W hW; exact detV_load 74 (.tmp 2) rfl (HQ2.out W (B1.call hW)).1)); simp only [Act.put, List.setIfInBounds_toArray, List.set_cons_zero, List.set_cons_succ])
    | (apply wpDet_plain _ rfl; (focus (intro W hW; have q1 := HCV.out W (m4.trans (hW.mono m4.size)); go_simp; exact ⟨rfl, Below.refl _ _⟩)); simp only [Act.put, List.setIfInBounds_toArray, List.set_cons_zero, List.set_cons_succ])
    | (apply wpDet_plain _ rfl; (focus (intro W hW; go_simp; refine (cH W).mono ?_; rintro e w' ⟨rfl, hb⟩; exact ⟨rfl, hb⟩)); simp only [Act.put, List.setIfInBounds_toArray, List.set_cons_zero, List.set_cons_succ]))
  refine wpDet_nil ?_
  intro W5 hW5
  have B15 := B1.call hW5
  have B25 := B2.call hW5
  have m5 := m4.trans (hW5.mono m4.size)
  clear B1 B2 m4 hW5 cH
  have HGET := Lib.hid hget
  have HCUT := Lib.hid hcut
  have HS := Lib.hid hs12'
  clear happ hsz hget hcut hs12' HCV
  go_upto_region 6 with fail
  refine wp_region_new 10 _ rfl rfl (fun v W => ∃ g, v = .pointer (some ⟨g, 0, none⟩) ∧ W5.heap.size ≤ g ∧ Blk W g 74 noStm.cells) (fun v W W' ⟨g, h1, h2, h3⟩ hb => ⟨g, h1, h2, h3.call hb⟩) (by kernel_rfl) (by kernel_rfl) (by kernel_rfl) ?_
  simp only [List.take_succ_cons, List.take_zero, List.drop_succ_cons, List.drop_zero]
  repeat (first
    | (apply wpDet_plain _ rfl; (focus (intro W hW; exact detV_load 71 (.tmp 25) rfl (HQ2.out W (B15.call hW)).2.1)); simp only [Act.put, List.setIfInBounds_toArray, List.set_cons_zero, List.set_cons_succ])
    | (apply wpDet_plain (.agg V2) rfl; (focus (intro W hW; exact detV_build 74 #[(0, .tmp 28), (3, .tmp 33)] rfl (by rw [← hV2, ← hG2]; kernel_rfl))); simp only [Act.put, List.setIfInBounds_toArray, List.set_cons_zero, List.set_cons_succ])
    | (apply wpDet_plain _ rfl; (focus (intro W hW; go_simp; refine (cB W).mono ?_; rintro e w' ⟨rfl, hb⟩; exact ⟨rfl, hb⟩)); simp only [Act.put, List.setIfInBounds_toArray, List.set_cons_zero, List.set_cons_succ])
    | (apply wpDet_plain _ rfl; (focus (intro W hW; have q1 := (HQ2.out W (B15.call hW)).2.2; go_simp; exact ⟨rfl, Below.refl _ _⟩)); simp only [Act.put, List.setIfInBounds_toArray, List.set_cons_zero, List.set_cons_succ]))
  refine wpDet_nil ?_
  refine ⟨?_, ?_⟩
  · intro W hW
    go_simp
    exact ⟨⟨hW.size, Blk.new W _ _⟩, (Below.refl _ _).alloc (Nat.le_refl _) _⟩
  rintro v W6 hW6 ⟨g, rfl, hg5, k3⟩
  have B26 := B25.call hW6
  have m6 := m5.trans (hW6.mono m5.size)
  have hAg : w.heap.size + 1 < g := Nat.lt_of_lt_of_le B25.lt hg5
  have hv74 : (⟨g2, List.replicate 64 0, 0, L2⟩ : Stm).cells.length = 74 := Stm.cells_length _ (List.length_replicate ..)
  clear B15 B25 m5 hW6 cB hw2 hg5 hzero HQ2
  go_upto_region 7 with (with_reducible refine wpList_store_blk rfl 74 (.tmp 7) (.tmp 34) rfl g 0 rfl _ _ k3 (⟨g2, List.replicate 64 0, 0, L2⟩ : Stm).cells V2 (by rw [← hV2]) rfl (by rw [hv74, hn]; omega) (by rw [hv74]; kernel_rfl) (stm_one _) ?_; intro w7 hg7 hs7 hB7)
  rw [Nat.zero_add, List.take_zero, List.nil_append, List.drop_of_length_le (by rw [hv74, hn]; exact Nat.le_refl _), List.append_nil] at hB7
  have B27 := B26.same (hg7.block (w.heap.size + 1) B26.lt (by simp; omega))
  have m7 : Below w.heap.size w w7 := m6.grown hg7 m6.size (fun k h => by cases h; omega)
  have q7 : w7.cell? ⟨g, 72, none⟩ = some (.int .i64 0) := hB7.cell (Stm.get_n _ (List.length_replicate ..))
  have f7 := hB7.free 72
  have hst := hB7.set 72 (.int .i64 (r.length : Int))
  rw [Stm.set_n _ (List.length_replicate ..)] at hst
  have hot := B27.other ⟨g, 72, none⟩ (.int .i64 (r.length : Int)) (show w.heap.size + 1 ≠ g by omega)
  have hbs := m7.setCell (p := ⟨g, 72, none⟩) (show w.heap.size ≤ g by omega) (.int .i64 (r.length : Int))
  have hcut := HCUT.out
  have hs12' := HS.out
  have hrs := HSR.out
  have hrI : (Rs.size : Int) < 64 := by rw [hrs]; omega
  rw [← hrs] at hst hot hbs
  have H1 := Lib.hid hst
  have H2 := Lib.hid hot
  have HRS := Lib.hid hrs
  clear hst hot hB7 B26 B27 m6 m7 hg7 hs7 k3 hrs
  go_upto_region 9 with fail
  refine wp_gen (fun W => Hid (Blk W g 74 (⟨g2, fill64 r 0, Rs.size, L2⟩ : Stm).cells) ∧ Hid (Blk W (w.heap.size + 1) 74 noStm.cells) ∧ Below w.heap.size w W) ⟨H1, H2, hbs⟩ ?_
  rintro W8 ⟨K1, K2, m8⟩
  clear H1 H2 hbs q7 f7 hcut
  go_wp2_with fail
  go_loopw [9] (fun t wr => ∃ i : Nat, i ≤ r.length ∧ t = .int .i64 i ∧ Hid (Blk wr g 74 (⟨g2, fill64 r i, Rs.size, L2⟩ : Stm).cells) ∧ Hid (Blk wr (w.heap.size + 1) 74 noStm.cells) ∧ Below w.heap.size w wr) (fun t _ => r.length - (intOf t).toNat)
  case atStart => exact ⟨0, Nat.zero_le _, rfl, K1, K2, m8⟩
  case round =>
    obtain ⟨i, hi, rfl, k1, k2, hbr⟩ := hrel
    by_cases hlt : i < r.length
    · have hRi : i < Rs.size := by rw [HRS.out]; exact hlt
      have hge := HGET.out i hRi hlt
      have hri : r[i]? = some Rs[i] := by rw [hge]; exact List.getElem?_eq_getElem hlt
      have hfl := fill64_length r i hi (by omega)
      have q1 : ∃ u, wr.cell? ⟨g, 8 + i, none⟩ = some u := by
        obtain ⟨c, hc⟩ : ∃ c, (fill64 r i)[i]? = some c := ⟨_, List.getElem?_eq_getElem (by omega)⟩
        exact ⟨_, k1.out.cell (Stm.get_held _ i c hc)⟩
      obtain ⟨u, hu⟩ := q1
      have fu := k1.out.free (8 + i)
      have hst := k1.out.set (8 + i) (.int .u8 (Rs[i].toNat : Nat))
      rw [Stm.set_held_at _ hfl i (by omega), fill64_set r i Rs[i] hri (by omega)] at hst
      have hot := k2.out.other ⟨g, 8 + i, none⟩ (.int .u8 (Rs[i].toNat : Nat)) (show w.heap.size + 1 ≠ g by omega)
      have hbs := hbr.setCell (p := ⟨g, 8 + i, none⟩) (show w.heap.size ≤ g by omega) (.int .u8 (Rs[i].toNat : Nat))
      have H1 := Lib.hid hst
      have H2 := Lib.hid hot
      have iI : (i : Int) < 64 := by omega
      clear hge hri hst hot k1 k2 K1 K2 m8
      go_wp2_with fail
      go_roundw
      case rel => exact ⟨i + 1, by omega, by go_num, H1, H2, hbs⟩
      case measure => simp [intOf]; omega
    · have hRi : ¬ (i < Rs.size) := by rw [HRS.out]; exact hlt
      have hie : i = r.length := by omega
      have hV : (⟨g2, fill64 r i, Rs.size, L2⟩ : Stm) = can g2 r L2 := by
        rw [hie, HRS.out]
        unfold fill64 can
        rw [List.take_of_length_le (Nat.le_refl _)]
      rw [hV] at k1
      have k1' := k1.out
      have k2' := k2.out
      have hl : (can g2 r L2).cells.length = 74 := Stm.cells_length _ (can_held _ _ _ (by omega))
      obtain ⟨V, hVV⟩ : ∃ V, (can g2 r L2).cells.toArray = V := ⟨_, rfl⟩
      have e1 : (((can g2 r L2).cells.drop 0).take 74).toArray = V := by rw [List.drop_zero, List.take_of_length_le (by rw [hl]; exact Nat.le_refl _)]; exact hVV
      clear hie hV k1 k2 K1 K2 m8
      go_wp2_with (first
        | (with_reducible refine wpList_load_blk rfl 74 (.tmp 7) rfl g 0 74 rfl _ _ k1' (by rw [hl]; omega) V e1 _ rfl rfl (by kernel_rfl) ?_)
        | (with_reducible refine wpList_store_blk rfl 74 (.tmp 4) (.tmp 58) rfl (w.heap.size + 1) 0 rfl _ _ k2' (can g2 r L2).cells V (by rw [← hVV]) rfl (by rw [hl, hn]; omega) (by rw [hl]; kernel_rfl) (stm_one _) ?_; intro w7 hg7 hs7 hB7))
      refine bodyPost_ret (results_arr_tmp rfl _ _ (w.heap.size + 1) (can g2 r L2).cells rfl ?_ rfl rfl (by rw [hl]; kernel_rfl)) rfl ⟨by rw [hVV]; rfl, ?_⟩
      · rw [Nat.zero_add, List.take_zero, List.nil_append, List.drop_of_length_le (by rw [hl, hn]; exact Nat.le_refl _), List.append_nil] at hB7; exact hB7
      · exact hbr.grown hg7 hbr.size (fun k h => by cases h; exact Nat.le_succ _)
end Go.Proofs.YtcnemacakjemjaaDoor

/-! CONTRACTS of the reference's big of any size, ended, Ended, Summed. CONDITIONS: each theorem's own hypotheses. -/
namespace Go.Proofs.YtcnemacakjemjaaDoor
open Go.RowKit CodeMath
set_option linter.unusedVariables false
set_option maxRecDepth 100000

/-- The bytes of the first words. -/
def bytesN (g : ShaMath.St) (i : Nat) : List UInt8 := ((lst g).take i).flatMap fun x => be (x : Nat) 4
theorem bytesN_succ (g : ShaMath.St) (i : Nat) (hi : i < 8) : bytesN g i ++ be ((lst g).getD i 0 : Nat) 4 = bytesN g (i + 1) := by
  rcases (show i = 0 ∨ i = 1 ∨ i = 2 ∨ i = 3 ∨ i = 4 ∨ i = 5 ∨ i = 6 ∨ i = 7 by omega) with rfl | rfl | rfl | rfl | rfl | rfl | rfl | rfl <;> simp [bytesN, lst]
theorem bytesN_end (g : ShaMath.St) : bytesN g 8 = g.bytes := by simp [bytesN, lst, ShaMath.St.bytes]
theorem bytesN_length (g : ShaMath.St) (i : Nat) : (bytesN g i).length ≤ 32 := by
  unfold bytesN
  rw [List.length_flatMap]
  simp only [be_length]
  rw [List.map_const', List.sum_replicate_nat, List.length_take, lst_length]
  omega
theorem lst_lt (g : ShaMath.St) (o : Ok8 g) (i : Nat) (hi : i < 8) : (lst g).getD i 0 < 4294967296 := by
  rcases (show i = 0 ∨ i = 1 ∨ i = 2 ∨ i = 3 ∨ i = 4 ∨ i = 5 ∨ i = 6 ∨ i = 7 by omega) with rfl | rfl | rfl | rfl | rfl | rfl | rfl | rfl
  · exact o.p
  · exact o.q
  · exact o.r
  · exact o.s
  · exact o.t
  · exact o.u
  · exact o.v
  · exact o.x
def padL (m : List UInt8) (j : Nat) : List UInt8 := m ++ 128 :: List.replicate j 0
theorem padL_length (m : List UInt8) (j : Nat) : (padL m j).length = m.length + 1 + j := by simp [padL]; omega
theorem padL_succ (m : List UInt8) (j : Nat) : padL m j ++ [0] = padL m (j + 1) := by
  unfold padL
  rw [List.append_assoc, List.cons_append, ← List.replicate_succ']
set_option maxRecDepth 100000 in
set_option maxHeartbeats 4000000 in
theorem ended_any (s : Stm) (f : s.Fit) (hg : s.good = true) (w : World) :
    Calls Tryd.prog 44 #[.agg s.cells.toArray] w fun e w' => e = .returned (.agg (u8s (ShaMath.fin s.h (s.held.take s.n.toNat) s.len.toNat)).toArray) ∧ Below w.heap.size w w' := by
  obtain ⟨A, hA⟩ : ∃ A, s.cells.toArray = A := ⟨_, rfl⟩
  have hc74 := Stm.cells_length _ f.held
  obtain ⟨ga, gb, gc, -⟩ := good_facts s hg
  have hk0 : s.n = ((s.n.toNat : Nat) : Int) := by omega
  have cH := fun W => heldOf_any s f s.n.toNat hk0 (by omega) W
  have hml : (s.held.take s.n.toNat).length < 64 := by rw [List.length_take]; omega
  have hmm : (s.held.take s.n.toNat).length = s.len.toNat % 64 := by rw [List.length_take, f.held]; omega
  rw [hA] at cH
  rw [hA]
  generalize s.held.take s.n.toNat = m at cH hml hmm ⊢
  obtain ⟨Nn, hNn⟩ : ∃ Nn, ShaMath.noughts s.len.toNat = Nn := ⟨_, rfl⟩
  have hNn' : Nn = (119 - m.length) % 64 := by rw [← hNn, hmm]; unfold ShaMath.noughts; rfl
  have hfin : ShaMath.fin s.h m s.len.toNat = (ShaMath.run ShaMath.blk s.h (padL m Nn ++ be (s.len * 8) 8)).bytes := by
    have e8 : ((s.len.toNat * 8 : Nat) : Int) = s.len * 8 := by omega
    unfold ShaMath.fin ShaMath.pad padL
    rw [hNn, e8]
    simp
  rw [hfin]
  obtain ⟨N8, hN8⟩ : ∃ N8, s.len * 8 = N8 := ⟨_, rfl⟩
  rw [hN8]
  have n80 : 0 ≤ N8 := by omega
  have n81 : N8 ≤ 18446744073709551615 := by omega
  have hw1 : IntKind.u64.wrap s.len = s.len := by rw [IntKind.wrap_u64]; omega
  have hw2 : IntKind.u64.wrap (s.len * 8) = N8 := by rw [IntKind.wrap_u64]; omega
  have cBig := fun W => big_k N8 8 8 rfl W n80 n81 (by decide)
  have hpl := padL_length m Nn
  have hal : (padL m Nn ++ be N8 8).length = m.length + 1 + Nn + 8 := by rw [List.length_append, hpl, be_length]
  have cB := fun W => blocks_any s.h f.h (padL m Nn ++ be N8 8) W (by omega)
  have og : Ok8 (ShaMath.run ShaMath.blk s.h (padL m Nn ++ be N8 8)) := run_ok _ _ _ f.h
  have happ : str (padL m Nn) ++ str (be N8 8) = str (padL m Nn ++ be N8 8) := str_append _ _
  have hszc : ¬ 9223372036854775807 < (str (padL m Nn)).size + (str (be N8 8)).size := by rw [str_size, str_size, hpl, be_length]; omega
  generalize ShaMath.run ShaMath.blk s.h (padL m Nn ++ be N8 8) = g2 at cB og ⊢
  generalize str (padL m Nn ++ be N8 8) = SA at cB happ
  obtain ⟨SP, hSP⟩ : ∃ SP, str (padL m Nn) = SP := ⟨_, rfl⟩
  rw [hSP] at happ hszc
  generalize str (be N8 8) = SB at cBig happ hszc
  have hs0 : str m ++ (⟨#[128]⟩ : ByteArray) = str (padL m 0) := by rw [show (⟨#[128]⟩ : ByteArray) = str [128] from rfl, str_append]; rfl
  have hsz0 : ¬ 9223372036854775807 < (str m).size + 1 := by rw [str_size]; omega
  obtain ⟨S0, hS0⟩ : ∃ S0, str (padL m 0) = S0 := ⟨_, rfl⟩
  rw [hS0] at hs0
  generalize str m = SM at cH hs0 hsz0
  obtain ⟨G1, hG1⟩ : ∃ G1, (u32s (lst s.h)).toArray = G1 := ⟨_, rfl⟩
  obtain ⟨G2, hG2⟩ : ∃ G2, (u32s (lst g2)).toArray = G2 := ⟨_, rfl⟩
  rw [hG1, hG2] at cB
  have hq2 : ∀ W, Blk W w.heap.size 74 s.cells → (Instr.loadAt 71 (.pointer (some ⟨w.heap.size, 0, none⟩))).run Tryd.prog W = .ok (.agg G1) W ∧ W.cell? ⟨w.heap.size, 73, none⟩ = some (.int .i64 s.len) := fun W hB => by
    refine ⟨?_, hB.cell (Stm.get_len _ f.held)⟩
    have := load_arr (T := 71) (d := .array 8 63) hB 0 8 (by rw [hc74]; omega) rfl rfl (by kernel_rfl)
    rw [Stm.get_h, hG1] at this
    exact this
  have HQ2 := Lib.hid hq2
  have HS0 := Lib.hid hS0
  have HSP := Lib.hid hSP
  have HNN := Lib.hid hNn'
  clear hq2 hS0 hSP hfin hNn hNn' hN8 hmm hal hpl gc hk0
  go_enter Tryd.func44, Tryd.ntmps44
  go_upto_region 1 with fail
  refine wp_gen (fun W => Blk W w.heap.size 74 s.cells ∧ Blk W (w.heap.size + 1) 68 (u8s (List.replicate 32 0)) ∧ Below w.heap.size w W) ?_ ?_
  · refine ⟨?_, Blk.atNew _ _ (by simp), ((Below.refl _ _).alloc (Nat.le_refl _) _).alloc (by simp) _⟩
    rw [← hA]
    exact (Blk.new w s.cells.toArray 74).alloc _
  rintro W ⟨b1, b2, hbw⟩
  have e1 : ((s.cells.drop 0).take 74).toArray = A := by rw [List.drop_zero, List.take_of_length_le (by omega)]; exact hA
  go_wp2_with (first
    | (with_reducible refine wpList_load_blk rfl 74 (.tmp 1) rfl w.heap.size 0 74 rfl _ _ b1 (by rw [hc74]; omega) A e1 _ rfl rfl (by kernel_rfl) ?_)
    | (go_at_call 51; refine (cH _).mono ?_; rintro e w4 ⟨rfl, k1⟩; have B1 := b1.call k1; have B2 := b2.call k1; have m4 := below_step hbw hbw.size k1; clear cH))
  clear b1 b2 hbw k1 e1 hs0 hsz0
  have H1 := Lib.hid B1
  have H2 := Lib.hid B2
  clear B1 B2
  go_loopw [3] (fun t wr => ∃ j : Nat, j ≤ Nn ∧ t = .string (str (padL m j)) ∧ wr = w4) (fun t _ => Nn + m.length + 1 - sizeS t)
  case atStart => exact ⟨0, Nat.zero_le _, by rw [HS0.out], rfl⟩
  case round =>
    obtain ⟨j, hj, rfl, rfl⟩ := hrel
    have hsz := str_size (padL m j)
    rw [padL_length] at hsz
    have hsp := padL_succ m j
    have happ0 : str (padL m j) ++ (⟨#[0]⟩ : ByteArray) = str (padL m (j + 1)) := by rw [show (⟨#[0]⟩ : ByteArray) = str [0] from rfl, str_append, hsp]
    have hszz : ¬ 9223372036854775807 < (str (padL m j)).size + 1 := by rw [hsz]; have := HNN.out; omega
    by_cases hlt : j < Nn
    · have hne : (((str (padL m j)).size : Int) % 64 != 56) = true := by
        rw [hsz]
        have := HNN.out
        simp only [bne_iff_ne, ne_eq]
        omega
      have hm1 : (str (padL m (j + 1))).size = m.length + 1 + (j + 1) := by rw [str_size, padL_length]
      have hI : ((str (padL m j)).size : Int) ≤ 1000 := by rw [hsz]; have := HNN.out; omega
      obtain ⟨S, hS⟩ : ∃ S, str (padL m j) = S := ⟨_, rfl⟩
      obtain ⟨S', hS'⟩ : ∃ S', str (padL m (j + 1)) = S' := ⟨_, rfl⟩
      rw [hS] at happ0 hszz hne hI hsz ⊢
      rw [hS'] at happ0 hm1
      have HSS := Lib.hid hS'
      have HSZ := Lib.hid hsz
      have HM1 := Lib.hid hm1
      clear hS hS' hsp hsz hm1
      go_wp2
      go_roundw
      case rel => exact ⟨j + 1, by omega, by rw [HSS.out], trivial⟩
      case measure => show Nn + m.length + 1 - S'.size < Nn + m.length + 1 - S.size; rw [HSZ.out, HM1.out]; omega
    · have hje : j = Nn := by omega
      have hne : (((str (padL m j)).size : Int) % 64 != 56) = false := by
        rw [hsz]
        have := HNN.out
        simp only [bne_eq_false_iff_eq]
        omega
      have hI : ((str (padL m j)).size : Int) ≤ 1000 := by rw [hsz]; have := HNN.out; omega
      rw [hje, HSP.out] at hne hI
      rw [hje, HSP.out]
      clear hje hlt hsz hsp happ0 hszz
      go_upto_region 4 with fail
      have hld : ∀ W, Below wr.heap.size wr W → (Instr.loadAt 71 (.pointer (some ⟨w.heap.size, 0, none⟩))).run Tryd.prog W = .ok (.agg G1) W ∧ W.cell? ⟨w.heap.size, 73, none⟩ = some (.int .i64 s.len) := fun W hW => HQ2.out W (H1.out.call hW)
      have HLD := Lib.hid hld
      clear hld HQ2
      refine wp_region_new 10 _ rfl rfl (fun v W => ∃ g, v = .pointer (some ⟨g, 0, none⟩) ∧ wr.heap.size ≤ g ∧ Blk W g 71 (u32s (List.replicate 8 0))) (fun v W W' ⟨g, h1, h2, h3⟩ hb => ⟨g, h1, h2, h3.call hb⟩) (by kernel_rfl) (by kernel_rfl) (by kernel_rfl) ?_
      simp only [List.take_succ_cons, List.take_zero, List.drop_succ_cons, List.drop_zero]
      repeat (first
        | (apply wpDet_plain _ rfl; (focus (intro W hW; exact detV_load 71 (.tmp 19) rfl (HLD.out W hW).1)); simp only [Act.put, List.setIfInBounds_toArray, List.set_cons_zero, List.set_cons_succ])
        | (apply wpDet_plain _ rfl; (focus (intro W hW; go_simp; refine (cBig W).mono ?_; rintro e w' ⟨rfl, hb⟩; exact ⟨rfl, hb⟩)); simp only [Act.put, List.setIfInBounds_toArray, List.set_cons_zero, List.set_cons_succ])
        | (apply wpDet_plain _ rfl; (focus (intro W hW; go_simp; refine (cB W).mono ?_; rintro e w' ⟨rfl, hb⟩; exact ⟨rfl, hb⟩)); simp only [Act.put, List.setIfInBounds_toArray, List.set_cons_zero, List.set_cons_succ])
        | (apply wpDet_plain _ rfl; (focus (intro W hW; have q1 := (HLD.out W hW).2; go_simp; exact ⟨rfl, Below.refl _ _⟩)); simp only [Act.put, List.setIfInBounds_toArray, List.set_cons_zero, List.set_cons_succ]))
      refine wpDet_nil ?_
      refine ⟨?_, ?_⟩
      · intro W hW
        go_simp
        exact ⟨⟨hW.size, Blk.new W _ _⟩, (Below.refl _ _).alloc (Nat.le_refl _) _⟩
      rintro v W6 hW6 ⟨g, rfl, hg5, k3⟩
      have B26 := H2.out.call hW6
      have m6 := m4.trans (hW6.mono m4.size)
      have hAg : w.heap.size + 1 < g := Nat.lt_of_lt_of_le H2.out.lt hg5
      clear H1 H2 hW6 hg5 cB cBig happ hszc m4 HLD
      have h8 : (u32s (lst g2)).length = 8 := rfl
      have h8' : (u32s (List.replicate 8 0)).length = 8 := rfl
      go_upto_region 5 with (with_reducible refine wpList_store_blk rfl 71 (.tmp 4) (.tmp 28) rfl g 0 rfl _ _ k3 (u32s (lst g2)) G2 (by rw [← hG2]) rfl (by rw [h8, h8']; omega) (by rw [h8]; kernel_rfl) (u32s_one _) ?_; intro w7 hg7 hs7 hB7)
      have B27 := B26.same (hg7.block (w.heap.size + 1) B26.lt (by simp; omega))
      have m7 : Below w.heap.size w w7 := m6.grown hg7 m6.size (fun k h => by cases h; omega)
      have hB8 : Blk w7 g 71 (u32s (lst g2)) := hB7
      have eG : (((u32s (lst g2)).drop 0).take 8).toArray = G2 := by rw [← hG2]; rfl
      clear B26 m6 k3 hB7 hg7 hs7
      go_wp2_with (with_reducible refine wpList_load_blk rfl 71 (.tmp 4) rfl g 0 8 rfl _ _ hB8 (by rw [h8]; omega) G2 eG _ rfl rfl (by kernel_rfl) ?_)
      go_loopw [5, 30] (fun t ix wr => ∃ i : Nat, i ≤ 8 ∧ ix = .int .i64 i ∧ t = .string (str (bytesN g2 i)) ∧ Below w7.heap.size w7 wr) (fun _ ix _ => 8 - (intOf ix).toNat)
      case atStart => exact ⟨0, by omega, rfl, rfl, Below.refl _ _⟩
      case round =>
        obtain ⟨i, hi, rfl, rfl, hbr⟩ := hrel
        by_cases h8i : i < 8
        · have iI : (i : Int) < 8 := by omega
          have hidx := fun W => run_index_u32s (t := 71) rfl (lst g2) rfl i _ (lst_get g2 i h8i) W
          rw [hG2] at hidx
          have hxl := lst_lt g2 og i h8i
          have hsn := bytesN_succ g2 i h8i
          have hln := bytesN_length g2 i
          obtain ⟨x, hx⟩ : ∃ x, (lst g2).getD i 0 = x := ⟨_, rfl⟩
          rw [hx] at hidx hxl hsn
          have hwx : IntKind.u64.wrap (x : Int) = (x : Int) := by rw [IntKind.wrap_u64]; omega
          have cb := fun W => big_k (x : Int) 4 4 rfl W (by omega) (by omega) (by decide)
          have happ : str (bytesN g2 i) ++ str (be (x : Int) 4) = str (bytesN g2 (i + 1)) := by rw [str_append, hsn]
          have hszz : ¬ 9223372036854775807 < (str (bytesN g2 i)).size + (str (be (x : Int) 4)).size := by rw [str_size, str_size, be_length]; omega
          have xI : (x : Int) < 4294967296 := by omega
          obtain ⟨S, hS⟩ : ∃ S, str (bytesN g2 i) = S := ⟨_, rfl⟩
          obtain ⟨S', hS'⟩ : ∃ S', str (bytesN g2 (i + 1)) = S' := ⟨_, rfl⟩
          rw [hS] at happ hszz ⊢
          rw [hS'] at happ
          generalize str (be (x : Int) 4) = T at cb happ hszz
          have HSS := Lib.hid hS'
          clear hS hS' hx hsn hln
          go_wp2_with (go_at_call 49; refine (cb _).mono ?_; rintro e w8 ⟨rfl, hb8⟩)
          go_roundw
          case rel => exact ⟨i + 1, by omega, by go_num, by rw [HSS.out], hbr.trans (hb8.mono hbr.size)⟩
          case measure => simp [intOf]; omega
        · have iI : ¬ ((i : Int) < 8) := by omega
          have hie : i = 8 := by omega
          have hbe : str (bytesN g2 i) = str g2.bytes := by rw [hie, bytesN_end]
          rw [hbe]
          have B28 := B27.call hbr
          have m8 := m7.trans (hbr.mono m7.size)
          have hgl : g2.bytes.length = 32 := ShaMath.St.bytes_length _
          have hsg : (str g2.bytes).size = 32 := by rw [str_size, hgl]
          obtain ⟨Sg, hSg⟩ : ∃ S, str g2.bytes = S := ⟨_, rfl⟩
          rw [hSg] at hsg ⊢
          have hget : ∀ j (h : j < Sg.size) (h' : j < g2.bytes.length), Sg[j] = g2.bytes[j] := by subst hSg; exact fun j h h' => rfl
          have HGET := Lib.hid hget
          have HSG := Lib.hid hsg
          obtain ⟨Z, hZ⟩ : ∃ Z, (u8s (List.replicate 32 0)).toArray = Z := ⟨_, rfl⟩
          have z33 : ∀ W, (zeroValue 68).run Tryd.prog W = .ok (.agg Z) W := fun W => by rw [← hZ]; kernel_rfl
          have bn : Blk (wr.alloc (.cells Z 68)) wr.heap.size 68 (u8s (List.replicate 32 0)) := by rw [← hZ]; exact Blk.new wr _ _
          have hlt8 : w.heap.size + 1 < wr.heap.size := B28.lt
          have B29 := B28.alloc (.cells Z 68)
          have m9 := m8.alloc m8.size (.cells Z 68)
          clear hie hbe h8i hSg hget hsg hZ B28 m8 B27 m7 hbr hB8 eG
          go_upto_region 12 with fail
          rw [show List.replicate 32 (0 : UInt8) = fillZ g2.bytes 0 by rw [fillZ_zero, hgl]] at bn
          have hz0 : (fillZ g2.bytes 0) = List.replicate 32 0 := by rw [fillZ_zero, hgl]
          refine wp_gen (fun W => Hid (Blk W wr.heap.size 68 (u8s (fillZ g2.bytes 0))) ∧ Hid (Blk W (w.heap.size + 1) 68 (u8s (List.replicate 32 0))) ∧ Below w.heap.size w W) ⟨bn, by rw [← hz0]; rw [hz0]; exact B29, m9⟩ ?_
          generalize wr.heap.size = A6 at hlt8 ⊢
          rintro W9 ⟨K1, K2, KB⟩
          clear bn B29 m9 z33
          go_wp2_with fail
          go_loopw [39] (fun ix wr => ∃ i : Nat, i ≤ 32 ∧ ix = .int .i64 i ∧ Hid (Blk wr A6 68 (u8s (fillZ g2.bytes i))) ∧ Hid (Blk wr (w.heap.size + 1) 68 (u8s (List.replicate 32 0))) ∧ Below w.heap.size w wr) (fun ix _ => 32 - (intOf ix).toNat)
          case atStart => exact ⟨0, by omega, rfl, K1, K2, KB⟩
          case round =>
            obtain ⟨i, hi, rfl, k1, k2, hbr⟩ := hrel
            by_cases h32 : i < 32
            · have iI : (i : Int) < 32 := by omega
              have hSi : i < Sg.size := by rw [HSG.out]; exact h32
              have hge := HGET.out i hSi (by omega)
              have hri : g2.bytes[i]? = some Sg[i] := by rw [hge]; exact List.getElem?_eq_getElem (by omega)
              obtain ⟨c0, hc0⟩ := fillZ_some g2.bytes i (by omega)
              have hu := k1.out.cell (u8s_get hc0)
              have fu := k1.out.free i
              have hst := k1.out.set i (.int .u8 (Sg[i].toNat : Nat))
              rw [u8s_set, fillZ_set _ _ _ hri] at hst
              have hot := k2.out.other ⟨A6, i, none⟩ (.int .u8 (Sg[i].toNat : Nat)) (show w.heap.size + 1 ≠ A6 by omega)
              have hbs := hbr.setCell (p := ⟨A6, i, none⟩) (show w.heap.size ≤ A6 by omega) (.int .u8 (Sg[i].toNat : Nat))
              have J1 := Lib.hid hst
              have J2 := Lib.hid hot
              clear hge hri hst hot k1 k2 K1 K2 KB hc0
              go_wp2_with fail
              go_roundw
              case rel => exact ⟨i + 1, by omega, by go_num, J1, J2, hbs⟩
              case measure => simp [intOf]; omega
            · have iI : ¬ ((i : Int) < 32) := by omega
              have hie : i = g2.bytes.length := by omega
              rw [hie, fillZ_end] at k1
              have k1' := k1.out
              have k2' := k2.out
              have sz : (u8s g2.bytes).length = 32 := by rw [u8s_length, hgl]
              have sz' : (u8s (List.replicate 32 0)).length = 32 := by rw [u8s_length, List.length_replicate]
              obtain ⟨V, hV⟩ : ∃ V, (u8s g2.bytes).toArray = V := ⟨_, rfl⟩
              have eV : (((u8s g2.bytes).drop 0).take 32).toArray = V := by rw [List.drop_zero, List.take_of_length_le (by rw [sz]; exact Nat.le_refl _)]; exact hV
              clear hie h32 k1 k2 K1 K2 KB
              go_wp2_with (first
                | (with_reducible refine wpList_load_blk rfl 68 (.tmp 8) rfl A6 0 32 rfl _ _ k1' (by rw [sz]; omega) V eV _ rfl rfl (by kernel_rfl) ?_)
                | (with_reducible refine wpList_store_blk rfl 68 (.tmp 2) (.tmp 48) rfl (w.heap.size + 1) 0 rfl _ _ k2' (u8s g2.bytes) V (by rw [← hV]) rfl (by rw [sz, sz']; omega) (by rw [sz]; kernel_rfl) (u8s_one _) ?_; intro x3 hg7 hs7 hB7))
              refine bodyPost_ret (results_arr rfl _ _ (w.heap.size + 1) (u8s g2.bytes) rfl ?_ rfl rfl (by rw [sz]; kernel_rfl)) rfl ⟨by rw [hV], ?_⟩
              · rw [Nat.zero_add, List.take_zero, List.nil_append, List.drop_of_length_le (by rw [sz, sz']; exact Nat.le_refl _), List.append_nil] at hB7; exact hB7
              · exact hbr.grown hg7 hbr.size (fun k h => by cases h; exact Nat.le_succ _)
end Go.Proofs.YtcnemacakjemjaaDoor

/-! CONTRACTS of the reference's Ended and Summed. CONDITIONS: each theorem's own hypotheses. -/
namespace Go.Proofs.YtcnemacakjemjaaDoor
open Go.RowKit CodeMath
set_option linter.unusedVariables false
set_option maxRecDepth 100000

/-- A canonical stream may be. -/
theorem can_good (h : ShaMath.St) (m : List UInt8) (L : Int) (hm : m.length < 64) (h0 : 0 ≤ L) (h1 : L ≤ 1152921504606846976) (hL : (m.length : Int) = L % 64) : (can h m L).good = true := by
  rw [Stm.good_len _ ⟨h0, h1, hL⟩]
  unfold can
  simp only [Int.toNat_natCast]
  rw [List.drop_append_of_le_length (Nat.le_refl _), List.drop_of_length_le (Nat.le_refl _), List.nil_append, List.all_eq_true]
  intro x hx
  rw [(List.mem_replicate.1 hx).2]
  rfl
theorem can_fit (h : ShaMath.St) (o : Ok8 h) (m : List UInt8) (L : Int) (hm : m.length < 64) (h0 : 0 ≤ L) (h1 : L ≤ 1152921504606846976) : (can h m L).Fit :=
  ⟨o, can_held _ _ _ (by omega), by show _ ≤ (m.length : Int); omega, by show (m.length : Int) ≤ _; omega, by show _ ≤ L; omega, by show L ≤ _; omega⟩
set_option maxRecDepth 100000 in
set_option maxHeartbeats 2000000 in
theorem summed_any (b : List UInt8) (ab : Option Addr) (cb : Nat) (w : World) (hcb : b.length ≤ cb) (hcb1 : cb ≤ 9223372036854775807) (hb : Bytes w ab b) (hmax : b.length ≤ 1152921504606846976) :
    Calls Tryd.prog 38 #[.slice ab b.length cb] w fun e w' => e = .returned (.agg (u8s (ShaMath.sha b)).toArray) ∧ Below w.heap.size w w' := by
  have hsl : (ShaMath.sha b).length = 32 := ShaMath.sha_length _
  have f0 : (can ShaMath.h0 [] 0).Fit := can_fit _ h0_ok _ _ (by decide) (by decide) (by decide)
  have g0 : (can ShaMath.h0 [] 0).good = true := can_good _ _ _ (by decide) (by decide) (by decide) (by decide)
  have c0 := fun W => begun_any W
  have c1 := fun W (h1 : Bytes W ab b) => Added_good (can ShaMath.h0 [] 0) f0 b ab cb hcb hcb1 g0 (by show ¬ (_ < (0 : Int)); omega) W h1
  have em : (can ShaMath.h0 [] 0).held.take (can ShaMath.h0 [] 0).n.toNat = [] := rfl
  have el : (can ShaMath.h0 [] 0).len + (b.length : Int) = (b.length : Int) := by show (0 : Int) + _ = _; omega
  have eh : (can ShaMath.h0 [] 0).h = ShaMath.h0 := rfl
  rw [em, el, eh, List.nil_append] at c1
  have okr : Ok8 (ShaMath.run ShaMath.blk ShaMath.h0 b) := run_ok _ _ _ h0_ok
  have hrl := ShaMath.rest_lt b
  have hrr := ShaMath.rest_length b
  have hrx : (ShaMath.rest b).length ≤ 64 := by omega
  have f2 : (can (ShaMath.run ShaMath.blk ShaMath.h0 b) (ShaMath.rest b) b.length).Fit := can_fit _ okr _ _ hrl (by omega) (by omega)
  have g2 : (can (ShaMath.run ShaMath.blk ShaMath.h0 b) (ShaMath.rest b) b.length).good = true := can_good _ _ _ hrl (by omega) (by omega) (by omega)
  have c2 := fun W => ended_any _ f2 g2 W
  have e2 : ShaMath.fin (can (ShaMath.run ShaMath.blk ShaMath.h0 b) (ShaMath.rest b) b.length).h ((can (ShaMath.run ShaMath.blk ShaMath.h0 b) (ShaMath.rest b) b.length).held.take (can (ShaMath.run ShaMath.blk ShaMath.h0 b) (ShaMath.rest b) b.length).n.toNat) (can (ShaMath.run ShaMath.blk ShaMath.h0 b) (ShaMath.rest b) b.length).len.toNat = ShaMath.sha b := by
    unfold can
    simp only [Int.toNat_natCast]
    rw [List.take_append_of_le_length (Nat.le_refl _), List.take_of_length_le (Nat.le_refl _)]
    rfl
  rw [e2] at c2
  have hc74 : (can (ShaMath.run ShaMath.blk ShaMath.h0 b) (ShaMath.rest b) b.length).cells.length = 74 := Stm.cells_length _ f2.held
  generalize can (ShaMath.run ShaMath.blk ShaMath.h0 b) (ShaMath.rest b) b.length = S2 at c1 c2 hc74
  generalize ShaMath.sha b = D at hsl c2 ⊢
  obtain ⟨V0, hV0⟩ : ∃ V, (can ShaMath.h0 [] 0).cells.toArray = V := ⟨_, rfl⟩
  obtain ⟨V2, hV2⟩ : ∃ V, S2.cells.toArray = V := ⟨_, rfl⟩
  obtain ⟨R, hR⟩ : ∃ R, (u8s D).toArray = R := ⟨_, rfl⟩
  rw [hV0] at c0 c1
  rw [hV2] at c1 c2
  rw [hR] at c2
  rw [hR]
  have hzero := zero_stream
  have hn : noStm.cells.length = 74 := rfl
  have szD : (u8s D).length = 32 := by rw [u8s_length, hsl]
  have sz : (u8s (List.replicate 32 0)).length = 32 := by rw [u8s_length, List.length_replicate]
  clear em el eh e2 f0 g0 f2 g2 okr hV0 hrl hrr hrx
  have e74 : ((S2.cells.drop 0).take 74).toArray = V2 := by rw [List.drop_zero, List.take_of_length_le (by omega)]; exact hV2
  go_enter Tryd.func38, Tryd.ntmps38
  have m0 : ∀ o, Below w.heap.size w (w.alloc o) := fun o => (Below.refl _ _).alloc (Nat.le_refl _) o
  go_wp2_with (first
    | (go_at_call 43; refine (c0 _).mono ?_; rintro e w1 ⟨rfl, k1⟩; have B1 : Blk w1 w.heap.size 68 (u8s (List.replicate 32 0)) := (Blk.new w (u8s (List.replicate 32 0)).toArray _).call k1; have m1 : Below w.heap.size w w1 := below_step ((Below.refl _ _).alloc (Nat.le_refl _) _) (by simp) k1; have l1 := hb.keep m1; clear c0)
    | (go_at_call 42; refine (c1 _ l1).mono ?_; rintro e w2 ⟨rfl, k2⟩; have B2 := B1.call k2; have m2 := below_step m1 m1.size k2; have bn : Blk (w2.alloc (.cells noCells 74)) w2.heap.size 74 noStm.cells := Blk.new w2 noCells _; have hlt2 := B2.lt; clear c1)
    | (with_reducible refine wpList_store_blk rfl 74 (.tmp 3) (.tmp 9) rfl w2.heap.size 0 rfl _ _ bn S2.cells V2 (by rw [← hV2]) rfl (by rw [hc74, hn]; omega) (by rw [hc74]; kernel_rfl) (stm_one _) ?_; intro w3 hg3 hs3 hB3; rw [Nat.zero_add, List.take_zero, List.nil_append, List.drop_of_length_le (by rw [hc74, hn]; exact Nat.le_refl _), List.append_nil] at hB3; have B3 := (B2.alloc (.cells noCells 74)).same (hg3.block w.heap.size (B2.alloc _).lt (by simp; omega)); have m3 : Below w.heap.size w w3 := (m2.alloc m2.size _).grown hg3 (by have := m2.size; simp; omega) (fun k h => by cases h; exact m2.size))
    | (with_reducible refine wpList_load_blk rfl 74 (.tmp 3) rfl w2.heap.size 0 74 rfl _ _ hB3 (by rw [hc74]; omega) V2 e74 _ rfl rfl (by kernel_rfl) ?_)
    | (go_at_call 44; refine (c2 _).mono ?_; rintro e w4 ⟨rfl, k4⟩; have B4 := B3.call k4; have m4 := below_step m3 m3.size k4; clear c2)
    | (with_reducible refine wpList_store_blk rfl 68 (.tmp 2) (.tmp 12) rfl w.heap.size 0 rfl _ _ B4 (u8s D) R (by rw [← hR]) rfl (by rw [szD, sz]; omega) (by rw [szD]; kernel_rfl) (u8s_one _) ?_; intro x3 hg7 hs7 hB7))
  refine bodyPost_ret (results_arr rfl _ _ w.heap.size (u8s D) rfl ?_ rfl rfl (by rw [szD]; kernel_rfl)) rfl ⟨by rw [hR], ?_⟩
  · rw [Nat.zero_add, List.take_zero, List.nil_append, List.drop_of_length_le (by rw [szD, sz]; exact Nat.le_refl _), List.append_nil] at hB7; exact hB7
  · exact m4.grown hg7 m4.size (fun k h => by cases h; exact Nat.le_refl _)
end Go.Proofs.YtcnemacakjemjaaDoor
