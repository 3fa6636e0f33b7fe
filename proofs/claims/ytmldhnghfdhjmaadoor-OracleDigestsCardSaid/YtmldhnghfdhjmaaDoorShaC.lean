/-
  CONTRACT of the reference's schedule: the words of a block.
  CONDITIONS: each theorem's own hypotheses.
-/
import Derived.Test.YtmldhnghfdhjmaaDoorShaT
import Derived.Test.YtmldhnghfdhjmaaDoorSpreadMath
import Derived.Test.YtmldhnghfdhjmaaDoorRegDet
import Derived.Test.YtmldhnghfdhjmaaDoorSpread
namespace Go.Proofs.YtmldhnghfdhjmaaDoor
open Go.RowKit CodeMath
set_option linter.unusedVariables false

def lenS (v : Value) : Nat := match v with
  | .slice _ n _ => n
  | _ => 0
theorem below_drewN {B : Nat} {a w : World} (h : Below B a w) (n : Nat) : Below B a (w.drewN n) := ⟨h.os, h.tape, h.output, h.size, h.block⟩
theorem rot_at (x n : Nat) (k : Int) (hk : k = n) (w : World) (hx : x < 4294967296) (h1 : 1 ≤ n) (h2 : n ≤ 31) :
    Calls Tryd.prog 82 #[.int .u32 x, .int .i64 k] w fun e w' => e = .returned (.int .u32 (ShaMath.rot x n : Nat)) ∧ Below w.heap.size w w' := by
  subst hk
  refine (rot_any x n w hx h1 h2).mono ?_
  rintro e w' ⟨h, q, rfl⟩
  exact ⟨h, below_drewN (Below.refl _ _) q⟩
def SchedOk (l : List UInt8) (w : World) (e : Ending) (w' : World) : Prop := ∃ v', e = .returned v' ∧ OwnW w' w.heap.size v' (ShaMath.sched l) ∧ Below w.heap.size w w'
theorem ext16 (l : List UInt8) (m : Nat) (h16 : 16 ≤ m) : (ShaMath.extend (m - 16) (ShaMath.words 16 l)).length = m := by
  rw [extend_length, words_length]; omega
theorem OwnW.cell' {w : World} {base g cap m : Nat} {l : List Nat} (h : OwnW w base (.slice (some ⟨g, 0, none⟩) m cap) l) (hm : l.length = m) (j : Nat) (hj : j < m) : w.cell? ⟨g, j, none⟩ = some (.int .u32 (l.getD j 0 : Nat)) := by
  subst hm; exact h.cell j hj
theorem next_sum (l : List UInt8) (m a b c d s1 s0 N : Nat) (h16 : 16 ≤ m)
    (ha : (ShaMath.extend (m - 16) (ShaMath.words 16 l)).getD (m - 2) 0 = a) (hb : (ShaMath.extend (m - 16) (ShaMath.words 16 l)).getD (m - 7) 0 = b) (hc : (ShaMath.extend (m - 16) (ShaMath.words 16 l)).getD (m - 15) 0 = c) (hd : (ShaMath.extend (m - 16) (ShaMath.words 16 l)).getD (m - 16) 0 = d)
    (h1 : ShaMath.small1 a = s1) (h0 : ShaMath.small0 c = s0) (hN : ShaMath.nextW (ShaMath.extend (m - 16) (ShaMath.words 16 l)) = N) : ((d : Int) + b + s0 + s1) % 4294967296 = (N : Int) := by
  unfold ShaMath.nextW at hN
  rw [ext16 l m h16, ha, hb, hc, hd, h1, h0] at hN
  unfold ShaMath.w32 at hN
  omega
/-- append(w, x), one word out of a cell. -/
theorem wpList_append_wordC {ops : Array Oper} {rest : List Oper} {o : Oper} {a : Act} {Q : Exit → Act → World → Prop} {w : World} (hgd : o.guard = none) (s x : Operand)
    (ho : o.op = .call { callee := .builtin .append, args := #[s, x], argTypes := #[111, 111] }) (base : Nat) (v : Value) (l : List Nat) (hs : a.eval s = v) (hown : OwnW w base v l)
    (b m : Nat) (hx : a.eval x = .slice (some ⟨m, 0, none⟩) 1 1) (hc : w.cell? ⟨m, 0, none⟩ = some (.int .u32 (b : Nat))) (hl : l.length ≤ 1000000) (hb : base ≤ w.heap.size)
    (h : ∀ v' w', OwnW w' base v' (l ++ [b]) → Below base w w' → wpList Tryd.prog ops Q rest (a.put o.dst v') w') : wpList Tryd.prog ops Q (o :: rest) a w := by
  obtain ⟨i0, hi, hz0, hz1, hz2⟩ := info_parts infoW
  refine wpList_append_own _ hgd s x 111 ho base 74 i0 (.int .u32 0) 1 4 Tryd.underlying111 hi hz0 hz1 hz2 rfl (by decide) v l.length (cellsW l) hs hown ⟨m, 0, none⟩ 1 1 [.int .u32 (b : Nat)] hx rfl ?_ ?_ (by unfold maxLen; omega) (by omega) hb ?_
  · intro j u hj
    match j, hj with
    | 0, hj =>
      simp at hj; subst hj
      rw [addr_zero']; exact hc
  · intro u hu
    simp at hu; subst hu; rfl
  · intro v' w' h1 h2 _
    refine h v' w' ?_ ((Below.refl base w).grown h2 hb (fun k hk => (hown.lt k hk).1))
    unfold OwnW
    rw [cellsW_append, List.length_append]
    exact h1
set_option maxRecDepth 100000 in
set_option maxHeartbeats 4000000 in
theorem schedule_any (l : List UInt8) (w : World) (hl : l.length = 64) :
    Calls Tryd.prog 81 #[.string (str l)] w (SchedOk l w) := by
  unfold SchedOk
  have cut := fun (j : Nat) (hj : j < 16) (w : World) => cut_str l (4 * j) (4 * j + 4) (4 * (j : Int)) (4 * (j : Int) + 4) (by omega) (by omega) (by omega) (by omega) w
  have HL := Lib.hid hl
  have HCUT := Lib.hid cut
  obtain ⟨SL, hSL⟩ : ∃ SL, str l = SL := ⟨_, rfl⟩
  rw [hSL] at HCUT ⊢
  clear cut hl hSL
  go_enter Tryd.func81, Tryd.ntmps81
  go_wp2
  go_loopw [3, 4] (fun u i wr => ∃ j : Nat, j ≤ 16 ∧ i = .int .i64 j ∧ OwnW wr w.heap.size u (ShaMath.words j l) ∧ Below w.heap.size w wr) (fun _ i _ => 16 - (intOf i).toNat)
  case atStart => exact ⟨0, Nat.zero_le _, rfl, OwnW.nil _ _, Below.refl _ _⟩
  case round =>
    obtain ⟨j, hj, rfl, ho, hbw⟩ := hrel
    by_cases h1 : j < 16
    · have cutj := HCUT.out j h1
      rw [Nat.add_sub_cancel_left] at cutj
      have hDl : ((l.drop (4 * j)).take 4).length = 4 := by rw [List.length_take, List.length_drop, HL.out]; omega
      have hsn := words_snoc j l
      have hwl := words_length j l
      obtain ⟨D, hD⟩ : ∃ D, (l.drop (4 * j)).take 4 = D := ⟨_, rfl⟩
      rw [hD] at cutj hDl hsn
      have cN := fun w => number_any D w (by omega)
      rw [num_word4] at cN
      have hXl := word4_lt D hDl
      obtain ⟨X, hX⟩ : ∃ X, ShaMath.word4 D = X := ⟨_, rfl⟩
      rw [hX] at cN hXl hsn
      generalize str D = S at cutj cN
      have hXi : (X : Int) ≤ 4294967295 := by omega
      have hll : (ShaMath.words j l).length ≤ 1000000 := by omega
      have hM := hbw.size
      have HSN := Lib.hid hsn
      clear hD hX hsn hwl hDl
      go_wp2_with fail
      refine (cN _).mono ?_
      rintro e w1 ⟨rfl, rfl⟩
      clear cN
      go_wp2_with (first | (at_builtin; refine wpList_append_word rfl _ _ rfl w.heap.size _ _ rfl ho _ X _ rfl (by first | rfl | simp) rfl hll hM ?_; intro v1 w5 ho5 hb5 hgg) | fail)
      clear hgg
      go_roundw
      case rel => exact ⟨j + 1, by omega, by go_num, by rw [HSN.out]; exact ho5, hbw.trans hb5⟩
      case measure => simp [intOf]; omega
    · have hj16 : j = 16 := by omega
      have jI : ¬ ((j : Int) < 16) := by omega
      rw [hj16] at ho
      clear h1 hj16
      obtain ⟨w0, hw0⟩ : ∃ w0 : World, w0 = wr := ⟨_, rfl⟩
      rw [← hw0] at hbw ho ⊢
      clear hw0
      go_wp2_with fail
      go_loopw [3] (fun u wr => ∃ (m g cap : Nat), 16 ≤ m ∧ m ≤ 64 ∧ u = .slice (some ⟨g, 0, none⟩) m cap ∧ m ≤ cap ∧ cap ≤ 9223372036854775807 ∧ OwnW wr w.heap.size (.slice (some ⟨g, 0, none⟩) m cap) (ShaMath.extend (m - 16) (ShaMath.words 16 l)) ∧ Below w.heap.size w wr) (fun u _ => 64 - lenS u)
      case atStart =>
        obtain ⟨g, cap, rfl, hc1, hc2⟩ := ho.shape1 (by rw [words_length]; omega)
        rw [words_length] at hc1 ho
        rw [words_length]
        exact ⟨16, g, cap, by omega, by omega, rfl, hc1, hc2, ho, hbw⟩
      case round =>
        obtain ⟨m, g, cap, h16, hm64, rfl, hcp, hcp63, ho2, hbr⟩ := hrel
        have hlm := ext16 l m h16
        by_cases h64 : m < 64
        · have ga := ho2.cell' hlm (m - 2) (by omega)
          have gb := ho2.cell' hlm (m - 7) (by omega)
          have gc := ho2.cell' hlm (m - 15) (by omega)
          have gd := ho2.cell' hlm (m - 16) (by omega)
          have la := E2_lt l (m - 16) (m - 2)
          have lb := E2_lt l (m - 16) (m - 7)
          have lc := E2_lt l (m - 16) (m - 15)
          have ld := E2_lt l (m - 16) (m - 16)
          have hsum := next_sum l m _ _ _ _ _ _ _ h16 rfl rfl rfl rfl rfl rfl rfl
          have hnext : Hid (ShaMath.extend (m - 16) (ShaMath.words 16 l) ++ [ShaMath.nextW (ShaMath.extend (m - 16) (ShaMath.words 16 l))] = ShaMath.extend (m + 1 - 16) (ShaMath.words 16 l)) := Lib.hid (by rw [show m + 1 - 16 = (m - 16) + 1 by omega, extend_succ])
          have hN := nextW_lt (ShaMath.extend (m - 16) (ShaMath.words 16 l))
          generalize ShaMath.nextW (ShaMath.extend (m - 16) (ShaMath.words 16 l)) = N at hsum hnext hN
          generalize (ShaMath.extend (m - 16) (ShaMath.words 16 l)).getD (m - 2) 0 = a at ga la hsum
          generalize (ShaMath.extend (m - 16) (ShaMath.words 16 l)).getD (m - 7) 0 = b at gb lb hsum
          generalize (ShaMath.extend (m - 16) (ShaMath.words 16 l)).getD (m - 15) 0 = c at gc lc hsum
          generalize (ShaMath.extend (m - 16) (ShaMath.words 16 l)).getD (m - 16) 0 = d at gd ld hsum
          have hll : (ShaMath.extend (m - 16) (ShaMath.words 16 l)).length ≤ 1000000 := by omega
          have hown : OwnW wr w.heap.size (.slice (some ⟨g, 0, none⟩) m cap) (ShaMath.extend (m - 16) (ShaMath.words 16 l)) := ho2
          have t7 := fun W => rot_at c 7 7 rfl W lc (by decide) (by decide)
          have t18 := fun W => rot_at c 18 18 rfl W lc (by decide) (by decide)
          have t17 := fun W => rot_at a 17 17 rfl W la (by decide) (by decide)
          have t19 := fun W => rot_at a 19 19 rfl W la (by decide) (by decide)
          have s1 := small1_bits a la
          have s0 := small0_bits c lc
          have s1l := small1_lt a la
          have s0l := small0_lt c lc
          generalize ShaMath.rot a 17 = ra at t17 s1
          generalize ShaMath.rot a 19 = rb at t19 s1
          generalize ShaMath.rot c 7 = rc at t7 s0
          generalize ShaMath.rot c 18 = rd at t18 s0
          generalize ShaMath.small1 a = S1 at s1 s1l hsum
          generalize ShaMath.small0 c = S0 at s0 s0l hsum
          have hlt : g < wr.heap.size := (ho2.lt g rfl).2
          have w2' : IntKind.i64.wrap ((m : Int) - 2) = ((m - 2 : Nat) : Int) := by simp [IntKind.wrap, IntKind.signed, IntKind.bits]; omega
          have w7 : IntKind.i64.wrap ((m : Int) - 7) = ((m - 7 : Nat) : Int) := by simp [IntKind.wrap, IntKind.signed, IntKind.bits]; omega
          have w15 : IntKind.i64.wrap ((m : Int) - 15) = ((m - 15 : Nat) : Int) := by simp [IntKind.wrap, IntKind.signed, IntKind.bits]; omega
          have w16 : IntKind.i64.wrap ((m : Int) - 16) = ((m - 16 : Nat) : Int) := by simp [IntKind.wrap, IntKind.signed, IntKind.bits]; omega
          have mI0 : (16 : Int) ≤ m := by omega
          have mI1 : (m : Int) < 64 := by omega
          have HSUM := Lib.hid hsum
          have HLM := Lib.hid hlm
          obtain ⟨p2, hp2⟩ : ∃ p, m - 2 = p := ⟨_, rfl⟩
          obtain ⟨p7, hp7⟩ : ∃ p, m - 7 = p := ⟨_, rfl⟩
          obtain ⟨p15, hp15⟩ : ∃ p, m - 15 = p := ⟨_, rfl⟩
          obtain ⟨p16, hp16⟩ : ∃ p, m - 16 = p := ⟨_, rfl⟩
          have l2 : (p2 : Int) < m := by omega
          have l7 : (p7 : Int) < m := by omega
          have l15 : (p15 : Int) < m := by omega
          have l16 : (p16 : Int) < m := by omega
          rw [hp2] at ga w2'
          rw [hp7] at gb w7
          rw [hp15] at gc w15
          rw [hp16] at gd w16 
          clear hsum hlm hp2 hp7 hp15 hp16 ho
          go_upto_region 8 with fail
          go_quiet (fail)
          have hbq : Below w.heap.size w (wr.drewN nq) := below_drewN hbr nq
          have hoq : OwnW (wr.drewN nq) w.heap.size (.slice (some ⟨g, 0, none⟩) m cap) (ShaMath.extend (m - 16) (ShaMath.words 16 l)) := World.ownsRow.kept (row := none) hown ⟨rfl, rfl, rfl, Nat.le_refl _, fun k _ _ => rfl⟩ (by simp [Value.ownBlock])
          have gb' : (wr.drewN nq).cell? ⟨g, p7, none⟩ = some (.int .u32 (b : Nat)) := gb
          have gd' : (wr.drewN nq).cell? ⟨g, p16, none⟩ = some (.int .u32 (d : Nat)) := gd
          have hltq : g < (wr.drewN nq).heap.size := hlt
          generalize wr.drewN nq = W2 at hbq hoq gb' gd' hltq ⊢
          clear ga gb gc gd ho2 hown hbr hlt hbw
          have hC : ∀ W, Below W2.heap.size W2 W → W.cell? ⟨g, p7, none⟩ = some (.int .u32 (b : Nat)) ∧ W.cell? ⟨g, p16, none⟩ = some (.int .u32 (d : Nat)) := fun W h => ⟨(h.cell (p := ⟨g, p7, none⟩) hltq).trans gb', (h.cell (p := ⟨g, p16, none⟩) hltq).trans gd'⟩
          have HCC := Lib.hid hC
          clear hC gb' gd'
          go_upto_region 9 with fail
          refine wp_region_new 30 _ rfl rfl (fun v W => ∃ m, v = .slice (some ⟨m, 0, none⟩) 1 1 ∧ m < W.heap.size ∧ W.cell? ⟨m, 0, none⟩ = some (.int .u32 (N : Nat))) (fun v W W' ⟨m, h1, h2, h3⟩ hb => ⟨m, h1, Nat.lt_of_lt_of_le h2 hb.size, (hb.cell (p := ⟨m, 0, none⟩) h2).trans h3⟩) (by kernel_rfl) (by kernel_rfl) (by kernel_rfl) ?_
          simp only [List.take_succ_cons, List.take_zero, List.drop_succ_cons, List.drop_zero]
          repeat (first
            | (apply wpDet_plain _ rfl; (focus (intro W hW; go_simp; exact ⟨rfl, Below.refl _ _⟩)); simp only [Act.put, List.setIfInBounds_toArray, List.set_cons_zero, List.set_cons_succ])
            | (apply wpDet_plain _ rfl; (focus (intro W hW; obtain ⟨q1, q2⟩ := HCC.out W hW; go_simp; exact ⟨rfl, Below.refl _ _⟩)); simp only [Act.put, List.setIfInBounds_toArray, List.set_cons_zero, List.set_cons_succ])
            | (apply wpDet_plain _ rfl; (focus (intro W hW; go_simp; (first | (with_reducible refine (t7 W).mono ?_) | (with_reducible refine (t18 W).mono ?_) | (with_reducible refine (t17 W).mono ?_) | (with_reducible refine (t19 W).mono ?_)); rintro e w' ⟨rfl, hb⟩; exact ⟨rfl, hb⟩)); simp only [Act.put, List.setIfInBounds_toArray, List.set_cons_zero, List.set_cons_succ]))
          refine wpDet_nil ?_
          refine ⟨?_, ?_⟩
          · intro W hW
            go_simp
            refine ⟨?_, (Below.refl _ _).alloc (Nat.le_refl _) _⟩
            have := HSUM.out
            rw [IntKind.wrap_u32, IntKind.wrap_u32, IntKind.wrap_u32]
            omega
          · rintro v W hW ⟨q, rfl, hq1, hq2⟩
            have how := hoq.keep hW
            have hbW := below_step' hbq hbq.size hW
            have hbs := hbW.size
            simp only [List.setIfInBounds_toArray, List.set_cons_zero, List.set_cons_succ]
            clear hoq hbq hW
            go_wp2_with (at_builtin; refine wpList_append_wordC rfl (.tmp 39) (.tmp 69) rfl w.heap.size _ _ rfl how N q rfl hq2 hll hbs ?_; intro v1 w5 ho5 hb5)
            rw [hnext.out] at ho5
            obtain ⟨g5, cap5, rfl, hc5, hd5⟩ := ho5.shape1 (by rw [ext16 l (m + 1) (by omega)]; omega)
            rw [ext16 l (m + 1) (by omega)] at hc5 ho5 ⊢
            go_roundw
            case rel => exact ⟨m + 1, g5, cap5, by omega, by omega, rfl, hc5, hd5, ho5, hbW.trans hb5⟩
            case measure => show 64 - (m + 1) < 64 - m; omega
        · have hme : m = 64 := by omega
          subst hme
          rw [show 64 - 16 = 48 from rfl] at ho2
          clear h64 h16 hm64 hbw ho
          go_wp2
          go_ret
          exact ⟨_, rfl, ho2, hbr⟩
end Go.Proofs.YtmldhnghfdhjmaaDoor
