/-
  CONTRACT of package sum's Mac.
  CONDITIONS: package sum's roundWords hold what their initialiser lays ('KW').
-/
import Derived.Test.YtjllecmlabodaaaDoorMac
namespace Go.Proofs.YtjllecmlabodaaaDoor
open Go.RowKit CodeMath
set_option linter.unusedVariables false

/-- The rule for several new blocks, these being the last ones ahead of the tail. -/
theorem wp_region_news' {P : Program} {l : List Oper} {Q : Exit → Act → World → Prop} {a0 : Act} {id : Nat} {w0 : World} (n N : Nat) (hnN : n ≤ N) (hgT : (((l.take N).drop n).all fun o => o.guard == none && o.op.operands.isEmpty) = true) (G : Nat → Nat → World → Prop) (hG : ∀ i g w w', G i g w → g < w.heap.size → Below w.heap.size w w' → G i g w')
    (hm : P.follows .mixedOrders = true) (hB : factB l N = true) (hL : lookB l N = true)
    (hnew : ∀ k o, ((l.take N).drop n)[k]? = some o → ∀ a, FreshAt P w0 (G k) o a)
    (h : wpDet P l.toArray w0 (fun a => ∀ (gs : Nat → Nat) w, Below w0.heap.size w0 w → (∀ k, k < ((l.take N).drop n).length → w0.heap.size ≤ gs k ∧ gs k < w.heap.size ∧ G k (gs k) w) → (∀ j k, j < ((l.take N).drop n).length → k < ((l.take N).drop n).length → j ≠ k → gs j ≠ gs k) → wpList P l.toArray Q (l.drop N) (fillF ((l.take N).drop n) (ptrs gs) 0 a) w) (l.take n) a0) : (Code.region id l.toArray true).wp P Q a0 w0 :=
  wp_region_news n N hnN ((l.take N).drop n) (by
    have e : l.take n = (l.take N).take n := by rw [List.take_take, Nat.min_eq_left hnN]
    rw [e, List.take_append_drop]) hgT G hG hm hB hL hnew h
theorem fresh64 (w0 : World) (o : Oper) (a : Act) (ho : o.op = .alloc 24) : FreshAt Tryd.prog w0 (fun g W => Blk W g 24 (u8s (List.replicate 64 0))) o a := by
  intro w hw
  obtain ⟨Z, hZ⟩ : ∃ Z, (u8s (List.replicate 64 0)).toArray = Z := ⟨_, rfl⟩
  have z : ∀ W, (zeroValue 24).run Tryd.prog W = .ok (.agg Z) W := fun W => by rw [← hZ]; kernel_rfl
  refine ⟨w.alloc (.cells Z 24), ?_, (Below.refl _ _).alloc (Nat.le_refl _) _, by simp, by rw [← hZ]; exact Blk.new w _ _⟩
  unfold execOp
  rw [ho]
  go_simp
set_option maxRecDepth 100000 in
set_option maxHeartbeats 4000000 in
theorem mac_any (k b : List UInt8) (ak ab : Option Addr) (ck cb : Nat) (w : World) (hck : k.length ≤ ck) (hck1 : ck ≤ 9223372036854775807) (hk : Bytes w ak k) (hkmax : k.length ≤ 1152921504606846976)
    (hcb : b.length ≤ cb) (hcb1 : cb ≤ 9223372036854775807) (hb : Bytes w ab b) (hmax : 64 + b.length ≤ 1152921504606846976) (hT : KW w) :
    Calls Tryd.prog 21 #[.slice ak k.length ck, .slice ab b.length cb] w fun e w' => e = .returned (.agg (u8s (ShaMath.hmac k b)).toArray) ∧ Below w.heap.size w w' := by
  have cK := fun W (h1 : Bytes W ak k) (h2 : KW W) => keyBlock_any k ak ck W hck hck1 h1 hkmax h2
  have hkl := ShaMath.key64_length k
  have hdef : ShaMath.hmac k b = ShaMath.sha ((ShaMath.key64 k).map (· ^^^ 92) ++ ShaMath.sha ((ShaMath.key64 k).map (· ^^^ 54) ++ b)) := rfl
  rw [hdef]
  generalize ShaMath.key64 k = K at cK hkl ⊢
  have c1 := fun W => padded_any K hkl 54 54 rfl W
  have c2 := fun W => padded_any K hkl 92 92 rfl W
  have l1 : (K.map (· ^^^ 54)).length = 64 := by rw [List.length_map, hkl]
  have l2 : (K.map (· ^^^ 92)).length = 64 := by rw [List.length_map, hkl]
  generalize K.map (· ^^^ 54) = P1 at c1 l1 ⊢
  generalize K.map (· ^^^ 92) = P2 at c2 l2 ⊢
  have hsI : (ShaMath.sha (P1 ++ b)).length = 32 := ShaMath.sha_length _
  have cI := fun W (g : Nat) (h1 : Bytes W (some ⟨g, 0, none⟩) P1) (h2 : Bytes W ab b) (h3 : KW W) => sumBehind_any P1 b (some ⟨g, 0, none⟩) ab 64 cb W (by omega) (by decide) hcb hcb1 h1 h2 (by omega) h3
  rw [l1] at cI
  generalize ShaMath.sha (P1 ++ b) = I at hsI cI ⊢
  have hsO : (ShaMath.sha (P2 ++ I)).length = 32 := ShaMath.sha_length _
  have cO := fun W (g g' : Nat) (h1 : Bytes W (some ⟨g, 0, none⟩) P2) (h2 : Bytes W (some ⟨g', 0, none⟩) I) (h3 : KW W) => sumBehind_any P2 I (some ⟨g, 0, none⟩) (some ⟨g', 0, none⟩) 64 32 W (by omega) (by decide) (by omega) (by decide) h1 h2 (by omega) h3
  rw [l2, hsI] at cO
  generalize ShaMath.sha (P2 ++ I) = O at hsO cO ⊢
  obtain ⟨VK, hVK⟩ : ∃ V, (u8s K).toArray = V := ⟨_, rfl⟩
  obtain ⟨V1, hV1⟩ : ∃ V, (u8s P1).toArray = V := ⟨_, rfl⟩
  obtain ⟨V2, hV2⟩ : ∃ V, (u8s P2).toArray = V := ⟨_, rfl⟩
  obtain ⟨VI, hVI⟩ : ∃ V, (u8s I).toArray = V := ⟨_, rfl⟩
  obtain ⟨VO, hVO⟩ : ∃ V, (u8s O).toArray = V := ⟨_, rfl⟩
  rw [hVK] at cK c1 c2
  rw [hV1] at c1
  rw [hV2] at c2
  rw [hVI] at cI
  rw [hVO] at cO ⊢
  have sK : (u8s K).length = 64 := by rw [u8s_length, hkl]
  have s1 : (u8s P1).length = 64 := by rw [u8s_length, l1]
  have s2 : (u8s P2).length = 64 := by rw [u8s_length, l2]
  have sI : (u8s I).length = 32 := by rw [u8s_length, hsI]
  have sO : (u8s O).length = 32 := by rw [u8s_length, hsO]
  have z64 : (u8s (List.replicate 64 0)).length = 64 := by rw [u8s_length, List.length_replicate]
  have z32 : (u8s (List.replicate 32 0)).length = 32 := by rw [u8s_length, List.length_replicate]
  obtain ⟨Z, hZ⟩ : ∃ Z, (u8s (List.replicate 64 0)).toArray = Z := ⟨_, rfl⟩
  have zv64 : ∀ W, (zeroValue 24).run Tryd.prog W = .ok (.agg Z) W := fun W => by rw [← hZ]; kernel_rfl
  have bz : ∀ W : World, Blk (W.alloc (.cells Z 24)) W.heap.size 24 (u8s (List.replicate 64 0)) := fun W => by rw [← hZ]; exact Blk.new W _ _
  obtain ⟨Y, hY⟩ : ∃ Y, (u8s (List.replicate 32 0)).toArray = Y := ⟨_, rfl⟩
  have zv32 : ∀ W, (zeroValue 33).run Tryd.prog W = .ok (.agg Y) W := fun W => by rw [← hY]; kernel_rfl
  have by32 : ∀ W : World, Blk (W.alloc (.cells Y 33)) W.heap.size 33 (u8s (List.replicate 32 0)) := fun W => by rw [← hY]; exact Blk.new W _ _
  have m0 : ∀ (o : Obj), Below w.heap.size w (w.alloc o) := fun o => (Below.refl _ _).alloc (Nat.le_refl _) o
  have b0 := by32 w
  have sl64 := fun b W => slice_all64 b 0 W
  have sl32 := fun b W => slice_all32 b 0 W
  clear hZ hY hdef
  go_enter Tryd.func21, Tryd.ntmps21
  go_upto_region 2 with (first
    | (go_at_call 43; refine (cK _ (hk.keep (m0 _)) (hT.keep (m0 _) (Nat.le_refl _))).mono ?_; rintro e w1 ⟨rfl, k1⟩; have B1 := b0.call k1; have m1 := below_step (m0 (.cells Y 33)) (by simp) k1; have bn := bz w1; clear cK)
    | (with_reducible refine wpList_store_blk rfl 24 (.tmp 5) (.tmp 10) rfl w1.heap.size 0 rfl _ _ bn (u8s K) VK (by rw [← hVK]) rfl (by rw [sK, z64]; omega) (by rw [sK]; kernel_rfl) (u8s_one _) ?_; intro w2 hg2 hs2 hB2))
  rw [Nat.zero_add, List.take_zero, List.nil_append, List.drop_of_length_le (by rw [sK, z64]; exact Nat.le_refl _), List.append_nil] at hB2
  have hlt1 : w.heap.size < w1.heap.size := B1.lt
  have B12 := (B1.alloc (.cells Z 24)).same (hg2.block w.heap.size (B1.alloc _).lt (by simp; omega))
  have m2 : Below w.heap.size w w2 := (m1.alloc m1.size _).grown hg2 (by have := m1.size; simp; omega) (fun k h => by cases h; exact m1.size)
  generalize w1.heap.size = A6 at hB2 hlt1 ⊢
  have hld : ∀ W, Below w2.heap.size w2 W → (Instr.loadAt 24 (.pointer (some ⟨A6, 0, none⟩))).run Tryd.prog W = .ok (.agg VK) W := fun W hW => by
    rw [← hVK]; exact load_whole (hB2.call hW) (d := .array 64 5) rfl rfl (by rw [sK]; kernel_rfl)
  have HLD := Lib.hid hld
  clear hld b0 B1 bn m1 hg2 hs2 k1 m0
  refine wp_region_news' 4 6 (by decide) (by kernel_rfl) (fun _ g W => Blk W g 24 (u8s (List.replicate 64 0))) (fun _ g w w' h _ hb => h.call hb) (by kernel_rfl) (by kernel_rfl) (by kernel_rfl) (fun k o ho a => ?_) ?_
  · simp only [List.take_succ_cons, List.take_zero, List.drop_succ_cons, List.drop_zero] at ho
    match k, ho with
    | 0, ho => exact fresh64 _ _ _ (by rw [← Option.some.inj ho])
    | 1, ho => exact fresh64 _ _ _ (by rw [← Option.some.inj ho])
  simp only [List.take_succ_cons, List.take_zero, List.drop_succ_cons, List.drop_zero]
  repeat (first
    | (apply wpDet_plain _ rfl; (focus (intro W hW; exact detV_load 24 (.tmp 5) rfl (HLD.out W hW))); simp only [Act.put, List.setIfInBounds_toArray, List.set_cons_zero, List.set_cons_succ])
    | (apply wpDet_plain _ rfl; (focus (intro W hW; go_simp; (first | (with_reducible refine (c1 W).mono ?_) | (with_reducible refine (c2 W).mono ?_)); rintro e w' ⟨rfl, hb⟩; exact ⟨rfl, hb⟩)); simp only [Act.put, List.setIfInBounds_toArray, List.set_cons_zero, List.set_cons_succ]))
  refine wpDet_nil ?_
  intro gs W3 hW3 hgs hne
  obtain ⟨p1, p2, p3⟩ := hgs 0 (by decide)
  obtain ⟨q1, q2, q3⟩ := hgs 1 (by decide)
  have hne' := hne 0 1 (by decide) (by decide) (by decide)
  simp only [fillF, ptrs, Nat.zero_add, Act.put, List.setIfInBounds_toArray, List.set_cons_zero, List.set_cons_succ]
  generalize gs 0 = g1 at p1 p2 p3 hne' ⊢
  generalize gs 1 = g2 at q1 q2 q3 hne' ⊢
  have B3 := B12.call hW3
  have m3 := m2.trans (hW3.mono m2.size)
  have hlt2 : A6 < w2.heap.size := hB2.lt
  clear hgs hne HLD B12 m2 hB2 hW3 c1 c2
  go_upto_region 3 with (first
    | (with_reducible refine wpList_store_blk rfl 24 (.tmp 6) (.tmp 12) rfl g1 0 rfl _ _ p3 (u8s P1) V1 (by rw [← hV1]) rfl (by rw [s1, z64]; omega) (by rw [s1]; kernel_rfl) (u8s_one _) ?_; intro w4 hg4 hs4 hB4; have Q4 := q3.same (hg4.block g2 q2 (by simp; omega)); have B4 := B3.same (hg4.block w.heap.size B3.lt (by simp; omega)); have m4 : Below w.heap.size w w4 := m3.grown hg4 m3.size (fun k h => by cases h; omega))
    | (with_reducible refine wpList_store_blk rfl 24 (.tmp 7) (.tmp 14) rfl g2 0 rfl _ _ Q4 (u8s P2) V2 (by rw [← hV2]) rfl (by rw [s2, z64]; omega) (by rw [s2]; kernel_rfl) (u8s_one _) ?_; intro w5 hg5 hs5 hB5))
  rw [Nat.zero_add, List.take_zero, List.nil_append, List.drop_of_length_le (by rw [s1, z64]; exact Nat.le_refl _), List.append_nil] at hB4
  rw [Nat.zero_add, List.take_zero, List.nil_append, List.drop_of_length_le (by rw [s2, z64]; exact Nat.le_refl _), List.append_nil] at hB5
  have P5 := hB4.same (hg5.block g1 hB4.lt (by simp; omega))
  have B5 := B4.same (hg5.block w.heap.size B4.lt (by simp; omega))
  have m5 : Below w.heap.size w w5 := m4.grown hg5 m4.size (fun k h => by cases h; omega)
  have h1b : Bytes w5 (some ⟨g1, 0, none⟩) P1 := bytes_of_blk P5
  clear p1 p2 p3 q1 q2 q3 hg4 hs4 hB4 Q4 B4 m4 hg5 hs5 B3 m3
  go_upto_region 4 with (first
    | (go_at_call 42; refine (cI _ g1 h1b (hb.keep m5) (hT.keep m5 (Nat.le_refl _))).mono ?_; rintro e w6 ⟨rfl, k6⟩; have B6 := B5.call k6; have Q6 := hB5.call k6; have m6 := below_step m5 m5.size k6; have bn6 := by32 w6; clear cI)
    | (with_reducible refine wpList_store_blk rfl 33 (.tmp 8) (.tmp 17) rfl w6.heap.size 0 rfl _ _ bn6 (u8s I) VI (by rw [← hVI]) rfl (by rw [sI, z32]; omega) (by rw [sI]; kernel_rfl) (u8s_one _) ?_; intro w7 hg7 hs7 hB7))
  rw [Nat.zero_add, List.take_zero, List.nil_append, List.drop_of_length_le (by rw [sI, z32]; exact Nat.le_refl _), List.append_nil] at hB7
  have hlt6 : w.heap.size < w6.heap.size := B6.lt
  have hlt7 : g2 < w6.heap.size := Q6.lt
  have B7 := (B6.alloc (.cells Y 33)).same (hg7.block w.heap.size (B6.alloc _).lt (by simp; omega))
  have Q7 := (Q6.alloc (.cells Y 33)).same (hg7.block g2 (Q6.alloc _).lt (by simp; omega))
  have m7 : Below w.heap.size w w7 := (m6.alloc m6.size _).grown hg7 (by have := m6.size; simp; omega) (fun k h => by cases h; exact m6.size)
  generalize w6.heap.size = A7 at hB7 hlt6 hlt7 ⊢
  clear B6 Q6 m6 bn6 hg7 hs7 k6 hB5 P5 B5 m5 h1b
  refine wp_region_det 2 (by kernel_rfl) (by kernel_rfl) (by kernel_rfl) ?_
  simp only [List.take_succ_cons, List.take_zero, List.drop_succ_cons, List.drop_zero]
  repeat (first
    | (apply wpDet_plain _ rfl; (focus (intro W hW; go_simp; exact ⟨rfl, Below.refl _ _⟩)); simp only [Act.put, List.setIfInBounds_toArray, List.set_cons_zero, List.set_cons_succ]))
  refine wpDet_nil ?_
  intro W8 hW8
  have B8 := B7.call hW8
  have Q8 := bytes_of_blk (Q7.call hW8)
  have I8 := bytes_of_blk (hB7.call hW8)
  have m8 := m7.trans (hW8.mono m7.size)
  clear B7 Q7 m7 hB7 hW8
  go_wp2_with (first
    | (go_at_call 42; refine (cO _ g2 A7 Q8 I8 (hT.keep m8 (Nat.le_refl _))).mono ?_; rintro e w9 ⟨rfl, k9⟩; have B9 := B8.call k9; have m9 := below_step m8 m8.size k9; clear cO)
    | (with_reducible refine wpList_store_blk rfl 33 (.tmp 4) (.tmp 20) rfl w.heap.size 0 rfl _ _ B9 (u8s O) VO (by rw [← hVO]) rfl (by rw [sO, z32]; omega) (by rw [sO]; kernel_rfl) (u8s_one _) ?_; intro x3 hg7 hs7 hB7))
  refine bodyPost_ret (results_arr rfl _ _ w.heap.size (u8s O) rfl ?_ rfl rfl (by rw [sO]; kernel_rfl)) rfl ⟨by rw [hVO], ?_⟩
  · rw [Nat.zero_add, List.take_zero, List.nil_append, List.drop_of_length_le (by rw [sO, z32]; exact Nat.le_refl _), List.append_nil] at hB7; exact hB7
  · exact m9.grown hg7 m9.size (fun k h => by cases h; exact Nat.le_refl _)
end Go.Proofs.YtjllecmlabodaaaDoor
