/-
  THE LAW SumKnown: its walk.
  CONDITIONS: package sum's roundWords hold what their initialiser lays ('KW').
-/
import Derived.Test.YtjllecmlabodaaaDoorTells
import Derived.Test.YtjllecmlabodaaaDoorMaced2
import Derived.Test.YtjllecmlabodaaaDoorRegDet
namespace Go.Proofs.YtjllecmlabodaaaDoor
open Go.RowKit CodeMath
set_option linter.unusedVariables false

theorem bytes_take {w : World} {ao : Option Addr} {l : List UInt8} (h : Bytes w ao l) (n : Nat) : Bytes w ao (l.take n) := by
  rcases h with h | ⟨a, o, h, h2, h3⟩
  · left; rw [h]; simp
  · exact .inr ⟨a, o, h, h2, fun j x hx => h3 j x (by rw [List.getElem?_take] at hx; split at hx <;> simp_all)⟩
theorem slice_to32 (b k : Nat) (kI : Int) (hk : kI = k) (h32 : k ≤ 32) (W : World) : (Instr.sliceAt 33 (.pointer (some ⟨b, 0, none⟩)) none (some (.int .i64 kI)) none).run Tryd.prog W = .ok (.slice (some ⟨b, 0, none⟩) k 32) W := by
  subst hk
  have hs : (sizeOf (Tryd.prog.elem 33)).run Tryd.prog W = .ok 1 W := by kernel_rfl
  have hl : Tryd.prog.arrayLen 33 = 32 := by kernel_rfl
  have h := run_sliceAt_array_h (P := Tryd.prog) W 33 ⟨b, 0, none⟩ (by kernel_rfl) .i64 (k : Int) (by omega) (by rw [hl]; omega)
  rw [h, hs, hl]
  simp [Result.andThen, slicedAt, Addr.add]
def tellL : List UInt8 := [97, 98, 99, 100, 98, 99, 100, 101, 99, 100, 101, 102, 100, 101, 102, 103, 101, 102, 103, 104, 102, 103, 104, 105, 103, 104, 105, 106, 104, 105, 106, 107, 105, 106, 107, 108, 106, 107, 108, 109, 107, 108, 109, 110, 108, 109, 110, 111, 109, 110, 111, 112, 110, 111, 112, 113]
def tellT : Nat → List UInt8
  | 0 => []
  | 1 => tellA
  | _ => tellL
def tellF : Nat → List UInt8
  | 0 => [227, 176, 196, 66, 152, 252, 28, 20]
  | 1 => [186, 120, 22, 191, 143, 1, 207, 234]
  | _ => [36, 141, 106, 97, 210, 6, 56, 184]
theorem tell_first (j : Nat) (h : j < 3) : (ShaMath.sha (tellT j)).take 8 = tellF j := by
  match j, h with
  | 0, _ => exact ShaMath.sha_none
  | 1, _ => exact ShaMath.sha_abc
  | 2, _ => exact ShaMath.sha_long
theorem tell_len (j : Nat) : (tellT j).length ≤ 100 := by
  unfold tellT; split <;> decide
def knownC : List Value := [.string (str (tellT 0)), .string (str (tellF 0)), .string (str (tellT 1)), .string (str (tellF 1)), .string (str (tellT 2)), .string (str (tellF 2))]
theorem known_at (j : Nat) (h : j < 3) : (knownC.drop (j * 2)).take 2 = [.string (str (tellT j)), .string (str (tellF j))] := by
  match j, h with
  | 0, _ => rfl
  | 1, _ => rfl
  | 2, _ => rfl
set_option maxRecDepth 100000 in
set_option maxHeartbeats 2000000 in
theorem sumKnown_walk (n : Int) (w : World) (hT : KW w) (hn0 : -9223372036854775808 ≤ n) (hn1 : n ≤ 9223372036854775807) :
    Calls Tryd.prog 8 #[.int .i64 n] w fun e w' => e = .returned (.bool true) ∧ Below w.heap.size w w' := by
  have cP := fun W => picked_any n 3 W (by decide) (by decide) hn0 hn1
  have kc := fun (W : World) (C : Array Value) (n c g : Nat) (hg : g = W.heap.size) => Joins.run_convert_bytes_const_at (P := Tryd.prog) W 27 5 C n c g hg Tryd.underlying27 Tryd.underlying5
  have r0 := Int.emod_nonneg n (show (3 : Int) ≠ 0 by decide)
  have r1 := Int.emod_lt_of_pos n (show (0 : Int) < 3 by decide)
  obtain ⟨j, hj⟩ : ∃ j : Nat, (j : Int) = n % 3 := ⟨(n % 3).toNat, by omega⟩
  rw [← hj] at cP r1
  have j3 : j < 3 := by omega
  have hat := known_at j j3
  have hlen : knownC.length = 6 := rfl
  clear hj r0
  have m0 : ∀ (o : Obj), Below w.heap.size w (w.alloc o) := fun o => (Below.refl _ _).alloc (Nat.le_refl _) o
  go_enter Tryd.func8, Tryd.ntmps8
  go_upto_region 2 with fail
  refine wp_gen (fun W => Blk W w.heap.size 45 knownC ∧ Below w.heap.size w W) ⟨Blk.new w knownC.toArray _, m0 _⟩ ?_
  rintro W ⟨b0, hb⟩
  obtain ⟨ST, hST⟩ : ∃ S, str (tellT j) = S := ⟨_, rfl⟩
  obtain ⟨SF, hSF⟩ : ∃ S, str (tellF j) = S := ⟨_, rfl⟩
  rw [hST, hSF] at hat
  have at0 : knownC[j * 2]? = some (.string ST) := by
    have : ((knownC.drop (j * 2)).take 2)[0]? = some (.string ST) := by rw [hat]; rfl
    rw [List.getElem?_take_of_lt (by decide), List.getElem?_drop] at this
    simpa using this
  have at1 : knownC[j * 2 + 1]? = some (.string SF) := by
    have : ((knownC.drop (j * 2)).take 2)[1]? = some (.string SF) := by rw [hat]; rfl
    rw [List.getElem?_take_of_lt (by decide), List.getElem?_drop] at this
    exact this
  have ce0 := b0.cell at0
  have ce1 := b0.cell at1
  clear at0 at1 hat hlen
  have bn : Blk (W.alloc (.cells #[.string ⟨#[]⟩, .string ⟨#[]⟩] 45)) W.heap.size 45 [.string ⟨#[]⟩, .string ⟨#[]⟩] := Blk.new W _ _
  go_upto_region 3 with (first
    | (go_at_call 23; refine (cP _).mono ?_; rintro e w1 ⟨rfl, rfl⟩; clear cP)
    | (with_reducible refine wpList_store_blk rfl 45 (.tmp 4) (.tmp 15) rfl W.heap.size 0 rfl _ _ bn [.string ST, .string SF] #[.string ST, .string SF] rfl rfl (by decide) (by kernel_rfl) (fun v hv => by simp at hv; rcases hv with rfl | rfl <;> rfl) ?_; intro w2 hg2 hs2 hB2))
  have b4 : Blk (W.alloc (.cells #[.string ST, .string SF] 45)) W.heap.size 45 [.string ST, .string SF] := Blk.new W _ _
  refine wp_gen (fun X => Blk X W.heap.size 45 [.string ST, .string SF] ∧ Below w.heap.size w X) ⟨b4, hb.alloc hb.size _⟩ ?_
  clear bn ce0 ce1 b0 b4
  generalize W.heap.size = g4
  rintro W3 ⟨b4, hb3⟩
  have c40 := b4.cell (j := 0) rfl
  have h9 : (tellT j).length ≤ 9223372036854775807 := by have := tell_len j; omega
  obtain ⟨capT, W4, hcv, hByT, hb4, hc1, hc2⟩ := bytesOf_max (tellT j) W3 h9
  rw [hST] at hcv
  have h60 : (tellT j).length ≤ 1152921504606846976 := by have := tell_len j; omega
  have c1 := fun g cap W (h1 : (tellT j).length ≤ cap) (h2 : cap ≤ 9223372036854775807) (h3 : Bytes W (some ⟨g, 0, none⟩) (tellT j)) (h4 : KW W) => sum_any (tellT j) (some ⟨g, 0, none⟩) cap W h1 h2 h3 h60 h4
  have hsT := tell_first j j3
  have s1 : (ShaMath.sha (tellT j)).length = 32 := ShaMath.sha_length _
  generalize ShaMath.sha (tellT j) = D1 at c1 s1 hsT
  have hlF : (tellF j).length = 8 := by rw [← hsT, List.length_take, s1]; rfl
  generalize tellF j = F at hSF hsT hlF
  have c2 := fun W gk g h1 h2 h3 => mac_lit tellK tellB 4 28 rfl (by decide) rfl (by decide) W gk g h1 h2 h3
  have s2 : (ShaMath.hmac tellK tellB).length = 32 := ShaMath.sha_length _
  have hsM : (ShaMath.hmac tellK tellB).take 4 = [91, 220, 193, 70] := ShaMath.hmac_known
  generalize ShaMath.hmac tellK tellB = D2 at c2 s2 hsM
  have cC := fun (W : World) (g : Nat) (h : Bytes W (some ⟨g, 0, none⟩) tellN) => crc_any tellN (some ⟨g, 0, none⟩) 9 W (by decide) h
  rw [tell_crc] at cC
  have ltN : tellN.length = 9 := rfl
  rw [ltN] at cC
  have z1 : (u8s D1).length = 32 := by rw [u8s_length, s1]
  have z2 : (u8s D2).length = 32 := by rw [u8s_length, s2]
  obtain ⟨V1, hV1⟩ : ∃ V, (u8s D1).toArray = V := ⟨_, rfl⟩
  obtain ⟨V2, hV2⟩ : ∃ V, (u8s D2).toArray = V := ⟨_, rfl⟩
  rw [hV1] at c1
  rw [hV2] at c2
  have z32 : (u8s (List.replicate 32 0)).length = 32 := by rw [u8s_length, List.length_replicate]
  obtain ⟨Z, hZ⟩ : ∃ Z, (u8s (List.replicate 32 0)).toArray = Z := ⟨_, rfl⟩
  have zv32 : ∀ W, (zeroValue 33).run Tryd.prog W = .ok (.agg Z) W := fun W => by rw [← hZ]; kernel_rfl
  have bz : ∀ W : World, Blk (W.alloc (.cells Z 33)) W.heap.size 33 (u8s (List.replicate 32 0)) := fun W => by rw [← hZ]; exact Blk.new W _ _
  have HST := Lib.hid hST
  have HSF := Lib.hid hSF
  have H1 := Lib.hid hsT
  have H2 := Lib.hid hsM
  have HV := Lib.hid hlF
  have m4 := below_step hb3 hb3.size hb4
  have B4 := b4.call hb4
  clear hZ s1 s2 hST hSF hsT hsM ltN hlF h60 h9 b4
  go_upto_region 4 with (first
    | (go_at_call 19; refine (c1 _ _ _ hc1 hc2 hByT (hT.keep m4 (Nat.le_refl _))).mono ?_; rintro e w1 ⟨rfl, k1⟩; have B5 := B4.call k1; have m5 := below_step m4 m4.size k1; have bn := bz w1; clear c1)
    | (with_reducible refine wpList_store_blk rfl 33 (.tmp 5) (.tmp 19) rfl w1.heap.size 0 rfl _ _ bn (u8s D1) V1 (by rw [← hV1]) rfl (by rw [z1, z32]; omega) (by rw [z1]; kernel_rfl) (u8s_one _) ?_; intro w2 hg2 hs2 hB2))
  rw [Nat.zero_add, List.take_zero, List.nil_append, List.drop_of_length_le (by rw [z1, z32]; exact Nat.le_refl _), List.append_nil] at hB2
  have l5 := B5.lt
  have B6 := (B5.alloc (.cells Z 33)).same (hg2.block g4 (B5.alloc _).lt (by simp; omega))
  have m2 : Below w.heap.size w w2 := (m5.alloc m5.size _).grown hg2 (by have := m5.size; simp; omega) (fun k h => by cases h; exact m5.size)
  generalize w1.heap.size = g5 at hB2 ⊢
  clear hs2 hg2 B5 m5 bn k1 l5 B4 m4 hByT hc1 hc2 hcv hb4 c40 hb3
  go_upto_region 5 with (first
    | (go_at_call 21; refine (c2 _ _ _ ((tell_k _ _ _ _ rfl).keep ((Below.refl _ _).alloc (Nat.le_refl _) _)) (tell_b _ _ _ _ (by simp)) (hT.keep ((m2.alloc m2.size _).alloc (by have := m2.size; simp; omega) _) (Nat.le_refl _))).mono ?_; rintro e w3 ⟨rfl, k3⟩; have B5 := ((hB2.alloc _).alloc _).call k3; have B7 := ((B6.alloc _).alloc _).call k3; have m3 := below_step ((m2.alloc m2.size _).alloc (by have := m2.size; simp; omega) _) (by have := m2.size; simp; omega) k3; have bn := bz w3; clear c2)
    | (with_reducible refine wpList_store_blk rfl 33 (.tmp 6) (.tmp 24) rfl w3.heap.size 0 rfl _ _ bn (u8s D2) V2 (by rw [← hV2]) rfl (by rw [z2, z32]; omega) (by rw [z2]; kernel_rfl) (u8s_one _) ?_; intro w4 hg4 hs4 hB4))
  rw [Nat.zero_add, List.take_zero, List.nil_append, List.drop_of_length_le (by rw [z2, z32]; exact Nat.le_refl _), List.append_nil] at hB4
  have hl3 := B5.lt
  have hl7 := B7.lt
  have B8 := (B5.alloc (.cells Z 33)).same (hg4.block g5 (B5.alloc _).lt (by simp; omega))
  have B9 := (B7.alloc (.cells Z 33)).same (hg4.block g4 (B7.alloc _).lt (by simp; omega))
  have m4 : Below w.heap.size w w4 := (m3.alloc m3.size _).grown hg4 (by have := m3.size; simp; omega) (fun k h => by cases h; exact m3.size)
  generalize w3.heap.size = g6 at hB4 ⊢
  clear hs4 hg4 B5 B7 B6 m3 bn k3 hl3 hl7 hB2 m2
  obtain ⟨S4, hS4⟩ : ∃ S, str [91, 220, 193, 70] = S := ⟨_, rfl⟩
  have hS4' : (⟨#[91, 220, 193, 70]⟩ : ByteArray) = S4 := hS4
  have hld : ∀ X, Below w4.heap.size w4 X → X.cell? ⟨g4, 1, none⟩ = some (.string SF) ∧ (convert 27 9 (.slice (some ⟨g5, 0, none⟩) 8 32)).run Tryd.prog X = .ok (.string SF) X ∧ (convert 27 9 (.slice (some ⟨g6, 0, none⟩) 4 32)).run Tryd.prog X = .ok (.string ⟨#[91, 220, 193, 70]⟩) X := fun X hX => by
    refine ⟨(B9.call hX).cell (j := 1) rfl, ?_, ?_⟩
    · have := bytes_string (cap := 32) (bytes_take (bytes_of_blk (B8.call hX)) 8)
      rw [H1.out, HV.out] at this
      rw [← HSF.out]; exact this
    · have := bytes_string (cap := 32) (bytes_take (bytes_of_blk (hB4.call hX)) 4)
      rw [H2.out] at this
      exact this
  have HLD := Lib.hid hld
  have t8 := fun b W => slice_to32 b 8 8 rfl (by decide) W
  have t4 := fun b W => slice_to32 b 4 4 rfl (by decide) W
  clear hld hS4 hS4' B8 B9 hB4
  refine wp_region_det 11 (by kernel_rfl) (by kernel_rfl) (by kernel_rfl) ?_
  simp only [List.take_succ_cons, List.take_zero, List.drop_succ_cons, List.drop_zero]
  repeat (first
    | (apply wpDet_plain _ rfl; (focus (intro X hX; obtain ⟨q1, q2, q3⟩ := HLD.out X hX; go_simp; exact ⟨rfl, Below.refl _ _⟩)); simp only [Act.put, List.setIfInBounds_toArray, List.set_cons_zero, List.set_cons_succ])
    | (apply wpDet_want _ (by kernel_rfl); (focus (intro X hX; obtain ⟨q1, q2, q3⟩ := HLD.out X hX; go_simp; exact ⟨rfl, Below.refl _ _⟩)); simp only [Act.put, List.setIfInBounds_toArray, List.set_cons_zero, List.set_cons_succ]))
  refine wpDet_nil ?_
  intro W8 hW8
  have m8 := m4.trans (hW8.mono m4.size)
  clear HLD m4 hW8
  trace_state
  go_wp2_with (first
    | (go_at_call 25; refine (cC _ _ (tell_n _ _ _ _ rfl)).mono ?_; rintro e w9 ⟨rfl, rfl⟩))
  go_ret
  exact ⟨rfl, m8.alloc m8.size _⟩
end Go.Proofs.YtjllecmlabodaaaDoor
