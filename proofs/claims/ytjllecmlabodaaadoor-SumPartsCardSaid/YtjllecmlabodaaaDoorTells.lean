/-
  CONTRACT of sumTells.
  CONDITIONS: package sum's roundWords hold what their initialiser lays ('KW').
-/
import Derived.Test.YtjllecmlabodaaaDoorMac2
import Derived.Test.YtjllecmlabodaaaDoorPicked
import Derived.Test.YtjllecmlabodaaaDoorCrcB
import Derived.Lib.SmallJoins
namespace Go.Proofs.YtjllecmlabodaaaDoor
open Go.RowKit CodeMath
set_option linter.unusedVariables false

theorem bytes_cells (W : World) (l : List UInt8) (cs : Array Value) (T : TypeId) (fr : Nat × Nat) (g : Nat) (hg : g = W.heap.size) (h : cs = (u8s l).toArray) : Bytes (W.alloc (.cells cs T fr)) (some ⟨g, 0, none⟩) l := by
  subst h
  refine .inr ⟨g, 0, rfl, by rw [hg]; simp, fun j x hx => ?_⟩
  rw [Nat.zero_add, Joins.cell_alloc_mark_at W _ T fr g j hg]
  have := u8s_get hx
  simpa using this
def tellA : List UInt8 := [97, 98, 99]
def tellK : List UInt8 := [74, 101, 102, 101]
def tellB : List UInt8 := [119, 104, 97, 116, 32, 100, 111, 32, 121, 97, 32, 119, 97, 110, 116, 32, 102, 111, 114, 32, 110, 111, 116, 104, 105, 110, 103, 63]
def tellN : List UInt8 := [49, 50, 51, 52, 53, 54, 55, 56, 57]
theorem tell_crc : CrcMath.crc tellN = 3808858755 := by decide +kernel
theorem tell_a (W : World) (T : TypeId) (fr : Nat × Nat) (g : Nat) (hg : g = W.heap.size) : Bytes (W.alloc (.cells #[.int .u8 97, .int .u8 98, .int .u8 99] T fr)) (some ⟨g, 0, none⟩) tellA := bytes_cells W tellA _ T fr g hg rfl
theorem tell_k (W : World) (T : TypeId) (fr : Nat × Nat) (g : Nat) (hg : g = W.heap.size) : Bytes (W.alloc (.cells #[.int .u8 74, .int .u8 101, .int .u8 102, .int .u8 101] T fr)) (some ⟨g, 0, none⟩) tellK := bytes_cells W tellK _ T fr g hg rfl
theorem tell_b (W : World) (T : TypeId) (fr : Nat × Nat) (g : Nat) (hg : g = W.heap.size) : Bytes (W.alloc (.cells #[.int .u8 119, .int .u8 104, .int .u8 97, .int .u8 116, .int .u8 32, .int .u8 100, .int .u8 111, .int .u8 32, .int .u8 121, .int .u8 97, .int .u8 32, .int .u8 119, .int .u8 97, .int .u8 110, .int .u8 116, .int .u8 32, .int .u8 102, .int .u8 111, .int .u8 114, .int .u8 32, .int .u8 110, .int .u8 111, .int .u8 116, .int .u8 104, .int .u8 105, .int .u8 110, .int .u8 103, .int .u8 63] T fr)) (some ⟨g, 0, none⟩) tellB := bytes_cells W tellB _ T fr g hg rfl
theorem tell_n (W : World) (T : TypeId) (fr : Nat × Nat) (g : Nat) (hg : g = W.heap.size) : Bytes (W.alloc (.cells #[.int .u8 49, .int .u8 50, .int .u8 51, .int .u8 52, .int .u8 53, .int .u8 54, .int .u8 55, .int .u8 56, .int .u8 57] T fr)) (some ⟨g, 0, none⟩) tellN := bytes_cells W tellN _ T fr g hg rfl
theorem first_of {l : List UInt8} {n : Nat} {c : UInt8} {r : List UInt8} (h : l.take n = c :: r) (hn : 0 < n) : l[0]? = some c := by
  have : (l.take n)[0]? = some c := by rw [h]; rfl
  rwa [List.getElem?_take_of_lt hn] at this
theorem sum_lit (l : List UInt8) (n : Nat) (hn : l.length = n) (h9 : n ≤ 1000) (W : World) (g : Nat) (h : Bytes W (some ⟨g, 0, none⟩) l) (hT : KW W) : Calls Tryd.prog 19 #[.slice (some ⟨g, 0, none⟩) n n] W fun e w' => e = .returned (.agg (u8s (ShaMath.sha l)).toArray) ∧ Below W.heap.size W w' := by
  subst hn; exact sum_any l _ _ W (Nat.le_refl _) (by omega) h (by omega) hT
theorem mac_lit (k l : List UInt8) (m n : Nat) (hm : k.length = m) (hm9 : m ≤ 1000) (hn : l.length = n) (h9 : n ≤ 1000) (W : World) (gk g : Nat) (hk : Bytes W (some ⟨gk, 0, none⟩) k) (h : Bytes W (some ⟨g, 0, none⟩) l) (hT : KW W) : Calls Tryd.prog 21 #[.slice (some ⟨gk, 0, none⟩) m m, .slice (some ⟨g, 0, none⟩) n n] W fun e w' => e = .returned (.agg (u8s (ShaMath.hmac k l)).toArray) ∧ Below W.heap.size W w' := by
  subst hm hn; exact mac_any k l _ _ _ _ W (Nat.le_refl _) (by omega) hk (by omega) (Nat.le_refl _) (by omega) h (by omega) hT
set_option maxRecDepth 100000 in
set_option maxHeartbeats 2000000 in
theorem sumTells_any (w : World) (hT : KW w) :
    Calls Tryd.prog 24 #[] w fun e w' => e = .returned (.bool true) ∧ Below w.heap.size w w' := by
  have c1 := fun W g h1 h2 => sum_lit tellA 3 rfl (by decide) W g h1 h2
  have c2 := fun W gk g h1 h2 h3 => mac_lit tellK tellB 4 28 rfl (by decide) rfl (by decide) W gk g h1 h2 h3
  have s1 : (ShaMath.sha tellA).length = 32 := ShaMath.sha_length _
  have s2 : (ShaMath.hmac tellK tellB).length = 32 := ShaMath.sha_length _
  have f1 : (ShaMath.sha tellA)[0]? = some 186 := first_of ShaMath.sha_abc (by decide)
  have f2 : (ShaMath.hmac tellK tellB)[0]? = some 91 := first_of ShaMath.hmac_known (by decide)
  generalize ShaMath.sha tellA = D1 at c1 s1 f1
  generalize ShaMath.hmac tellK tellB = D2 at c2 s2 f2
  have z1 : (u8s D1).length = 32 := by rw [u8s_length, s1]
  have z2 : (u8s D2).length = 32 := by rw [u8s_length, s2]
  have g1 := u8s_get f1
  have g2 := u8s_get f2
  obtain ⟨V1, hV1⟩ : ∃ V, (u8s D1).toArray = V := ⟨_, rfl⟩
  obtain ⟨V2, hV2⟩ : ∃ V, (u8s D2).toArray = V := ⟨_, rfl⟩
  rw [hV1] at c1
  rw [hV2] at c2
  have z32 : (u8s (List.replicate 32 0)).length = 32 := by rw [u8s_length, List.length_replicate]
  obtain ⟨Z, hZ⟩ : ∃ Z, (u8s (List.replicate 32 0)).toArray = Z := ⟨_, rfl⟩
  have zv32 : ∀ W, (zeroValue 33).run Tryd.prog W = .ok (.agg Z) W := fun W => by rw [← hZ]; kernel_rfl
  have bz : ∀ W : World, Blk (W.alloc (.cells Z 33)) W.heap.size 33 (u8s (List.replicate 32 0)) := fun W => by rw [← hZ]; exact Blk.new W _ _
  have m0 : ∀ (o : Obj), Below w.heap.size w (w.alloc o) := fun o => (Below.refl _ _).alloc (Nat.le_refl _) o
  have HZ := Lib.hid hZ
  have kc := fun (W : World) (C : Array Value) (n c g : Nat) (hg : g = W.heap.size) => Joins.run_convert_bytes_const_at (P := Tryd.prog) W 27 5 C n c g hg Tryd.underlying27 Tryd.underlying5
  clear hZ s1 s2 f1 f2
  go_enter Tryd.func24, Tryd.ntmps24
  go_upto_region 2 with (first
    | (go_at_call 19; refine (c1 _ _ (tell_a _ _ _ _ rfl) (hT.keep (m0 _) (Nat.le_refl _))).mono ?_; rintro e w1 ⟨rfl, k1⟩; have m1 := below_step (m0 _) (by simp) k1; have bn := bz w1; clear c1)
    | (with_reducible refine wpList_store_blk rfl 33 (.tmp 1) (.tmp 5) rfl w1.heap.size 0 rfl _ _ bn (u8s D1) V1 (by rw [← hV1]) rfl (by rw [z1, z32]; omega) (by rw [z1]; kernel_rfl) (u8s_one _) ?_; intro w2 hg2 hs2 hB2))
  rw [Nat.zero_add, List.take_zero, List.nil_append, List.drop_of_length_le (by rw [z1, z32]; exact Nat.le_refl _), List.append_nil] at hB2
  have m2 : Below w.heap.size w w2 := (m1.alloc m1.size _).grown hg2 (by have := m1.size; simp; omega) (fun k h => by cases h; exact m1.size)
  generalize w1.heap.size = A1 at hB2 ⊢
  clear hs2
  go_upto_region 3 with (first
    | (go_at_call 21; trace_state; refine (c2 _ _ _ ((tell_k _ _ _ _ rfl).keep ((Below.refl _ _).alloc (Nat.le_refl _) _)) (tell_b _ _ _ _ (by simp)) (hT.keep ((m2.alloc m2.size _).alloc (by have := m2.size; simp; omega) _) (Nat.le_refl _))).mono ?_; rintro e w3 ⟨rfl, k3⟩; have B3 := ((hB2.alloc _).alloc _).call k3; have m3 := below_step ((m2.alloc m2.size _).alloc (by have := m2.size; simp; omega) _) (by have := m2.size; simp; omega) k3; have bn := bz w3; clear c2)
    | (with_reducible refine wpList_store_blk rfl 33 (.tmp 2) (.tmp 10) rfl w3.heap.size 0 rfl _ _ bn (u8s D2) V2 (by rw [← hV2]) rfl (by rw [z2, z32]; omega) (by rw [z2]; kernel_rfl) (u8s_one _) ?_; intro w4 hg4 hs4 hB4))
  rw [Nat.zero_add, List.take_zero, List.nil_append, List.drop_of_length_le (by rw [z2, z32]; exact Nat.le_refl _), List.append_nil] at hB4
  have hl3 := B3.lt
  have B4 := (B3.alloc (.cells Z 33)).same (hg4.block A1 (B3.alloc _).lt (by simp; omega))
  have m4 : Below w.heap.size w w4 := (m3.alloc m3.size _).grown hg4 (by have := m3.size; simp; omega) (fun k h => by cases h; exact m3.size)
  have q1 := B4.cell g1
  have q2 := hB4.cell g2
  generalize w3.heap.size = A3 at q2 ⊢
  clear B3 B4 hB4 hB2 hg2 hg4 m3 k3 bn m2 m1 k1
  go_wp2_with fail
  go_ret
  exact ⟨rfl, m4⟩
end Go.Proofs.YtjllecmlabodaaaDoor
