/-
  CONTRACTS of package oracle's readTag, readPart, readParts, Parse.
  CONDITIONS: each theorem's own hypotheses.
-/
import Derived.Test.YtmldhnghfdhjmaaParseA
namespace Go.Proofs.Ytmldhnghfdhjmaa
open Go.RowKit CodeMath Go.Proofs.Ytmldhnghfdhjmaa.FrameMath
set_option linter.unusedVariables false

/-- One part off the front. -/
def cut1 (l : List UInt8) : Option (List UInt8 × List UInt8) := if l.length < 4 then none else if ((l.drop 4).length : Int) < num (l.take 4) 0 then none else some ((l.drop 4).take (num (l.take 4) 0).toNat, (l.drop 4).drop (num (l.take 4) 0).toNat)
theorem cutN_succ (n : Nat) (l : List UInt8) : cutN (n + 1) l = match cut1 l with | none => .short | some (p, r) => cons p (cutN n r) := by
  unfold cut1
  show (if _ then _ else _) = _
  by_cases h1 : l.length < 4
  · rw [if_pos h1, if_pos h1]
  · rw [if_neg h1, if_neg h1]
    by_cases h2 : ((l.drop 4).length : Int) < num (l.take 4) 0
    · rw [if_pos h2, if_pos h2]
    · rw [if_neg h2, if_neg h2]
def apps (acc : List (List UInt8)) : Cut → Cut
  | .short => .short
  | .ok ps r => .ok (acc ++ ps) r
theorem apps_nil (c : Cut) : apps [] c = c := by cases c <;> rfl
theorem apps_cons (acc : List (List UInt8)) (p : List UInt8) (c : Cut) : apps acc (cons p c) = apps (acc ++ [p]) c := by
  cases c with
  | short => rfl
  | ok ps r => simp [apps, cons]
/-- What is read of the parts. -/
inductive PR where
  | err (e : Int)
  | ok (ps : List (List UInt8)) (r : List UInt8)
def ofCut : Cut → PR
  | .short => .err 4
  | .ok ps r => .ok ps r
def partsR : List UInt8 → PR
  | [] => .err 4
  | n :: l => if 8 < n.toNat then .err 1 else ofCut (cutN n.toNat l)
def PartsPost (R : PR) (w : World) (e : Ending) (w' : World) : Prop := match R with
  | .err c => e = .returned (.tuple #[.slice none 0 0, .slice none 0 0, .int .i64 c]) ∧ Below w.heap.size w w'
  | .ok ps r => ∃ v u, e = .returned (.tuple #[v, u, .int .i64 0]) ∧ OwnL w' w.heap.size v ps ∧ RowV w u r ∧ Below w.heap.size w w'
def ParsePost (R : FrameMath.Res) (w : World) (e : Ending) (w' : World) : Prop := match R with
  | .err c => e = .returned (.tuple #[.int .i64 0, .slice none 0 0, .int .i64 c]) ∧ Below w.heap.size w w'
  | .ok t ps => ∃ v, e = .returned (.tuple #[.int .i64 (t : Nat), v, .int .i64 0]) ∧ OwnL w' w.heap.size v ps ∧ Below w.heap.size w w'

set_option maxRecDepth 100000 in
set_option maxHeartbeats 1000000 in
theorem readPart_short (l : List UInt8) (ao : Option Addr) (cap : Nat) (w : World) (h : l.length < 4) :
    Calls Try.prog 28 #[.slice ao l.length cap] w fun e w' => e = .returned (.tuple #[.slice none 0 0, .slice none 0 0, .int .i64 4]) ∧ Below w.heap.size w w' := by
  have c := readNumber_short 4 4 rfl l ao cap w h (by decide)
  have hB := Below.refl w.heap.size w
  generalize l.length = n at c ⊢
  go_enter Try.func28, Try.ntmps28
  go_wp2_with fail
  refine c.mono ?_
  rintro e w1 ⟨rfl, rfl⟩
  go_wp2_with fail
  go_ret3
  exact ⟨rfl, hB⟩
set_option maxRecDepth 100000 in
set_option maxHeartbeats 1000000 in
theorem readPart_long (l : List UInt8) (ao : Option Addr) (cap : Nat) (w : World) (h4 : ¬ l.length < 4) (h : ((l.drop 4).length : Int) < num (l.take 4) 0) (hc : l.length ≤ cap) (hq : cap ≤ 9223372036854775807) (hb : Bytes w ao l) :
    Calls Try.prog 28 #[.slice ao l.length cap] w fun e w' => e = .returned (.tuple #[.slice none 0 0, .slice none 0 0, .int .i64 4]) ∧ Below w.heap.size w w' := by
  have c := readNumber_any 4 4 rfl l ao cap w (by omega) (by decide) hc hq hb
  rw [List.length_drop] at h
  generalize num (l.take 4) 0 = N at c h
  generalize l.length = n at c h h4 hc ⊢
  clear hb hc h4
  go_enter Try.func28, Try.ntmps28
  go_wp2_with fail
  refine c.mono ?_
  rintro e w1 ⟨rfl, hB⟩
  clear c
  go_wp2_with fail
  go_ret3
  exact ⟨rfl, hB⟩
def PartF (a1 a2 : Option Addr) (m k1 N m2 k2 : Nat) (PT : List UInt8) : Nat → Value → World → Prop
  | 0, v, _ => v = .slice a1 m k1
  | 1, v, _ => v = .int .i64 (N : Int)
  | 2, v, _ => v = .slice a1 N k1
  | 3, v, w => RowT w v PT
  | 4, v, _ => v = .slice a1 m k1
  | 5, v, _ => v = .int .i64 (N : Int)
  | 6, v, _ => v = .slice a2 m2 k2
  | 7, v, w => RowT w v PT
  | 8, v, _ => v = .slice a2 m2 k2
  | _, _, _ => True
theorem partF_keep {a1 a2 : Option Addr} {m k1 N m2 k2 : Nat} {PT : List UInt8} (i : Nat) (v : Value) (w w' : World) (h : PartF a1 a2 m k1 N m2 k2 PT i v w) (he : Below w.heap.size w w') : PartF a1 a2 m k1 N m2 k2 PT i v w' := by
  unfold PartF at *
  split at h <;> (try exact h) <;> (try exact trivial)
  · exact h.keep he
  · exact h.keep he
set_option maxRecDepth 100000 in
set_option maxHeartbeats 2000000 in
theorem readPart_good (l : List UInt8) (ao : Option Addr) (cap : Nat) (w : World) (h4 : ¬ l.length < 4) (h : ¬ ((l.drop 4).length : Int) < num (l.take 4) 0) (hc : l.length ≤ cap) (hq : cap ≤ 9223372036854775807) (hn : ao = none → cap = 0) (hl : l.length ≤ 140737488351232) (hb : Bytes w ao l) :
    Calls Try.prog 28 #[.slice ao l.length cap] w fun e w' => ∃ v, e = .returned (.tuple #[v, .slice (pieceA (pieceA ao 4 cap) (num (l.take 4) 0).toNat (cap - 4)) (l.length - 4 - (num (l.take 4) 0).toNat) (cap - 4 - (num (l.take 4) 0).toNat), .int .i64 0]) ∧ RowT w' v ((l.drop 4).take (num (l.take 4) 0).toNat) ∧ Below w.heap.size w w' := by
  have c := readNumber_any 4 4 rfl l ao cap w (by omega) (by decide) hc hq hb
  have hr := RowV.rest 4 (by omega) hc hq hn hb
  have hns := num_small (l.take 4) 4 (by decide) (by rw [List.length_take]; omega)
  obtain ⟨N, hN⟩ : ∃ N : Nat, num (l.take 4) 0 = N := ⟨(num (l.take 4) 0).toNat, by omega⟩
  rw [hN] at c h hns ⊢
  rw [Int.toNat_natCast]
  obtain ⟨UV, hUV⟩ : ∃ UV, Value.slice (pieceA (pieceA ao 4 cap) N (cap - 4)) (l.length - 4 - N) (cap - 4 - N) = UV := ⟨_, rfl⟩
  rw [hUV]
  obtain ⟨a1, k1, e1, g1, g2, g3, g4⟩ := hr
  obtain ⟨L, hL⟩ : ∃ L, l.drop 4 = L := ⟨_, rfl⟩
  have hLl : L.length = l.length - 4 := by rw [← hL, List.length_drop]
  rw [hL] at e1 g1 g4 h ⊢
  rw [e1] at c
  obtain ⟨ea, en, ek⟩ := Value.slice.inj e1
  rw [ea, en, ek] at hUV
  clear ea en ek
  have hNL : N ≤ L.length := by omega
  have hLm : L.length ≤ 140737488351232 := by omega
  generalize l.length = n at *
  have s0 := fun W => slice_first a1 L.length k1 N (by omega) W
  have s1 := fun W => slice_last a1 L.length k1 N hNL W
  have htl : (L.take N).length = N := by rw [List.length_take]; omega
  have cC := fun W (hB : Bytes W a1 (L.take N)) => bytesClone_any (L.take N) a1 k1 W (by omega) (by omega) g3 hB
  rw [htl] at cC
  have g5 := bytes_front g4 N
  have hR := fun W (hB : Bytes W a1 L) => RowV.rest N hNL g1 g2 g3 hB
  have hI : ¬ (L.length : Int) < N := by omega
  clear hb hc h4 hq hn hl hL hLl e1 hns hN g1 g2 g3
  generalize L.take N = PT at *
  generalize L.drop N = RT at *
  generalize L.length = m at *
  clear htl
  go_enter Try.func28, Try.ntmps28
  go_wp2_with fail
  refine c.mono ?_
  rintro e w1 ⟨rfl, hB1⟩
  clear c
  go_upto_region 6 with fail
  clear hI hNL hLm h
  have g5' := g5.keep hB1
  have g4' := g4.keep hB1
  clear g5 g4
  obtain ⟨a2, k2, e2, _⟩ := hR w1 g4'
  obtain ⟨m2, hm2⟩ : ∃ m2, RT.length = m2 := ⟨_, rfl⟩
  rw [hm2] at e2
  rw [e2] at s1 hUV
  subst hUV
  clear hm2 e2 hR
  generalize decide (m < N) = b18
  refine wp_region_facts' 9 (by kernel_rfl) (by kernel_rfl) (PartF a1 a2 m k1 N m2 k2 PT) (fun W => Below w1.heap.size w1 W) (fun W W' => Below W.heap.size W W') ?hC ?hF ?h0 ?hstep ?hdone
  case hC => exact fun W W' hc he => below_step hc hc.size he
  case hF => exact partF_keep
  case h0 => exact (Below.refl _ _).drew
  case hstep =>
    intro i hi vs a W K ha hc hd hu hK
    simp only [fillF, Act.put, List.take_succ_cons, List.take_zero, List.setIfInBounds_toArray, List.set_cons_zero, List.set_cons_succ] at ha
    subst ha
    rcases (show i = 0 ∨ i = 1 ∨ i = 2 ∨ i = 3 ∨ i = 4 ∨ i = 5 ∨ i = 6 ∨ i = 7 ∨ i = 8 by omega) with rfl | rfl | rfl | rfl | rfl | rfl | rfl | rfl | rfl
    · have u8 := hu 8 _ rfl (.inr (by kernel_rfl))
      simp only [slotOf] at u8
      simp only [u8] at hK ⊢
      refine wpOp_step rfl (fun K' hK' => ?_)
      go_simp
      exact hK' _ _ (hK _ _ rfl (Below.refl _ _))
    · refine wpOp_step rfl (fun K' hK' => ?_)
      go_simp
      exact hK' _ _ (hK _ _ rfl (Below.refl _ _))
    · have e0 : vs 0 = .slice a1 m k1 := hd 0 (by kernel_rfl)
      have e1 : vs 1 = .int .i64 (N : Int) := hd 1 (by kernel_rfl)
      simp only [e0, e1] at hK ⊢
      have q0 := s0 W
      refine wpOp_step rfl (fun K' hK' => ?_)
      go_simp
      exact hK' _ _ (hK _ _ rfl (Below.refl _ _))
    · have e2 : vs 2 = .slice a1 N k1 := hd 2 (by kernel_rfl)
      simp only [e2] at hK ⊢
      refine wpOp_step rfl (fun K' hK' => ?_)
      go_simp
      with_reducible refine (cC W (g5'.keep hc)).mono ?_
      rintro e w' ⟨v', rfl, ho, hb⟩
      exact hK' _ _ (hK _ _ ho.rowT hb)
    · have u8 := hu 8 _ rfl (.inr (by kernel_rfl))
      simp only [slotOf] at u8
      simp only [u8] at hK ⊢
      refine wpOp_step rfl (fun K' hK' => ?_)
      go_simp
      exact hK' _ _ (hK _ _ rfl (Below.refl _ _))
    · refine wpOp_step rfl (fun K' hK' => ?_)
      go_simp
      exact hK' _ _ (hK _ _ rfl (Below.refl _ _))
    · have e4 : vs 4 = .slice a1 m k1 := hd 4 (by kernel_rfl)
      have e5 : vs 5 = .int .i64 (N : Int) := hd 5 (by kernel_rfl)
      simp only [e4, e5] at hK ⊢
      have q1 := s1 W
      refine wpOp_step rfl (fun K' hK' => ?_)
      go_simp
      exact hK' _ _ (hK _ _ rfl (Below.refl _ _))
    · have y3 : RowT W (vs 3) PT := hd 3 (by kernel_rfl)
      refine wpOp_step rfl (fun K' hK' => ?_)
      go_simp
      exact hK' _ _ (hK _ _ y3 (Below.refl _ _))
    · have e6 : vs 6 = .slice a2 m2 k2 := hd 6 (by kernel_rfl)
      simp only [e6] at hK ⊢
      refine wpOp_step rfl (fun K' hK' => ?_)
      go_simp
      exact hK' _ _ (hK _ _ rfl (Below.refl _ _))
  case hdone =>
    intro vs a W ha hc hf
    simp only [fillF, Act.put, List.take_succ_cons, List.take_zero, List.setIfInBounds_toArray, List.set_cons_zero, List.set_cons_succ] at ha
    subst ha
    have f7 : RowT W (vs 7) PT := hf 7 (by decide)
    have f8 : vs 8 = .slice a2 m2 k2 := hf 8 (by decide)
    simp only [Nat.zero_add, Nat.reduceAdd, f8]
    have hBB := below_step hB1 hB1.size hc
    clear hf
    go_wp2_with fail
    go_ret3
    exact ⟨_, rfl, f7, hBB⟩
theorem RowV.part {w : World} {ao : Option Addr} {cap : Nat} {l : List UInt8} (N : Nat) (h4 : 4 ≤ l.length) (hN : N ≤ l.length - 4) (hc : l.length ≤ cap) (hq : cap ≤ 9223372036854775807) (hn : ao = none → cap = 0) (h : Bytes w ao l) : RowV w (.slice (pieceA (pieceA ao 4 cap) N (cap - 4)) (l.length - 4 - N) (cap - 4 - N)) ((l.drop 4).drop N) := by
  obtain ⟨a1, k1, e1, g1, g2, g3, g4⟩ := RowV.rest 4 h4 hc hq hn h
  obtain ⟨ea, en, ek⟩ := Value.slice.inj e1
  rw [ea, en, ek]
  exact RowV.rest N (by omega) g1 g2 g3 g4
theorem RowV.keep {w w' : World} {u : Value} {l : List UInt8} (h : RowV w u l) (hb : Below w.heap.size w w') : RowV w' u l := by
  obtain ⟨ao, cap, h1, h2, h3, h4, h5⟩ := h
  exact ⟨ao, cap, h1, h2, h3, h4, h5.keep hb⟩
end Go.Proofs.Ytmldhnghfdhjmaa
