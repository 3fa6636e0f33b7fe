/-
  CONTRACTS of oracle.word and oracle.Salt.
  CONDITIONS: package sum's roundWords hold what their initialiser lays ('KW').
-/
import Derived.Test.YtmldhnghfdhjmaaDoorDigA
import Derived.Test.YtmldhnghfdhjmaaDoorGMac
namespace Go.Proofs.YtmldhnghfdhjmaaDoor
open Go.RowKit CodeMath Go.Proofs.YtmldhnghfdhjmaaDoor.FrameMath
set_option linter.unusedVariables false
set_option maxRecDepth 100000

/-- A number as a part. -/
def wd (x : Int) : List UInt8 := be (x % 18446744073709551616) 8
theorem wd_length (x : Int) : (wd x).length = 8 := be_length _ _
set_option maxHeartbeats 1000000 in
theorem word_any (x : Int) (w : World) (x0 : -9223372036854775808 ≤ x) (x1 : x ≤ 9223372036854775807) :
    Calls Tryd.prog 33 #[.int .i64 x] w fun e w' => ∃ v, e = .returned v ∧ RowT w' v (wd x) ∧ Below w.heap.size w w' := by
  have h0 := Int.emod_nonneg x (show (18446744073709551616 : Int) ≠ 0 by decide)
  have h1 := Int.emod_lt_of_pos x (show (0 : Int) < 18446744073709551616 by decide)
  have wx : IntKind.u64.wrap x = x % 18446744073709551616 := IntKind.wrap_u64 x
  have c := numAppend_any (x % 18446744073709551616) h0 (by omega) 8 8 rfl (by decide) w.heap.size (.slice none 0 0) [] w (World.ownsRow_nil _ _ _ _) (Nat.le_refl _) (by decide)
  rw [List.nil_append] at c
  unfold wd
  generalize x % 18446744073709551616 = n at *
  go_enter Tryd.func33, Tryd.ntmps33
  go_wp2_with fail
  refine c.mono ?_
  rintro e w1 ⟨v1, rfl, ho1, hb1⟩
  have hr := ho1.rowT
  clear c
  go_wp2_with fail
  go_ret
  exact ⟨_, rfl, hr, hb1⟩
/-- Lines that a literal lays. -/
theorem lines_new (w : World) (us : List Value) (T : TypeId) (rows : List (List UInt8)) (hlen : us.length = rows.length) (h : ∀ (i : Nat) (l : List UInt8), rows[i]? = some l → ∃ u : Value, us[i]? = some u ∧ RowV w u l) : Lines (w.alloc (.cells us.toArray T)) (some ⟨w.heap.size, 0, none⟩) rows := by
  refine LinesV.lines (.inr ⟨w.heap.size, 0, rfl, by simp, fun i l hi => ?_⟩)
  obtain ⟨u, h1, h2⟩ := h i l hi
  refine ⟨u, ?_, h2.keep ((Below.refl _ _).alloc (Nat.le_refl _) _)⟩
  rw [Nat.zero_add, World.cell?_alloc_new]
  simpa using h1
theorem lines_two (w : World) (u1 u2 : Value) (T : TypeId) (l1 l2 : List UInt8) (h1 : RowV w u1 l1) (h2 : RowV w u2 l2) : Lines (w.alloc (.cells #[u1, u2] T)) (some ⟨w.heap.size, 0, none⟩) [l1, l2] :=
  lines_new w [u1, u2] T [l1, l2] rfl (fun i l hi => by
    match i, hi with
    | 0, hi => simp at hi; subst hi; exact ⟨u1, rfl, h1⟩
    | 1, hi => simp at hi; subst hi; exact ⟨u2, rfl, h2⟩)
theorem lines_three (w : World) (u1 u2 u3 : Value) (T : TypeId) (l1 l2 l3 : List UInt8) (h1 : RowV w u1 l1) (h2 : RowV w u2 l2) (h3 : RowV w u3 l3) : Lines (w.alloc (.cells #[u1, u2, u3] T)) (some ⟨w.heap.size, 0, none⟩) [l1, l2, l3] :=
  lines_new w [u1, u2, u3] T [l1, l2, l3] rfl (fun i l hi => by
    match i, hi with
    | 0, hi => simp at hi; subst hi; exact ⟨u1, rfl, h1⟩
    | 1, hi => simp at hi; subst hi; exact ⟨u2, rfl, h2⟩
    | 2, hi => simp at hi; subst hi; exact ⟨u3, rfl, h3⟩)
def saltB (m : Int) (s : List UInt8) (step place : Int) : List UInt8 := if m = 2 then frame 3 [s, wd step, wd place] else ShaMath.hmac s (frame 3 [wd step, wd place])
def saltR (m : Int) (s : List UInt8) (step place : Int) : DR := if isMode m = false then .err 2 else if 16 < s.length then .err 1 else .ok (saltB m s step place)
set_option maxHeartbeats 4000000 in
theorem Salt_any (m : Int) (s : List UInt8) (ao : Option Addr) (cap : Nat) (step place : Int) (w : World) (m0 : -9223372036854775808 ≤ m) (m1 : m ≤ 9223372036854775807) (hc : s.length ≤ cap) (hq : cap ≤ 9223372036854775807) (hn : ao = none → cap = 0) (hb : Bytes w ao s) (s0 : -9223372036854775808 ≤ step) (s1 : step ≤ 9223372036854775807) (p0 : -9223372036854775808 ≤ place) (p1 : place ≤ 9223372036854775807) (hT : KW w) :
    Calls Tryd.prog 13 #[.int .i64 m, .slice ao s.length cap, .int .i64 step, .int .i64 place] w (DigPost (saltR m s step place) w) := by
  have cM := fun W => mode_any m W m0 m1
  obtain ⟨R, hR⟩ : ∃ R, saltR m s step place = R := ⟨_, rfl⟩
  rw [hR]
  unfold saltR at hR
  have hBB := Below.refl w.heap.size w
  cases hm : isMode m with
  | false =>
    rw [if_pos hm] at hR
    subst hR
    rw [hm] at cM
    clear hm hn hb hc
    generalize s.length = n
    go_enter Tryd.func13, Tryd.ntmps13
    go_wp2_with fail
    refine (cM _).mono ?_
    rintro e w1 ⟨rfl, rfl⟩
    go_wp2_with fail
    go_ret2
    exact ⟨rfl, hBB⟩
  | true =>
    rw [if_neg (by rw [hm]; decide)] at hR
    rw [hm] at cM
    by_cases h16 : 16 < s.length
    · rw [if_pos h16] at hR
      subst hR
      have hI : (16 : Int) < s.length := by omega
      clear hm hn hb hc h16
      generalize s.length = n at *
      go_enter Tryd.func13, Tryd.ntmps13
      go_wp2_with fail
      refine (cM _).mono ?_
      rintro e w1 ⟨rfl, rfl⟩
      go_wp2_with fail
      go_ret2
      exact ⟨rfl, hBB⟩
    · rw [if_neg h16] at hR
      subst hR
      have hI : ¬ (16 : Int) < s.length := by omega
      have c1 := fun W => word_any step W s0 s1
      have c2 := fun W => word_any place W p0 p1
      have l1 := wd_length step
      have l2 := wd_length place
      unfold saltB
      by_cases h2 : m = 2
      · rw [if_pos h2]
        subst h2
        have cF := fun ap W h => frameP_any 3 3 rfl (by decide) [s, wd step, wd place] ap 3 W h (by simp) (by simp only [total, l1, l2]; omega)
        rw [show [s, wd step, wd place].length = 3 from rfl] at cF
        generalize frame 3 [s, wd step, wd place] = F at *
        generalize wd step = A at *
        generalize wd place = B at *
        have hrs : ∀ W, Below w.heap.size w W → RowV W (.slice ao s.length cap) s := fun W hW => ⟨ao, cap, rfl, hc, hq, hn, hb.keep hW⟩
        have HRS := Lib.hid hrs
        clear hm hn hb hc h16 hrs
        obtain ⟨n, hnn⟩ : ∃ n, s.length = n := ⟨_, rfl⟩
        have HNN := Lib.hid hnn
        rw [hnn] at hI ⊢
        clear hnn
        go_enter Tryd.func13, Tryd.ntmps13
        go_wp2_with fail
        refine (cM _).mono ?_
        rintro e w1 ⟨rfl, rfl⟩
        clear cM
        go_wp2_with fail
        refine (c1 _).mono ?_
        rintro e w1 ⟨v1, rfl, hr1, hb1⟩
        clear c1
        go_wp2_with fail
        refine (c2 _).mono ?_
        rintro e w2 ⟨v2, rfl, hr2, hb2⟩
        clear c2
        have hbb2 := below_step hb1 hb1.size hb2
        have hx1 := (hr1.keep hb2).row
        have hx2 := hr2.row
        have hx0 := HRS.out w2 hbb2
        rw [HNN.out] at hx0
        clear hr1 hr2 HRS
        obtain ⟨a1, n1, k1, rfl⟩ : ∃ a n k, v1 = .slice a n k := by obtain ⟨a, k, e, _⟩ := hx1; exact ⟨_, _, _, e⟩
        obtain ⟨a2, n2, k2, rfl⟩ : ∃ a n k, v2 = .slice a n k := by obtain ⟨a, k, e, _⟩ := hx2; exact ⟨_, _, _, e⟩
        have hlin := fun T => lines_three w2 _ _ _ T _ _ _ hx0 hx1 hx2
        have hba : ∀ o, Below w.heap.size w (w2.alloc o) := fun o => hbb2.alloc hbb2.size o
        clear hx0 hx1 hx2
        go_wp2_with fail
        refine (cF _ _ (hlin _)).mono ?_
        rintro e w3 ⟨v3, rfl, ho3, hb3⟩
        have hr3 := ho3.rowT
        have hbb3 := below_step (hba _) (hba _).size hb3
        clear cF hlin hba ho3
        go_wp2_with fail
        go_ret2
        exact ⟨_, rfl, hr3, hbb3⟩
      · rw [if_neg h2]
        have cF := fun ap W h => frameP_any 3 3 rfl (by decide) [wd step, wd place] ap 2 W h (by simp) (by simp only [total, l1, l2]; omega)
        rw [show [wd step, wd place].length = 2 from rfl] at cF
        have hfl : (frame 3 [wd step, wd place]).length ≤ 100 := by rw [frame_length]; simp only [total, l1, l2]; omega
        generalize frame 3 [wd step, wd place] = F at *
        generalize wd step = A at *
        generalize wd place = B at *
        have cS := fun W ab cb h1 h2 h3 h4 h5 => mac_any s F ao ab cap cb W hc hq h1 (by omega) h2 h3 h4 (by omega) h5
        have hsl : (ShaMath.hmac s F).length = 32 := ShaMath.sha_length _
        generalize ShaMath.hmac s F = H at *
        clear hm hc h16
        obtain ⟨n, hnn⟩ : ∃ n, s.length = n := ⟨_, rfl⟩
        rw [hnn] at hI cS ⊢
        clear hnn
        go_enter Tryd.func13, Tryd.ntmps13
        go_wp2_with fail
        refine (cM _).mono ?_
        rintro e w1 ⟨rfl, rfl⟩
        clear cM
        go_wp2_with fail
        refine (c1 _).mono ?_
        rintro e w1 ⟨v1, rfl, hr1, hb1⟩
        clear c1
        go_wp2_with fail
        refine (c2 _).mono ?_
        rintro e w2 ⟨v2, rfl, hr2, hb2⟩
        clear c2
        have hbb2 := below_step hb1 hb1.size hb2
        have hx1 := (hr1.keep hb2).row
        have hx2 := hr2.row
        clear hr1 hr2
        obtain ⟨a1, n1, k1, rfl⟩ : ∃ a n k, v1 = .slice a n k := by obtain ⟨a, k, e, _⟩ := hx1; exact ⟨_, _, _, e⟩
        obtain ⟨a2, n2, k2, rfl⟩ : ∃ a n k, v2 = .slice a n k := by obtain ⟨a, k, e, _⟩ := hx2; exact ⟨_, _, _, e⟩
        have hlin := fun T => lines_two w2 _ _ T _ _ hx1 hx2
        have hba : ∀ o, Below w.heap.size w (w2.alloc o) := fun o => hbb2.alloc hbb2.size o
        clear hx1 hx2
        go_wp2_with fail
        refine (cF _ _ (hlin _)).mono ?_
        rintro e w3 ⟨v3, rfl, ho3, hb3⟩
        have hbb3 := below_step (hba _) (hba _).size hb3
        clear cF hlin hba
        obtain ⟨a3, k3, rfl, i1, i2, i3, i4⟩ := ho3.rowT.row
        have c := cS w3 a3 k3 (hb.keep hbb3) i1 i2 i4 (hT.keep hbb3 (Nat.le_refl _))
        clear cS i1 i2 i3 i4 ho3 hfl
        generalize F.length = fl at *
        obtain ⟨RA, hRA⟩ : ∃ RA, (u8s H).toArray = RA := ⟨_, rfl⟩
        rw [hRA] at c
        go_wp2_with fail
        refine c.mono ?_
        rintro e w4 ⟨rfl, hb4⟩
        have hbb4 := below_step hbb3 hbb3.size hb4
        clear c
        go_wp2_with (first
          | (refine wpList_store_blk rfl 51 (.tmp 10) (.tmp 33) rfl w4.heap.size 0 rfl _ _ (Blk.new w4 _ _) (u8s H) RA (by rw [← hRA]) rfl (by rw [u8s_length, hsl]; decide) (by rw [u8s_length, hsl]; kernel_rfl) (u8s_one _) ?_; intro x3 hg7 hs7 hB7)
          | fail)
        have hB8 : Blk x3 w4.heap.size 51 (u8s H) := by
          rw [List.take_zero, List.nil_append, u8s_length, hsl, List.drop_of_length_le (by decide), List.append_nil] at hB7
          exact hB7
        have hb5 := (hbb4.alloc hbb4.size _).grown hg7 (hbb4.alloc hbb4.size _).size (fun k h => by cases h; exact hbb4.size)
        go_ret2
        exact ⟨_, rfl, rowT_arr hB8 hsl, hb5⟩
end Go.Proofs.YtmldhnghfdhjmaaDoor
