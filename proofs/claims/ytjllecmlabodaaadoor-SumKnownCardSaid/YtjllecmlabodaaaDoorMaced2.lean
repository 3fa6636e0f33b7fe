/-
  CONTRACT of the reference's Maced.
  CONDITIONS: where the bytes lie.
-/
import Derived.Test.YtjllecmlabodaaaDoorMaced1
import Derived.Test.YtjllecmlabodaaaDoorRefSum
import Derived.Test.YtjllecmlabodaaaDoorRegDet
namespace Go.Proofs.YtjllecmlabodaaaDoor
open Go.RowKit CodeMath
set_option linter.unusedVariables false

def sizeC : Option Value → Nat
  | some (.string s) => s.size
  | _ => 0
/-- A key with noughts behind it. -/
def padK (D : List UInt8) (j : Nat) : List UInt8 := D ++ List.replicate j 0
theorem padK_length (D : List UInt8) (j : Nat) : (padK D j).length = D.length + j := by simp [padK]
theorem padK_succ (D : List UInt8) (j : Nat) : padK D j ++ [0] = padK D (j + 1) := by
  unfold padK; rw [List.append_assoc, ← List.replicate_succ']
def MacedF (FV : Value) (S1 SB SX : ByteArray) (ab : Option Addr) (m cb : Nat) (X : List UInt8) (n : Nat) (VI : Array Value) (H : Nat) : Nat → Value → World → Prop
  | 0, v, _ => v = FV
  | 1, v, _ => v = .string S1
  | 2, v, _ => v = .slice ab m cb
  | 3, v, _ => v = .string SB
  | 4, v, _ => v = .string SX
  | 5, v, w => ∃ g cap, v = .slice (some ⟨g, 0, none⟩) n cap ∧ Bytes w (some ⟨g, 0, none⟩) X ∧ n ≤ cap ∧ cap ≤ 9223372036854775807
  | 6, v, _ => v = .agg VI
  | 7, v, w => ∃ g, v = .pointer (some ⟨g, 0, none⟩) ∧ H ≤ g ∧ Blk w g 33 (u8s (List.replicate 32 0))
  | _, _, _ => True
theorem macedF_keep {FV : Value} {S1 SB SX : ByteArray} {ab : Option Addr} {m cb : Nat} {X : List UInt8} {n : Nat} {VI : Array Value} {H : Nat} (i : Nat) (v : Value) (w w' : World) (h : MacedF FV S1 SB SX ab m cb X n VI H i v w) (he : Below w.heap.size w w') : MacedF FV S1 SB SX ab m cb X n VI H i v w' := by
  unfold MacedF at *
  split at h <;> (try exact h) <;> (try exact trivial)
  · obtain ⟨g, cap, h1, h2, h3⟩ := h; exact ⟨g, cap, h1, h2.keep he, h3⟩
  · obtain ⟨g, h1, h2, h3⟩ := h; exact ⟨g, h1, h2, h3.call he⟩
theorem bytesOf_max (l : List UInt8) (w : World) (hl : l.length ≤ 9223372036854775807) : ∃ cap W1, (convert 9 27 (.string (str l))).run Tryd.prog w = .ok (.slice (some ⟨w.heap.size, 0, none⟩) l.length cap) W1 ∧ Bytes W1 (some ⟨w.heap.size, 0, none⟩) l ∧ Below w.heap.size w W1 ∧ l.length ≤ cap ∧ cap ≤ 9223372036854775807 := by
  obtain ⟨cap, W1, hcv, h1, h2, h3⟩ := bytesOf_own l w
  refine ⟨cap, W1, hcv, h1.bytes, h2, h3, ?_⟩
  have hcv' := run_bytes_of_string (P := Tryd.prog) w 9 27 5 (str l) Tryd.underlying9 Tryd.underlying27 Tryd.underlying5
  have hle := grownCap_le_maxLen w (str l).size 0 5 (by rw [str_size]; exact hl)
  rw [hcv] at hcv'
  have : cap = grownCap w (str l).size 0 5 := by
    injection hcv' with e1 e2
    injection e1 with e3 e4 e5
  rw [this]; exact hle
set_option maxRecDepth 100000 in
set_option maxHeartbeats 4000000 in
theorem maced_any (k b : List UInt8) (ak ab : Option Addr) (ck cb : Nat) (w : World) (hck : k.length ≤ ck) (hck1 : ck ≤ 9223372036854775807) (hk : Bytes w ak k) (hkmax : k.length ≤ 1152921504606846976)
    (hcb : b.length ≤ cb) (hcb1 : cb ≤ 9223372036854775807) (hb : Bytes w ab b) (hmax : 64 + b.length ≤ 1152921504606846976) :
    Calls Tryd.prog 22 #[.slice ak k.length ck, .slice ab b.length cb] w fun e w' => e = .returned (.agg (u8s (ShaMath.hmac k b)).toArray) ∧ Below w.heap.size w w' := by
  have hdef : ShaMath.hmac k b = ShaMath.sha ((ShaMath.key64 k).map (· ^^^ 92) ++ ShaMath.sha ((ShaMath.key64 k).map (· ^^^ 54) ++ b)) := rfl
  rw [hdef]
  clear hdef
  have hkl := ShaMath.key64_length k
  have hK : ∃ D, (if 64 < k.length then ShaMath.sha k else k) = D ∧ D.length ≤ 64 ∧ ShaMath.key64 k = padK D (64 - D.length) := by
    refine ⟨_, rfl, ?_, key64_eq k⟩
    split
    · rw [ShaMath.sha_length]; omega
    · omega
  obtain ⟨D, hD, hD64, hKD⟩ := hK
  generalize ShaMath.key64 k = K at hkl hKD ⊢
  have c1 := fun P W h1 h2 => padRef_any K hkl 54 54 rfl P W h1 h2
  have c2 := fun P W h1 h2 => padRef_any K hkl 92 92 rfl P W h1 h2
  have l1 : (K.map (· ^^^ 54)).length = 64 := by rw [List.length_map, hkl]
  have l2 : (K.map (· ^^^ 92)).length = 64 := by rw [List.length_map, hkl]
  generalize K.map (· ^^^ 54) = P1 at c1 l1 ⊢
  generalize K.map (· ^^^ 92) = P2 at c2 l2 ⊢
  have hsI : (ShaMath.sha (P1 ++ b)).length = 32 := ShaMath.sha_length _
  have lX : (P1 ++ b).length ≤ 1152921504606846976 := by rw [List.length_append]; omega
  have cI := fun W (g cap : Nat) (h0 : (P1 ++ b).length ≤ cap) (h1 : cap ≤ 9223372036854775807) (h2 : Bytes W (some ⟨g, 0, none⟩) (P1 ++ b)) => summed_any (P1 ++ b) (some ⟨g, 0, none⟩) cap W h0 h1 h2 lX
  have vX := fun W => bytesOf_max (P1 ++ b) W (by omega)
  have aX : str P1 ++ str b = str (P1 ++ b) := str_append _ _
  have zX : ¬ 9223372036854775807 < (str P1).size + (str b).size := by rw [str_size, str_size]; omega
  generalize ShaMath.sha (P1 ++ b) = I at hsI cI ⊢
  generalize P1 ++ b = X at cI vX aX lX
  have hsO : (ShaMath.sha (P2 ++ I)).length = 32 := ShaMath.sha_length _
  have lY : (P2 ++ I).length ≤ 1152921504606846976 := by rw [List.length_append]; omega
  have cO := fun W (g cap : Nat) (h0 : (P2 ++ I).length ≤ cap) (h1 : cap ≤ 9223372036854775807) (h2 : Bytes W (some ⟨g, 0, none⟩) (P2 ++ I)) => summed_any (P2 ++ I) (some ⟨g, 0, none⟩) cap W h0 h1 h2 lY
  have vY := fun W => bytesOf_max (P2 ++ I) W (by omega)
  have aY : str P2 ++ str I = str (P2 ++ I) := str_append _ _
  have zY : ¬ 9223372036854775807 < (str P2).size + (str I).size := by rw [str_size, str_size]; omega
  generalize ShaMath.sha (P2 ++ I) = O at hsO cO ⊢
  generalize P2 ++ I = Y at cO vY aY lY
  obtain ⟨VI, hVI⟩ : ∃ V, (u8s I).toArray = V := ⟨_, rfl⟩
  obtain ⟨VO, hVO⟩ : ∃ V, (u8s O).toArray = V := ⟨_, rfl⟩
  rw [hVI] at cI
  rw [hVO] at cO ⊢
  have sI : (u8s I).length = 32 := by rw [u8s_length, hsI]
  have sO : (u8s O).length = 32 := by rw [u8s_length, hsO]
  have z32 : (u8s (List.replicate 32 0)).length = 32 := by rw [u8s_length, List.length_replicate]
  obtain ⟨Z, hZ⟩ : ∃ Z, (u8s (List.replicate 32 0)).toArray = Z := ⟨_, rfl⟩
  have zv32 : ∀ W, (zeroValue 33).run Tryd.prog W = .ok (.agg Z) W := fun W => by rw [← hZ]; kernel_rfl
  have bz : ∀ W : World, Blk (W.alloc (.cells Z 33)) W.heap.size 33 (u8s (List.replicate 32 0)) := fun W => by rw [← hZ]; exact Blk.new W _ _
  have b0 := bz w
  have sl32 := fun b W => slice_all32 b 0 W
  have m0 : ∀ (o : Obj), Below w.heap.size w (w.alloc o) := fun o => (Below.refl _ _).alloc (Nat.le_refl _) o
  have hk1 := hk.keep (m0 (.cells Z 33))
  have cvk := bytes_string (cap := ck) hk1
  have hkk : str k = ⟨k.toArray⟩ := rfl
  have hks := str_size k
  rw [← hkk] at cvk
  obtain ⟨SK, hSK⟩ : ∃ S, str k = S := ⟨_, rfl⟩
  rw [hSK] at cvk hks
  have HZ := Lib.hid hZ
  clear hZ hkk hk1
  have cS := fun W (h : Bytes W ak k) => summed_any k ak ck W hck hck1 h hkmax
  have hsS : (ShaMath.sha k).length = 32 := ShaMath.sha_length _
  by_cases hlt : 64 < k.length
  case' pos =>
    rw [if_pos hlt] at hD
    have hI : ((64 : Int) < SK.size) := by rw [hks]; omega
    rw [hD] at cS hsS
    obtain ⟨VS, hVS⟩ : ∃ V, (u8s D).toArray = V := ⟨_, rfl⟩
    rw [hVS] at cS
    have sS : (u8s D).length = 32 := by rw [u8s_length, hsS]
    go_enter Tryd.func22, Tryd.ntmps22
    go_upto_region 3 with fail
    refine wp_gen (fun W => Blk W w.heap.size 33 (u8s (List.replicate 32 0)) ∧ Blk W (w.heap.size + 1) 9 [.string SK] ∧ Below w.heap.size w W) ⟨b0.alloc _, Blk.atNew _ _ (by simp), (m0 _).alloc (by simp) _⟩ ?_
    rintro W ⟨b1, b2, hbw⟩
    have hkw := hk.keep hbw
    go_upto_region 4 with (first
      | (go_at_call 20; refine (cS _ hkw).mono ?_; rintro e w1 ⟨rfl, k1⟩; have B1 := b1.call k1; have B2 := b2.call k1; have m1 := below_step hbw hbw.size k1; have bn := bz w1; clear cS)
      | (with_reducible refine wpList_store_blk rfl 33 (.tmp 6) (.tmp 15) rfl w1.heap.size 0 rfl _ _ bn (u8s D) VS (by rw [← hVS]) rfl (by rw [sS, z32]; omega) (by rw [sS]; kernel_rfl) (u8s_one _) ?_; intro w2 hg2 hs2 hB2))
    rw [Nat.zero_add, List.take_zero, List.nil_append, List.drop_of_length_le (by rw [sS, z32]; exact Nat.le_refl _), List.append_nil] at hB2
    have hl1 := B1.lt
    have hl2 := B2.lt
    have B12 := (B1.alloc (.cells Z 33)).same (hg2.block w.heap.size (B1.alloc _).lt (by simp; omega))
    have B22 := (B2.alloc (.cells Z 33)).same (hg2.block (w.heap.size + 1) (B2.alloc _).lt (by simp; omega))
    have m2 : Below w.heap.size w w2 := (m1.alloc m1.size _).grown hg2 (by have := m1.size; simp; omega) (fun k h => by cases h; exact m1.size)
    have cvs := bytes_string (cap := 32) (bytes_of_blk hB2)
    rw [hsS] at cvs
    generalize w1.heap.size = A6 at hB2 cvs ⊢
    have hce := B22.cell (j := 0) rfl
    have hfr := B22.free 0
    have BD := B22.set 0 (.string (str D))
    have BR := B12.other ⟨w.heap.size + 1, 0, none⟩ (.string (str D)) (by simp)
    have mD := m2.setCell (p := ⟨w.heap.size + 1, 0, none⟩) (by simp) (.string (str D))
    have cvs' : (convert 27 9 (.slice (some ⟨A6, 0, none⟩) 32 32)).run Tryd.prog w2 = .ok (.string (str D)) w2 := cvs
    obtain ⟨SD, hSD⟩ : ∃ S, str D = S := ⟨_, rfl⟩
    rw [hSD] at cvs' BD BR mD
    clear cvs
    go_upto_region 5 with fail
    refine wp_gen (fun W => Blk W w.heap.size 33 (u8s (List.replicate 32 0)) ∧ Blk W (w.heap.size + 1) 9 [.string SD] ∧ Below w.heap.size w W) ⟨BR, BD, mD⟩ ?_
    clear BR BD mD hce hfr cvs' hB2 B12 B22 m2 hg2 hs2 hl1 hl2 B1 B2 m1 bn k1 b1 b2 hbw hkw hSK hks hsS sS hD hI hlt b0 cvk
    rintro W ⟨BR, BD, mD⟩
  case' neg =>
    rw [if_neg hlt] at hD
    have hI : ¬ ((64 : Int) < SK.size) := by rw [hks]; omega
    obtain ⟨SD, hSD⟩ : ∃ S, str D = S := ⟨_, rfl⟩
    obtain rfl : SD = SK := by rw [← hSD, ← hSK, hD]
    clear hD
    go_enter Tryd.func22, Tryd.ntmps22
    go_upto_region 5 with fail
    refine wp_gen (fun W => Blk W w.heap.size 33 (u8s (List.replicate 32 0)) ∧ Blk W (w.heap.size + 1) 9 [.string SD] ∧ Below w.heap.size w W) ⟨b0.alloc _, Blk.atNew _ _ (by simp), (m0 _).alloc (by simp) _⟩ ?_
    clear hks hI hlt b0 cvk hSK hsS cS
    rintro W ⟨BR, BD, mD⟩
  all_goals
    have hSD0 : str (padK D 0) = SD := by rw [← hSD]; unfold padK; rw [List.replicate_zero, List.append_nil]
    have H1 := Lib.hid BD
    have H2 := Lib.hid BR
    clear BD BR hSD m0
    go_loopw [22] (fun t wr => ∃ j : Nat, j ≤ 64 - D.length ∧ Hid (Blk wr (w.heap.size + 1) 9 [.string (str (padK D j))]) ∧ Hid (Blk wr w.heap.size 33 (u8s (List.replicate 32 0))) ∧ Below w.heap.size w wr) (fun _ wr => 64 - sizeC (wr.cell? ⟨w.heap.size + 1, 0, none⟩))
    case atStart => exact ⟨0, Nat.zero_le _, by rw [hSD0]; exact H1, H2, mD⟩
    case round =>
      obtain ⟨j, hj, k1, k2, hbr⟩ := hrel
      clear H1 H2 mD hSD0
      have hsz := str_size (padK D j)
      rw [padK_length] at hsz
      by_cases h64 : D.length + j < 64
      · have hsp := padK_succ D j
        have happ0 : str (padK D j) ++ (⟨#[0]⟩ : ByteArray) = str (padK D (j + 1)) := by rw [show (⟨#[0]⟩ : ByteArray) = str [0] from rfl, str_append, hsp]
        have hszz : ¬ 9223372036854775807 < (str (padK D j)).size + 1 := by rw [hsz]; omega
        have hI : ((str (padK D j)).size : Int) < 64 := by rw [hsz]; omega
        have hm1 : (str (padK D (j + 1))).size = D.length + (j + 1) := by rw [str_size, padK_length]
        obtain ⟨S, hS⟩ : ∃ S, str (padK D j) = S := ⟨_, rfl⟩
        obtain ⟨S', hS'⟩ : ∃ S', str (padK D (j + 1)) = S' := ⟨_, rfl⟩
        rw [hS] at happ0 hszz hI hsz k1
        rw [hS'] at happ0 hm1
        have ce := k1.out.cell (j := 0) rfl
        have fr := k1.out.free 0
        have n1 := k1.out.set 0 (.string S')
        have n2 := k2.out.other ⟨w.heap.size + 1, 0, none⟩ (.string S') (by simp)
        have nb := hbr.setCell (p := ⟨w.heap.size + 1, 0, none⟩) (by simp) (.string S')
        have ce' := n1.cell (j := 0) rfl
        have HSS := Lib.hid hS'
        have HSZ := Lib.hid hsz
        have HM1 := Lib.hid hm1
        have N1 := Lib.hid n1
        have N2 := Lib.hid n2
        have HC := Lib.hid ce
        have HC' := Lib.hid ce'
        clear hS hS' hsp hsz hm1 n1 n2 ce' k1 k2
        go_wp2
        go_roundw
        case rel => exact ⟨j + 1, by omega, by rw [HSS.out]; exact N1, N2, nb⟩
        case measure =>
          rw [HC.out, HC'.out]
          show 64 - S'.size < 64 - S.size
          rw [HSZ.out, HM1.out]; omega
      · have hje : j = 64 - D.length := by omega
        rw [hje, ← hKD] at k1 hsz
        have hI : ¬ ((str K).size : Int) < 64 := by rw [str_size, hkl]; omega
        obtain ⟨SK2, hSK2⟩ : ∃ S, str K = S := ⟨_, rfl⟩
        rw [hSK2] at k1 hI c1 c2
        have ce := k1.out.cell (j := 0) rfl
        have fr := k1.out.free 0
        clear hje h64 hSK2 hsz
        obtain ⟨S1, hS1⟩ : ∃ S, str P1 = S := ⟨_, rfl⟩
        obtain ⟨S2, hS2⟩ : ∃ S, str P2 = S := ⟨_, rfl⟩
        obtain ⟨SB, hSB⟩ : ∃ S, str b = S := ⟨_, rfl⟩
        obtain ⟨SI, hSI⟩ : ∃ S, str I = S := ⟨_, rfl⟩
        obtain ⟨SX, hSX⟩ : ∃ S, str X = S := ⟨_, rfl⟩
        obtain ⟨SY, hSY⟩ : ∃ S, str Y = S := ⟨_, rfl⟩
        rw [hS1] at c1 aX zX
        rw [hSB] at aX zX
        rw [hSX] at aX vX
        rw [hS2] at c2 aY zY
        rw [hSI] at aY zY
        rw [hSY] at aY vY
        clear hS1 hS2 hSX hSY
        go_upto_region 8 with fail
        have hPl : w.heap.size + 1 < wr.heap.size := k1.out.lt
        have hld : ∀ W, Below wr.heap.size wr W → W.cell? ⟨w.heap.size + 1, 0, none⟩ = some (.string SK2) ∧ (convert 27 9 (.slice ab b.length cb)).run Tryd.prog W = .ok (.string SB) W := fun W hW => ⟨(k1.out.call hW).cell (j := 0) rfl, by rw [← hSB]; exact bytes_string ((hb.keep hbr).keep hW)⟩
        have HLD := Lib.hid hld
        clear hld ce fr
        refine wp_region_facts' 8 (by kernel_rfl) (by kernel_rfl) (MacedF (Value.func (Fn.func 45) #[] #[Value.pointer (some ⟨w.heap.size + 1, 0, none⟩)]) S1 SB SX ab b.length cb X X.length VI wr.heap.size) (fun W => Below wr.heap.size wr W) (fun W W' => Below W.heap.size W W') ?hC ?hF ?h0 ?hstep ?hdone
        case hC => exact fun W W' hc he => below_step hc hc.size he
        case hF => exact macedF_keep
        case h0 => exact (Below.refl _ _).drew
        case hstep =>
          intro i hi vs a W K ha hc hd hu hK
          simp only [fillF, Act.put, List.take_succ_cons, List.take_zero, List.setIfInBounds_toArray, List.set_cons_zero, List.set_cons_succ] at ha
          subst ha
          clear hu
          obtain ⟨q1, q2⟩ := HLD.out W hc
          have hPW := Nat.lt_of_lt_of_le hPl hc.size
          rcases (show i = 0 ∨ i = 1 ∨ i = 2 ∨ i = 3 ∨ i = 4 ∨ i = 5 ∨ i = 6 ∨ i = 7 by omega) with rfl | rfl | rfl | rfl | rfl | rfl | rfl | rfl
          · refine wpOp_step rfl (fun K' hK' => ?_)
            go_simp
            exact hK' _ _ (hK _ _ rfl (Below.refl _ _))
          · have e0 := hd 0 (by kernel_rfl)
            simp only [MacedF] at e0
            simp only [e0] at hK ⊢
            refine wpOp_step rfl (fun K' hK' => ?_)
            go_simp
            refine (c1 _ W q1 hPW).mono ?_
            rintro e w' ⟨rfl, hbW⟩
            exact hK' _ _ (hK _ _ rfl hbW)
          · refine wpOp_step rfl (fun K' hK' => ?_)
            go_simp
            exact hK' _ _ (hK _ _ rfl (Below.refl _ _))
          · have e2 := hd 2 (by kernel_rfl)
            simp only [MacedF] at e2
            simp only [e2] at hK ⊢
            refine wpOp_step rfl (fun K' hK' => ?_)
            go_simp
            exact hK' _ _ (hK _ _ rfl (Below.refl _ _))
          · have e1 := hd 1 (by kernel_rfl)
            have e3 := hd 3 (by kernel_rfl)
            simp only [MacedF] at e1 e3
            simp only [e1, e3] at hK ⊢
            refine wpOp_step rfl (fun K' hK' => ?_)
            go_simp
            exact hK' _ _ (hK _ _ rfl (Below.refl _ _))
          · have e4 := hd 4 (by kernel_rfl)
            simp only [MacedF] at e4
            simp only [e4] at hK ⊢
            obtain ⟨cap, W1, hcv, hBy, hbW, hc1, hc2⟩ := vX W
            refine wpOp_step rfl (fun K' hK' => ?_)
            go_simp
            exact hK' _ _ (hK _ _ ⟨_, cap, rfl, hBy, hc1, hc2⟩ hbW)
          · obtain ⟨g, cap, e5, hBy, hc1, hc2⟩ := hd 5 (by kernel_rfl)
            simp only [e5] at hK ⊢
            refine wpOp_step rfl (fun K' hK' => ?_)
            go_simp
            refine (cI W g cap hc1 hc2 hBy).mono ?_
            rintro e w' ⟨rfl, hbW⟩
            exact hK' _ _ (hK _ _ rfl hbW)
          · refine wpOp_step rfl (fun K' hK' => ?_)
            go_simp
            exact hK' _ _ (hK _ _ ⟨_, rfl, hc.size, bz W⟩ ((Below.refl _ _).alloc (Nat.le_refl _) _))
        case hdone =>
          intro vs a W3 ha hW3 hF
          have e0 := hF 0 (by decide)
          have e6 := hF 6 (by decide)
          obtain ⟨g, e7, hg, p3⟩ := hF 7 (by decide)
          simp only [MacedF] at e0 e6
          simp only [fillF, Act.put, List.take_succ_cons, List.take_zero, List.setIfInBounds_toArray, List.set_cons_zero, List.set_cons_succ] at ha
          subst ha
          simp only [e6, e7, List.drop_succ_cons, List.drop_zero]
          have B3 := k2.out.call hW3
          have K3 := k1.out.call hW3
          have m3 := hbr.trans (hW3.mono hbr.size)
          clear hF e0 e6 e7 HLD c1 cI vX
          go_upto_region 9 with (with_reducible refine wpList_store_blk rfl 33 (.tmp 8) (.tmp 30) rfl g 0 rfl _ _ p3 (u8s I) VI (by rw [← hVI]) rfl (by rw [sI, z32]; omega) (by rw [sI]; kernel_rfl) (u8s_one _) ?_; intro w4 hg4 hs4 hB4)
          rw [Nat.zero_add, List.take_zero, List.nil_append, List.drop_of_length_le (by rw [sI, z32]; exact Nat.le_refl _), List.append_nil] at hB4
          have hlt2 : w.heap.size < wr.heap.size := by omega
          have B4 := B3.same (hg4.block w.heap.size B3.lt (by simp; omega))
          have K4 := K3.same (hg4.block (w.heap.size + 1) K3.lt (by simp; omega))
          have m4 : Below w.heap.size w w4 := m3.grown hg4 m3.size (fun k h => by cases h; omega)
          have hld : ∀ W, Below w4.heap.size w4 W → W.cell? ⟨w.heap.size + 1, 0, none⟩ = some (.string SK2) ∧ (convert 27 9 (.slice (some ⟨g, 0, none⟩) 32 32)).run Tryd.prog W = .ok (.string SI) W ∧ w.heap.size + 1 < W.heap.size := fun W hW => ⟨(K4.call hW).cell (j := 0) rfl, by have := bytes_string (cap := 32) (bytes_of_blk (hB4.call hW)); rw [hsI] at this; rw [← hSI]; exact this, Nat.lt_of_lt_of_le K4.lt hW.size⟩
          have HLD := Lib.hid hld
          clear hld B3 K3 p3 hg4 hs4 m3 hW3
          refine wp_region_det 5 (by kernel_rfl) (by kernel_rfl) (by kernel_rfl) ?_
          simp only [List.take_succ_cons, List.take_zero, List.drop_succ_cons, List.drop_zero]
          repeat (first
            | (apply wpDet_plain _ rfl; (focus (intro W hW; obtain ⟨q1, q2, q3⟩ := HLD.out W hW; go_simp; exact ⟨rfl, Below.refl _ _⟩)); simp only [Act.put, List.setIfInBounds_toArray, List.set_cons_zero, List.set_cons_succ])
            | (apply wpDet_plain _ rfl; (focus (intro W hW; obtain ⟨q1, q2, q3⟩ := HLD.out W hW; go_simp; refine (c2 _ W q1 q3).mono ?_; rintro e w' ⟨rfl, hb⟩; exact ⟨rfl, hb⟩)); simp only [Act.put, List.setIfInBounds_toArray, List.set_cons_zero, List.set_cons_succ]))
          refine wpDet_nil ?_
          intro W8 hW8
          have B8 := B4.call hW8
          have m8 := m4.trans (hW8.mono m4.size)
          obtain ⟨cap, W9, hcv, hBy, hb9, hc1, hc2⟩ := vY W8
          have B9 := B8.call hb9
          have m9 := below_step m8 m8.size hb9
          clear B4 m4 hW8 HLD c2
          go_wp2_with (first
            | (go_at_call 20; refine (cO _ _ _ hc1 hc2 hBy).mono ?_; rintro e wA ⟨rfl, kA⟩; have BA := B9.call kA; have mA := below_step m9 m9.size kA; clear cO)
            | (with_reducible refine wpList_store_blk rfl 33 (.tmp 4) (.tmp 37) rfl w.heap.size 0 rfl _ _ BA (u8s O) VO (by rw [← hVO]) rfl (by rw [sO, z32]; omega) (by rw [sO]; kernel_rfl) (u8s_one _) ?_; intro x3 hg7 hs7 hB7))
          refine bodyPost_ret (results_arr rfl _ _ w.heap.size (u8s O) rfl ?_ rfl rfl (by rw [sO]; kernel_rfl)) rfl ⟨by rw [hVO], ?_⟩
          · rw [Nat.zero_add, List.take_zero, List.nil_append, List.drop_of_length_le (by rw [sO, z32]; exact Nat.le_refl _), List.append_nil] at hB7; exact hB7
          · exact mA.grown hg7 mA.size (fun k h => by cases h; exact Nat.le_refl _)
end Go.Proofs.YtjllecmlabodaaaDoor
