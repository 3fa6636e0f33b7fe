/-
  CONTRACTS of the reference's big of any size, ended, Ended, Summed.
  CONDITIONS: each theorem's own hypotheses.
-/
import Derived.Test.YtmldhnghfdhjmaaDoorRefAdd2
import Derived.Test.YtmldhnghfdhjmaaDoorBigK
namespace Go.Proofs.YtmldhnghfdhjmaaDoor
open Go.RowKit CodeMath
set_option linter.unusedVariables false
set_option maxRecDepth 100000

/-- The bytes of the first words. -/
def bytesN (g : ShaMath.St) (i : Nat) : List UInt8 := ((lst g).take i).flatMap fun x => be (x : Nat) 4
theorem bytesN_succ (g : ShaMath.St) (i : Nat) (hi : i < 8) : bytesN g i ++ be ((lst g).getD i 0 : Nat) 4 = bytesN g (i + 1) := by
  rcases (show i = 0 ∨ i = 1 ∨ i = 2 ∨ i = 3 ∨ i = 4 ∨ i = 5 ∨ i = 6 ∨ i = 7 by omega) with rfl | rfl | rfl | rfl | rfl | rfl | rfl | rfl <;> simp [bytesN, lst]
theorem bytesN_end (g : ShaMath.St) : bytesN g 8 = g.bytes := by simp [bytesN, lst, ShaMath.St.bytes]
theorem bytesN_length (g : ShaMath.St) (i : Nat) : (bytesN g i).length ≤ 32 := by
  unfold bytesN
  rw [List.length_flatMap]
  simp only [be_length]
  rw [List.map_const', List.sum_replicate_nat, List.length_take, lst_length]
  omega
theorem lst_lt (g : ShaMath.St) (o : Ok8 g) (i : Nat) (hi : i < 8) : (lst g).getD i 0 < 4294967296 := by
  rcases (show i = 0 ∨ i = 1 ∨ i = 2 ∨ i = 3 ∨ i = 4 ∨ i = 5 ∨ i = 6 ∨ i = 7 by omega) with rfl | rfl | rfl | rfl | rfl | rfl | rfl | rfl
  · exact o.p
  · exact o.q
  · exact o.r
  · exact o.s
  · exact o.t
  · exact o.u
  · exact o.v
  · exact o.x
def padL (m : List UInt8) (j : Nat) : List UInt8 := m ++ 128 :: List.replicate j 0
theorem padL_length (m : List UInt8) (j : Nat) : (padL m j).length = m.length + 1 + j := by simp [padL]; omega
theorem padL_succ (m : List UInt8) (j : Nat) : padL m j ++ [0] = padL m (j + 1) := by
  unfold padL
  rw [List.append_assoc, List.cons_append, ← List.replicate_succ']
set_option maxRecDepth 100000 in
set_option maxHeartbeats 4000000 in
theorem ended_any (s : Stm) (f : s.Fit) (hg : s.good = true) (w : World) :
    Calls Tryd.prog 51 #[.agg s.cells.toArray] w fun e w' => e = .returned (.agg (u8s (ShaMath.fin s.h (s.held.take s.n.toNat) s.len.toNat)).toArray) ∧ Below w.heap.size w w' := by
  obtain ⟨A, hA⟩ : ∃ A, s.cells.toArray = A := ⟨_, rfl⟩
  have hc74 := Stm.cells_length _ f.held
  obtain ⟨ga, gb, gc, -⟩ := good_facts s hg
  have hk0 : s.n = ((s.n.toNat : Nat) : Int) := by omega
  have cH := fun W => heldOf_any s f s.n.toNat hk0 (by omega) W
  have hml : (s.held.take s.n.toNat).length < 64 := by rw [List.length_take]; omega
  have hmm : (s.held.take s.n.toNat).length = s.len.toNat % 64 := by rw [List.length_take, f.held]; omega
  rw [hA] at cH
  rw [hA]
  generalize s.held.take s.n.toNat = m at cH hml hmm ⊢
  obtain ⟨Nn, hNn⟩ : ∃ Nn, ShaMath.noughts s.len.toNat = Nn := ⟨_, rfl⟩
  have hNn' : Nn = (119 - m.length) % 64 := by rw [← hNn, hmm]; unfold ShaMath.noughts; rfl
  have hfin : ShaMath.fin s.h m s.len.toNat = (ShaMath.run ShaMath.blk s.h (padL m Nn ++ be (s.len * 8) 8)).bytes := by
    have e8 : ((s.len.toNat * 8 : Nat) : Int) = s.len * 8 := by omega
    unfold ShaMath.fin ShaMath.pad padL
    rw [hNn, e8]
    simp
  rw [hfin]
  obtain ⟨N8, hN8⟩ : ∃ N8, s.len * 8 = N8 := ⟨_, rfl⟩
  rw [hN8]
  have n80 : 0 ≤ N8 := by omega
  have n81 : N8 ≤ 18446744073709551615 := by omega
  have hw1 : IntKind.u64.wrap s.len = s.len := by rw [IntKind.wrap_u64]; omega
  have hw2 : IntKind.u64.wrap (s.len * 8) = N8 := by rw [IntKind.wrap_u64]; omega
  have cBig := fun W => big_k N8 8 8 rfl W n80 n81 (by decide)
  have hpl := padL_length m Nn
  have hal : (padL m Nn ++ be N8 8).length = m.length + 1 + Nn + 8 := by rw [List.length_append, hpl, be_length]
  have cB := fun W => blocks_any s.h f.h (padL m Nn ++ be N8 8) W (by omega)
  have og : Ok8 (ShaMath.run ShaMath.blk s.h (padL m Nn ++ be N8 8)) := run_ok _ _ _ f.h
  have happ : str (padL m Nn) ++ str (be N8 8) = str (padL m Nn ++ be N8 8) := str_append _ _
  have hszc : ¬ 9223372036854775807 < (str (padL m Nn)).size + (str (be N8 8)).size := by rw [str_size, str_size, hpl, be_length]; omega
  generalize ShaMath.run ShaMath.blk s.h (padL m Nn ++ be N8 8) = g2 at cB og ⊢
  generalize str (padL m Nn ++ be N8 8) = SA at cB happ
  obtain ⟨SP, hSP⟩ : ∃ SP, str (padL m Nn) = SP := ⟨_, rfl⟩
  rw [hSP] at happ hszc
  generalize str (be N8 8) = SB at cBig happ hszc
  have hs0 : str m ++ (⟨#[128]⟩ : ByteArray) = str (padL m 0) := by rw [show (⟨#[128]⟩ : ByteArray) = str [128] from rfl, str_append]; rfl
  have hsz0 : ¬ 9223372036854775807 < (str m).size + 1 := by rw [str_size]; omega
  obtain ⟨S0, hS0⟩ : ∃ S0, str (padL m 0) = S0 := ⟨_, rfl⟩
  rw [hS0] at hs0
  generalize str m = SM at cH hs0 hsz0
  obtain ⟨G1, hG1⟩ : ∃ G1, (u32s (lst s.h)).toArray = G1 := ⟨_, rfl⟩
  obtain ⟨G2, hG2⟩ : ∃ G2, (u32s (lst g2)).toArray = G2 := ⟨_, rfl⟩
  rw [hG1, hG2] at cB
  have hq2 : ∀ W, Blk W w.heap.size 78 s.cells → (Instr.loadAt 75 (.pointer (some ⟨w.heap.size, 0, none⟩))).run Tryd.prog W = .ok (.agg G1) W ∧ W.cell? ⟨w.heap.size, 73, none⟩ = some (.int .i64 s.len) := fun W hB => by
    refine ⟨?_, hB.cell (Stm.get_len _ f.held)⟩
    have := load_arr (T := 75) (d := .array 8 74) hB 0 8 (by rw [hc74]; omega) rfl rfl (by kernel_rfl)
    rw [Stm.get_h, hG1] at this
    exact this
  have HQ2 := Lib.hid hq2
  have HS0 := Lib.hid hS0
  have HSP := Lib.hid hSP
  have HNN := Lib.hid hNn'
  clear hq2 hS0 hSP hfin hNn hNn' hN8 hmm hal hpl gc hk0
  go_enter Tryd.func51, Tryd.ntmps51
  go_upto_region 1 with fail
  refine wp_gen (fun W => Blk W w.heap.size 78 s.cells ∧ Blk W (w.heap.size + 1) 51 (u8s (List.replicate 32 0)) ∧ Below w.heap.size w W) ?_ ?_
  · refine ⟨?_, Blk.atNew _ _ (by simp), ((Below.refl _ _).alloc (Nat.le_refl _) _).alloc (by simp) _⟩
    rw [← hA]
    exact (Blk.new w s.cells.toArray 78).alloc _
  rintro W ⟨b1, b2, hbw⟩
  have e1 : ((s.cells.drop 0).take 74).toArray = A := by rw [List.drop_zero, List.take_of_length_le (by omega)]; exact hA
  go_wp2_with (first
    | (with_reducible refine wpList_load_blk rfl 78 (.tmp 1) rfl w.heap.size 0 74 rfl _ _ b1 (by rw [hc74]; omega) A e1 _ rfl rfl (by kernel_rfl) ?_)
    | (go_at_call 67; refine (cH _).mono ?_; rintro e w4 ⟨rfl, k1⟩; have B1 := b1.call k1; have B2 := b2.call k1; have m4 := below_step hbw hbw.size k1; clear cH))
  clear b1 b2 hbw k1 e1 hs0 hsz0
  have H1 := Lib.hid B1
  have H2 := Lib.hid B2
  clear B1 B2
  go_loopw [3] (fun t wr => ∃ j : Nat, j ≤ Nn ∧ t = .string (str (padL m j)) ∧ wr = w4) (fun t _ => Nn + m.length + 1 - sizeS t)
  case atStart => exact ⟨0, Nat.zero_le _, by rw [HS0.out], rfl⟩
  case round =>
    obtain ⟨j, hj, rfl, rfl⟩ := hrel
    have hsz := str_size (padL m j)
    rw [padL_length] at hsz
    have hsp := padL_succ m j
    have happ0 : str (padL m j) ++ (⟨#[0]⟩ : ByteArray) = str (padL m (j + 1)) := by rw [show (⟨#[0]⟩ : ByteArray) = str [0] from rfl, str_append, hsp]
    have hszz : ¬ 9223372036854775807 < (str (padL m j)).size + 1 := by rw [hsz]; have := HNN.out; omega
    by_cases hlt : j < Nn
    · have hne : (((str (padL m j)).size : Int) % 64 != 56) = true := by
        rw [hsz]
        have := HNN.out
        simp only [bne_iff_ne, ne_eq]
        omega
      have hm1 : (str (padL m (j + 1))).size = m.length + 1 + (j + 1) := by rw [str_size, padL_length]
      have hI : ((str (padL m j)).size : Int) ≤ 1000 := by rw [hsz]; have := HNN.out; omega
      obtain ⟨S, hS⟩ : ∃ S, str (padL m j) = S := ⟨_, rfl⟩
      obtain ⟨S', hS'⟩ : ∃ S', str (padL m (j + 1)) = S' := ⟨_, rfl⟩
      rw [hS] at happ0 hszz hne hI hsz ⊢
      rw [hS'] at happ0 hm1
      have HSS := Lib.hid hS'
      have HSZ := Lib.hid hsz
      have HM1 := Lib.hid hm1
      clear hS hS' hsp hsz hm1
      go_wp2
      go_roundw
      case rel => exact ⟨j + 1, by omega, by rw [HSS.out], trivial⟩
      case measure => show Nn + m.length + 1 - S'.size < Nn + m.length + 1 - S.size; rw [HSZ.out, HM1.out]; omega
    · have hje : j = Nn := by omega
      have hne : (((str (padL m j)).size : Int) % 64 != 56) = false := by
        rw [hsz]
        have := HNN.out
        simp only [bne_eq_false_iff_eq]
        omega
      have hI : ((str (padL m j)).size : Int) ≤ 1000 := by rw [hsz]; have := HNN.out; omega
      rw [hje, HSP.out] at hne hI
      rw [hje, HSP.out]
      clear hje hlt hsz hsp happ0 hszz
      go_upto_region 4 with fail
      have hld : ∀ W, Below wr.heap.size wr W → (Instr.loadAt 75 (.pointer (some ⟨w.heap.size, 0, none⟩))).run Tryd.prog W = .ok (.agg G1) W ∧ W.cell? ⟨w.heap.size, 73, none⟩ = some (.int .i64 s.len) := fun W hW => HQ2.out W (H1.out.call hW)
      have HLD := Lib.hid hld
      clear hld HQ2
      refine wp_region_new 10 _ rfl rfl (fun v W => ∃ g, v = .pointer (some ⟨g, 0, none⟩) ∧ wr.heap.size ≤ g ∧ Blk W g 75 (u32s (List.replicate 8 0))) (fun v W W' ⟨g, h1, h2, h3⟩ hb => ⟨g, h1, h2, h3.call hb⟩) (by kernel_rfl) (by kernel_rfl) (by kernel_rfl) ?_
      simp only [List.take_succ_cons, List.take_zero, List.drop_succ_cons, List.drop_zero]
      repeat (first
        | (apply wpDet_plain _ rfl; (focus (intro W hW; exact detV_load 75 (.tmp 19) rfl (HLD.out W hW).1)); simp only [Act.put, List.setIfInBounds_toArray, List.set_cons_zero, List.set_cons_succ])
        | (apply wpDet_plain _ rfl; (focus (intro W hW; go_simp; refine (cBig W).mono ?_; rintro e w' ⟨rfl, hb⟩; exact ⟨rfl, hb⟩)); simp only [Act.put, List.setIfInBounds_toArray, List.set_cons_zero, List.set_cons_succ])
        | (apply wpDet_plain _ rfl; (focus (intro W hW; go_simp; refine (cB W).mono ?_; rintro e w' ⟨rfl, hb⟩; exact ⟨rfl, hb⟩)); simp only [Act.put, List.setIfInBounds_toArray, List.set_cons_zero, List.set_cons_succ])
        | (apply wpDet_plain _ rfl; (focus (intro W hW; have q1 := (HLD.out W hW).2; go_simp; exact ⟨rfl, Below.refl _ _⟩)); simp only [Act.put, List.setIfInBounds_toArray, List.set_cons_zero, List.set_cons_succ]))
      refine wpDet_nil ?_
      refine ⟨?_, ?_⟩
      · intro W hW
        go_simp
        exact ⟨⟨hW.size, Blk.new W _ _⟩, (Below.refl _ _).alloc (Nat.le_refl _) _⟩
      rintro v W6 hW6 ⟨g, rfl, hg5, k3⟩
      have B26 := H2.out.call hW6
      have m6 := m4.trans (hW6.mono m4.size)
      have hAg : w.heap.size + 1 < g := Nat.lt_of_lt_of_le H2.out.lt hg5
      clear H1 H2 hW6 hg5 cB cBig happ hszc m4 HLD
      have h8 : (u32s (lst g2)).length = 8 := rfl
      have h8' : (u32s (List.replicate 8 0)).length = 8 := rfl
      go_upto_region 5 with (with_reducible refine wpList_store_blk rfl 75 (.tmp 4) (.tmp 28) rfl g 0 rfl _ _ k3 (u32s (lst g2)) G2 (by rw [← hG2]) rfl (by rw [h8, h8']; omega) (by rw [h8]; kernel_rfl) (u32s_one _) ?_; intro w7 hg7 hs7 hB7)
      have B27 := B26.same (hg7.block (w.heap.size + 1) B26.lt (by simp; omega))
      have m7 : Below w.heap.size w w7 := m6.grown hg7 m6.size (fun k h => by cases h; omega)
      have hB8 : Blk w7 g 75 (u32s (lst g2)) := hB7
      have eG : (((u32s (lst g2)).drop 0).take 8).toArray = G2 := by rw [← hG2]; rfl
      clear B26 m6 k3 hB7 hg7 hs7
      go_wp2_with (with_reducible refine wpList_load_blk rfl 75 (.tmp 4) rfl g 0 8 rfl _ _ hB8 (by rw [h8]; omega) G2 eG _ rfl rfl (by kernel_rfl) ?_)
      go_loopw [5, 30] (fun t ix wr => ∃ i : Nat, i ≤ 8 ∧ ix = .int .i64 i ∧ t = .string (str (bytesN g2 i)) ∧ Below w7.heap.size w7 wr) (fun _ ix _ => 8 - (intOf ix).toNat)
      case atStart => exact ⟨0, by omega, rfl, rfl, Below.refl _ _⟩
      case round =>
        obtain ⟨i, hi, rfl, rfl, hbr⟩ := hrel
        by_cases h8i : i < 8
        · have iI : (i : Int) < 8 := by omega
          have hidx := fun W => run_index_u32s (t := 75) rfl (lst g2) rfl i _ (lst_get g2 i h8i) W
          rw [hG2] at hidx
          have hxl := lst_lt g2 og i h8i
          have hsn := bytesN_succ g2 i h8i
          have hln := bytesN_length g2 i
          obtain ⟨x, hx⟩ : ∃ x, (lst g2).getD i 0 = x := ⟨_, rfl⟩
          rw [hx] at hidx hxl hsn
          have hwx : IntKind.u64.wrap (x : Int) = (x : Int) := by rw [IntKind.wrap_u64]; omega
          have cb := fun W => big_k (x : Int) 4 4 rfl W (by omega) (by omega) (by decide)
          have happ : str (bytesN g2 i) ++ str (be (x : Int) 4) = str (bytesN g2 (i + 1)) := by rw [str_append, hsn]
          have hszz : ¬ 9223372036854775807 < (str (bytesN g2 i)).size + (str (be (x : Int) 4)).size := by rw [str_size, str_size, be_length]; omega
          have xI : (x : Int) < 4294967296 := by omega
          obtain ⟨S, hS⟩ : ∃ S, str (bytesN g2 i) = S := ⟨_, rfl⟩
          obtain ⟨S', hS'⟩ : ∃ S', str (bytesN g2 (i + 1)) = S' := ⟨_, rfl⟩
          rw [hS] at happ hszz ⊢
          rw [hS'] at happ
          generalize str (be (x : Int) 4) = T at cb happ hszz
          have HSS := Lib.hid hS'
          clear hS hS' hx hsn hln
          go_wp2_with (go_at_call 35; refine (cb _).mono ?_; rintro e w8 ⟨rfl, hb8⟩)
          go_roundw
          case rel => exact ⟨i + 1, by omega, by go_num, by rw [HSS.out], hbr.trans (hb8.mono hbr.size)⟩
          case measure => simp [intOf]; omega
        · have iI : ¬ ((i : Int) < 8) := by omega
          have hie : i = 8 := by omega
          have hbe : str (bytesN g2 i) = str g2.bytes := by rw [hie, bytesN_end]
          rw [hbe]
          have B28 := B27.call hbr
          have m8 := m7.trans (hbr.mono m7.size)
          have hgl : g2.bytes.length = 32 := ShaMath.St.bytes_length _
          have hsg : (str g2.bytes).size = 32 := by rw [str_size, hgl]
          obtain ⟨Sg, hSg⟩ : ∃ S, str g2.bytes = S := ⟨_, rfl⟩
          rw [hSg] at hsg ⊢
          have hget : ∀ j (h : j < Sg.size) (h' : j < g2.bytes.length), Sg[j] = g2.bytes[j] := by subst hSg; exact fun j h h' => rfl
          have HGET := Lib.hid hget
          have HSG := Lib.hid hsg
          obtain ⟨Z, hZ⟩ : ∃ Z, (u8s (List.replicate 32 0)).toArray = Z := ⟨_, rfl⟩
          have z33 : ∀ W, (zeroValue 51).run Tryd.prog W = .ok (.agg Z) W := fun W => by rw [← hZ]; kernel_rfl
          have bn : Blk (wr.alloc (.cells Z 51)) wr.heap.size 51 (u8s (List.replicate 32 0)) := by rw [← hZ]; exact Blk.new wr _ _
          have hlt8 : w.heap.size + 1 < wr.heap.size := B28.lt
          have B29 := B28.alloc (.cells Z 51)
          have m9 := m8.alloc m8.size (.cells Z 51)
          clear hie hbe h8i hSg hget hsg hZ B28 m8 B27 m7 hbr hB8 eG
          go_upto_region 12 with fail
          rw [show List.replicate 32 (0 : UInt8) = fillZ g2.bytes 0 by rw [fillZ_zero, hgl]] at bn
          have hz0 : (fillZ g2.bytes 0) = List.replicate 32 0 := by rw [fillZ_zero, hgl]
          refine wp_gen (fun W => Hid (Blk W wr.heap.size 51 (u8s (fillZ g2.bytes 0))) ∧ Hid (Blk W (w.heap.size + 1) 51 (u8s (List.replicate 32 0))) ∧ Below w.heap.size w W) ⟨bn, by rw [← hz0]; rw [hz0]; exact B29, m9⟩ ?_
          generalize wr.heap.size = A6 at hlt8 ⊢
          rintro W9 ⟨K1, K2, KB⟩
          clear bn B29 m9 z33
          go_wp2_with fail
          go_loopw [39] (fun ix wr => ∃ i : Nat, i ≤ 32 ∧ ix = .int .i64 i ∧ Hid (Blk wr A6 51 (u8s (fillZ g2.bytes i))) ∧ Hid (Blk wr (w.heap.size + 1) 51 (u8s (List.replicate 32 0))) ∧ Below w.heap.size w wr) (fun ix _ => 32 - (intOf ix).toNat)
          case atStart => exact ⟨0, by omega, rfl, K1, K2, KB⟩
          case round =>
            obtain ⟨i, hi, rfl, k1, k2, hbr⟩ := hrel
            by_cases h32 : i < 32
            · have iI : (i : Int) < 32 := by omega
              have hSi : i < Sg.size := by rw [HSG.out]; exact h32
              have hge := HGET.out i hSi (by omega)
              have hri : g2.bytes[i]? = some Sg[i] := by rw [hge]; exact List.getElem?_eq_getElem (by omega)
              obtain ⟨c0, hc0⟩ := fillZ_some g2.bytes i (by omega)
              have hu := k1.out.cell (u8s_get hc0)
              have fu := k1.out.free i
              have hst := k1.out.set i (.int .u8 (Sg[i].toNat : Nat))
              rw [u8s_set, fillZ_set _ _ _ hri] at hst
              have hot := k2.out.other ⟨A6, i, none⟩ (.int .u8 (Sg[i].toNat : Nat)) (show w.heap.size + 1 ≠ A6 by omega)
              have hbs := hbr.setCell (p := ⟨A6, i, none⟩) (show w.heap.size ≤ A6 by omega) (.int .u8 (Sg[i].toNat : Nat))
              have J1 := Lib.hid hst
              have J2 := Lib.hid hot
              clear hge hri hst hot k1 k2 K1 K2 KB hc0
              go_wp2_with fail
              go_roundw
              case rel => exact ⟨i + 1, by omega, by go_num, J1, J2, hbs⟩
              case measure => simp [intOf]; omega
            · have iI : ¬ ((i : Int) < 32) := by omega
              have hie : i = g2.bytes.length := by omega
              rw [hie, fillZ_end] at k1
              have k1' := k1.out
              have k2' := k2.out
              have sz : (u8s g2.bytes).length = 32 := by rw [u8s_length, hgl]
              have sz' : (u8s (List.replicate 32 0)).length = 32 := by rw [u8s_length, List.length_replicate]
              obtain ⟨V, hV⟩ : ∃ V, (u8s g2.bytes).toArray = V := ⟨_, rfl⟩
              have eV : (((u8s g2.bytes).drop 0).take 32).toArray = V := by rw [List.drop_zero, List.take_of_length_le (by rw [sz]; exact Nat.le_refl _)]; exact hV
              clear hie h32 k1 k2 K1 K2 KB
              go_wp2_with (first
                | (with_reducible refine wpList_load_blk rfl 51 (.tmp 8) rfl A6 0 32 rfl _ _ k1' (by rw [sz]; omega) V eV _ rfl rfl (by kernel_rfl) ?_)
                | (with_reducible refine wpList_store_blk rfl 51 (.tmp 2) (.tmp 48) rfl (w.heap.size + 1) 0 rfl _ _ k2' (u8s g2.bytes) V (by rw [← hV]) rfl (by rw [sz, sz']; omega) (by rw [sz]; kernel_rfl) (u8s_one _) ?_; intro x3 hg7 hs7 hB7))
              refine bodyPost_ret (results_arr rfl _ _ (w.heap.size + 1) (u8s g2.bytes) rfl ?_ rfl rfl (by rw [sz]; kernel_rfl)) rfl ⟨by rw [hV], ?_⟩
              · rw [Nat.zero_add, List.take_zero, List.nil_append, List.drop_of_length_le (by rw [sz, sz']; exact Nat.le_refl _), List.append_nil] at hB7; exact hB7
              · exact hbr.grown hg7 hbr.size (fun k h => by cases h; exact Nat.le_succ _)
end Go.Proofs.YtmldhnghfdhjmaaDoor
