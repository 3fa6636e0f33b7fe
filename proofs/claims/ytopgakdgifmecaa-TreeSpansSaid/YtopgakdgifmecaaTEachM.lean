/-
  CONTRACT of package tree's each, with the visitor of List: the whole tree.
  CONDITIONS: each theorem's own hypotheses.
-/
import Derived.Test.YtopgakdgifmecaaTEachL
import Derived.Test.YtopgakdgifmecaaTOrd
namespace Go.Proofs.Ytopgakdgifmecaa
open Go.RowKit
set_option linter.unusedVariables false
set_option maxRecDepth 100000

set_option maxHeartbeats 16000000 in
theorem each_list (w0 : World) (A B : List UInt8) (gf gt : Nat) (hgf : Blk w0 gf 9 [.string (str A)]) (hgt : Blk w0 gt 9 [.string (str B)]) : ∀ (n : Nat) (t : Tr) (p : Nat) (F : List Nat), NdT w0 t p F → fitT t → (∀ e ∈ flatT t, e.1.length ≤ 1000000) → htT t < n → ∀ (acc : List En) (Ws : World), PrSt A B w0 Ws w0.heap.size acc → acc.length + (flatT t).length ≤ 1000 →
    Calls Try.prog 36 #[.pointer (some ⟨p, 0, none⟩), .func (.func 37) #[] #[.pointer (some ⟨gf, 0, none⟩), .pointer (some ⟨gt, 0, none⟩), .pointer (some ⟨w0.heap.size, 0, none⟩)]] Ws fun x w' => x = .returned (.tuple #[]) ∧ PrSt A B w0 w' w0.heap.size (acc ++ (flatT t)) ∧ Mov w0.heap.size Ws w' := by
  have HGF := Lib.hid hgf
  have HGT := Lib.hid hgt
  clear hgf hgt
  intro n
  induction n with
  | zero => intro t p F _ _ _ h; omega
  | succ n ih =>
    intro t p F h hfit hkl ht acc Ws hS hlen
    cases t with
    | mk es ks =>
    obtain ⟨ae, ak, ce, ck, hB, hp, hc1, hc2, hE, hK⟩ := h.open
    simp only [fitT] at hfit
    obtain ⟨hsh, hfits⟩ := hfit
    have hes : ∀ e ∈ es, e.1.length ≤ 1000000 := fun e he => hkl e (by simp only [flatT]; exact (inter_sub es (flatL ks)).subset he)
    have hks : ∀ k ∈ ks, ∀ e ∈ flatT k, e.1.length ≤ 1000000 := fun k hk e he => hkl e (by
      simp only [flatT]
      refine (inter_kid es (flatL ks) (flatT k) ?_ ?_).subset he
      · rw [flatL_map, List.length_map]
        rcases hsh with h | h
        · rw [h] at hk; simp at hk
        · omega
      · rw [flatL_map]; exact List.mem_map.2 ⟨k, hk, rfl⟩)
    have HES := Lib.hid hes
    have hleaf : ∀ W, Below w0.heap.size w0 W → Calls Try.prog 47 #[.pointer (some ⟨p, 0, none⟩)] W fun e w' => e = .returned (.bool (ks.length == 0)) ∧ w' = W := fun W hW => leaf_any p ae ak es.length ks.length ce ck W (hB.keep hW hp)
    have hnode : ∀ W, Below w0.heap.size w0 W → W.cell? ⟨p, 0, none⟩ = some (.slice ae es.length ce) ∧ W.cell? ⟨p, 1, none⟩ = some (.slice ak ks.length ck) := fun W hW => ⟨(hB.keep hW hp).cell (j := 0) rfl, (hB.keep hW hp).cell (j := 1) rfl⟩
    have hent : ∀ j, j < es.length → ∃ key x eb, es[j]? = some (key, x) ∧ ae = some ⟨eb, 0, none⟩ ∧ eb < w0.heap.size ∧ w0.cell? ⟨eb, j * 2, none⟩ = some (.string (str key)) ∧ w0.cell? ⟨eb, j * 2 + 1, none⟩ = some (.int .i64 x) := fun j hj => by
      have hx : es[j]? = some es[j] := List.getElem?_eq_getElem hj
      obtain ⟨b, h1, h2, -, h3, h4⟩ := hE.cell hx
      exact ⟨es[j].1, es[j].2, b, hx, h1, h2, h3, h4⟩
    have hkid : ∀ j, j < ks.length → ∃ k b q, ks[j]? = some k ∧ ak = some ⟨b, 0, none⟩ ∧ b < w0.heap.size ∧ w0.cell? ⟨b, j, none⟩ = some (.pointer (some ⟨q, 0, none⟩)) ∧ ∀ acc W, PrSt A B w0 W w0.heap.size acc → acc.length + (flatT k).length ≤ 1000 → Calls Try.prog 36 #[.pointer (some ⟨q, 0, none⟩), .func (.func 37) #[] #[.pointer (some ⟨gf, 0, none⟩), .pointer (some ⟨gt, 0, none⟩), .pointer (some ⟨w0.heap.size, 0, none⟩)]] W fun x w' => x = .returned (.tuple #[]) ∧ PrSt A B w0 w' w0.heap.size (acc ++ flatT k) ∧ Mov w0.heap.size W w' := fun j hj => by
      have hx : ks[j]? = some ks[j] := List.getElem?_eq_getElem hj
      obtain ⟨b, q, G, h1, h2, h3, h4⟩ := hK j _ hx
      refine ⟨ks[j], b, q, hx, h1, h2, h3, fun acc W hS hl => ih ks[j] q G h4 (fit_mem hfits (List.getElem_mem hj)) (hks _ (List.getElem_mem hj)) ?_ acc W hS hl⟩
      have := ht_mem (List.getElem_mem hj)
      simp only [htT] at ht
      omega
    obtain ⟨FULL, hFULL⟩ : ∃ l, acc ++ (flatT (.mk es ks)) = l := ⟨_, rfl⟩
    have HFL : Hid (FULL.length ≤ 1000) := Lib.hid (by rw [← hFULL, List.length_append]; exact hlen)
    rw [hFULL]
    have hg0 : w0.heap.size < Ws.heap.size := Nat.lt_of_succ_le hS.size
    have d0 := (hnode Ws hS.low).1
    have d1 := (hnode Ws hS.low).2
    have hE2 : es.length ≤ 9223372036854775806 := by
      have h1 : es.length ≤ 1000 := by
        have h2 : es.length ≤ (flatT (.mk es ks)).length := by
          simp only [flatT]
          exact inter_len es (flatL ks)
        omega
      omega
    obtain ⟨g, hgw⟩ : ∃ g, w0.heap.size = g := ⟨_, rfl⟩
    have HGW := Lib.hid hgw
    clear hkl hes hks
    rw [hgw] at hleaf hnode hent hkid hS hg0 ⊢
    have HS0 := Lib.hid hS
    have HM0 : Hid (Mov g Ws Ws) := Lib.hid (Mov.below (Below.refl _ _) hg0)
    have HNODE := Lib.hid hnode
    rcases hsh with rfl | hsh
    · have HEQ0 : Hid (acc ++ (es.drop 0) = FULL) := Lib.hid (by rw [List.drop_zero, ← hFULL]; simp only [flatT, flatL]; cases es <;> rfl)
      have hleaf' : ∀ W, Below g w0 W → Calls Try.prog 47 #[.pointer (some ⟨p, 0, none⟩)] W fun e w' => e = .returned (.bool true) ∧ w' = W := hleaf
      have CLEAF := Lib.hid hleaf'
      obtain ⟨E, hEl⟩ : ∃ E, es.length = E := ⟨_, rfl⟩
      rw [hEl] at hent hE2 HNODE d0
      have HENT := Lib.hid hent
      have HEL := Lib.hid hEl
      clear hB hE hK hkid hent hnode hleaf hleaf' h hfits ht ih hFULL hlen hc1 hc2 hp hS hg0 hgw hEl
      go_enter Try.func36, Try.ntmps36
      go_wp2_with fail
      go_loopw [11] (fun ix wr => ∃ (j : Nat) (acc' : List En), j ≤ E ∧ ix = .int .i64 j ∧ Hid (PrSt A B w0 wr g acc') ∧ Hid (acc' ++ (es.drop j) = FULL) ∧ Hid (Mov g Ws wr)) (fun ix _ => E - (intOf ix).toNat)
      case atStart => exact ⟨0, acc, Nat.zero_le _, rfl, HS0, HEQ0, HM0⟩
      case round =>
        obtain ⟨j, acc', hj, rfl, hS, hEQ, hM⟩ := hrel
        clear HS0 HEQ0 HM0 d0 d1
        by_cases hlt : j < E
        · have iI : (j : Int) < (E : Int) := by omega
          obtain ⟨key, x, eb, hej, rfl, heb, x0, x1⟩ := HENT.out j hlt
          have c0 := (hS.out.low.cell (p := ⟨eb, j * 2, none⟩) heb).trans x0
          have c1 := (hS.out.low.cell (p := ⟨eb, j * 2 + 1, none⟩) heb).trans x1
          have HK6 : Hid (key.length ≤ 1000000) := Lib.hid (HES.out _ (List.mem_of_getElem? hej))
          have he := hEQ.out
          rw [drop_at es j (key, x) hej] at he
          have hlen2 : acc'.length ≤ 1000 := by have h := congrArg List.length he; simp only [List.length_append, List.length_cons] at h; have := HFL.out; omega
          have HEQ2 : Hid (acc' ++ [(key, x)] ++ (es.drop (j + 1)) = FULL) := Lib.hid (by rw [← he, List.append_assoc]; rfl)
          have hzn : Blk _ _ _ [_, _] := Blk.new wr #[.string (str key), .int .i64 x] 73
          have hba := (Below.refl wr.heap.size wr).alloc (Nat.le_refl _) (.cells #[.string (str key), .int .i64 x] 73)
          have hSa := hS.out.below hba
          have hfre := hS.out.fresh hba
          have hgn : wr.heap.size ≠ g := by have := hS.out.size; omega
          have hMa := hM.out.trans (Mov.below hba (Nat.lt_of_succ_le hS.out.size))
          clear x0 x1 he hej hS hEQ hM
          go_upto_region 3 with fail
          generalize hwa : wr.alloc (.cells #[.string (str key), .int .i64 x] 73) = wa at *
          clear hwa c0 c1 hba
          generalize wr.heap.size = gn at *
          have p0 := hzn.cell (j := 0) rfl
          have p1 := hzn.cell (j := 1) rfl
          have cl := CLEAF.out wa hSa.low
          go_wp2_with fail
          refine cl.mono ?_
          rintro e wa ⟨rfl, rfl⟩
          clear cl
          have cV := visit_list A B gf gt HGF.out HGT.out wa g HGW.out acc' (key, x) hSa hlen2 HK6.out
          simp only at cV
          have HM3 := Lib.hid hMa
          clear hzn hSa hMa hfre
          go_wp2_with fail
          refine cV.mono ?_
          rintro e w3 ⟨rfl, hS3, hM3⟩
          clear cV p0 p1
          have HS3 := Lib.hid hS3
          have HM4 := Lib.hid (HM3.out.trans hM3)
          clear hS3 hM3 HM3 hlen2 hgn
          go_wp2_with fail
          go_roundw
          case rel => exact ⟨j + 1, _, by omega, by go_num, HS3, HEQ2, HM4⟩
          case measure => simp [intOf]; omega
        · have iI : ¬ (j : Int) < (E : Int) := by omega
          obtain rfl : j = E := by omega
          have he := hEQ.out
          rw [List.drop_of_length_le (Nat.le_of_eq HEL.out), List.append_nil] at he
          subst he
          have cl := CLEAF.out wr hS.out.low
          clear hEQ
          go_wp2_with fail
          refine cl.mono ?_
          rintro e wr ⟨rfl, rfl⟩
          clear cl
          go_wp2_with fail
          go_end0
          exact ⟨rfl, hS.out, hM.out⟩
    · have HEQ0 : Hid (acc ++ (interT (es.drop 0) ((flatL ks).drop 0)) = FULL) := Lib.hid (by rw [List.drop_zero, List.drop_zero, ← hFULL]; simp only [flatT])
      have hleaf' : ∀ W, Below g w0 W → Calls Try.prog 47 #[.pointer (some ⟨p, 0, none⟩)] W fun e w' => e = .returned (.bool false) ∧ w' = W := by
        rw [show (ks.length == 0) = false by rw [hsh]; rfl] at hleaf; exact hleaf
      have CLEAF := Lib.hid hleaf'
      have HSTEP : Hid (∀ j e k, es[j]? = some e → ks[j]? = some k → interT (es.drop j) ((flatL ks).drop j) = flatT k ++ e :: interT (es.drop (j + 1)) ((flatL ks).drop (j + 1))) := Lib.hid (inter_step es ks)
      have hlast := inter_last es ks
      obtain ⟨E, hEl⟩ : ∃ E, es.length = E := ⟨_, rfl⟩
      obtain ⟨C, hCl⟩ : ∃ C, ks.length = C := ⟨_, rfl⟩
      rw [hEl] at hent hE2 HNODE d0 hsh hlast
      rw [hCl] at hkid HNODE d1 hsh
      have HLAST := Lib.hid hlast
      have HENT := Lib.hid hent
      have HKID := Lib.hid hkid
      clear hB hE hK hkid hent hnode hleaf hleaf' h hfits ht ih hFULL hlen hc1 hc2 hp hS hg0 hgw hEl hCl hlast
      go_enter Try.func36, Try.ntmps36
      go_wp2_with fail
      go_loopw [11] (fun ix wr => ∃ (j : Nat) (acc' : List En), j ≤ E ∧ ix = .int .i64 j ∧ Hid (PrSt A B w0 wr g acc') ∧ Hid (acc' ++ (interT (es.drop j) ((flatL ks).drop j)) = FULL) ∧ Hid (Mov g Ws wr)) (fun ix _ => E - (intOf ix).toNat)
      case atStart => exact ⟨0, acc, Nat.zero_le _, rfl, HS0, HEQ0, HM0⟩
      case round =>
        obtain ⟨j, acc', hj, rfl, hS, hEQ, hM⟩ := hrel
        clear HS0 HEQ0 HM0 d0 d1
        by_cases hlt : j < E
        · have iI : (j : Int) < (E : Int) := by omega
          obtain ⟨key, x, eb, hej, rfl, heb, x0, x1⟩ := HENT.out j hlt
          have c0 := (hS.out.low.cell (p := ⟨eb, j * 2, none⟩) heb).trans x0
          have c1 := (hS.out.low.cell (p := ⟨eb, j * 2 + 1, none⟩) heb).trans x1
          obtain ⟨kq, b', q, hkj, rfl, hb', xk, cK⟩ := HKID.out j (by omega)
          have HK6 : Hid (key.length ≤ 1000000) := Lib.hid (HES.out _ (List.mem_of_getElem? hej))
          have hst := HSTEP.out j (key, x) kq hej hkj
          have he := hEQ.out
          rw [hst, ← List.append_assoc] at he
          have hlen : acc'.length + (flatT kq).length ≤ 1000 := by have h := congrArg List.length he; simp only [List.length_append, List.length_cons] at h; have := HFL.out; omega
          have hlen2 : (acc' ++ (flatT kq)).length ≤ 1000 := by rw [List.length_append]; exact hlen
          have HEQ2 : Hid ((acc' ++ (flatT kq)) ++ [(key, x)] ++ (interT (es.drop (j + 1)) ((flatL ks).drop (j + 1))) = FULL) := Lib.hid (by rw [← he, List.append_assoc _ [(key, x)]]; rfl)
          have hzn : Blk _ _ _ [_, _] := Blk.new wr #[.string (str key), .int .i64 x] 73
          have hba := (Below.refl wr.heap.size wr).alloc (Nat.le_refl _) (.cells #[.string (str key), .int .i64 x] 73)
          have hSa := hS.out.below hba
          have hfre := hS.out.fresh hba
          have hgn : wr.heap.size ≠ g := by have := hS.out.size; omega
          have hMa := hM.out.trans (Mov.below hba (Nat.lt_of_succ_le hS.out.size))
          clear x0 x1 he hej hS hEQ hM
          go_upto_region 3 with fail
          generalize hwa : wr.alloc (.cells #[.string (str key), .int .i64 x] 73) = wa at *
          clear hwa c0 c1 hba
          generalize wr.heap.size = gn at *
          have p0 := hzn.cell (j := 0) rfl
          have p1 := hzn.cell (j := 1) rfl
          have cl := CLEAF.out wa hSa.low
          go_wp2_with fail
          refine cl.mono ?_
          rintro e wa ⟨rfl, rfl⟩
          clear cl
          have n1 := (HNODE.out wa hSa.low).2
          have k1 := (hSa.low.cell (p := ⟨b', j, none⟩) hb').trans xk
          have cK2 := cK acc' wa hSa hlen
          have HFRE := Lib.hid hfre
          have HZN := Lib.hid hzn
          have HMA := Lib.hid hMa
          clear cK xk hb' hkj hst hfre hzn hMa hSa p0 p1 hlen
          have iK : (j : Int) < (C : Int) := by omega
          go_wp2_with fail
          refine cK2.mono ?_
          rintro e w2 ⟨rfl, hS2, hM2⟩
          clear cK2 n1 k1
          have hz2 := hM2.blk HZN.out hgn HFRE.out
          have p0 := hz2.cell (j := 0) rfl
          have p1 := hz2.cell (j := 1) rfl
          have cV := visit_list A B gf gt HGF.out HGT.out w2 g HGW.out (acc' ++ (flatT kq)) (key, x) hS2 hlen2 HK6.out
          simp only at cV
          have HM3 := Lib.hid (HMA.out.trans hM2)
          clear hz2 hS2 hM2 HMA HFRE HZN
          go_wp2_with fail
          refine cV.mono ?_
          rintro e w3 ⟨rfl, hS3, hM3⟩
          clear cV p0 p1
          have HS3 := Lib.hid hS3
          have HM4 := Lib.hid (HM3.out.trans hM3)
          clear hS3 hM3 HM3 hlen2 hgn
          go_wp2_with fail
          go_roundw
          case rel => exact ⟨j + 1, _, by omega, by go_num, HS3, HEQ2, HM4⟩
          case measure => simp [intOf]; omega
        · have iI : ¬ (j : Int) < (E : Int) := by omega
          obtain rfl : j = E := by omega
          have he := hEQ.out
          obtain ⟨kq, b', q, hkj, rfl, hb', xk, cK⟩ := HKID.out j (by omega)
          rw [HLAST.out kq hkj] at he
          have hlen : acc'.length + (flatT kq).length ≤ 1000 := by have h := congrArg List.length he; simp only [List.length_append] at h; have := HFL.out; omega
          have HE := Lib.hid he
          have cl := CLEAF.out wr hS.out.low
          have HK3 := Lib.hid cK
          clear he hkj cK hEQ
          go_wp2_with fail
          refine cl.mono ?_
          rintro e wr ⟨rfl, rfl⟩
          clear cl
          go_upto_region 8 with fail
          have iK : (j : Int) < (C : Int) := by omega
          clear hsh
          refine wp_region_facts' 12 (by kernel_rfl) (by kernel_rfl) (EcF8 p q b' j C ce ck ae (.func (.func 37) #[] #[.pointer (some ⟨gf, 0, none⟩), .pointer (some ⟨gt, 0, none⟩), .pointer (some ⟨g, 0, none⟩)])) (fun W => PrSt A B w0 W g acc' ∧ Mov g wr W) (fun W W' => Below W.heap.size W W') ?hC ?hF ?h0 ?hstep ?hdone
          case hC => exact fun W W' hc he => ⟨hc.1.below he, hc.2.trans (Mov.below he (Nat.lt_of_succ_le hc.1.size))⟩
          case hF => exact fun i v W W' h he => ecF8_keep i v W W' h he
          case h0 => exact ⟨hS.out.below (Below.drew (Below.refl _ _)), Mov.below (Below.drew (Below.refl _ _)) (Nat.lt_of_succ_le hS.out.size)⟩
          case hstep =>
            intro i hi vs act w K ha' hc hd hu hK
            simp only [fillF, Act.put, List.take_succ_cons, List.take_zero, List.setIfInBounds_toArray, List.set_cons_zero, List.set_cons_succ] at ha'
            subst ha'
            clear hu
            have q1 := (HNODE.out w hc.1.low).1
            have q2 := (HNODE.out w hc.1.low).2
            have q3 := (hc.1.low.cell (p := ⟨b', j, none⟩) hb').trans xk
            rcases (show i = 0 ∨ i = 1 ∨ i = 2 ∨ i = 3 ∨ i = 4 ∨ i = 5 ∨ i = 6 ∨ i = 7 ∨ i = 8 ∨ i = 9 ∨ i = 10 ∨ i = 11 by omega) with rfl | rfl | rfl | rfl | rfl | rfl | rfl | rfl | rfl | rfl | rfl | rfl
            · refine wpOp_step rfl (fun K' hK' => ?_)
              go_simp
              exact hK' _ _ (hK _ _ rfl (Below.refl _ _))
            · have e0 : vs 0 = .pointer (some ⟨p, 0, none⟩) := hd 0 (by kernel_rfl)
              simp only [e0] at hK ⊢
              refine wpOp_step rfl (fun K' hK' => ?_)
              go_simp
              exact hK' _ _ (hK _ _ rfl (Below.refl _ _))
            · have e1 : vs 1 = .pointer (some ⟨p, 0, none⟩) := hd 1 (by kernel_rfl)
              simp only [e1] at hK ⊢
              refine wpOp_step rfl (fun K' hK' => ?_)
              go_simp
              exact hK' _ _ (hK _ _ rfl (Below.refl _ _))
            · have e2 : vs 2 = .pointer (some ⟨p, 1, none⟩) := hd 2 (by kernel_rfl)
              simp only [e2] at hK ⊢
              refine wpOp_step rfl (fun K' hK' => ?_)
              go_simp
              exact hK' _ _ (hK _ _ rfl (Below.refl _ _))
            · refine wpOp_step rfl (fun K' hK' => ?_)
              go_simp
              exact hK' _ _ (hK _ _ rfl (Below.refl _ _))
            · have e4 : vs 4 = .pointer (some ⟨p, 0, none⟩) := hd 4 (by kernel_rfl)
              simp only [e4] at hK ⊢
              refine wpOp_step rfl (fun K' hK' => ?_)
              go_simp
              exact hK' _ _ (hK _ _ rfl (Below.refl _ _))
            · have e5 : vs 5 = .pointer (some ⟨p, 0, none⟩) := hd 5 (by kernel_rfl)
              simp only [e5] at hK ⊢
              refine wpOp_step rfl (fun K' hK' => ?_)
              go_simp
              exact hK' _ _ (hK _ _ rfl (Below.refl _ _))
            · have e6 : vs 6 = .pointer (some ⟨p, 0, none⟩) := hd 6 (by kernel_rfl)
              simp only [e6] at hK ⊢
              refine wpOp_step rfl (fun K' hK' => ?_)
              go_simp
              exact hK' _ _ (hK _ _ rfl (Below.refl _ _))
            · have e7 : vs 7 = .slice ae j ce := hd 7 (by kernel_rfl)
              simp only [e7] at hK ⊢
              refine wpOp_step rfl (fun K' hK' => ?_)
              go_simp
              exact hK' _ _ (hK _ _ rfl (Below.refl _ _))
            · have e3 : vs 3 = .slice (some ⟨b', 0, none⟩) C ck := hd 3 (by kernel_rfl)
              have e8 : vs 8 = .int .i64 (j : Int) := hd 8 (by kernel_rfl)
              simp only [e3, e8] at hK ⊢
              refine wpOp_step rfl (fun K' hK' => ?_)
              go_simp
              exact hK' _ _ (hK _ _ rfl (Below.refl _ _))
            · have e9 : vs 9 = .pointer (some ⟨b', j, none⟩) := hd 9 (by kernel_rfl)
              simp only [e9] at hK ⊢
              refine wpOp_step rfl (fun K' hK' => ?_)
              go_simp
              exact hK' _ _ (hK _ _ rfl (Below.refl _ _))
            · refine wpOp_step rfl (fun K' hK' => ?_)
              go_simp
              exact hK' _ _ (hK _ _ rfl (Below.refl _ _))
          case hdone =>
            intro vs act W ha' hc hfs
            simp only [fillF, Act.put, List.take_succ_cons, List.take_zero, List.drop_succ_cons, List.drop_zero, List.setIfInBounds_toArray, List.set_cons_zero, List.set_cons_succ] at ha' ⊢
            subst ha'
            have f10 : vs 10 = .pointer (some ⟨q, 0, none⟩) := hfs 10 (by decide)
            have f11 : vs 11 = .func (.func 37) #[] #[.pointer (some ⟨gf, 0, none⟩), .pointer (some ⟨gt, 0, none⟩), .pointer (some ⟨g, 0, none⟩)] := hfs 11 (by decide)
            simp only [Nat.zero_add, Nat.reduceAdd, f10, f11]
            have cK2 := HK3.out acc' W hc.1 hlen
            have HM5 := Lib.hid (hM.out.trans hc.2)
            clear hfs f10 f11 hc xk hb' HK3 hS hM
            go_wp2_with fail
            refine cK2.mono ?_
            rintro e w2 ⟨rfl, hS2, hM2⟩
            clear cK2
            rw [HE.out] at hS2
            have HS2 := Lib.hid hS2
            have HM6 := Lib.hid (HM5.out.trans hM2)
            clear hS2 hM2
            go_wp2_with fail
            go_end0
            exact ⟨rfl, HS2.out, HM6.out⟩
end Go.Proofs.Ytopgakdgifmecaa
