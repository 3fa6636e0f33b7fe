/-
  CONTRACT of the reference's keysFault; rows of numbers of the call's own.
  CONDITIONS: each theorem's own hypotheses.
-/
import Derived.Test.YtpneoaehkibdeaaDoorTabC
import Derived.Maps.AppendAt
namespace Go.Proofs.YtpneoaehkibdeaaDoor
open Go.RowKit
set_option linter.unusedVariables false
set_option maxRecDepth 100000

def intsW (l : List Int) : List Value := l.map (Value.int .i64)
theorem infoIntW : (Tryd.prog.info? 3).map (fun i => (i.zero, i.size, i.bytes)) = some (some (.int .i64 0), 1, 8) := by kernel_rfl
def OwnZ (w : World) (base : Nat) (v : Value) (l : List Int) : Prop := w.ownsRow base 3 1 v l.length (intsW l)
theorem OwnZ.nil (w : World) (base : Nat) : OwnZ w base (.slice none 0 0) [] := World.ownsRow_nil _ _ _ _
theorem OwnZ.keep {w w1 : World} {base : Nat} {v : Value} {l : List Int} (h : OwnZ w base v l) (hb : Below w.heap.size w w1) : OwnZ w1 base v l := by
  refine ⟨h.1, ?_⟩
  rcases id h.2 with h2 | ⟨g, cap, cur, rfl, q1, q2, q3⟩
  · exact .inl h2
  · exact .inr ⟨g, cap, cur, rfl, q1, (hb.block g (Array.getElem?_eq_some_iff.1 q2).1).trans q2, q3⟩
theorem addr_addJ (b o j : Nat) : (⟨b, o, none⟩ : Addr).add j = ⟨b, o + j, none⟩ := by unfold Addr.add; split <;> simp_all
theorem OwnZ.shape {w : World} {base : Nat} {v : Value} {l : List Int} (h : OwnZ w base v l) : ∃ ao cap, v = .slice ao l.length cap ∧ l.length ≤ cap ∧ cap ≤ 9223372036854775807 ∧ ∀ i x, l[i]? = some x → ∃ b, ao = some ⟨b, 0, none⟩ ∧ w.cell? ⟨b, i, none⟩ = some (.int .i64 x) := by
  rcases id h.2 with ⟨rfl, hz⟩ | ⟨g, cap, cur, rfl, _, _, h1, h2, _⟩
  · exact ⟨none, 0, by rw [hz], by omega, by decide, fun i x hi => by rw [List.eq_nil_of_length_eq_zero hz] at hi; simp at hi⟩
  · refine ⟨_, cap, rfl, h1, h2, fun i x hi => ⟨g, rfl, ?_⟩⟩
    have := World.ownsRow.cells h (g := g) rfl i (.int .i64 x) (by unfold intsW; rw [List.getElem?_map, hi]; rfl)
    rw [addr_addJ, Nat.zero_add] at this
    exact this
theorem wpList_append_j {ops : Array Oper} {rest : List Oper} {o : Oper} {a : Act} {Q : Exit → Act → World → Prop} {w : World} (hgd : o.guard = none) (s x : Operand)
    (ho : o.op = .call { callee := .builtin .append, args := #[s, x], argTypes := #[101, 101] }) (base : Nat) (v : Value) (l : List Int) (hs : a.eval s = v) (hown : OwnZ w base v l)
    (y : Int) (g : Nat) (hx : a.eval x = .slice (some ⟨g, 0, none⟩) 1 1) (h2 : Blk w g 3 [.int .i64 y]) (hl : l.length ≤ 1000) (hb : base ≤ w.heap.size)
    (h : ∀ v' w', OwnZ w' base v' (l ++ [y]) → Below base w w' → wpList Tryd.prog ops Q rest (a.put o.dst v') w') : wpList Tryd.prog ops Q (o :: rest) a w := by
  obtain ⟨i0, hi, hz0, hz1, hz2⟩ := info_parts infoIntW
  obtain ⟨v', w', hr, r1, r2, _, r5⟩ := run_append_own_at (P := Tryd.prog) w base 101 o.type 3 i0 _ 1 8 Tryd.underlying101 hi hz0 hz1 hz2 rfl (by decide) v l.length (intsW l) hown ⟨g, 0, none⟩ 1 1 [.int .i64 y] rfl (fun j u hj => by
    rw [addr_addJ, Nat.zero_add]
    exact h2.cell hj) (fun u hu => by
    rw [List.mem_singleton] at hu
    subst hu; rfl) (by unfold maxLen; omega) (by omega) hb
  refine wpList_plain hgd fun K hK => ?_
  unfold Oper.wp execOp
  simp only [ho, resolve, invoke, builtin, Sem.run_bind, Sem.run_pure, Result.andThen_ok, List.map_toArray, List.map_cons, List.map_nil, hs, hx, hr]
  refine hK _ _ (h v' w' ?_ ((Below.refl base w).grown r2 hb (fun b e => (hown.lt b e).1)))
  unfold OwnZ intsW
  rw [List.map_append, List.length_append]
  exact r1
theorem keysG_cons (L : List Ce) (sn : List Int) (j : Nat) (c : Ce) (h : L[j]? = some c) : keysG sn (L.drop j) = if c.full = true then (if sn.contains (keyC c) = true then 8 else keysG (sn ++ [keyC c]) (L.drop (j + 1))) else keysG sn (L.drop (j + 1)) := by
  obtain ⟨hj, he⟩ := List.getElem?_eq_some_iff.1 h
  rw [List.drop_eq_getElem_cons hj, he, keysG]
theorem take_contains (sn : List Int) (i : Nat) (x k : Int) (h : sn[i]? = some x) : (sn.take (i + 1)).contains k = ((sn.take i).contains k || k == x) := by
  obtain ⟨hi, he⟩ := List.getElem?_eq_some_iff.1 h
  rw [List.take_succ_eq_append_getElem hi, List.contains_eq_any_beq, List.any_append, he, List.contains_eq_any_beq]
  simp
set_option maxHeartbeats 16000000 in
theorem keysRef_any (d : Dr) (w : World) (hD : DrOk w d) (hR : RowsE (drL d)) :
    Calls Tryd.prog 32 #[.agg (drV d).toArray] w fun e w' => e = .returned (.int .i64 (keysG [] (drL d))) ∧ Below w.heap.size w w' := by
  obtain ⟨c0, c1, c2, c3⟩ := d
  obtain ⟨R, hRR⟩ : ∃ R, keysG [] (drL (c0, c1, c2, c3)) = R := ⟨_, rfl⟩
  rw [hRR]
  obtain ⟨L, hL⟩ : ∃ L, drL (c0, c1, c2, c3) = L := ⟨_, rfl⟩
  have z1 : Blk _ _ _ (drV (c0, c1, c2, c3)) := Blk.new w (drV (c0, c1, c2, c3)).toArray 26
  have hb1 := (Below.refl w.heap.size w).alloc (Nat.le_refl _) (.cells (drV (c0, c1, c2, c3)).toArray 26)
  obtain ⟨w1, hw1⟩ : ∃ W, w.alloc (.cells (drV (c0, c1, c2, c3)).toArray 26) = W := ⟨_, rfl⟩
  rw [hw1] at z1 hb1
  obtain ⟨b1, hbn⟩ : ∃ x, w.heap.size = x := ⟨_, rfl⟩
  rw [hbn] at z1
  have HST : Hid (∀ W, Below w1.heap.size w1 W → ∀ (j : Nat) (c : Ce), L[j]? = some c → CeOk W c ∧ (c.full = true → c.row ≠ [])) := Lib.hid (fun W h j c hj => ⟨by
    have hd := (hD.keep hb1).keep h
    rw [← hL] at hj
    have hlt : j < 4 := (List.getElem?_eq_some_iff.1 hj).1
    rcases (show j = 0 ∨ j = 1 ∨ j = 2 ∨ j = 3 by omega) with rfl | rfl | rfl | rfl <;> cases hj
    · exact hd.1
    · exact hd.2.1
    · exact hd.2.2.1
    · exact hd.2.2.2, hR c (by rw [hL]; exact List.mem_of_getElem? hj)⟩)
  have HKR : Hid (keysG [] (L.drop 0) = R) := Lib.hid (by rw [List.drop_zero, ← hL]; exact hRR)
  have HG0 : Hid (L[0]? = some c0) := Lib.hid (by rw [← hL]; rfl)
  have HG1 : Hid (L[1]? = some c1) := Lib.hid (by rw [← hL]; rfl)
  have HG2 : Hid (L[2]? = some c2) := Lib.hid (by rw [← hL]; rfl)
  have HG3 : Hid (L[3]? = some c3) := Lib.hid (by rw [← hL]; rfl)
  have HLL : Hid (L.length = 4) := Lib.hid (by rw [← hL]; rfl)
  have HCK := fun (sn : List Int) (j : Nat) (c : Ce) (h : L[j]? = some c) => keysG_cons L sn j c h
  have HCKH := Lib.hid HCK
  have HZ1 := Lib.hid z1
  have HW1 := Lib.hid hw1
  have HBN := Lib.hid hbn
  have HB1 := Lib.hid hb1
  clear HCK hRR hL z1 hb1 hw1 hbn hD hR
  obtain ⟨f0, r0, a0, k0⟩ := c0
  obtain ⟨n0, hn0⟩ : ∃ n, r0.length = n := ⟨_, rfl⟩
  obtain ⟨f1, r1, a1, k1⟩ := c1
  obtain ⟨n1, hn1⟩ : ∃ n, r1.length = n := ⟨_, rfl⟩
  obtain ⟨f2, r2, a2, k2⟩ := c2
  obtain ⟨n2, hn2⟩ : ∃ n, r2.length = n := ⟨_, rfl⟩
  obtain ⟨f3, r3, a3, k3⟩ := c3
  obtain ⟨n3, hn3⟩ : ∃ n, r3.length = n := ⟨_, rfl⟩
  simp only [drV, ceV, List.cons_append, List.nil_append] at HZ1 HW1 ⊢
  rw [hn0] at HZ1 HW1 ⊢
  have HN0 := Lib.hid hn0
  clear hn0
  rw [hn1] at HZ1 HW1 ⊢
  have HN1 := Lib.hid hn1
  clear hn1
  rw [hn2] at HZ1 HW1 ⊢
  have HN2 := Lib.hid hn2
  clear hn2
  rw [hn3] at HZ1 HW1 ⊢
  have HN3 := Lib.hid hn3
  clear hn3
  go_enter Tryd.func32, Tryd.ntmps32
  go_upto_region 1 with fail
  rw [HW1.out, HBN.out]
  have q0 : w1.cell? ⟨b1, 0, none⟩ = some (.bool f0) := HZ1.out.cell (j := 0) rfl
  have q1 : w1.cell? ⟨b1, 1, none⟩ = some (.slice a0 n0 k0) := HZ1.out.cell (j := 1) rfl
  have q2 : w1.cell? ⟨b1, 2, none⟩ = some (.bool f1) := HZ1.out.cell (j := 2) rfl
  have q3 : w1.cell? ⟨b1, 3, none⟩ = some (.slice a1 n1 k1) := HZ1.out.cell (j := 3) rfl
  have q4 : w1.cell? ⟨b1, 4, none⟩ = some (.bool f2) := HZ1.out.cell (j := 4) rfl
  have q5 : w1.cell? ⟨b1, 5, none⟩ = some (.slice a2 n2 k2) := HZ1.out.cell (j := 5) rfl
  have q6 : w1.cell? ⟨b1, 6, none⟩ = some (.bool f3) := HZ1.out.cell (j := 6) rfl
  have q7 : w1.cell? ⟨b1, 7, none⟩ = some (.slice a3 n3 k3) := HZ1.out.cell (j := 7) rfl
  have x0 := fun W => ixA_0 (.bool f0) (.slice a0 n0 k0) (.bool f1) (.slice a1 n1 k1) (.bool f2) (.slice a2 n2 k2) (.bool f3) (.slice a3 n3 k3) W
  have x1 := fun W => ixA_1 (.bool f0) (.slice a0 n0 k0) (.bool f1) (.slice a1 n1 k1) (.bool f2) (.slice a2 n2 k2) (.bool f3) (.slice a3 n3 k3) W
  have x2 := fun W => ixA_2 (.bool f0) (.slice a0 n0 k0) (.bool f1) (.slice a1 n1 k1) (.bool f2) (.slice a2 n2 k2) (.bool f3) (.slice a3 n3 k3) W
  have x3 := fun W => ixA_3 (.bool f0) (.slice a0 n0 k0) (.bool f1) (.slice a1 n1 k1) (.bool f2) (.slice a2 n2 k2) (.bool f3) (.slice a3 n3 k3) W
  go_upto_region 3 with fail
  clear q0 q1 q2 q3 q4 q5 q6 q7
  go_loopw [3, 9] (fun v3 ix wr => ∃ (j : Nat) (sn : List Int), j ≤ 4 ∧ ix = .int .i64 j ∧ Hid (sn.length ≤ j) ∧ Hid (keysG sn (L.drop j) = R) ∧ Hid (Below w1.heap.size w1 wr ∧ OwnZ wr w1.heap.size v3 sn)) (fun _ ix _ => 4 - (intOf ix).toNat)
  case atStart => exact ⟨0, [], Nat.zero_le _, rfl, Lib.hid (Nat.zero_le _), HKR, Lib.hid ⟨Below.refl _ _, OwnZ.nil _ _⟩⟩
  case round =>
    obtain ⟨j, sn, hj, rfl, hsl, hkp0, hbw⟩ := hrel
    rcases (show j = 0 ∨ j = 1 ∨ j = 2 ∨ j = 3 ∨ j = 4 by omega) with rfl | rfl | rfl | rfl | rfl
    · have z4 : Blk _ _ _ [_, _] := Blk.new wr #[.bool f0, .slice a0 n0 k0] 25
      have hb4 := (Below.refl wr.heap.size wr).alloc (Nat.le_refl _) (.cells #[.bool f0, .slice a0 n0 k0] 25)
      obtain ⟨wa, hwa⟩ : ∃ W, wr.alloc (.cells #[.bool f0, .slice a0 n0 k0] 25) = W := ⟨_, rfl⟩
      rw [hwa] at z4 hb4
      obtain ⟨m4, hm4⟩ : ∃ x, wr.heap.size = x := ⟨_, rfl⟩
      rw [hm4] at z4
      have HBA := Lib.hid (below_stepL hbw.out.1 hbw.out.1.size hb4)
      have HOA := Lib.hid (hbw.out.2.keep hb4)
      have hkc := HCKH.out sn 0 _ HG0.out
      rw [hkp0.out] at hkc
      have HWA := Lib.hid hwa
      have HM4 := Lib.hid hm4
      have p0 := z4.cell (j := 0) rfl
      have p1 := z4.cell (j := 1) rfl
      cases f0 with
      | false =>
        have HK1 : Hid (keysG sn (L.drop 1) = R) := Lib.hid (by rw [hkc]; rfl)
        have HN2 := Lib.hid (And.intro HBA.out HOA.out)
        clear hkc z4 hb4 hwa hm4 hkp0 hbw
        go_upto_region 5 with fail
        rw [HWA.out, HM4.out]
        go_wp2_with fail
        go_roundw
        case rel => exact ⟨1, sn, by omega, by go_num, Lib.hid (Nat.le_succ_of_le hsl.out), HK1, HN2⟩
        case measure => simp [intOf]
      | true =>
        obtain ⟨hce, hne⟩ := HST.out wa HBA.out 0 _ HG0.out
        have hce3 := hce.2.2
        simp only at hce3 hne
        cases r0 with
        | nil => exact absurd rfl (hne (by first | rfl | trivial))
        | cons v r =>
        obtain ⟨ar, orr, hao, har, hkey⟩ := vals_head hce3
        have hkv : keyC ⟨true, v :: r, a0, k0⟩ = v.i := rfl
        rw [hkv, if_pos rfl] at hkc
        have hn0 : (0 : Int) < (n0 : Int) := by rw [← HN0.out]; simp
        obtain ⟨az, cs, hv3, hcs1, hcs2, hsc⟩ := HOA.out.shape
        subst hv3
        obtain ⟨N, hN⟩ : ∃ N, sn.length = N := ⟨_, rfl⟩
        rw [hN] at hcs1 ⊢
        have HSC : Hid (∀ i, i < N → ∃ x b, sn[i]? = some x ∧ az = some ⟨b, 0, none⟩ ∧ wa.cell? ⟨b, i, none⟩ = some (.int .i64 x)) := Lib.hid (fun i hi => by
          have h1 : sn[i]? = some (sn[i]'(by omega)) := List.getElem?_eq_getElem _
          obtain ⟨b, h2, h3⟩ := hsc _ _ h1
          exact ⟨_, b, h1, h2, h3⟩)
        have HSN := Lib.hid hN
        have HKC := Lib.hid hkc
        obtain ⟨kk, hkk⟩ : ∃ k, v.i = k := ⟨_, rfl⟩
        rw [hkk] at hkey HKC
        subst hao
        have HZ4 := Lib.hid z4
        have HKY := Lib.hid hkey
        clear hkc z4 hb4 hwa hm4 hkp0 hbw hce hne hce3 har hkv hsc hN hkk
        go_upto_region 5 with fail
        rw [HWA.out, HM4.out]
        clear HWA HM4
        go_wp2_with fail
        go_loopw [17] (fun ix wq => ∃ (i : Nat), i ≤ N ∧ ix = .int .i64 i ∧ Hid ((sn.take i).contains kk = false) ∧ wq = wa) (fun ix _ => N - (intOf ix).toNat)
        case atStart => exact ⟨0, Nat.zero_le _, rfl, Lib.hid (by rw [List.take_zero]; rfl), rfl⟩
        case round =>
          obtain ⟨i, hi, rfl, hct, hwq⟩ := hrel
          obtain rfl := hwq.symm
          clear hwq
          by_cases hlt : i < N
          · have iI : (i : Int) < (N : Int) := by omega
            have i0 : (0 : Int) ≤ (i : Int) := by omega
            obtain ⟨x, b, hx, rfl, hxc⟩ := HSC.out i hlt
            have htc := take_contains sn i x kk hx
            rw [hct.out, Bool.false_or] at htc
            by_cases hxk : x = kk
            · have hin : sn.contains kk = true := by
                rw [List.contains_iff_mem, ← hxk]
                exact List.mem_of_getElem? hx
              have hr : R = 8 := by rw [HKC.out, if_pos hin]
              have HRR := Lib.hid hr
              have hxb : (x == kk) = true := by simpa using hxk
              subst hxk
              clear hr hin htc hx hct
              go_wp2_with fail
              go_ret
              exact ⟨by rw [HRR.out]; first | done | rfl, below_stepL HB1.out HB1.out.size HBA.out⟩
            · have hxb : (x == kk) = false := by simpa using hxk
              have HT : Hid ((sn.take (i + 1)).contains kk = false) := Lib.hid (by rw [htc]; simpa using (fun h => hxk h.symm))
              clear htc hx hct
              go_wp2_with fail
              go_roundw
              case rel => exact ⟨i + 1, by omega, by go_num, HT, by first | rfl | trivial⟩
              case measure => simp [intOf]; omega
          · have iI : ¬ (i : Int) < (N : Int) := by omega
            have hnc : sn.contains kk = false := by
              have := hct.out
              rw [List.take_of_length_le (by rw [HSN.out]; omega)] at this
              exact this
            have HK1 : Hid (keysG (sn ++ [kk]) (L.drop 1) = R) := Lib.hid (by rw [HKC.out, if_neg (by rw [hnc]; decide)])
            have hoa := HOA.out
            rw [HSN.out] at hoa
            have HP9 : Hid (Blk (wa.alloc (.cells #[.int .i64 kk] 3)) wa.heap.size 3 [.int .i64 kk] ∧ OwnZ (wa.alloc (.cells #[.int .i64 kk] 3)) w1.heap.size (.slice az N cs) sn) := Lib.hid ⟨Blk.new wa #[.int .i64 kk] _, hoa.keep ((Below.refl _ wa).alloc (Nat.le_refl _) _)⟩
            have HL9 : Hid (sn.length ≤ 1000 ∧ w1.heap.size ≤ (wa.alloc (.cells #[.int .i64 kk] 3)).heap.size) := Lib.hid ⟨by have := hsl.out; omega, by have := HBA.out.size; simp; omega⟩
            clear hnc hct hoa
            go_upto_region 13 with (at_builtin; refine wpList_append_j rfl (.tmp 29) (.tmp 35) rfl w1.heap.size _ _ rfl HP9.out.2 kk wa.heap.size rfl HP9.out.1 HL9.out.1 HL9.out.2 ?_; intro v9 w9 ho9 hb9)
            have HN2 := Lib.hid (And.intro ((HBA.out.alloc HBA.out.size _).trans hb9) ho9)
            clear ho9 hb9
            go_wp2_with fail
            go_roundw
            case rel => exact ⟨1, sn ++ [kk], by omega, by go_num, Lib.hid (by have := hsl.out; rw [List.length_append]; simp only [List.length_cons, List.length_nil]; omega), HK1, HN2⟩
            case measure => simp [intOf]
    · have z4 : Blk _ _ _ [_, _] := Blk.new wr #[.bool f1, .slice a1 n1 k1] 25
      have hb4 := (Below.refl wr.heap.size wr).alloc (Nat.le_refl _) (.cells #[.bool f1, .slice a1 n1 k1] 25)
      obtain ⟨wa, hwa⟩ : ∃ W, wr.alloc (.cells #[.bool f1, .slice a1 n1 k1] 25) = W := ⟨_, rfl⟩
      rw [hwa] at z4 hb4
      obtain ⟨m4, hm4⟩ : ∃ x, wr.heap.size = x := ⟨_, rfl⟩
      rw [hm4] at z4
      have HBA := Lib.hid (below_stepL hbw.out.1 hbw.out.1.size hb4)
      have HOA := Lib.hid (hbw.out.2.keep hb4)
      have hkc := HCKH.out sn 1 _ HG1.out
      rw [hkp0.out] at hkc
      have HWA := Lib.hid hwa
      have HM4 := Lib.hid hm4
      have p0 := z4.cell (j := 0) rfl
      have p1 := z4.cell (j := 1) rfl
      cases f1 with
      | false =>
        have HK1 : Hid (keysG sn (L.drop 2) = R) := Lib.hid (by rw [hkc]; rfl)
        have HN2 := Lib.hid (And.intro HBA.out HOA.out)
        clear hkc z4 hb4 hwa hm4 hkp0 hbw
        go_upto_region 5 with fail
        rw [HWA.out, HM4.out]
        go_wp2_with fail
        go_roundw
        case rel => exact ⟨2, sn, by omega, by go_num, Lib.hid (Nat.le_succ_of_le hsl.out), HK1, HN2⟩
        case measure => simp [intOf]
      | true =>
        obtain ⟨hce, hne⟩ := HST.out wa HBA.out 1 _ HG1.out
        have hce3 := hce.2.2
        simp only at hce3 hne
        cases r1 with
        | nil => exact absurd rfl (hne (by first | rfl | trivial))
        | cons v r =>
        obtain ⟨ar, orr, hao, har, hkey⟩ := vals_head hce3
        have hkv : keyC ⟨true, v :: r, a1, k1⟩ = v.i := rfl
        rw [hkv, if_pos rfl] at hkc
        have hn0 : (0 : Int) < (n1 : Int) := by rw [← HN1.out]; simp
        obtain ⟨az, cs, hv3, hcs1, hcs2, hsc⟩ := HOA.out.shape
        subst hv3
        obtain ⟨N, hN⟩ : ∃ N, sn.length = N := ⟨_, rfl⟩
        rw [hN] at hcs1 ⊢
        have HSC : Hid (∀ i, i < N → ∃ x b, sn[i]? = some x ∧ az = some ⟨b, 0, none⟩ ∧ wa.cell? ⟨b, i, none⟩ = some (.int .i64 x)) := Lib.hid (fun i hi => by
          have h1 : sn[i]? = some (sn[i]'(by omega)) := List.getElem?_eq_getElem _
          obtain ⟨b, h2, h3⟩ := hsc _ _ h1
          exact ⟨_, b, h1, h2, h3⟩)
        have HSN := Lib.hid hN
        have HKC := Lib.hid hkc
        obtain ⟨kk, hkk⟩ : ∃ k, v.i = k := ⟨_, rfl⟩
        rw [hkk] at hkey HKC
        subst hao
        have HZ4 := Lib.hid z4
        have HKY := Lib.hid hkey
        clear hkc z4 hb4 hwa hm4 hkp0 hbw hce hne hce3 har hkv hsc hN hkk
        go_upto_region 5 with fail
        rw [HWA.out, HM4.out]
        clear HWA HM4
        go_wp2_with fail
        go_loopw [17] (fun ix wq => ∃ (i : Nat), i ≤ N ∧ ix = .int .i64 i ∧ Hid ((sn.take i).contains kk = false) ∧ wq = wa) (fun ix _ => N - (intOf ix).toNat)
        case atStart => exact ⟨0, Nat.zero_le _, rfl, Lib.hid (by rw [List.take_zero]; rfl), rfl⟩
        case round =>
          obtain ⟨i, hi, rfl, hct, hwq⟩ := hrel
          obtain rfl := hwq.symm
          clear hwq
          by_cases hlt : i < N
          · have iI : (i : Int) < (N : Int) := by omega
            have i0 : (0 : Int) ≤ (i : Int) := by omega
            obtain ⟨x, b, hx, rfl, hxc⟩ := HSC.out i hlt
            have htc := take_contains sn i x kk hx
            rw [hct.out, Bool.false_or] at htc
            by_cases hxk : x = kk
            · have hin : sn.contains kk = true := by
                rw [List.contains_iff_mem, ← hxk]
                exact List.mem_of_getElem? hx
              have hr : R = 8 := by rw [HKC.out, if_pos hin]
              have HRR := Lib.hid hr
              have hxb : (x == kk) = true := by simpa using hxk
              subst hxk
              clear hr hin htc hx hct
              go_wp2_with fail
              go_ret
              exact ⟨by rw [HRR.out]; first | done | rfl, below_stepL HB1.out HB1.out.size HBA.out⟩
            · have hxb : (x == kk) = false := by simpa using hxk
              have HT : Hid ((sn.take (i + 1)).contains kk = false) := Lib.hid (by rw [htc]; simpa using (fun h => hxk h.symm))
              clear htc hx hct
              go_wp2_with fail
              go_roundw
              case rel => exact ⟨i + 1, by omega, by go_num, HT, by first | rfl | trivial⟩
              case measure => simp [intOf]; omega
          · have iI : ¬ (i : Int) < (N : Int) := by omega
            have hnc : sn.contains kk = false := by
              have := hct.out
              rw [List.take_of_length_le (by rw [HSN.out]; omega)] at this
              exact this
            have HK1 : Hid (keysG (sn ++ [kk]) (L.drop 2) = R) := Lib.hid (by rw [HKC.out, if_neg (by rw [hnc]; decide)])
            have hoa := HOA.out
            rw [HSN.out] at hoa
            have HP9 : Hid (Blk (wa.alloc (.cells #[.int .i64 kk] 3)) wa.heap.size 3 [.int .i64 kk] ∧ OwnZ (wa.alloc (.cells #[.int .i64 kk] 3)) w1.heap.size (.slice az N cs) sn) := Lib.hid ⟨Blk.new wa #[.int .i64 kk] _, hoa.keep ((Below.refl _ wa).alloc (Nat.le_refl _) _)⟩
            have HL9 : Hid (sn.length ≤ 1000 ∧ w1.heap.size ≤ (wa.alloc (.cells #[.int .i64 kk] 3)).heap.size) := Lib.hid ⟨by have := hsl.out; omega, by have := HBA.out.size; simp; omega⟩
            clear hnc hct hoa
            go_upto_region 13 with (at_builtin; refine wpList_append_j rfl (.tmp 29) (.tmp 35) rfl w1.heap.size _ _ rfl HP9.out.2 kk wa.heap.size rfl HP9.out.1 HL9.out.1 HL9.out.2 ?_; intro v9 w9 ho9 hb9)
            have HN2 := Lib.hid (And.intro ((HBA.out.alloc HBA.out.size _).trans hb9) ho9)
            clear ho9 hb9
            go_wp2_with fail
            go_roundw
            case rel => exact ⟨2, sn ++ [kk], by omega, by go_num, Lib.hid (by have := hsl.out; rw [List.length_append]; simp only [List.length_cons, List.length_nil]; omega), HK1, HN2⟩
            case measure => simp [intOf]
    · have z4 : Blk _ _ _ [_, _] := Blk.new wr #[.bool f2, .slice a2 n2 k2] 25
      have hb4 := (Below.refl wr.heap.size wr).alloc (Nat.le_refl _) (.cells #[.bool f2, .slice a2 n2 k2] 25)
      obtain ⟨wa, hwa⟩ : ∃ W, wr.alloc (.cells #[.bool f2, .slice a2 n2 k2] 25) = W := ⟨_, rfl⟩
      rw [hwa] at z4 hb4
      obtain ⟨m4, hm4⟩ : ∃ x, wr.heap.size = x := ⟨_, rfl⟩
      rw [hm4] at z4
      have HBA := Lib.hid (below_stepL hbw.out.1 hbw.out.1.size hb4)
      have HOA := Lib.hid (hbw.out.2.keep hb4)
      have hkc := HCKH.out sn 2 _ HG2.out
      rw [hkp0.out] at hkc
      have HWA := Lib.hid hwa
      have HM4 := Lib.hid hm4
      have p0 := z4.cell (j := 0) rfl
      have p1 := z4.cell (j := 1) rfl
      cases f2 with
      | false =>
        have HK1 : Hid (keysG sn (L.drop 3) = R) := Lib.hid (by rw [hkc]; rfl)
        have HN2 := Lib.hid (And.intro HBA.out HOA.out)
        clear hkc z4 hb4 hwa hm4 hkp0 hbw
        go_upto_region 5 with fail
        rw [HWA.out, HM4.out]
        go_wp2_with fail
        go_roundw
        case rel => exact ⟨3, sn, by omega, by go_num, Lib.hid (Nat.le_succ_of_le hsl.out), HK1, HN2⟩
        case measure => simp [intOf]
      | true =>
        obtain ⟨hce, hne⟩ := HST.out wa HBA.out 2 _ HG2.out
        have hce3 := hce.2.2
        simp only at hce3 hne
        cases r2 with
        | nil => exact absurd rfl (hne (by first | rfl | trivial))
        | cons v r =>
        obtain ⟨ar, orr, hao, har, hkey⟩ := vals_head hce3
        have hkv : keyC ⟨true, v :: r, a2, k2⟩ = v.i := rfl
        rw [hkv, if_pos rfl] at hkc
        have hn0 : (0 : Int) < (n2 : Int) := by rw [← HN2.out]; simp
        obtain ⟨az, cs, hv3, hcs1, hcs2, hsc⟩ := HOA.out.shape
        subst hv3
        obtain ⟨N, hN⟩ : ∃ N, sn.length = N := ⟨_, rfl⟩
        rw [hN] at hcs1 ⊢
        have HSC : Hid (∀ i, i < N → ∃ x b, sn[i]? = some x ∧ az = some ⟨b, 0, none⟩ ∧ wa.cell? ⟨b, i, none⟩ = some (.int .i64 x)) := Lib.hid (fun i hi => by
          have h1 : sn[i]? = some (sn[i]'(by omega)) := List.getElem?_eq_getElem _
          obtain ⟨b, h2, h3⟩ := hsc _ _ h1
          exact ⟨_, b, h1, h2, h3⟩)
        have HSN := Lib.hid hN
        have HKC := Lib.hid hkc
        obtain ⟨kk, hkk⟩ : ∃ k, v.i = k := ⟨_, rfl⟩
        rw [hkk] at hkey HKC
        subst hao
        have HZ4 := Lib.hid z4
        have HKY := Lib.hid hkey
        clear hkc z4 hb4 hwa hm4 hkp0 hbw hce hne hce3 har hkv hsc hN hkk
        go_upto_region 5 with fail
        rw [HWA.out, HM4.out]
        clear HWA HM4
        go_wp2_with fail
        go_loopw [17] (fun ix wq => ∃ (i : Nat), i ≤ N ∧ ix = .int .i64 i ∧ Hid ((sn.take i).contains kk = false) ∧ wq = wa) (fun ix _ => N - (intOf ix).toNat)
        case atStart => exact ⟨0, Nat.zero_le _, rfl, Lib.hid (by rw [List.take_zero]; rfl), rfl⟩
        case round =>
          obtain ⟨i, hi, rfl, hct, hwq⟩ := hrel
          obtain rfl := hwq.symm
          clear hwq
          by_cases hlt : i < N
          · have iI : (i : Int) < (N : Int) := by omega
            have i0 : (0 : Int) ≤ (i : Int) := by omega
            obtain ⟨x, b, hx, rfl, hxc⟩ := HSC.out i hlt
            have htc := take_contains sn i x kk hx
            rw [hct.out, Bool.false_or] at htc
            by_cases hxk : x = kk
            · have hin : sn.contains kk = true := by
                rw [List.contains_iff_mem, ← hxk]
                exact List.mem_of_getElem? hx
              have hr : R = 8 := by rw [HKC.out, if_pos hin]
              have HRR := Lib.hid hr
              have hxb : (x == kk) = true := by simpa using hxk
              subst hxk
              clear hr hin htc hx hct
              go_wp2_with fail
              go_ret
              exact ⟨by rw [HRR.out]; first | done | rfl, below_stepL HB1.out HB1.out.size HBA.out⟩
            · have hxb : (x == kk) = false := by simpa using hxk
              have HT : Hid ((sn.take (i + 1)).contains kk = false) := Lib.hid (by rw [htc]; simpa using (fun h => hxk h.symm))
              clear htc hx hct
              go_wp2_with fail
              go_roundw
              case rel => exact ⟨i + 1, by omega, by go_num, HT, by first | rfl | trivial⟩
              case measure => simp [intOf]; omega
          · have iI : ¬ (i : Int) < (N : Int) := by omega
            have hnc : sn.contains kk = false := by
              have := hct.out
              rw [List.take_of_length_le (by rw [HSN.out]; omega)] at this
              exact this
            have HK1 : Hid (keysG (sn ++ [kk]) (L.drop 3) = R) := Lib.hid (by rw [HKC.out, if_neg (by rw [hnc]; decide)])
            have hoa := HOA.out
            rw [HSN.out] at hoa
            have HP9 : Hid (Blk (wa.alloc (.cells #[.int .i64 kk] 3)) wa.heap.size 3 [.int .i64 kk] ∧ OwnZ (wa.alloc (.cells #[.int .i64 kk] 3)) w1.heap.size (.slice az N cs) sn) := Lib.hid ⟨Blk.new wa #[.int .i64 kk] _, hoa.keep ((Below.refl _ wa).alloc (Nat.le_refl _) _)⟩
            have HL9 : Hid (sn.length ≤ 1000 ∧ w1.heap.size ≤ (wa.alloc (.cells #[.int .i64 kk] 3)).heap.size) := Lib.hid ⟨by have := hsl.out; omega, by have := HBA.out.size; simp; omega⟩
            clear hnc hct hoa
            go_upto_region 13 with (at_builtin; refine wpList_append_j rfl (.tmp 29) (.tmp 35) rfl w1.heap.size _ _ rfl HP9.out.2 kk wa.heap.size rfl HP9.out.1 HL9.out.1 HL9.out.2 ?_; intro v9 w9 ho9 hb9)
            have HN2 := Lib.hid (And.intro ((HBA.out.alloc HBA.out.size _).trans hb9) ho9)
            clear ho9 hb9
            go_wp2_with fail
            go_roundw
            case rel => exact ⟨3, sn ++ [kk], by omega, by go_num, Lib.hid (by have := hsl.out; rw [List.length_append]; simp only [List.length_cons, List.length_nil]; omega), HK1, HN2⟩
            case measure => simp [intOf]
    · have z4 : Blk _ _ _ [_, _] := Blk.new wr #[.bool f3, .slice a3 n3 k3] 25
      have hb4 := (Below.refl wr.heap.size wr).alloc (Nat.le_refl _) (.cells #[.bool f3, .slice a3 n3 k3] 25)
      obtain ⟨wa, hwa⟩ : ∃ W, wr.alloc (.cells #[.bool f3, .slice a3 n3 k3] 25) = W := ⟨_, rfl⟩
      rw [hwa] at z4 hb4
      obtain ⟨m4, hm4⟩ : ∃ x, wr.heap.size = x := ⟨_, rfl⟩
      rw [hm4] at z4
      have HBA := Lib.hid (below_stepL hbw.out.1 hbw.out.1.size hb4)
      have HOA := Lib.hid (hbw.out.2.keep hb4)
      have hkc := HCKH.out sn 3 _ HG3.out
      rw [hkp0.out] at hkc
      have HWA := Lib.hid hwa
      have HM4 := Lib.hid hm4
      have p0 := z4.cell (j := 0) rfl
      have p1 := z4.cell (j := 1) rfl
      cases f3 with
      | false =>
        have HK1 : Hid (keysG sn (L.drop 4) = R) := Lib.hid (by rw [hkc]; rfl)
        have HN2 := Lib.hid (And.intro HBA.out HOA.out)
        clear hkc z4 hb4 hwa hm4 hkp0 hbw
        go_upto_region 5 with fail
        rw [HWA.out, HM4.out]
        go_wp2_with fail
        go_roundw
        case rel => exact ⟨4, sn, by omega, by go_num, Lib.hid (Nat.le_succ_of_le hsl.out), HK1, HN2⟩
        case measure => simp [intOf]
      | true =>
        obtain ⟨hce, hne⟩ := HST.out wa HBA.out 3 _ HG3.out
        have hce3 := hce.2.2
        simp only at hce3 hne
        cases r3 with
        | nil => exact absurd rfl (hne (by first | rfl | trivial))
        | cons v r =>
        obtain ⟨ar, orr, hao, har, hkey⟩ := vals_head hce3
        have hkv : keyC ⟨true, v :: r, a3, k3⟩ = v.i := rfl
        rw [hkv, if_pos rfl] at hkc
        have hn0 : (0 : Int) < (n3 : Int) := by rw [← HN3.out]; simp
        obtain ⟨az, cs, hv3, hcs1, hcs2, hsc⟩ := HOA.out.shape
        subst hv3
        obtain ⟨N, hN⟩ : ∃ N, sn.length = N := ⟨_, rfl⟩
        rw [hN] at hcs1 ⊢
        have HSC : Hid (∀ i, i < N → ∃ x b, sn[i]? = some x ∧ az = some ⟨b, 0, none⟩ ∧ wa.cell? ⟨b, i, none⟩ = some (.int .i64 x)) := Lib.hid (fun i hi => by
          have h1 : sn[i]? = some (sn[i]'(by omega)) := List.getElem?_eq_getElem _
          obtain ⟨b, h2, h3⟩ := hsc _ _ h1
          exact ⟨_, b, h1, h2, h3⟩)
        have HSN := Lib.hid hN
        have HKC := Lib.hid hkc
        obtain ⟨kk, hkk⟩ : ∃ k, v.i = k := ⟨_, rfl⟩
        rw [hkk] at hkey HKC
        subst hao
        have HZ4 := Lib.hid z4
        have HKY := Lib.hid hkey
        clear hkc z4 hb4 hwa hm4 hkp0 hbw hce hne hce3 har hkv hsc hN hkk
        go_upto_region 5 with fail
        rw [HWA.out, HM4.out]
        clear HWA HM4
        go_wp2_with fail
        go_loopw [17] (fun ix wq => ∃ (i : Nat), i ≤ N ∧ ix = .int .i64 i ∧ Hid ((sn.take i).contains kk = false) ∧ wq = wa) (fun ix _ => N - (intOf ix).toNat)
        case atStart => exact ⟨0, Nat.zero_le _, rfl, Lib.hid (by rw [List.take_zero]; rfl), rfl⟩
        case round =>
          obtain ⟨i, hi, rfl, hct, hwq⟩ := hrel
          obtain rfl := hwq.symm
          clear hwq
          by_cases hlt : i < N
          · have iI : (i : Int) < (N : Int) := by omega
            have i0 : (0 : Int) ≤ (i : Int) := by omega
            obtain ⟨x, b, hx, rfl, hxc⟩ := HSC.out i hlt
            have htc := take_contains sn i x kk hx
            rw [hct.out, Bool.false_or] at htc
            by_cases hxk : x = kk
            · have hin : sn.contains kk = true := by
                rw [List.contains_iff_mem, ← hxk]
                exact List.mem_of_getElem? hx
              have hr : R = 8 := by rw [HKC.out, if_pos hin]
              have HRR := Lib.hid hr
              have hxb : (x == kk) = true := by simpa using hxk
              subst hxk
              clear hr hin htc hx hct
              go_wp2_with fail
              go_ret
              exact ⟨by rw [HRR.out]; first | done | rfl, below_stepL HB1.out HB1.out.size HBA.out⟩
            · have hxb : (x == kk) = false := by simpa using hxk
              have HT : Hid ((sn.take (i + 1)).contains kk = false) := Lib.hid (by rw [htc]; simpa using (fun h => hxk h.symm))
              clear htc hx hct
              go_wp2_with fail
              go_roundw
              case rel => exact ⟨i + 1, by omega, by go_num, HT, by first | rfl | trivial⟩
              case measure => simp [intOf]; omega
          · have iI : ¬ (i : Int) < (N : Int) := by omega
            have hnc : sn.contains kk = false := by
              have := hct.out
              rw [List.take_of_length_le (by rw [HSN.out]; omega)] at this
              exact this
            have HK1 : Hid (keysG (sn ++ [kk]) (L.drop 4) = R) := Lib.hid (by rw [HKC.out, if_neg (by rw [hnc]; decide)])
            have hoa := HOA.out
            rw [HSN.out] at hoa
            have HP9 : Hid (Blk (wa.alloc (.cells #[.int .i64 kk] 3)) wa.heap.size 3 [.int .i64 kk] ∧ OwnZ (wa.alloc (.cells #[.int .i64 kk] 3)) w1.heap.size (.slice az N cs) sn) := Lib.hid ⟨Blk.new wa #[.int .i64 kk] _, hoa.keep ((Below.refl _ wa).alloc (Nat.le_refl _) _)⟩
            have HL9 : Hid (sn.length ≤ 1000 ∧ w1.heap.size ≤ (wa.alloc (.cells #[.int .i64 kk] 3)).heap.size) := Lib.hid ⟨by have := hsl.out; omega, by have := HBA.out.size; simp; omega⟩
            clear hnc hct hoa
            go_upto_region 13 with (at_builtin; refine wpList_append_j rfl (.tmp 29) (.tmp 35) rfl w1.heap.size _ _ rfl HP9.out.2 kk wa.heap.size rfl HP9.out.1 HL9.out.1 HL9.out.2 ?_; intro v9 w9 ho9 hb9)
            have HN2 := Lib.hid (And.intro ((HBA.out.alloc HBA.out.size _).trans hb9) ho9)
            clear ho9 hb9
            go_wp2_with fail
            go_roundw
            case rel => exact ⟨4, sn ++ [kk], by omega, by go_num, Lib.hid (by have := hsl.out; rw [List.length_append]; simp only [List.length_cons, List.length_nil]; omega), HK1, HN2⟩
            case measure => simp [intOf]
    · have hd := hkp0.out
      rw [List.drop_of_length_le (by rw [HLL.out]; omega)] at hd
      have HD := Lib.hid hd
      clear hd
      go_wp2_with fail
      go_ret
      exact ⟨by rw [← HD.out]; cases sn <;> rfl, below_stepL HB1.out HB1.out.size hbw.out.1⟩
end Go.Proofs.YtpneoaehkibdeaaDoor
