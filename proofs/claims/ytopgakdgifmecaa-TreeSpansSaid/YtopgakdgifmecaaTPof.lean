/-
  CONTRACT of the reference's PairsOf.
  CONDITIONS: each theorem's own hypotheses.
-/
import Derived.Test.YtopgakdgifmecaaTPofP
namespace Go.Proofs.Ytopgakdgifmecaa
open Go.RowKit
set_option linter.unusedVariables false
set_option maxRecDepth 100000

theorem drew_more {w w' : World} {nd a : Nat} (h : ∃ q, w' = (w.drewN (nd + a)).drewN q) : ∃ n, w' = w.drewN (nd + n) := by
  obtain ⟨q, rfl⟩ := h
  exact ⟨a + q, by rw [World.drewN_drewN, Nat.add_assoc]⟩
/-- What the reference's reading leaves. -/
structure PofR (ns : List Nq) (w w' : World) (v : Value) : Prop where
  low : Below w.heap.size w w'
  row : readC ns = 0 → OwnPr w' w.heap.size v (flatT (rootQ ns))
  bad : readC ns ≠ 0 → v = .slice none 0 0
theorem PofR.no {ns : List Nq} {w w' : World} (h : Below w.heap.size w w') (hc : readC ns ≠ 0) : PofR ns w w' (.slice none 0 0) := ⟨h, fun e => absurd e hc, fun _ => rfl⟩
set_option maxHeartbeats 32000000 in
theorem pairs_any (ns : List Nq) (ao : Option Addr) (cap : Nat) (w : World) (hl : ns.length ≤ 9223372036854775806) (hF : FewKeys ns) (hS : Nodes w ao ns) :
    Calls Try.prog 14 #[.agg #[.slice ao ns.length cap]] w fun e w' => ∃ v, e = .returned (.tuple #[v, .int .i64 (readC ns)]) ∧ PofR ns w w' v := by
  have hget : ∀ j, j < ns.length → ∃ n, ns[j]? = some n := fun j hj => ⟨ns[j], List.getElem?_eq_getElem hj⟩
  have hat : ∀ (j : Nat) (n : Nq), ns[j]? = some n → ∃ (a o : Nat) (s : NqS), ao = some ⟨a, o, none⟩ ∧ a < w.heap.size ∧ NqIn w n s ∧ w.cell? ⟨a, o + j * 3, none⟩ = some (.slice s.ak n.keys.length s.ck) ∧ w.cell? ⟨a, o + j * 3 + 1, none⟩ = some (.slice s.av n.vals.length s.cv) ∧ w.cell? ⟨a, o + j * 3 + 2, none⟩ = some (.slice s.ac n.kids.length s.cc) := fun j n h => hS.at h
  have hfew : ∀ (j : Nat) (n : Nq), ns[j]? = some n → n.keys.length ≤ 8796093022208 := fun j n h => hF n (List.mem_of_getElem? h)
  have hinn : ∀ W, Below w.heap.size w W → ns.length ≤ 100 → 0 < ns.length → ∀ W', ISt W W' W.heap.size (List.replicate ns.length 0) → Calls Try.prog 29 #[.agg #[.slice ao ns.length cap], .int .i64 0, .slice (some ⟨W.heap.size, 0, none⟩) ns.length ns.length] W' fun e w' => InnQ W W' W.heap.size ns.length (innerR ns ns.length 0 (List.replicate ns.length 0)) e w' := fun W hW h100 hn W' hI => inner_any W ns ao cap ns.length h100 hF (hS.keep hW) ns.length (by omega) 0 hn (by omega) _ W' (by simp) (fun j => by
    simp only [List.getD_eq_getElem?_getD, List.getElem?_replicate]; split <;> simp) hI
  obtain ⟨L, hL⟩ : ∃ L, ns.length = L := ⟨_, rfl⟩
  obtain ⟨R, hR⟩ : ∃ R, readC ns = R := ⟨_, rfl⟩
  rw [hR]
  rw [hL] at hl hget hinn ⊢
  have HR := Lib.hid hR
  have HL := Lib.hid hL
  have HGET := Lib.hid hget
  have HAT := Lib.hid hat
  have HFEW := Lib.hid hfew
  have HINN := Lib.hid hinn
  have HNO : Hid (∀ w' c, Below w.heap.size w w' → R = c → c ≠ 0 → ∃ v, Ending.returned (.tuple #[.slice none 0 0, .int .i64 c]) = .returned (.tuple #[v, .int .i64 R]) ∧ PofR ns w w' v) := Lib.hid (fun w' c hb h1 h2 => ⟨_, by rw [h1], .no hb (by rw [hR, h1]; exact h2)⟩)
  have z0 := Blk.new w #[.slice ao L cap] 24
  have hb0 := (Below.refl w.heap.size w).alloc (Nat.le_refl _) (.cells #[.slice ao L cap] 24)
  generalize hw0 : w.alloc (.cells #[.slice ao L cap] 24) = w0 at z0 hb0
  have HW0 := Lib.hid hw0
  have p0 := z0.cell (j := 0) rfl
  have hzl := z0.lt
  have HP : Hid (∀ W, Below w0.heap.size w0 W → W.cell? ⟨w.heap.size, 0, none⟩ = some (.slice ao L cap)) := Lib.hid (fun W hW => (hW.cell (p := ⟨w.heap.size, 0, none⟩) hzl).trans p0)
  have HB0 := Lib.hid hb0
  have HLOW : Hid (∀ W, Below w0.heap.size w0 W → Below w.heap.size w W) := Lib.hid (fun W hW => below_stepE hb0 hb0.size hW)
  clear hget hat hfew hinn hR hL hS hF hw0 z0 hb0 hzl
  go_enter Try.func14, Try.ntmps14
  go_upto_region 1 with fail
  rw [HW0.out]
  clear HW0
  by_cases h100 : L ≤ 100
  · have i100 : ¬ (100 : Int) < (L : Int) := by omega
    go_wp2_with fail
    clear p0
    go_loopw [4, 23] (fun rm ix wr => ∃ (j r : Nat), j ≤ L ∧ ix = .int .i64 j ∧ rm = .int .i64 r ∧ Hid (r + sumK (ns.take j) = 100) ∧ Hid (∀ (q : Nat) (n : Nq), ns[q]? = some n → q < j → longN n = false) ∧ Hid (Below w0.heap.size w0 wr)) (fun _ ix _ => L - (intOf ix).toNat)
    case atStart => exact ⟨0, 100, Nat.zero_le _, rfl, rfl, Lib.hid (by simp [sumK]), Lib.hid (fun q n _ h => absurd h (Nat.not_lt_zero q)), Lib.hid (Below.refl _ _)⟩
    case round =>
      obtain ⟨j, r, hj, rfl, rfl, hr, hdone, hbw⟩ := hrel
      by_cases hlt : j < L
      · have iI : (j : Int) < (L : Int) := by omega
        obtain ⟨n, hnj⟩ := HGET.out j hlt
        obtain ⟨a, o, s, rfl, ha, hin, x0, x1, x2⟩ := HAT.out j n hnj
        have hbl := HLOW.out wr hbw.out
        have d0 := (hbl.cell (p := ⟨a, o + j * 3, none⟩) ha).trans x0
        have d1 := (hbl.cell (p := ⟨a, o + j * 3 + 1, none⟩) ha).trans x1
        have d2 := (hbl.cell (p := ⟨a, o + j * 3 + 2, none⟩) ha).trans x2
        have hk8 := HFEW.out j n hnj
        have hsum := sumK_take ns j n hnj
        have HNJ := Lib.hid hnj
        have HK : Hid (∀ q, q < n.keys.length → ∃ (key : List UInt8) (kb ko : Nat), n.keys[q]? = some key ∧ s.ak = some ⟨kb, ko, none⟩ ∧ kb < w.heap.size ∧ w.cell? ⟨kb, ko + q, none⟩ = some (.string (str key))) := Lib.hid (fun q hq => by
          have h1 : n.keys[q]? = some n.keys[q] := List.getElem?_eq_getElem hq
          rcases hin.K with e | ⟨kb, ko, k1, k2, k3⟩
          · have h0 : n.keys.length = 0 := by rw [e]; rfl
            omega
          exact ⟨_, kb, ko, h1, k1, k2, k3 q _ h1⟩)
        obtain ⟨K, hK⟩ : ∃ K, n.keys.length = K := ⟨_, rfl⟩
        rw [hK] at d0 hk8 hsum HK
        have HKL := Lib.hid hK
        have HSUM := Lib.hid hsum
        obtain ⟨ak, ck, av, cv, ac, cc⟩ := s
        simp only at d0 d1 d2 HK
        generalize n.vals.length = V at *
        generalize n.kids.length = C at *
        have hz : Blk _ _ _ [_, _, _] := Blk.new wr #[.slice ak K ck, .slice av V cv, .slice ac C cc] 51
        have hb := hbw.out.alloc hbw.out.size (.cells #[.slice ak K ck, .slice av V cv, .slice ac C cc] 51)
        clear x0 x1 x2 hnj hin hbw hsum hK hbl
        go_upto_region 7 with fail
        generalize hwa : wr.alloc (.cells #[.slice ak K ck, .slice av V cv, .slice ac C cc] 51) = wa at *
        clear hwa d0 d1 d2
        have p0 := hz.cell (j := 0) rfl
        have HBW := Lib.hid hb
        clear hz hb
        by_cases hroom : r < K
        · have iR : (r : Int) < (K : Int) := by omega
          have hR1 : R = 1 := by
            rw [← HR.out]
            exact readC_small ns (small_sum ns (j + 1) (by have := HSUM.out; have := hr.out; omega))
          have HR1 := Lib.hid hR1
          clear hR1
          go_wp2_with fail
          go_ret2
          exact HNO.out _ 1 (HLOW.out _ HBW.out) HR1.out (by decide)
        · have iR : ¬ (r : Int) < (K : Int) := by omega
          obtain ⟨r2, hr2⟩ : ∃ r2 : Nat, r = r2 + K := ⟨r - K, by omega⟩
          have wR : IntKind.i64.wrap ((r : Int) - (K : Int)) = (r2 : Int) := by have := hr.out; rw [IntKind.wrap_i64]; omega
          have HR2 : Hid (r2 + sumK (ns.take (j + 1)) = 100) := Lib.hid (by have := HSUM.out; have := hr.out; omega)
          clear hr2
          go_wp2_with fail
          clear wR
          go_loopw [8, 40] (fun _ ix wx => ∃ (q : Nat), q ≤ K ∧ ix = .int .i64 q ∧ Hid (∀ (p : Nat) (key : List UInt8), n.keys[p]? = some key → p < q → longQ key = false) ∧ wx = wa) (fun _ ix _ => K - (intOf ix).toNat)
          case atStart => exact ⟨0, Nat.zero_le _, rfl, Lib.hid (fun q n _ h => absurd h (Nat.not_lt_zero q)), rfl⟩
          case round =>
            obtain ⟨q, hq, rfl, hdk, rfl⟩ := hrel
            by_cases hqK : q < K
            · have iQ : (q : Int) < (K : Int) := by omega
              obtain ⟨key, kb, ko, hkey, rfl, hkb, xk⟩ := HK.out q hqK
              have dk := ((HLOW.out wr HBW.out).cell (p := ⟨kb, ko + q, none⟩) hkb).trans xk
              have hsz := str_size key
              obtain ⟨b, hb⟩ : ∃ b, longQ key = b := ⟨_, rfl⟩
              have hI : decide ((60 : Int) < ((str key).size : Int)) = b := by rw [← hb, hsz]; unfold longQ; congr 1; simp; omega
              have HB := Lib.hid hb
              have HKEY := Lib.hid hkey
              generalize str key = S at *
              clear hsz hb hkey xk
              cases b
              · have hd2 : ∀ (p : Nat) (key : List UInt8), n.keys[p]? = some key → p < q + 1 → longQ key = false := fun p u hu hp => by
                  by_cases e : p = q
                  · subst e
                    rw [HKEY.out] at hu
                    obtain rfl := Option.some.inj hu
                    exact HB.out
                  · exact hdk.out p u hu (by omega)
                have HD2 := Lib.hid hd2
                clear hd2 hdk
                go_wp2_with fail
                go_roundw
                case rel => exact ⟨q + 1, by omega, by go_num, HD2, trivial⟩
                case measure => simp [intOf]; omega
              · have hR1 : R = 1 := by
                  rw [← HR.out]
                  exact readC_small ns (small_long ns j n HNJ.out (List.any_eq_true.2 ⟨key, List.mem_of_getElem? HKEY.out, HB.out⟩))
                have HR1 := Lib.hid hR1
                clear hR1
                go_wp2_with fail
                go_ret2
                exact HNO.out _ 1 (HLOW.out _ HBW.out) HR1.out (by decide)
            · have iQ : ¬ (q : Int) < (K : Int) := by omega
              have hlong : longN n = false := by
                unfold longN
                rw [List.any_eq_false]
                intro u hu
                obtain ⟨p, hp⟩ := List.getElem?_of_mem hu
                rw [hdk.out p u hp (by have := (List.getElem?_eq_some_iff.1 hp).1; have := HKL.out; omega)]
                decide
              have hd2 : ∀ (p : Nat) (m : Nq), ns[p]? = some m → p < j + 1 → longN m = false := fun p u hu hp => by
                by_cases e : p = j
                · subst e
                  rw [HNJ.out] at hu
                  obtain rfl := Option.some.inj hu
                  exact hlong
                · exact hdone.out p u hu (by omega)
              have HD2 := Lib.hid hd2
              clear hd2 hdone hdk hlong
              go_wp2_with fail
              go_roundw
              case rel => exact ⟨j + 1, r2, by omega, by go_num, by go_num, HR2, HD2, HBW⟩
              case measure => simp [intOf]; omega
      · have iI : ¬ (j : Int) < (L : Int) := by omega
        have hsm : smallQ ns = true := small_ok ns (by rw [HL.out]; exact h100) (by have := hr.out; rw [List.take_of_length_le (by rw [HL.out]; omega)] at this; omega) (fun q n hq => hdone.out q n hq (by have := (List.getElem?_eq_some_iff.1 hq).1; have := HL.out; omega))
        have HSM := Lib.hid hsm
        have hbl := HLOW.out wr hbw.out
        have HBL := Lib.hid hbl
        have p0 := HP.out wr hbw.out
        have HPB := Lib.hid hbw.out
        clear hsm hdone hr hbl
        by_cases hn : L = 0
        · have iZ : (L : Int) = 0 := by omega
          obtain ⟨e1, e2⟩ := readC_none ns (by rw [HL.out]; exact hn)
          have HE1 : Hid (R = 0) := Lib.hid (by rw [← HR.out]; exact e1)
          have HE2 := Lib.hid e2
          clear e1 e2
          go_wp2_with fail
          go_ret2
          exact ⟨_, by rw [HE1.out]; rfl, HBL.out, fun _ => by rw [HE2.out]; exact OwnPr.nil _ _, fun h => by rw [HR.out, HE1.out] at h; exact absurd rfl h⟩
        · have iZ : ¬ (L : Int) = 0 := by omega
          have hmk := make_ints L (by omega) wr
          have z1 : Blk (wr.alloc (.cells (natsV (List.replicate L 0)).toArray 3)) wr.heap.size 3 (natsV (List.replicate L 0)) := Blk.new wr (natsV (List.replicate L 0)).toArray _
          have hb1 := (Below.refl wr.heap.size wr).alloc (Nat.le_refl _) (.cells (natsV (List.replicate L 0)).toArray 3)
          have n1 : (wr.alloc (.cells (natsV (List.replicate L 0)).toArray 3)).heap.size = wr.heap.size + 1 := by simp
          generalize hw1 : wr.alloc (.cells (natsV (List.replicate L 0)).toArray 3) = w1 at z1 hb1 n1
          have HW1 := Lib.hid hw1
          have cI := HINN.out wr HBL.out h100 (by omega) w1 ⟨hb1, by omega, z1⟩
          have p1 : w1.cell? ⟨w.heap.size, 0, none⟩ = some (.slice ao L cap) := (hb1.cell (p := ⟨w.heap.size, 0, none⟩) (by have := HB0.out; have h2 := World.block_lt_of_cell? wr ⟨w.heap.size, 0, none⟩ p0; exact h2)).trans p0
          clear z1 hb1 n1 hw1
          go_upto_region 20 with fail
          rw [HW1.out]
          clear HW1 hmk p0
          go_wp2_with fail
          refine cI.mono ?_
          rintro e w2 hQ
          clear cI p1
          have hend := inn_end (by rw [HL.out]; omega) (by rw [HL.out]; exact h100) HSM.out (by rw [HL.out]; exact hQ)
          obtain ⟨b0, s, m, v, d, rfl, hO, hI, hsl, hml, hsh, hf3, hf0⟩ := hend
          rw [HL.out] at hsl
          rw [HR.out] at hf3 hf0
          have HLW : Hid (Below w.heap.size w w2) := Lib.hid (below_stepE HBL.out HBL.out.size hI.low)
          have HOW : Hid (OwnPr w2 w.heap.size v m) := Lib.hid (owns_base hO (by have := HBL.out.size; omega))
          have HF3 := Lib.hid hf3
          have HF0 := Lib.hid hf0
          have HSL := Lib.hid hsl
          have HC : Hid (∀ (j x : Nat), s[j]? = some x → w2.cell? ⟨wr.heap.size, j, none⟩ = some (.int .i64 (x : Int))) := Lib.hid (fun j x hx => hI.cnt.cell (by unfold natsV; rw [List.getElem?_map, hx]; rfl))
          have hM : ∃ M, m.length = M := ⟨_, rfl⟩
          obtain ⟨M, hM⟩ := hM
          obtain ⟨av, cv, ev, -⟩ := owns_shape hO
          rw [hM] at ev hml
          subst ev
          have HRW : Hid (∀ j e, m[j]? = some e → ∃ b, av = some ⟨b, 0, none⟩ ∧ w2.cell? ⟨b, j * 2, none⟩ = some (.string (str e.1)) ∧ (str e.1).size ≤ 9223372036854775807) := Lib.hid (fun j e he => by
            rw [← hM] at hO
            obtain ⟨b, h1, -, -, h2, -⟩ := hO.cell he
            exact ⟨b, h1, h2, by have := hsh e (List.mem_of_getElem? he); rw [str_size]; omega⟩)
          have HM := Lib.hid hM
          clear hQ hf3 hf0 hsl hI hO hM
          generalize wr.heap.size = g at *
          go_wp2_with fail
          go_loopw [12, 66] (fun ov ix wx => ∃ (q : Nat) (b : Bool), q ≤ L ∧ ix = .int .i64 q ∧ ov = .bool b ∧ Hid (b = (b0 && (s.take q).all (fun x => x == 1))) ∧ w2 = wx) (fun _ ix _ => L - (intOf ix).toNat)
          case atStart => exact ⟨0, b0, Nat.zero_le _, rfl, rfl, Lib.hid (by simp), rfl⟩
          case round =>
            obtain ⟨q, b, hq, rfl, rfl, hb, rfl⟩ := hrel
            by_cases hqL : q < L
            · have iQ : (q : Int) < (L : Int) := by omega
              obtain ⟨x, hx⟩ : ∃ x, s[q]? = some x := ⟨s[q]'(by rw [HSL.out]; exact hqL), List.getElem?_eq_getElem _⟩
              have c0 := HC.out q x hx
              obtain ⟨y, hy⟩ : ∃ y, ((x : Int) == 1) = y := ⟨_, rfl⟩
              have hb2 : (b && y) = (b0 && (s.take (q + 1)).all (fun x => x == 1)) := by
                rw [all_take s q x hx, ← Bool.and_assoc, ← hb.out, ← hy]
                congr 1
                rw [Bool.eq_iff_iff]; simp; omega
              obtain ⟨xi, hxi⟩ : ∃ xi : Int, (x : Int) = xi := ⟨_, rfl⟩
              rw [hxi] at c0 hy
              have HB2 := Lib.hid hb2
              clear hx hb2 hxi hb
              cases b
              · have HB3 : Hid (false = (b0 && (s.take (q + 1)).all (fun x => x == 1))) := Lib.hid (by rw [← HB2.out]; rfl)
                go_wp2_with fail
                go_roundw
                case rel => exact ⟨q + 1, false, by omega, by go_num, rfl, HB3, trivial⟩
                case measure => simp [intOf]; omega
              · have HB3 : Hid (y = (b0 && (s.take (q + 1)).all (fun x => x == 1))) := Lib.hid (by rw [← HB2.out]; rfl)
                go_wp2_with fail
                go_roundw
                case rel => exact ⟨q + 1, y, by omega, by go_num, rfl, HB3, trivial⟩
                case measure => simp [intOf]; omega
            · have iQ : ¬ (q : Int) < (L : Int) := by omega
              obtain ⟨keys, hkeys⟩ : ∃ l, m.map Prod.fst = l := ⟨_, rfl⟩
              have hb1 : b = (b0 && s.all (fun x => x == 1)) := by have := hb.out; rw [List.take_of_length_le (by rw [HSL.out]; omega)] at this; exact this
              rw [← hb1, hkeys] at HF3 HF0
              have HKL : Hid (keys.length = M) := Lib.hid (by rw [← hkeys, List.length_map]; exact HM.out)
              have HKE : Hid (∀ j, j < M → ∃ (key : List UInt8) (bb : Nat), keys[j]? = some key ∧ av = some ⟨bb, 0, none⟩ ∧ w2.cell? ⟨bb, j * 2, none⟩ = some (.string (str key)) ∧ (str key).size ≤ 9223372036854775807) := Lib.hid (fun j hj => by
                have h1 : m[j]? = some (m[j]'(by rw [HM.out]; exact hj)) := List.getElem?_eq_getElem _
                obtain ⟨bb, h2, h3, h4⟩ := HRW.out j _ h1
                exact ⟨_, bb, by rw [← hkeys, List.getElem?_map, h1]; rfl, h2, h3, h4⟩)
              clear hb hb1 hkeys
              obtain ⟨FIN, hFIN⟩ : ∃ z, (b && riseR keys) = z := ⟨_, rfl⟩
              rw [hFIN] at HF3 HF0
              have HR0 : Hid ((b && riseR (keys.drop 0)) = FIN) := Lib.hid (by rw [List.drop_zero]; exact hFIN)
              clear hFIN
              go_wp2_with fail
              go_loopw [12, 15] (fun ov ix wx => ∃ (q : Nat) (b : Bool), (q = 0 ∨ q + 1 ≤ M) ∧ ix = .int .i64 ((q : Int) + 1) ∧ ov = .bool b ∧ Hid ((b && riseR (keys.drop q)) = FIN) ∧ ∃ nd, wx = w2.drewN nd) (fun _ ix _ => M - (intOf ix).toNat)
              case atStart => exact ⟨0, b, .inl rfl, rfl, rfl, HR0, 0, rfl⟩
              case round =>
                obtain ⟨q, b, hq, rfl, rfl, hr, nd, rfl⟩ := hrel
                clear HR0
                by_cases hlt : q + 1 < M
                · have iI : (q : Int) + 1 < (M : Int) := by omega
                  obtain ⟨s0, bb, hs0, rfl, x0, z0⟩ := HKE.out q (by omega)
                  obtain ⟨s1, b1, hs1, hbb, x1, z1⟩ := HKE.out (q + 1) hlt
                  cases hbb
                  have hr2 := hr.out
                  rw [rise_step keys q s0 s1 hs0 hs1, ← Bool.and_assoc] at hr2
                  have HR2 := Lib.hid hr2
                  have iq : (q : Int) < (M : Int) := by omega
                  have w1 : IntKind.i64.wrap ((q : Int) + 1 - 1) = (q : Int) := by rw [IntKind.wrap_i64]; omega
                  have w3 : IntKind.i64.wrap (q : Int) = (q : Int) := by rw [IntKind.wrap_i64]; omega
                  cases b
                  · have HR3 : Hid ((false && riseR (keys.drop (q + 1))) = FIN) := Lib.hid (by rw [← HR2.out]; rfl)
                    clear hs0 hs1 x0 x1 hr2 hr
                    go_wp2_with fail
                    go_upto_region 29 with fail
                    go_quiet (fail)
                    go_wp2_with fail
                    go_roundw
                    case rel => exact ⟨q + 1, false, .inr (by omega), by go_num, rfl, HR3, _, (by first | rfl | (simp only [World.drewN_drewN]; rfl))⟩
                    case measure => simp [intOf]; omega
                  · have cB := fun W => bytesOrder_q (str s0) (str s1) W z0 z1
                    have hc := cmp_lt s0 s1
                    rw [str_data, str_data] at cB
                    obtain ⟨y, hy⟩ : ∃ y, lessS s0 s1 = y := ⟨_, rfl⟩
                    rw [hy] at hc
                    rw [hy] at hr2
                    have HR3 : Hid ((y && riseR (keys.drop (q + 1))) = FIN) := Lib.hid (by rw [← hr2]; rfl)
                    generalize Lib.compareBytes s0 s1 = D at *
                    generalize str s0 = S0 at *
                    generalize str s1 = S1 at *
                    clear hs0 hs1 hr2 hr hy HR2
                    go_wp2_with fail
                    go_upto_region 29 with fail
                    go_quiet ((go_at_call 30; exact (cB _).mono fun e w' h => ⟨h.1, drew_more h.2⟩))
                    go_wp2_with fail
                    go_roundw
                    case rel => exact ⟨q + 1, y, .inr (by omega), by go_num, rfl, HR3, _, (by first | rfl | (simp only [World.drewN_drewN]; rfl))⟩
                    case measure => simp [intOf]; omega
                · have iI : ¬ (q : Int) + 1 < (M : Int) := by omega
                  have hr2 := hr.out
                  rw [riseR_short _ (by rw [List.length_drop, HKL.out]; omega), Bool.and_true] at hr2
                  subst hr2
                  have HLN : Hid (Below w.heap.size w (w2.drewN nd)) := Lib.hid (below_dqT HLW.out nd)
                  cases b
                  · have HR3 := Lib.hid (HF3.out rfl)
                    clear hr
                    go_wp2_with fail
                    go_ret2
                    exact HNO.out _ 3 HLN.out HR3.out (by decide)
                  · have HR0 := Lib.hid (HF0.out rfl)
                    clear hr
                    go_wp2_with fail
                    go_ret2
                    exact ⟨_, by rw [HR0.out.1]; rfl, HLN.out, fun _ => by rw [HR0.out.2]; exact HOW.out.keep (below_dqT (Below.refl _ _) nd), fun h => absurd HR0.out.1 (by rw [← HR.out]; exact h)⟩
  · have i100 : (100 : Int) < (L : Int) := by omega
    have hR1 : R = 1 := by rw [← HR.out]; exact readC_small ns (small_big ns (by rw [HL.out]; exact h100))
    have HR1 := Lib.hid hR1
    clear hR1
    go_wp2_with fail
    go_ret2
    exact HNO.out _ 1 HB0.out HR1.out (by decide)
end Go.Proofs.Ytopgakdgifmecaa
