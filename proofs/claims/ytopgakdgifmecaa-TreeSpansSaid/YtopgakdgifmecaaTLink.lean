/-
  CONTRACT of package tree's linked.
  CONDITIONS: each theorem's own hypotheses.
-/
import Derived.Test.YtopgakdgifmecaaTSmall
import Derived.Laws.MakeOwn
namespace Go.Proofs.Ytopgakdgifmecaa
open Go.RowKit
set_option linter.unusedVariables false
set_option maxRecDepth 100000

def boolsV (h : List Bool) : List Value := h.map Value.bool
theorem infoBool : (Try.prog.info? 4).map (fun i => (i.zero, i.size, i.bytes)) = some (some (.bool false), 1, 1) := by kernel_rfl
theorem made_one (v : Value) (n : Nat) : madeCells #[v] n = (List.replicate n v).toArray := by
  apply Array.ext
  · simp [madeCells]
  · intro i h1 h2
    simp [madeCells, Nat.mod_one]
theorem make_bools (n : Nat) (hn : n ≤ 1000000) (W : World) : (Instr.makeSlice 93 (.int .i64 (n : Int)) (.int .i64 (n : Int))).run Try.prog W = .ok (.slice (some ⟨W.heap.size, 0, none⟩) n n) (W.alloc (.cells (boolsV (List.replicate n false)).toArray 4)) := by
  obtain ⟨i0, hi, hz0, hz1, hz2⟩ := info_parts infoBool
  have := run_make (P := Try.prog) W _ _ i0 _ Try.underlying93 hi hz0 .i64 .i64 n n (by omega) (Int.le_refl _) (by rw [hz2]; omega) (by omega)
  simp only [Int.toNat_natCast, hz1, Nat.mul_one] at this
  rw [this]
  have e : madeCells (Value.bool false).cells n = (boolsV (List.replicate n false)).toArray := by
    show madeCells #[Value.bool false] n = _
    rw [made_one]
    simp [boolsV]
  rw [← e]
/-- What is left to be looked at: the rest of a node's kids, then the nodes behind it. -/
def contL (len j : Nat) (ks : List Int) (ns : List Nq) (h : List Bool) : Bool := match kidsLk len j ks h with
  | none => false
  | some h' => linkR len (j + 1) ns h'
theorem contL_nil (len j : Nat) (ns : List Nq) (h : List Bool) : contL len j [] ns h = linkR len (j + 1) ns h := rfl
theorem contL_cons (len j : Nat) (k : Int) (ks : List Int) (ns : List Nq) (h : List Bool) : contL len j (k :: ks) ns h = if k ≤ (j : Int) ∨ (len : Int) ≤ k ∨ h.getD k.toNat false = true then false else contL len j ks ns (h.set k.toNat true) := by
  unfold contL
  simp only [kidsLk]
  by_cases c : k ≤ (j : Int) ∨ (len : Int) ≤ k ∨ h.getD k.toNat false = true
  · rw [if_pos c, if_pos c]
  · rw [if_neg c, if_neg c]
theorem linkR_cons (len j : Nat) (n : Nq) (ns : List Nq) (h : List Bool) : linkR len j (n :: ns) h = if wholeQ n = false ∨ (0 < j ∧ h.getD j false = false) then false else contL len j n.kids ns h := rfl
theorem drop_at {α : Type} (l : List α) (j : Nat) (x : α) (h : l[j]? = some x) : l.drop j = x :: l.drop (j + 1) := by
  obtain ⟨hj, he⟩ := List.getElem?_eq_some_iff.1 h
  rw [List.drop_eq_getElem_cons hj, he]
theorem bools_get (h : List Bool) (j : Nat) (hj : j < h.length) : (boolsV h)[j]? = some (.bool (h.getD j false)) := by
  unfold boolsV
  rw [List.getElem?_map, List.getElem?_eq_getElem hj, List.getD_eq_getElem?_getD, List.getElem?_eq_getElem hj]; rfl
theorem bools_set (h : List Bool) (j : Nat) (b : Bool) : (boolsV h).set j (.bool b) = boolsV (h.set j b) := by
  unfold boolsV; rw [List.map_set]
set_option maxHeartbeats 16000000 in
theorem linked_any (ns : List Nq) (ao : Option Addr) (cap : Nat) (w : World) (hl : ns.length ≤ 100) (hF : FewKeys ns) (hS : Nodes w ao ns) :
    Calls Try.prog 41 #[.slice ao ns.length cap] w fun e w' => e = .returned (.bool (linkR ns.length 0 ns (List.replicate ns.length false))) ∧ Below w.heap.size w w' := by
  have hget : ∀ j, j < ns.length → ∃ n, ns[j]? = some n := fun j hj => ⟨ns[j], List.getElem?_eq_getElem hj⟩
  have hat : ∀ (j : Nat) (n : Nq), ns[j]? = some n → ∃ (a o : Nat) (s : NqS), ao = some ⟨a, o, none⟩ ∧ a < w.heap.size ∧ (∀ W, Calls Try.prog 55 #[nqV n s] W fun e w' => e = .returned (.bool (wholeQ n)) ∧ Below W.heap.size W w') ∧ (w.cell? ⟨a, o + j * 3, none⟩ = some (.slice s.ak n.keys.length s.ck) ∧ w.cell? ⟨a, o + j * 3 + 1, none⟩ = some (.slice s.av n.vals.length s.cv) ∧ w.cell? ⟨a, o + j * 3 + 2, none⟩ = some (.slice s.ac n.kids.length s.cc)) ∧
      (∀ (q : Nat) (k : Int), n.kids[q]? = some k → (-9223372036854775808 ≤ k ∧ k ≤ 9223372036854775807) ∧ ∃ b p, s.ac = some ⟨b, p, none⟩ ∧ b < w.heap.size ∧ w.cell? ⟨b, p + q, none⟩ = some (.int .i64 k)) ∧ n.kids.length ≤ 9223372036854775807 := fun j n h => by
    obtain ⟨a, o, s, h1, h2, h3, h4⟩ := hS.at h
    refine ⟨a, o, s, h1, h2, fun W => whole_any n s W (by have := hF n (List.mem_of_getElem? h); omega) (by have := h3.v1; have := h3.v2; omega) (by have := h3.c1; have := h3.c2; omega), h4, fun q k hq => ⟨h3.C.1 k (List.mem_of_getElem? hq), ?_⟩, by have := h3.c1; have := h3.c2; omega⟩
    rcases h3.C.2 with h | ⟨b, p, g1, g2, g3⟩
    · rw [h] at hq; simp at hq
    · exact ⟨b, p, g1, g2, g3 q k hq⟩
  obtain ⟨L, hL⟩ : ∃ L, ns.length = L := ⟨_, rfl⟩
  have hdrop : ∀ (j : Nat) (n : Nq), ns[j]? = some n → ns.drop j = n :: ns.drop (j + 1) := fun j n h => drop_at ns j n h
  have hend : ∀ j, ¬ j < L → ns.drop j = [] := fun j hj => List.drop_of_length_le (by omega)
  obtain ⟨R, hR⟩ : ∃ R, linkR ns.length 0 ns (List.replicate ns.length false) = R := ⟨_, rfl⟩
  rw [hL] at hl hget hR ⊢
  rw [hR]
  have hR0 : Hid (linkR L 0 (ns.drop 0) (List.replicate L false) = R) := Lib.hid (by rw [List.drop_zero]; exact hR)
  have HGET := Lib.hid hget
  have HAT := Lib.hid hat
  have HDROP := Lib.hid hdrop
  have HEND := Lib.hid hend
  have hmk := fun W => make_bools L (by omega) W
  have z0 : Blk (w.alloc (.cells (boolsV (List.replicate L false)).toArray 4)) w.heap.size 4 (boolsV (List.replicate L false)) := Blk.new w (boolsV (List.replicate L false)).toArray _
  have hb0 := (Below.refl w.heap.size w).alloc (Nat.le_refl _) (.cells (boolsV (List.replicate L false)).toArray 4)
  generalize hw0 : w.alloc (.cells (boolsV (List.replicate L false)).toArray 4) = w0 at z0 hb0
  have hrep : (List.replicate L false).length = L := List.length_replicate
  generalize List.replicate L false = h0 at *
  have HW0 := Lib.hid hw0
  have HREP := Lib.hid hrep
  clear hget hat hdrop hend hR hL hS hF hw0 hrep
  go_enter Try.func41, Try.ntmps41
  go_upto_region 2 with fail
  rw [HW0.out]
  clear HW0 hmk
  go_wp2_with fail
  go_loopw [13] (fun ix wr => ∃ (j : Nat) (h : List Bool), j ≤ L ∧ ix = .int .i64 j ∧ Hid (h.length = L) ∧ Hid (linkR L j (ns.drop j) h = R) ∧ Hid (Blk wr w.heap.size 4 (boolsV h)) ∧ Hid (Below w.heap.size w wr)) (fun ix _ => L - (intOf ix).toNat)
  case atStart => exact ⟨0, h0, Nat.zero_le _, rfl, HREP, hR0, Lib.hid z0, Lib.hid hb0⟩
  case round =>
    obtain ⟨j, h, hj, rfl, hhl, hlk, hz, hbw⟩ := hrel
    clear z0 hb0 hR0 HREP
    by_cases hlt : j < L
    · have iI : (j : Int) < (L : Int) := by omega
      obtain ⟨n, hnj⟩ := HGET.out j hlt
      obtain ⟨a, o, s, rfl, ha, cW, ⟨x0, x1, x2⟩, hkid, hC⟩ := HAT.out j n hnj
      have d0 := (hbw.out.cell (p := ⟨a, o + j * 3, none⟩) ha).trans x0
      have d1 := (hbw.out.cell (p := ⟨a, o + j * 3 + 1, none⟩) ha).trans x1
      have d2 := (hbw.out.cell (p := ⟨a, o + j * 3 + 2, none⟩) ha).trans x2
      have hlk2 := hlk.out
      rw [HDROP.out j n hnj, linkR_cons] at hlk2
      obtain ⟨wq, hwq⟩ : ∃ b, wholeQ n = b := ⟨_, rfl⟩
      rw [hwq] at hlk2 cW
      have HLK := Lib.hid hlk2
      have HKID := Lib.hid hkid
      obtain ⟨C, hCC⟩ : ∃ C, n.kids.length = C := ⟨_, rfl⟩
      have HKGET : Hid (∀ q, q < C → ∃ k, n.kids[q]? = some k) := Lib.hid (fun q hq => ⟨n.kids[q]'(by omega), List.getElem?_eq_getElem (by omega)⟩)
      have HKEND : Hid (∀ q, ¬ q < C → n.kids.drop q = []) := Lib.hid (fun q hq => List.drop_of_length_le (by omega))
      unfold nqV at cW
      rw [hCC] at cW d2 hC
      obtain ⟨ak, ck, av, cv, ac, cc⟩ := s
      simp only at d0 d1 d2 cW HKID
      generalize n.keys.length = K at *
      generalize n.vals.length = V at *
      have hzn : Blk _ _ _ [_, _, _] := Blk.new wr #[.slice ak K ck, .slice av V cv, .slice ac C cc] 51
      have hba := (Below.refl wr.heap.size wr).alloc (Nat.le_refl _) (.cells #[.slice ak K ck, .slice av V cv, .slice ac C cc] 51)
      have hza := hz.out.call hba
      have hb := below_stepE hbw.out hbw.out.size hba
      clear x0 x1 x2 hnj hlk hlk2 hkid hwq hCC hz hbw
      go_upto_region 5 with fail
      generalize hwa : wr.alloc (.cells #[.slice ak K ck, .slice av V cv, .slice ac C cc] 51) = wa at *
      clear hwa d0 d1 d2 hba
      generalize wr.heap.size = gn at *
      have p0 := hzn.cell (j := 0) rfl
      have p1 := hzn.cell (j := 1) rfl
      have p2 := hzn.cell (j := 2) rfl
      go_wp2_with fail
      refine (cW _).mono ?_
      rintro e w1 ⟨rfl, hb1⟩
      have y0 := hza.call hb1
      have yn := hzn.call hb1
      have hbb := below_stepE hb hb.size hb1
      clear cW hza hzn hb hb1 p0 p1 p2
      have p2 := yn.cell (j := 2) rfl
      have g0 := y0.cell (bools_get h j (by rw [hhl.out]; exact hlt))
      obtain ⟨b, hb⟩ : ∃ b, h.getD j false = b := ⟨_, rfl⟩
      rw [hb] at g0
      obtain ⟨z, hz0⟩ : ∃ z, decide ((0 : Int) < (j : Int)) = z := ⟨_, rfl⟩
      have hcond : (if wq = false ∨ (0 < j ∧ h.getD j false = false) then false else contL L j n.kids (ns.drop (j + 1)) h) = if (!wq || (z && !b)) = true then false else contL L j (n.kids.drop 0) (ns.drop (j + 1)) h := by
        rw [hb, List.drop_zero, ← hz0]
        congr 1
        cases wq <;> cases b <;> simp
      have hlk3 := HLK.out
      rw [hcond] at hlk3
      have HLK3 := Lib.hid hlk3
      clear hlk3 hcond HLK hb
      have hfalse : ∀ (_ : (!wq || (z && !b)) = true), R = false := fun e => by have := HLK3.out; rw [if_pos e] at this; exact this.symm
      have htrue : ∀ (_ : (!wq || (z && !b)) = false), contL L j (n.kids.drop 0) (ns.drop (j + 1)) h = R := fun e => by have := HLK3.out; rw [if_neg (by rw [e]; decide)] at this; exact this
      have HFAL := Lib.hid hfalse
      have HTRU := Lib.hid htrue
      clear hfalse htrue HLK3
      have HY0 := Lib.hid y0
      have HYN := Lib.hid yn
      have HBB := Lib.hid hbb
      clear y0 yn hbb
      cases wq
      · have hR := HFAL.out (by rfl)
        have HR := Lib.hid hR
        clear hR HFAL HTRU
        go_wp2_with fail
        go_ret
        exact ⟨by rw [HR.out]; rfl, HBB.out⟩
      · cases z
        · have HT := HTRU.out (by rfl)
          have iZ : ¬ ((0 : Int) < (j : Int)) := of_decide_eq_false hz0
          clear HFAL HTRU
          go_wp2_with fail
          go_loopw [35] (fun ix wx => ∃ (q : Nat) (h2 : List Bool), q ≤ C ∧ ix = .int .i64 q ∧ Hid (h2.length = L) ∧ Hid (contL L j (n.kids.drop q) (ns.drop (j + 1)) h2 = R) ∧ Hid (Blk wx w.heap.size 4 (boolsV h2)) ∧ Hid (Below w.heap.size w wx)) (fun ix _ => C - (intOf ix).toNat)
          case atStart => exact ⟨0, h, Nat.zero_le _, rfl, hhl, Lib.hid HT, HY0, HBB⟩
          case round =>
            obtain ⟨q, h2, hq, rfl, hh2, hlk, hz, hbw⟩ := hrel
            clear HT HY0 HYN HBB
            by_cases hqC : q < C
            · have iQ : (q : Int) < (C : Int) := by omega
              obtain ⟨k, hkq⟩ := HKGET.out q hqC
              obtain ⟨⟨kr0, kr1⟩, b', p, rfl, hb', xk⟩ := HKID.out q k hkq
              have dk := (hbw.out.cell (p := ⟨b', p + q, none⟩) hb').trans xk
              have hlk2 := hlk.out
              rw [drop_at _ q k hkq, contL_cons] at hlk2
              clear xk hkq hlk
              by_cases c1 : k ≤ (j : Int)
              · have hR : R = false := by rw [if_pos (.inl c1)] at hlk2; exact hlk2.symm
                have HR := Lib.hid hR
                clear hlk2 hR
                go_wp2_with fail
                go_ret
                exact ⟨by rw [HR.out]; rfl, hbw.out⟩
              · by_cases c2 : (L : Int) ≤ k
                · have hR : R = false := by rw [if_pos (.inr (.inl c2))] at hlk2; exact hlk2.symm
                  have HR := Lib.hid hR
                  clear hlk2 hR
                  go_wp2_with fail
                  go_ret
                  exact ⟨by rw [HR.out]; rfl, hbw.out⟩
                · obtain ⟨kn, rfl⟩ : ∃ kn : Nat, k = (kn : Int) := ⟨k.toNat, by omega⟩
                  have hkl : kn < h2.length := by rw [hh2.out]; omega
                  have e0 := hz.out.cell (bools_get h2 kn hkl)
                  have f0 := hz.out.free kn
                  have iK : (kn : Int) < (L : Int) := by omega
                  obtain ⟨b2, hb2⟩ : ∃ b, h2.getD kn false = b := ⟨_, rfl⟩
                  rw [hb2] at e0
                  rw [Int.toNat_natCast, hb2] at hlk2
                  cases b2
                  · have hT : contL L j (n.kids.drop (q + 1)) (ns.drop (j + 1)) (h2.set kn true) = R := by
                      rw [if_neg (by
                        rintro (h | h | h)
                        · exact c1 h
                        · exact c2 h
                        · cases h)] at hlk2
                      exact hlk2
                    have HT2 := Lib.hid hT
                    have hz2 := hz.out.set kn (.bool true)
                    rw [bools_set] at hz2
                    have HZ2 := Lib.hid hz2
                    have HB2 := Lib.hid (hbw.out.setCell (p := ⟨w.heap.size, kn, none⟩) (Nat.le_refl _) (.bool true))
                    have HL2 : Hid ((h2.set kn true).length = L) := Lib.hid (by rw [List.length_set]; exact hh2.out)
                    clear hlk2 hT hz2 hb2 hkl hz hbw
                    go_wp2_with fail
                    go_roundw
                    case rel => exact ⟨q + 1, h2.set kn true, by omega, by go_num, HL2, HT2, HZ2, HB2⟩
                    case measure => simp [intOf]; omega
                  · have hR : R = false := by rw [if_pos (.inr (.inr rfl))] at hlk2; exact hlk2.symm
                    have HR := Lib.hid hR
                    clear hlk2 hR hb2 hkl
                    go_wp2_with fail
                    go_ret
                    exact ⟨by rw [HR.out]; rfl, hbw.out⟩
            · have iQ : ¬ (q : Int) < (C : Int) := by omega
              have hlk2 := hlk.out
              rw [HKEND.out q hqC, contL_nil] at hlk2
              have HL2 := Lib.hid hlk2
              clear hlk2 hlk
              go_wp2_with fail
              go_roundw
              case rel => exact ⟨j + 1, h2, by omega, by go_num, hh2, HL2, hz, hbw⟩
              case measure => simp [intOf]; omega
        · have iZ : ((0 : Int) < (j : Int)) := of_decide_eq_true hz0
          cases b
          · have hR := HFAL.out (by rfl)
            have HR := Lib.hid hR
            clear hR HFAL HTRU
            go_wp2_with fail
            go_ret
            exact ⟨by rw [HR.out]; rfl, HBB.out⟩
          · have HT := HTRU.out (by rfl)
            clear HFAL HTRU
            go_wp2_with fail
            go_loopw [35] (fun ix wx => ∃ (q : Nat) (h2 : List Bool), q ≤ C ∧ ix = .int .i64 q ∧ Hid (h2.length = L) ∧ Hid (contL L j (n.kids.drop q) (ns.drop (j + 1)) h2 = R) ∧ Hid (Blk wx w.heap.size 4 (boolsV h2)) ∧ Hid (Below w.heap.size w wx)) (fun ix _ => C - (intOf ix).toNat)
            case atStart => exact ⟨0, h, Nat.zero_le _, rfl, hhl, Lib.hid HT, HY0, HBB⟩
            case round =>
              obtain ⟨q, h2, hq, rfl, hh2, hlk, hz, hbw⟩ := hrel
              clear HT HY0 HYN HBB
              by_cases hqC : q < C
              · have iQ : (q : Int) < (C : Int) := by omega
                obtain ⟨k, hkq⟩ := HKGET.out q hqC
                obtain ⟨⟨kr0, kr1⟩, b', p, rfl, hb', xk⟩ := HKID.out q k hkq
                have dk := (hbw.out.cell (p := ⟨b', p + q, none⟩) hb').trans xk
                have hlk2 := hlk.out
                rw [drop_at _ q k hkq, contL_cons] at hlk2
                clear xk hkq hlk
                by_cases c1 : k ≤ (j : Int)
                · have hR : R = false := by rw [if_pos (.inl c1)] at hlk2; exact hlk2.symm
                  have HR := Lib.hid hR
                  clear hlk2 hR
                  go_wp2_with fail
                  go_ret
                  exact ⟨by rw [HR.out]; rfl, hbw.out⟩
                · by_cases c2 : (L : Int) ≤ k
                  · have hR : R = false := by rw [if_pos (.inr (.inl c2))] at hlk2; exact hlk2.symm
                    have HR := Lib.hid hR
                    clear hlk2 hR
                    go_wp2_with fail
                    go_ret
                    exact ⟨by rw [HR.out]; rfl, hbw.out⟩
                  · obtain ⟨kn, rfl⟩ : ∃ kn : Nat, k = (kn : Int) := ⟨k.toNat, by omega⟩
                    have hkl : kn < h2.length := by rw [hh2.out]; omega
                    have e0 := hz.out.cell (bools_get h2 kn hkl)
                    have f0 := hz.out.free kn
                    have iK : (kn : Int) < (L : Int) := by omega
                    obtain ⟨b2, hb2⟩ : ∃ b, h2.getD kn false = b := ⟨_, rfl⟩
                    rw [hb2] at e0
                    rw [Int.toNat_natCast, hb2] at hlk2
                    cases b2
                    · have hT : contL L j (n.kids.drop (q + 1)) (ns.drop (j + 1)) (h2.set kn true) = R := by
                        rw [if_neg (by
                          rintro (h | h | h)
                          · exact c1 h
                          · exact c2 h
                          · cases h)] at hlk2
                        exact hlk2
                      have HT2 := Lib.hid hT
                      have hz2 := hz.out.set kn (.bool true)
                      rw [bools_set] at hz2
                      have HZ2 := Lib.hid hz2
                      have HB2 := Lib.hid (hbw.out.setCell (p := ⟨w.heap.size, kn, none⟩) (Nat.le_refl _) (.bool true))
                      have HL2 : Hid ((h2.set kn true).length = L) := Lib.hid (by rw [List.length_set]; exact hh2.out)
                      clear hlk2 hT hz2 hb2 hkl hz hbw
                      go_wp2_with fail
                      go_roundw
                      case rel => exact ⟨q + 1, h2.set kn true, by omega, by go_num, HL2, HT2, HZ2, HB2⟩
                      case measure => simp [intOf]; omega
                    · have hR : R = false := by rw [if_pos (.inr (.inr rfl))] at hlk2; exact hlk2.symm
                      have HR := Lib.hid hR
                      clear hlk2 hR hb2 hkl
                      go_wp2_with fail
                      go_ret
                      exact ⟨by rw [HR.out]; rfl, hbw.out⟩
              · have iQ : ¬ (q : Int) < (C : Int) := by omega
                have hlk2 := hlk.out
                rw [HKEND.out q hqC, contL_nil] at hlk2
                have HL2 := Lib.hid hlk2
                clear hlk2 hlk
                go_wp2_with fail
                go_roundw
                case rel => exact ⟨j + 1, h2, by omega, by go_num, hh2, HL2, hz, hbw⟩
                case measure => simp [intOf]; omega
    · have iI : ¬ (j : Int) < (L : Int) := by omega
      have hlk2 := hlk.out
      rw [HEND.out j hlt] at hlk2
      have hR : R = true := hlk2.symm
      have HR := Lib.hid hR
      clear hlk2 hR hlk
      go_wp2_with fail
      go_ret
      exact ⟨by rw [HR.out]; rfl, hbw.out⟩
end Go.Proofs.Ytopgakdgifmecaa
