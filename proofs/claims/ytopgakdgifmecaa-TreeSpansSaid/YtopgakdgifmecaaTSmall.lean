/-
  CONTRACTS of package tree's small and keysOf.
  CONDITIONS: each theorem's own hypotheses.
-/
import Derived.Test.YtopgakdgifmecaaTNodes
namespace Go.Proofs.Ytopgakdgifmecaa
open Go.RowKit
set_option linter.unusedVariables false
set_option maxRecDepth 100000

def longQ (s : List UInt8) : Bool := decide (60 < s.length)
def sumK (ns : List Nq) : Nat := (ns.map (fun n => n.keys.length)).sum
def longN (n : Nq) : Bool := n.keys.any longQ
/-- Small enough. -/
def smallQ (ns : List Nq) : Bool := !(ns.any longN) && (decide (ns.length ≤ 100) && decide (sumK ns ≤ 100))
theorem tooLong_any (s : List UInt8) (w : World) : Calls Try.prog 53 #[.string (str s)] w fun e w' => e = .returned (.bool (longQ s)) ∧ w' = w := by
  have hsz := str_size s
  obtain ⟨b, hb⟩ : ∃ b, longQ s = b := ⟨_, rfl⟩
  rw [hb]
  have hI : decide ((60 : Int) < ((str s).size : Int)) = b := by rw [← hb, hsz]; unfold longQ; congr 1; simp; omega
  generalize str s = S at *
  clear hsz hb
  go_enter Try.func53, Try.ntmps53
  go_wp2_with fail
  go_ret
  exact ⟨rfl, rfl⟩
set_option maxHeartbeats 8000000 in
theorem indexLong_any (l : List (List UInt8)) (ao : Option Addr) (cap : Nat) (w : World) (hl : l.length ≤ 9223372036854775806) (hS : Strs w ao l) :
    Calls Try.prog 65 #[.slice ao l.length cap, .func (.func 53) #[] #[]] w fun e w' => (∃ n : Int, e = .returned (.int .i64 n) ∧ decide (0 ≤ n) = l.any longQ) ∧ w' = w := by
  have cT := fun s W => tooLong_any s W
  have hget : ∀ j, j < l.length → ∃ s, l[j]? = some s := fun j hj => ⟨l[j], List.getElem?_eq_getElem hj⟩
  have hcell : ∀ j s, l[j]? = some s → ∃ a o, ao = some ⟨a, o, none⟩ ∧ w.cell? ⟨a, o + j, none⟩ = some (.string (str s)) := fun j s hj => by
    rcases hS with h | ⟨a, o, h1, h2, h3⟩
    · rw [h] at hj; simp at hj
    · exact ⟨a, o, h1, h3 j s hj⟩
  have hnone : (∀ j s, l[j]? = some s → longQ s = false) → l.any longQ = false := fun h => by
    rw [List.any_eq_false]
    intro s hs
    obtain ⟨j, hj⟩ := List.getElem?_of_mem hs
    rw [h j s hj]; decide
  have hsome : ∀ j s, l[j]? = some s → longQ s = true → l.any longQ = true := fun j s hj h => List.any_eq_true.2 ⟨s, List.mem_of_getElem? hj, h⟩
  obtain ⟨L, hL⟩ : ∃ L, l.length = L := ⟨_, rfl⟩
  obtain ⟨R, hR⟩ : ∃ R, l.any longQ = R := ⟨_, rfl⟩
  rw [hR] at hnone hsome ⊢
  rw [hL] at hl hget ⊢
  have HGET := Lib.hid hget
  have HCELL := Lib.hid hcell
  have HNONE := Lib.hid hnone
  have HSOME := Lib.hid hsome
  have HLEN : Hid (∀ j s, l[j]? = some s → j < L) := Lib.hid (fun j s h => by have := (List.getElem?_eq_some_iff.1 h).1; omega)
  clear hget hcell hnone hsome hR hL hS
  go_enter Try.func65, Try.ntmps65
  go_wp2_with fail
  go_loopw [8] (fun ix wr => ∃ j : Nat, j ≤ L ∧ ix = .int .i64 j ∧ Hid (∀ q s, l[q]? = some s → q < j → longQ s = false) ∧ wr = w) (fun ix _ => L - (intOf ix).toNat)
  case atStart => exact ⟨0, Nat.zero_le _, rfl, Lib.hid (fun q s _ h => absurd h (Nat.not_lt_zero q)), rfl⟩
  case round =>
    obtain ⟨j, hj, rfl, hdone, rfl⟩ := hrel
    by_cases hlt : j < L
    · have iI : (j : Int) < (L : Int) := by omega
      obtain ⟨s, hsj⟩ := HGET.out j hlt
      obtain ⟨a, o, rfl, p0⟩ := HCELL.out j s hsj
      have cc := cT s
      obtain ⟨q, hq⟩ : ∃ q, longQ s = q := ⟨_, rfl⟩
      rw [hq] at cc
      have HQ := Lib.hid hq
      have HSJ := Lib.hid hsj
      generalize str s = S at *
      clear hq hsj cT
      go_wp2_with fail
      refine (cc _).mono ?_
      rintro e w1 ⟨rfl, rfl⟩
      clear cc
      cases q
      · have hd2 : ∀ q s, l[q]? = some s → q < j + 1 → longQ s = false := fun q u hu hqj => by
          by_cases e : q = j
          · subst e
            rw [HSJ.out] at hu
            obtain rfl := Option.some.inj hu
            exact HQ.out
          · exact hdone.out q u hu (by omega)
        have HD2 := Lib.hid hd2
        clear hd2 hdone
        go_wp2_with fail
        go_roundw
        case rel => exact ⟨j + 1, by omega, by go_num, HD2, trivial⟩
        case measure => simp [intOf]; omega
      · have hR := HSOME.out j s HSJ.out HQ.out
        have HR := Lib.hid hR
        clear hR hdone
        go_wp2_with fail
        go_ret
        exact ⟨⟨j, rfl, by rw [HR.out]; simp⟩, rfl⟩
    · have iI : ¬ (j : Int) < (L : Int) := by omega
      have hR := HNONE.out (fun q s hq => hdone.out q s hq (by have := HLEN.out q s hq; omega))
      have HR := Lib.hid hR
      clear hR hdone
      go_wp2_with fail
      go_ret
      exact ⟨⟨-1, rfl, by rw [HR.out]; rfl⟩, rfl⟩
theorem containsLong_any (l : List (List UInt8)) (ao : Option Addr) (cap : Nat) (w : World) (hl : l.length ≤ 9223372036854775806) (hS : Strs w ao l) :
    Calls Try.prog 54 #[.slice ao l.length cap, .func (.func 53) #[] #[]] w fun e w' => e = .returned (.bool (l.any longQ)) ∧ w' = w := by
  have c1 := indexLong_any l ao cap w hl hS
  generalize l.any longQ = R at *
  generalize l.length = L at *
  clear hS hl
  go_enter Try.func54, Try.ntmps54
  go_wp2_with fail
  refine c1.mono ?_
  rintro e w1 ⟨⟨n, rfl, hn⟩, rfl⟩
  clear c1
  go_wp2_with fail
  go_ret
  exact ⟨rfl, rfl⟩
/-- No node has more keys than memory may hold. -/
def FewKeys (ns : List Nq) : Prop := ∀ n ∈ ns, n.keys.length ≤ 8796093022208
theorem sumK_take (ns : List Nq) (j : Nat) (n : Nq) (h : ns[j]? = some n) : sumK (ns.take (j + 1)) = sumK (ns.take j) + n.keys.length := by
  obtain ⟨hj, he⟩ := List.getElem?_eq_some_iff.1 h
  unfold sumK
  rw [List.take_succ_eq_append_getElem hj, List.map_append, List.sum_append, he]; simp
theorem sumK_le (ns : List Nq) (h : FewKeys ns) : sumK ns ≤ ns.length * 8796093022208 := by
  unfold sumK
  have : ∀ l : List Nq, (∀ n ∈ l, n.keys.length ≤ 8796093022208) → (l.map (fun n => n.keys.length)).sum ≤ l.length * 8796093022208 := by
    intro l
    induction l with
    | nil => intro _; simp
    | cons n l ih =>
      intro h
      have h1 := h n (by simp)
      have h2 := ih (fun m hm => h m (by simp [hm]))
      simp only [List.map_cons, List.sum_cons, List.length_cons]; omega
  exact this ns h
set_option maxHeartbeats 8000000 in
theorem keysOf_any (ns : List Nq) (ao : Option Addr) (cap : Nat) (w : World) (hl : ns.length ≤ 100) (hF : FewKeys ns) (hS : Nodes w ao ns) :
    Calls Try.prog 32 #[.slice ao ns.length cap] w fun e w' => e = .returned (.int .i64 (sumK ns)) ∧ Below w.heap.size w w' := by
  have hget : ∀ j, j < ns.length → ∃ n, ns[j]? = some n := fun j hj => ⟨ns[j], List.getElem?_eq_getElem hj⟩
  have hat : ∀ (j : Nat) (n : Nq), ns[j]? = some n → ∃ a o s, ao = some ⟨a, o, none⟩ ∧ a < w.heap.size ∧ NqIn w n s ∧ w.cell? ⟨a, o + j * 3, none⟩ = some (.slice s.ak n.keys.length s.ck) ∧ w.cell? ⟨a, o + j * 3 + 1, none⟩ = some (.slice s.av n.vals.length s.cv) ∧ w.cell? ⟨a, o + j * 3 + 2, none⟩ = some (.slice s.ac n.kids.length s.cc) := fun j n h => hS.at h
  have hstep : ∀ (j : Nat) (n : Nq), ns[j]? = some n → sumK (ns.take (j + 1)) = sumK (ns.take j) + n.keys.length ∧ n.keys.length ≤ 8796093022208 ∧ sumK (ns.take j) ≤ 879609302220800 := fun j n h => by
    refine ⟨sumK_take ns j n h, hF n (List.mem_of_getElem? h), ?_⟩
    have := sumK_le (ns.take j) (fun m hm => hF m (List.mem_of_mem_take hm))
    have h2 : (ns.take j).length ≤ 100 := by rw [List.length_take]; omega
    omega
  obtain ⟨L, hL⟩ : ∃ L, ns.length = L := ⟨_, rfl⟩
  have hend : ∀ j, ¬ j < L → sumK (ns.take j) = sumK ns := fun j hj => by rw [List.take_of_length_le (by omega)]
  rw [hL] at hl hget ⊢
  have HGET := Lib.hid hget
  have HAT := Lib.hid hat
  have HSTEP := Lib.hid hstep
  have HEND := Lib.hid hend
  clear hget hat hstep hend hL hS hF
  go_enter Try.func32, Try.ntmps32
  go_wp2_with fail
  go_loopw [3, 8] (fun n ix wr => ∃ (j m : Nat), j ≤ L ∧ ix = .int .i64 j ∧ n = .int .i64 m ∧ Hid (m = sumK (ns.take j)) ∧ Hid (Below w.heap.size w wr)) (fun _ ix _ => L - (intOf ix).toNat)
  case atStart => exact ⟨0, 0, Nat.zero_le _, rfl, rfl, Lib.hid rfl, Lib.hid (Below.refl _ _)⟩
  case round =>
    obtain ⟨j, m, hj, rfl, rfl, hm, hbw⟩ := hrel
    by_cases hlt : j < L
    · have iI : (j : Int) < (L : Int) := by omega
      obtain ⟨n, hnj⟩ := HGET.out j hlt
      obtain ⟨a, o, s, rfl, ha, hin, x0, x1, x2⟩ := HAT.out j n hnj
      obtain ⟨h1, h2, h3⟩ := HSTEP.out j n hnj
      rw [← hm.out] at h1 h3
      have H1 := Lib.hid h1
      have d0 := (hbw.out.cell (p := ⟨a, o + j * 3, none⟩) ha).trans x0
      have d1 := (hbw.out.cell (p := ⟨a, o + j * 3 + 1, none⟩) ha).trans x1
      have d2 := (hbw.out.cell (p := ⟨a, o + j * 3 + 2, none⟩) ha).trans x2
      obtain ⟨ak, ck, av, cv, ac, cc⟩ := s
      simp only at d0 d1 d2
      generalize n.keys.length = K at *
      generalize n.vals.length = V at *
      generalize n.kids.length = C at *
      have hz : Blk _ _ _ [_, _, _] := Blk.new wr #[.slice ak K ck, .slice av V cv, .slice ac C cc] 51
      have hb := hbw.out.alloc hbw.out.size (.cells #[.slice ak K ck, .slice av V cv, .slice ac C cc] 51)
      clear x0 x1 x2 h1 hnj hin hm hbw
      go_upto_region 5 with fail
      generalize hwa : wr.alloc (.cells #[.slice ak K ck, .slice av V cv, .slice ac C cc] 51) = wa at *
      clear hwa d0 d1 d2
      have p0 := hz.cell (j := 0) rfl
      have HB := Lib.hid hb
      clear hz hb
      go_wp2_with fail
      go_roundw
      case rel => exact ⟨j + 1, m + K, by omega, by go_num, by go_num, Lib.hid H1.out.symm, HB⟩
      case measure => simp [intOf]; omega
    · have iI : ¬ (j : Int) < (L : Int) := by omega
      have h1 := hm.out.trans (HEND.out j hlt)
      have H1 := Lib.hid h1
      clear h1 hm
      go_wp2_with fail
      go_ret
      exact ⟨by rw [← H1.out]; rfl, hbw.out⟩
theorem any_take_none {ns : List Nq} (h : ∀ (q : Nat) (n : Nq), ns[q]? = some n → longN n = false) : ns.any longN = false := by
  rw [List.any_eq_false]
  intro s hs
  obtain ⟨j, hj⟩ := List.getElem?_of_mem hs
  rw [h j s hj]; decide
set_option maxHeartbeats 8000000 in
theorem small_any (ns : List Nq) (ao : Option Addr) (cap : Nat) (w : World) (hl : ns.length ≤ 9223372036854775806) (hF : FewKeys ns) (hS : Nodes w ao ns) :
    Calls Try.prog 40 #[.slice ao ns.length cap] w fun e w' => e = .returned (.bool (smallQ ns)) ∧ Below w.heap.size w w' := by
  have hget : ∀ j, j < ns.length → ∃ n, ns[j]? = some n := fun j hj => ⟨ns[j], List.getElem?_eq_getElem hj⟩
  have hat : ∀ (j : Nat) (n : Nq), ns[j]? = some n → ∃ (a o : Nat) (s : NqS), ao = some ⟨a, o, none⟩ ∧ a < w.heap.size ∧ (∀ W, Below w.heap.size w W → Calls Try.prog 54 #[.slice s.ak n.keys.length s.ck, .func (.func 53) #[] #[]] W fun e w' => e = .returned (.bool (longN n)) ∧ w' = W) ∧ w.cell? ⟨a, o + j * 3, none⟩ = some (.slice s.ak n.keys.length s.ck) ∧ w.cell? ⟨a, o + j * 3 + 1, none⟩ = some (.slice s.av n.vals.length s.cv) ∧ w.cell? ⟨a, o + j * 3 + 2, none⟩ = some (.slice s.ac n.kids.length s.cc) := fun j n h => by
    obtain ⟨a, o, s, h1, h2, h3, h4⟩ := hS.at h
    exact ⟨a, o, s, h1, h2, fun W hW => containsLong_any n.keys s.ak s.ck W (by have := hF n (List.mem_of_getElem? h); omega) (h3.keep hW).K, h4⟩
  have hbad : ∀ (j : Nat) (n : Nq), ns[j]? = some n → longN n = true → smallQ ns = false := fun j n h hb => by
    unfold smallQ
    rw [List.any_eq_true.2 ⟨n, List.mem_of_getElem? h, hb⟩]; rfl
  have hlen : ∀ (j : Nat) (n : Nq), ns[j]? = some n → j < ns.length := fun j n h => (List.getElem?_eq_some_iff.1 h).1
  have hgood : (∀ (q : Nat) (n : Nq), ns[q]? = some n → longN n = false) → smallQ ns = (decide (ns.length ≤ 100) && decide (sumK ns ≤ 100)) := fun h => by
    unfold smallQ; rw [any_take_none h]; rfl
  have cK := fun W (h : ns.length ≤ 100) (hW : Below w.heap.size w W) => keysOf_any ns ao cap W h hF (hS.keep hW)
  obtain ⟨L, hL⟩ : ∃ L, ns.length = L := ⟨_, rfl⟩
  rw [hL] at hl hget hgood hlen cK ⊢
  generalize smallQ ns = R at *
  generalize sumK ns = M at *
  have HGET := Lib.hid hget
  have HAT := Lib.hid hat
  have HBAD := Lib.hid hbad
  have HGOOD := Lib.hid hgood
  have HLEN := Lib.hid hlen
  have HCK := Lib.hid cK
  clear hget hat hbad hgood hlen hL hS hF cK
  go_enter Try.func40, Try.ntmps40
  go_wp2_with fail
  go_loopw [8] (fun ix wr => ∃ (j : Nat), j ≤ L ∧ ix = .int .i64 j ∧ Hid (∀ (q : Nat) (n : Nq), ns[q]? = some n → q < j → longN n = false) ∧ Hid (Below w.heap.size w wr)) (fun ix _ => L - (intOf ix).toNat)
  case atStart => exact ⟨0, Nat.zero_le _, rfl, Lib.hid (fun q s _ h => absurd h (Nat.not_lt_zero q)), Lib.hid (Below.refl _ _)⟩
  case round =>
    obtain ⟨j, hj, rfl, hdone, hbw⟩ := hrel
    by_cases hlt : j < L
    · have iI : (j : Int) < (L : Int) := by omega
      obtain ⟨n, hnj⟩ := HGET.out j hlt
      obtain ⟨a, o, s, rfl, ha, cC, x0, x1, x2⟩ := HAT.out j n hnj
      have d0 := (hbw.out.cell (p := ⟨a, o + j * 3, none⟩) ha).trans x0
      have d1 := (hbw.out.cell (p := ⟨a, o + j * 3 + 1, none⟩) ha).trans x1
      have d2 := (hbw.out.cell (p := ⟨a, o + j * 3 + 2, none⟩) ha).trans x2
      obtain ⟨q, hq⟩ : ∃ q, longN n = q := ⟨_, rfl⟩
      rw [hq] at cC
      have HQ := Lib.hid hq
      have HNJ := Lib.hid hnj
      obtain ⟨ak, ck, av, cv, ac, cc⟩ := s
      simp only at d0 d1 d2 cC
      generalize n.keys.length = K at *
      generalize n.vals.length = V at *
      generalize n.kids.length = C at *
      have hz : Blk _ _ _ [_, _, _] := Blk.new wr #[.slice ak K ck, .slice av V cv, .slice ac C cc] 51
      have hb := hbw.out.alloc hbw.out.size (.cells #[.slice ak K ck, .slice av V cv, .slice ac C cc] 51)
      clear x0 x1 x2 hnj hq hbw
      go_upto_region 5 with fail
      generalize hwa : wr.alloc (.cells #[.slice ak K ck, .slice av V cv, .slice ac C cc] 51) = wa at *
      clear hwa d0 d1 d2
      have p0 := hz.cell (j := 0) rfl
      have c1 := cC wa hb
      have HB := Lib.hid hb
      clear hz hb cC
      go_wp2_with fail
      refine c1.mono ?_
      rintro e w1 ⟨rfl, rfl⟩
      clear c1 p0
      cases q
      · have hd2 : ∀ (q : Nat) (s : Nq), ns[q]? = some s → q < j + 1 → longN s = false := fun q u hu hqj => by
          by_cases e : q = j
          · subst e
            rw [HNJ.out] at hu
            obtain rfl := Option.some.inj hu
            exact HQ.out
          · exact hdone.out q u hu (by omega)
        have HD2 := Lib.hid hd2
        clear hd2 hdone
        go_wp2_with fail
        go_roundw
        case rel => exact ⟨j + 1, by omega, by go_num, HD2, HB⟩
        case measure => simp [intOf]; omega
      · have hR := HBAD.out j n HNJ.out HQ.out
        have HR := Lib.hid hR
        clear hR hdone
        go_wp2_with fail
        go_ret
        exact ⟨by rw [HR.out]; rfl, HB.out⟩
    · have iI : ¬ (j : Int) < (L : Int) := by omega
      have hR := HGOOD.out (fun q n hq => hdone.out q n hq (by have := HLEN.out q n hq; omega))
      have HR := Lib.hid hR
      have hbb := hbw.out
      clear hR hdone hbw
      by_cases h100 : L ≤ 100
      · have i1 : (L : Int) ≤ 100 := by omega
        have c1 := HCK.out wr h100 hbb
        obtain ⟨b, hb⟩ : ∃ b, decide (M ≤ 100) = b := ⟨_, rfl⟩
        rw [hb, decide_eq_true h100, Bool.true_and] at HR
        have hbI : decide ((M : Int) ≤ 100) = b := by rw [← hb]; congr 1; simp; omega
        clear hb h100
        go_wp2_with fail
        refine c1.mono ?_
        rintro e w2 ⟨rfl, hb2⟩
        have hb3 := below_stepE hbb hbb.size hb2
        clear c1 hbb hb2
        go_wp2_with fail
        go_ret
        exact ⟨by rw [HR.out]; rfl, hb3⟩
      · have i1 : ¬ (L : Int) ≤ 100 := by omega
        rw [decide_eq_false h100, Bool.false_and] at HR
        clear h100
        go_wp2_with fail
        go_ret
        exact ⟨by rw [HR.out]; rfl, hbb⟩
end Go.Proofs.Ytopgakdgifmecaa
