/-
  CONTRACTS of the laws' some and partsOf: raw things as parts.
  CONDITIONS: each theorem's own hypotheses.
-/
import Derived.Test.YtmldhnghfdhjmaaDoorRaws
import Derived.Test.YtmldhnghfdhjmaaDoorByMaxT
import Derived.Test.YtmldhnghfdhjmaaDoorGBase
import Derived.Deep.Cut
namespace Go.Proofs.YtmldhnghfdhjmaaDoor
open Go.RowKit CodeMath
set_option linter.unusedVariables false

set_option maxRecDepth 100000 in
theorem someK_any (ao : Option Addr) (n cap q : Nat) (qI : Int) (hqI : qI = q) (hq : q ≤ 1000) (w : World) (hn : n ≤ cap) (hc : n ≤ 9223372036854775807) :
    Calls Tryd.prog 38 #[.slice ao n cap, .int .i64 qI] w fun e w' => e = .returned (.slice ao (min n q) cap) ∧ w = w' := by
  obtain ⟨m, hm⟩ : ∃ m, min n q = m := ⟨_, rfl⟩
  have hmin : ∀ (ts : Array TypeId) (t : TypeId) (W : World), (Builtin.min_ ts t #[.int .i64 (n : Int), .int .i64 qI]).run Tryd.prog W = .ok (.int .i64 (m : Int)) W := fun ts t W => by
    rw [run_min_int2, ← hm]
    congr 2
    split <;> omega
  rw [hm]
  have hmc : (m : Int) ≤ cap := by omega
  have hmc' : m ≤ cap := by omega
  clear hm hqI
  go_enter Tryd.func38, Tryd.ntmps38
  go_wp2
  go_ret
  exact ⟨rfl, rfl⟩
/-- A raw thing's text, cut. -/
def R.cut (r : R) (q : Nat) : List UInt8 := r.s.data.toList.take q
def partsL (l : List R) : List (List UInt8) := (l.take 8).map (R.cut · 30)
theorem partsL_length (l : List R) : (partsL l).length ≤ 8 := by unfold partsL; simp; omega
theorem partsL_each (l : List R) : ∀ p ∈ partsL l, p.length ≤ 30 := by
  intro p hp
  obtain ⟨r, _, rfl⟩ := List.mem_map.1 hp
  unfold R.cut; rw [List.length_take]; omega
theorem total_each : ∀ (ps : List (List UInt8)) (B : Nat), (∀ p ∈ ps, p.length ≤ B) → FrameMath.total ps ≤ ps.length * (4 + B)
  | [], B, h => by simp [FrameMath.total]
  | p :: ps, B, h => by
    have h1 := total_each ps B (fun q hq => h q (List.mem_cons_of_mem _ hq))
    have h2 := h p (by simp)
    simp only [FrameMath.total, List.length_cons, Nat.succ_mul]
    omega
theorem partsL_total (l : List R) : FrameMath.total (partsL l) ≤ 272 := by
  have h1 := total_each (partsL l) 30 (partsL_each l)
  have h2 := partsL_length l
  have h3 : (partsL l).length * (4 + 30) ≤ 8 * (4 + 30) := Nat.mul_le_mul_right _ h2
  omega
theorem cut_head (s : ByteArray) (q : Nat) (x : Int) (hx : x = (q : Int)) (hq : q ≤ s.size) (W : World) : (Instr.slice 9 (.string s) none (some (.int .i64 x)) none).run Tryd.prog W = .ok (.string (str (s.data.toList.take q))) W := by
  subst hx
  rw [run_slice_string_h (P := Tryd.prog) W 9 s Tryd.underlying9 .i64 (q : Int) (by omega) (by omega)]
  have : s.extract 0 (q : Int).toNat = str (s.data.toList.take q) := by
    have h := str_extract s.data.toList 0 q (Nat.zero_le _)
    rw [← str_eq s] at h
    rw [Int.toNat_natCast, h, List.drop_zero, Nat.sub_zero]
  rw [this]
set_option maxRecDepth 100000 in
set_option maxHeartbeats 2000000 in
theorem partsK_any (l : List R) (ao : Option Addr) (cap : Nat) (w : World) (hcap : l.length ≤ cap) (hq : cap ≤ 9223372036854775807) (hR : Raws w ao l) :
    Calls Tryd.prog 16 #[.slice ao l.length cap] w fun e w' => ∃ v, e = .returned v ∧ OwnL w' w.heap.size v (partsL l) ∧ Below w.heap.size w w' := by
  have cS := fun W => someK_any ao l.length cap 8 8 rfl (by decide) W hcap (by omega)
  obtain ⟨n, hn⟩ : ∃ n, l.length = n := ⟨_, rfl⟩
  obtain ⟨m, hm⟩ : ∃ m, min n 8 = m := ⟨_, rfl⟩
  have hml : m ≤ l.length := by omega
  have hm8 : m ≤ 8 := by omega
  rw [hn] at cS ⊢
  rw [hm] at cS
  have hpl : partsL l = (l.take m).map (R.cut · 30) := by
    unfold partsL
    rw [← hm, ← hn]
    congr 1
    rw [List.take_eq_take_iff]; omega
  rw [hpl]
  obtain ⟨PL, hPL⟩ : ∃ PL, (l.take m).map (R.cut · 30) = PL := ⟨_, rfl⟩
  rw [hPL]
  have HPL := Lib.hid hPL
  clear hPL
  have HML := Lib.hid hml
  have hget : ∀ j r, l[j]? = some r → ∃ a o, ao = some ⟨a, o, none⟩ ∧ a < w.heap.size ∧ w.cell? ⟨a, o + j * 4, none⟩ = some (.int .i64 r.k) ∧ w.cell? ⟨a, o + j * 4 + 1, none⟩ = some (.int .i64 r.a) ∧ w.cell? ⟨a, o + j * 4 + 2, none⟩ = some (.int .i64 r.b) ∧ w.cell? ⟨a, o + j * 4 + 3, none⟩ = some (.string r.s) := fun j r hj => by
    rcases hR.2 with h | ⟨a, o, h1, h2, h3⟩
    · rw [h] at hj; simp at hj
    · exact ⟨a, o, h1, h2, h3 j r hj⟩
  have HG := Lib.hid hget
  have mI : (m : Int) ≤ 8 := by omega
  clear hn hm hml hpl hR hget hcap
  go_enter Tryd.func16, Tryd.ntmps16
  go_wp2_with fail
  refine (cS _).mono ?_
  rintro e w1 ⟨rfl, rfl⟩
  clear cS
  go_wp2_with fail
  go_loopw [3, 9] (fun u i wr => ∃ (j : Nat) (acc : List (List UInt8)), j ≤ m ∧ i = .int .i64 j ∧ Hid (acc = (l.take j).map (R.cut · 30)) ∧ Hid (acc.length = j) ∧ OwnL wr w.heap.size u acc ∧ Below w.heap.size w wr) (fun _ i _ => m - (intOf i).toNat)
  case atStart => exact ⟨0, [], Nat.zero_le _, rfl, Lib.hid (by simp), Lib.hid rfl, OwnL.nil _ _, Below.refl _ _⟩
  case round =>
    obtain ⟨j, acc, hj, rfl, hv, hvl, ho, hbw⟩ := hrel
    by_cases h1 : j < m
    · have h1I : (j : Int) < m := by omega
      obtain ⟨r, hr⟩ : ∃ r, l[j]? = some r := ⟨_, List.getElem?_eq_getElem (Nat.lt_of_lt_of_le h1 HML.out)⟩
      obtain ⟨a, o, rfl, ha, c0, c1, c2, c3⟩ := HG.out j r hr
      have d0 := (hbw.cell (p := ⟨a, o + j * 4, none⟩) ha).trans c0
      have d1 := (hbw.cell (p := ⟨a, o + j * 4 + 1, none⟩) ha).trans c1
      have d2 := (hbw.cell (p := ⟨a, o + j * 4 + 2, none⟩) ha).trans c2
      have d3 := (hbw.cell (p := ⟨a, o + j * 4 + 3, none⟩) ha).trans c3
      have hac : acc.length ≤ 1000000 := by rw [hvl.out]; omega
      have HN : Hid (acc ++ [r.cut 30] = (l.take (j + 1)).map (R.cut · 30)) := by
        show _ = _
        rw [List.take_succ_eq_append_getElem (Nat.lt_of_lt_of_le h1 HML.out), List.map_append, ← hv.out, (List.getElem?_eq_some_iff.1 hr).2]
        rfl
      have HL : Hid ((acc ++ [r.cut 30]).length = j + 1) := by have := hvl.out; show _ = _; rw [List.length_append, this]; rfl
      obtain ⟨q, hq'⟩ : ∃ q, min r.s.size 30 = q := ⟨_, rfl⟩
      have hqs : q ≤ r.s.size := by omega
      have hcut : ∀ (x : Int), x = (q : Int) → ∀ W, (Instr.slice 9 (.string r.s) none (some (.int .i64 x)) none).run Tryd.prog W = .ok (.string (str (r.cut 30))) W := fun x hx W => by
        rw [cut_head r.s q x hx hqs W]
        have : r.s.data.toList.take q = r.cut 30 := by
          unfold R.cut
          rw [List.take_eq_take_iff]
          have : r.s.data.toList.length = r.s.size := Array.length_toList
          omega
        rw [this]
      have hmin : ∀ (ts : Array TypeId) (t : TypeId) (W : World), (Builtin.min_ ts t #[.int .i64 (r.s.size : Int), .int .i64 30]).run Tryd.prog W = .ok (.int .i64 (q : Int)) W := fun ts t W => by
        rw [run_min_int2, ← hq']
        congr 2
        split <;> omega
      have hcutq := hcut (q : Int) rfl
      have hpl : (r.cut 30).length ≤ 9223372036854775807 := by unfold R.cut; rw [List.length_take]; omega
      have cv := fun W => bytesOf_T (r.cut 30) W hpl
      generalize r.cut 30 = p at *
      generalize str p = SP at *
      have H1 := Lib.hid h1
      have hs := hbw.size
      have ho1 : ∀ o, OwnL (wr.alloc o) w.heap.size _ acc := fun ob => ho.keep ((Below.refl _ _).alloc (Nat.le_refl _) ob)
      have hba : ∀ o, Below w.heap.size w (wr.alloc o) := fun ob => hbw.alloc hs ob
      clear c0 c1 c2 c3 hr hv hvl ho hq' hcut hqs h1 hbw hpl
      go_upto_region 5 with fail
      obtain ⟨g, cg, W1, hcv, hrow, hbw1⟩ := cv (wr.alloc (.cells #[.int .i64 r.k, .int .i64 r.a, .int .i64 r.b, .string r.s] 61))
      have ho2 := (ho1 (.cells #[.int .i64 r.k, .int .i64 r.a, .int .i64 r.b, .string r.s] 61)).keep hbw1
      have hb2 := below_step (hba (.cells #[.int .i64 r.k, .int .i64 r.a, .int .i64 r.b, .string r.s] 61)) (hba _).size hbw1
      have hs2 := hb2.size
      generalize p.length = np at hcv hrow
      clear ho1 hba cv hbw1
      go_wp2_with (first
        | (at_builtin; refine wpList_append_line rfl _ _ rfl w.heap.size _ _ rfl ho2 _ p _ rfl rfl hrow hac hs2 ?_; intro v5 w5 ho5 hb5)
        | fail)
      go_roundw
      case rel => exact ⟨j + 1, _, H1.out, by go_num, HN, HL, ho5, hb2.trans hb5⟩
      case measure => have := H1.out; simp [intOf]; omega
    · have h1I : ¬ (j : Int) < m := by omega
      have hjm : j = m := by omega
      have HE : Hid (PL = acc) := by have := hv.out; rw [hjm] at this; show _ = _; rw [this, HPL.out]
      clear hjm hv hvl
      go_wp2_with fail
      go_ret
      rw [HE.out]
      exact ⟨_, rfl, ho, hbw⟩
end Go.Proofs.YtmldhnghfdhjmaaDoor
