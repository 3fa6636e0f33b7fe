/-
  MERGED: FrameT, OpenD, DigA, DigI, DigB.
  CONDITIONS: each theorem's own hypotheses.
-/
import Derived.Test.YtcnemacakjemjaaDoorFrameS
import Derived.Test.YtcnemacakjemjaaDoorByMaxT
import Derived.Test.YtcnemacakjemjaaDoorGOpen
import Derived.Test.YtcnemacakjemjaaDoorGSha
import Derived.LaidMore
import Derived.Lib.LaidU8T
import Derived.Lib.LaidIn
import Derived.Test.YtcnemacakjemjaaDoorGBase
import Derived.Test.YtcnemacakjemjaaDoorGSum
import Derived.Test.YtcnemacakjemjaaDoorGRef
import Derived.Test.YtcnemacakjemjaaDoorGMac
import Derived.Deep.Cut

/-! CONTRACT of the reference's FrameOf, with the block of what is new. CONDITIONS: each theorem's own hypotheses. -/
namespace Go.Proofs.YtcnemacakjemjaaDoor
open Go.RowKit CodeMath Go.Proofs.YtcnemacakjemjaaDoor.FrameMath
set_option linter.unusedVariables false
set_option maxRecDepth 100000

set_option maxRecDepth 100000 in
set_option maxHeartbeats 2000000 in
theorem FrameOf_goodT (t : Nat) (ht0 : 1 ≤ t) (ht : t ≤ 9) (rows : List (List UInt8)) (ap : Option Addr) (capp : Nat) (hn : rows.length ≤ 8) (hW : 2 + total rows ≤ 16777216) (w : World) (hl : Lines w ap rows) :
    Calls Tryd.prog 37 #[.int .i64 t, .slice ap rows.length capp] w fun e w' => ∃ v, e = .returned (.tuple #[v, .int .i64 0]) ∧ RowT w' v (frame t rows) ∧ Below w.heap.size w w' := by
  have cP := fun W h => framed_any t t rfl (by omega) rows ap capp W h (by omega) hW
  have hB : ∀ l ∈ rows, l.length ≤ 16777216 := fun l h => by have := total_mem rows l h; omega
  have hfl : (frame t rows).length ≤ 16777216 := by rw [frame_length]; exact hW
  have hok := fun i hi => roomAt_ok rows i hi hW
  have hle := fun i hi => roomAt_le rows rows.length i hi
  have h00 := roomAt_zero rows rows.length
  generalize frame t rows = F at cP hfl ⊢
  have cv := fun W => bytesOf_T F W (by omega)
  obtain ⟨n, hnn⟩ : ∃ n, rows.length = n := ⟨_, rfl⟩
  rw [hnn] at hn hok hle h00 cP ⊢
  obtain ⟨SF, hSF⟩ : ∃ S, str F = S := ⟨_, rfl⟩
  rw [hSF] at cP cv
  have nI : ¬ ((8 : Int) < n) := by omega
  have nI2 : (n : Int) ≤ 8 := by omega
  have h1 : ¬ (t : Int) < 1 := by omega
  have h9 : ¬ 9 < (t : Int) := by omega
  have HN := Lib.hid hnn
  have HZ := Lib.hid h00
  have HOK := Lib.hid hok
  have HLE := Lib.hid hle
  clear ht ht0 hnn hok hle h00 hW hSF
  go_enter Tryd.func37, Tryd.ntmps37
  go_wp2_with fail
  go_loopw [6, 24] (fun s ix wr => ∃ (i : Nat) (R : Int), i ≤ n ∧ ix = .int .i64 i ∧ s = .int .i64 R ∧ Hid (R = roomAt rows n i) ∧ 0 ≤ R ∧ R ≤ 16777214 ∧ wr = w) (fun _ ix _ => n - (intOf ix).toNat)
  case atStart => exact ⟨0, _, Nat.zero_le _, rfl, rfl, Lib.hid (by rw [HZ.out]), by omega, by omega, rfl⟩
  case round =>
    obtain ⟨i, R, hi, rfl, rfl, hR, r0, r1, rfl⟩ := hrel
    by_cases hlt : i < n
    · have iI : (i : Int) < n := by omega
      obtain ⟨l, hl'⟩ : ∃ l, rows[i]? = some l := ⟨_, List.getElem?_eq_getElem (by rw [HN.out]; exact hlt)⟩
      rcases hl with h0 | ⟨a, o, rfl, h2, h3⟩
      · rw [h0] at hl'; simp at hl'
      · obtain ⟨al, cl, k1, k2, k3, k4, k5⟩ := h3 i l hl'
        have hx := roomAt_next rows n i l hl'
        have hx0 := HOK.out (i + 1) hlt
        rw [hx, ← hR.out] at hx0
        rw [← hR.out] at hx
        have HX := Lib.hid hx
        have lB := hB l (List.mem_of_getElem? hl')
        have lI : (l.length : Int) ≤ 16777216 := by omega
        have HI := Lib.hid hlt
        have hbig : ¬ R < (l.length : Int) := by omega
        clear hx hx0 hl' h3 hlt
        go_wp2_with fail
        go_roundw
        case rel => exact ⟨i + 1, _, HI.out, by go_num, rfl, Lib.hid (by rw [HX.out]), by omega, by omega, by first | rfl | trivial⟩
        case measure => have := HI.out; simp [intOf]; omega
    · have iI : ¬ ((i : Int) < n) := by omega
      clear hlt
      go_upto_region 13 with fail
      go_wp2_with (first
        | (go_at_call 41; refine (cP _ hl).mono ?_; rintro e w3 ⟨rfl, hb3⟩; clear cP; obtain ⟨g, cap, w4, hcv, hBy, hb4⟩ := cv w3)
        | fail)
      go_ret2
      exact ⟨_, rfl, hBy, hb3.trans (hb4.mono hb3.size)⟩
end Go.Proofs.YtcnemacakjemjaaDoor

/-! OPENING ARGUMENTS more: slices of bytes with all that is known of them; streams by value; what the list of variables says of package sum's roundWords. CONDITIONS: each theorem's own hypotheses. -/
namespace Go.Proofs.YtcnemacakjemjaaDoor
open Go.ChangeShapes Go.WideShapes Go.RowKit Go.Deep Go.Joins CodeMath
open Go.ChangeMaps (open_string shut_string)
set_option linter.unusedVariables false

set_option maxRecDepth 100000
section
variable {H : Type} {enc : TypeId × Value → H} {W : World} {base : Nat} {v : Value} {d : DataW H} {p : List MemPlace}
/-- Cells that read as an array of numbers. -/
theorem ints_of_array {fuel : Nat} {t e : TypeId} {n : Nat} {k : IntKind} {cs : List Value} {x : DataW H × List MemPlace} (ht : Tryd.prog.underlying t = some (.array n e)) (he : Tryd.prog.underlying e = some (.int k)) (hce : Tryd.prog.cellsOf e = 1) (hlen : cs.length = n)
    (h : DataW.trod enc Tryd.prog W 0 (fun _ => true) true fuel t cs = some x) : ∃ zs : List Int, zs.length = n ∧ cs = zs.map (Value.int k) ∧ ∀ z ∈ zs, (Lit.int k z).wf = true := by
  obtain ⟨xs, m, _, hx, _, hxl, hel⟩ := DataW.trod_array ht h
  rw [hce] at hel
  have hp : ∀ i, i < n → ∃ z : Int, cs[i]? = some (.int k z) ∧ (Lit.int k z).wf = true := by
    intro i hi
    have h1 := hel i hi
    rw [Nat.mul_one] at h1
    have hil : i < cs.length := by omega
    have h2 : (cs.drop i).take 1 = [cs[i]] := by
      rw [List.drop_eq_getElem_cons hil]
      rfl
    rw [h2] at h1
    have hxi : i < xs.length := by omega
    rw [List.getElem?_eq_getElem hxi] at h1
    obtain ⟨z, e1, _, wz⟩ := DataW.trod_int he h1
    simp only [List.cons.injEq, and_true] at e1
    exact ⟨z, by rw [List.getElem?_eq_getElem hil, e1], wz⟩
  refine ⟨(List.range n).map (fun i => (match cs[i]? with | some (Value.int _ z) => z | _ => 0)), by simp, ?_, ?_⟩
  · apply List.ext_getElem?
    intro i
    by_cases hi : i < n
    · obtain ⟨z, hz, _⟩ := hp i hi
      simp [hi, hz]
    · rw [List.getElem?_eq_none (by omega), List.getElem?_eq_none (by simp; omega)]
  · intro z hz
    simp only [List.mem_map, List.mem_range] at hz
    obtain ⟨i, hi, rfl⟩ := hz
    obtain ⟨z, hz, wz⟩ := hp i hi
    rw [hz]; exact wz
theorem bounds_u32 {z : Int} (h : (Lit.int .u32 z).wf = true) : 0 ≤ z ∧ z < 4294967296 := by
  simp only [Lit.wf, Bool.and_eq_true, decide_eq_true_eq] at h
  have e1 : IntKind.u32.min = 0 := rfl
  have e2 : IntKind.u32.max = 4294967295 := rfl
  omega
/-- A stream, by value. -/
theorem open_stream (hval : Value.okWide Tryd.prog W .any base 74 v) (h : DataW.Trod enc Tryd.prog W 0 (fun _ => true) true 74 v d p) :
    ∃ s : Stm, s.Fit ∧ v = .agg s.cells.toArray := by
  have hfs : ∃ fs : Array Field, Tryd.prog.underlying 74 = some (.struct fs) ∧ fs.toList.map (fun f => (f.type, f.offset)) = [(71, 0), (72, 8), (3, 72), (3, 73)] := ⟨_, rfl, by kernel_rfl⟩
  obtain ⟨fs, hs, hm⟩ := hfs
  obtain ⟨cs, rfl, hsz⟩ := okWide_struct hs hval
  have hC : Tryd.prog.cellsOf 74 = 74 := by kernel_rfl
  rw [hC] at hsz
  obtain ⟨fuel, hf⟩ := h
  obtain ⟨xs, n, _, hx, _, hlen, hg⟩ := DataW.trod_struct hs hf
  have hcl : (Value.agg cs).cells.toList = cs.toList := rfl
  rw [hcl] at hg
  have hcs : cs.toList.length = 74 := by simpa using hsz
  have at_ : ∀ (i : Nat) (t : TypeId) (off : Nat), (fs.toList.map (fun f => (f.type, f.offset)))[i]? = some (t, off) → ∃ x, DataW.trod enc Tryd.prog W 0 (fun _ => true) true n t ((cs.toList.drop off).take (Tryd.prog.cellsOf t)) = some x := by
    intro i t off hi
    rw [List.getElem?_map] at hi
    obtain ⟨f, hf1, hf2⟩ := Option.map_eq_some_iff.1 hi
    simp only [Prod.mk.injEq] at hf2
    obtain ⟨rfl, rfl⟩ := hf2
    have hf1' : fs[i]? = some f := by simpa using hf1
    have h1 := hg i f hf1'
    have hil : i < fs.size := (Array.getElem?_eq_some_iff.1 hf1').1
    rw [List.getElem?_eq_getElem (by omega : i < xs.length)] at h1
    exact ⟨_, h1⟩
  rw [hm] at at_
  obtain ⟨x0, h0⟩ := at_ 0 _ _ rfl
  obtain ⟨x1, h1⟩ := at_ 1 _ _ rfl
  obtain ⟨x2, h2⟩ := at_ 2 _ _ rfl
  obtain ⟨x3, h3⟩ := at_ 3 _ _ rfl
  have c8 : Tryd.prog.cellsOf 71 = 8 := by kernel_rfl
  have c64 : Tryd.prog.cellsOf 72 = 64 := by kernel_rfl
  have c1 : Tryd.prog.cellsOf 3 = 1 := by kernel_rfl
  rw [c8] at h0
  rw [c64] at h1
  rw [c1] at h2 h3
  obtain ⟨z0, l0, e0, w0⟩ := ints_of_array (t := 71) (e := 63) (n := 8) rfl Tryd.underlying63 (by kernel_rfl) (by simp; omega) h0
  obtain ⟨z1, l1, e1, w1⟩ := ints_of_array (t := 72) (e := 5) (n := 64) rfl Tryd.underlying5 (by kernel_rfl) (by simp; omega) h1
  obtain ⟨zn, e2, _, w2⟩ := DataW.trod_int Tryd.underlying3 h2
  obtain ⟨zl, e3, _, w3⟩ := DataW.trod_int Tryd.underlying3 h3
  have hsplit : cs.toList = (cs.toList.drop 0).take 8 ++ ((cs.toList.drop 8).take 64 ++ ((cs.toList.drop 72).take 1 ++ (cs.toList.drop 73).take 1)) := by
    have a1 : (cs.toList.drop 73).take 1 = cs.toList.drop 73 := List.take_of_length_le (by simp; omega)
    have a2 : (cs.toList.drop 72).take 1 ++ cs.toList.drop 73 = cs.toList.drop 72 := by
      have := List.take_append_drop 1 (cs.toList.drop 72)
      rwa [List.drop_drop] at this
    have a3 : (cs.toList.drop 8).take 64 ++ cs.toList.drop 72 = cs.toList.drop 8 := by
      have := List.take_append_drop 64 (cs.toList.drop 8)
      rwa [List.drop_drop] at this
    rw [a1, a2, a3, List.drop_zero, List.take_append_drop]
  have b0 : ∀ i, i < 8 → 0 ≤ z0.getD i 0 ∧ z0.getD i 0 < 4294967296 := fun i hi => by
    have hz : z0[i]? = some (z0[i]'(by omega)) := List.getElem?_eq_getElem (by omega)
    rw [List.getD_eq_getElem?_getD, hz]
    exact bounds_u32 (w0 _ (List.getElem_mem _))
  obtain ⟨y0, y1, y2, y3, y4, y5, y6, y7, rfl⟩ : ∃ y0 y1 y2 y3 y4 y5 y6 y7, z0 = [y0, y1, y2, y3, y4, y5, y6, y7] := by
    match z0, l0 with
    | [y0, y1, y2, y3, y4, y5, y6, y7], _ => exact ⟨y0, y1, y2, y3, y4, y5, y6, y7, rfl⟩
  have q0 := b0 0 (by decide)
  have q1 := b0 1 (by decide)
  have q2 := b0 2 (by decide)
  have q3 := b0 3 (by decide)
  have q4 := b0 4 (by decide)
  have q5 := b0 5 (by decide)
  have q6 := b0 6 (by decide)
  have q7 := b0 7 (by decide)
  simp only [List.getD_cons_zero, List.getD_cons_succ] at q0 q1 q2 q3 q4 q5 q6 q7
  have hn := bounds_i64 w2
  have hl := bounds_i64 w3
  refine ⟨⟨⟨y0.toNat, y1.toNat, y2.toNat, y3.toNat, y4.toNat, y5.toNat, y6.toNat, y7.toNat⟩, z1.map (fun z => UInt8.ofNat z.toNat), zn, zl⟩, ⟨⟨?_, ?_, ?_, ?_, ?_, ?_, ?_, ?_⟩, ?_, hn.1, hn.2, hl.1, hl.2⟩, ?_⟩
  all_goals try (simp only; omega)
  · simp [l1]
  · congr 1
    apply Array.toList_inj.1
    rw [hsplit, e0, e1, e2, e3]
    unfold Stm.cells u32s lst u8s
    simp only [List.map_cons, List.map_nil, List.map_map, List.cons_append, List.nil_append]
    have t : ∀ y : Int, 0 ≤ y → ((y.toNat : Nat) : Int) = y := fun y h => by omega
    rw [t y0 q0.1, t y1 q1.1, t y2 q2.1, t y3 q3.1, t y4 q4.1, t y5 q5.1, t y6 q6.1, t y7 q7.1]
    have hmap : z1.map (Value.int .u8) = z1.map ((fun x : UInt8 => Value.int .u8 (x.toNat : Nat)) ∘ fun z => UInt8.ofNat z.toNat) := by
      refine List.map_congr_left (fun z hz => ?_)
      have hb := bounds_u8 (w1 z hz)
      simp only [Function.comp, UInt8.toNat_ofNat']
      congr 1
      omega
    rw [hmap]
end
open Lib in
/-- What the list says of package sum's roundWords. -/
theorem kw_of_reads {W : World} (h : VarReads Tryd.prog W "chirograph/sum.roundWords" (tabData .u32 (ShaMath.kk.map fun x : Nat => (x : Int)))) : KW W := by
  obtain ⟨g, t, cs, fuel, p, hg, hty, hvar, hd⟩ := h
  obtain rfl := Option.some.inj ((show Tryd.prog.globalNamed "chirograph/sum.roundWords" = some 0 by kernel_rfl).symm.trans hg)
  obtain rfl := Option.some.inj ((show (Tryd.prog.globals[0]?).map (·.type) = some 94 by kernel_rfl).symm.trans hty)
  have hcs := cells_of_tab (e := 63) (n := 64) (k := .u32) rfl Tryd.underlying63 (by kernel_rfl) (by kernel_rfl) hd
  have hcell : ∀ i x, ShaMath.kk[i]? = some x → W.cell? ⟨0, i, none⟩ = some (.int .u32 (x : Nat)) := fun i x hx => by
    have := World.var?_cell hg hvar i
    rw [this, ← Array.getElem?_toList, hcs]
    simp [hx]
  exact ⟨World.block_lt_of_cell? W ⟨0, 0, none⟩ (hcell 0 _ rfl), hcell⟩
end Go.Proofs.YtcnemacakjemjaaDoor

/-! CONTRACTS of known.Mode, the reference's badMode, oracle.Digest, the reference's DigestOf. CONDITIONS: package sum's roundWords hold what their initialiser lays ('KW'). -/
namespace Go.Proofs.YtcnemacakjemjaaDoor
open Go.RowKit CodeMath Go.Proofs.YtcnemacakjemjaaDoor.FrameMath
set_option linter.unusedVariables false
set_option maxRecDepth 100000

/-- What digesting answers. -/
inductive DR where
  | err (e : Int)
  | ok (b : List UInt8)
def isMode (m : Int) : Bool := decide (m = 1 ∨ m = 2)
def digB (m : Int) (t : Nat) (ps : List (List UInt8)) : List UInt8 := if m = 2 then frame t ps else ShaMath.sha (frame t ps)
def digR (m t : Int) (ps : List (List UInt8)) : DR := if isMode m = false then .err 2 else if ¬ (1 ≤ t ∧ t ≤ 9) then .err 6 else if 8 < ps.length ∨ 16777216 < 2 + total ps then .err 1 else .ok (digB m t.toNat ps)
def DigPost (R : DR) (w : World) (e : Ending) (w' : World) : Prop := match R with
  | .err c => e = .returned (.tuple #[.slice none 0 0, .int .i64 c]) ∧ Below w.heap.size w w'
  | .ok b => ∃ v, e = .returned (.tuple #[v, .int .i64 0]) ∧ RowT w' v b ∧ Below w.heap.size w w'
set_option maxRecDepth 100000 in
theorem mode_any (m : Int) (w : World) (m0 : -9223372036854775808 ≤ m) (m1 : m ≤ 9223372036854775807) :
    Calls Tryd.prog 15 #[.int .i64 m] w fun e w' => e = .returned (.bool (isMode m)) ∧ w = w' := by
  obtain ⟨b, hb⟩ : ∃ b, isMode m = b := ⟨_, rfl⟩
  rw [hb]
  unfold isMode at hb
  by_cases h1 : m = 1
  · subst h1
    have : b = true := by rw [← hb]; rfl
    subst this
    clear hb
    go_enter Tryd.func15, Tryd.ntmps15
    go_wp2_with fail
    go_ret
    exact ⟨rfl, rfl⟩
  · by_cases h2 : m = 2
    · subst h2
      have : b = true := by rw [← hb]; rfl
      subst this
      clear hb
      go_enter Tryd.func15, Tryd.ntmps15
      go_wp2_with fail
      go_ret
      exact ⟨rfl, rfl⟩
    · have : b = false := by rw [← hb]; simp [h1, h2]
      subst this
      clear hb
      go_enter Tryd.func15, Tryd.ntmps15
      go_wp2_with fail
      go_ret
      exact ⟨by show Ending.returned (.bool (m == 1 || m == 2)) = _; simp [h1, h2], rfl⟩
set_option maxRecDepth 100000 in
theorem badMode_any (m : Int) (w : World) (m0 : -9223372036854775808 ≤ m) (m1 : m ≤ 9223372036854775807) :
    Calls Tryd.prog 21 #[.int .i64 m] w fun e w' => e = .returned (.bool (!isMode m)) ∧ w = w' := by
  obtain ⟨b, hb⟩ : ∃ b, isMode m = b := ⟨_, rfl⟩
  rw [hb]
  unfold isMode at hb
  by_cases h1 : m = 1
  · subst h1
    have : b = true := by rw [← hb]; rfl
    subst this
    clear hb
    go_enter Tryd.func21, Tryd.ntmps21
    go_wp2_with fail
    go_ret
    exact ⟨rfl, rfl⟩
  · by_cases h2 : m = 2
    · subst h2
      have : b = true := by rw [← hb]; rfl
      subst this
      clear hb
      go_enter Tryd.func21, Tryd.ntmps21
      go_wp2_with fail
      go_ret
      exact ⟨rfl, rfl⟩
    · have : b = false := by rw [← hb]; simp [h1, h2]
      subst this
      clear hb
      go_enter Tryd.func21, Tryd.ntmps21
      go_wp2_with fail
      go_ret
      exact ⟨by show Ending.returned (.bool (m != 1 && m != 2)) = _; simp [h1, h2], rfl⟩
/-- A block of thirty-two bytes. -/
theorem rowT_arr {w : World} {g : Nat} {l : List UInt8} (h : w.heap[g]? = some (.cells (u8s l).toArray 68 (0, 0))) (hl : l.length = 32) : RowT w (.slice (some ⟨g, 0, none⟩) 32 32) l := by
  refine ⟨_, 32, by rw [hl], by omega, by decide, (fun h => by cases h), .inr ⟨g, _, _, _, rfl, h, .inr rfl, fun j x hx => ?_⟩⟩
  have := u8s_get hx
  simpa using this
set_option maxRecDepth 100000 in
set_option maxHeartbeats 4000000 in
theorem Digest_any (m t : Int) (ps : List (List UInt8)) (ap : Option Addr) (cp : Nat) (w : World) (m0 : -9223372036854775808 ≤ m) (m1 : m ≤ 9223372036854775807) (t0 : -9223372036854775808 ≤ t) (t1 : t ≤ 9223372036854775807) (hn : ps.length ≤ 9223372036854775807) (hB : ∀ l ∈ ps, l.length ≤ 140737488351232) (hl : Lines w ap ps) (hT : KW w) :
    Calls Tryd.prog 35 #[.int .i64 m, .int .i64 t, .slice ap ps.length cp] w (DigPost (digR m t ps) w) := by
  have cM := fun W => mode_any m W m0 m1
  obtain ⟨R, hR⟩ : ∃ R, digR m t ps = R := ⟨_, rfl⟩
  rw [hR]
  unfold digR at hR
  have hBB := Below.refl w.heap.size w
  cases hm : isMode m with
  | false =>
    rw [if_pos hm] at hR
    subst hR
    rw [hm] at cM
    clear hm hn hB
    generalize ps.length = n
    go_enter Tryd.func35, Tryd.ntmps35
    go_wp2_with fail
    refine (cM _).mono ?_
    rintro e w1 ⟨rfl, rfl⟩
    go_wp2_with fail
    go_ret2
    exact ⟨rfl, hBB⟩
  | true =>
    rw [if_neg (by rw [hm]; decide)] at hR
    rw [hm] at cM
    by_cases ht : 1 ≤ t ∧ t ≤ 9
    · rw [if_neg (by simpa using ht)] at hR
      by_cases hb : 8 < ps.length ∨ 16777216 < 2 + total ps
      · rw [if_pos hb] at hR
        subst hR
        have cF : Calls Tryd.prog 39 #[.int .i64 t, .slice ap ps.length cp] w fun e w' => e = .returned (.tuple #[.slice none 0 0, .int .i64 1]) ∧ w = w' := by
          by_cases h8 : 8 < ps.length
          · exact Frame_many t ht ap ps.length cp h8 hn w
          · exact Frame_big t ht ps ap cp (by omega) (by omega) w hl hB
        clear hm hn hB hb hl ht
        generalize ps.length = n at *
        go_enter Tryd.func35, Tryd.ntmps35
        go_wp2_with fail
        refine (cM _).mono ?_
        rintro e w1 ⟨rfl, rfl⟩
        clear cM
        go_wp2_with fail
        refine cF.mono ?_
        rintro e w1 ⟨rfl, rfl⟩
        go_wp2_with fail
        go_ret2
        exact ⟨rfl, hBB⟩
      · rw [if_neg hb] at hR
        subst hR
        obtain ⟨T, rfl⟩ : ∃ T : Nat, t = T := ⟨t.toNat, by omega⟩
        rw [Int.toNat_natCast]
        have cF := Frame_good T (by omega) (by omega) ps ap cp (by omega) (by omega) w hl
        have hfl := frame_length T ps
        have hfm : (frame T ps).length ≤ 16777216 := by omega
        unfold digB
        clear hfl
        generalize frame T ps = F at *
        clear hn hB hb hl ht
        generalize ps.length = n at *
        by_cases h2 : m = 2
        · rw [if_pos h2]
          subst h2
          clear hm
          go_enter Tryd.func35, Tryd.ntmps35
          go_wp2_with fail
          refine (cM _).mono ?_
          rintro e w1 ⟨rfl, rfl⟩
          clear cM
          go_wp2_with fail
          refine cF.mono ?_
          rintro e w1 ⟨v1, rfl, ho1, hb1⟩
          have hr := ho1.rowT
          clear cF
          go_wp2_with fail
          go_ret2
          exact ⟨_, rfl, hr, hb1⟩
        · rw [if_neg h2]
          have cS := fun W ab cb h1 h2 h3 h4 => sum_any F ab cb W h1 h2 h3 (by omega) h4
          have hsl : (ShaMath.sha F).length = 32 := ShaMath.sha_length _
          generalize ShaMath.sha F = H at *
          clear hm
          go_enter Tryd.func35, Tryd.ntmps35
          go_wp2_with fail
          refine (cM _).mono ?_
          rintro e w1 ⟨rfl, rfl⟩
          clear cM
          go_wp2_with fail
          refine cF.mono ?_
          rintro e w1 ⟨v1, rfl, ho1, hb1⟩
          clear cF
          obtain ⟨a1, k1, rfl, i1, i2, i3, i4⟩ := ho1.rowT.row
          have c := cS w1 a1 k1 i1 i2 i4 (hT.keep hb1 (Nat.le_refl _))
          clear cS i1 i2 i3 i4 ho1
          generalize F.length = fl at *
          obtain ⟨RA, hRA⟩ : ∃ RA, (u8s H).toArray = RA := ⟨_, rfl⟩
          rw [hRA] at c
          go_wp2_with fail
          refine c.mono ?_
          rintro e w2 ⟨rfl, hb2⟩
          have hbb := below_step hb1 hb1.size hb2
          clear c
          go_wp2_with (first
            | (refine wpList_store_blk rfl 68 (.tmp 10) (.tmp 27) rfl w2.heap.size 0 rfl _ _ (Blk.new w2 _ _) (u8s H) RA (by rw [← hRA]) rfl (by rw [u8s_length, hsl]; decide) (by rw [u8s_length, hsl]; kernel_rfl) (u8s_one _) ?_; intro x3 hg7 hs7 hB7)
            | fail)
          have hB8 : Blk x3 w2.heap.size 68 (u8s H) := by
            rw [List.take_zero, List.nil_append, u8s_length, hsl, List.drop_of_length_le (by decide), List.append_nil] at hB7
            exact hB7
          have hb3 := (hbb.alloc hbb.size _).grown hg7 (hbb.alloc hbb.size _).size (fun k h => by cases h; exact hbb.size)
          go_ret2
          exact ⟨_, rfl, rowT_arr hB8 hsl, hb3⟩
    · rw [if_pos (by simpa using ht)] at hR
      subst hR
      have cF := Frame_badTag t ht (.slice ap ps.length cp) w t0 t1
      clear hm hn hB hl ht
      generalize ps.length = n at *
      go_enter Tryd.func35, Tryd.ntmps35
      go_wp2_with fail
      refine (cM _).mono ?_
      rintro e w1 ⟨rfl, rfl⟩
      clear cM
      go_wp2_with fail
      refine cF.mono ?_
      rintro e w1 ⟨rfl, rfl⟩
      go_wp2_with fail
      go_ret2
      exact ⟨rfl, hBB⟩
end Go.Proofs.YtcnemacakjemjaaDoor

/-! OPEN DIGESTS, plain: they are the frames that they digest. CONDITIONS: each theorem's own hypotheses. -/
namespace Go.Proofs.YtcnemacakjemjaaDoor
open Go.RowKit CodeMath Go.Proofs.YtcnemacakjemjaaDoor.FrameMath
set_option linter.unusedVariables false
set_option maxRecDepth 100000

theorem digR_open {t : Int} {ps : List (List UInt8)} {x : List UInt8} (h : digR 2 t ps = .ok x) : x = frame t.toNat ps ∧ (1 ≤ t ∧ t ≤ 9) ∧ ps.length ≤ 8 ∧ 2 + total ps ≤ 16777216 := by
  unfold digR at h
  split at h
  · cases h
  · split at h
    · cases h
    · rename_i h2
      split at h
      · cases h
      · rename_i h3
        cases h
        exact ⟨rfl, by omega, by omega, by omega⟩
theorem digR_inj {t : Int} {ps qs : List (List UInt8)} {x : List UInt8} (h : digR 2 t ps = .ok x) (h' : digR 2 t qs = .ok x) : ps = qs := by
  obtain ⟨e1, a1, b1, c1⟩ := digR_open h
  obtain ⟨e2, a2, b2, c2⟩ := digR_open h'
  have hpl : ∀ p ∈ ps, p.length < 4294967296 := fun p h => by have := total_mem ps p h; omega
  have hql : ∀ p ∈ qs, p.length < 4294967296 := fun p h => by have := total_mem qs p h; omega
  exact (frame_apart t.toNat t.toNat ps qs [] [] (by omega) (by omega) (by omega) (by omega) hpl hql (by rw [List.append_nil, List.append_nil, ← e1, e2])).2.1
theorem digR_tags {t u : Int} {ps qs : List (List UInt8)} {x : List UInt8} (h : digR 2 t ps = .ok x) (h' : digR 2 u qs = .ok x) : t = u := by
  obtain ⟨e1, a1, b1, c1⟩ := digR_open h
  obtain ⟨e2, a2, b2, c2⟩ := digR_open h'
  have hpl : ∀ p ∈ ps, p.length < 4294967296 := fun p h => by have := total_mem ps p h; omega
  have hql : ∀ p ∈ qs, p.length < 4294967296 := fun p h => by have := total_mem qs p h; omega
  have := (frame_apart t.toNat u.toNat ps qs [] [] (by omega) (by omega) (by omega) (by omega) hpl hql (by rw [List.append_nil, List.append_nil, ← e1, e2])).1
  omega
end Go.Proofs.YtcnemacakjemjaaDoor

/-! CONTRACT of the reference's DigestOf. CONDITIONS: each theorem's own hypotheses. -/
namespace Go.Proofs.YtcnemacakjemjaaDoor
open Go.RowKit CodeMath Go.Proofs.YtcnemacakjemjaaDoor.FrameMath
set_option linter.unusedVariables false
set_option maxRecDepth 100000

set_option maxRecDepth 100000 in
set_option maxHeartbeats 4000000 in
theorem DigestOf_any (m t : Int) (ps : List (List UInt8)) (ap : Option Addr) (cp : Nat) (w : World) (m0 : -9223372036854775808 ≤ m) (m1 : m ≤ 9223372036854775807) (t0 : -9223372036854775808 ≤ t) (t1 : t ≤ 9223372036854775807) (hn : ps.length ≤ 9223372036854775807) (hB : ∀ l ∈ ps, l.length ≤ 140737488351232) (hl : Lines w ap ps) :
    Calls Tryd.prog 31 #[.int .i64 m, .int .i64 t, .slice ap ps.length cp] w (DigPost (digR m t ps) w) := by
  have cM := fun W => badMode_any m W m0 m1
  obtain ⟨R, hR⟩ : ∃ R, digR m t ps = R := ⟨_, rfl⟩
  rw [hR]
  unfold digR at hR
  have hBB := Below.refl w.heap.size w
  cases hm : isMode m with
  | false =>
    rw [if_pos hm] at hR
    subst hR
    rw [hm] at cM
    clear hm hn hB
    generalize ps.length = n
    go_enter Tryd.func31, Tryd.ntmps31
    go_wp2_with fail
    refine (cM _).mono ?_
    rintro e w1 ⟨rfl, rfl⟩
    go_wp2_with fail
    go_ret2
    exact ⟨rfl, hBB⟩
  | true =>
    rw [if_neg (by rw [hm]; decide)] at hR
    rw [hm] at cM
    by_cases ht : 1 ≤ t ∧ t ≤ 9
    · rw [if_neg (by simpa using ht)] at hR
      by_cases hb : 8 < ps.length ∨ 16777216 < 2 + total ps
      · rw [if_pos hb] at hR
        subst hR
        have cF : Calls Tryd.prog 37 #[.int .i64 t, .slice ap ps.length cp] w fun e w' => e = .returned (.tuple #[.slice none 0 0, .int .i64 1]) ∧ w = w' := by
          by_cases h8 : 8 < ps.length
          · exact FrameOf_many t ht ap ps.length cp h8 hn w
          · exact FrameOf_big t ht ps ap cp (by omega) (by omega) w hl hB
        clear hm hn hB hb hl ht
        generalize ps.length = n at *
        go_enter Tryd.func31, Tryd.ntmps31
        go_wp2_with fail
        refine (cM _).mono ?_
        rintro e w1 ⟨rfl, rfl⟩
        clear cM
        go_wp2_with fail
        refine cF.mono ?_
        rintro e w1 ⟨rfl, rfl⟩
        go_wp2_with fail
        go_ret2
        exact ⟨rfl, hBB⟩
      · rw [if_neg hb] at hR
        subst hR
        obtain ⟨T, rfl⟩ : ∃ T : Nat, t = T := ⟨t.toNat, by omega⟩
        rw [Int.toNat_natCast]
        have cF := FrameOf_goodT T (by omega) (by omega) ps ap cp (by omega) (by omega) w hl
        have hfl := frame_length T ps
        have hfm : (frame T ps).length ≤ 16777216 := by omega
        have hmm : m = 1 ∨ m = 2 := by simpa [isMode] using hm
        unfold digB
        clear hfl
        generalize frame T ps = F at *
        clear hn hB hb hl ht
        generalize ps.length = n at *
        by_cases h2 : m = 2
        · rw [if_pos h2]
          subst h2
          clear hm hmm
          go_enter Tryd.func31, Tryd.ntmps31
          go_wp2_with fail
          refine (cM _).mono ?_
          rintro e w1 ⟨rfl, rfl⟩
          clear cM
          go_wp2_with fail
          refine cF.mono ?_
          rintro e w1 ⟨v1, rfl, hr, hb1⟩
          clear cF
          go_wp2_with fail
          go_ret2
          exact ⟨_, rfl, hr, hb1⟩
        · rw [if_neg h2]
          obtain rfl : m = 1 := by omega
          have cS := fun W ab cb h1 h2 h3 => summed_any F ab cb W h1 h2 h3 (by omega)
          have hsl : (ShaMath.sha F).length = 32 := ShaMath.sha_length _
          generalize ShaMath.sha F = H at *
          clear hm hmm h2
          go_enter Tryd.func31, Tryd.ntmps31
          go_wp2_with fail
          refine (cM _).mono ?_
          rintro e w1 ⟨rfl, rfl⟩
          clear cM
          go_wp2_with fail
          refine cF.mono ?_
          rintro e w1 ⟨v1, rfl, hr1, hb1⟩
          clear cF
          obtain ⟨a1, k1, rfl, i1, i2, i3, i4⟩ := hr1.row
          have c := cS w1 a1 k1 i1 i2 i4
          clear cS i1 i2 i3 i4 hr1
          generalize F.length = fl at *
          obtain ⟨RA, hRA⟩ : ∃ RA, (u8s H).toArray = RA := ⟨_, rfl⟩
          rw [hRA] at c
          go_wp2_with fail
          refine c.mono ?_
          rintro e w2 ⟨rfl, hb2⟩
          have hbb := below_step hb1 hb1.size hb2
          clear c
          have hba : ∀ o, Below w.heap.size w (w2.alloc o) := fun o => hbb.alloc hbb.size o
          have c32 := fun W (h : Bytes W (some ⟨w2.heap.size, 0, none⟩) H) => bytes_string (cap := 32) h
          rw [hsl] at c32
          have s32 := fun W => slice_all32 w2.heap.size 0 W
          go_upto_region 6 with (first
            | (refine wpList_store_blk rfl 68 (.tmp 10) (.tmp 26) rfl w2.heap.size 0 rfl _ _ (Blk.new w2 _ _) (u8s H) RA (by rw [← hRA]) rfl (by rw [u8s_length, hsl]; decide) (by rw [u8s_length, hsl]; kernel_rfl) (u8s_one _) ?_; intro x3 hg7 hs7 hB7)
            | fail)
          have hB8 : Blk x3 w2.heap.size 68 (u8s H) := by
            rw [List.take_zero, List.nil_append, u8s_length, hsl, List.drop_of_length_le (by decide), List.append_nil] at hB7
            exact hB7
          have hb3 := (hbb.alloc hbb.size _).grown hg7 (hbb.alloc hbb.size _).size (fun k h => by cases h; exact hbb.size)
          obtain ⟨a9, k9, e9, _, _, _, y9⟩ := (rowT_arr hB8 hsl).row
          obtain ⟨rfl, he1, he2⟩ := Value.slice.inj e9
          have q1 := c32 x3 y9
          obtain ⟨g4, k4, w4, q2, hr4, hb4⟩ := bytesOf_T H x3 (by rw [hsl]; decide)
          rw [hsl] at q2 hr4
          have hb5 := below_step hb3 hb3.size hb4
          rw [show (⟨H.toArray⟩ : ByteArray) = str H from rfl] at q1
          generalize str H = SH at q1 q2
          clear hB7 hB8 hg7 hs7 c32 hba y9 e9 he1 he2
          simp only [Act.put]
          go_wp2_with fail
          go_ret2
          exact ⟨_, rfl, hr4, hb5⟩
    · rw [if_pos (by simpa using ht)] at hR
      subst hR
      have cF := FrameOf_badTag t ht (.slice ap ps.length cp) w t0 t1
      clear hm hn hB hl ht
      generalize ps.length = n at *
      go_enter Tryd.func31, Tryd.ntmps31
      go_wp2_with fail
      refine (cM _).mono ?_
      rintro e w1 ⟨rfl, rfl⟩
      clear cM
      go_wp2_with fail
      refine cF.mono ?_
      rintro e w1 ⟨rfl, rfl⟩
      go_wp2_with fail
      go_ret2
      exact ⟨rfl, hBB⟩
end Go.Proofs.YtcnemacakjemjaaDoor
