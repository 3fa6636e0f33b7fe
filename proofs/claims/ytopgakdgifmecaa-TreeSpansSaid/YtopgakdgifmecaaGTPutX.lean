/-
  MERGED: TShow, TPutX, TRefP, TLdN.
  CONDITIONS: each theorem's own hypotheses.
-/
import Derived.Test.YtopgakdgifmecaaGTLaid
import Derived.Test.YtopgakdgifmecaaTSumP
import Derived.Test.YtopgakdgifmecaaTFindQ

/-! CONTRACTS of package tree's lowered, with, show. CONDITIONS: each theorem's own hypotheses. -/
namespace Go.Proofs.Ytopgakdgifmecaa
open Go.RowKit
set_option linter.unusedVariables false
set_option maxRecDepth 100000

theorem results_row1 {fn : Func} {p : Tmp} {T : TypeId} {d : TypeDesc} (h : fn.results = #[.cell p T]) (tmps : Array Value) (w : World) (g : Nat) (cs : List Value) (hp : tmps.getD p undef = .pointer (some ⟨g, 0, none⟩)) (hg : Blk w g T cs)
    (hu : Try.prog.underlying T = some d) (hd : d.isRow = true) (hi : (Try.prog.info? T).map (·.size) = some cs.length) :
    (results fn tmps).run Try.prog w = .ok (.agg cs.toArray) w := by
  have hl := run_loadVar_row w g T T cs.toArray (0, 0) d hg hu (by cases d <;> simp_all) (by simpa using hi)
  have hp' : tmps[p]?.getD undef = .pointer (some ⟨g, 0, none⟩) := by simpa using hp
  simp [results, h, hp', asAddr, hl]
theorem results_row_tmp {fn : Func} {p u : Tmp} {T : TypeId} {d : TypeDesc} (h : fn.results = #[.cell p T, .tmp u]) (tmps : Array Value) (w : World) (g : Nat) (cs : List Value) (hp : tmps.getD p undef = .pointer (some ⟨g, 0, none⟩)) (hg : Blk w g T cs)
    (hu : Try.prog.underlying T = some d) (hd : d.isRow = true) (hi : (Try.prog.info? T).map (·.size) = some cs.length) :
    (results fn tmps).run Try.prog w = .ok (.tuple #[.agg cs.toArray, tmps.getD u undef]) w := by
  have hl := run_loadVar_row w g T T cs.toArray (0, 0) d hg hu (by cases d <;> simp_all) (by simpa using hi)
  have hp' : tmps[p]?.getD undef = .pointer (some ⟨g, 0, none⟩) := by simpa using hp
  simp [results, h, hp', asAddr, hl]
theorem lowered_any (t : Tr) (p : Nat) (F : List Nat) (w : World) (h : NdT w t p F) (hnd : F.Nodup) :
    Calls Try.prog 50 #[.pointer (some ⟨p, 0, none⟩)] w fun e w' => ∃ q G, e = .returned (ptrV q) ∧ NdT w (lowT t) q G ∧ G.Nodup ∧ (∀ b ∈ G, b ∈ F) ∧ w' = w := by
  cases t with
  | mk es ks =>
  have HG := Lib.hid h
  have HND := Lib.hid hnd
  simp only [NdT] at h
  obtain ⟨vE, vK, ps, Fk, hB, hE, hK, hL, rfl⟩ := h
  obtain ⟨ae, ce, rfl, -, -, -, -⟩ := owns_shape hE
  obtain ⟨ak, ck, rfl, -, -, -, -⟩ := owns_shape hK
  have cL := leaf_any p ae ak es.length ps.length ce ck w hB
  have n0 := hB.cell (j := 0) rfl
  have n1 := hB.cell (j := 1) rfl
  have hpl := NdL.len hL
  by_cases he : es = []
  · subst he
    have n0 : w.cell? ⟨p, 0, none⟩ = some (.slice ae 0 ce) := n0
    have e0 : (((0 : Nat) : Int) == 0) = true := rfl
    cases ks with
    | nil =>
      have hz : ps.length = 0 := hpl
      rw [hz] at cL n1
      have cL : Calls Try.prog 47 #[.pointer (some ⟨p, 0, none⟩)] w fun e w' => e = .returned (.bool true) ∧ w' = w := cL
      clear hB hE hK hL hnd hpl hz
      go_enter Try.func50, Try.ntmps50
      go_wp2_with fail
      refine cL.mono ?_
      rintro e w ⟨rfl, rfl⟩
      clear cL
      go_wp2_with fail
      go_ret
      exact ⟨p, _, rfl, HG.out, HND.out, fun b hb => hb, rfl⟩
    | cons k ks =>
      simp only [NdL] at hL
      obtain ⟨q, ps', F1, F2, rfl, rfl, hN, hR⟩ := hL
      obtain ⟨b, rfl, -, -, hc⟩ := hK.cell (j := 0) (p := q) rfl
      have hc : w.cell? ⟨b, 0, none⟩ = some (.pointer (some ⟨q, 0, none⟩)) := hc
      have HN := Lib.hid hN
      have HN1 : Hid F1.Nodup := Lib.hid (by
        simp only [List.nodup_cons, List.nodup_append] at hnd
        exact hnd.2.2.1.2.1.1)
      have cL : Calls Try.prog 47 #[.pointer (some ⟨p, 0, none⟩)] w fun e w' => e = .returned (.bool false) ∧ w' = w := by
        rw [show ((q :: ps').length == 0) = false from rfl] at cL; exact cL
      obtain ⟨C, hC⟩ : ∃ C, (q :: ps').length = C := ⟨_, rfl⟩
      have hi : (0 : Int) < (C : Int) := by rw [← hC, List.length_cons]; omega
      rw [hC] at n1
      clear hB hE hK hR hN hnd hpl HG HND hC
      go_enter Try.func50, Try.ntmps50
      go_wp2_with fail
      refine cL.mono ?_
      rintro e w ⟨rfl, rfl⟩
      clear cL
      go_wp2_with fail
      go_ret
      exact ⟨q, F1, rfl, HN.out, HN1.out, fun b hb => by simp [hb], rfl⟩
  · have hlow : lowT (.mk es ks) = .mk es ks := by
      cases es with
      | nil => exact absurd rfl he
      | cons e es => rfl
    have e0 : ((es.length : Int) == 0) = false := by
      have : es.length ≠ 0 := fun h => he (List.eq_nil_of_length_eq_zero h)
      simp; omega
    have HLOW := Lib.hid hlow
    generalize es.length = E at *
    clear hB hE hK hL hnd hpl cL he hlow
    go_enter Try.func50, Try.ntmps50
    go_wp2_with fail
    go_ret
    exact ⟨p, _, rfl, by rw [HLOW.out]; exact HG.out, HND.out, fun b hb => hb, rfl⟩
set_option maxHeartbeats 8000000 in
theorem with_any (sk : List UInt8) (y : Int) (n : Nat) (r : Tr) (hr0 : r = .mk [] [] ∨ ∃ d, d < n ∧ okT d r) (hn : 0 < n) (hr : RiseE (flatT r)) (p : Nat) (F : List Nat) (w : World) (h : NdT w r p F) (hnd : F.Nodup) :
    Calls Try.prog 34 #[.pointer (some ⟨p, 0, none⟩), .agg #[.string (str sk), .int .i64 y]] w fun e w' => ∃ q G, e = .returned (ptrV q) ∧ NdT w' (withT n r (sk, y)) q G ∧ G.Nodup ∧ Chg F w w' := by
  have hroot : ∃ d, d < n ∧ shT d r ∧ r.es.length ≤ 3 := by
    rcases hr0 with rfl | ⟨d, h1, h2⟩
    · exact ⟨0, hn, by simp only [shT], by simp [Tr.es]⟩
    · exact ⟨d, h1, ((ok_iff d r).1 h2).2.2, ((ok_iff d r).1 h2).2.1⟩
  obtain ⟨d, hd, hs, hl⟩ := hroot
  obtain ⟨i1, i2, i3, i4⟩ := put_all (sk, y) n d r hd hs hl hr
  have hput : putF (n + 1) (.mk [] [r]) (sk, y) = partK [] [putF n r (sk, y)] 0 := by simp [putF, plF, plI]
  have hFl := h.lt
  have ba := (Below.refl w.heap.size w).alloc (Nat.le_refl _) (.cells #[.string (str sk), .int .i64 y] 73)
  have za : Blk _ _ _ [_, _] := Blk.new w #[.string (str sk), .int .i64 y] 73
  have na : (w.alloc (.cells #[.string (str sk), .int .i64 y] 73)).heap.size = w.heap.size + 1 := by simp
  obtain ⟨w1, hw1⟩ : ∃ W, w.alloc (.cells #[.string (str sk), .int .i64 y] 73) = W := ⟨_, rfl⟩
  rw [hw1] at ba za na
  have bb := (Below.refl w1.heap.size w1).alloc (Nat.le_refl _) (.cells #[ptrV p] 61)
  have nb : (w1.alloc (.cells #[ptrV p] 61)).heap.size = w1.heap.size + 1 := by simp
  have ob : (w1.alloc (.cells #[ptrV p] 61)).ownsRow 0 61 1 (.slice (some ⟨w1.heap.size, 0, none⟩) 1 1) 1 [ptrV p] := by
    refine ⟨rfl, .inr ⟨w1.heap.size, 1, #[ptrV p], rfl, Nat.zero_le _, ?_, Nat.le_refl _, by decide, rfl, rfl⟩⟩
    exact (Blk.new w1 #[ptrV p] 61 : Blk _ _ _ _)
  obtain ⟨w2, hw2⟩ : ∃ W, w1.alloc (.cells #[ptrV p] 61) = W := ⟨_, rfl⟩
  rw [hw2] at bb nb ob
  have bc := (Below.refl w2.heap.size w2).alloc (Nat.le_refl _) (.cells #[.slice none 0 0, .slice (some ⟨w1.heap.size, 0, none⟩) 1 1] 83)
  have zc : Blk _ _ _ [_, _] := Blk.new w2 #[.slice none 0 0, .slice (some ⟨w1.heap.size, 0, none⟩) 1 1] 83
  obtain ⟨w3, hw3⟩ : ∃ W, w2.alloc (.cells #[.slice none 0 0, .slice (some ⟨w1.heap.size, 0, none⟩) 1 1] 83) = W := ⟨_, rfl⟩
  rw [hw3] at bc zc
  have b23 : Below w.heap.size w w3 := (ba.trans (bb.mono (by omega))).trans (bc.mono (by omega))
  have hN : NdT w3 (.mk [] [r]) w2.heap.size (w2.heap.size :: ([] ++ ([w1.heap.size] ++ F))) := by
    simp only [NdT]
    exact ⟨.slice none 0 0, _, [p], F, zc, OwnE.nil _ _, owns_same ob (fun b e => bc.block b (ob.lt b e).2), NdL.one (h.below b23), rfl⟩
  have hnod : (w2.heap.size :: ([] ++ ([w1.heap.size] ++ F))).Nodup := by
    simp only [List.nil_append, List.cons_append, List.nodup_cons, List.mem_cons]
    refine ⟨fun h => ?_, fun h => ?_, hnd⟩
    · rcases h with h | h
      · omega
      · have := hFl _ h; omega
    · have := hFl _ h; omega
  have cP := put_kid sk y [] [r] r (putF n r (sk, y)) w2.heap.size _ w3 (by simp [plF, plI]) (by simp) (by simp) (by simp [RiseE]) hN hnod (by simp [plI]) (fun q G W hq hG => by
    rcases hr0 with rfl | ⟨d', h1, h2⟩
    · cases n with
      | zero => omega
      | succ n =>
        have := put_leaf sk y [] q G W (by simp [plF, plI]) (by simp) (by simp [RiseE]) hq hG
        simpa [putF, plF, plI] using this
    · exact put_any sk y n d r q G W hd hs hl hr hq hG) (by omega) (sh_fit0 d _ i2)
  rw [show plI [] sk = 0 from rfl, show ([r] : List Tr).set 0 (putF n r (sk, y)) = [putF n r (sk, y)] from rfl, ← hput] at cP
  have k0 := za.cell (j := 0) rfl
  have k1 := za.cell (j := 1) rfl
  have hk : w3.cell? ⟨w.heap.size, 0, none⟩ = some (.string (str sk)) ∧ w3.cell? ⟨w.heap.size, 1, none⟩ = some (.int .i64 y) := by
    have := (za.call (w' := w2) bb).call bc
    exact ⟨this.cell (j := 0) rfl, this.cell (j := 1) rfl⟩
  obtain ⟨k2, k3⟩ := hk
  have HW1 := Lib.hid hw1
  have HW2 := Lib.hid hw2
  have HB23 := Lib.hid b23
  have HNS := Lib.hid (And.intro na nb)
  have HW : Hid (withT n r (sk, y) = lowT (putF (n + 1) (.mk [] [r]) (sk, y))) := Lib.hid rfl
  obtain ⟨T, hT⟩ : ∃ T, putF (n + 1) (.mk [] [r]) (sk, y) = T := ⟨_, rfl⟩
  rw [hT] at cP HW
  obtain ⟨ma, hma⟩ : ∃ m, w.heap.size = m := ⟨_, rfl⟩
  have hmb : w1.heap.size = ma + 1 := by omega
  have hmc : w2.heap.size = ma + 1 + 1 := by omega
  rw [hma] at k0 k1 k2 k3
  rw [hmc, hmb] at cP
  rw [hmb] at hw3
  have HW3 := Lib.hid hw3
  have HMA := Lib.hid hma
  have HMB := Lib.hid hmb
  have HMC := Lib.hid hmc
  clear hr0 hn hr h hnd hs hl i1 i2 i3 i4 hput hFl ba za na hw1 bb nb ob hw2 bc zc hw3 b23 hN hnod hT hd hma hmb hmc
  go_enter Try.func34, Try.ntmps34
  go_upto_region 2 with fail
  rw [HW1.out, HMA.out, HW2.out, HW3.out]
  go_wp2_with fail
  refine cP.mono ?_
  rintro e w4 ⟨rfl, G4, hN4, hnd4, hin4, hc4⟩
  have cL := lowered_any T (ma + 1 + 1) G4 w4 hN4 hnd4
  have hch : Chg F w w4 := (Chg.ofBelow F HB23.out).trans hc4 (fun x hx => by
    have h1 := HNS.out.1
    have h2 := HNS.out.2
    have h3 := HMA.out
    have h4 := HMB.out
    have h5 := HMC.out
    simp only [List.nil_append, List.cons_append, List.mem_cons] at hx
    rcases hx with rfl | rfl | hx
    · right; omega
    · right; omega
    · exact .inl hx)
  have HCH := Lib.hid hch
  clear cP k0 k1 k2 k3 hN4 hnd4 hin4 hc4 hch
  go_wp2_with fail
  refine cL.mono ?_
  rintro e w5 ⟨q, G, rfl, hN5, hnd5, hin5, rfl⟩
  have HN5 := Lib.hid hN5
  have HND5 := Lib.hid hnd5
  clear cL hN5 hnd5 hin5
  go_wp2_with fail
  go_ret
  exact ⟨q, G, rfl, by rw [HW.out]; exact HN5.out, HND5.out, HCH.out⟩
/-- The root is shown. -/
theorem show_any (d n : Nat) (t : Tr) (p : Nat) (G : List Nat) (w : World) (hd : d < n) (hok : okT d t) (hky : ∀ e ∈ flatT t, e.1.length ≤ 1000000) (hN : NdT w t p G) (hsz : sizeT t ≤ 1000) :
    Calls Try.prog 33 #[.pointer (some ⟨p, 0, none⟩)] w fun e w' => ∃ v F', e = .returned (.agg #[v]) ∧ LdN w' v (layN 0 t) F' ∧ (∀ b ∈ F', w.heap.size ≤ b) ∧ Below w.heap.size w w' := by
  obtain ⟨es, ks⟩ := t
  have hk3 := (ok_iff d _).1 hok
  simp only [Tr.es] at hk3
  obtain ⟨ae, ak, ce, ck, hB, hp, -, -, -, -⟩ := hN.open
  have n0 := hB.cell (j := 0) rfl
  have e0 : ((es.length : Int) == 0) = false := beq_eq_false_iff_ne.2 (by omega)
  have z0 : Blk _ _ _ [_] := Blk.new w #[.slice none 0 0] 24
  have hb0 := (Below.refl w.heap.size w).alloc (Nat.le_refl _) (.cells #[.slice none 0 0] 24)
  obtain ⟨w0, hw0⟩ : ∃ W, w.alloc (.cells #[.slice none 0 0] 24) = W := ⟨_, rfl⟩
  rw [hw0] at z0 hb0
  have n0 : w0.cell? ⟨p, 0, none⟩ = some (.slice ae es.length ce) := (hB.keep hb0 hp).cell (j := 0) rfl
  have cL := laid_any n d (.mk es ks) p G (.slice none 0 0) [] [] w0 hd hok hky (hN.below hb0) (LdN.nil _) List.nodup_nil (fun b _ h => by cases h) (by simpa using hsz)
  obtain ⟨m, hm⟩ : ∃ m, w.heap.size = m := ⟨_, rfl⟩
  rw [hm] at z0
  have HW0 := Lib.hid hw0
  have HZ0 := Lib.hid z0
  have HB0 := Lib.hid hb0
  have HM := Lib.hid hm
  generalize es.length = E at *
  clear hok hky hN hsz hk3 hB hp z0 hb0 hw0 hm
  go_enter Try.func33, Try.ntmps33
  go_upto_region 1 with fail
  rw [HW0.out, HM.out]
  go_wp2_with fail
  refine cL.mono ?_
  rintro e w1 ⟨v, F', rfl, hL, hnd, hin, hc⟩
  have hL : LdN w1 v (layN 0 (.mk es ks)) F' := hL
  have hb1 : Below w0.heap.size w0 w1 := hc.below (B := w0.heap.size) (by simp) (Nat.le_refl _)
  obtain ⟨rs, hrow, hrs, hFe⟩ := id hL
  have hz1 := HZ0.out.call hb1
  have q0 := hz1.cell (j := 0) rfl
  have q1 := hz1.free 0
  obtain ⟨av, cv, ev, -, -, -, -⟩ := owns_shape hrow
  obtain ⟨Lv, hLv⟩ : ∃ L, (layN 0 (Tr.mk es ks)).length = L := ⟨_, rfl⟩
  rw [hLv] at ev
  subst ev
  have hz2 := hz1.set 0 (.slice av Lv cv)
  have hz2 : Blk (w1.setCell ⟨m, 0, none⟩ (.slice av Lv cv)) m 24 [.slice av Lv cv] := hz2
  have HZ2 := Lib.hid hz2
  have HG : Hid (∃ v F', .slice av Lv cv = v ∧ LdN (w1.setCell ⟨m, 0, none⟩ (.slice av Lv cv)) v (layN 0 (.mk es ks)) F' ∧ (∀ b ∈ F', w.heap.size ≤ b) ∧ Below w.heap.size w (w1.setCell ⟨m, 0, none⟩ (.slice av Lv cv))) := Lib.hid ⟨_, F', rfl, hL.same (fun b hb => heap_setCell_other w1 ⟨m, 0, none⟩ b _ (by
    have := hin b hb
    have h1 := HZ0.out.lt
    rcases this with h | h
    · cases h
    · show b ≠ m; omega)), (fun b hb => by
    have h1 := HB0.out.size
    rcases hin b hb with h | h
    · cases h
    · omega), (below_stepE HB0.out HB0.out.size hb1).setCell (p := ⟨m, 0, none⟩) (by rw [HM.out]; exact Nat.le_refl _) _⟩
  clear cL hL hnd hin hc hb1 hrow hrs hFe hz1 hLv hz2 n0
  go_wp2_with fail
  refine bodyPost_ret (results_row1 rfl _ _ m [.slice av Lv cv] rfl HZ2.out rfl rfl (by kernel_rfl)) rfl ?_
  obtain ⟨v, F2, rfl, g1, g2, g3⟩ := HG.out
  exact ⟨_, F2, rfl, g1, g2, g3⟩
end Go.Proofs.Ytopgakdgifmecaa

/-! CONTRACT of package tree's Put. CONDITIONS: each theorem's own hypotheses. -/
namespace Go.Proofs.Ytopgakdgifmecaa
open Go.RowKit
set_option linter.unusedVariables false
set_option maxRecDepth 100000

/-- What is wrong with a put. -/
def putC (ns : List Nq) (s : List UInt8) (v : Int) : Int := if readC ns ≠ 0 then readC ns else if 60 < s.length then 1 else if 100 < (putR s v (flatT (rootQ ns))).length then 9 else 0
theorem put_plain (ns : List Nq) (s : List UInt8) (v : Int) (h : readC ns = 0) : sumK ns ≤ 100 ∧ RiseE (flatT (rootQ ns)) ∧ ((rootQ ns = .mk [] []) ∨ ∃ d, d < 101 ∧ okT d (rootQ ns)) ∧ (∀ e ∈ putR s v (flatT (rootQ ns)), e.1.length ≤ 60 ∨ e.1 = s) ∧
    (∀ (u : Int) (ok : Bool), FindR s (rootQ ns) u ok → ((100 < (putR s v (flatT (rootQ ns))).length) ↔ (ok = false ∧ sumK ns = 100))) ∧
    ∃ d, d ≤ 101 ∧ okT d (withT 101 (rootQ ns) (s, v)) ∧ flatT (withT 101 (rootQ ns) (s, v)) = putR s v (flatT (rootQ ns)) ∧ sizeT (withT 101 (rootQ ns) (s, v)) ≤ 1000 := by
  obtain ⟨h1, h2, h3, h4⟩ := root_rise ns h
  have hsm := h1
  unfold smallQ at hsm
  simp only [Bool.and_eq_true, decide_eq_true_eq] at hsm
  have hsum := flat_sum ns h
  have hok : (rootQ ns = .mk [] []) ∨ ∃ d, d < 101 ∧ okT d (rootQ ns) := (root_ok ns h).imp (fun h => h.2) id
  obtain ⟨w1, d, w2, w3⟩ := with_all (s, v) 101 (rootQ ns) hok (by decide) h4
  simp only at w1
  have hlen := putR_len s v _ h4
  refine ⟨hsm.2.2, h4, hok, fun e he => ?_, fun u ok hf => ?_, d, w2, w3, w1, ?_⟩
  · rcases putR_mem s v _ e he with rfl | he
    · exact .inr rfl
    · exact .inl (flat_short ns h1 e ns.length 0 he)
  · obtain ⟨f1, f2⟩ := find_flat s hf (root_good ns h2 hsm.2.1).1 h4
    rw [hlen, hsum]
    cases ok with
    | true =>
      rw [if_pos ⟨_, f1 rfl, rfl⟩]
      simp; omega
    | false =>
      rw [if_neg (fun ⟨e, he, h⟩ => (f2 rfl).2 e he h)]
      simp; omega
  · obtain ⟨k1, _⟩ := lay_keys (withT 101 (rootQ ns) (s, v)) 0 (ok_fit d _ w3)
    have hone : ∀ n ∈ layN 0 (withT 101 (rootQ ns) (s, v)), 1 ≤ n.keys.length := fun n hn => by
      obtain ⟨q, hq⟩ := List.getElem?_of_mem hn
      exact (whole_open (lay_good _ d 0 q n w3 hq).1).1
    have := lay_size _ hone
    rw [k1, layN_len, w1, hlen, hsum] at this
    split at this <;> omega
structure PutOk (ns : List Nq) (s : List UInt8) (v : Int) (w w' : World) (u : Value) : Prop where
  low : Below w.heap.size w w'
  bad : putC ns s v ≠ 0 → u = .slice none 0 0
  good : putC ns s v = 0 → ∃ F', LdN w' u (layN 0 (withT 101 (rootQ ns) (s, v))) F' ∧ ∀ b ∈ F', w.heap.size ≤ b
set_option maxHeartbeats 16000000 in
theorem treePut_any (ns : List Nq) (ao : Option Addr) (cap : Nat) (s : List UInt8) (v : Int) (w : World) (hl : ns.length ≤ 9223372036854775806) (hF : FewKeys ns) (hS : Nodes w ao ns) (hs : s.length ≤ 9223372036854775807) :
    Calls Try.prog 17 #[.agg #[.slice ao ns.length cap], .string (str s), .int .i64 v] w fun e w' => ∃ u, e = .returned (.tuple #[.agg #[u], .int .i64 (putC ns s v)]) ∧ PutOk ns s v w w' u := by
  have cR := fun W (hW : Below w.heap.size w W) => read_any ns ao cap W hl hF (hS.keep hW)
  have cK := fun W (hW : Below w.heap.size w W) (h100 : ns.length ≤ 100) => keysOf_any ns ao cap W h100 hF (hS.keep hW)
  have z0 := Blk.new w #[.slice ao ns.length cap] 24
  have hb0 := (Below.refl w.heap.size w).alloc (Nat.le_refl _) (.cells #[.slice ao ns.length cap] 24)
  have hs0 : (w.alloc (.cells #[.slice ao ns.length cap] 24)).heap.size = w.heap.size + 1 := by simp
  generalize hw0 : w.alloc (.cells #[.slice ao ns.length cap] 24) = w0 at z0 hb0 hs0
  have z1 : Blk _ _ _ [_] := Blk.new w0 #[.slice none 0 0] 24
  have hb1 := (Below.refl w0.heap.size w0).alloc (Nat.le_refl _) (.cells #[.slice none 0 0] 24)
  have hs1 : (w0.alloc (.cells #[.slice none 0 0] 24)).heap.size = w0.heap.size + 1 := by simp
  generalize hw1 : w0.alloc (.cells #[.slice none 0 0] 24) = w1 at z1 hb1 hs1
  obtain ⟨m3, hm3⟩ : ∃ m, w.heap.size = m := ⟨_, rfl⟩
  have hm6 : w0.heap.size = m3 + 1 := by omega
  have HZ0 : Hid (Blk w1 m3 24 [.slice ao ns.length cap]) := Lib.hid (by rw [← hm3]; exact Blk.call z0 hb1)
  have HZ1 : Hid (Blk w1 (m3 + 1) 24 [.slice none 0 0]) := Lib.hid (by rw [← hm6]; exact z1)
  have HB1 : Hid (Below w.heap.size w w1) := Lib.hid (hb0.trans (hb1.mono (by omega)))
  have HS1 : Hid (w1.heap.size = m3 + 2) := Lib.hid (by omega)
  have HW0 := Lib.hid hw0
  have HW1 := Lib.hid hw1
  have HM3 := Lib.hid hm3
  have p0 := HZ0.out.cell (j := 0) rfl
  have c1 := cR w1 HB1.out
  have HPL := Lib.hid (put_plain ns s v)
  have HORD := Lib.hid (root_ord ns)
  have HCK := Lib.hid cK
  obtain ⟨R, hR⟩ : ∃ R, readC ns = R := ⟨_, rfl⟩
  rw [hR] at c1
  have HR := Lib.hid hR
  have hss := str_size s
  have HSS : Hid (s.length = (str s).size) := Lib.hid hss.symm
  have hssb : (str s).size ≤ 9223372036854775807 := by omega
  obtain ⟨S, hS2⟩ : ∃ S, str s = S := ⟨_, rfl⟩
  have HSTR := Lib.hid hS2
  rw [hS2] at HSS hssb ⊢
  obtain ⟨L, hL⟩ : ∃ L, ns.length = L := ⟨_, rfl⟩
  rw [hL] at p0 c1 HW0 ⊢
  have HLL := Lib.hid hL
  have hbR : R = 0 ∨ R ≠ 0 := by omega
  have hbS : (60 : Int) < (S.size : Int) ∨ ¬ (60 : Int) < (S.size : Int) := by omega
  clear cR cK hS hF hl hw0 z0 hb0 hR hL hs0 z1 hb1 hs1 hw1 hm3 hm6 hs hss hS2
  have HEND : Hid (∀ (W : World) (c : Int), putC ns s v = c → Below w1.heap.size w1 W → c ≠ 0 → Blk W (m3 + 1) 24 [.slice none 0 0] ∧ PutOk ns s v w (W.setCell ⟨m3 + 1, 0, none⟩ (.slice none 0 0)) (.slice none 0 0) ∧ Blk (W.setCell ⟨m3 + 1, 0, none⟩ (.slice none 0 0)) (m3 + 1) 24 [.slice none 0 0]) := Lib.hid (fun W c hc hb hn => by
    have h1 := HZ1.out.call hb
    refine ⟨h1, ⟨(below_stepE HB1.out HB1.out.size hb).setCell (p := ⟨m3 + 1, 0, none⟩) (by have := HM3.out; show w.heap.size ≤ m3 + 1; omega) _, fun _ => rfl, fun h => absurd (hc ▸ h) hn⟩, h1.set 0 _⟩)
  go_enter Try.func17, Try.ntmps17
  go_upto_region 1 with fail
  rw [HM3.out, HW0.out, HW1.out]
  go_wp2_with fail
  refine c1.mono ?_
  rintro e w2 ⟨po, rfl, hr⟩
  have HRD := Lib.hid hr
  have HB2 := Lib.hid hr.low
  clear c1 p0 hr
  rcases hbR with h0 | h0
  · obtain ⟨p, F, rfl, hnd, hnod, hge, hlk, hle⟩ := HRD.out.root (by rw [HR.out]; exact h0)
    subst h0
    obtain ⟨q1, q2, q3, q4, q5, d, q6, q7, q8, q9⟩ := HPL.out HR.out
    rcases hbS with hS | hS
    · obtain ⟨g1, g2, g3⟩ := HEND.out w2 1 (by unfold putC; rw [if_neg (by rw [HR.out]; decide), if_pos (by have := HSS.out; omega)]) HB2.out (by decide)
      have HC : Hid (putC ns s v = 1) := Lib.hid (by unfold putC; rw [if_neg (by rw [HR.out]; decide), if_pos (by have := HSS.out; omega)])
      have x0 := g1.cell (j := 0) rfl
      have x1 := g1.free 0
      have HG2 := Lib.hid g2
      have HG3 := Lib.hid g3
      clear g1 g2 g3 hnd hnod hge hlk hle q1 q2 q3 q4 q5 q6 q7 q8 q9
      go_wp2_with fail
      refine bodyPost_ret (results_row_tmp rfl _ _ (m3 + 1) [.slice none 0 0] rfl HG3.out rfl rfl (by kernel_rfl)) rfl ?_
      exact ⟨_, by rw [HC.out]; rfl, HG2.out⟩
    · have cf := find_any s 101 (rootQ ns) p F w2 hnd (HORD.out HR.out) (root_good ns hlk hle).1 (root_good ns hlk hle).2.1
      rw [HSTR.out] at cf
      have HND := Lib.hid hnd
      have HNOD := Lib.hid hnod
      have HGE := Lib.hid hge
      have HLE := Lib.hid hle
      have HQ := Lib.hid (And.intro q1 (And.intro q2 (And.intro q3 (And.intro q4 (And.intro q5 (And.intro q6 (And.intro q7 (And.intro q8 q9))))))))
      clear hnd hnod hge hlk hle q1 q2 q3 q4 q5 q6 q7 q8 q9
      go_wp2_with fail
      refine cf.mono ?_
      rintro e w3 ⟨u, ok, rfl, hfr, hb3⟩
      have HFR := Lib.hid hfr
      have HB3 := Lib.hid (below_stepE HB2.out HB2.out.size hb3)
      have HB23 := Lib.hid hb3
      have ht := (HZ0.out.call HB3.out).cell (j := 0) rfl
      rw [HLL.out] at ht
      have ck := HCK.out w3 (HB1.out.trans (HB3.out.mono HB1.out.size)) HLE.out
      rw [HLL.out] at ck
      clear cf hfr hb3
      have HW9 : Hid (∀ W, Below w3.heap.size w3 W → putC ns s v = 0 → Calls Try.prog 34 #[.pointer (some ⟨p, 0, none⟩), .agg #[.string S, .int .i64 v]] W fun e w4 => ∃ q, e = .returned (.pointer (some ⟨q, 0, none⟩)) ∧ Calls Try.prog 33 #[.pointer (some ⟨q, 0, none⟩)] w4 fun e w5 => ∃ au nu cu, e = .returned (.agg #[.slice au nu cu]) ∧ Blk w5 (m3 + 1) 24 [.slice none 0 0] ∧ Blk (w5.setCell ⟨m3 + 1, 0, none⟩ (.slice au nu cu)) (m3 + 1) 24 [.slice au nu cu] ∧ PutOk ns s v w (w5.setCell ⟨m3 + 1, 0, none⟩ (.slice au nu cu)) (.slice au nu cu)) := Lib.hid (fun W hW h0 => by
        obtain ⟨q1, q2, q3, q4, q5, q6, q7, q8, q9⟩ := HQ.out
        have hb2W : Below w2.heap.size w2 W := HB23.out.trans (hW.mono HB23.out.size)
        have hb1W : Below w1.heap.size w1 W := below_stepE HB2.out HB2.out.size hb2W
        rw [← HSTR.out]
        refine (with_any s v 101 (rootQ ns) q3 (by decide) q2 p F W (HND.out.below hb2W) HNOD.out).mono ?_
        rintro e w4 ⟨q, G, rfl, hN4, hnd4, hc4⟩
        have hb4 : Below w1.heap.size w1 w4 := hb1W.trans (hc4.below (B := w1.heap.size) (fun b hb => (HGE.out b hb).1) hb1W.size)
        refine ⟨q, rfl, (show_any d 102 _ q G w4 (by omega) q7 (fun e he => by
          rw [q8] at he
          rcases q4 e he with h | h
          · omega
          · rw [h]; have := HSS.out; omega) hN4 q9).mono ?_⟩
        rintro e w5 ⟨u', F', rfl, hL, hF', hb5⟩
        obtain ⟨rs, hrow, -, -⟩ := id hL
        obtain ⟨au, cu, rfl, -, -, -, -⟩ := owns_shape hrow
        have hb15 := below_stepE hb4 hb4.size hb5
        have h5 := HZ1.out.call hb15
        have hs1 := HS1.out
        have hs4 := hb4.size
        exact ⟨au, _, cu, rfl, h5, h5.set 0 _, (below_stepE HB1.out HB1.out.size hb15).setCell (p := ⟨m3 + 1, 0, none⟩) (by have := HM3.out; show w.heap.size ≤ m3 + 1; omega) _, fun h => absurd h0 h, fun _ => ⟨F', hL.same (fun b hb => heap_setCell_other w5 ⟨m3 + 1, 0, none⟩ b _ (by have := hF' b hb; show b ≠ m3 + 1; omega)), fun b hb => by have := hF' b hb; have := HM3.out; omega⟩⟩)
      have hiff := HQ.out.2.2.2.2.1 u ok HFR.out
      cases ok
      · by_cases hK : sumK ns = 100
        · have HC : Hid (putC ns s v = 9) := Lib.hid (by unfold putC; rw [if_neg (by rw [HR.out]; decide), if_neg (by have := HSS.out; omega), if_pos (hiff.2 ⟨rfl, hK⟩)])
          have e1 : ((sumK ns : Int) == 100) = true := by rw [hK]; rfl
          generalize sumK ns = K at *
          have HFRM : Hid (∀ W, Below w3.heap.size w3 W → Blk W (m3 + 1) 24 [.slice none 0 0] ∧ PutOk ns s v w (W.setCell ⟨m3 + 1, 0, none⟩ (.slice none 0 0)) (.slice none 0 0) ∧ Blk (W.setCell ⟨m3 + 1, 0, none⟩ (.slice none 0 0)) (m3 + 1) 24 [.slice none 0 0]) := Lib.hid (fun W hW => HEND.out W 9 HC.out (below_stepE HB3.out HB3.out.size hW) (by decide))
          clear hiff hK HQ
          go_wp2_with fail
          refine ck.mono ?_
          rintro e w4 ⟨rfl, hb4⟩
          obtain ⟨g1, g2, g3⟩ := HFRM.out w4 hb4
          have x0 := g1.cell (j := 0) rfl
          have x1 := g1.free 0
          have HG2 := Lib.hid g2
          have HG3 := Lib.hid g3
          clear ck hb4 g1 g2 g3 ht
          go_wp2_with fail
          refine bodyPost_ret (results_row_tmp rfl _ _ (m3 + 1) [.slice none 0 0] rfl HG3.out rfl rfl (by kernel_rfl)) rfl ?_
          exact ⟨_, by rw [HC.out]; rfl, HG2.out⟩
        · have HC : Hid (putC ns s v = 0) := Lib.hid (by unfold putC; rw [if_neg (by rw [HR.out]; decide), if_neg (by have := HSS.out; omega), if_neg (fun h => hK (hiff.1 h).2)])
          have e1 : ((sumK ns : Int) == 100) = false := beq_eq_false_iff_ne.2 (by omega)
          have HK := Lib.hid hK
          generalize sumK ns = K at *
          clear hiff hK HQ
          go_wp2_with fail
          refine ck.mono ?_
          rintro e w4 ⟨rfl, hb4⟩
          have c9 := HW9.out w4 hb4 HC.out
          clear ck hb4 ht
          go_wp2_with fail
          refine c9.mono ?_
          rintro e w5 ⟨q, rfl, c10⟩
          clear c9
          go_wp2_with fail
          refine c10.mono ?_
          rintro e w6 ⟨au, nu, cu, rfl, g1, g3, g2⟩
          have x0 := g1.cell (j := 0) rfl
          have x1 := g1.free 0
          have HG2 := Lib.hid g2
          have HG3 := Lib.hid g3
          clear c10 g1 g2 g3
          go_wp2_with fail
          refine bodyPost_ret (results_row_tmp rfl _ _ (m3 + 1) [.slice au nu cu] rfl HG3.out rfl rfl (by kernel_rfl)) rfl ?_
          exact ⟨_, by rw [HC.out]; rfl, HG2.out⟩
      · have HC : Hid (putC ns s v = 0) := Lib.hid (by unfold putC; rw [if_neg (by rw [HR.out]; decide), if_neg (by have := HSS.out; omega), if_neg (fun h => by have := (hiff.1 h).1; cases this)])
        have c9 := HW9.out w3 (Below.refl _ _) HC.out
        clear hiff HQ
        clear ck
        go_wp2_with fail
        refine c9.mono ?_
        rintro e w5 ⟨q, rfl, c10⟩
        clear c9
        go_wp2_with fail
        refine c10.mono ?_
        rintro e w6 ⟨au, nu, cu, rfl, g1, g3, g2⟩
        have x0 := g1.cell (j := 0) rfl
        have x1 := g1.free 0
        have HG2 := Lib.hid g2
        have HG3 := Lib.hid g3
        clear c10 g1 g2 g3
        go_wp2_with fail
        refine bodyPost_ret (results_row_tmp rfl _ _ (m3 + 1) [.slice au nu cu] rfl HG3.out rfl rfl (by kernel_rfl)) rfl ?_
        exact ⟨_, by rw [HC.out]; rfl, HG2.out⟩
  · have iR : (R != 0) = true := by simpa using h0
    obtain ⟨g1, g2, g3⟩ := HEND.out w2 R (by unfold putC; rw [if_pos (by rw [HR.out]; exact h0), HR.out]) HB2.out h0
    have HC : Hid (putC ns s v = R) := Lib.hid (by unfold putC; rw [if_pos (by rw [HR.out]; exact h0), HR.out])
    have x0 := g1.cell (j := 0) rfl
    have x1 := g1.free 0
    have HG2 := Lib.hid g2
    have HG3 := Lib.hid g3
    clear g1 g2 g3 h0
    go_wp2_with fail
    refine bodyPost_ret (results_row_tmp rfl _ _ (m3 + 1) [.slice none 0 0] rfl HG3.out rfl rfl (by kernel_rfl)) rfl ?_
    exact ⟨_, by rw [HC.out]; rfl, HG2.out⟩
end Go.Proofs.Ytopgakdgifmecaa

/-! CONTRACT of the reference's PutPairs. CONDITIONS: each theorem's own hypotheses. -/
namespace Go.Proofs.Ytopgakdgifmecaa
open Go.RowKit
set_option linter.unusedVariables false
set_option maxRecDepth 100000

def stepP (s : List UInt8) (v : Int) (st : List En × Bool) (p : En) : List En × Bool :=
  if (!lessS p.1 s && !st.2) = true then (if (s == p.1) = true then (st.1 ++ [(s, v)], true) else (st.1 ++ [(s, v)] ++ [p], true)) else (st.1 ++ [p], st.2)
def foldP (s : List UInt8) (v : Int) (l : List En) : List En × Bool := l.foldl (stepP s v) ([], false)
theorem foldP_snoc (s : List UInt8) (v : Int) (l : List En) (j : Nat) (x : En) (h : l[j]? = some x) : foldP s v (l.take (j + 1)) = stepP s v (foldP s v (l.take j)) x := by
  unfold foldP
  rw [take_snocI l j x h, List.foldl_append]; rfl
theorem fold_true (s : List UInt8) (v : Int) : ∀ (l out : List En), l.foldl (stepP s v) (out, true) = (out ++ l, true)
  | [], out => by simp
  | e :: l, out => by
    rw [List.foldl_cons]
    have : stepP s v (out, true) e = (out ++ [e], true) := by unfold stepP; simp
    rw [this, fold_true s v l]; simp
theorem fold_false (s : List UInt8) (v : Int) : ∀ (l out : List En), (if (l.foldl (stepP s v) (out, false)).2 = true then (l.foldl (stepP s v) (out, false)).1 else (l.foldl (stepP s v) (out, false)).1 ++ [(s, v)]) = out ++ putR s v l
  | [], out => by simp [putR]
  | e :: l, out => by
    rw [List.foldl_cons]
    simp only [putR]
    cases h : lessS e.1 s with
    | true =>
      have h1 : lessS s e.1 = false := lessS_asym _ _ h
      have h2 : (e.1 == s) = false := by
        cases hq : (e.1 == s) with
        | false => rfl
        | true =>
          have : e.1 = s := by simpa using hq
          rw [this, lessS_irr] at h; cases h
      have hs : stepP s v (out, false) e = (out ++ [e], false) := by unfold stepP; simp [h]
      rw [hs, fold_false s v l, h1, h2]
      simp
    | false =>
      by_cases hq : s = e.1
      · subst hq
        have hs : stepP e.1 v (out, false) e = (out ++ [(e.1, v)], true) := by unfold stepP; simp [h]
        rw [hs, fold_true, if_pos rfl, if_neg (by rw [h]; decide), if_pos (by simp)]
        simp
      · have h1 : lessS s e.1 = true := by
          cases hz : lessS s e.1 with
          | true => rfl
          | false => exact absurd (lessS_tot _ _ hz h) hq
        have hs : stepP s v (out, false) e = (out ++ [(s, v)] ++ [e], true) := by unfold stepP; simp [h, hq]
        rw [hs, fold_true, h1]
        simp
theorem foldP_end (s : List UInt8) (v : Int) (l : List En) : (if (foldP s v l).2 = true then (foldP s v l).1 else (foldP s v l).1 ++ [(s, v)]) = putR s v l := by
  unfold foldP
  exact fold_false s v l []
theorem foldP_len (s : List UInt8) (v : Int) : ∀ (l : List En) (st : List En × Bool), (l.foldl (stepP s v) st).1.length ≤ st.1.length + 2 * l.length
  | [], st => by simp
  | e :: l, st => by
    rw [List.foldl_cons]
    have h1 := foldP_len s v l (stepP s v st e)
    have h2 : (stepP s v st e).1.length ≤ st.1.length + 2 := by
      unfold stepP
      split
      · split <;> simp
      · simp
    rw [List.length_cons]; omega
structure PrOk (ns : List Nq) (s : List UInt8) (v : Int) (w w' : World) (u : Value) : Prop where
  low : Below w.heap.size w w'
  row : putC ns s v = 0 → OwnPr w' w.heap.size u (putR s v (flatT (rootQ ns)))
  bad : putC ns s v ≠ 0 → u = .slice none 0 0
set_option maxHeartbeats 16000000 in
theorem putPairs_any (ns : List Nq) (ao : Option Addr) (cap : Nat) (s : List UInt8) (v : Int) (w : World) (hl : ns.length ≤ 9223372036854775806) (hF : FewKeys ns) (hS : Nodes w ao ns) (hs : s.length ≤ 9223372036854775807) :
    Calls Try.prog 18 #[.agg #[.slice ao ns.length cap], .string (str s), .int .i64 v] w fun e w' => ∃ u, e = .returned (.tuple #[u, .int .i64 (putC ns s v)]) ∧ PrOk ns s v w w' u := by
  have cP := fun W (hW : Below w.heap.size w W) => pairs_any ns ao cap W hl hF (hS.keep hW)
  have hfew := flat_few ns
  have cO := fun (x : List UInt8) (hx : x.length ≤ 9223372036854775807) W => bytesOrder_q (str s) (str x) W (by rw [str_size]; exact hs) (by rw [str_size]; exact hx)
  have hpc0 : readC ns ≠ 0 → putC ns s v = readC ns := fun h => by unfold putC; rw [if_pos h]
  have hpc1 : readC ns = 0 → 60 < s.length → putC ns s v = 1 := fun h h1 => by unfold putC; rw [if_neg (by rw [h]; decide), if_pos h1]
  have hpc2 : readC ns = 0 → ¬ 60 < s.length → putC ns s v = if 100 < (putR s v (flatT (rootQ ns))).length then 9 else 0 := fun h h1 => by unfold putC; rw [if_neg (by rw [h]; decide), if_neg h1]
  obtain ⟨m, hm⟩ : ∃ m, flatT (rootQ ns) = m := ⟨_, rfl⟩
  obtain ⟨R, hR⟩ : ∃ R, readC ns = R := ⟨_, rfl⟩
  obtain ⟨L, hL⟩ : ∃ L, ns.length = L := ⟨_, rfl⟩
  rw [hR] at cP hfew hpc0 hpc1 hpc2
  rw [hm] at hfew hpc2
  rw [hL] at cP ⊢
  have HR := Lib.hid hR
  have HM := Lib.hid hm
  have HFEW := Lib.hid hfew
  have HCO := Lib.hid cO
  have HP0 := Lib.hid hpc0
  have HP1 := Lib.hid hpc1
  have HP2 := Lib.hid hpc2
  have z0 := Blk.new w #[.slice ao L cap] 24
  have hb0 := (Below.refl w.heap.size w).alloc (Nat.le_refl _) (.cells #[.slice ao L cap] 24)
  generalize hw0 : w.alloc (.cells #[.slice ao L cap] 24) = w0 at z0 hb0
  have HW0 := Lib.hid hw0
  have p0 := z0.cell (j := 0) rfl
  have c0 := cP w0 hb0
  have HB0 := Lib.hid hb0
  have hR2 : R = 0 ∨ R ≠ 0 := by omega
  have hss := str_size s
  have hS2 : ((str s).size : Int) ≤ 9223372036854775807 := by rw [hss]; omega
  have hbS : (60 : Int) < ((str s).size : Int) ∨ ¬ (60 : Int) < ((str s).size : Int) := by omega
  have HSS := Lib.hid hss
  clear cP hfew cO hm hR hl hF hS hw0 z0 hb0 hL hs hpc0 hpc1 hpc2 hss
  go_enter Try.func18, Try.ntmps18
  go_upto_region 1 with fail
  rw [HW0.out]
  clear HW0
  go_wp2_with fail
  refine c0.mono ?_
  rintro e w1 ⟨u, rfl, hp⟩
  have HP := Lib.hid hp
  have HB1 := Lib.hid (below_stepE HB0.out HB0.out.size hp.low)
  clear c0 p0 hp
  rcases hR2 with h0 | h0
  · rcases hbS with hS | hS
    · have HC := Lib.hid (HP1.out h0 (by have := HSS.out; omega))
      subst h0
      go_wp2_with fail
      go_ret2
      exact ⟨_, by rw [HC.out]; rfl, ⟨HB1.out, (fun h => by rw [HC.out] at h; cases h), fun _ => rfl⟩⟩
    · have HC := Lib.hid (HP2.out h0 (by have := HSS.out; omega))
      have hrow := HP.out.row (by rw [HR.out]; exact h0)
      rw [HM.out] at hrow
      have hf := HFEW.out h0
      obtain ⟨av, cv, ev, -⟩ := owns_shape hrow
      obtain ⟨M, hM⟩ : ∃ M, m.length = M := ⟨_, rfl⟩
      rw [hM] at ev
      subst ev
      have HCC : Hid (∀ j, j < M → ∃ key x bb, m[j]? = some (key, x) ∧ key.length ≤ 60 ∧ av = some ⟨bb, 0, none⟩ ∧ bb < w1.heap.size ∧ w1.cell? ⟨bb, j * 2, none⟩ = some (.string (str key)) ∧ w1.cell? ⟨bb, j * 2 + 1, none⟩ = some (.int .i64 x)) := Lib.hid (fun j hj => by
        have h1 : m[j]? = some (m[j]'(by rw [hM]; exact hj)) := List.getElem?_eq_getElem _
        rw [← hM] at hrow
        obtain ⟨bb, h2, h3, -, h4, h5⟩ := hrow.cell h1
        exact ⟨_, _, bb, h1, hf.2 _ (List.mem_of_getElem? h1), h2, h3, h4, h5⟩)
      have hM3 : M ≤ 300 := by rw [← hM]; exact hf.1
      have HMM := Lib.hid hM
      have HFL : Hid (∀ j, (foldP s v (m.take j)).1.length ≤ 600) := Lib.hid (fun j => by
        have := foldP_len s v (m.take j) ([], false)
        rw [List.length_take] at this
        simp only [List.length_nil] at this
        unfold foldP
        omega)
      have HR0 := Lib.hid h0
      subst h0
      clear hrow hf hM
      go_wp2_with fail
      go_loopw [10, 11, 28] (fun vo vi ix wr => ∃ (j : Nat) (b : Bool), j ≤ M ∧ ix = .int .i64 j ∧ vi = .bool b ∧ Hid (Below w1.heap.size w1 wr) ∧ Hid (OwnPr wr w1.heap.size vo (foldP s v (m.take j)).1) ∧ Hid ((foldP s v (m.take j)).2 = b)) (fun _ _ ix _ => M - (intOf ix).toNat)
      case atStart => exact ⟨0, false, Nat.zero_le _, rfl, rfl, Lib.hid (Below.refl _ _), Lib.hid (OwnPr.nil _ _), Lib.hid rfl⟩
      case round =>
        obtain ⟨j, b, hj, rfl, rfl, hbw, hO, hfb⟩ := hrel
        by_cases hlt : j < M
        · have iI : (j : Int) < (M : Int) := by omega
          obtain ⟨key, x, bb, hmj, hk60, rfl, hbb, x0, x1⟩ := HCC.out j hlt
          have d0 := (hbw.out.cell (p := ⟨bb, j * 2, none⟩) hbb).trans x0
          have d1 := (hbw.out.cell (p := ⟨bb, j * 2 + 1, none⟩) hbb).trans x1
          have hfs := foldP_snoc s v m j (key, x) hmj
          have hlen := HFL.out j
          have c1 := HCO.out key (by omega)
          rw [str_data, str_data] at c1
          have g1 := cmp_le s key
          have g2 := cmp_eq s key
          obtain ⟨acc, hacc⟩ : ∃ a, (foldP s v (m.take j)).1 = a := ⟨_, rfl⟩
          have hO := hO.out
          have hfb := hfb.out
          rw [hacc] at hO hlen
          unfold stepP at hfs
          rw [hacc, hfb] at hfs
          simp only at hfs
          obtain ⟨z1, hz1⟩ : ∃ z, (!lessS key s) = z := ⟨_, rfl⟩
          obtain ⟨z2, hz2⟩ : ∃ z, (s == key) = z := ⟨_, rfl⟩
          rw [hz1] at g1 hfs
          rw [hz2] at g2 hfs
          have HN := Lib.hid hfs
          have HACC := Lib.hid hacc
          generalize Lib.compareBytes s key = D1 at *
          have hz : Blk _ _ _ [_, _] := Blk.new wr #[.string (str key), .int .i64 x] 57
          have hba := (Below.refl wr.heap.size wr).alloc (Nat.le_refl _) (.cells #[.string (str key), .int .i64 x] 57)
          have HBA := Lib.hid (below_stepE hbw.out hbw.out.size hba)
          have HOA := Lib.hid (hO.keep hba)
          have HGP : Hid (∀ bq, u10.ownBlock = some bq → bq < wr.heap.size) := Lib.hid (fun bq e => (hO.lt bq e).2)
          have g3 : (D1 == 0) = z2 := by rw [← g2]; rfl
          clear x0 x1 hmj hfs hz1 hz2 hbw hO hfb hacc g2
          go_upto_region 11 with fail
          generalize hwa : wr.alloc (.cells #[.string (str key), .int .i64 x] 57) = wa at *
          clear hwa d0 d1 hba
          generalize wr.heap.size = gp at *
          have p0 := hz.cell (j := 0) rfl
          go_wp2_with fail
          refine (c1 _).mono ?_
          rintro e w2 ⟨rfl, hq2⟩
          have hb2 : Below wa.heap.size wa w2 := by obtain ⟨q, rfl⟩ := hq2; exact below_dqT (Below.refl _ _) q
          have hzb := hz.call hb2
          have HZB := Lib.hid hzb
          have HB2 := Lib.hid (below_stepE HBA.out HBA.out.size hb2)
          have HO2 := Lib.hid (HOA.out.keep hb2)
          have p0 := hzb.cell (j := 0) rfl
          have p1 := hzb.cell (j := 1) rfl
          clear c1 hq2 hb2 hz HOA HBA hzb
          by_cases hc : (z1 && !b) = true
          · have hz1 : z1 = true := by cases z1 <;> simp_all
            have hb : b = false := by cases b <;> simp_all
            subst hz1 hb
            have z4 : Blk _ _ _ [_, _] := Blk.new w2 #[.string (str s), .int .i64 v] 57
            have hb4 := (Below.refl w2.heap.size w2).alloc (Nat.le_refl _) (.cells #[.string (str s), .int .i64 v] 57)
            generalize hw4 : w2.alloc (.cells #[.string (str s), .int .i64 v] 57) = w4 at z4 hb4
            have HW4 := Lib.hid hw4
            have HB4 := Lib.hid (below_stepE HB2.out HB2.out.size hb4)
            have HO4 := Lib.hid (HO2.out.keep hb4)
            have HZ4 := Lib.hid z4
            have HZB4 := Lib.hid (HZB.out.call hb4)
            have hsz4 := HB4.out.size
            have HGL := Lib.hid HZB.out.lt
            cases z2
            · have HN2 : Hid (foldP s v (m.take (j + 1)) = (acc ++ [(s, v)] ++ [(key, x)], true)) := Lib.hid (by rw [HN.out]; rfl)
              clear hw4 z4 hb4 HN hc HZB HO2 HB2 HZ4
              have HZ4 : Hid (Blk w4 w2.heap.size 57 (cellsE1 (s, v))) := Lib.hid (by
                have : Blk _ _ _ [_, _] := Blk.new w2 #[.string (str s), .int .i64 v] 57
                rw [HW4.out] at this
                exact this)
              go_wp2_with (first | (at_builtin; rw [HW4.out]; refine wpList_append_pr rfl (.tmp 42) (.tmp 46) rfl w1.heap.size u10 acc rfl HO4.out (s, v) w2.heap.size rfl HZ4.out (by omega) hsz4 ?_; intro v5 w5 ho5 hg5 hw5; have HB5 := Lib.hid (HB4.out.grown hg5 hsz4 (fun b hb => (HO4.out.lt b hb).1)); have hp5 := HZB4.out.same (hg5.block gp HZB4.out.lt (fun e => by have := HGP.out gp e.symm; omega)); have p2 := hp5.cell (j := 0) rfl; have p3 := hp5.cell (j := 1) rfl; have hb6 := (Below.refl w5.heap.size w5).alloc (Nat.le_refl _) (.cells #[.string (str key), .int .i64 x] 57); have HO6 := Lib.hid (ho5.keep hb6); have HB6 := Lib.hid (below_stepE HB5.out HB5.out.size hb6); have HZ6 : Hid (Blk _ _ _ [_, _]) := Lib.hid (Blk.new w5 #[.string (str key), .int .i64 x] 57); have hsz6 := HB6.out.size; clear ho5 hb6 hp5 hg5) | (at_builtin; refine wpList_append_pr rfl (.tmp 50) (.tmp 52) rfl w1.heap.size v5 (acc ++ [(s, v)]) rfl HO6.out (key, x) w5.heap.size rfl HZ6.out (by rw [List.length_append, List.length_cons, List.length_nil]; omega) hsz6 ?_; intro v7 w7 ho7 hg7 hw7; have HB7 := Lib.hid (HB6.out.grown hg7 hsz6 (fun b hb => (HO6.out.lt b hb).1)); have HO7 : Hid (OwnPr w7 w1.heap.size v7 (foldP s v (m.take (j + 1))).1) := Lib.hid (by rw [HN2.out]; exact ho7); clear ho7 hg7) | fail)
              go_roundw
              case rel => exact ⟨j + 1, true, by omega, by go_num, rfl, HB7, HO7, Lib.hid (by rw [HN2.out])⟩
              case measure => simp [intOf]; omega
            · have HN2 : Hid (foldP s v (m.take (j + 1)) = (acc ++ [(s, v)], true)) := Lib.hid (by rw [HN.out]; rfl)
              clear hw4 z4 hb4 HN hc HZB HO2 HB2 HZ4
              have HZ4 : Hid (Blk w4 w2.heap.size 57 (cellsE1 (s, v))) := Lib.hid (by
                have : Blk _ _ _ [_, _] := Blk.new w2 #[.string (str s), .int .i64 v] 57
                rw [HW4.out] at this
                exact this)
              go_wp2_with (first | (at_builtin; rw [HW4.out]; refine wpList_append_pr rfl (.tmp 42) (.tmp 46) rfl w1.heap.size u10 acc rfl HO4.out (s, v) w2.heap.size rfl HZ4.out (by omega) hsz4 ?_; intro v5 w5 ho5 hg5 hw5; have HB5 := Lib.hid (HB4.out.grown hg5 hsz4 (fun b hb => (HO4.out.lt b hb).1)); have HO5 : Hid (OwnPr w5 w1.heap.size v5 (foldP s v (m.take (j + 1))).1) := Lib.hid (by rw [HN2.out]; exact ho5); clear ho5 hg5) | fail)
              go_roundw
              case rel => exact ⟨j + 1, true, by omega, by go_num, rfl, HB5, HO5, Lib.hid (by rw [HN2.out])⟩
              case measure => simp [intOf]; omega
          · have HN2 : Hid (foldP s v (m.take (j + 1)) = (acc ++ [(key, x)], b)) := Lib.hid (by rw [HN.out, if_neg hc])
            have hb4 := (Below.refl w2.heap.size w2).alloc (Nat.le_refl _) (.cells #[.string (str key), .int .i64 x] 57)
            have HZ4 : Hid (Blk _ _ _ [_, _]) := Lib.hid (Blk.new w2 #[.string (str key), .int .i64 x] 57)
            have HB4 := Lib.hid (below_stepE HB2.out HB2.out.size hb4)
            have HO4 := Lib.hid (HO2.out.keep hb4)
            have hsz4 := HB4.out.size
            clear hb4 HN HZB HO2 HB2
            have hc2 : z1 = false ∨ (z1 = true ∧ b = true) := by cases z1 <;> cases b <;> simp_all
            rcases hc2 with rfl | ⟨rfl, rfl⟩
            · clear hc
              go_wp2_with (first | (at_builtin; refine wpList_append_pr rfl (.tmp 50) (.tmp 52) rfl w1.heap.size u10 acc rfl HO4.out (key, x) w2.heap.size rfl HZ4.out (by omega) hsz4 ?_; intro v5 w5 ho5 hg5 hw5; have HB5 := Lib.hid (HB4.out.grown hg5 hsz4 (fun b hb => (HO4.out.lt b hb).1)); have HO5 : Hid (OwnPr w5 w1.heap.size v5 (foldP s v (m.take (j + 1))).1) := Lib.hid (by rw [HN2.out]; exact ho5); clear ho5 hg5) | fail)
              go_roundw
              case rel => exact ⟨j + 1, b, by omega, by go_num, rfl, HB5, HO5, Lib.hid (by rw [HN2.out])⟩
              case measure => simp [intOf]; omega
            · clear hc
              go_wp2_with (first | (at_builtin; refine wpList_append_pr rfl (.tmp 50) (.tmp 52) rfl w1.heap.size u10 acc rfl HO4.out (key, x) w2.heap.size rfl HZ4.out (by omega) hsz4 ?_; intro v5 w5 ho5 hg5 hw5; have HB5 := Lib.hid (HB4.out.grown hg5 hsz4 (fun b hb => (HO4.out.lt b hb).1)); have HO5 : Hid (OwnPr w5 w1.heap.size v5 (foldP s v (m.take (j + 1))).1) := Lib.hid (by rw [HN2.out]; exact ho5); clear ho5 hg5) | fail)
              go_roundw
              case rel => exact ⟨j + 1, true, by omega, by go_num, rfl, HB5, HO5, Lib.hid (by rw [HN2.out])⟩
              case measure => simp [intOf]; omega
        · have iI : ¬ (j : Int) < (M : Int) := by omega
          have hO2 := hO.out
          have hfb2 := hfb.out
          rw [List.take_of_length_le (by rw [HMM.out]; omega)] at hO2 hfb2
          have hend := foldP_end s v m
          have hlen := HFL.out M
          rw [List.take_of_length_le (by rw [HMM.out]; exact Nat.le_refl _)] at hlen
          obtain ⟨acc, hacc⟩ : ∃ a, (foldP s v m).1 = a := ⟨_, rfl⟩
          rw [hacc] at hO2 hlen
          rw [hfb2, hacc] at hend
          have HEND := Lib.hid hend
          have HO2 := Lib.hid hO2
          have HB2 := Lib.hid hbw.out
          clear hO2 hO hbw hfb hfb2 hend hacc
          cases b
          · have HEND : Hid (acc ++ [(s, v)] = putR s v m) := Lib.hid HEND.out
            have hb4 := (Below.refl wr.heap.size wr).alloc (Nat.le_refl _) (.cells #[.string (str s), .int .i64 v] 57)
            have HZ4 : Hid (Blk _ _ _ [_, _]) := Lib.hid (Blk.new wr #[.string (str s), .int .i64 v] 57)
            have HB4 := Lib.hid (below_stepE HB2.out HB2.out.size hb4)
            have HO4 := Lib.hid (HO2.out.keep hb4)
            have hsz4 := HB4.out.size
            clear hb4
            go_upto_region 19 with (first | (at_builtin; refine wpList_append_pr rfl (.tmp 57) (.tmp 61) rfl w1.heap.size u10 acc rfl HO4.out (s, v) wr.heap.size rfl HZ4.out (by omega) hsz4 ?_; intro v5 w5 ho5 hg5 hw5; have HB5 := Lib.hid (HB4.out.grown hg5 hsz4 (fun b hb => (HO4.out.lt b hb).1)); have HO5 := Lib.hid ho5; clear hg5) | fail)
            obtain ⟨a5, c5, e5, -, -, -, -⟩ := owns_shape ho5
            obtain ⟨K, hK5⟩ : ∃ K, (acc ++ [(s, v)]).length = K := ⟨_, rfl⟩
            rw [hK5] at e5
            subst e5
            have HK5 := Lib.hid hK5
            clear ho5 hK5
            have HRW : Hid (OwnPr w5 w.heap.size (.slice a5 K c5) (putR s v m)) := Lib.hid (by rw [← HEND.out]; exact owns_base HO5.out HB1.out.size)
            have HBF := Lib.hid (below_stepE HB1.out HB1.out.size HB5.out)
            have hKK : (putR s v m).length = K := by rw [← HEND.out]; exact HK5.out
            by_cases hK : 100 < K
            · have iK : (100 : Int) < (K : Int) := by omega
              have HC9 : Hid (putC ns s v = 9) := Lib.hid (by rw [HC.out, hKK, if_pos hK])
              clear hKK
              go_wp2_with fail
              go_ret2
              exact ⟨_, by rw [HC9.out]; rfl, ⟨HBF.out, (fun h => by rw [HC9.out] at h; cases h), fun _ => rfl⟩⟩
            · have iK : ¬ (100 : Int) < (K : Int) := by omega
              have HC9 : Hid (putC ns s v = 0) := Lib.hid (by rw [HC.out, hKK, if_neg hK])
              clear hKK
              go_wp2_with fail
              go_ret2
              exact ⟨_, by rw [HC9.out]; rfl, ⟨HBF.out, (fun _ => by rw [HM.out]; exact HRW.out), fun h => absurd HC9.out h⟩⟩
          · have HEND : Hid (acc = putR s v m) := Lib.hid HEND.out
            obtain ⟨a5, c5, e5, -, -, -, -⟩ := owns_shape HO2.out
            obtain ⟨K, hK5⟩ : ∃ K, acc.length = K := ⟨_, rfl⟩
            rw [hK5] at e5
            subst e5
            have HK5 := Lib.hid hK5
            have HO5 := HO2
            have HB5 := HB2
            clear hK5
            have HRW : Hid (OwnPr wr w.heap.size (.slice a5 K c5) (putR s v m)) := Lib.hid (by rw [← HEND.out]; exact owns_base HO5.out HB1.out.size)
            have HBF := Lib.hid (below_stepE HB1.out HB1.out.size HB5.out)
            have hKK : (putR s v m).length = K := by rw [← HEND.out]; exact HK5.out
            by_cases hK : 100 < K
            · have iK : (100 : Int) < (K : Int) := by omega
              have HC9 : Hid (putC ns s v = 9) := Lib.hid (by rw [HC.out, hKK, if_pos hK])
              clear hKK
              go_wp2_with fail
              go_ret2
              exact ⟨_, by rw [HC9.out]; rfl, ⟨HBF.out, (fun h => by rw [HC9.out] at h; cases h), fun _ => rfl⟩⟩
            · have iK : ¬ (100 : Int) < (K : Int) := by omega
              have HC9 : Hid (putC ns s v = 0) := Lib.hid (by rw [HC.out, hKK, if_neg hK])
              clear hKK
              go_wp2_with fail
              go_ret2
              exact ⟨_, by rw [HC9.out]; rfl, ⟨HBF.out, (fun _ => by rw [HM.out]; exact HRW.out), fun h => absurd HC9.out h⟩⟩
  · have iR : (R != 0) = true := by simpa using h0
    have HC := Lib.hid (HP0.out h0)
    have HN := Lib.hid h0
    clear h0
    go_wp2_with fail
    go_ret2
    exact ⟨_, by rw [HC.out]; rfl, ⟨HB1.out, fun h => absurd (HC.out.symm.trans h) HN.out, fun _ => rfl⟩⟩
end Go.Proofs.Ytopgakdgifmecaa

/-! A LIST OF NODES OF THE CALL'S OWN is one that may be read; the laid tree's numbers. CONDITIONS: each theorem's own hypotheses. -/
namespace Go.Proofs.Ytopgakdgifmecaa
open Go.RowKit
set_option linter.unusedVariables false
set_option maxRecDepth 100000

abbrev I64 (x : Int) : Prop := -9223372036854775808 ≤ x ∧ x ≤ 9223372036854775807
mutual
theorem lay_vals : ∀ (t : Tr) (a : Nat), fitT t → ∀ n ∈ layN a t, ∀ x ∈ n.vals, ∃ e ∈ flatT t, e.2 = x
  | .mk es ks, a, hf, n, hn, x, hx => by
    simp only [fitT] at hf
    simp only [layN] at hn
    rw [flat_mk]
    rcases List.mem_cons.1 hn with rfl | hn
    · obtain ⟨e, he, rfl⟩ := List.mem_map.1 hx
      exact ⟨e, (inter_sub es (flatL ks)).subset he, rfl⟩
    · obtain ⟨l, hl, e, he, rfl⟩ := lay_valsL ks (a + 1) hf.2 n hn x hx
      refine ⟨e, (inter_kid es (flatL ks) l ?_ hl).subset he, rfl⟩
      rw [flatL_map, List.length_map]
      rcases hf.1 with rfl | h
      · simp
      · omega
theorem lay_valsL : ∀ (ks : List Tr) (a : Nat), fitTs ks → ∀ n ∈ layL a ks, ∀ x ∈ n.vals, ∃ l ∈ flatL ks, ∃ e ∈ l, e.2 = x
  | [], a, _, n, hn, _, _ => by simp [layL] at hn
  | k :: ks, a, hf, n, hn, x, hx => by
    simp only [fitTs] at hf
    simp only [layL] at hn
    simp only [flatL]
    rcases List.mem_append.1 hn with hn | hn
    · obtain ⟨e, he, rfl⟩ := lay_vals k a hf.1 n hn x hx
      exact ⟨_, List.mem_cons_self .., e, he, rfl⟩
    · obtain ⟨l, hl, e, he, rfl⟩ := lay_valsL ks (a + sizeT k) hf.2 n hn x hx
      exact ⟨l, List.mem_cons_of_mem _ hl, e, he, rfl⟩
end
theorem OwnSt.strs {w : World} {b n c : Nat} {ao : Option Addr} {l : List (List UInt8)} (h : OwnSt w b (.slice ao n c) l) : n = l.length ∧ l.length ≤ c ∧ c ≤ 9223372036854775807 ∧ Strs w ao l := by
  rcases id h.2 with ⟨hv, h0⟩ | ⟨g, cap, cur, hv, q1, q2, q3, q4, q5, q6⟩
  · simp only [Value.slice.injEq] at hv
    obtain ⟨rfl, rfl, rfl⟩ := hv
    exact ⟨h0.symm, by omega, by decide, .inl (List.eq_nil_of_length_eq_zero h0)⟩
  · simp only [Value.slice.injEq] at hv
    obtain ⟨rfl, rfl, rfl⟩ := hv
    refine ⟨rfl, q3, by unfold maxLen at q4; omega, .inr ⟨g, 0, rfl, (Array.getElem?_eq_some_iff.1 q2).1, fun j s hj => ?_⟩⟩
    have := World.ownsRow.cells h (g := g) rfl j (.string (str s)) (by unfold keysV; rw [List.getElem?_map, hj]; rfl)
    rw [addr_addT] at this
    exact this
theorem OwnI.ints {w : World} {b n c : Nat} {ao : Option Addr} {l : List Int} (h : OwnI w b (.slice ao n c) l) (hb : ∀ x ∈ l, I64 x) : n = l.length ∧ l.length ≤ c ∧ c ≤ 9223372036854775807 ∧ Ints w ao l := by
  rcases id h.2 with ⟨hv, h0⟩ | ⟨g, cap, cur, hv, q1, q2, q3, q4, q5, q6⟩
  · simp only [Value.slice.injEq] at hv
    obtain ⟨rfl, rfl, rfl⟩ := hv
    exact ⟨h0.symm, by omega, by decide, hb, .inl (List.eq_nil_of_length_eq_zero h0)⟩
  · simp only [Value.slice.injEq] at hv
    obtain ⟨rfl, rfl, rfl⟩ := hv
    refine ⟨rfl, q3, by unfold maxLen at q4; omega, hb, .inr ⟨g, 0, rfl, (Array.getElem?_eq_some_iff.1 q2).1, fun j s hj => ?_⟩⟩
    have := World.ownsRow.cells h (g := g) rfl j (.int .i64 s) (by unfold intsV; rw [List.getElem?_map, hj]; rfl)
    rw [addr_addT] at this
    exact this
theorem LdN.nodes {w : World} {ao : Option Addr} {n c : Nat} {ns : List Nq} {F : List Nat} (h : LdN w (.slice ao n c) ns F) (hv : ∀ m ∈ ns, ∀ x ∈ m.vals, I64 x) (hk : ∀ m ∈ ns, ∀ x ∈ m.kids, I64 x) : n = ns.length ∧ Nodes w ao ns := by
  obtain ⟨rs, hrow, hrs, -⟩ := h
  have hlen := hrs.len
  rcases id hrow.2 with ⟨hv, h0⟩ | ⟨g, cap, cur, hv2, q1, q2, q3, q4, q5, q6⟩
  · simp only [Value.slice.injEq] at hv
    obtain ⟨rfl, rfl, rfl⟩ := hv
    exact ⟨h0.symm, .inl (List.eq_nil_of_length_eq_zero h0)⟩
  · simp only [Value.slice.injEq] at hv2
    obtain ⟨rfl, rfl, rfl⟩ := hv2
    refine ⟨rfl, .inr ⟨g, 0, rfl, (Array.getElem?_eq_some_iff.1 q2).1, fun j m hj => ?_⟩⟩
    obtain ⟨⟨rk, rv, rd⟩, hr, hq⟩ := hrs.at hj
    have hm := List.mem_of_getElem? hj
    obtain ⟨a1, c1, e1, -, -, -, -⟩ := owns_shape hq.K
    obtain ⟨a2, c2, e2, -, -, -, -⟩ := owns_shape hq.V
    obtain ⟨a3, c3, e3, -, -, -, -⟩ := owns_shape hq.C
    have hK := hq.K
    have hV := hq.V
    have hC := hq.C
    simp only at e1 e2 e3 hK hV hC
    subst e1 e2 e3
    obtain ⟨-, k1, k2, k3⟩ := hK.strs
    obtain ⟨-, v1, v2, v3⟩ := hV.ints (hv m hm)
    obtain ⟨-, d1, d2, d3⟩ := hC.ints (hk m hm)
    have cell : ∀ q u, q < 3 → (cells31 (.slice a1 m.keys.length c1, .slice a2 m.vals.length c2, .slice a3 m.kids.length c3))[q]? = some u → w.cell? ⟨g, 0 + j * 3 + q, none⟩ = some u := fun q u hq hu => by
      have hjl := (List.getElem?_eq_some_iff.1 hj).1
      rw [Nat.zero_add, hrow.cellAt (j * 3 + q) (by omega), cells3_at rs j q _ hr hq]
      exact hu
    exact ⟨⟨a1, c1, a2, c2, a3, c3⟩, ⟨k3, k1, k2, v3, v1, v2, d3, d1, d2⟩, cell 0 _ (by decide) rfl, cell 1 _ (by decide) rfl, cell 2 _ (by decide) rfl⟩
/-- The laid tree may be read. -/
theorem lay_nodes {w : World} {ao : Option Addr} {n c d : Nat} {t : Tr} {F : List Nat} (h : LdN w (.slice ao n c) (layN 0 t) F) (hok : okT d t) (hv : ∀ e ∈ flatT t, I64 e.2) (hs : sizeT t ≤ 1000) : n = (layN 0 t).length ∧ Nodes w ao (layN 0 t) ∧ FewKeys (layN 0 t) ∧ (layN 0 t).length ≤ 1000 := by
  obtain ⟨h1, h2⟩ := h.nodes (fun m hm x hx => by
    obtain ⟨e, he, rfl⟩ := lay_vals t 0 (ok_fit d t hok) m hm x hx
    exact hv e he) (fun m hm x hx => by
    obtain ⟨q, hq⟩ := List.getElem?_of_mem hm
    have := (lay_good t d 0 q m hok hq).2 x hx
    unfold I64
    omega)
  refine ⟨h1, h2, fun m hm => ?_, by rw [layN_len]; exact hs⟩
  obtain ⟨q, hq⟩ := List.getElem?_of_mem hm
  have := (whole_open (lay_good t d 0 q m hok hq).1).2.1
  omega
end Go.Proofs.Ytopgakdgifmecaa
