/-
  CONTRACT of package tree's find (a node's).
  CONDITIONS: each theorem's own hypotheses.
-/
import Derived.Test.YtopgakdgifmecaaTPlace
namespace Go.Proofs.Ytopgakdgifmecaa
open Go.RowKit
set_option linter.unusedVariables false
set_option maxRecDepth 100000

mutual
/-- The entries of each node stand in order. -/
def ordT : Tr → Prop
  | .mk es ks => (es.length ≤ 1000 ∧ ∀ (s : List UInt8) (a b : Nat) (ea eb : En), a ≤ b → es[a]? = some ea → es[b]? = some eb → lessS eb.1 s = true → lessS ea.1 s = true) ∧ ordL ks
def ordL : List Tr → Prop
  | [] => True
  | t :: ts => ordT t ∧ ordL ts
end
theorem ord_mem : ∀ {ks : List Tr} {t : Tr}, ordL ks → t ∈ ks → ordT t
  | [], t, _, h => by cases h
  | x :: ks, t, hf, h => by
    simp only [ordL] at hf
    rcases List.mem_cons.1 h with rfl | h
    · exact hf.1
    · exact ord_mem hf.2 h
/-- What is found. -/
inductive FindR (s : List UInt8) : Tr → Int → Bool → Prop where
  | atNode (es : List En) (ks : List Tr) (i : Nat) (e : En) : PlaceR es s i true → es[i]? = some e → FindR s (.mk es ks) e.2 true
  | atLeaf (es : List En) (i : Nat) : PlaceR es s i false → FindR s (.mk es []) 0 false
  | atKid (es : List En) (ks : List Tr) (i : Nat) (k : Tr) (v : Int) (ok : Bool) : PlaceR es s i false → ks[i]? = some k → FindR s k v ok → FindR s (.mk es ks) v ok
set_option maxHeartbeats 16000000 in
theorem find_any (s : List UInt8) : ∀ (n : Nat) (t : Tr) (p : Nat) (F : List Nat) (w : World), NdT w t p F → ordT t → fitT t → htT t < n →
    Calls Try.prog 31 #[.pointer (some ⟨p, 0, none⟩), .string (str s)] w fun e w' => ∃ (v : Int) (ok : Bool), e = .returned (.tuple #[.int .i64 v, .bool ok]) ∧ FindR s t v ok ∧ Below w.heap.size w w' := by
  intro n
  induction n with
  | zero => intro t p F w _ _ _ h; omega
  | succ n ih =>
    intro t p F w h ho hfit ht
    cases t with
    | mk es ks =>
    obtain ⟨ae, ak, ce, ck, hB, hp, hc1, hc2, hE, hK⟩ := h.open
    simp only [fitT] at hfit
    simp only [ordT] at ho
    have cP := place_any es ae ce p _ s w hB ho.1.1 hE (ho.1.2 s)
    have hleaf : ∀ W, Below w.heap.size w W → Calls Try.prog 47 #[.pointer (some ⟨p, 0, none⟩)] W fun e w' => e = .returned (.bool (ks.length == 0)) ∧ w' = W := fun W hW => leaf_any p ae ak es.length ks.length ce ck W (hB.keep hW hp)
    have hnode : ∀ W, Below w.heap.size w W → W.cell? ⟨p, 0, none⟩ = some (.slice ae es.length ce) ∧ W.cell? ⟨p, 1, none⟩ = some (.slice ak ks.length ck) := fun W hW => ⟨(hB.keep hW hp).cell (j := 0) rfl, (hB.keep hW hp).cell (j := 1) rfl⟩
    have hent : ∀ (i : Nat) (e : En), es[i]? = some e → i < es.length ∧ ∃ b, ae = some ⟨b, 0, none⟩ ∧ ∀ W, Below w.heap.size w W → W.cell? ⟨b, i * 2 + 1, none⟩ = some (.int .i64 e.2) := fun i e hi => by
      obtain ⟨b, h1, h2, -, -, h4⟩ := hE.cell hi
      exact ⟨(List.getElem?_eq_some_iff.1 hi).1, b, h1, fun W hW => (hW.cell (p := ⟨b, _, none⟩) h2).trans h4⟩
    have hkid : ∀ i, i < ks.length → ∃ k b q, ks[i]? = some k ∧ ak = some ⟨b, 0, none⟩ ∧ ∀ W, Below w.heap.size w W → W.cell? ⟨b, i, none⟩ = some (.pointer (some ⟨q, 0, none⟩)) ∧ Calls Try.prog 31 #[.pointer (some ⟨q, 0, none⟩), .string (str s)] W fun e w' => ∃ (v : Int) (ok : Bool), e = .returned (.tuple #[.int .i64 v, .bool ok]) ∧ FindR s k v ok ∧ Below W.heap.size W w' := fun i hi => by
      have hx : ks[i]? = some ks[i] := List.getElem?_eq_getElem hi
      obtain ⟨b, q, G, h1, h2, h3, h4⟩ := hK i _ hx
      refine ⟨ks[i], b, q, hx, h1, fun W hW => ⟨(hW.cell (p := ⟨b, _, none⟩) h2).trans h3, ih ks[i] q G W (h4.below hW) (ord_mem ho.2 (List.getElem_mem hi)) (fit_mem hfit.2 (List.getElem_mem hi)) ?_⟩⟩
      have := ht_mem (List.getElem_mem hi)
      simp only [htT] at ht
      omega
    have HFIT := Lib.hid hfit.1
    have HNODE := Lib.hid hnode
    have HENT := Lib.hid hent
    have HKID := Lib.hid hkid
    have HLEAF := Lib.hid hleaf
    have hEl : es.length ≤ 1000 := ho.1.1
    generalize str s = S at *
    clear h ho hfit ht hB hp hE hK hnode hent hkid hleaf ih hc1 hc2
    go_enter Try.func31, Try.ntmps31
    go_wp2_with fail
    refine cP.mono ?_
    rintro e w1 ⟨i, fd, rfl, hpl, hb1⟩
    clear cP
    have HPL := Lib.hid hpl
    have HB1 := Lib.hid hb1
    clear hpl hb1
    cases fd
    · have cl := HLEAF.out w1 HB1.out
      rcases HFIT.out with rfl | hk
      · rw [show (([] : List Tr).length == 0) = true from rfl] at cl
        go_wp2_with fail
        refine cl.mono ?_
        rintro e w1 ⟨rfl, rfl⟩
        clear cl
        go_wp2_with fail
        go_ret2
        exact ⟨0, false, rfl, .atLeaf es i HPL.out, HB1.out⟩
      · rw [show (ks.length == 0) = false by rw [hk]; rfl] at cl
        obtain ⟨k, b, q, hki, rfl, hq⟩ := HKID.out i (by have := HPL.out.le; omega)
        obtain ⟨c0, cf⟩ := hq w1 HB1.out
        have n1 := (HNODE.out w1 HB1.out).2
        have iI : (i : Int) < (ks.length : Int) := by have := HPL.out.le; omega
        have HKI := Lib.hid hki
        generalize ks.length = C at *
        clear hki hq hk
        go_wp2_with fail
        refine cl.mono ?_
        rintro e w1 ⟨rfl, rfl⟩
        clear cl
        go_wp2_with fail
        refine cf.mono ?_
        rintro e w2 ⟨v, ok, rfl, hf, hb2⟩
        have HF := Lib.hid hf
        have HB2 := Lib.hid (below_stepE HB1.out HB1.out.size hb2)
        clear cf c0 n1 hf hb2
        go_wp2_with fail
        go_ret2
        exact ⟨v, ok, rfl, .atKid es ks i k v ok HPL.out HKI.out HF.out, HB2.out⟩
    · obtain ⟨e0, he0⟩ : ∃ e, es[i]? = some e := by
        have := HPL.out.fd
        cases hq : es[i]? with
        | none => rw [hq] at this; cases this
        | some e => exact ⟨e, rfl⟩
      obtain ⟨hil, b, rfl, hc⟩ := HENT.out i e0 he0
      have c0 := hc w1 HB1.out
      have n0 := (HNODE.out w1 HB1.out).1
      have iI : (i : Int) < (es.length : Int) := by omega
      have HR : Hid (FindR s (.mk es ks) e0.2 true) := Lib.hid (.atNode es ks i e0 HPL.out he0)
      obtain ⟨key, x⟩ := e0
      simp only at c0 HR
      generalize es.length = E at *
      clear he0 hc
      go_wp2_with fail
      go_ret2
      exact ⟨x, true, rfl, HR.out, HB1.out⟩
end Go.Proofs.Ytopgakdgifmecaa
