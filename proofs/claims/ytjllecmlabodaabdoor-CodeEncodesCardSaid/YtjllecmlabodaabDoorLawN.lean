/-
  THE WALK of the law 'chirographlaw.CodeEncodes'.
  CONDITIONS: package unicode/utf8's two tables hold what their initialisers lay ('Tabs'); bytealg's variable MaxLen holds some number ('MaxL').
-/
import Derived.Test.YtjllecmlabodaabDoorRefF
namespace Go.Proofs.YtjllecmlabodaabDoor
open Go.RowKit CodeMath
set_option linter.unusedVariables false

theorem Vals.keep {w w1 : World} {ao : Option Addr} {l : List V} (h : Vals w ao l) (hb : Below w.heap.size w w1) : Vals w1 ao l := by
  refine ⟨h.1, ?_⟩
  rcases h.2 with h | ⟨a, o, h1, h2, h3⟩
  · exact .inl h
  · refine .inr ⟨a, o, h1, Nat.lt_of_lt_of_le h2 hb.size, fun j v hv => ?_⟩
    obtain ⟨c0, c1, c2, c3⟩ := h3 j v hv
    exact ⟨(hb.cell (p := ⟨a, _, none⟩) h2).trans c0, (hb.cell (p := ⟨a, _, none⟩) h2).trans c1, (hb.cell (p := ⟨a, _, none⟩) h2).trans c2, (hb.cell (p := ⟨a, _, none⟩) h2).trans c3⟩
theorem lawSameBytes_any (l : List UInt8) (ao ao' : Option Addr) (cap cap' : Nat) (w : World) (h : Bytes w ao l) (h' : Bytes w ao' l) :
    Calls Tryd.prog 12 #[.slice ao l.length cap, .slice ao' l.length cap'] w fun e w' => e = .returned (.bool true) ∧ w = w' := by
  have c1 := bytes_string (cap := cap) h
  have c2 := bytes_string (cap := cap') h'
  generalize (⟨l.toArray⟩ : ByteArray) = S at c1 c2
  generalize l.length = n at c1 c2 ⊢
  have hs : (S.toList == S.toList) = true := by simp
  clear h h'
  go_enter Tryd.func12, Tryd.ntmps12
  go_wp2
  go_ret
  exact ⟨rfl, rfl⟩

set_option maxRecDepth 100000 in
set_option maxHeartbeats 1000000 in
theorem codeEncodes_walk (l : List V) (ao : Option Addr) (cap : Nat) (down : Int) (w : World) (hT : Tabs w) (hM : MaxL w) (hcap : l.length ≤ cap) (hmax : cap ≤ 9223372036854775807) (hv : Vals w ao l) (d0 : -9223372036854775808 ≤ down) (d1 : down ≤ 9223372036854775807) :
    Calls Tryd.prog 3 #[.slice ao l.length cap, .int .i64 down] w fun e w' => e = .returned (.bool true) ∧ Below w.heap.size w w' := by
  have cA := encode_any l ao cap down w hv hT
  have cB := fun w1 (hb0 : Below w.heap.size w w1) => rowBytes_any l ao cap down w1 (hv.keep hb0) (tabs_below hT hb0) (hM.keep hb0)
  unfold EncOk at cA
  unfold RefOk at cB
  have cS := fun ao cap ao' cap' w => lawSameBytes_any (encB down l) ao ao' cap cap' w
  generalize encB down l = L at cA cB cS
  generalize encE l = E at cA cB
  generalize l.length = n at cA cB ⊢
  clear hT hM hv hcap hmax
  go_enter Tryd.func3, Tryd.ntmps3
  go_wp2_with fail
  refine cA.mono ?_
  rintro e w1 ⟨v1, rfl, ho1, hb1⟩
  have c := cB w1 hb1
  obtain ⟨a1, k1, rfl, _, _, hy1⟩ := ho1.bytes
  clear cA cB
  go_wp2_with fail
  refine c.mono ?_
  rintro e w2 ⟨a2, k2, rfl, hy2, hb2⟩
  have c := cS a1 k1 a2 k2 w2 (hy1.keep hb2) hy2
  have hbw := hb1.trans (hb2.mono hb1.size)
  clear cS hy1 hy2 ho1
  generalize L.length = N at c ⊢
  go_wp2_with fail
  refine c.mono ?_
  rintro e w3 ⟨rfl, rfl⟩
  clear c
  go_wp2_with fail
  go_ret
  exact ⟨rfl, hbw⟩
end Go.Proofs.YtjllecmlabodaabDoor
