/-
  CONTRACT of package tree's place.
  CONDITIONS: each theorem's own hypotheses.
-/
import Derived.Test.YtopgakdgifmecaaTSearch
namespace Go.Proofs.Ytopgakdgifmecaa
open Go.RowKit
set_option linter.unusedVariables false
set_option maxRecDepth 100000

theorem place_any (es : List En) (ae : Option Addr) (ce p : Nat) (vK : Value) (s : List UInt8) (w : World) (hB : Blk w p 83 [.slice ae es.length ce, vK]) (hl : es.length ≤ 1000) (hE : OwnE w 0 (.slice ae es.length ce) es)
    (hm : ∀ (a b : Nat) (ea eb : En), a ≤ b → es[a]? = some ea → es[b]? = some eb → lessS eb.1 s = true → lessS ea.1 s = true) :
    Calls Try.prog 46 #[.pointer (some ⟨p, 0, none⟩), .string (str s)] w fun e w' => ∃ (i : Nat) (fd : Bool), e = .returned (.tuple #[.int .i64 (i : Int), .bool fd]) ∧ PlaceR es s i fd ∧ Below w.heap.size w w' := by
  have cS := search_any es ae ce s w hl hE hm
  have p0 := hB.cell (j := 0) rfl
  generalize es.length = E at *
  generalize str s = S at *
  clear hB hE hm hl
  go_enter Try.func46, Try.ntmps46
  go_wp2_with fail
  refine cS.mono ?_
  rintro e w1 ⟨i, fd, rfl, hp, hb⟩
  have HP := Lib.hid hp
  have HB := Lib.hid hb
  clear cS p0 hp hb
  go_wp2_with fail
  go_ret2
  exact ⟨i, fd, rfl, HP.out, HB.out⟩
end Go.Proofs.Ytopgakdgifmecaa
