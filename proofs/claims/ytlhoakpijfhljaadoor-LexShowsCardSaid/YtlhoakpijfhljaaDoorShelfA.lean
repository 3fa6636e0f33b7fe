/- No laying: this program has no such function; the renaming alone, so that the texts read. -/
import Derived.Test.YtlhoakpijfhljaaDoorShelfB
namespace Go.Proofs
open Go.Shelf
def Tryd.laysAtoi_ren : Go.Shelf.Ren := ⟨fun n => n, fun n => n, fun n => n⟩
end Go.Proofs
