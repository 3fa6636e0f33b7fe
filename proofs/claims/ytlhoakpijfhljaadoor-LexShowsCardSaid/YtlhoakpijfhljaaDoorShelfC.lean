/- No laying: this program has no such function. -/
import Derived.Test.YtlhoakpijfhljaaDoorProg
namespace Go.Proofs
end Go.Proofs
