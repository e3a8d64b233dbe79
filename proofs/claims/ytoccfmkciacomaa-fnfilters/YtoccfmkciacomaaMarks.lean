/- Marks laid into an answer's memory, and looked for, from 1 on. -/
import Derived.Test.YtoccfmkciacomaaBase
namespace Go.Proofs.Ytoccfmkciacomaa
open Go.RowKit
set_option linter.unusedSimpArgs false
set_option linter.unusedVariables false

def marks (i : Nat) : Int := ((1 + i : Nat) : Int) % 256

end Go.Proofs.Ytoccfmkciacomaa
