/- Whether a filter may have a key, in the model. -/
import Derived.Test.YtoccfmkciacomaaPl
import Derived.Test.YtoccfmkciacomaaGf
namespace Go.Proofs.Ytoccfmkciacomaa
open Go.RowKit
set_option linter.unusedSimpArgs false
set_option linter.unusedVariables false

theorem plL_get {h d M : Int} {y k : Nat} (hk : k < y) : fi (plL h d M y) k = pl h d M k := by simp [fi, plL, hk]

end Go.Proofs.Ytoccfmkciacomaa
