/- Aggs compared by the laws. -/
import Derived.Test.YtpddodjecbcmlaaAg
namespace Go.Proofs.Ytpddodjecbcmlaa
open Go.RowKit
set_option linter.unusedSimpArgs false
set_option linter.unusedVariables false

end Go.Proofs.Ytpddodjecbcmlaa
