/- What the laws' beside and put answer. -/
import Derived.Test.YtinhidddfpjjkabGMem
import Derived.Test.YtinhidddfpjjkabLoose
import Derived.Deep.DeepFit
import Derived.Test.YtinhidddfpjjkabPutPt
namespace Go.Proofs.Ytinhidddfpjjkab
open Go.RowKit
set_option linter.unusedSimpArgs false
set_option linter.unusedVariables false


end Go.Proofs.Ytinhidddfpjjkab
