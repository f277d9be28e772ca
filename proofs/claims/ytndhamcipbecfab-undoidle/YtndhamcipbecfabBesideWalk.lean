/- What the laws' beside and put answer. -/
import Derived.Test.YtndhamcipbecfabGMem
import Derived.Test.YtndhamcipbecfabLoose
import Derived.Deep.DeepFit
import Derived.Test.YtndhamcipbecfabPutPt
namespace Go.Proofs.Ytndhamcipbecfab
open Go.RowKit
set_option linter.unusedSimpArgs false
set_option linter.unusedVariables false


end Go.Proofs.Ytndhamcipbecfab
