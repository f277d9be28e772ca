/- What the laws' beside and put answer. -/
import Derived.Test.YtndhamcipbecfaaGMem
import Derived.Test.YtndhamcipbecfaaLoose
import Derived.Deep.DeepFit
import Derived.Test.YtndhamcipbecfaaPutPt
namespace Go.Proofs.Ytndhamcipbecfaa
open Go.RowKit
set_option linter.unusedSimpArgs false
set_option linter.unusedVariables false


end Go.Proofs.Ytndhamcipbecfaa
