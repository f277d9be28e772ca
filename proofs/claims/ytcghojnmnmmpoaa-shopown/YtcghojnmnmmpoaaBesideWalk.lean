/- What the laws' beside and put answer. -/
import Derived.Test.YtcghojnmnmmpoaaGMem
import Derived.Test.YtcghojnmnmmpoaaLoose
import Derived.Deep.DeepFit
import Derived.Test.YtcghojnmnmmpoaaFirstRev
namespace Go.Proofs.Ytcghojnmnmmpoaa
open Go.RowKit
set_option linter.unusedSimpArgs false
set_option linter.unusedVariables false


end Go.Proofs.Ytcghojnmnmmpoaa
