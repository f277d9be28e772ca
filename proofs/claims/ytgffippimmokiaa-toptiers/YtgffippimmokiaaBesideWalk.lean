/- What the laws' beside and put answer. -/
import Derived.Test.YtgffippimmokiaaGMem
import Derived.Test.YtgffippimmokiaaLoose
import Derived.Deep.DeepFit
import Derived.Test.YtgffippimmokiaaFirstRev
namespace Go.Proofs.Ytgffippimmokiaa
open Go.RowKit
set_option linter.unusedSimpArgs false
set_option linter.unusedVariables false


end Go.Proofs.Ytgffippimmokiaa
