/- What the laws' beside and put answer. -/
import Derived.Test.YtilcmbophfjjbabGMem
import Derived.Test.YtilcmbophfjjbabLoose
import Derived.Deep.DeepFit
import Derived.Test.YtilcmbophfjjbabPutPt
namespace Go.Proofs.Ytilcmbophfjjbab
open Go.RowKit
set_option linter.unusedSimpArgs false
set_option linter.unusedVariables false


end Go.Proofs.Ytilcmbophfjjbab
