/- What the laws' beside and put answer. -/
import Derived.Test.YtilcmbophfjjbaaGMem
import Derived.Test.YtilcmbophfjjbaaLoose
import Derived.Deep.DeepFit
import Derived.Test.YtilcmbophfjjbaaPutPt
namespace Go.Proofs.Ytilcmbophfjjbaa
open Go.RowKit
set_option linter.unusedSimpArgs false
set_option linter.unusedVariables false


end Go.Proofs.Ytilcmbophfjjbaa
