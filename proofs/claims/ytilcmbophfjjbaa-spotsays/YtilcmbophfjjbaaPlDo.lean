/- What the document's own Places.Do, and Do, answer. -/
import Derived.Test.YtilcmbophfjjbaaOf
import Derived.Test.YtilcmbophfjjbaaDo
namespace Go.Proofs.Ytilcmbophfjjbaa
open Go.RowKit
set_option linter.unusedSimpArgs false
set_option linter.unusedVariables false




end Go.Proofs.Ytilcmbophfjjbaa
