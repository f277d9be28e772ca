/- The walk of the document's own Delta. -/
import Derived.Test.YtilcmbophfjjbabDelta
import Derived.Deep.QuietTactic
import Derived.BigQuiet
namespace Go.Proofs.Ytilcmbophfjjbab
open Go.RowKit
set_option linter.unusedSimpArgs false
set_option linter.unusedVariables false

theorem ahead_succ {l : List Pt} {i : Nat} {p : Pt} (h : l[i]? = some p) : aheadI l (i + 1) = p.k := by simp [aheadI, h]


end Go.Proofs.Ytilcmbophfjjbab
