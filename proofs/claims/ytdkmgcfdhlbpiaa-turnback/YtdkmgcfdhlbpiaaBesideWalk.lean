/- What the laws' beside and put answer. -/
import Derived.Test.YtdkmgcfdhlbpiaaGMem
import Derived.Test.YtdkmgcfdhlbpiaaLoose
import Derived.Deep.DeepFit
import Derived.Test.YtdkmgcfdhlbpiaaPutPt
namespace Go.Proofs.Ytdkmgcfdhlbpiaa
open Go.RowKit
set_option linter.unusedSimpArgs false
set_option linter.unusedVariables false


end Go.Proofs.Ytdkmgcfdhlbpiaa
