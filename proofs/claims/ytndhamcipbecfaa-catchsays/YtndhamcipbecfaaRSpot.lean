/- What the document's own Spot answers: the same as package spot's Of. -/
import Derived.Test.YtndhamcipbecfaaSpotL
import Derived.Test.YtndhamcipbecfaaMeetL
import Derived.Test.YtndhamcipbecfaaPlDo
import Derived.Test.YtndhamcipbecfaaOf
import Derived.Deep.QuietTactic
import Derived.BigQuiet
namespace Go.Proofs.Ytndhamcipbecfaa
open Go.RowKit
set_option linter.unusedSimpArgs false
set_option linter.unusedVariables false

set_option maxHeartbeats 400000 in
theorem b2i_any (b : Bool) (w : World) : Calls Try.prog 40 #[.bool b] w fun e w' => e = .returned (.int .i64 (b.toNat : Int)) ∧ w' = w := by
  cases b
  · go_enter Try.func40, Try.ntmps40
    go_wp2
    go_ret
    exact ⟨rfl, rfl⟩
  · go_enter Try.func40, Try.ntmps40
    go_wp2
    go_ret
    exact ⟨rfl, rfl⟩
end Go.Proofs.Ytndhamcipbecfaa
