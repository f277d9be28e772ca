/- An int that came in: its bounds. -/
import Derived.Test.YtbfabahdaacpfaaOpen
namespace Go.Proofs.Ytbfabahdaacpfaa
theorem int_wide2 {n : Int} (h : (Lit.int .i64 n).wf = true) : -9223372036854775808 ≤ n ∧ n ≤ 9223372036854775807 := by
  simpa [Lit.wf, IntKind.min, IntKind.max, IntKind.signed, IntKind.bits] using h
end Go.Proofs.Ytbfabahdaacpfaa
