/- A word of 32 bits that came in: its bounds. -/
import Derived.Test.YtjcanpijogocoabOpen
namespace Go.Proofs.Ytjcanpijogocoab
theorem word_nat {n : Int} (h : (Lit.int .u32 n).wf = true) : ∃ m : Nat, n = m ∧ m < 4294967296 := by
  have h1 : 0 ≤ n ∧ n ≤ 4294967295 := by simpa [Lit.wf, IntKind.min, IntKind.max, IntKind.signed, IntKind.bits] using h
  exact ⟨n.toNat, by omega, by omega⟩
end Go.Proofs.Ytjcanpijogocoab
