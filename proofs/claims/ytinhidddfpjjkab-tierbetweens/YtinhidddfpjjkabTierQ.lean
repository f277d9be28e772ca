/- Blocks: how many there are, and the way from the left: no program in it. -/
import Derived.Test.YtinhidddfpjjkabCovL
namespace Go.Proofs.Ytinhidddfpjjkab
set_option linter.unusedSimpArgs false
set_option linter.unusedVariables false

/-- how many bits a length has -/
def bitsN (n : Nat) : Nat := ((List.range 7).filter (fun b => decide (2 ^ b < n))).length
theorem bits_iff {n b : Nat} (h : n ≤ 64) (hb : b ≤ 6) : b < bitsN n ↔ 2 ^ b < n := by
  have H : ∀ n ∈ List.range 65, ∀ b ∈ List.range 7, (b < bitsN n ↔ 2 ^ b < n) := by decide +kernel
  exact H n (List.mem_range.2 (by omega)) b (List.mem_range.2 (by omega))
theorem cov_few {i k : Nat} (h1 : i ≤ k) (h2 : k ≤ 64) : (covL i k).length ≤ 2 * bitsN (k - i) + 1 := by
  have H : ∀ k ∈ List.range 65, ∀ i ∈ List.range 65, i ≤ k → (covL i k).length ≤ 2 * bitsN (k - i) + 1 := by decide +kernel
  exact H k (List.mem_range.2 (by omega)) i (List.mem_range.2 (by omega)) h1
/-- the greatest block that may begin here -/
def leftLvl (i k : Nat) : Option Nat := [6, 5, 4, 3, 2, 1, 0].find? (fun v => decide (i % 2 ^ v = 0 ∧ i + 2 ^ v ≤ k))
def leftF : Nat → Nat → Nat → List (Nat × Nat)
  | 0, _, _ => []
  | f + 1, i, k => match leftLvl i k with
    | none => []
    | some v => (v, i / 2 ^ v) :: leftF f (i + 2 ^ v) k
/-- from the left one comes to the same blocks -/
theorem left_is {i k : Nat} (h1 : i ≤ k) (h2 : k ≤ 64) : leftF 64 i k = covL i k := by
  have H : ∀ k ∈ List.range 65, ∀ i ∈ List.range 65, i ≤ k → leftF 64 i k = covL i k := by decide +kernel
  exact H k (List.mem_range.2 (by omega)) i (List.mem_range.2 (by omega)) h1
end Go.Proofs.Ytinhidddfpjjkab
