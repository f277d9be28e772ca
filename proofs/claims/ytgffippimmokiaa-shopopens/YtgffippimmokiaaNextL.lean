/- May a revision come next: no program in it. -/
import Derived.Test.YtgffippimmokiaaRevL
namespace Go.Proofs.Ytgffippimmokiaa
set_option linter.unusedSimpArgs false
set_option linter.unusedVariables false

def seqOf (t : List Int) (who : Int) : Int := t[2 * who.toNat]?.getD 0
/-- may it come next? -/
def nextE (t : List Int) (base : Int) (n : Nat) (size : Int) (r : Rv) : Int :=
  if oneE r = 0 then (if r.seq ≤ seqOf t r.who then 10 else if 64 ≤ n ∨ 2147483647 ≤ base + n then 11 else fitsE r.d size) else oneE r
theorem next_zero {t : List Int} {base : Int} {n : Nat} {size : Int} {r : Rv} (h : nextE t base n size r = 0) :
    oneE r = 0 ∧ seqOf t r.who < r.seq ∧ n < 64 ∧ base + n < 2147483647 ∧ sizesE r.d = 0 ∧ inI r.d = size := by
  unfold nextE at h
  by_cases h1 : oneE r = 0
  · rw [if_pos h1] at h
    by_cases h2 : r.seq ≤ seqOf t r.who
    · rw [if_pos h2] at h; omega
    · rw [if_neg h2] at h
      by_cases h3 : 64 ≤ n ∨ 2147483647 ≤ base + n
      · rw [if_pos h3] at h; omega
      · rw [if_neg h3] at h
        obtain ⟨f1, f2⟩ := fits_zero h
        exact ⟨h1, by omega, by omega, by omega, f1, f2⟩
  · rw [if_neg h1] at h; exact absurd h h1
end Go.Proofs.Ytgffippimmokiaa
