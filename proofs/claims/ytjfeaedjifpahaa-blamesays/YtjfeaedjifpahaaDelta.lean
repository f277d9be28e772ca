/- What the document's own road, Delta, answers: the same as package part's Check. -/
import Derived.Test.YtjfeaedjifpahaaSizes
import Derived.Deep.QuietTactic
import Derived.BigQuiet
namespace Go.Proofs.Ytjfeaedjifpahaa
open Go.RowKit
set_option linter.unusedSimpArgs false
set_option linter.unusedVariables false

/-- what the document's road says of a part behind one of kind a: at the first place only what is wrong with itself -/
def clashB (a k : Int) : Bool := decide (a = k) || (decide (a = 3) && decide (k = 2))
theorem step_right {a : Int} {p : Pt} (h : clashB a p.k = false) : stepE a p = rightE p.k p.n p.t := by
  simp only [clashB, Bool.or_eq_false_iff, Bool.and_eq_false_iff, decide_eq_false_iff_not] at h
  have hf : followB a p.k = true := by
    simp only [followB, Bool.and_eq_true, decide_eq_true_eq, Bool.not_eq_true', Bool.and_eq_false_iff, decide_eq_false_iff_not]
    exact ⟨fun e => h.1 e.symm, h.2⟩
  unfold stepE rightE
  simp only [hf, Bool.and_true, Bool.and_eq_true, decide_eq_true_eq, formedB, widthI]
  by_cases h2 : p.k = 2
  · simp only [h2]
    by_cases hn : p.n = 0 <;> by_cases ht : p.t.size = 0 <;> simp [hn, ht] <;> (try omega)
  · by_cases h13 : p.k = 1 ∨ p.k = 3
    · simp only [h2, h13]
      by_cases hn : 0 < p.n
      · have : 0 ≤ p.n := by omega
        have : ¬ p.n = 0 := by omega
        by_cases ht : p.t.size = 0 <;> simp [*] <;> (try omega)
      · by_cases hz : p.n = 0
        · simp [hz]
        · have : ¬ 0 ≤ p.n := by omega
          simp [this, hn]
    · simp [h2, h13]
theorem step_clash {a : Int} {p : Pt} (h : clashB a p.k = true) : stepE a p = 3 := by
  apply step_behind
  simp only [clashB, Bool.or_eq_true, Bool.and_eq_true, decide_eq_true_eq] at h
  simp only [followB, Bool.and_eq_false_iff, decide_eq_false_iff_not, Bool.not_eq_false', Bool.and_eq_true, decide_eq_true_eq]
  rcases h with h | h
  · left; simp [h]
  · right; exact h
theorem step_first {p : Pt} : stepE 0 p = rightE p.k p.n p.t := by
  by_cases h : p.k = 0
  · have h1 : stepE 0 p = 3 := step_unformed (by simp [formedB, h])
    rw [h1]; simp [rightE, h]
  · apply step_right
    simp [clashB]; omega

theorem right_in {l : List Pt} {a : Int} (h : scanE a l = 0) : sumIn l = inI l ∧ sumOut l = outI l := by
  induction l generalizing a with
  | nil => simp [sumIn, sumOut, inI, outI]
  | cons q r ih =>
    unfold scanE at h
    split at h
    · rename_i h1
      obtain ⟨e1, e2⟩ := ih h
      unfold stepE at h1
      split at h1
      · rename_i h2
        simp only [Bool.and_eq_true, decide_eq_true_eq] at h2
        obtain ⟨⟨h2, h3⟩, h4⟩ := h2
        unfold formedB at h2
        simp only [sumIn, sumOut, inI, outI, e1, e2, widthI]
        split at h2 <;> simp only [Bool.and_eq_true, decide_eq_true_eq] at h2
        · rename_i h5
          rcases h5 with h5 | h5 <;> simp [h5, h2]
        · simp [h2]
      · omega
    · contradiction
theorem delta_sizes (l : List Pt) : deltaE l = sizesE l := by
  unfold deltaE sizesE partsE
  split
  · simp
  · split
    · rename_i h
      obtain ⟨e1, e2⟩ := right_in h
      simp [e1, e2]
    · rfl

end Go.Proofs.Ytjfeaedjifpahaa
