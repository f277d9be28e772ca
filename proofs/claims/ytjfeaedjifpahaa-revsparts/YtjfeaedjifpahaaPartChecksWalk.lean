/- The law PartChecks, walked: it answers true. -/
import Derived.Test.YtjfeaedjifpahaaDelta
namespace Go.Proofs.Ytjfeaedjifpahaa
open Go.RowKit
set_option linter.unusedSimpArgs false
set_option linter.unusedVariables false

theorem sizes_zero {l : List Pt} (h : sizesE l = 0) : Small l ∧ sizesIn l = inI l ∧ sizesOut l = outI l := by
  have h0 : partsE l = 0 := by
    unfold sizesE at h
    split at h
    · assumption
    · contradiction
  have hs : scanE 0 l = 0 := by
    unfold partsE at h0
    split at h0
    · omega
    · exact h0
  obtain ⟨e1, e2⟩ := right_in hs
  exact ⟨parts_small h0, by simp [sizesIn, h, e1], by simp [sizesOut, h, e2]⟩


end Go.Proofs.Ytjfeaedjifpahaa
