/- What Of answers, as the laws need it. -/
import Derived.Test.YtbfabahdaacpfaaDiffOf
import Derived.Test.YtbfabahdaacpfaaDiffCost
namespace Go.Proofs.Ytbfabahdaacpfaa
open Go.RowKit
set_option linter.unusedSimpArgs false
set_option linter.unusedVariables false

theorem diff_says {s t : ByteArray} (hs : s.size ≤ 500) (ht : t.size ≤ 500) :
    fitsE (diffL s.data.toList t.data.toList) s.size = 0 ∧ (⟨(doT (diffL s.data.toList t.data.toList) s).toArray⟩ : ByteArray) = t ∧ Small (diffL s.data.toList t.data.toList) ∧
    costI (diffL s.data.toList t.data.toList) + 2 * lcs s.data.toList t.data.toList = s.size + t.size := by
  have hsl : s.data.toList.length = s.size := Array.length_toList
  have htl : t.data.toList.length = t.size := Array.length_toList
  obtain ⟨d1, d2, d3, d4, d5, d6⟩ := diff_facts (s := s.data.toList) (t := t.data.toList) (by omega) (by omega)
  have hf : fitsE (diffL s.data.toList t.data.toList) s.size = 0 := by rw [fitsE, if_pos d3, d4, hsl, if_pos rfl]
  refine ⟨hf, ?_, (sizes_zero d3).1, by rw [d6, hsl, htl]⟩
  rw [doT, if_pos hf, d5]
end Go.Proofs.Ytbfabahdaacpfaa
