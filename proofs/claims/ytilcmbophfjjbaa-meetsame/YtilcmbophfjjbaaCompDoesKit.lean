/- How long a text is that comes of another: no program in it. -/
import Derived.Test.YtilcmbophfjjbaaDo
import Derived.Test.YtilcmbophfjjbaaCompL
namespace Go.Proofs.Ytilcmbophfjjbaa
set_option linter.unusedSimpArgs false
set_option linter.unusedVariables false

theorem doT_len (l : List Pt) (s : ByteArray) : (doT l s).length ≤ 500 := by
  unfold doT
  split
  · rename_i h
    obtain ⟨z, i⟩ := fits_zero h
    obtain ⟨g, c, e1, e2, b1, b2⟩ := delta_facts z
    have hl : s.data.toList.length = s.size := Array.length_toList
    rw [doL_word, doW_len _ _ (by omega)]; exact b2
  · simp

end Go.Proofs.Ytilcmbophfjjbaa
