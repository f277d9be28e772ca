/- What the document's own Places.Do, and Do, answer. -/
import Derived.Test.YtilcmbophfjjbaaOf
import Derived.Test.YtilcmbophfjjbaaDo
namespace Go.Proofs.Ytilcmbophfjjbaa
open Go.RowKit
set_option linter.unusedSimpArgs false
set_option linter.unusedVariables false

theorem own_at {w : World} {B n : Nat} {e : TypeId} {v u : Value} {xs : List Value} {j : Nat} (h : w.ownsRow B e 1 v n xs) (hj : xs[j]? = some u) : ∃ g cap, v = .slice (some ⟨g, 0, none⟩) n cap ∧ w.cell? ⟨g, j, none⟩ = some u ∧ g < w.heap.size := by
  have hjl : j < n := by
    have h1 := h.1
    obtain ⟨h2, _⟩ := List.getElem?_eq_some_iff.1 hj
    omega
  rcases h.2 with ⟨_, h0⟩ | ⟨g, cap, cur, rfl, _, hc, _⟩
  · omega
  · exact ⟨g, cap, rfl, by rw [h.cellAt j (by omega)]; exact hj, lt_of_heap hc⟩

theorem str_eq (x : ByteArray) : (⟨x.data.toList.toArray⟩ : ByteArray) = x := by cases x; simp

theorem slice_one (s : ByteArray) {i : Nat} {c : UInt8} (h : s.data.toList[i]? = some c) : (s.extract i (i + 1)).data.toList = [c] := by
  rw [Lib.extract_data]
  obtain ⟨h1, rfl⟩ := List.getElem?_eq_some_iff.1 h
  rw [List.drop_eq_getElem_cons h1, show i + 1 - i = 0 + 1 by omega, List.take_succ_cons]
  rfl

end Go.Proofs.Ytilcmbophfjjbaa
