/- A cell of a row that the call owns. -/
import Derived.Test.YtilcmbophfjjbabPlMem
namespace Go.Proofs.Ytilcmbophfjjbab
open Go.RowKit

theorem own_at1 {w : World} {B n : Nat} {e : TypeId} {v u : Value} {xs : List Value} {j : Nat} (h : w.ownsRow B e 1 v n xs) (hj : xs[j]? = some u) : ∃ g cap, v = .slice (some ⟨g, 0, none⟩) n cap ∧ w.cell? ⟨g, j, none⟩ = some u ∧ g < w.heap.size := by
  have hjl : j < n := by
    have h1 := h.1
    obtain ⟨h2, _⟩ := List.getElem?_eq_some_iff.1 hj
    omega
  rcases h.2 with ⟨_, h0⟩ | ⟨g, cap, cur, rfl, _, hc, _⟩
  · omega
  · exact ⟨g, cap, rfl, by rw [h.cellAt j (by omega)]; exact hj, lt_of_heap hc⟩

end Go.Proofs.Ytilcmbophfjjbab
