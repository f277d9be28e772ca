/- A row of ints of the call's own, with room or without; slices.Equal of two that are one. -/
import Derived.Test.YtgffippimmokiaaIntRow
import Derived.Deep.QuietTactic
import Derived.BigQuiet
namespace Go.Proofs.Ytgffippimmokiaa
open Go.RowKit
set_option linter.unusedSimpArgs false
set_option linter.unusedVariables false

/-- an answer of Find: the places, in a row of the call's own -/
def Ints (w : World) (B : Nat) (v : Value) (l : List Nat) : Prop := w.ownsRow B 3 1 v l.length (l.map intV)
theorem Ints.mono {w : World} {B B' : Nat} {v : Value} {l : List Nat} (h : Ints w B v l) (hB : B' ≤ B) : Ints w B' v l :=
  ⟨h.1, h.2.imp id fun ⟨g, cap, cur, h1, h2, r⟩ => ⟨g, cap, cur, h1, Nat.le_trans hB h2, r⟩⟩

theorem Ints.below {w w' : World} {B : Nat} {v : Value} {l : List Nat} (h : Ints w B v l) (hb : Below w.heap.size w w') : Ints w' B v l := by
  refine ⟨h.1, ?_⟩
  rcases h.2 with h0 | ⟨g', cap, cur, h1, hB, hc, h2⟩
  · exact .inl h0
  · exact .inr ⟨g', cap, cur, h1, hB, by rw [hb.block _ (lt_of_heap hc)]; exact hc, h2⟩
theorem Ints.cellOf {w : World} {B : Nat} {v : Value} {l : List Nat} (h : Ints w B v l) {i q : Nat} (hi : l[i]? = some q) : ∃ g cap, v = .slice (some ⟨g, 0, none⟩) l.length cap ∧ w.cell? ⟨g, i, none⟩ = some (.int .i64 q) ∧ g < w.heap.size :=
  own_at h (by rw [List.getElem?_map, hi]; rfl)


end Go.Proofs.Ytgffippimmokiaa
