/- The room that a list of parts has. -/
import Derived.Test.YtjfeaedjifpahaaPtOwn
namespace Go.Proofs.Ytjfeaedjifpahaa
open Go.RowKit
set_option linter.unusedSimpArgs false
set_option linter.unusedVariables false

/-- the room that a list has: nil has none -/
def Room (a : Option Addr) (l : List Pt) (c : Nat) : Prop := l.length ≤ c ∧ (a = none → c = 0)
theorem room_nil : Room none [] 0 := ⟨Nat.le_refl _, fun _ => rfl⟩
theorem parts_ownC {w : World} {B : Nat} {v : Value} {l : List Pt} (h : w.ownsRow B 53 3 v l.length (allCells l)) (hb : Bound l) : ∃ a cap, v = .slice a l.length cap ∧ PartsAt w w.heap.size a l ∧ Room a l cap := by
  rcases h.2 with ⟨rfl, h0⟩ | ⟨g, cap, cur, rfl, hB, hg, hn, hm, hc, ht⟩
  · have : l = [] := List.length_eq_zero_iff.1 h0
    subst this
    exact ⟨none, 0, rfl, ⟨by simp, Nat.le_refl _, by simp, by simp⟩, room_nil⟩
  · refine ⟨some ⟨g, 0, none⟩, cap, rfl, ⟨hb.1, Nat.le_refl _, hb.2, fun _ => ⟨g, 0, rfl, (Array.getElem?_eq_some_iff.1 hg).1, fun i p hi => ?_⟩⟩, hn, fun e => by cases e⟩
    obtain ⟨c1, c2, c3⟩ := allCells_at hi
    have hil := (List.getElem?_eq_some_iff.1 hi).1
    refine ⟨?_, ?_, ?_⟩
    · rw [Nat.zero_add, h.cellAt _ (by omega)]; exact c1
    · rw [Nat.zero_add, h.cellAt _ (by omega)]; exact c2
    · rw [Nat.zero_add, h.cellAt _ (by omega)]; exact c3

end Go.Proofs.Ytjfeaedjifpahaa
