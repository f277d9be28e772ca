/- A list of parts that a call has made itself. -/
import Derived.Test.YtjfeaedjifpahaaMem
import Derived.OwnWalk
import Derived.Laws.OwnMore
namespace Go.Proofs.Ytjfeaedjifpahaa
open Go.RowKit
set_option linter.unusedSimpArgs false
set_option linter.unusedVariables false

def ptCells (p : Pt) : List Value := [.int .i64 p.k, .int .i64 p.n, .string p.t]
def allCells (l : List Pt) : List Value := l.flatMap ptCells
theorem allCells_cons (p : Pt) (r : List Pt) : allCells (p :: r) = .int .i64 p.k :: .int .i64 p.n :: .string p.t :: allCells r := rfl
theorem allCells_append (a b : List Pt) : allCells (a ++ b) = allCells a ++ allCells b := by simp [allCells]
theorem allCells_length (l : List Pt) : (allCells l).length = l.length * 3 := by
  induction l with
  | nil => rfl
  | cons p r ih => rw [allCells_cons]; simp only [List.length_cons, ih]; omega
theorem allCells_at {l : List Pt} {i : Nat} {p : Pt} (h : l[i]? = some p) : (allCells l)[i * 3]? = some (.int .i64 p.k) ∧ (allCells l)[i * 3 + 1]? = some (.int .i64 p.n) ∧ (allCells l)[i * 3 + 2]? = some (.string p.t) := by
  induction l generalizing i with
  | nil => simp at h
  | cons q r ih =>
    cases i with
    | zero =>
      simp at h
      subst h
      simp [allCells_cons]
    | succ j =>
      have := ih (i := j) (by simpa using h)
      rw [allCells_cons, show (j + 1) * 3 = j * 3 + 1 + 1 + 1 by omega]
      refine ⟨?_, ?_, ?_⟩
      · simpa using this.1
      · rw [show j * 3 + 1 + 1 + 1 + 1 = (j * 3 + 1) + 1 + 1 + 1 by omega]; simpa using this.2.1
      · rw [show j * 3 + 1 + 1 + 1 + 2 = (j * 3 + 2) + 1 + 1 + 1 by omega]; simpa using this.2.2

def Bound (l : List Pt) : Prop := l.length ≤ 9223372036854775807 ∧ ∀ p ∈ l, p.t.size ≤ 9223372036854775807 ∧ -9223372036854775808 ≤ p.n ∧ p.n ≤ 9223372036854775807 ∧ -9223372036854775808 ≤ p.k ∧ p.k ≤ 9223372036854775807

theorem parts_own {w : World} {B : Nat} {v : Value} {l : List Pt} (h : w.ownsRow B 53 3 v l.length (allCells l)) (hb : Bound l) : ∃ a cap, v = .slice a l.length cap ∧ PartsAt w w.heap.size a l := by
  rcases h.2 with ⟨rfl, h0⟩ | ⟨g, cap, cur, rfl, hB, hg, hn, hm, hc, ht⟩
  · have : l = [] := List.length_eq_zero_iff.1 h0
    subst this
    exact ⟨none, 0, rfl, by simp, Nat.le_refl _, by simp, by simp⟩
  · refine ⟨some ⟨g, 0, none⟩, cap, rfl, hb.1, Nat.le_refl _, hb.2, fun _ => ⟨g, 0, rfl, (Array.getElem?_eq_some_iff.1 hg).1, fun i p hi => ?_⟩⟩
    obtain ⟨c1, c2, c3⟩ := allCells_at hi
    have hil := (List.getElem?_eq_some_iff.1 hi).1
    refine ⟨?_, ?_, ?_⟩
    · rw [Nat.zero_add, h.cellAt _ (by omega)]; exact c1
    · rw [Nat.zero_add, h.cellAt _ (by omega)]; exact c2
    · rw [Nat.zero_add, h.cellAt _ (by omega)]; exact c3

theorem parts_lit (w : World) (l : List Pt) (hb : Bound l) : PartsAt (w.alloc (.cells (allCells l).toArray 53)) (w.heap.size + 1) (some ⟨w.heap.size, 0, none⟩) l := by
  have h := World.ownsRow_lit (base := 0) (e := 53) (size := 3) w (allCells l).toArray l.length (Nat.zero_le _) hb.1 (by simp [allCells_length])
  obtain ⟨a, cap, hv, hp⟩ := parts_own (l := l) (by simpa using h) hb
  simp only [Value.slice.injEq, true_and] at hv
  obtain ⟨rfl, _⟩ := hv
  simpa using hp

end Go.Proofs.Ytjfeaedjifpahaa
