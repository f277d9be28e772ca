/- A history of one revision that is written out. -/
import Derived.Test.YtinhidddfpjjkabRevOne
namespace Go.Proofs.Ytinhidddfpjjkab
open Go.RowKit
set_option linter.unusedSimpArgs false
set_option linter.unusedVariables false

/-- a revision, in a block behind its delta -/
theorem revs_one (w : World) (r : Rv) (hd : wide r.who ∧ wide r.seq) (a : Option Addr) (c : Nat) (hp : PartsAt w w.heap.size a r.d) (hr : Room a r.d c) :
    RevsAt (w.alloc (.cells #[.int .i64 r.who, .int .i64 r.seq, .slice a r.d.length c] 46)) (w.alloc (.cells #[.int .i64 r.who, .int .i64 r.seq, .slice a r.d.length c] 46)).heap.size (some ⟨w.heap.size, 0, none⟩) [r] := by
  have hz : (w.alloc (.cells #[.int .i64 r.who, .int .i64 r.seq, .slice a r.d.length c] 46)).heap.size = w.heap.size + 1 := Deep.nblk_alloc _ _
  refine ⟨by simp, Nat.le_refl _, fun q hq => by simp at hq; subst hq; exact hd, fun _ => ⟨w.heap.size, 0, rfl, by rw [hz]; omega, fun i q hi => ?_⟩⟩
  obtain rfl : i = 0 := by
    have := (List.getElem?_eq_some_iff.1 hi).1
    simpa using this
  obtain rfl : r = q := by simpa using hi
  obtain ⟨r1, r2, r3, r4, r5⟩ := rv_box hp hr
  refine ⟨a, c, r1, r2, r3, ?_, r5⟩
  exact r4.wider (by rw [hz]; omega) (Nat.le_refl _)
end Go.Proofs.Ytinhidddfpjjkab
