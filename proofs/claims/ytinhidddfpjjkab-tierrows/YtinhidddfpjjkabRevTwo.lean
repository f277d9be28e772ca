/- A history of two revisions that is written out. -/
import Derived.Test.YtinhidddfpjjkabRevLit
namespace Go.Proofs.Ytinhidddfpjjkab
open Go.RowKit
set_option linter.unusedSimpArgs false
set_option linter.unusedVariables false

theorem revs_two (w : World) (r q : Rv) (hd : (wide r.who ∧ wide r.seq) ∧ wide q.who ∧ wide q.seq) (a b : Option Addr) (c d : Nat) (hp : PartsAt w w.heap.size a r.d) (hr : Room a r.d c) (hp2 : PartsAt w w.heap.size b q.d) (hr2 : Room b q.d d) :
    RevsAt (w.alloc (.cells #[.int .i64 r.who, .int .i64 r.seq, .slice a r.d.length c, .int .i64 q.who, .int .i64 q.seq, .slice b q.d.length d] 46)) (w.heap.size + 1) (some ⟨w.heap.size, 0, none⟩) [r, q] := by
  have hz : (w.alloc (.cells #[.int .i64 r.who, .int .i64 r.seq, .slice a r.d.length c, .int .i64 q.who, .int .i64 q.seq, .slice b q.d.length d] 46)).heap.size = w.heap.size + 1 := Deep.nblk_alloc _ _
  have h : (w.alloc (.cells #[.int .i64 r.who, .int .i64 r.seq, .slice a r.d.length c, .int .i64 q.who, .int .i64 q.seq, .slice b q.d.length d] 46)).heap[w.heap.size]? = some (.cells #[.int .i64 r.who, .int .i64 r.seq, .slice a r.d.length c, .int .i64 q.who, .int .i64 q.seq, .slice b q.d.length d] 46 (0, 0)) := Deep.blk_alloc_new w _
  have hb : Below w.heap.size w (w.alloc (.cells #[.int .i64 r.who, .int .i64 r.seq, .slice a r.d.length c, .int .i64 q.who, .int .i64 q.seq, .slice b q.d.length d] 46)) := (Below.refl _ w).alloc (Nat.le_refl _) _
  refine ⟨by simp, by rw [hz]; omega, fun x hx => ?_, fun _ => ⟨w.heap.size, 0, rfl, by omega, fun i x hi => ?_⟩⟩
  · simp only [List.mem_cons, List.not_mem_nil, or_false] at hx
    rcases hx with rfl | rfl
    · exact hd.1
    · exact hd.2
  · match i, hi with
    | 0, hi =>
      obtain rfl : r = x := by simpa using hi
      exact ⟨a, c, Lib.cell_of_heap h 0, Lib.cell_of_heap h 1, Lib.cell_of_heap h 2, (hp.below hb (Nat.le_refl _)).wider (by omega) (by rw [hz]; omega), hr⟩
    | 1, hi =>
      obtain rfl : q = x := by simpa using hi
      exact ⟨b, d, Lib.cell_of_heap h 3, Lib.cell_of_heap h 4, Lib.cell_of_heap h 5, (hp2.below hb (Nat.le_refl _)).wider (by omega) (by rw [hz]; omega), hr2⟩
    | i + 2, hi => simp at hi
end Go.Proofs.Ytinhidddfpjjkab
