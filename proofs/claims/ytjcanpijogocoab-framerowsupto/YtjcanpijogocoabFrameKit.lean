/- Frames in blocks of their own; two frames held against each other. -/
import Derived.Test.YtjcanpijogocoabFrameGet
import Derived.Laws.StructEq
namespace Go.Proofs.Ytjcanpijogocoab
open Go.RowKit
set_option linter.unusedSimpArgs false
set_option linter.unusedVariables false

/-- a frame in a block of its own -/
def FBox (w : World) (g : Nat) (k : Int) (t : ByteArray) : Prop := w.cell? ⟨g, 0, none⟩ = some (.int .i64 k) ∧ w.cell? ⟨g, 1, none⟩ = some (.string t) ∧ g < w.heap.size
theorem FBox.below {w w' : World} {g : Nat} {k : Int} {t : ByteArray} (h : FBox w g k t) (hb : Below w.heap.size w w') : FBox w' g k t := by
  obtain ⟨h1, h2, h3⟩ := h
  have h6 := hb.block g h3
  refine ⟨?_, ?_, Nat.lt_of_lt_of_le h3 hb.size⟩
  · rw [World.cell?_of_block h6]; exact h1
  · rw [World.cell?_of_block h6]; exact h2
theorem fbox_new (w : World) (k : Int) (t : ByteArray) : FBox (w.alloc (.cells #[.int .i64 k, .string t] 23)).drew w.heap.size k t := by
  have h : (w.alloc (.cells #[.int .i64 k, .string t] 23)).drew.heap[w.heap.size]? = some (.cells #[.int .i64 k, .string t] 23 (0, 0)) := Deep.blk_alloc_new w _
  exact ⟨Lib.cell_of_heap h 0, Lib.cell_of_heap h 1, lt_of_heap h⟩
theorem fbox_here (w : World) (k : Int) (t : ByteArray) : FBox (w.alloc (.cells #[.int .i64 k, .string t] 23)) w.heap.size k t := by
  have h : (w.alloc (.cells #[.int .i64 k, .string t] 23)).heap[w.heap.size]? = some (.cells #[.int .i64 k, .string t] 23 (0, 0)) := Deep.blk_alloc_new w _
  exact ⟨Lib.cell_of_heap h 0, Lib.cell_of_heap h 1, lt_of_heap h⟩
theorem fieldsFrame : Try.prog.underlying 23 = some (.struct (Try.prog.fieldsOf 23)) := by kernel_rfl
theorem heldFrame : Try.prog.stoodInHeld 23 = false := by kernel_rfl
set_option maxRecDepth 10000 in
theorem same_frame (k k' : Int) (t t' : ByteArray) (w : World) : (binOp .eql 23 (.agg #[.int .i64 k, .string t]) (.agg #[.int .i64 k', .string t'])).run Try.prog w = .ok (.bool (k == k' && (t.toList == t'.toList))) w := by
  rw [run_eql_struct, run_equalIn_agg w 9999 23 _ _ fieldsFrame heldFrame]
  simp only [Program.fieldsOf, Try.underlying23]
  cases h1 : (k == k') <;> cases h2 : (t.toList == t'.toList) <;> simp [go_sem, Op.eqFields, part, h1, h2, Try.underlying3, Try.underlying9]

end Go.Proofs.Ytjcanpijogocoab
