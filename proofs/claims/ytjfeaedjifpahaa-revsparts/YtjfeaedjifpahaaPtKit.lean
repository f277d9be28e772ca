/- Rows of parts of the call's own, one more. -/
import Derived.Test.YtjfeaedjifpahaaPtOwn
import Derived.Test.YtjfeaedjifpahaaByteRow
namespace Go.Proofs.Ytjfeaedjifpahaa
open Go.RowKit
set_option linter.unusedSimpArgs false
set_option linter.unusedVariables false

theorem own_snoc {w : World} {B : Nat} {v : Value} {l : List Pt} {k n : Int} {t : ByteArray} (h : w.ownsRow B 53 3 v (l.length + 1) (allCells l ++ [.int .i64 k, .int .i64 n, .string t])) : w.ownsRow B 53 3 v (l ++ [Pt.mk k n t]).length (allCells (l ++ [Pt.mk k n t])) := by
  rw [allCells_append, List.length_append]; exact h

theorem infoPart : (Try.prog.info? 53).map (fun i => (i.zero, i.size, i.bytes)) = some (some (.agg #[.int .i64 0, .int .i64 0, .string ⟨#[]⟩]), 3, 32) := by kernel_rfl

end Go.Proofs.Ytjfeaedjifpahaa
