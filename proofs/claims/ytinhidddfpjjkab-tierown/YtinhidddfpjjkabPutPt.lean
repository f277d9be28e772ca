/- What the laws' own put answers. -/
import Derived.Test.YtinhidddfpjjkabPtOwn
import Derived.Deep.Heap
namespace Go.Proofs.Ytinhidddfpjjkab
open Go.RowKit
set_option linter.unusedSimpArgs false
set_option linter.unusedVariables false

set_option maxHeartbeats 400000 in
theorem put_any (s : ByteArray) (w : World) (hs : s.size ≤ 9223372036854775807) :
    Calls Try.prog 18 #[.string s] w fun e w' => e = .returned (.slice (some ⟨w.heap.size, 0, none⟩) 1 1) ∧ PartsAt w' w'.heap.size (some ⟨w.heap.size, 0, none⟩) [⟨2, 0, s⟩] ∧ Below w.heap.size w w' := by
  go_enter Try.func18, Try.ntmps18
  go_wp2
  go_ret
  have h2 := parts_lit w [⟨2, 0, s⟩] ⟨by simp, by intro p hp; simp at hp; subst hp; exact ⟨hs, by simp, by simp, by simp, by simp⟩⟩
  refine ⟨rfl, ?_, (Below.refl _ _).alloc (Nat.le_refl _) _⟩
  rw [show (w.alloc (.cells #[.int .i64 2, .int .i64 0, .string s] 58)).heap.size = w.heap.size + 1 from Deep.nblk_alloc _ _]
  exact h2

end Go.Proofs.Ytinhidddfpjjkab
