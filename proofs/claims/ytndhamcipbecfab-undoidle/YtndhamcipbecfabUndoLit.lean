/- What undo.Of answers of a history that is written out. -/
import Derived.Test.YtndhamcipbecfabUndoOf
import Derived.Test.YtndhamcipbecfabLawKit
import Derived.Test.YtndhamcipbecfabFirstRev
namespace Go.Proofs.Ytndhamcipbecfab
open Go.RowKit
set_option linter.unusedSimpArgs false
set_option linter.unusedVariables false

theorem lit_undo1 : undoD [] [⟨1, 1, [⟨2, 0, ⟨#[97]⟩⟩]⟩] 1 = ([cutP 1], 0) := by rfl
/-- one revision -/
theorem UndoFirst (w : World) (ad : Addr) (hp : PartsAt w w.heap.size (some ad) [⟨2, 0, ⟨#[97]⟩⟩]) :
    Calls Try.prog 6 #[.string ⟨#[]⟩, .slice (some ⟨w.heap.size, 0, none⟩) 1 1, .int .i64 1] (w.alloc (.cells #[.int .i64 1, .int .i64 1, .slice (some ad) 1 1] 30)) fun e w' => ∃ a' c', e = .returned (.tuple #[.slice a' 1 c', .int .i64 0]) ∧ PartsAt w' w'.heap.size a' [cutP 1] ∧ Below w.heap.size w w' := by
  have h2 := revs_one w ⟨1, 1, [⟨2, 0, ⟨#[97]⟩⟩]⟩ ⟨⟨by decide, by decide⟩, ⟨by decide, by decide⟩⟩ (some ad) 1 hp ⟨by decide, fun e => by cases e⟩
  have h3 := UndoOf_ok ⟨#[]⟩ (some ⟨w.heap.size, 0, none⟩) [⟨1, 1, [⟨2, 0, ⟨#[97]⟩⟩]⟩] 1 1 _ h2 (Nat.le_refl _) (by decide) (Nat.le_refl _) (Nat.le_refl _)
  rw [show undoD (⟨#[]⟩ : ByteArray).data.toList [⟨1, 1, [⟨2, 0, ⟨#[97]⟩⟩]⟩] 1 = ([cutP 1], 0) from lit_undo1] at h3
  refine Calls.mono h3 ?_
  rintro e w' ⟨a', c', rfl, h5, h6, hb⟩
  have h4 : Below w.heap.size w (w.alloc (.cells #[.int .i64 1, .int .i64 1, .slice (some ad) 1 1] 30)) := (Below.refl _ w).alloc (Nat.le_refl _) _
  exact ⟨a', c', rfl, h5, h4.trans (hb.mono h4.size)⟩
end Go.Proofs.Ytndhamcipbecfab
