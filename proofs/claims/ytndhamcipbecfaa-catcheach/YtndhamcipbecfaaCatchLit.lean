/- What catchup.Of answers of a history and a delta that are written out. -/
import Derived.Test.YtndhamcipbecfaaCatchOf
import Derived.Test.YtndhamcipbecfaaMeetKit
import Derived.Test.YtndhamcipbecfaaFirstRev
namespace Go.Proofs.Ytndhamcipbecfaa
open Go.RowKit
set_option linter.unusedSimpArgs false
set_option linter.unusedVariables false

theorem lit_catch : catchE [] [⟨1, 1, [⟨2, 0, ⟨#[97]⟩⟩]⟩] 0 [⟨2, 0, ⟨#[98]⟩⟩] = 0 ∧ catchT [] [⟨1, 1, [⟨2, 0, ⟨#[97]⟩⟩]⟩] 0 [⟨2, 0, ⟨#[98]⟩⟩] = [putP ⟨#[97]⟩] ∧ catchR [] [⟨1, 1, [⟨2, 0, ⟨#[97]⟩⟩]⟩] 0 [⟨2, 0, ⟨#[98]⟩⟩] = [keepP 1, putP ⟨#[98]⟩] ∧ catchB [] [⟨1, 1, [⟨2, 0, ⟨#[97]⟩⟩]⟩] 0 [⟨2, 0, ⟨#[98]⟩⟩] = [putP ⟨#[97]⟩, keepP 1] :=
  ⟨by rfl, by rfl, by rfl, by rfl⟩
/-- the history of one revision, and what it is behind other calls -/
theorem first_held (w w2 : World) (ad : Addr) (hp : PartsAt w w.heap.size (some ad) [⟨2, 0, ⟨#[97]⟩⟩]) (hb : Below (w.alloc (.cells #[.int .i64 1, .int .i64 1, .slice (some ad) 1 1] 40)).heap.size (w.alloc (.cells #[.int .i64 1, .int .i64 1, .slice (some ad) 1 1] 40)) w2) :
    RevsAt w2 w2.heap.size (some ⟨w.heap.size, 0, none⟩) [⟨1, 1, [⟨2, 0, ⟨#[97]⟩⟩]⟩] :=
  (revs_one w ⟨1, 1, [⟨2, 0, ⟨#[97]⟩⟩]⟩ ⟨⟨by decide, by decide⟩, ⟨by decide, by decide⟩⟩ (some ad) 1 hp ⟨by decide, fun e => by cases e⟩).here hb (Nat.le_refl _)
theorem CatchFirst (w2 : World) (g bd : Addr) (hl : RevsAt w2 w2.heap.size (some g) [⟨1, 1, [⟨2, 0, ⟨#[97]⟩⟩]⟩]) (hm : PartsAt w2 w2.heap.size (some bd) [⟨2, 0, ⟨#[98]⟩⟩]) :
    Calls Try.prog 13 #[.string ⟨#[]⟩, .slice (some g) 1 1, .int .i64 0, .slice (some bd) 1 1] w2 fun e w' => ∃ a1 c1 a2 c2 a3 c3, e = .returned (.tuple #[.slice a1 1 c1, .slice a2 2 c2, .slice a3 2 c3, .int .i64 0]) ∧ PartsAt w' w'.heap.size a1 [putP ⟨#[97]⟩] ∧ PartsAt w' w'.heap.size a2 [keepP 1, putP ⟨#[98]⟩] ∧ PartsAt w' w'.heap.size a3 [putP ⟨#[97]⟩, keepP 1] ∧ Below w2.heap.size w2 w' := by
  have h3 := CatchOf_any ⟨#[]⟩ (some g) (some bd) [⟨1, 1, [⟨2, 0, ⟨#[97]⟩⟩]⟩] [⟨2, 0, ⟨#[98]⟩⟩] 1 1 0 w2 hl (Nat.le_refl _) hm (by decide)
  obtain ⟨e0, e1, e2, e3⟩ := lit_catch
  have d : (⟨#[]⟩ : ByteArray).data.toList = [] := rfl
  rw [d, e0, e1, e2, e3] at h3
  exact h3
end Go.Proofs.Ytndhamcipbecfaa
