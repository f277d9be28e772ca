/- What Within answers, where no part of a text is about. -/
import Derived.Test.YtkihanmodfnpcabPtOwn
namespace Go.Proofs.Ytkihanmodfnpcab
open Go.RowKit
set_option linter.unusedSimpArgs false
set_option linter.unusedVariables false

set_option maxHeartbeats 1000000 in
theorem Within3_any (k : Int) (m : Nat) (w : World) (hm : 0 < m) (h5 : m ≤ 9223372036854775807) :
    Calls Try.prog 19 #[.int .i64 k, .int .i64 m] w fun e w' => ∃ r : Nat, e = .returned (.int .i64 r) ∧ r < m ∧ w' = w := by
  go_enter Try.func19, Try.ntmps19
  have hx0 : 0 ≤ (IntKind.u64.wrap k).tmod (m : Int) := Int.tmod_nonneg _ (by rw [IntKind.wrap_u64]; omega)
  have hx1 : (IntKind.u64.wrap k).tmod (m : Int) < m := Int.tmod_lt_of_pos _ (by omega)
  have hx2 : wrap64 ((IntKind.u64.wrap k).tmod (m : Int)) = (IntKind.u64.wrap k).tmod (m : Int) := IntWalk.wrap64_in _ ⟨by omega, by omega⟩
  have HX : Hid (0 ≤ (IntKind.u64.wrap k).tmod (m : Int) ∧ (IntKind.u64.wrap k).tmod (m : Int) < m ∧ wrap64 ((IntKind.u64.wrap k).tmod (m : Int)) = (IntKind.u64.wrap k).tmod (m : Int)) := ⟨hx0, hx1, hx2⟩
  clear hx0 hx1 hx2
  go_wp2
  go_ret
  obtain ⟨h0, h1, h2⟩ := HX.out
  exact ⟨((IntKind.u64.wrap k).tmod (m : Int)).toNat, congrArg (fun z => Ending.returned (.int .i64 z)) (by rw [h2]; omega), by omega, rfl⟩
end Go.Proofs.Ytkihanmodfnpcab
