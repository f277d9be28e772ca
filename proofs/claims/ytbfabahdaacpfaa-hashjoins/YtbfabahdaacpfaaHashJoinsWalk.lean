/- The law HashJoins, walked: it answers true. -/
import Derived.Test.YtbfabahdaacpfaaHashJoin
namespace Go.Proofs.Ytbfabahdaacpfaa
open Go.RowKit
set_option linter.unusedSimpArgs false
set_option linter.unusedVariables false

theorem join_shift {a b n : Nat} (hb : b < 2147483647) : (wrap64 ((shiftN a n : Int) + (b : Int))).tmod 2147483647 = (joinN a b n : Int) := by
  have hp := shift_lt a n
  rw [wrap_in (by omega) (by omega)]
  refine (tmod_nat (shiftN a n + b) 2147483647).trans ?_
  rw [joinN, shiftN, Nat.add_mod, Nat.mod_mod, ← Nat.add_mod]

theorem Join_int {a b n : Int} (h : joinOk a b n = true) : ∃ J S : Int, 0 ≤ J ∧ J < 2147483647 ∧ (wrap64 (S + b)).tmod 2147483647 = J ∧
    (∀ w : World, Calls Try.prog 15 #[.int .i64 a, .int .i64 b, .int .i64 n] w fun e w' => e = .returned (.tuple #[.int .i64 J, .int .i64 0]) ∧ w' = w) ∧
    (∀ w : World, Calls Try.prog 16 #[.int .i64 a, .int .i64 n] w fun e w' => e = .returned (.int .i64 S) ∧ w' = w) := by
  simp only [joinOk, Bool.and_eq_true, decide_eq_true_eq] at h
  obtain ⟨⟨⟨a0, a1⟩, b0, b1⟩, n0, n1⟩ := h
  obtain ⟨x, rfl⟩ := Int.eq_ofNat_of_zero_le a0
  obtain ⟨y, rfl⟩ := Int.eq_ofNat_of_zero_le b0
  obtain ⟨z, rfl⟩ := Int.eq_ofNat_of_zero_le n0
  have hjl := join_lt x y z
  exact ⟨joinN x y z, shiftN x z, by omega, by omega, join_shift (by omega), fun w => Join_ok x y z w (by omega) (by omega) (by omega), fun w => Shift_any x (by omega) z w (by omega)⟩

set_option maxRecDepth 100000 in
set_option maxHeartbeats 8000000 in
theorem HashJoins_any (a b n : Int) (w : World) (ha : -9223372036854775808 ≤ a ∧ a ≤ 9223372036854775807) (hb : -9223372036854775808 ≤ b ∧ b ≤ 9223372036854775807) (hn : -9223372036854775808 ≤ n ∧ n ≤ 9223372036854775807) :
    Calls Try.prog 5 #[.int .i64 a, .int .i64 b, .int .i64 n] w fun e w' => e = .returned (.bool true) ∧ Below w.heap.size w w' := by
  cases hj : joinOk a b n
  · go_enter Try.func5, Try.ntmps5
    have HJ : Hid (joinOk a b n = false) := hj
    clear hj
    go_wp2_with fail
    refine (Join_not a b n _ HJ.out).mono ?_
    rintro e w1 ⟨rfl, we⟩
    subst we
    go_wp2_with fail
    all_goals first
      | (exfalso; have h := HJ.out; simp only [joinOk, Bool.and_eq_false_iff, decide_eq_false_iff_not] at h; omega)
      | (go_ret; exact ⟨rfl, Below.refl _ _⟩)
  · obtain ⟨J, S, j0, j1, hS, cJ, cS⟩ := Join_int hj
    simp only [joinOk, Bool.and_eq_true, decide_eq_true_eq] at hj
    obtain ⟨⟨⟨a0, a1⟩, b0, b1⟩, n0, n1⟩ := hj
    have CJ : Hid _ := cJ
    have CS : Hid _ := cS
    have HS : Hid _ := hS
    clear ha hb hn cJ cS hS
    go_enter Try.func5, Try.ntmps5
    go_wp2_with fail
    refine (CJ.out _).mono ?_
    rintro e w1 ⟨rfl, we⟩
    subst we
    go_wp2_with fail
    all_goals first
      | (exfalso; omega)
      | (go_ret; exact ⟨rfl, Below.refl _ _⟩)
      | (refine (CS.out _).mono ?_
         rintro e w2 ⟨rfl, we⟩
         subst we
         go_wp2_with fail
         go_ret
         refine ⟨?_, Below.refl _ _⟩
         rw [HS.out]
         simp)
end Go.Proofs.Ytbfabahdaacpfaa
