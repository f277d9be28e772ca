/- What the small functions of a part answer: its width, whether it is formed, whether it may follow, whether it is right. -/
import Derived.Test.YtjfeaedjifpahaaMem
namespace Go.Proofs.Ytjfeaedjifpahaa
open Go.RowKit
set_option linter.unusedSimpArgs false
set_option linter.unusedVariables false

set_option maxHeartbeats 400000 in
theorem width_any (k n : Int) (t : ByteArray) (w : World) (_ht : t.size ≤ 9223372036854775807) :
    Calls Try.prog 83 #[.agg #[.int .i64 k, .int .i64 n, .string t]] w fun e w' => e = .returned (.int .i64 (widthI k n t)) ∧ Below w.heap.size w w' := by
  by_cases h : k = 2
  · have hB : (k == 2) = true := by simpa using h
    have H : Hid (k = 2) := h
    clear h
    go_enter Try.func83, Try.ntmps83
    go_wp2
    go_ret
    exact ⟨ret_int (by simp [widthI, H.out]), (Below.refl _ _).alloc (Nat.le_refl _) _⟩
  · have hB : (k == 2) = false := by simpa using h
    have H : Hid (¬ k = 2) := h
    clear h
    go_enter Try.func83, Try.ntmps83
    go_wp2
    go_ret
    exact ⟨ret_int (by have := H.out; simp [widthI, this]), (Below.refl _ _).alloc (Nat.le_refl _) _⟩

theorem empty_size (t : ByteArray) : t.toList.isEmpty = decide (t.size = 0) := by
  rw [ByteArray.toList_eq]
  rcases t with ⟨⟨l⟩⟩
  cases l <;> simp [ByteArray.size]

theorem toList_nil (t : ByteArray) : (t.toList = []) = (t.size = 0) := by
  rw [ByteArray.toList_eq]
  rcases t with ⟨⟨l⟩⟩
  cases l <;> simp [ByteArray.size]

theorem formed_pos {k n : Int} {t : ByteArray} (hk : k = 1 ∨ k = 3) (hn : 0 ≤ n) : t.toList.isEmpty = formedB k n t := by
  simp [formedB, hk, hn, empty_size]
theorem formed_neg {k n : Int} {t : ByteArray} (hk : k = 1 ∨ k = 3) (hn : n < 0) : false = formedB k n t := by
  have : ¬ 0 ≤ n := by omega
  simp [formedB, hk, this]
theorem formed_put {k n : Int} {t : ByteArray} (hk : k = 2) : (n == 0) = formedB k n t := by
  subst hk
  rw [Bool.eq_iff_iff]; simp [formedB]
theorem formed_no {k n : Int} {t : ByteArray} (h1 : k ≠ 1) (h2 : k ≠ 2) (h3 : k ≠ 3) : false = formedB k n t := by
  simp [formedB, h1, h2, h3]

set_option maxHeartbeats 400000 in
theorem formed_any (k n : Int) (t : ByteArray) (w : World) :
    Calls Try.prog 82 #[.agg #[.int .i64 k, .int .i64 n, .string t]] w fun e w' => e = .returned (.bool (formedB k n t)) ∧ Below w.heap.size w w' := by
  go_enter Try.func82, Try.ntmps82
  go_wp2
  all_goals go_ret
  all_goals refine ⟨ret_bool ?_, (Below.refl _ _).alloc (Nat.le_refl _) _⟩
  all_goals (try simp only [beq_iff_eq, beq_eq_false_iff_ne, ne_eq] at *)
  all_goals first | exact formed_pos (by omega) (by omega) | exact formed_neg (by omega) (by omega) | exact formed_put (by omega) | exact formed_no (by omega) (by omega) (by omega)

theorem follow_ne {a k : Int} (h : (k == a) = true) : false = followB a k := by
  simp at h; simp [followB, h]
theorem follow_three {a k : Int} (h1 : (a == 3) = true) (h2 : (k == a) = false) : (!(k == 2)) = followB a k := by
  simp at h1 h2; subst h1; rw [Bool.eq_iff_iff]; simp [followB, h2]
theorem follow_else {a k : Int} (h1 : (a == 3) = false) (h2 : (k == a) = false) : true = followB a k := by
  simp at h1 h2; simp [followB, h1, h2]

set_option maxHeartbeats 400000 in
theorem follow_any (a k : Int) (w : World) :
    Calls Try.prog 84 #[.int .i64 a, .int .i64 k] w fun e w' => e = .returned (.bool (followB a k)) ∧ w' = w := by
  cases h1 : (k == a)
  · have h1' : (k != a) = true := by simp_all
    cases h2 : (a == 3)
    · have H : Hid _ := follow_else h2 h1
      generalize followB a k = r at H
      go_enter Try.func84, Try.ntmps84
      go_wp2
      go_ret
      exact ⟨ret_bool H.out, rfl⟩
    · have H : Hid _ := follow_three h2 h1
      generalize followB a k = r at H
      go_enter Try.func84, Try.ntmps84
      go_wp2
      go_ret
      exact ⟨ret_bool H.out, rfl⟩
  · have h1' : (k != a) = false := by simp_all
    have H : Hid _ := follow_ne h1
    generalize followB a k = r at H
    go_enter Try.func84, Try.ntmps84
    go_wp2
    go_ret
    exact ⟨ret_bool H.out, rfl⟩

def rightE (k n : Int) (t : ByteArray) : Int := if (k = 2 ∧ n = 0 ∧ t.size ≠ 0) ∨ ((k = 1 ∨ k = 3) ∧ 0 < n ∧ t.size = 0) then (if 500 < n ∨ 500 < t.size then 2 else 0) else 3

set_option maxHeartbeats 1000000 in
theorem right_any (k n : Int) (t : ByteArray) (w : World) (_ht : t.size ≤ 9223372036854775807) :
    Calls Try.prog 47 #[.agg #[.int .i64 k, .int .i64 n, .string t]] w fun e w' => e = .returned (.int .i64 (rightE k n t)) ∧ Below w.heap.size w w' := by
  go_enter Try.func47, Try.ntmps47
  go_wp2
  all_goals go_ret
  all_goals refine ⟨ret_int ?_, (Below.refl _ _).alloc (Nat.le_refl _) _⟩
  all_goals (try simp only [beq_iff_eq, beq_eq_false_iff_ne, ne_eq, empty_size, Bool.not_eq_true', decide_eq_false_iff_not, decide_eq_true_eq, Bool.not_eq_false', bne_iff_ne, bne_eq_false_iff_eq, toList_nil] at *)
  all_goals (unfold rightE; split <;> (try split) <;> omega)

end Go.Proofs.Ytjfeaedjifpahaa
