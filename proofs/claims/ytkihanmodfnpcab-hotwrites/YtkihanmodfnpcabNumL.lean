/- Numbers as bytes: no program in it. -/
import GoSem.Claim
namespace Go.Proofs.Ytkihanmodfnpcab
set_option linter.unusedSimpArgs false
set_option linter.unusedVariables false

def numL (n : Nat) : List UInt8 := if n < 128 then [UInt8.ofNat n] else UInt8.ofNat (128 + n % 128) :: numL (n / 128)
  termination_by n
  decreasing_by omega
theorem num_small {n : Nat} (h : n < 128) : numL n = [UInt8.ofNat n] := by rw [numL, if_pos h]
theorem num_more {n : Nat} (h : ¬ n < 128) : numL n = UInt8.ofNat (128 + n % 128) :: numL (n / 128) := by rw [numL, if_neg h]
/-- seven bits a byte, the lowest first -/
def valL : List UInt8 → Nat
  | [] => 0
  | b :: r => b.toNat % 128 + 128 * valL r
theorem ofNat_toNat {n : Nat} (h : n < 256) : (UInt8.ofNat n).toNat = n := by simp [UInt8.toNat_ofNat']; omega
theorem num_val (n : Nat) : valL (numL n) = n := by
  induction n using Nat.strongRecOn with
  | _ n ih =>
    by_cases h : n < 128
    · rw [num_small h, valL, valL, ofNat_toNat (by omega)]; omega
    · rw [num_more h, valL, ih (n / 128) (by omega), ofNat_toNat (by omega)]; omega
theorem num_inj {a b : Nat} (h : numL a = numL b) : a = b := by rw [← num_val a, ← num_val b, h]
abbrev bigB (b : UInt8) : Bool := decide (128 ≤ b.toNat)
/-- the last byte is below 128, and no other -/
theorem num_shape (n : Nat) : ∃ (r : List UInt8) (b : UInt8), numL n = r ++ [b] ∧ (∀ x ∈ r, bigB x = true) ∧ bigB b = false := by
  induction n using Nat.strongRecOn with
  | _ n ih =>
    by_cases h : n < 128
    · exact ⟨[], UInt8.ofNat n, by rw [num_small h]; rfl, by simp, by simp only [bigB, ofNat_toNat (show n < 256 by omega), decide_eq_false_iff_not]; omega⟩
    · obtain ⟨r, b, h1, h2, h3⟩ := ih (n / 128) (by omega)
      refine ⟨UInt8.ofNat (128 + n % 128) :: r, b, by rw [num_more h, h1]; rfl, ?_, h3⟩
      intro x hx
      rcases List.mem_cons.1 hx with rfl | hx
      · simp only [bigB, ofNat_toNat (show 128 + n % 128 < 256 by omega), decide_eq_true_eq]; omega
      · exact h2 x hx
theorem num_len {n k : Nat} (h : n < 128 ^ (k + 1)) : (numL n).length ≤ k + 1 := by
  induction k generalizing n with
  | zero => rw [num_small (by simpa using h)]; simp
  | succ k ih =>
    by_cases h1 : n < 128
    · rw [num_small h1]; simp
    · rw [num_more h1, List.length_cons]
      have := ih (n := n / 128) (by rw [Nat.pow_succ] at h; omega)
      omega
theorem num_five {n : Nat} (h : n ≤ 2147483647) : (numL n).length ≤ 5 := num_len (k := 4) (by omega)
theorem num_pos (n : Nat) : 0 < (numL n).length := by
  obtain ⟨r, b, h, _⟩ := num_shape n
  rw [h]; simp
theorem num_mono {a b : Nat} (h : a ≤ b) : (numL a).length ≤ (numL b).length := by
  induction b using Nat.strongRecOn generalizing a with
  | _ b ih =>
    by_cases h1 : a < 128
    · rw [num_small h1]; exact num_pos b
    · rw [num_more h1, num_more (n := b) (by omega)]
      have := ih (b / 128) (by omega) (a := a / 128) (by omega)
      simp only [List.length_cons]; omega
/-- as many bytes as it must have -/
def leastN (n : Nat) : Nat := if n < 128 then 1 else leastN (n / 128) + 1
  termination_by n
  decreasing_by omega
theorem num_least (n : Nat) : (numL n).length = leastN n := by
  induction n using Nat.strongRecOn with
  | _ n ih =>
    rw [leastN]
    by_cases h : n < 128
    · rw [num_small h, if_pos h]; rfl
    · rw [num_more h, if_neg h, List.length_cons, ih (n / 128) (by omega)]

/-- what Get tells: 0, or 3 (ErrForm), or 5 (ErrShort) -/
def runN (s : List UInt8) : Nat := (s.takeWhile bigB).length
def getE (s : List UInt8) : Int := if 5 ≤ runN s then 3 else if runN s = s.length then 5 else if valL (s.take (runN s + 1)) ≤ 2147483647 ∧ numL (valL (s.take (runN s + 1))) = s.take (runN s + 1) then 0 else 3
theorem run_le (s : List UInt8) : runN s ≤ s.length := by
  unfold runN
  exact (List.takeWhile_prefix bigB).length_le
theorem run_all {r : List UInt8} (h : ∀ x ∈ r, bigB x = true) : runN r = r.length := by
  induction r with
  | nil => rfl
  | cons x r ih =>
    have := ih (fun y hy => h y (List.mem_cons_of_mem _ hy))
    have hx := h x (by simp)
    simp only [runN, List.takeWhile_cons, hx, if_true, List.length_cons] at this ⊢
    omega
theorem run_stop {r : List UInt8} {b : UInt8} {more : List UInt8} (h : ∀ x ∈ r, bigB x = true) (hb : bigB b = false) : runN (r ++ b :: more) = r.length := by
  induction r with
  | nil => simp [runN, hb]
  | cons x r ih =>
    have := ih (fun y hy => h y (List.mem_cons_of_mem _ hy))
    have hx := h x (by simp)
    simp only [runN, List.cons_append, List.takeWhile_cons, hx, if_true, List.length_cons] at this ⊢
    omega
theorem num_get {n : Nat} (h : n ≤ 2147483647) (more : List UInt8) : getE (numL n ++ more) = 0 ∧ runN (numL n ++ more) + 1 = (numL n).length ∧ valL ((numL n ++ more).take (runN (numL n ++ more) + 1)) = n := by
  obtain ⟨r, b, h1, h2, h3⟩ := num_shape n
  have hr : runN (numL n ++ more) = r.length := by rw [h1, List.append_assoc]; exact run_stop h2 h3
  have hl : (numL n).length = r.length + 1 := by rw [h1]; simp
  have ht : (numL n ++ more).take (runN (numL n ++ more) + 1) = numL n := by rw [hr, ← hl]; simp
  have h5 := num_five h
  refine ⟨?_, by rw [hr, hl], by rw [ht, num_val]⟩
  rw [getE, ht, num_val, if_neg (by omega), if_neg (by simp; omega), if_pos ⟨h, rfl⟩]
theorem num_cut {n : Nat} (h : n ≤ 2147483647) {j : Nat} (hj : j < (numL n).length) : getE ((numL n).take j) = 5 := by
  obtain ⟨r, b, h1, h2, h3⟩ := num_shape n
  have hl : (numL n).length = r.length + 1 := by rw [h1]; simp
  have h5 := num_five h
  have ht : (numL n).take j = r.take j := by rw [h1, List.take_append_of_le_length (by omega)]
  have hr : runN (r.take j) = (r.take j).length := run_all (fun x hx => h2 x (List.mem_of_mem_take hx))
  have hjl : (r.take j).length = j := by simp; omega
  rw [ht, getE, hr, if_neg (by omega), if_pos rfl]

end Go.Proofs.Ytkihanmodfnpcab
