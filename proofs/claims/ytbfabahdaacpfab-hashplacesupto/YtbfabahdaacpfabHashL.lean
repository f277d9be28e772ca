/- Sums of texts that can be put together, and where a text stands in another: no program in it. -/
import GoSem.Claim
namespace Go.Proofs.Ytbfabahdaacpfab
set_option linter.unusedSimpArgs false
set_option linter.unusedVariables false

def hashF (h : Nat) (s : List UInt8) : Nat := s.foldl (fun h b => (257 * h + 1 + b.toNat) % 2147483647) h
def hashL (s : List UInt8) : Nat := hashF 0 s
def joinN (a b n : Nat) : Nat := (a * 257 ^ n + b) % 2147483647
theorem hashF_app (h : Nat) (s t : List UInt8) : hashF h (s ++ t) = hashF (hashF h s) t := by simp [hashF]
theorem hashF_one (h : Nat) (b : UInt8) : hashF h [b] = (257 * h + 1 + b.toNat) % 2147483647 := rfl
theorem hashF_lt {h : Nat} (hh : h < 2147483647) (s : List UInt8) : hashF h s < 2147483647 := by
  induction s generalizing h with
  | nil => exact hh
  | cons b s ih => exact ih (Nat.mod_lt _ (by omega))
theorem hash_lt (s : List UInt8) : hashL s < 2147483647 := hashF_lt (by omega) s
theorem hashF_lin (s : List UInt8) : ∀ h, h < 2147483647 → hashF h s = (h * 257 ^ s.length + hashL s) % 2147483647 := by
  suffices H : ∀ (r : List UInt8) h, h < 2147483647 → hashF h r.reverse = (h * 257 ^ r.length + hashL r.reverse) % 2147483647 by
    intro h hh
    have := H s.reverse h hh
    simpa using this
  intro r
  induction r with
  | nil => intro h hh; show h = (h * 257 ^ 0 + 0) % 2147483647; rw [Nat.pow_zero, Nat.mul_one, Nat.add_zero, Nat.mod_eq_of_lt hh]
  | cons b r ih =>
    intro h hh
    rw [List.reverse_cons, hashF_app, hashL, hashF_app, hashF_one, hashF_one, ih h hh, List.length_cons]
    show _ = (h * 257 ^ (r.length + 1) + (257 * hashL r.reverse + 1 + b.toNat) % 2147483647) % 2147483647
    rw [Nat.add_mod_mod, Nat.pow_succ]
    have e : 257 * ((h * 257 ^ r.length + hashL r.reverse) % 2147483647) + 1 + b.toNat = 257 * ((h * 257 ^ r.length + hashL r.reverse) % 2147483647) + (1 + b.toNat) := by omega
    rw [e, Nat.add_mod, Nat.mul_mod_mod, ← Nat.add_mod]
    congr 1
    rw [Nat.mul_add, ← Nat.mul_assoc h, Nat.mul_comm 257 (h * 257 ^ r.length)]
    omega
/-- the sum of a text and another behind it -/
theorem hash_app (s t : List UInt8) : hashL (s ++ t) = joinN (hashL s) (hashL t) t.length := by
  rw [hashL, hashF_app]
  exact hashF_lin t _ (hash_lt s)
theorem join_lt (a b n : Nat) : joinN a b n < 2147483647 := Nat.mod_lt _ (by omega)
theorem join_assoc (a b c n m : Nat) : joinN (joinN a b n) c m = joinN a (joinN b c m) (n + m) := by
  unfold joinN
  rw [Nat.add_mod_mod]
  have h1 : (a * 257 ^ n + b) % 2147483647 * 257 ^ m % 2147483647 = (a * 257 ^ n + b) * 257 ^ m % 2147483647 := Nat.mod_mul_mod _ _ _
  rw [Nat.add_mod, h1, ← Nat.add_mod, Nat.add_mul, Nat.mul_assoc, ← Nat.pow_add, Nat.add_assoc]
/-- a power, in steps that are reduced -/
def powR : Nat → Nat
  | 0 => 1
  | n + 1 => powR n * 257 % 2147483647
theorem powR_is (n : Nat) : powR n = 257 ^ n % 2147483647 := by
  induction n with
  | zero => rfl
  | succ n ih => rw [powR, ih, Nat.mod_mul_mod, Nat.pow_succ]

/-- the places at which t stands in s -/
def findsL (s t : List UInt8) : List Nat := (List.range s.length).filter (fun i => t.isPrefixOf (s.drop i))
theorem finds_iff {s t : List UInt8} {i : Nat} : i ∈ findsL s t ↔ i < s.length ∧ t <+: s.drop i := by
  simp [findsL, List.isPrefixOf_iff_prefix]
theorem finds_within {s t : List UInt8} {i : Nat} (h : i ∈ findsL s t) : i + t.length ≤ s.length ∧ (s.drop i).take t.length = t := by
  obtain ⟨h1, h2⟩ := finds_iff.1 h
  have h3 := h2.length_le
  simp only [List.length_drop] at h3
  refine ⟨by omega, ?_⟩
  obtain ⟨r, hr⟩ := h2
  rw [← hr]; simp
theorem finds_sorted (s t : List UInt8) : (findsL s t).Pairwise (· < ·) := List.Pairwise.filter _ List.pairwise_lt_range
/-- where it was put it is found -/
theorem finds_put {s t : List UInt8} (ht : t ≠ []) {i : Nat} (hi : i ≤ s.length) : i ∈ findsL (s.take i ++ t ++ s.drop i) t := by
  have hp : 0 < t.length := List.length_pos_iff.2 ht
  refine finds_iff.2 ⟨by simp; omega, ?_⟩
  rw [List.append_assoc, List.drop_append_of_le_length (by simp; omega)]
  have : (s.take i).drop i = [] := List.drop_eq_nil_of_le (by simp; omega)
  rw [this]
  exact ⟨s.drop i, by simp⟩
/-- what is found in a text is found behind another -/
theorem finds_behind {s t a : List UInt8} {k : Nat} (h : k ∈ findsL s t) : a.length + k ∈ findsL (a ++ s) t := by
  obtain ⟨h1, h2⟩ := finds_iff.1 h
  refine finds_iff.2 ⟨by simp; omega, ?_⟩
  rw [List.drop_append, List.drop_eq_nil_of_le (show a.length ≤ a.length + k by omega), show a.length + k - a.length = k by omega]
  simpa using h2

end Go.Proofs.Ytbfabahdaacpfab
