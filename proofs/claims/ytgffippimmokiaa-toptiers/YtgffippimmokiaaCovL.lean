/- Blocks of two, four, eight revisions, one behind the other: no program in it. -/
import Derived.Test.YtgffippimmokiaaPure
namespace Go.Proofs.Ytgffippimmokiaa
set_option linter.unusedSimpArgs false
set_option linter.unusedVariables false

/-- the first block of a level that does not begin ahead of i -/
def upTo (i v : Nat) : Nat := (i + 2 ^ v - 1) / 2 ^ v
/-- the greatest level that has a block within -/
def lvlOf (i k : Nat) : Option Nat := [6, 5, 4, 3, 2, 1, 0].find? (fun v => decide ((upTo i v + 1) * 2 ^ v ≤ k))
def covF : Nat → Nat → Nat → List (Nat × Nat)
  | 0, _, _ => []
  | f + 1, i, k => match lvlOf i k with
    | none => []
    | some v => covF f i (upTo i v * 2 ^ v) ++ (v, upTo i v) :: covF f ((upTo i v + 1) * 2 ^ v) k
def covL (i k : Nat) : List (Nat × Nat) := covF 64 i k
theorem up_ge (i v : Nat) : i ≤ upTo i v * 2 ^ v := by
  have hp : 0 < 2 ^ v := Nat.two_pow_pos v
  have h1 := Nat.div_add_mod (i + 2 ^ v - 1) (2 ^ v)
  have h2 := Nat.mod_lt (i + 2 ^ v - 1) hp
  have h3 : upTo i v * 2 ^ v = 2 ^ v * ((i + 2 ^ v - 1) / 2 ^ v) := Nat.mul_comm _ _
  omega
theorem up_next (b v : Nat) : (b + 1) * 2 ^ v = b * 2 ^ v + 2 ^ v := by rw [Nat.add_mul, Nat.one_mul]
theorem lvl_some {i k v : Nat} (h : lvlOf i k = some v) : v ≤ 6 ∧ (upTo i v + 1) * 2 ^ v ≤ k := by
  have h1 := List.find?_some h
  have h2 := List.mem_of_find?_eq_some h
  refine ⟨?_, by simpa using h1⟩
  simp only [List.mem_cons, List.not_mem_nil, or_false] at h2
  omega
theorem lvl_none {i k : Nat} (h : lvlOf i k = none) : k ≤ i := by
  have h1 := List.find?_eq_none.1 h 0 (by simp)
  have h2 : ¬ (upTo i 0 + 1) * 2 ^ 0 ≤ k := by simpa using h1
  have h3 : upTo i 0 = i := by simp [upTo]
  rw [h3] at h2
  omega
theorem lvl_in {i k v : Nat} (h : lvlOf i k = some v) : i ≤ upTo i v * 2 ^ v ∧ upTo i v * 2 ^ v < (upTo i v + 1) * 2 ^ v ∧ (upTo i v + 1) * 2 ^ v ≤ k := by
  have hp : 0 < 2 ^ v := Nat.two_pow_pos v
  have := up_next (upTo i v) v
  exact ⟨up_ge i v, by omega, (lvl_some h).2⟩
/-- steps enough -/
theorem cov_more : ∀ (f g i k : Nat), k - i ≤ f → k - i ≤ g → covF f i k = covF g i k := by
  intro f
  induction f with
  | zero =>
    intro g i k hf hg
    cases g with
    | zero => rfl
    | succ g =>
      rw [covF, covF]
      cases h : lvlOf i k with
      | none => rfl
      | some v => have := lvl_in h; omega
  | succ f ih =>
    intro g i k hf hg
    cases g with
    | zero =>
      rw [covF, covF]
      cases h : lvlOf i k with
      | none => rfl
      | some v => have := lvl_in h; omega
    | succ g =>
      rw [covF, covF]
      cases h : lvlOf i k with
      | none => rfl
      | some v =>
        obtain ⟨h1, h2, h3⟩ := lvl_in h
        simp only
        rw [ih g i _ (by omega) (by omega), ih g _ k (by omega) (by omega)]
/-- blocks one behind the other, from i to k -/
def Tiles (i k : Nat) : List (Nat × Nat) → Prop
  | [] => i = k
  | x :: r => x.1 ≤ 6 ∧ x.2 * 2 ^ x.1 = i ∧ (x.2 + 1) * 2 ^ x.1 ≤ k ∧ Tiles ((x.2 + 1) * 2 ^ x.1) k r
theorem tiles_le {xs : List (Nat × Nat)} : ∀ {i k : Nat}, Tiles i k xs → i ≤ k := by
  induction xs with
  | nil => intro i k h; exact Nat.le_of_eq h
  | cons x r ih =>
    intro i k h
    obtain ⟨_, h2, h3, _⟩ := h
    have hp : 0 < 2 ^ x.1 := Nat.two_pow_pos _
    have := up_next x.2 x.1
    omega
theorem tiles_app {xs : List (Nat × Nat)} : ∀ {i j k : Nat} {ys : List (Nat × Nat)}, Tiles i j xs → Tiles j k ys → Tiles i k (xs ++ ys) := by
  induction xs with
  | nil => intro i j k ys h1 h2; obtain rfl : i = j := h1; exact h2
  | cons x r ih =>
    intro i j k ys h1 h2
    obtain ⟨a, b, c, d⟩ := h1
    exact ⟨a, b, Nat.le_trans c (tiles_le h2), ih d h2⟩
theorem cov_tiles : ∀ (f i k : Nat), i ≤ k → k - i ≤ f → Tiles i k (covF f i k) := by
  intro f
  induction f with
  | zero => intro i k h1 h2; show i = k; omega
  | succ f ih =>
    intro i k h1 h2
    rw [covF]
    cases h : lvlOf i k with
    | none => have := lvl_none h; show i = k; omega
    | some v =>
      obtain ⟨a, b, c⟩ := lvl_in h
      exact tiles_app (ih i _ a (by omega)) ⟨(lvl_some h).1, rfl, c, ih ((upTo i v + 1) * 2 ^ v) k c (by omega)⟩
theorem cov_is {i k : Nat} (h1 : i ≤ k) (h2 : k ≤ 64) : Tiles i k (covL i k) := cov_tiles 64 i k h1 (by omega)
end Go.Proofs.Ytgffippimmokiaa
