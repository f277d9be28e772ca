/- When bytes are a number as it is put: no program in it. -/
import Derived.Test.YtkihanmodfnpcabNumL
namespace Go.Proofs.Ytkihanmodfnpcab
set_option linter.unusedSimpArgs false
set_option linter.unusedVariables false

theorem val_snoc (l : List UInt8) (b : UInt8) : valL (l ++ [b]) = valL l + 128 ^ l.length * (b.toNat % 128) := by
  induction l with
  | nil => simp [valL]
  | cons x r ih => rw [List.cons_append, valL, ih, valL, List.length_cons, Nat.pow_succ, Nat.mul_add, Nat.mul_comm (128 ^ r.length) 128, ← Nat.mul_assoc, Nat.add_assoc]
theorem val_lt (l : List UInt8) : valL l < 128 ^ l.length := by
  induction l with
  | nil => simp [valL]
  | cons x r ih =>
    rw [valL, List.length_cons, Nat.pow_succ]
    have : x.toNat % 128 < 128 := Nat.mod_lt _ (by omega)
    omega
theorem num_last {n : Nat} {r : List UInt8} {b : UInt8} (h : numL n = r ++ [b]) (hr : r ≠ []) : b.toNat ≠ 0 := by
  induction n using Nat.strongRecOn generalizing r with
  | _ n ih =>
    cases r with
    | nil => exact absurd rfl hr
    | cons y r =>
      by_cases h1 : n < 128
      · rw [num_small h1] at h
        simp at h
      · rw [num_more h1, List.cons_append] at h
        have h2 := (List.cons.inj h).2
        by_cases hr' : r = []
        · subst hr'
          intro h0
          have h3 := congrArg valL h2
          rw [num_val] at h3
          simp [valL, h0] at h3
          omega
        · exact ih (n / 128) (by omega) h2 hr'
theorem num_of {r : List UInt8} {b : UInt8} (hr : ∀ x ∈ r, bigB x = true) (hb : bigB b = false) (h0 : r = [] ∨ b.toNat ≠ 0) : numL (valL (r ++ [b])) = r ++ [b] := by
  have hb' : b.toNat < 128 := by simpa [bigB] using hb
  induction r with
  | nil =>
    rw [List.nil_append, valL, valL, num_small (by omega), Nat.mul_zero, Nat.add_zero, Nat.mod_eq_of_lt hb']
    simp
  | cons x r ih =>
    have hx : 128 ≤ x.toNat := by simpa [bigB] using hr x (by simp)
    have hx2 := UInt8.toNat_lt x
    have hn : b.toNat ≠ 0 := by
      rcases h0 with h | h
      · simp at h
      · exact h
    have hv : 0 < valL (r ++ [b]) := by
      rw [val_snoc]
      have h1 : 0 < 128 ^ r.length := Nat.pow_pos (by omega)
      have h2 : 0 < b.toNat % 128 := by omega
      have := Nat.mul_pos h1 h2
      omega
    have ih := ih (fun y hy => hr y (List.mem_cons_of_mem _ hy)) (.inr hn)
    rw [List.cons_append, valL, num_more (by omega)]
    have e1 : (x.toNat % 128 + 128 * valL (r ++ [b])) / 128 = valL (r ++ [b]) := by omega
    have e2 : 128 + (x.toNat % 128 + 128 * valL (r ++ [b])) % 128 = x.toNat := by omega
    rw [e1, e2, ih]
    simp

/-- the number, and how many bytes it has -/
def getN (s : List UInt8) : Nat := if getE s = 0 then valL (s.take (runN s + 1)) else 0
def getK (s : List UInt8) : Nat := if getE s = 0 then runN s + 1 else 0
theorem get_bad {s : List UInt8} (h : getE s ≠ 0) : getN s = 0 ∧ getK s = 0 := by simp [getN, getK, h]
theorem get_good {s : List UInt8} (h : getE s = 0) : getN s = valL (s.take (runN s + 1)) ∧ getK s = runN s + 1 := by simp [getN, getK, h]
theorem take_snoc8 {l : List UInt8} {i : Nat} {c : UInt8} (h : l[i]? = some c) : l.take (i + 1) = l.take i ++ [c] := by
  rw [List.take_add_one, h]; rfl
theorem drop_cons8 {l : List UInt8} {i : Nat} {c : UInt8} (h : l[i]? = some c) : l.drop i = c :: l.drop (i + 1) := by
  obtain ⟨hi, rfl⟩ := List.getElem?_eq_some_iff.1 h
  exact List.drop_eq_getElem_cons hi
theorem run_here {s : List UInt8} {i : Nat} {c : UInt8} (h : s[i]? = some c) (ha : ∀ x ∈ s.take i, bigB x = true) (hc : bigB c = false) : runN s = i := by
  have h1 := run_stop (more := s.drop (i + 1)) ha hc
  rw [← drop_cons8 h, List.take_append_drop] at h1
  have hi := (List.getElem?_eq_some_iff.1 h).1
  rw [h1, List.length_take]; omega
theorem run_ge {s : List UInt8} {i : Nat} (hi : i ≤ s.length) (ha : ∀ x ∈ s.take i, bigB x = true) : i ≤ runN s := by
  have h2 : ((s.take i ++ s.drop i).takeWhile bigB).length ≥ (s.take i).length := by
    rw [List.takeWhile_append_of_pos ha]; simp
  rw [List.take_append_drop, List.length_take] at h2
  unfold runN; omega
/-- a byte below 128 at place i, none ahead -/
theorem get_stop {s : List UInt8} {i : Nat} {c : UInt8} (h : s[i]? = some c) (hi : i < 5) (ha : ∀ x ∈ s.take i, bigB x = true) (hc : bigB c = false) :
    ((i > 0 ∧ c.toNat = 0) ∨ 2147483647 < valL (s.take (i + 1)) → getE s = 3) ∧ (¬ ((i > 0 ∧ c.toNat = 0) ∨ 2147483647 < valL (s.take (i + 1))) → getE s = 0 ∧ getN s = valL (s.take (i + 1)) ∧ getK s = i + 1) := by
  have hr := run_here h ha hc
  have hil := (List.getElem?_eq_some_iff.1 h).1
  have e : getE s = if valL (s.take (i + 1)) ≤ 2147483647 ∧ numL (valL (s.take (i + 1))) = s.take (i + 1) then 0 else 3 := by
    rw [getE, hr, if_neg (by omega), if_neg (by omega)]
  have et := take_snoc8 h
  have hlen : (s.take i).length = i := by simp; omega
  constructor
  · intro hbad
    rw [e, if_neg]
    rintro ⟨h1, h2⟩
    rcases hbad with ⟨h3, h4⟩ | h3
    · rw [et] at h2
      exact num_last h2 (by intro h5; rw [h5] at hlen; simp at hlen; omega) h4
    · omega
  · intro hok
    have h3 : valL (s.take (i + 1)) ≤ 2147483647 := by omega
    have h4 : numL (valL (s.take (i + 1))) = s.take (i + 1) := by
      rw [et]
      refine num_of ha hc ?_
      by_cases h5 : i = 0
      · left; subst h5; simp
      · right; intro h6; exact hok (.inl ⟨by omega, h6⟩)
    have h0 : getE s = 0 := by rw [e, if_pos ⟨h3, h4⟩]
    obtain ⟨g1, g2⟩ := get_good h0
    rw [hr] at g1 g2
    exact ⟨h0, g1, g2⟩
theorem get_long {s : List UInt8} (hl : 5 ≤ s.length) (ha : ∀ x ∈ s.take 5, bigB x = true) : getE s = 3 := by
  rw [getE, if_pos (run_ge hl ha)]
theorem get_short {s : List UInt8} (hl : s.length < 5) (ha : ∀ x ∈ s.take s.length, bigB x = true) : getE s = 5 := by
  have h := run_ge (Nat.le_refl _) ha
  have h2 := run_le s
  rw [getE, if_neg (by omega), if_pos (by omega)]
theorem all_snoc {s : List UInt8} {i : Nat} {c : UInt8} (h : s[i]? = some c) (ha : ∀ x ∈ s.take i, bigB x = true) (hc : bigB c = true) : ∀ x ∈ s.take (i + 1), bigB x = true := by
  rw [take_snoc8 h]
  intro x hx
  rcases List.mem_append.1 hx with hx | hx
  · exact ha x hx
  · simp at hx; subst hx; exact hc
theorem get_cases (s : List UInt8) : getE s = 0 ∨ getE s = 3 ∨ getE s = 5 := by
  unfold getE
  repeat' split
  all_goals simp
end Go.Proofs.Ytkihanmodfnpcab
