/- Places as a text changes, on words: no program in it. -/
import Derived.Test.YtilcmbophfjjbabMeetW
namespace Go.Proofs.Ytilcmbophfjjbab
set_option linter.unusedSimpArgs false
set_option linter.unusedVariables false

/-- how many bytes of what a word makes are ahead of a place of its text; late: with what is put at this very place -/
def spotW : List Tok → Nat → Bool → Nat
  | [], _, _ => 0
  | ⟨.inr _⟩ :: w, 0, l => if l = true then spotW w 0 l + 1 else 0
  | ⟨.inr _⟩ :: w, n + 1, l => spotW w (n + 1) l + 1
  | ⟨.inl _⟩ :: _, 0, _ => 0
  | ⟨.inl true⟩ :: w, n + 1, l => spotW w n l + 1
  | ⟨.inl false⟩ :: w, n + 1, l => spotW w n l

theorem spot_zero (w : List Tok) : spotW w 0 false = 0 := by
  cases w with
  | nil => rfl
  | cons t w => cases t using Tok.by3 <;> simp [spotW]
theorem spot_end (w : List Tok) : spotW w (inW w) true = outW w := by
  induction w with
  | nil => rfl
  | cons t w ih =>
    cases t using Tok.by3 with
    | K => simp [spotW, inW, outW, ih]
    | X => simp [spotW, inW, outW, ih]
    | P c =>
      cases hn : inW w with
      | zero => rw [hn] at ih; simp [spotW, inW, outW, hn, ih]
      | succ n => rw [hn] at ih; simp [spotW, inW, outW, hn, ih]
theorem spot_late (w : List Tok) (n : Nat) : spotW w n false ≤ spotW w n true := by
  induction w generalizing n with
  | nil => simp [spotW]
  | cons t w ih =>
    cases n with
    | zero => rw [spot_zero]; omega
    | succ n =>
      cases t using Tok.by3 with
      | K => simpa [spotW] using ih n
      | X => simpa [spotW] using ih n
      | P c => simpa [spotW] using ih (n + 1)
/-- from one place to the next: a byte, if it is kept -/
def keptW : List Tok → Nat → Bool
  | [], _ => false
  | ⟨.inr _⟩ :: w, n => keptW w n
  | ⟨.inl b⟩ :: _, 0 => b
  | ⟨.inl _⟩ :: w, n + 1 => keptW w n
theorem spot_next (w : List Tok) (n : Nat) (h : n < inW w) : spotW w (n + 1) false = spotW w n true + (keptW w n).toNat := by
  induction w generalizing n with
  | nil => simp [inW] at h
  | cons t w ih =>
    cases t using Tok.by3 with
    | K =>
      cases n with
      | zero => simp [spotW, keptW, spot_zero]
      | succ n => have := ih n (by simpa [inW] using h); simp [spotW, keptW, this]; omega
    | X =>
      cases n with
      | zero => simp [spotW, keptW, spot_zero]
      | succ n => have := ih n (by simpa [inW] using h); simp [spotW, keptW, this]
    | P c =>
      have := ih n (by simpa [inW] using h)
      cases n with
      | zero => simp [spotW, keptW, this]; omega
      | succ n => simp [spotW, keptW, this]; omega
theorem spot_mono (w : List Tok) {i k : Nat} (h : i < k) (hk : k ≤ inW w) : spotW w i true ≤ spotW w k false := by
  induction k with
  | zero => omega
  | succ k ih =>
    have h1 := spot_next w k (by omega)
    rcases Nat.lt_or_ge i k with h2 | h2
    · have h3 := ih h2 (by omega)
      have h4 := spot_late w k
      omega
    · have : i = k := by omega
      subst this
      omega
theorem spot_le (w : List Tok) {k : Nat} (hk : k ≤ inW w) : spotW w k true ≤ outW w := by
  rcases Nat.lt_or_ge k (inW w) with h | h
  · have h1 := spot_mono w h (Nat.le_refl _)
    have h2 := spot_late w (inW w)
    rw [spot_end] at h2
    omega
  · have : k = inW w := by omega
    subst this
    rw [spot_end]
    omega
/-- a byte that is kept is where the pairs say -/
theorem spot_pair (w : List Tok) : ∀ (i0 k0 i j : Nat), (i, j) ∈ pairsW w i0 k0 → i0 ≤ i ∧ keptW w (i - i0) = true ∧ k0 + spotW w (i - i0) true = j := by
  induction w with
  | nil => intro i0 k0 i j h; simp [pairsW] at h
  | cons t w ih =>
    intro i0 k0 i j h
    cases t using Tok.by3 with
    | K =>
      simp only [pairsW, List.mem_cons, Prod.mk.injEq] at h
      rcases h with ⟨rfl, rfl⟩ | h
      · exact ⟨Nat.le_refl _, by simp [keptW], by simp [spotW]⟩
      · obtain ⟨h1, h2, h3⟩ := ih _ _ _ _ h
        obtain ⟨m, hm⟩ : ∃ m, i - i0 = m + 1 := ⟨i - i0 - 1, by omega⟩
        rw [show i - (i0 + 1) = m by omega] at h2 h3
        rw [hm]
        exact ⟨by omega, by simpa [keptW] using h2, by simp [spotW]; omega⟩
    | X =>
      obtain ⟨h1, h2, h3⟩ := ih _ _ _ _ h
      obtain ⟨m, hm⟩ : ∃ m, i - i0 = m + 1 := ⟨i - i0 - 1, by omega⟩
      rw [show i - (i0 + 1) = m by omega] at h2 h3
      rw [hm]
      exact ⟨by omega, by simpa [keptW] using h2, by simp [spotW]; omega⟩
    | P c =>
      obtain ⟨h1, h2, h3⟩ := ih _ _ _ _ h
      refine ⟨h1, by simpa [keptW] using h2, ?_⟩
      cases hm : i - i0 with
      | zero => rw [hm] at h3; simp [spotW]; omega
      | succ m => rw [hm] at h3; simp [spotW]; omega
theorem pair_of (w : List Tok) : ∀ (i0 k0 n : Nat), n < inW w → keptW w n = true → (i0 + n, k0 + spotW w n true) ∈ pairsW w i0 k0 := by
  induction w with
  | nil => intro i0 k0 n h; simp [inW] at h
  | cons t w ih =>
    intro i0 k0 n h hk
    cases t using Tok.by3 with
    | K =>
      cases n with
      | zero => simp [pairsW, spotW]
      | succ n =>
        have := ih (i0 + 1) (k0 + 1) n (by simpa [inW] using h) (by simpa [keptW] using hk)
        simp only [pairsW, spotW, List.mem_cons]
        right
        rw [show i0 + (n + 1) = i0 + 1 + n by omega, show k0 + (spotW w n true + 1) = k0 + 1 + spotW w n true by omega]
        exact this
    | X =>
      cases n with
      | zero => simp [keptW] at hk
      | succ n =>
        have := ih (i0 + 1) k0 n (by simpa [inW] using h) (by simpa [keptW] using hk)
        simp only [pairsW, spotW]
        rw [show i0 + (n + 1) = i0 + 1 + n by omega]
        exact this
    | P c =>
      have := ih i0 (k0 + 1) n (by simpa [inW] using h) (by simpa [keptW] using hk)
      cases n with
      | zero =>
        simp only [pairsW, spotW, if_true]
        rw [show k0 + (spotW w 0 true + 1) = k0 + 1 + spotW w 0 true by omega]
        exact this
      | succ n =>
        simp only [pairsW, spotW]
        rw [show k0 + (spotW w (n + 1) true + 1) = k0 + 1 + spotW w (n + 1) true by omega]
        exact this
/-- a byte that is kept is the byte that it was -/
theorem spot_byte (w : List Tok) : ∀ (s : List UInt8) (n : Nat), s.length = inW w → n < inW w → keptW w n = true → (doW w s)[spotW w n true]? = s[n]? := by
  induction w with
  | nil => intro s n _ h; simp [inW] at h
  | cons t w ih =>
    intro s n hs h hk
    cases t using Tok.by3 with
    | K =>
      cases s with
      | nil => simp [inW] at hs
      | cons d s =>
        cases n with
        | zero => simp [doW, spotW]
        | succ n => simpa [doW, spotW] using ih s n (by simpa [inW] using hs) (by simpa [inW] using h) (by simpa [keptW] using hk)
    | X =>
      cases s with
      | nil => simp [inW] at hs
      | cons d s =>
        cases n with
        | zero => simp [keptW] at hk
        | succ n => simpa [doW, spotW] using ih s n (by simpa [inW] using hs) (by simpa [inW] using h) (by simpa [keptW] using hk)
    | P c =>
      have := ih s n (by simpa [inW] using hs) (by simpa [inW] using h) (by simpa [keptW] using hk)
      cases n with
      | zero => simpa [doW, spotW] using this
      | succ n => simpa [doW, spotW] using this
/-- the way back: where a byte is kept, its place is told back -/
theorem spot_back {w v : List Tok} (h : ∀ i k, pairsW v k i = swapP (pairsW w i k)) {n : Nat} (hn : n < inW w) (hk : keptW w n = true) : spotW v (spotW w n true) true = n := by
  have h1 := pair_of w 0 0 n hn hk
  have h2 : (spotW w n true, n) ∈ pairsW v 0 0 := by
    rw [h 0 0]
    simp only [swapP, List.mem_map]
    exact ⟨_, h1, by simp⟩
  obtain ⟨_, _, h5⟩ := spot_pair v 0 0 _ _ h2
  simpa using h5

end Go.Proofs.Ytilcmbophfjjbab
