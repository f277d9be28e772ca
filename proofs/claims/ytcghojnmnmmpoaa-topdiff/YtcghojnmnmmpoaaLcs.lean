/- What two texts have in common, in order, at most; and what a word costs: no program in it. -/
import Derived.Test.YtcghojnmnmmpoaaCompL
namespace Go.Proofs.Ytcghojnmnmmpoaa
set_option linter.unusedSimpArgs false
set_option linter.unusedVariables false

def lcs : List UInt8 → List UInt8 → Nat
  | [], _ => 0
  | _ :: _, [] => 0
  | a :: s, b :: t => if a = b then lcs s t + 1 else max (lcs s (b :: t)) (lcs (a :: s) t)
  termination_by s t => s.length + t.length
theorem lcs_nil (s : List UInt8) : lcs s [] = 0 := by cases s <;> simp [lcs]
theorem lcs_nilL (t : List UInt8) : lcs [] t = 0 := by simp [lcs]
theorem lcs_eq (a : UInt8) (s t : List UInt8) : lcs (a :: s) (a :: t) = lcs s t + 1 := by simp [lcs]
theorem lcs_ne {a b : UInt8} (h : a ≠ b) (s t : List UInt8) : lcs (a :: s) (b :: t) = max (lcs s (b :: t)) (lcs (a :: s) t) := by simp [lcs, h]
/-- there is a row of bytes that both have, so long -/
theorem lcs_has (s t : List UInt8) : ∃ c : List UInt8, c.Sublist s ∧ c.Sublist t ∧ c.length = lcs s t := by
  suffices H : ∀ n (s t : List UInt8), s.length + t.length ≤ n → ∃ c : List UInt8, c.Sublist s ∧ c.Sublist t ∧ c.length = lcs s t from H _ s t (Nat.le_refl _)
  intro n
  induction n with
  | zero =>
    intro s t h
    have h1 : s = [] := List.length_eq_zero_iff.1 (by omega)
    subst h1
    exact ⟨[], List.nil_sublist _, List.nil_sublist _, by simp [lcs]⟩
  | succ n ih =>
    intro s t h
    match s, t, h with
    | [], t, _ => exact ⟨[], List.nil_sublist _, List.nil_sublist _, by simp [lcs]⟩
    | a :: s, [], _ => exact ⟨[], List.nil_sublist _, List.nil_sublist _, by simp [lcs]⟩
    | a :: s, b :: t, h =>
      simp only [List.length_cons] at h
      by_cases e : a = b
      · subst e
        obtain ⟨c, h1, h2, h3⟩ := ih s t (by omega)
        exact ⟨a :: c, h1.cons_cons a, h2.cons_cons a, by rw [lcs_eq, List.length_cons, h3]⟩
      · rw [lcs_ne e]
        obtain ⟨c1, k1, k2, k3⟩ := ih s (b :: t) (by simp; omega)
        obtain ⟨c2, m1, m2, m3⟩ := ih (a :: s) t (by simp; omega)
        rcases Nat.le_total (lcs s (b :: t)) (lcs (a :: s) t) with hl | hl
        · exact ⟨c2, m1, m2.cons b, by omega⟩
        · exact ⟨c1, k1.cons a, k2, by omega⟩
/-- and none that is longer -/
theorem lcs_best {c s t : List UInt8} (h1 : c.Sublist s) (h2 : c.Sublist t) : c.length ≤ lcs s t := by
  suffices H : ∀ n (c s t : List UInt8), s.length + t.length ≤ n → c.Sublist s → c.Sublist t → c.length ≤ lcs s t from H _ c s t (Nat.le_refl _) h1 h2
  clear h1 h2 c s t
  intro n
  induction n with
  | zero =>
    intro c s t h h1 h2
    have := h1.length_le
    omega
  | succ n ih =>
    intro c s t h h1 h2
    match s, t, h, h1, h2 with
    | [], t, _, h1, _ => have := h1.length_le; simp only [List.length_nil] at this; omega
    | a :: s, [], _, _, h2 => have := h2.length_le; simp only [List.length_nil] at this; omega
    | a :: s, b :: t, h, h1, h2 =>
      simp only [List.length_cons] at h
      by_cases e : a = b
      · subst e
        rw [lcs_eq]
        cases c with
        | nil => simp
        | cons x c =>
          have k1 : c.Sublist s := by
            cases h1 with
            | cons _ h => exact (List.sublist_cons_self x c).trans h
            | cons_cons _ h => exact h
          have k2 : c.Sublist t := by
            cases h2 with
            | cons _ h => exact (List.sublist_cons_self x c).trans h
            | cons_cons _ h => exact h
          have := ih c s t (by omega) k1 k2
          simp only [List.length_cons]; omega
      · rw [lcs_ne e]
        cases h1 with
        | cons _ h1 => have := ih c s (b :: t) (by simp; omega) h1 h2; omega
        | cons_cons _ h1 =>
          cases h2 with
          | cons _ h2 => have := ih _ (a :: s) t (by simp; omega) (h1.cons_cons a) h2; omega
          | cons_cons _ h2 => exact absurd rfl e
theorem lcs_comm (s t : List UInt8) : lcs s t = lcs t s := by
  obtain ⟨c, h1, h2, h3⟩ := lcs_has s t
  obtain ⟨d, k1, k2, k3⟩ := lcs_has t s
  have := lcs_best h2 h1
  have := lcs_best k2 k1
  omega
theorem lcs_self (s : List UInt8) : lcs s s = s.length := by
  induction s with
  | nil => simp [lcs]
  | cons a s ih => rw [lcs_eq, ih, List.length_cons]
theorem lcs_leL (s t : List UInt8) : lcs s t ≤ s.length := by
  obtain ⟨c, h1, _, h3⟩ := lcs_has s t
  have := h1.length_le; omega
theorem lcs_leR (s t : List UInt8) : lcs s t ≤ t.length := by
  obtain ⟨c, _, h2, h3⟩ := lcs_has s t
  have := h2.length_le; omega
theorem lcs_full {s t : List UInt8} (h1 : lcs s t = s.length) (h2 : lcs s t = t.length) : s = t := by
  obtain ⟨c, k1, k2, k3⟩ := lcs_has s t
  rw [← k1.eq_of_length (by omega), ← k2.eq_of_length (by omega)]
theorem lcs_rev (s t : List UInt8) : lcs s.reverse t.reverse = lcs s t := by
  obtain ⟨c, h1, h2, h3⟩ := lcs_has s t
  obtain ⟨d, k1, k2, k3⟩ := lcs_has s.reverse t.reverse
  have a1 := lcs_best h1.reverse h2.reverse
  have a2 := lcs_best (c := d.reverse) (s := s) (t := t) (by simpa using k1.reverse) (by simpa using k2.reverse)
  simp only [List.length_reverse] at a1 a2
  omega
theorem lcs_ahead (x s t : List UInt8) : lcs (x ++ s) (x ++ t) = x.length + lcs s t := by
  induction x with
  | nil => simp
  | cons a x ih => simp only [List.cons_append, lcs_eq, ih, List.length_cons]; omega
theorem lcs_behind (s t y : List UInt8) : lcs (s ++ y) (t ++ y) = lcs s t + y.length := by
  rw [← lcs_rev, List.reverse_append, List.reverse_append, lcs_ahead, lcs_rev, List.length_reverse]; omega
theorem lcs_both (x s t y : List UInt8) : lcs (x ++ s ++ y) (x ++ t ++ y) = x.length + lcs s t + y.length := by
  rw [lcs_behind, lcs_ahead]
/-- two rows of one text have as much in common as they must -/
theorem sub_meet {c d t : List UInt8} (h1 : c.Sublist t) (h2 : d.Sublist t) : ∃ m : List UInt8, m.Sublist c ∧ m.Sublist d ∧ c.length + d.length ≤ m.length + t.length := by
  induction t generalizing c d with
  | nil =>
    have k1 := h1.length_le
    have k2 := h2.length_le
    simp only [List.length_nil] at k1 k2
    exact ⟨[], List.nil_sublist _, List.nil_sublist _, by simp only [List.length_nil]; omega⟩
  | cons a t ih =>
    cases h1 with
    | cons _ h1 =>
      cases h2 with
      | cons _ h2 =>
        obtain ⟨m, k1, k2, k3⟩ := ih h1 h2
        exact ⟨m, k1, k2, by simp; omega⟩
      | cons_cons _ h2 =>
        obtain ⟨m, k1, k2, k3⟩ := ih h1 h2
        exact ⟨m, k1, k2.cons a, by simp; omega⟩
    | cons_cons _ h1 =>
      cases h2 with
      | cons _ h2 =>
        obtain ⟨m, k1, k2, k3⟩ := ih h1 h2
        exact ⟨m, k1.cons a, k2, by simp; omega⟩
      | cons_cons _ h2 =>
        obtain ⟨m, k1, k2, k3⟩ := ih h1 h2
        exact ⟨a :: m, k1.cons_cons a, k2.cons_cons a, by simp; omega⟩
theorem lcs_third (s t u : List UInt8) : lcs s t + lcs t u ≤ lcs s u + t.length := by
  obtain ⟨c, h1, h2, h3⟩ := lcs_has s t
  obtain ⟨d, k1, k2, k3⟩ := lcs_has t u
  obtain ⟨m, m1, m2, m3⟩ := sub_meet h2 k1
  have := lcs_best (m1.trans h1) (m2.trans k2)
  omega

/-- by beginnings, as rows are reckoned: with a byte more on each side -/
theorem lcs_snoc_eq (s t : List UInt8) (a : UInt8) : lcs (s ++ [a]) (t ++ [a]) = lcs s t + 1 := lcs_behind s t [a]
theorem lcs_snoc_ne {a b : UInt8} (h : a ≠ b) (s t : List UInt8) : lcs (s ++ [a]) (t ++ [b]) = max (lcs s (t ++ [b])) (lcs (s ++ [a]) t) := by
  have e1 : lcs (s ++ [a]) (t ++ [b]) = lcs (a :: s.reverse) (b :: t.reverse) := by rw [← lcs_rev]; simp
  have e2 : lcs s (t ++ [b]) = lcs s.reverse (b :: t.reverse) := by rw [← lcs_rev s (t ++ [b])]; simp
  have e3 : lcs (s ++ [a]) t = lcs (a :: s.reverse) t.reverse := by rw [← lcs_rev (s ++ [a]) t]; simp
  rw [e1, e2, e3, lcs_ne h]

/-- what a word costs: what it puts and cuts -/
def costW : List Tok → Nat
  | [] => 0
  | ⟨.inl true⟩ :: w => costW w
  | _ :: w => costW w + 1
/-- the bytes that are kept -/
def keptB : List Tok → List UInt8 → List UInt8
  | [], _ => []
  | ⟨.inl true⟩ :: w, c :: s => c :: keptB w s
  | ⟨.inl true⟩ :: _, [] => []
  | ⟨.inl false⟩ :: w, s => keptB w s.tail
  | ⟨.inr _⟩ :: w, s => keptB w s
theorem kept_facts (w : List Tok) : ∀ s : List UInt8, s.length = inW w → (keptB w s).Sublist s ∧ (keptB w s).Sublist (doW w s) ∧ costW w + 2 * (keptB w s).length = s.length + outW w := by
  induction w with
  | nil => intro s h; exact ⟨List.nil_sublist _, List.nil_sublist _, by simp only [inW] at h; simp only [keptB, costW, outW, List.length_nil]; omega⟩
  | cons t w ih =>
    intro s h
    cases t using Tok.by3 with
    | K =>
      cases s with
      | nil => simp [inW] at h
      | cons c s =>
        obtain ⟨h1, h2, h3⟩ := ih s (by simpa [inW] using h)
        refine ⟨by simpa [keptB] using h1.cons_cons c, by simpa [keptB, doW] using h2.cons_cons c, ?_⟩
        simp only [keptB, costW, outW, List.length_cons]; omega
    | X =>
      cases s with
      | nil => simp [inW] at h
      | cons c s =>
        obtain ⟨h1, h2, h3⟩ := ih s (by simpa [inW] using h)
        refine ⟨by simpa [keptB] using h1.cons c, by simpa [keptB, doW] using h2, ?_⟩
        simp only [keptB, costW, outW, List.length_cons, List.tail_cons]; omega
    | P c =>
      obtain ⟨h1, h2, h3⟩ := ih s (by simpa [inW] using h)
      refine ⟨by simpa [keptB] using h1, by simpa [keptB, doW] using h2.cons c, ?_⟩
      simp only [keptB, costW, outW]; omega
/-- no word that makes t of s costs less than what they have not in common -/
theorem cost_least {w : List Tok} {s : List UInt8} (h : s.length = inW w) : s.length + (doW w s).length ≤ costW w + 2 * lcs s (doW w s) := by
  obtain ⟨h1, h2, h3⟩ := kept_facts w s h
  have h4 := lcs_best h1 h2
  have h5 := doW_len w s h
  omega
theorem costW_app (a b : List Tok) : costW (a ++ b) = costW a + costW b := by
  induction a with
  | nil => simp [costW]
  | cons t a ih => cases t using Tok.by3 <;> simp [costW, ih] <;> omega
theorem costW_K (n : Nat) : costW (List.replicate n .K) = 0 := by
  induction n with
  | zero => rfl
  | succ n ih => simpa [List.replicate_succ, costW] using ih
theorem costW_X (n : Nat) : costW (List.replicate n .X) = n := by
  induction n with
  | zero => rfl
  | succ n ih => simp [List.replicate_succ, costW, ih]
theorem costW_P (t : List UInt8) : costW (t.map .P) = t.length := by
  induction t with
  | nil => rfl
  | cons c t ih => simp [costW, ih]
/-- what a delta costs -/
def costI : List Pt → Nat
  | [] => 0
  | p :: r => (if p.k = 1 then 0 else p.n.toNat + p.t.size) + costI r
theorem costI_app (a b : List Pt) : costI (a ++ b) = costI a + costI b := by
  induction a with
  | nil => simp [costI]
  | cons p r ih => simp only [List.cons_append, costI, ih]; omega
theorem cost_word {l : List Pt} (h : Good l) : costI l = costW (wordL l) := by
  induction l with
  | nil => rfl
  | cons p r ih =>
    obtain ⟨hk, hn, h2, h3⟩ := h p (by simp)
    have hl : p.t.data.toList.length = p.t.size := Array.length_toList
    rw [costI, ih h.tail, wordL_cons, costW_app, wordP]
    rcases hk with k | k | k
    · rw [if_pos k, if_pos k, costW_K]
    · rw [if_neg (by omega), if_neg (by omega), if_pos k, costW_P, h2 k, hl]; simp
    · rw [if_neg (by omega), if_neg (by omega), if_neg (by omega), costW_X, h3 (by omega)]; simp
/-- words that do the same cost the same -/
theorem cost_sem {a b : List Tok} (h : Sem a b) : costW a = costW b := by
  have key : ∀ w : List Tok, ∀ i k, costW w + 2 * (pairsW w i k).length = inW w + outW w := by
    intro w
    induction w with
    | nil => intro i k; rfl
    | cons t w ih =>
      intro i k
      cases t using Tok.by3 with
      | K => have := ih (i + 1) (k + 1); simp only [costW, pairsW, inW, outW, List.length_cons]; omega
      | X => have := ih (i + 1) k; simp only [costW, pairsW, inW, outW]; omega
      | P c => have := ih i (k + 1); simp only [costW, pairsW, inW, outW]; omega
  have h1 := key a 0 0
  have h2 := key b 0 0
  rw [h.prs 0 0, h.ins, h.outs] at h1
  omega

end Go.Proofs.Ytcghojnmnmmpoaa
