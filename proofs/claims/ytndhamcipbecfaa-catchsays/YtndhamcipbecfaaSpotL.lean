/- A place as a text changes, part by part, as package spot reckons it: no program in it. -/
import Derived.Test.YtndhamcipbecfaaMeetL
namespace Go.Proofs.Ytndhamcipbecfaa
set_option linter.unusedSimpArgs false
set_option linter.unusedVariables false

/-- what a part adds, m bytes ahead of the place -/
def spotA (p : Pt) (m : Int) (late : Bool) : Int := if p.k = 1 then max 0 (min p.n m) else if p.k = 2 then (if 0 < m ∨ late = true ∧ m = 0 then (p.t.size : Int) else 0) else 0
def spotI : List Pt → Int → Bool → Int
  | [], _, _ => 0
  | p :: r, m, late => spotA p m late + spotI r (m - p.n) late
theorem spotI_neg {l : List Pt} (h : Good l) {m : Int} (hm : m < 0) (late : Bool) : spotI l m late = 0 := by
  induction l generalizing m with
  | nil => rfl
  | cons p r ih =>
    have hp := h p (by simp)
    rw [spotI, ih h.tail (by omega)]
    unfold spotA
    split
    · omega
    · split
      · rw [if_neg (by omega)]; rfl
      · rfl
theorem spotW_K (n : Nat) (w : List Tok) (m : Nat) (late : Bool) : spotW (List.replicate n .K ++ w) m late = if m < n then m else n + spotW w (m - n) late := by
  induction n generalizing m with
  | zero => simp
  | succ n ih =>
    cases m with
    | zero => simp [List.replicate_succ, spotW]
    | succ m =>
      simp only [List.replicate_succ, List.cons_append, spotW, ih]
      by_cases h : m < n
      · rw [if_pos h, if_pos (by omega)]
      · rw [if_neg h, if_neg (by omega), show m + 1 - (n + 1) = m - n by omega]; omega
theorem spotW_X (n : Nat) (w : List Tok) (m : Nat) (late : Bool) : spotW (List.replicate n .X ++ w) m late = if m < n then 0 else spotW w (m - n) late := by
  induction n generalizing m with
  | zero => simp
  | succ n ih =>
    cases m with
    | zero => simp [List.replicate_succ, spotW]
    | succ m =>
      simp only [List.replicate_succ, List.cons_append, spotW, ih]
      by_cases h : m < n
      · rw [if_pos h, if_pos (by omega)]
      · rw [if_neg h, if_neg (by omega), show m + 1 - (n + 1) = m - n by omega]
theorem spotI_word {l : List Pt} (h : Good l) (m : Nat) (late : Bool) : spotI l (m : Int) late = spotW (wordL l) m late := by
  induction l generalizing m with
  | nil => simp [spotI, wordL, spotW]
  | cons p r ih =>
    obtain ⟨hk, hn, h2, h3⟩ := h p (by simp)
    have htl : p.t.data.toList.length = p.t.size := Array.length_toList
    rw [spotI, wordL_cons, wordP]
    rcases hk with k | k | k
    · rw [if_pos k, spotW_K]
      have e : spotA p (m : Int) late = max 0 (min p.n m) := by rw [spotA, if_pos k]
      rw [e]
      by_cases hlt : m < p.n.toNat
      · rw [if_pos hlt, spotI_neg h.tail (by omega)]; omega
      · rw [if_neg hlt, show (m : Int) - p.n = ((m - p.n.toNat : Nat) : Int) by omega, ih h.tail]; omega
    · rw [if_neg (by omega), if_pos k, spot_puts]
      have e : spotA p (m : Int) late = if 0 < (m : Int) ∨ late = true ∧ (m : Int) = 0 then (p.t.size : Int) else 0 := by rw [spotA, if_neg (by omega), if_pos k]
      rw [e, h2 k, Int.sub_zero, ih h.tail, htl]
      by_cases hm : m = 0 ∧ late = false
      · obtain ⟨rfl, rfl⟩ := hm
        simp [spot_zero]
      · have hc : 0 < (m : Int) ∨ late = true ∧ (m : Int) = 0 := by
          cases late
          · left; simp at hm; omega
          · rcases Nat.eq_zero_or_pos m with h0 | h0
            · right; exact ⟨rfl, by omega⟩
            · left; omega
        rw [if_neg hm, if_pos hc]
        omega
    · rw [if_neg (by omega), if_neg (by omega), spotW_X]
      have e : spotA p (m : Int) late = 0 := by rw [spotA, if_neg (by omega), if_neg (by omega)]
      rw [e]
      by_cases hlt : m < p.n.toNat
      · rw [if_pos hlt, spotI_neg h.tail (by omega)]; rfl
      · rw [if_neg hlt, show (m : Int) - p.n = ((m - p.n.toNat : Nat) : Int) by omega, ih h.tail]; omega
theorem spotA_bd {p : Pt} (h : 0 ≤ p.n ∧ p.n ≤ 500 ∧ p.t.size ≤ 500) (m : Int) (late : Bool) : 0 ≤ spotA p m late ∧ spotA p m late ≤ 500 := by
  unfold spotA
  split
  · omega
  · split
    · split <;> omega
    · omega

theorem int_wide {n : Int} (h : (Lit.int .i64 n).wf = true) : -9223372036854775808 ≤ n ∧ n ≤ 9223372036854775807 := by
  simp only [Lit.wf, Bool.and_eq_true, decide_eq_true_eq] at h
  exact h
/-- what Of tells -/
def spotE (d : List Pt) (at_ : Int) : Int := if sizesE d = 0 then (if at_ < 0 ∨ inI d < at_ then 1 else 0) else sizesE d
def spotR (d : List Pt) (at_ : Int) (late : Bool) : Int := if spotE d at_ = 0 then (spotW (wordL d) at_.toNat late : Int) else 0
theorem spotE_ok {d : List Pt} {at_ : Int} (h : sizesE d = 0) (h0 : 0 ≤ at_) (h1 : at_ ≤ inI d) : spotE d at_ = 0 := by rw [spotE, if_pos h, if_neg (by omega)]
theorem spotE_zero {d : List Pt} {at_ : Int} (h : spotE d at_ = 0) : sizesE d = 0 ∧ 0 ≤ at_ ∧ at_ ≤ inI d := by
  unfold spotE at h
  split at h
  · rename_i h1
    split at h
    · omega
    · exact ⟨h1, by omega, by omega⟩
  · contradiction
theorem spotR_ok {d : List Pt} {at_ : Int} (h : sizesE d = 0) (h0 : 0 ≤ at_) (h1 : at_ ≤ inI d) (late : Bool) : spotR d at_ late = (spotW (wordL d) at_.toNat late : Int) := by rw [spotR, if_pos (spotE_ok h h0 h1)]

end Go.Proofs.Ytndhamcipbecfaa
