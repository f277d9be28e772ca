/- More on the texts of a history: no program in it. -/
import Derived.Test.YtgjofbihdokefaaRevL
namespace Go.Proofs.Ytgjofbihdokefaa
set_option linter.unusedSimpArgs false
set_option linter.unusedVariables false

theorem drop_rv {l : List Rv} {i : Nat} {p : Rv} (h : l[i]? = some p) : l.drop i = p :: l.drop (i + 1) := by
  obtain ⟨h1, rfl⟩ := List.getElem?_eq_some_iff.1 h
  exact List.drop_eq_getElem_cons h1
theorem text_next {s : List UInt8} {l : List Rv} {i : Nat} {r : Rv} (h : l[i]? = some r) : textAt s l (i + 1) = doL r.d (textAt s l i) := by
  have h1 := (List.getElem?_eq_some_iff.1 h).1
  rw [← text_drop s i 1 (by omega), drop_rv h]
  exact text_zero _ _
theorem hist_at {s : List UInt8} {l : List Rv} {i : Nat} {r : Rv} (hh : histE s l = 0) (h : l[i]? = some r) : oneE r = 0 ∧ sizesE r.d = 0 ∧ inI r.d = ((textAt s l i).length : Nat) ∧ outI r.d = ((textAt s l (i + 1)).length : Nat) := by
  have h1 := (hist_cut hh i).2
  rw [drop_rv h] at h1
  obtain ⟨h2, h3, h4, _⟩ := hist_cons h1
  exact ⟨h2, h3, h4, by rw [text_next h, ← (do_out h3 h4).1]⟩
theorem hist_ends {s : List UInt8} {l : List Rv} {k : Nat} (hk : l.length ≤ k) : l.drop k = [] := List.drop_eq_nil_of_le hk
/-- what Text answers -/
def textE (s : List UInt8) (l : List Rv) (k : Int) : Int := if checkE s l = 0 then (if k < 0 ∨ (l.length : Int) < k then 1 else 0) else checkE s l
def textR (s : List UInt8) (l : List Rv) (k : Int) : List UInt8 := if textE s l k = 0 then textAt s l k.toNat else []
theorem textE_bad {s : List UInt8} {l : List Rv} {k : Int} (h : checkE s l ≠ 0) : textE s l k = checkE s l ∧ textR s l k = [] := by
  have h1 : textE s l k = checkE s l := by rw [textE, if_neg h]
  exact ⟨h1, by rw [textR, h1, if_neg h]⟩
theorem textE_arg {s : List UInt8} {l : List Rv} {k : Int} (h : checkE s l = 0) (hk : k < 0 ∨ (l.length : Int) < k) : textE s l k = 1 ∧ textR s l k = [] := by
  have h1 : textE s l k = 1 := by rw [textE, if_pos h, if_pos hk]
  exact ⟨h1, by rw [textR, h1]; rfl⟩
theorem textE_ok {s : List UInt8} {l : List Rv} {k : Nat} (h : checkE s l = 0) (hk : k ≤ l.length) : textE s l k = 0 ∧ textR s l k = textAt s l k := by
  have h1 : textE s l k = 0 := by rw [textE, if_pos h, if_neg (by omega)]
  exact ⟨h1, by rw [textR, h1, if_pos rfl, Int.toNat_natCast]⟩
/-- a beginning, and the rest -/
theorem check_cut {s : List UInt8} {l : List Rv} (h : checkE s l = 0) (k : Nat) : checkE s (l.take k) = 0 ∧ checkE (textAt s l k) (l.drop k) = 0 := by
  obtain ⟨h1, h2, h3⟩ := check_zero h
  obtain ⟨h4, h5⟩ := hist_cut h3 k
  have h6 := text_le h3 h1 k
  refine ⟨?_, ?_⟩
  · rw [checkE, if_neg (by rw [List.length_take]; omega)]; exact h4
  · rw [checkE, if_neg (by rw [List.length_drop]; omega)]; exact h5
/-- what Between answers -/
def betE (s : List UInt8) (l : List Rv) (i k : Int) : Int := if checkE s l = 0 then (if i < 0 ∨ k < i ∨ (l.length : Int) < k then 1 else 0) else checkE s l
def betO (s : List UInt8) (l : List Rv) (i k : Nat) : List Pt := betF ((textAt s l k).length : Nat) ((l.take k).drop i)
def betR (s : List UInt8) (l : List Rv) (i k : Int) : List Pt := if betE s l i k = 0 then betO s l i.toNat k.toNat else []
theorem betE_bad {s : List UInt8} {l : List Rv} {i k : Int} (h : checkE s l ≠ 0) : betE s l i k = checkE s l ∧ betR s l i k = [] := by
  have h1 : betE s l i k = checkE s l := by rw [betE, if_neg h]
  exact ⟨h1, by rw [betR, h1, if_neg h]⟩
theorem betE_arg {s : List UInt8} {l : List Rv} {i k : Int} (h : checkE s l = 0) (hk : i < 0 ∨ k < i ∨ (l.length : Int) < k) : betE s l i k = 1 ∧ betR s l i k = [] := by
  have h1 : betE s l i k = 1 := by rw [betE, if_pos h, if_pos hk]
  exact ⟨h1, by rw [betR, h1]; rfl⟩
theorem betE_ok {s : List UInt8} {l : List Rv} {i k : Nat} (h : checkE s l = 0) (hi : i ≤ k) (hk : k ≤ l.length) : betE s l i k = 0 ∧ betR s l i k = betO s l i k := by
  have h1 : betE s l i k = 0 := by rw [betE, if_pos h, if_neg (by omega)]
  exact ⟨h1, by rw [betR, h1, if_pos rfl, Int.toNat_natCast, Int.toNat_natCast]⟩
/-- the texts of a history from its i-th on, up to its k-th -/
theorem text_mid {s : List UInt8} {l : List Rv} {i k : Nat} (hi : i ≤ k) (hk : k ≤ l.length) : textAt (textAt s l i) ((l.take k).drop i) ((l.take k).drop i).length = textAt s l k := by
  have h1 : ((l.take k).drop i).length = k - i := by rw [List.length_drop, List.length_take]; omega
  have h2 : textAt s l i = textAt s (l.take k) i := (text_take s hi).symm
  rw [h1, h2, text_drop s i (k - i) (by rw [List.length_take]; omega), show i + (k - i) = k by omega, text_take s (Nat.le_refl k)]
theorem hist_mid {s : List UInt8} {l : List Rv} {i k : Nat} (h : histE s l = 0) (hi : i ≤ k) : histE (textAt s l i) ((l.take k).drop i) = 0 := by
  have h1 := (hist_cut (hist_cut h k).1 i).2
  rw [text_take s hi] at h1
  exact h1
/-- what comes between two revisions -/
theorem bet_says {s : List UInt8} {l : List Rv} {i k : Nat} (h : checkE s l = 0) (hi : i ≤ k) (hk : k ≤ l.length) :
    sizesE (betO s l i k) = 0 ∧ inI (betO s l i k) = ((textAt s l i).length : Nat) ∧ outI (betO s l i k) = ((textAt s l k).length : Nat) ∧ doL (betO s l i k) (textAt s l i) = textAt s l k := by
  obtain ⟨h1, h2, h3⟩ := check_zero h
  obtain ⟨b, hb, b1, b2, b3, b4⟩ := bet_facts (hist_mid h3 hi) (text_le h3 h1 i)
  rw [text_mid hi hk] at hb b3 b4
  rw [betO, hb]
  exact ⟨b1, b2, b3, b4⟩
/-- from the first one on it is the same -/
theorem bet_walk {s : List UInt8} {l : List Rv} {i k : Nat} (h : checkE s l = 0) (hi : i ≤ k) (hk : k ≤ l.length) :
    betL (allN ((textAt s l i).length : Nat)) ((l.take k).drop i) = betO s l i k := by
  obtain ⟨h1, h2, h3⟩ := check_zero h
  have h5 := text_le h3 h1 i
  obtain ⟨x1, x2, x3⟩ := all_facts (n := ((textAt s l i).length : Nat)) (by omega) (by omega)
  obtain ⟨y1, y2, y3, y4⟩ := bet_says h hi hk
  have h6 := bet_first (d := allN ((textAt s l i).length : Nat)) x1 x3 (hist_mid h3 hi) h5
  rw [text_mid hi hk] at h6
  rw [h6]
  obtain ⟨u1, u2, _, _⟩ := comp_units y1
  rw [y2] at u1 u2
  show compR _ (betO s l i k) = _
  rw [compR, if_pos u1, u2]
/-- between three it is the parts' as one -/
theorem bet_three {s : List UInt8} {l : List Rv} {i j k : Nat} (h : checkE s l = 0) (hi : i ≤ j) (hj : j ≤ k) (hk : k ≤ l.length) :
    compE (betO s l i j) (betO s l j k) = 0 ∧ compR (betO s l i j) (betO s l j k) = betO s l i k := by
  obtain ⟨h1, h2, h3⟩ := check_zero h
  obtain ⟨x1, x2, x3, _⟩ := bet_says h hi (by omega : j ≤ l.length)
  obtain ⟨y1, y2, y3, _⟩ := bet_says h hj hk
  refine ⟨comp_is x1 y1 (by rw [x3, y2]), ?_⟩
  have e : (l.take k).drop i = (l.take j).drop i ++ (l.take k).drop j := by
    have e1 : l.take k = l.take j ++ (l.take k).drop j := by
      have := List.take_append_drop j (l.take k)
      rw [List.take_take, Nat.min_eq_left hj] at this
      exact this.symm
    conv => lhs; rw [e1]
    rw [List.drop_append_of_le_length (by rw [List.length_take]; omega)]
  have hm1 := text_mid (s := s) hi (by omega : j ≤ l.length)
  have hm2 := text_mid (s := s) hj hk
  have hh := hist_mid h3 (by omega : i ≤ k)
  rw [e] at hh
  have ha := hist_mid h3 hi
  have hb : histE (textAt (textAt s l i) ((l.take j).drop i) ((l.take j).drop i).length) ((l.take k).drop j) = 0 := by rw [hm1]; exact hist_mid h3 hj
  have h7 := bet_app hh (text_le h3 h1 i) ha hb
  rw [hm1, hm2, ← e] at h7
  exact h7.symm
end Go.Proofs.Ytgjofbihdokefaa
