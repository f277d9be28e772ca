/- Histories: their errors, their texts, and what comes between: no program in it. -/
import Derived.Test.YtgffippimmokiaaCompL
namespace Go.Proofs.Ytgffippimmokiaa
set_option linter.unusedSimpArgs false
set_option linter.unusedVariables false

/-- a revision -/
structure Rv where
  who : Int
  seq : Int
  d : List Pt
def oneE (r : Rv) : Int := if r.who < 0 ∨ 7 < r.who ∨ r.seq < 0 ∨ 2147483647 < r.seq then 1 else sizesE r.d
/-- the first error from a text on -/
def histE : List UInt8 → List Rv → Int
  | _, [] => 0
  | s, r :: l => if oneE r = 0 then (if fitsE r.d s.length = 0 then histE (doL r.d s) l else fitsE r.d s.length) else oneE r
def checkE (s : List UInt8) (l : List Rv) : Int := if 500 < s.length ∨ 64 < l.length then 2 else histE s l
/-- the text behind so many -/
def textAt : List UInt8 → List Rv → Nat → List UInt8
  | s, r :: l, k + 1 => textAt (doL r.d s) l k
  | s, _, _ => s
theorem one_zero {r : Rv} (h : oneE r = 0) : (0 ≤ r.who ∧ r.who ≤ 7 ∧ 0 ≤ r.seq ∧ r.seq ≤ 2147483647) ∧ sizesE r.d = 0 := by
  unfold oneE at h
  split at h
  · simp at h
  · exact ⟨by omega, h⟩
theorem check_zero {s : List UInt8} {l : List Rv} (h : checkE s l = 0) : s.length ≤ 500 ∧ l.length ≤ 64 ∧ histE s l = 0 := by
  unfold checkE at h
  split at h
  · simp at h
  · exact ⟨by omega, by omega, h⟩
theorem hist_cons {s : List UInt8} {r : Rv} {l : List Rv} (h : histE s (r :: l) = 0) : oneE r = 0 ∧ sizesE r.d = 0 ∧ inI r.d = s.length ∧ histE (doL r.d s) l = 0 := by
  rw [histE] at h
  by_cases h1 : oneE r = 0
  · rw [if_pos h1] at h
    by_cases h2 : fitsE r.d s.length = 0
    · rw [if_pos h2] at h
      obtain ⟨h3, h4⟩ := fits_zero h2
      exact ⟨h1, h3, h4, h⟩
    · rw [if_neg h2] at h; exact absurd h h2
  · rw [if_neg h1] at h; exact absurd h h1
theorem do_out {d : List Pt} {s : List UInt8} (h : sizesE d = 0) (hi : inI d = s.length) : ((doL d s).length : Int) = outI d ∧ (doL d s).length ≤ 500 := by
  obtain ⟨g, c, i, o, l, m⟩ := delta_facts h
  have h1 : (doL d s).length = outW (wordL d) := by rw [doL_word]; exact doW_len _ _ (by omega)
  exact ⟨by omega, by omega⟩
theorem text_zero (s : List UInt8) (l : List Rv) : textAt s l 0 = s := by cases l <;> rfl
theorem text_le {l : List Rv} : ∀ {s : List UInt8}, histE s l = 0 → s.length ≤ 500 → ∀ k, (textAt s l k).length ≤ 500 := by
  induction l with
  | nil => intro s _ h k; cases k <;> exact h
  | cons r l ih =>
    intro s h hs k
    obtain ⟨_, h2, h3, h4⟩ := hist_cons h
    cases k with
    | zero => exact hs
    | succ k => exact ih h4 (do_out h2 h3).2 k
theorem hist_cut {l : List Rv} : ∀ {s : List UInt8}, histE s l = 0 → ∀ k, histE s (l.take k) = 0 ∧ histE (textAt s l k) (l.drop k) = 0 := by
  induction l with
  | nil => intro s h k; cases k <;> exact ⟨rfl, rfl⟩
  | cons r l ih =>
    intro s h k
    cases k with
    | zero => exact ⟨rfl, h⟩
    | succ k =>
      obtain ⟨h1, h2, h3, h4⟩ := hist_cons h
      obtain ⟨i1, i2⟩ := ih h4 k
      refine ⟨?_, i2⟩
      rw [List.take_succ_cons, histE, if_pos h1, if_pos (by rw [fitsE, if_pos h2, if_pos h3])]
      exact i1
theorem text_take {l : List Rv} : ∀ (s : List UInt8) {k i : Nat}, i ≤ k → textAt s (l.take k) i = textAt s l i := by
  induction l with
  | nil => intro s k i _; simp
  | cons r l ih =>
    intro s k i h
    cases i with
    | zero => rw [text_zero, text_zero]
    | succ i =>
      cases k with
      | zero => omega
      | succ k => exact ih _ (by omega)
theorem text_drop {l : List Rv} : ∀ (s : List UInt8) (k i : Nat), k ≤ l.length → textAt (textAt s l k) (l.drop k) i = textAt s l (k + i) := by
  induction l with
  | nil => intro s k i h; have : k = 0 := by simpa using h
           subst this; simp [text_zero]
  | cons r l ih =>
    intro s k i h
    cases k with
    | zero => rw [text_zero, Nat.zero_add]; rfl
    | succ k =>
      rw [show k + 1 + i = (k + i) + 1 by omega]
      exact ih _ k i (by simpa using h)

/-- all deltas as one, from the last one back, the last text having n bytes -/
def betF (n : Int) : List Rv → List Pt
  | [] => allN n
  | r :: l => compR r.d (betF n l)
/-- and from the first one on, behind d -/
def betL : List Pt → List Rv → List Pt
  | d, [] => d
  | d, r :: l => betL (compR d r.d) l
theorem do_all (s : List UInt8) : doL (allN (s.length : Nat)) s = s := by
  unfold allN
  split
  · rename_i h
    have : s = [] := List.length_eq_zero_iff.1 (by omega)
    subst this; rfl
  · simp [doL]
theorem bet_facts {l : List Rv} : ∀ {s : List UInt8}, histE s l = 0 → s.length ≤ 500 → ∃ b, betF ((textAt s l l.length).length : Nat) l = b ∧ sizesE b = 0 ∧ inI b = s.length ∧ outI b = ((textAt s l l.length).length : Nat) ∧ doL b s = textAt s l l.length := by
  induction l with
  | nil =>
    intro s _ hs
    obtain ⟨x1, x2, x3⟩ := all_facts (n := (s.length : Int)) (by omega) (by omega)
    exact ⟨_, rfl, x1, x2, x3, do_all s⟩
  | cons r l ih =>
    intro s h hs
    obtain ⟨h1, h2, h3, h4⟩ := hist_cons h
    obtain ⟨o1, o2⟩ := do_out h2 h3
    obtain ⟨b, hb, b1, b2, b3, b4⟩ := ih h4 o2
    have hc : compE r.d b = 0 := comp_is h2 b1 (by omega)
    obtain ⟨x, _, _, f1, f2, f3, f4, _⟩ := comp_facts hc
    refine ⟨compR r.d b, ?_, by rw [f4]; exact f1, by rw [f4, f2, h3], ?_, ?_⟩
    · show compR r.d (betF _ l) = _
      rw [← hb]; rfl
    · rw [f4, f3, b3]; rfl
    · rw [f4, comp_does hc (by omega), b4]; rfl
theorem bet_first {l : List Rv} : ∀ {d : List Pt} {s : List UInt8}, sizesE d = 0 → outI d = s.length → histE s l = 0 → s.length ≤ 500 → betL d l = compR d (betF ((textAt s l l.length).length : Nat) l) := by
  induction l with
  | nil =>
    intro d s hd ho _ hs
    obtain ⟨u1, u2, u3, u4⟩ := comp_units hd
    show d = compR d (allN ((s.length : Nat) : Int))
    rw [← ho, compR, if_pos u3, u4]
  | cons r l ih =>
    intro d s hd ho h hs
    obtain ⟨h1, h2, h3, h4⟩ := hist_cons h
    obtain ⟨o1, o2⟩ := do_out h2 h3
    obtain ⟨b, hb, b1, b2, b3, b4⟩ := bet_facts h4 o2
    have c1 : compE d r.d = 0 := comp_is hd h2 (by omega)
    have c2 : compE r.d b = 0 := comp_is h2 b1 (by omega)
    obtain ⟨x, _, _, f1, f2, f3, f4, _⟩ := comp_facts c1
    obtain ⟨y, _, _, g1, g2, g3, g4, _⟩ := comp_facts c2
    obtain ⟨z1, z2, z3⟩ := comp_assoc c1 c2
    show betL (compR d r.d) l = compR d (compR r.d (betF _ l))
    rw [ih (d := compR d r.d) (s := doL r.d s) (by rw [f4]; exact f1) (by rw [f4, f3]; omega) h4 o2]
    have hb' : betF ((textAt s (r :: l) (r :: l).length).length : Nat) l = b := hb
    rw [hb', hb, f4, g4, compR, if_pos z1, compR, if_pos z2, z3]
/-- between three it is the parts' as one -/
theorem bet_app {a b : List Rv} {s : List UInt8} (h : histE s (a ++ b) = 0) (hs : s.length ≤ 500) (ha : histE s a = 0) (hb : histE (textAt s a a.length) b = 0) :
    betF ((textAt (textAt s a a.length) b b.length).length : Nat) (a ++ b) = compR (betF ((textAt s a a.length).length : Nat) a) (betF ((textAt (textAt s a a.length) b b.length).length : Nat) b) := by
  induction a generalizing s with
  | nil =>
    obtain ⟨x, hx, x1, x2, x3, x4⟩ := bet_facts hb (by exact hs)
    obtain ⟨u1, u2, u3, u4⟩ := comp_units x1
    have e : textAt s [] ([] : List Rv).length = s := rfl
    rw [e] at hx x2 ⊢
    rw [List.nil_append, hx]
    show x = compR (allN ((s.length : Nat) : Int)) x
    rw [← x2, compR, if_pos u1, u2]
  | cons r a ih =>
    obtain ⟨h1, h2, h3, h4⟩ := hist_cons h
    obtain ⟨_, _, _, k4⟩ := hist_cons ha
    obtain ⟨o1, o2⟩ := do_out h2 h3
    have i := ih h4 o2 k4 hb
    have e1 : textAt s (r :: a) (r :: a).length = textAt (doL r.d s) a a.length := rfl
    rw [e1]
    show compR r.d (betF _ (a ++ b)) = compR (compR r.d (betF _ a)) _
    rw [i]
    have hm := text_le k4 o2 a.length
    obtain ⟨x, hx, x1, x2, x3, x4⟩ := bet_facts k4 o2
    obtain ⟨y, hy, y1, y2, y3, y4⟩ := bet_facts hb (by rw [e1]; exact hm)
    rw [e1] at hy y2
    rw [hx, hy]
    have c1 : compE r.d x = 0 := comp_is h2 x1 (by omega)
    have c2 : compE x y = 0 := comp_is x1 y1 (by omega)
    obtain ⟨_, _, _, _, _, _, f4, _⟩ := comp_facts c1
    obtain ⟨_, _, _, _, _, _, g4, _⟩ := comp_facts c2
    obtain ⟨z1, z2, z3⟩ := comp_assoc c1 c2
    rw [f4, g4, compR, if_pos z2, compR, if_pos z1, z3]
end Go.Proofs.Ytgffippimmokiaa

/- More on the texts of a history: no program in it. -/
namespace Go.Proofs.Ytgffippimmokiaa
set_option linter.unusedSimpArgs false
set_option linter.unusedVariables false

theorem drop_rv {l : List Rv} {i : Nat} {p : Rv} (h : l[i]? = some p) : l.drop i = p :: l.drop (i + 1) := by
  obtain ⟨h1, rfl⟩ := List.getElem?_eq_some_iff.1 h
  exact List.drop_eq_getElem_cons h1
theorem text_next {s : List UInt8} {l : List Rv} {i : Nat} {r : Rv} (h : l[i]? = some r) : textAt s l (i + 1) = doL r.d (textAt s l i) := by
  have h1 := (List.getElem?_eq_some_iff.1 h).1
  rw [← text_drop s i 1 (by omega), drop_rv h]
  exact text_zero _ _
theorem hist_at {s : List UInt8} {l : List Rv} {i : Nat} {r : Rv} (hh : histE s l = 0) (h : l[i]? = some r) : oneE r = 0 ∧ sizesE r.d = 0 ∧ inI r.d = ((textAt s l i).length : Nat) ∧ outI r.d = ((textAt s l (i + 1)).length : Nat) := by
  have h1 := (hist_cut hh i).2
  rw [drop_rv h] at h1
  obtain ⟨h2, h3, h4, _⟩ := hist_cons h1
  exact ⟨h2, h3, h4, by rw [text_next h, ← (do_out h3 h4).1]⟩
theorem hist_ends {s : List UInt8} {l : List Rv} {k : Nat} (hk : l.length ≤ k) : l.drop k = [] := List.drop_eq_nil_of_le hk
/-- what Text answers -/
def textE (s : List UInt8) (l : List Rv) (k : Int) : Int := if checkE s l = 0 then (if k < 0 ∨ (l.length : Int) < k then 1 else 0) else checkE s l
def textR (s : List UInt8) (l : List Rv) (k : Int) : List UInt8 := if textE s l k = 0 then textAt s l k.toNat else []
theorem textE_bad {s : List UInt8} {l : List Rv} {k : Int} (h : checkE s l ≠ 0) : textE s l k = checkE s l ∧ textR s l k = [] := by
  have h1 : textE s l k = checkE s l := by rw [textE, if_neg h]
  exact ⟨h1, by rw [textR, h1, if_neg h]⟩
theorem textE_arg {s : List UInt8} {l : List Rv} {k : Int} (h : checkE s l = 0) (hk : k < 0 ∨ (l.length : Int) < k) : textE s l k = 1 ∧ textR s l k = [] := by
  have h1 : textE s l k = 1 := by rw [textE, if_pos h, if_pos hk]
  exact ⟨h1, by rw [textR, h1]; rfl⟩
theorem textE_ok {s : List UInt8} {l : List Rv} {k : Nat} (h : checkE s l = 0) (hk : k ≤ l.length) : textE s l k = 0 ∧ textR s l k = textAt s l k := by
  have h1 : textE s l k = 0 := by rw [textE, if_pos h, if_neg (by omega)]
  exact ⟨h1, by rw [textR, h1, if_pos rfl, Int.toNat_natCast]⟩
/-- a beginning, and the rest -/
theorem check_cut {s : List UInt8} {l : List Rv} (h : checkE s l = 0) (k : Nat) : checkE s (l.take k) = 0 ∧ checkE (textAt s l k) (l.drop k) = 0 := by
  obtain ⟨h1, h2, h3⟩ := check_zero h
  obtain ⟨h4, h5⟩ := hist_cut h3 k
  have h6 := text_le h3 h1 k
  refine ⟨?_, ?_⟩
  · rw [checkE, if_neg (by rw [List.length_take]; omega)]; exact h4
  · rw [checkE, if_neg (by rw [List.length_drop]; omega)]; exact h5
/-- what Between answers -/
def betE (s : List UInt8) (l : List Rv) (i k : Int) : Int := if checkE s l = 0 then (if i < 0 ∨ k < i ∨ (l.length : Int) < k then 1 else 0) else checkE s l
def betO (s : List UInt8) (l : List Rv) (i k : Nat) : List Pt := betF ((textAt s l k).length : Nat) ((l.take k).drop i)
def betR (s : List UInt8) (l : List Rv) (i k : Int) : List Pt := if betE s l i k = 0 then betO s l i.toNat k.toNat else []
theorem betE_bad {s : List UInt8} {l : List Rv} {i k : Int} (h : checkE s l ≠ 0) : betE s l i k = checkE s l ∧ betR s l i k = [] := by
  have h1 : betE s l i k = checkE s l := by rw [betE, if_neg h]
  exact ⟨h1, by rw [betR, h1, if_neg h]⟩
theorem betE_arg {s : List UInt8} {l : List Rv} {i k : Int} (h : checkE s l = 0) (hk : i < 0 ∨ k < i ∨ (l.length : Int) < k) : betE s l i k = 1 ∧ betR s l i k = [] := by
  have h1 : betE s l i k = 1 := by rw [betE, if_pos h, if_pos hk]
  exact ⟨h1, by rw [betR, h1]; rfl⟩
theorem betE_ok {s : List UInt8} {l : List Rv} {i k : Nat} (h : checkE s l = 0) (hi : i ≤ k) (hk : k ≤ l.length) : betE s l i k = 0 ∧ betR s l i k = betO s l i k := by
  have h1 : betE s l i k = 0 := by rw [betE, if_pos h, if_neg (by omega)]
  exact ⟨h1, by rw [betR, h1, if_pos rfl, Int.toNat_natCast, Int.toNat_natCast]⟩
/-- the texts of a history from its i-th on, up to its k-th -/
theorem text_mid {s : List UInt8} {l : List Rv} {i k : Nat} (hi : i ≤ k) (hk : k ≤ l.length) : textAt (textAt s l i) ((l.take k).drop i) ((l.take k).drop i).length = textAt s l k := by
  have h1 : ((l.take k).drop i).length = k - i := by rw [List.length_drop, List.length_take]; omega
  have h2 : textAt s l i = textAt s (l.take k) i := (text_take s hi).symm
  rw [h1, h2, text_drop s i (k - i) (by rw [List.length_take]; omega), show i + (k - i) = k by omega, text_take s (Nat.le_refl k)]
theorem hist_mid {s : List UInt8} {l : List Rv} {i k : Nat} (h : histE s l = 0) (hi : i ≤ k) : histE (textAt s l i) ((l.take k).drop i) = 0 := by
  have h1 := (hist_cut (hist_cut h k).1 i).2
  rw [text_take s hi] at h1
  exact h1
/-- what comes between two revisions -/
theorem bet_says {s : List UInt8} {l : List Rv} {i k : Nat} (h : checkE s l = 0) (hi : i ≤ k) (hk : k ≤ l.length) :
    sizesE (betO s l i k) = 0 ∧ inI (betO s l i k) = ((textAt s l i).length : Nat) ∧ outI (betO s l i k) = ((textAt s l k).length : Nat) ∧ doL (betO s l i k) (textAt s l i) = textAt s l k := by
  obtain ⟨h1, h2, h3⟩ := check_zero h
  obtain ⟨b, hb, b1, b2, b3, b4⟩ := bet_facts (hist_mid h3 hi) (text_le h3 h1 i)
  rw [text_mid hi hk] at hb b3 b4
  rw [betO, hb]
  exact ⟨b1, b2, b3, b4⟩
/-- from the first one on it is the same -/
theorem bet_walk {s : List UInt8} {l : List Rv} {i k : Nat} (h : checkE s l = 0) (hi : i ≤ k) (hk : k ≤ l.length) :
    betL (allN ((textAt s l i).length : Nat)) ((l.take k).drop i) = betO s l i k := by
  obtain ⟨h1, h2, h3⟩ := check_zero h
  have h5 := text_le h3 h1 i
  obtain ⟨x1, x2, x3⟩ := all_facts (n := ((textAt s l i).length : Nat)) (by omega) (by omega)
  obtain ⟨y1, y2, y3, y4⟩ := bet_says h hi hk
  have h6 := bet_first (d := allN ((textAt s l i).length : Nat)) x1 x3 (hist_mid h3 hi) h5
  rw [text_mid hi hk] at h6
  rw [h6]
  obtain ⟨u1, u2, _, _⟩ := comp_units y1
  rw [y2] at u1 u2
  show compR _ (betO s l i k) = _
  rw [compR, if_pos u1, u2]
/-- between three it is the parts' as one -/
theorem bet_three {s : List UInt8} {l : List Rv} {i j k : Nat} (h : checkE s l = 0) (hi : i ≤ j) (hj : j ≤ k) (hk : k ≤ l.length) :
    compE (betO s l i j) (betO s l j k) = 0 ∧ compR (betO s l i j) (betO s l j k) = betO s l i k := by
  obtain ⟨h1, h2, h3⟩ := check_zero h
  obtain ⟨x1, x2, x3, _⟩ := bet_says h hi (by omega : j ≤ l.length)
  obtain ⟨y1, y2, y3, _⟩ := bet_says h hj hk
  refine ⟨comp_is x1 y1 (by rw [x3, y2]), ?_⟩
  have e : (l.take k).drop i = (l.take j).drop i ++ (l.take k).drop j := by
    have e1 : l.take k = l.take j ++ (l.take k).drop j := by
      have := List.take_append_drop j (l.take k)
      rw [List.take_take, Nat.min_eq_left hj] at this
      exact this.symm
    conv => lhs; rw [e1]
    rw [List.drop_append_of_le_length (by rw [List.length_take]; omega)]
  have hm1 := text_mid (s := s) hi (by omega : j ≤ l.length)
  have hm2 := text_mid (s := s) hj hk
  have hh := hist_mid h3 (by omega : i ≤ k)
  rw [e] at hh
  have ha := hist_mid h3 hi
  have hb : histE (textAt (textAt s l i) ((l.take j).drop i) ((l.take j).drop i).length) ((l.take k).drop j) = 0 := by rw [hm1]; exact hist_mid h3 hj
  have h7 := bet_app hh (text_le h3 h1 i) ha hb
  rw [hm1, hm2, ← e] at h7
  exact h7.symm
end Go.Proofs.Ytgffippimmokiaa
