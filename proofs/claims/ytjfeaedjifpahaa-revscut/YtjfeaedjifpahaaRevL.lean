/- Histories: their errors, their texts, and what comes between: no program in it. -/
import Derived.Test.YtjfeaedjifpahaaCompL
namespace Go.Proofs.Ytjfeaedjifpahaa
set_option linter.unusedSimpArgs false
set_option linter.unusedVariables false

/-- a revision -/
structure Rv where
  who : Int
  seq : Int
  d : List Pt
def oneE (r : Rv) : Int := if r.who < 0 ∨ 7 < r.who ∨ r.seq < 0 ∨ 2147483647 < r.seq then 1 else sizesE r.d
/-- the first error from a text on -/
def histE : List UInt8 → List Rv → Int
  | _, [] => 0
  | s, r :: l => if oneE r = 0 then (if fitsE r.d s.length = 0 then histE (doL r.d s) l else fitsE r.d s.length) else oneE r
def checkE (s : List UInt8) (l : List Rv) : Int := if 500 < s.length ∨ 64 < l.length then 2 else histE s l
/-- the text behind so many -/
def textAt : List UInt8 → List Rv → Nat → List UInt8
  | s, r :: l, k + 1 => textAt (doL r.d s) l k
  | s, _, _ => s
theorem one_zero {r : Rv} (h : oneE r = 0) : (0 ≤ r.who ∧ r.who ≤ 7 ∧ 0 ≤ r.seq ∧ r.seq ≤ 2147483647) ∧ sizesE r.d = 0 := by
  unfold oneE at h
  split at h
  · simp at h
  · exact ⟨by omega, h⟩
theorem check_zero {s : List UInt8} {l : List Rv} (h : checkE s l = 0) : s.length ≤ 500 ∧ l.length ≤ 64 ∧ histE s l = 0 := by
  unfold checkE at h
  split at h
  · simp at h
  · exact ⟨by omega, by omega, h⟩
theorem hist_cons {s : List UInt8} {r : Rv} {l : List Rv} (h : histE s (r :: l) = 0) : oneE r = 0 ∧ sizesE r.d = 0 ∧ inI r.d = s.length ∧ histE (doL r.d s) l = 0 := by
  rw [histE] at h
  by_cases h1 : oneE r = 0
  · rw [if_pos h1] at h
    by_cases h2 : fitsE r.d s.length = 0
    · rw [if_pos h2] at h
      obtain ⟨h3, h4⟩ := fits_zero h2
      exact ⟨h1, h3, h4, h⟩
    · rw [if_neg h2] at h; exact absurd h h2
  · rw [if_neg h1] at h; exact absurd h h1
theorem do_out {d : List Pt} {s : List UInt8} (h : sizesE d = 0) (hi : inI d = s.length) : ((doL d s).length : Int) = outI d ∧ (doL d s).length ≤ 500 := by
  obtain ⟨g, c, i, o, l, m⟩ := delta_facts h
  have h1 : (doL d s).length = outW (wordL d) := by rw [doL_word]; exact doW_len _ _ (by omega)
  exact ⟨by omega, by omega⟩
theorem text_zero (s : List UInt8) (l : List Rv) : textAt s l 0 = s := by cases l <;> rfl
theorem text_le {l : List Rv} : ∀ {s : List UInt8}, histE s l = 0 → s.length ≤ 500 → ∀ k, (textAt s l k).length ≤ 500 := by
  induction l with
  | nil => intro s _ h k; cases k <;> exact h
  | cons r l ih =>
    intro s h hs k
    obtain ⟨_, h2, h3, h4⟩ := hist_cons h
    cases k with
    | zero => exact hs
    | succ k => exact ih h4 (do_out h2 h3).2 k
theorem hist_cut {l : List Rv} : ∀ {s : List UInt8}, histE s l = 0 → ∀ k, histE s (l.take k) = 0 ∧ histE (textAt s l k) (l.drop k) = 0 := by
  induction l with
  | nil => intro s h k; cases k <;> exact ⟨rfl, rfl⟩
  | cons r l ih =>
    intro s h k
    cases k with
    | zero => exact ⟨rfl, h⟩
    | succ k =>
      obtain ⟨h1, h2, h3, h4⟩ := hist_cons h
      obtain ⟨i1, i2⟩ := ih h4 k
      refine ⟨?_, i2⟩
      rw [List.take_succ_cons, histE, if_pos h1, if_pos (by rw [fitsE, if_pos h2, if_pos h3])]
      exact i1
theorem text_take {l : List Rv} : ∀ (s : List UInt8) {k i : Nat}, i ≤ k → textAt s (l.take k) i = textAt s l i := by
  induction l with
  | nil => intro s k i _; simp
  | cons r l ih =>
    intro s k i h
    cases i with
    | zero => rw [text_zero, text_zero]
    | succ i =>
      cases k with
      | zero => omega
      | succ k => exact ih _ (by omega)
theorem text_drop {l : List Rv} : ∀ (s : List UInt8) (k i : Nat), k ≤ l.length → textAt (textAt s l k) (l.drop k) i = textAt s l (k + i) := by
  induction l with
  | nil => intro s k i h; have : k = 0 := by simpa using h
           subst this; simp [text_zero]
  | cons r l ih =>
    intro s k i h
    cases k with
    | zero => rw [text_zero, Nat.zero_add]; rfl
    | succ k =>
      rw [show k + 1 + i = (k + i) + 1 by omega]
      exact ih _ k i (by simpa using h)

/-- all deltas as one, from the last one back, the last text having n bytes -/
def betF (n : Int) : List Rv → List Pt
  | [] => allN n
  | r :: l => compR r.d (betF n l)
/-- and from the first one on, behind d -/
def betL : List Pt → List Rv → List Pt
  | d, [] => d
  | d, r :: l => betL (compR d r.d) l
theorem do_all (s : List UInt8) : doL (allN (s.length : Nat)) s = s := by
  unfold allN
  split
  · rename_i h
    have : s = [] := List.length_eq_zero_iff.1 (by omega)
    subst this; rfl
  · simp [doL]
theorem bet_facts {l : List Rv} : ∀ {s : List UInt8}, histE s l = 0 → s.length ≤ 500 → ∃ b, betF ((textAt s l l.length).length : Nat) l = b ∧ sizesE b = 0 ∧ inI b = s.length ∧ outI b = ((textAt s l l.length).length : Nat) ∧ doL b s = textAt s l l.length := by
  induction l with
  | nil =>
    intro s _ hs
    obtain ⟨x1, x2, x3⟩ := all_facts (n := (s.length : Int)) (by omega) (by omega)
    exact ⟨_, rfl, x1, x2, x3, do_all s⟩
  | cons r l ih =>
    intro s h hs
    obtain ⟨h1, h2, h3, h4⟩ := hist_cons h
    obtain ⟨o1, o2⟩ := do_out h2 h3
    obtain ⟨b, hb, b1, b2, b3, b4⟩ := ih h4 o2
    have hc : compE r.d b = 0 := comp_is h2 b1 (by omega)
    obtain ⟨x, _, _, f1, f2, f3, f4, _⟩ := comp_facts hc
    refine ⟨compR r.d b, ?_, by rw [f4]; exact f1, by rw [f4, f2, h3], ?_, ?_⟩
    · show compR r.d (betF _ l) = _
      rw [← hb]; rfl
    · rw [f4, f3, b3]; rfl
    · rw [f4, comp_does hc (by omega), b4]; rfl
theorem bet_first {l : List Rv} : ∀ {d : List Pt} {s : List UInt8}, sizesE d = 0 → outI d = s.length → histE s l = 0 → s.length ≤ 500 → betL d l = compR d (betF ((textAt s l l.length).length : Nat) l) := by
  induction l with
  | nil =>
    intro d s hd ho _ hs
    obtain ⟨u1, u2, u3, u4⟩ := comp_units hd
    show d = compR d (allN ((s.length : Nat) : Int))
    rw [← ho, compR, if_pos u3, u4]
  | cons r l ih =>
    intro d s hd ho h hs
    obtain ⟨h1, h2, h3, h4⟩ := hist_cons h
    obtain ⟨o1, o2⟩ := do_out h2 h3
    obtain ⟨b, hb, b1, b2, b3, b4⟩ := bet_facts h4 o2
    have c1 : compE d r.d = 0 := comp_is hd h2 (by omega)
    have c2 : compE r.d b = 0 := comp_is h2 b1 (by omega)
    obtain ⟨x, _, _, f1, f2, f3, f4, _⟩ := comp_facts c1
    obtain ⟨y, _, _, g1, g2, g3, g4, _⟩ := comp_facts c2
    obtain ⟨z1, z2, z3⟩ := comp_assoc c1 c2
    show betL (compR d r.d) l = compR d (compR r.d (betF _ l))
    rw [ih (d := compR d r.d) (s := doL r.d s) (by rw [f4]; exact f1) (by rw [f4, f3]; omega) h4 o2]
    have hb' : betF ((textAt s (r :: l) (r :: l).length).length : Nat) l = b := hb
    rw [hb', hb, f4, g4, compR, if_pos z1, compR, if_pos z2, z3]
/-- between three it is the parts' as one -/
theorem bet_app {a b : List Rv} {s : List UInt8} (h : histE s (a ++ b) = 0) (hs : s.length ≤ 500) (ha : histE s a = 0) (hb : histE (textAt s a a.length) b = 0) :
    betF ((textAt (textAt s a a.length) b b.length).length : Nat) (a ++ b) = compR (betF ((textAt s a a.length).length : Nat) a) (betF ((textAt (textAt s a a.length) b b.length).length : Nat) b) := by
  induction a generalizing s with
  | nil =>
    obtain ⟨x, hx, x1, x2, x3, x4⟩ := bet_facts hb (by exact hs)
    obtain ⟨u1, u2, u3, u4⟩ := comp_units x1
    have e : textAt s [] ([] : List Rv).length = s := rfl
    rw [e] at hx x2 ⊢
    rw [List.nil_append, hx]
    show x = compR (allN ((s.length : Nat) : Int)) x
    rw [← x2, compR, if_pos u1, u2]
  | cons r a ih =>
    obtain ⟨h1, h2, h3, h4⟩ := hist_cons h
    obtain ⟨_, _, _, k4⟩ := hist_cons ha
    obtain ⟨o1, o2⟩ := do_out h2 h3
    have i := ih h4 o2 k4 hb
    have e1 : textAt s (r :: a) (r :: a).length = textAt (doL r.d s) a a.length := rfl
    rw [e1]
    show compR r.d (betF _ (a ++ b)) = compR (compR r.d (betF _ a)) _
    rw [i]
    have hm := text_le k4 o2 a.length
    obtain ⟨x, hx, x1, x2, x3, x4⟩ := bet_facts k4 o2
    obtain ⟨y, hy, y1, y2, y3, y4⟩ := bet_facts hb (by rw [e1]; exact hm)
    rw [e1] at hy y2
    rw [hx, hy]
    have c1 : compE r.d x = 0 := comp_is h2 x1 (by omega)
    have c2 : compE x y = 0 := comp_is x1 y1 (by omega)
    obtain ⟨_, _, _, _, _, _, f4, _⟩ := comp_facts c1
    obtain ⟨_, _, _, _, _, _, g4, _⟩ := comp_facts c2
    obtain ⟨z1, z2, z3⟩ := comp_assoc c1 c2
    rw [f4, g4, compR, if_pos z2, compR, if_pos z1, z3]
end Go.Proofs.Ytjfeaedjifpahaa
