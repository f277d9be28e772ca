/- Histories: their errors, their texts, and what comes between: no program in it. -/
import Derived.Test.YtcghojnmnmmpoaaCompL
import Derived.Test.YtcghojnmnmmpoaaMeetL
namespace Go.Proofs.Ytcghojnmnmmpoaa
set_option linter.unusedSimpArgs false
set_option linter.unusedVariables false

/-- a revision -/
structure Rv where
  who : Int
  seq : Int
  d : List Pt
def oneE (r : Rv) : Int := if r.who < 0 ∨ 7 < r.who ∨ r.seq < 0 ∨ 2147483647 < r.seq then 1 else sizesE r.d
/-- the first error from a text on -/
def histE : List UInt8 → List Rv → Int
  | _, [] => 0
  | s, r :: l => if oneE r = 0 then (if fitsE r.d s.length = 0 then histE (doL r.d s) l else fitsE r.d s.length) else oneE r
def checkE (s : List UInt8) (l : List Rv) : Int := if 500 < s.length ∨ 64 < l.length then 2 else histE s l
/-- the text behind so many -/
def textAt : List UInt8 → List Rv → Nat → List UInt8
  | s, r :: l, k + 1 => textAt (doL r.d s) l k
  | s, _, _ => s
theorem one_zero {r : Rv} (h : oneE r = 0) : (0 ≤ r.who ∧ r.who ≤ 7 ∧ 0 ≤ r.seq ∧ r.seq ≤ 2147483647) ∧ sizesE r.d = 0 := by
  unfold oneE at h
  split at h
  · simp at h
  · exact ⟨by omega, h⟩
theorem check_zero {s : List UInt8} {l : List Rv} (h : checkE s l = 0) : s.length ≤ 500 ∧ l.length ≤ 64 ∧ histE s l = 0 := by
  unfold checkE at h
  split at h
  · simp at h
  · exact ⟨by omega, by omega, h⟩
theorem hist_cons {s : List UInt8} {r : Rv} {l : List Rv} (h : histE s (r :: l) = 0) : oneE r = 0 ∧ sizesE r.d = 0 ∧ inI r.d = s.length ∧ histE (doL r.d s) l = 0 := by
  rw [histE] at h
  by_cases h1 : oneE r = 0
  · rw [if_pos h1] at h
    by_cases h2 : fitsE r.d s.length = 0
    · rw [if_pos h2] at h
      obtain ⟨h3, h4⟩ := fits_zero h2
      exact ⟨h1, h3, h4, h⟩
    · rw [if_neg h2] at h; exact absurd h h2
  · rw [if_neg h1] at h; exact absurd h h1
theorem do_out {d : List Pt} {s : List UInt8} (h : sizesE d = 0) (hi : inI d = s.length) : ((doL d s).length : Int) = outI d ∧ (doL d s).length ≤ 500 := by
  obtain ⟨g, c, i, o, l, m⟩ := delta_facts h
  have h1 : (doL d s).length = outW (wordL d) := by rw [doL_word]; exact doW_len _ _ (by omega)
  exact ⟨by omega, by omega⟩
theorem text_zero (s : List UInt8) (l : List Rv) : textAt s l 0 = s := by cases l <;> rfl
theorem text_le {l : List Rv} : ∀ {s : List UInt8}, histE s l = 0 → s.length ≤ 500 → ∀ k, (textAt s l k).length ≤ 500 := by
  induction l with
  | nil => intro s _ h k; cases k <;> exact h
  | cons r l ih =>
    intro s h hs k
    obtain ⟨_, h2, h3, h4⟩ := hist_cons h
    cases k with
    | zero => exact hs
    | succ k => exact ih h4 (do_out h2 h3).2 k
theorem hist_cut {l : List Rv} : ∀ {s : List UInt8}, histE s l = 0 → ∀ k, histE s (l.take k) = 0 ∧ histE (textAt s l k) (l.drop k) = 0 := by
  induction l with
  | nil => intro s h k; cases k <;> exact ⟨rfl, rfl⟩
  | cons r l ih =>
    intro s h k
    cases k with
    | zero => exact ⟨rfl, h⟩
    | succ k =>
      obtain ⟨h1, h2, h3, h4⟩ := hist_cons h
      obtain ⟨i1, i2⟩ := ih h4 k
      refine ⟨?_, i2⟩
      rw [List.take_succ_cons, histE, if_pos h1, if_pos (by rw [fitsE, if_pos h2, if_pos h3])]
      exact i1
theorem text_take {l : List Rv} : ∀ (s : List UInt8) {k i : Nat}, i ≤ k → textAt s (l.take k) i = textAt s l i := by
  induction l with
  | nil => intro s k i _; simp
  | cons r l ih =>
    intro s k i h
    cases i with
    | zero => rw [text_zero, text_zero]
    | succ i =>
      cases k with
      | zero => omega
      | succ k => exact ih _ (by omega)
theorem text_drop {l : List Rv} : ∀ (s : List UInt8) (k i : Nat), k ≤ l.length → textAt (textAt s l k) (l.drop k) i = textAt s l (k + i) := by
  induction l with
  | nil => intro s k i h; have : k = 0 := by simpa using h
           subst this; simp [text_zero]
  | cons r l ih =>
    intro s k i h
    cases k with
    | zero => rw [text_zero, Nat.zero_add]; rfl
    | succ k =>
      rw [show k + 1 + i = (k + i) + 1 by omega]
      exact ih _ k i (by simpa using h)

/-- all deltas as one, from the last one back, the last text having n bytes -/
def betF (n : Int) : List Rv → List Pt
  | [] => allN n
  | r :: l => compR r.d (betF n l)
/-- and from the first one on, behind d -/
def betL : List Pt → List Rv → List Pt
  | d, [] => d
  | d, r :: l => betL (compR d r.d) l
theorem do_all (s : List UInt8) : doL (allN (s.length : Nat)) s = s := by
  unfold allN
  split
  · rename_i h
    have : s = [] := List.length_eq_zero_iff.1 (by omega)
    subst this; rfl
  · simp [doL]
theorem bet_facts {l : List Rv} : ∀ {s : List UInt8}, histE s l = 0 → s.length ≤ 500 → ∃ b, betF ((textAt s l l.length).length : Nat) l = b ∧ sizesE b = 0 ∧ inI b = s.length ∧ outI b = ((textAt s l l.length).length : Nat) ∧ doL b s = textAt s l l.length := by
  induction l with
  | nil =>
    intro s _ hs
    obtain ⟨x1, x2, x3⟩ := all_facts (n := (s.length : Int)) (by omega) (by omega)
    exact ⟨_, rfl, x1, x2, x3, do_all s⟩
  | cons r l ih =>
    intro s h hs
    obtain ⟨h1, h2, h3, h4⟩ := hist_cons h
    obtain ⟨o1, o2⟩ := do_out h2 h3
    obtain ⟨b, hb, b1, b2, b3, b4⟩ := ih h4 o2
    have hc : compE r.d b = 0 := comp_is h2 b1 (by omega)
    obtain ⟨x, _, _, f1, f2, f3, f4, _⟩ := comp_facts hc
    refine ⟨compR r.d b, ?_, by rw [f4]; exact f1, by rw [f4, f2, h3], ?_, ?_⟩
    · show compR r.d (betF _ l) = _
      rw [← hb]; rfl
    · rw [f4, f3, b3]; rfl
    · rw [f4, comp_does hc (by omega), b4]; rfl
theorem bet_first {l : List Rv} : ∀ {d : List Pt} {s : List UInt8}, sizesE d = 0 → outI d = s.length → histE s l = 0 → s.length ≤ 500 → betL d l = compR d (betF ((textAt s l l.length).length : Nat) l) := by
  induction l with
  | nil =>
    intro d s hd ho _ hs
    obtain ⟨u1, u2, u3, u4⟩ := comp_units hd
    show d = compR d (allN ((s.length : Nat) : Int))
    rw [← ho, compR, if_pos u3, u4]
  | cons r l ih =>
    intro d s hd ho h hs
    obtain ⟨h1, h2, h3, h4⟩ := hist_cons h
    obtain ⟨o1, o2⟩ := do_out h2 h3
    obtain ⟨b, hb, b1, b2, b3, b4⟩ := bet_facts h4 o2
    have c1 : compE d r.d = 0 := comp_is hd h2 (by omega)
    have c2 : compE r.d b = 0 := comp_is h2 b1 (by omega)
    obtain ⟨x, _, _, f1, f2, f3, f4, _⟩ := comp_facts c1
    obtain ⟨y, _, _, g1, g2, g3, g4, _⟩ := comp_facts c2
    obtain ⟨z1, z2, z3⟩ := comp_assoc c1 c2
    show betL (compR d r.d) l = compR d (compR r.d (betF _ l))
    rw [ih (d := compR d r.d) (s := doL r.d s) (by rw [f4]; exact f1) (by rw [f4, f3]; omega) h4 o2]
    have hb' : betF ((textAt s (r :: l) (r :: l).length).length : Nat) l = b := hb
    rw [hb', hb, f4, g4, compR, if_pos z1, compR, if_pos z2, z3]
/-- between three it is the parts' as one -/
theorem bet_app {a b : List Rv} {s : List UInt8} (h : histE s (a ++ b) = 0) (hs : s.length ≤ 500) (ha : histE s a = 0) (hb : histE (textAt s a a.length) b = 0) :
    betF ((textAt (textAt s a a.length) b b.length).length : Nat) (a ++ b) = compR (betF ((textAt s a a.length).length : Nat) a) (betF ((textAt (textAt s a a.length) b b.length).length : Nat) b) := by
  induction a generalizing s with
  | nil =>
    obtain ⟨x, hx, x1, x2, x3, x4⟩ := bet_facts hb (by exact hs)
    obtain ⟨u1, u2, u3, u4⟩ := comp_units x1
    have e : textAt s [] ([] : List Rv).length = s := rfl
    rw [e] at hx x2 ⊢
    rw [List.nil_append, hx]
    show x = compR (allN ((s.length : Nat) : Int)) x
    rw [← x2, compR, if_pos u1, u2]
  | cons r a ih =>
    obtain ⟨h1, h2, h3, h4⟩ := hist_cons h
    obtain ⟨_, _, _, k4⟩ := hist_cons ha
    obtain ⟨o1, o2⟩ := do_out h2 h3
    have i := ih h4 o2 k4 hb
    have e1 : textAt s (r :: a) (r :: a).length = textAt (doL r.d s) a a.length := rfl
    rw [e1]
    show compR r.d (betF _ (a ++ b)) = compR (compR r.d (betF _ a)) _
    rw [i]
    have hm := text_le k4 o2 a.length
    obtain ⟨x, hx, x1, x2, x3, x4⟩ := bet_facts k4 o2
    obtain ⟨y, hy, y1, y2, y3, y4⟩ := bet_facts hb (by rw [e1]; exact hm)
    rw [e1] at hy y2
    rw [hx, hy]
    have c1 : compE r.d x = 0 := comp_is h2 x1 (by omega)
    have c2 : compE x y = 0 := comp_is x1 y1 (by omega)
    obtain ⟨_, _, _, _, _, _, f4, _⟩ := comp_facts c1
    obtain ⟨_, _, _, _, _, _, g4, _⟩ := comp_facts c2
    obtain ⟨z1, z2, z3⟩ := comp_assoc c1 c2
    rw [f4, g4, compR, if_pos z2, compR, if_pos z1, z3]
end Go.Proofs.Ytcghojnmnmmpoaa

/- Whose each byte is: no program in it. -/
namespace Go.Proofs.Ytcghojnmnmmpoaa
set_option linter.unusedSimpArgs false
set_option linter.unusedVariables false

/-- what is kept stays whose it was, what is put is i's -/
def blW : List Tok → List Nat → Nat → List Nat
  | [], _, _ => []
  | ⟨.inl true⟩ :: w, x, i => x.take 1 ++ blW w (x.drop 1) i
  | ⟨.inl false⟩ :: w, x, i => blW w (x.drop 1) i
  | ⟨.inr _⟩ :: w, x, i => i :: blW w x i
/-- how many bytes a word puts -/
def putW : List Tok → Nat
  | [] => 0
  | ⟨.inl _⟩ :: w => putW w
  | ⟨.inr _⟩ :: w => putW w + 1
theorem blW_len {w : List Tok} : ∀ {x : List Nat} {i : Nat}, x.length = inW w → (blW w x i).length = outW w := by
  induction w with
  | nil => intro x i _; rfl
  | cons t w ih =>
    intro x i h
    cases t using Tok.by3 with
    | K =>
      cases x with
      | nil => simp [inW, Tok.K] at h
      | cons a x =>
        have := ih (x := x) (i := i) (by simpa [inW, Tok.K] using h)
        simp [blW, outW, Tok.K, this]
    | X =>
      cases x with
      | nil => simp [inW, Tok.X] at h
      | cons a x =>
        have := ih (x := x) (i := i) (by simpa [inW, Tok.X] using h)
        simp [blW, outW, Tok.X, this]
    | P c =>
      have := ih (x := x) (i := i) (by simpa [inW, Tok.P] using h)
      simp [blW, outW, Tok.P, this]
theorem blW_map (f : Nat → Nat) {w : List Tok} : ∀ (x : List Nat) (i : Nat), blW w (x.map f) (f i) = (blW w x i).map f := by
  induction w with
  | nil => intro x i; rfl
  | cons t w ih =>
    intro x i
    cases t using Tok.by3 with
    | K =>
      cases x with
      | nil => have := ih [] i; simpa [blW, Tok.K] using this
      | cons a x => have := ih x i; simpa [blW, Tok.K] using this
    | X =>
      cases x with
      | nil => have := ih [] i; simpa [blW, Tok.X] using this
      | cons a x => have := ih x i; simpa [blW, Tok.X] using this
    | P c => have := ih x i; simp [blW, Tok.P, this]
theorem blW_mem {w : List Tok} : ∀ {x : List Nat} {i n : Nat}, n ∈ blW w x i → n ∈ x ∨ n = i := by
  induction w with
  | nil => intro x i n h; simp [blW] at h
  | cons t w ih =>
    intro x i n h
    cases t using Tok.by3 with
    | K =>
      cases x with
      | nil => exact ih (x := []) (by simpa [blW, Tok.K] using h)
      | cons a x =>
        simp only [blW, Tok.K, List.take_succ_cons, List.take_zero, List.drop_succ_cons, List.drop_zero, List.cons_append, List.nil_append, List.mem_cons] at h
        rcases h with rfl | h
        · exact .inl (by simp)
        · rcases ih h with h | h
          · exact .inl (by simp [h])
          · exact .inr h
    | X =>
      cases x with
      | nil => exact ih (x := []) (by simpa [blW, Tok.X] using h)
      | cons a x =>
        rcases ih (x := x) (by simpa [blW, Tok.X] using h) with h | h
        · exact .inl (by simp [h])
        · exact .inr h
    | P c =>
      simp only [blW, Tok.P, List.mem_cons] at h
      rcases h with rfl | h
      · exact .inr rfl
      · exact ih h
/-- of each but i no more is left -/
theorem blW_count {w : List Tok} : ∀ {x : List Nat} {i n : Nat}, n ≠ i → (blW w x i).count n ≤ x.count n := by
  induction w with
  | nil => intro x i n _; simp [blW]
  | cons t w ih =>
    intro x i n h
    cases t using Tok.by3 with
    | K =>
      cases x with
      | nil => have := ih (x := []) h; simpa [blW, Tok.K] using this
      | cons a x =>
        have := ih (x := x) h
        simp only [blW, Tok.K, List.take_succ_cons, List.take_zero, List.drop_succ_cons, List.drop_zero, List.cons_append, List.nil_append, List.count_cons]
        omega
    | X =>
      cases x with
      | nil => have := ih (x := []) h; simpa [blW, Tok.X] using this
      | cons a x =>
        have := ih (x := x) h
        simp only [blW, Tok.X, List.drop_succ_cons, List.drop_zero, List.count_cons]
        omega
    | P c =>
      have := ih (x := x) h
      have e : (i == n) = false := by rw [beq_eq_false_iff_ne]; exact fun e => h e.symm
      simp only [blW, Tok.P, List.count_cons, e]
      simpa using this
/-- and of i just what is put, where nothing was its own -/
theorem blW_own {w : List Tok} : ∀ {x : List Nat} {i : Nat}, i ∉ x → (blW w x i).count i = putW w := by
  induction w with
  | nil => intro x i _; rfl
  | cons t w ih =>
    intro x i h
    cases t using Tok.by3 with
    | K =>
      cases x with
      | nil => have := ih (x := []) h; simpa [blW, putW, Tok.K] using this
      | cons a x =>
        have := ih (x := x) (i := i) (by simp at h; exact h.2)
        have e : (a == i) = false := by rw [beq_eq_false_iff_ne]; simp at h; exact fun e => h.1 e.symm
        simp only [blW, Tok.K, putW, List.take_succ_cons, List.take_zero, List.drop_succ_cons, List.drop_zero, List.cons_append, List.nil_append, List.count_cons, e]
        simpa using this
    | X =>
      cases x with
      | nil => have := ih (x := []) h; simpa [blW, putW, Tok.X] using this
      | cons a x =>
        have := ih (x := x) (i := i) (by simp at h; exact h.2)
        simpa [blW, putW, Tok.X] using this
    | P c =>
      have := ih (x := x) h
      simp [blW, putW, Tok.P, this]
/-- the other road: all is i's, and then each byte that is kept is whose it was -/
def fillW (x : List Nat) (out : List Nat) (ps : List (Nat × Nat)) : List Nat := ps.foldl (fun o p => o.set p.2 (x.getD p.1 0)) out
theorem fill_word {w : List Tok} : ∀ (x pre : List Nat) (j i : Nat), j + inW w ≤ x.length → fillW x (pre ++ List.replicate (outW w) i) (pairsW w j pre.length) = pre ++ blW w (x.drop j) i := by
  induction w with
  | nil => intro x pre j i _; simp [fillW, pairsW, outW, blW]
  | cons t w ih =>
    intro x pre j i h
    cases t using Tok.by3 with
    | K =>
      simp only [inW, Tok.K] at h
      obtain ⟨a, ha⟩ : ∃ a, x[j]? = some a := ⟨x[j]'(by omega), List.getElem?_eq_getElem _⟩
      have hd : x.drop j = a :: x.drop (j + 1) := by
        obtain ⟨h1, h2⟩ := List.getElem?_eq_some_iff.1 ha
        rw [List.drop_eq_getElem_cons h1, h2]
      have hset : (pre ++ List.replicate (outW w + 1) i).set pre.length (x.getD j 0) = (pre ++ [a]) ++ List.replicate (outW w) i := by
        rw [List.set_append_right _ _ (Nat.le_refl _), Nat.sub_self, List.replicate_succ, List.set_cons_zero, List.getD_eq_getElem?_getD, ha]
        simp
      have := ih x (pre ++ [a]) (j + 1) i (by omega)
      rw [List.length_append, List.length_singleton] at this
      simp only [fillW, pairsW, outW, Tok.K, List.foldl_cons, blW, hd]
      rw [hset]
      simp only [fillW] at this
      rw [this]
      simp
    | X =>
      simp only [inW, Tok.X] at h
      have := ih x pre (j + 1) i (by omega)
      simp only [pairsW, outW, Tok.X, blW]
      rw [this, List.drop_drop]
    | P c =>
      simp only [inW, Tok.P] at h
      have := ih x (pre ++ [i]) j i h
      rw [List.length_append, List.length_singleton] at this
      simp only [pairsW, outW, Tok.P, blW, List.replicate_succ]
      rw [show pre ++ i :: List.replicate (outW w) i = (pre ++ [i]) ++ List.replicate (outW w) i by simp, this]
      simp
/-- a history's -/
def blameL : List Nat → List Rv → Nat → List Nat
  | x, [], _ => x
  | x, r :: l, i => blameL (blW (wordL r.d) x i) l (i + 1)
theorem blame_fill {r : Rv} {x : List Nat} {i : Nat} (h : sizesE r.d = 0) (hx : (x.length : Int) = inI r.d) : fillW x (List.replicate (outI r.d).toNat i) (pairsL r.d) = blW (wordL r.d) x i := by
  obtain ⟨g, c, e1, e2, l, m⟩ := delta_facts h
  have := fill_word (w := wordL r.d) x [] 0 i (by omega)
  simp only [List.nil_append, List.length_nil, List.drop_zero] at this
  rw [show (outI r.d).toNat = outW (wordL r.d) by omega, pairsL]
  exact this
theorem blame_app (a b : List Rv) : ∀ (x : List Nat) (i : Nat), blameL x (a ++ b) i = blameL (blameL x a i) b (i + a.length) := by
  induction a with
  | nil => intro x i; rfl
  | cons r a ih =>
    intro x i
    show blameL _ (a ++ b) (i + 1) = blameL (blameL _ a (i + 1)) b _
    rw [ih, List.length_cons, show i + 1 + a.length = i + (a.length + 1) by omega]
theorem blame_len {l : List Rv} : ∀ {s : List UInt8} {x : List Nat} {i : Nat}, histE s l = 0 → x.length = s.length → (blameL x l i).length = (textAt s l l.length).length := by
  induction l with
  | nil => intro s x i _ h; exact h
  | cons r l ih =>
    intro s x i h hx
    obtain ⟨_, h2, h3, h4⟩ := hist_cons h
    obtain ⟨g, c, e1, e2, _, _⟩ := delta_facts h2
    have o := (do_out h2 h3).1
    have hb := blW_len (w := wordL r.d) (x := x) (i := i) (by omega)
    exact ih (s := doL r.d s) (x := blW (wordL r.d) x i) (i := i + 1) h4 (by omega)
theorem blame_mem {l : List Rv} : ∀ {x : List Nat} {i n : Nat}, n ∈ blameL x l i → n ∈ x ∨ (i ≤ n ∧ n < i + l.length) := by
  induction l with
  | nil => intro x i n h; exact .inl h
  | cons r l ih =>
    intro x i n h
    rcases ih h with h | h
    · rcases blW_mem h with h | rfl
      · exact .inl h
      · exact .inr ⟨Nat.le_refl _, by simp⟩
    · exact .inr ⟨by omega, by simp only [List.length_cons]; omega⟩
/-- numbers from another beginning on -/
theorem blame_from {l : List Rv} : ∀ (x : List Nat) {k i : Nat}, k ≤ i → blameL (x.map (· - k)) l (i - k) = (blameL x l i).map (· - k) := by
  induction l with
  | nil => intro x k i _; rfl
  | cons r l ih =>
    intro x k i h
    show blameL (blW _ (x.map (· - k)) ((· - k) i)) l (i - k + 1) = (blameL _ l (i + 1)).map _
    rw [blW_map (· - k), show i - k + 1 = (i + 1) - k by omega]
    exact ih _ (by omega)
/-- of those ahead no more is left -/
theorem blame_less {l : List Rv} : ∀ {x : List Nat} {i n : Nat}, n < i → (blameL x l i).count n ≤ x.count n := by
  induction l with
  | nil => intro x i n _; exact Nat.le_refl _
  | cons r l ih =>
    intro x i n h
    exact Nat.le_trans (ih (x := blW (wordL r.d) x i) (i := i + 1) (by omega)) (blW_count (by omega))
/-- of each revision no more bytes are left than it put; the last one's are all there -/
theorem blame_puts {a b : List Rv} {r : Rv} {x : List Nat} {i : Nat} (hx : ∀ n ∈ x, n < i) : (blameL x (a ++ r :: b) i).count (i + a.length) ≤ putW (wordL r.d) ∧ (b = [] → (blameL x (a ++ r :: b) i).count (i + a.length) = putW (wordL r.d)) := by
  have hn : i + a.length ∉ blameL x a i := by
    intro h
    rcases blame_mem h with h | h
    · have := hx _ h; omega
    · omega
  have e : blameL x (a ++ r :: b) i = blameL (blW (wordL r.d) (blameL x a i) (i + a.length)) b (i + a.length + 1) := by rw [blame_app]; rfl
  have ho := blW_own (w := wordL r.d) hn
  refine ⟨?_, ?_⟩
  · rw [e, ← ho]
    exact blame_less (by omega)
  · intro hb
    subst hb
    rw [e]; exact ho
/-- what a delta puts -/
def putsI (l : List Pt) : Nat := match l with
  | [] => 0
  | p :: r => p.t.size + putsI r
theorem putW_app (a b : List Tok) : putW (a ++ b) = putW a + putW b := by
  induction a with
  | nil => simp [putW]
  | cons t a ih => cases t using Tok.by3 <;> simp [putW, Tok.K, Tok.X, Tok.P, ih] <;> omega
theorem putW_rep (n : Nat) (b : Bool) : putW (List.replicate n ⟨.inl b⟩) = 0 := by
  induction n with
  | zero => rfl
  | succ n ih => rw [List.replicate_succ]; cases b <;> simpa [putW] using ih
theorem putW_put (t : List UInt8) : putW (t.map .P) = t.length := by
  induction t with
  | nil => rfl
  | cons c t ih => simp [putW, Tok.P, ih]
theorem puts_word {l : List Pt} (h : Right l) : putW (wordL l) = putsI l := by
  induction l with
  | nil => rfl
  | cons p r ih =>
    obtain ⟨h1, h2, h3, h4⟩ := h p (by simp)
    rw [wordL_cons, putW_app, ih (fun q hq => h q (by simp [hq])), putsI]
    congr 1
    unfold wordP
    by_cases e1 : p.k = 1
    · rw [if_pos e1]
      have := (h3 (by omega)).1
      rw [this]; exact putW_rep _ true
    · by_cases e2 : p.k = 2
      · rw [if_neg e1, if_pos e2, putW_put]; exact Array.length_toList
      · rw [if_neg e1, if_neg e2]
        have := (h3 e2).1
        rw [this]; exact putW_rep _ false

end Go.Proofs.Ytcghojnmnmmpoaa

/- More on the texts of a history: no program in it. -/
namespace Go.Proofs.Ytcghojnmnmmpoaa
set_option linter.unusedSimpArgs false
set_option linter.unusedVariables false

theorem drop_rv {l : List Rv} {i : Nat} {p : Rv} (h : l[i]? = some p) : l.drop i = p :: l.drop (i + 1) := by
  obtain ⟨h1, rfl⟩ := List.getElem?_eq_some_iff.1 h
  exact List.drop_eq_getElem_cons h1
theorem text_next {s : List UInt8} {l : List Rv} {i : Nat} {r : Rv} (h : l[i]? = some r) : textAt s l (i + 1) = doL r.d (textAt s l i) := by
  have h1 := (List.getElem?_eq_some_iff.1 h).1
  rw [← text_drop s i 1 (by omega), drop_rv h]
  exact text_zero _ _
theorem hist_at {s : List UInt8} {l : List Rv} {i : Nat} {r : Rv} (hh : histE s l = 0) (h : l[i]? = some r) : oneE r = 0 ∧ sizesE r.d = 0 ∧ inI r.d = ((textAt s l i).length : Nat) ∧ outI r.d = ((textAt s l (i + 1)).length : Nat) := by
  have h1 := (hist_cut hh i).2
  rw [drop_rv h] at h1
  obtain ⟨h2, h3, h4, _⟩ := hist_cons h1
  exact ⟨h2, h3, h4, by rw [text_next h, ← (do_out h3 h4).1]⟩
theorem hist_ends {s : List UInt8} {l : List Rv} {k : Nat} (hk : l.length ≤ k) : l.drop k = [] := List.drop_eq_nil_of_le hk
/-- what Text answers -/
def textE (s : List UInt8) (l : List Rv) (k : Int) : Int := if checkE s l = 0 then (if k < 0 ∨ (l.length : Int) < k then 1 else 0) else checkE s l
def textR (s : List UInt8) (l : List Rv) (k : Int) : List UInt8 := if textE s l k = 0 then textAt s l k.toNat else []
theorem textE_bad {s : List UInt8} {l : List Rv} {k : Int} (h : checkE s l ≠ 0) : textE s l k = checkE s l ∧ textR s l k = [] := by
  have h1 : textE s l k = checkE s l := by rw [textE, if_neg h]
  exact ⟨h1, by rw [textR, h1, if_neg h]⟩
theorem textE_arg {s : List UInt8} {l : List Rv} {k : Int} (h : checkE s l = 0) (hk : k < 0 ∨ (l.length : Int) < k) : textE s l k = 1 ∧ textR s l k = [] := by
  have h1 : textE s l k = 1 := by rw [textE, if_pos h, if_pos hk]
  exact ⟨h1, by rw [textR, h1]; rfl⟩
theorem textE_ok {s : List UInt8} {l : List Rv} {k : Nat} (h : checkE s l = 0) (hk : k ≤ l.length) : textE s l k = 0 ∧ textR s l k = textAt s l k := by
  have h1 : textE s l k = 0 := by rw [textE, if_pos h, if_neg (by omega)]
  exact ⟨h1, by rw [textR, h1, if_pos rfl, Int.toNat_natCast]⟩
/-- a beginning, and the rest -/
theorem check_cut {s : List UInt8} {l : List Rv} (h : checkE s l = 0) (k : Nat) : checkE s (l.take k) = 0 ∧ checkE (textAt s l k) (l.drop k) = 0 := by
  obtain ⟨h1, h2, h3⟩ := check_zero h
  obtain ⟨h4, h5⟩ := hist_cut h3 k
  have h6 := text_le h3 h1 k
  refine ⟨?_, ?_⟩
  · rw [checkE, if_neg (by rw [List.length_take]; omega)]; exact h4
  · rw [checkE, if_neg (by rw [List.length_drop]; omega)]; exact h5
/-- what Between answers -/
def betE (s : List UInt8) (l : List Rv) (i k : Int) : Int := if checkE s l = 0 then (if i < 0 ∨ k < i ∨ (l.length : Int) < k then 1 else 0) else checkE s l
def betO (s : List UInt8) (l : List Rv) (i k : Nat) : List Pt := betF ((textAt s l k).length : Nat) ((l.take k).drop i)
def betR (s : List UInt8) (l : List Rv) (i k : Int) : List Pt := if betE s l i k = 0 then betO s l i.toNat k.toNat else []
theorem betE_bad {s : List UInt8} {l : List Rv} {i k : Int} (h : checkE s l ≠ 0) : betE s l i k = checkE s l ∧ betR s l i k = [] := by
  have h1 : betE s l i k = checkE s l := by rw [betE, if_neg h]
  exact ⟨h1, by rw [betR, h1, if_neg h]⟩
theorem betE_arg {s : List UInt8} {l : List Rv} {i k : Int} (h : checkE s l = 0) (hk : i < 0 ∨ k < i ∨ (l.length : Int) < k) : betE s l i k = 1 ∧ betR s l i k = [] := by
  have h1 : betE s l i k = 1 := by rw [betE, if_pos h, if_pos hk]
  exact ⟨h1, by rw [betR, h1]; rfl⟩
theorem betE_ok {s : List UInt8} {l : List Rv} {i k : Nat} (h : checkE s l = 0) (hi : i ≤ k) (hk : k ≤ l.length) : betE s l i k = 0 ∧ betR s l i k = betO s l i k := by
  have h1 : betE s l i k = 0 := by rw [betE, if_pos h, if_neg (by omega)]
  exact ⟨h1, by rw [betR, h1, if_pos rfl, Int.toNat_natCast, Int.toNat_natCast]⟩
/-- the texts of a history from its i-th on, up to its k-th -/
theorem text_mid {s : List UInt8} {l : List Rv} {i k : Nat} (hi : i ≤ k) (hk : k ≤ l.length) : textAt (textAt s l i) ((l.take k).drop i) ((l.take k).drop i).length = textAt s l k := by
  have h1 : ((l.take k).drop i).length = k - i := by rw [List.length_drop, List.length_take]; omega
  have h2 : textAt s l i = textAt s (l.take k) i := (text_take s hi).symm
  rw [h1, h2, text_drop s i (k - i) (by rw [List.length_take]; omega), show i + (k - i) = k by omega, text_take s (Nat.le_refl k)]
theorem hist_mid {s : List UInt8} {l : List Rv} {i k : Nat} (h : histE s l = 0) (hi : i ≤ k) : histE (textAt s l i) ((l.take k).drop i) = 0 := by
  have h1 := (hist_cut (hist_cut h k).1 i).2
  rw [text_take s hi] at h1
  exact h1
/-- what comes between two revisions -/
theorem bet_says {s : List UInt8} {l : List Rv} {i k : Nat} (h : checkE s l = 0) (hi : i ≤ k) (hk : k ≤ l.length) :
    sizesE (betO s l i k) = 0 ∧ inI (betO s l i k) = ((textAt s l i).length : Nat) ∧ outI (betO s l i k) = ((textAt s l k).length : Nat) ∧ doL (betO s l i k) (textAt s l i) = textAt s l k := by
  obtain ⟨h1, h2, h3⟩ := check_zero h
  obtain ⟨b, hb, b1, b2, b3, b4⟩ := bet_facts (hist_mid h3 hi) (text_le h3 h1 i)
  rw [text_mid hi hk] at hb b3 b4
  rw [betO, hb]
  exact ⟨b1, b2, b3, b4⟩
/-- from the first one on it is the same -/
theorem bet_walk {s : List UInt8} {l : List Rv} {i k : Nat} (h : checkE s l = 0) (hi : i ≤ k) (hk : k ≤ l.length) :
    betL (allN ((textAt s l i).length : Nat)) ((l.take k).drop i) = betO s l i k := by
  obtain ⟨h1, h2, h3⟩ := check_zero h
  have h5 := text_le h3 h1 i
  obtain ⟨x1, x2, x3⟩ := all_facts (n := ((textAt s l i).length : Nat)) (by omega) (by omega)
  obtain ⟨y1, y2, y3, y4⟩ := bet_says h hi hk
  have h6 := bet_first (d := allN ((textAt s l i).length : Nat)) x1 x3 (hist_mid h3 hi) h5
  rw [text_mid hi hk] at h6
  rw [h6]
  obtain ⟨u1, u2, _, _⟩ := comp_units y1
  rw [y2] at u1 u2
  show compR _ (betO s l i k) = _
  rw [compR, if_pos u1, u2]
/-- between three it is the parts' as one -/
theorem bet_three {s : List UInt8} {l : List Rv} {i j k : Nat} (h : checkE s l = 0) (hi : i ≤ j) (hj : j ≤ k) (hk : k ≤ l.length) :
    compE (betO s l i j) (betO s l j k) = 0 ∧ compR (betO s l i j) (betO s l j k) = betO s l i k := by
  obtain ⟨h1, h2, h3⟩ := check_zero h
  obtain ⟨x1, x2, x3, _⟩ := bet_says h hi (by omega : j ≤ l.length)
  obtain ⟨y1, y2, y3, _⟩ := bet_says h hj hk
  refine ⟨comp_is x1 y1 (by rw [x3, y2]), ?_⟩
  have e : (l.take k).drop i = (l.take j).drop i ++ (l.take k).drop j := by
    have e1 : l.take k = l.take j ++ (l.take k).drop j := by
      have := List.take_append_drop j (l.take k)
      rw [List.take_take, Nat.min_eq_left hj] at this
      exact this.symm
    conv => lhs; rw [e1]
    rw [List.drop_append_of_le_length (by rw [List.length_take]; omega)]
  have hm1 := text_mid (s := s) hi (by omega : j ≤ l.length)
  have hm2 := text_mid (s := s) hj hk
  have hh := hist_mid h3 (by omega : i ≤ k)
  rw [e] at hh
  have ha := hist_mid h3 hi
  have hb : histE (textAt (textAt s l i) ((l.take j).drop i) ((l.take j).drop i).length) ((l.take k).drop j) = 0 := by rw [hm1]; exact hist_mid h3 hj
  have h7 := bet_app hh (text_le h3 h1 i) ha hb
  rw [hm1, hm2, ← e] at h7
  exact h7.symm
end Go.Proofs.Ytcghojnmnmmpoaa

/- Whose the bytes are behind one delta, part by part: no program in it. -/
namespace Go.Proofs.Ytcghojnmnmmpoaa
set_option linter.unusedSimpArgs false
set_option linter.unusedVariables false

def afterL : List Pt → List Nat → Nat → List Nat
  | [], _, _ => []
  | p :: r, x, n => (if p.k = 1 then x.take p.n.toNat else if p.k = 2 then List.replicate p.t.size n else []) ++ afterL r (x.drop p.n.toNat) n
theorem blW_K (n : Nat) (w : List Tok) : ∀ (x : List Nat) (i : Nat), blW (List.replicate n .K ++ w) x i = x.take n ++ blW w (x.drop n) i := by
  induction n with
  | zero => intro x i; simp
  | succ n ih =>
    intro x i
    rw [List.replicate_succ, List.cons_append]
    show x.take 1 ++ blW (List.replicate n .K ++ w) (x.drop 1) i = _
    rw [ih]
    cases x <;> simp
theorem blW_X (n : Nat) (w : List Tok) : ∀ (x : List Nat) (i : Nat), blW (List.replicate n .X ++ w) x i = blW w (x.drop n) i := by
  induction n with
  | zero => intro x i; simp
  | succ n ih =>
    intro x i
    rw [List.replicate_succ, List.cons_append]
    show blW (List.replicate n .X ++ w) (x.drop 1) i = _
    rw [ih]
    cases x <;> simp
theorem blW_P (t : List UInt8) (w : List Tok) (x : List Nat) (i : Nat) : blW (t.map .P ++ w) x i = List.replicate t.length i ++ blW w x i := by
  induction t with
  | nil => simp
  | cons c t ih =>
    rw [List.map_cons, List.cons_append, List.length_cons, List.replicate_succ, List.cons_append]
    show i :: blW (t.map .P ++ w) x i = _
    rw [ih]
theorem after_word {d : List Pt} (h : Right d) (n : Nat) : ∀ x, afterL d x n = blW (wordL d) x n := by
  induction d with
  | nil => intro x; rfl
  | cons p r ih =>
    intro x
    have ih' := ih (fun q hq => h q (by simp [hq]))
    obtain ⟨h1, h2, h3, h4⟩ := h p (by simp)
    rw [wordL_cons, afterL]
    unfold wordP
    by_cases e1 : p.k = 1
    · rw [if_pos e1, if_pos e1, blW_K, ih']
    · by_cases e2 : p.k = 2
      · rw [if_neg e1, if_pos e2, if_neg e1, if_pos e2, blW_P, ih', h2 e2]
        have : p.t.data.toList.length = p.t.size := Array.length_toList
        rw [this]; rfl
      · rw [if_neg e1, if_neg e2, if_neg e1, if_neg e2, blW_X, ih', List.nil_append]
/-- what Of answers -/
def blameR (s : List UInt8) (l : List Rv) : List Nat := if checkE s l = 0 then blameL (List.replicate s.length 0) l 1 else []
theorem blame_step {s : List UInt8} {l : List Rv} {k : Nat} {r : Rv} (h : l[k]? = some r) (x : List Nat) : blameL x (l.take (k + 1)) 1 = blW (wordL r.d) (blameL x (l.take k) 1) (k + 1) := by
  obtain ⟨h1, h2⟩ := List.getElem?_eq_some_iff.1 h
  rw [List.take_succ_eq_append_getElem h1, h2, blame_app, List.length_take, Nat.min_eq_left (by omega), Nat.add_comm 1 k]
  rfl
theorem blame_at {s : List UInt8} {l : List Rv} {k : Nat} (h : histE s l = 0) (hk : k ≤ l.length) : (blameL (List.replicate s.length 0) (l.take k) 1).length = (textAt s l k).length := by
  have h1 := blame_len (i := 1) (hist_cut h k).1 (show (List.replicate s.length 0).length = s.length by simp)
  rw [h1, List.length_take, Nat.min_eq_left hk, text_take s (Nat.le_refl k)]
end Go.Proofs.Ytcghojnmnmmpoaa

/- One revision taken back, the later ones left: no program in it. -/
namespace Go.Proofs.Ytcghojnmnmmpoaa
set_option linter.unusedSimpArgs false
set_option linter.unusedVariables false

/-- what is left of d behind revision after revision, and the error -/
def undoF : List Pt → List Rv → List Pt × Int
  | d, [] => (d, 0)
  | d, r :: l => if meetE r.d d = 0 then undoF (meetR r.d d) l else ([], meetE r.d d)
/-- what Of answers, of a right history and a k from 1 to its length -/
def undoD (s : List UInt8) (l : List Rv) (k : Nat) : List Pt × Int := match l[k - 1]? with
  | some r => undoF (turnL r.d (textAt s l (k - 1))) (l.drop k)
  | none => ([], 1)
theorem undoD_at {s : List UInt8} {l : List Rv} {k : Nat} {r : Rv} (h : l[k - 1]? = some r) : undoD s l k = undoF (turnL r.d (textAt s l (k - 1))) (l.drop k) := by
  rw [undoD, h]
theorem meet_err {a b : List Pt} (h1 : sizesE a = 0) (h2 : sizesE b = 0) (h3 : inI a = inI b) : meetE a b = 0 ∨ meetE a b = 2 := by
  rw [meet_is h1 h2 h3]; split <;> simp
/-- that it is a delta of the last text; or too large -/
theorem undo_facts {l : List Rv} : ∀ {d : List Pt} {t : List UInt8}, histE t l = 0 → sizesE d = 0 → inI d = (t.length : Nat) →
    ((undoF d l).2 = 0 ∧ sizesE (undoF d l).1 = 0 ∧ inI (undoF d l).1 = ((textAt t l l.length).length : Nat)) ∨ ((undoF d l).2 = 2 ∧ (undoF d l).1 = []) := by
  induction l with
  | nil => intro d t _ h1 h2; exact .inl ⟨rfl, h1, h2⟩
  | cons r l ih =>
    intro d t h h1 h2
    obtain ⟨h3, h4, h5, h6⟩ := hist_cons h
    have hin : inI r.d = inI d := by rw [h5, h2]
    by_cases hm : meetE r.d d = 0
    · rw [undoF, if_pos hm]
      obtain ⟨f1, f2, f3, f4, f5, _⟩ := meet_facts hm
      exact ih h6 f2 (by rw [f4, (do_out h4 h5).1])
    · rw [undoF, if_neg hm]
      rcases meet_err h4 h1 hin with h | h
      · exact absurd h hm
      · exact .inr ⟨h, rfl⟩
theorem turn_of {s : List UInt8} {l : List Rv} {k : Nat} {r : Rv} (hh : histE s l = 0) (h : l[k]? = some r) :
    sizesE (turnL r.d (textAt s l k)) = 0 ∧ inI (turnL r.d (textAt s l k)) = ((textAt s l (k + 1)).length : Nat) ∧ doL (turnL r.d (textAt s l k)) (textAt s l (k + 1)) = textAt s l k := by
  obtain ⟨_, q2, q3, q4⟩ := hist_at hh h
  obtain ⟨t1, t2, _, _⟩ := turn_facts q2 q3.symm
  exact ⟨t1, by rw [t2, q4], by rw [text_next h]; exact (turn_back q2 q3.symm).1⟩
theorem undo_says {s : List UInt8} {l : List Rv} {k : Nat} (hh : histE s l = 0) (h1 : 1 ≤ k) (h2 : k ≤ l.length) :
    ((undoD s l k).2 = 0 ∧ sizesE (undoD s l k).1 = 0 ∧ inI (undoD s l k).1 = ((textAt s l l.length).length : Nat)) ∨ ((undoD s l k).2 = 2 ∧ (undoD s l k).1 = []) := by
  obtain ⟨r, hr⟩ : ∃ r, l[k - 1]? = some r := ⟨l[k - 1]'(by omega), List.getElem?_eq_getElem _⟩
  obtain ⟨t1, t2, _⟩ := turn_of hh hr
  rw [show k - 1 + 1 = k by omega] at t2
  rw [undoD_at hr]
  have h3 := (hist_cut hh k).2
  have h4 := undo_facts h3 t1 t2
  have h5 : textAt (textAt s l k) (l.drop k) (l.drop k).length = textAt s l l.length := by
    rw [text_drop s k _ h2, List.length_drop, show k + (l.length - k) = l.length by omega]
  rw [h5] at h4
  exact h4
/-- the last one taken back leaves what was ahead of it -/
theorem undo_last {s : List UInt8} {l : List Rv} (hh : histE s l = 0) (h : 1 ≤ l.length) : (undoD s l l.length).2 = 0 ∧ doL (undoD s l l.length).1 (textAt s l l.length) = textAt s l (l.length - 1) := by
  obtain ⟨r, hr⟩ : ∃ r, l[l.length - 1]? = some r := ⟨l[l.length - 1]'(by omega), List.getElem?_eq_getElem _⟩
  obtain ⟨t1, t2, t3⟩ := turn_of hh hr
  rw [show l.length - 1 + 1 = l.length by omega] at t3
  rw [undoD_at hr, List.drop_eq_nil_of_le (Nat.le_refl _)]
  exact ⟨rfl, t3⟩

/-- which bytes are kept -/
def patW : List Tok → List Bool
  | [] => []
  | ⟨.inl b⟩ :: w => b :: patW w
  | ⟨.inr _⟩ :: w => patW w
theorem pat_app (a b : List Tok) : patW (a ++ b) = patW a ++ patW b := by
  induction a with
  | nil => rfl
  | cons t a ih => cases t using Tok.by3 <;> simp [patW, Tok.K, Tok.X, Tok.P, ih]
theorem pat_len (w : List Tok) : (patW w).length = inW w := by
  induction w with
  | nil => rfl
  | cons t w ih => cases t using Tok.by3 <;> simp [patW, inW, Tok.K, Tok.X, Tok.P, ih]
theorem pat_rep (n : Nat) (b : Bool) : patW (List.replicate n ⟨.inl b⟩) = List.replicate n b := by
  induction n with
  | zero => rfl
  | succ n ih => rw [List.replicate_succ, List.replicate_succ, patW, ih]
theorem pat_map (t : List UInt8) : patW (t.map .P) = [] := by
  induction t with
  | nil => rfl
  | cons c t ih => simpa [patW, Tok.P] using ih
theorem pairs_ge (w : List Tok) : ∀ (i k : Nat), ∀ p ∈ pairsW w i k, i ≤ p.1 := by
  induction w with
  | nil => intro i k p h; simp [pairsW] at h
  | cons t w ih =>
    intro i k p h
    cases t using Tok.by3 with
    | K =>
      simp only [pairsW, Tok.K, List.mem_cons] at h
      rcases h with rfl | h
      · exact Nat.le_refl _
      · have := ih _ _ p h; omega
    | X => have := ih (i + 1) k p (by simpa [pairsW, Tok.X] using h); omega
    | P c => exact ih i (k + 1) p (by simpa [pairsW, Tok.P] using h)
theorem pat_pairs (w : List Tok) : ∀ (i k m : Nat), m < inW w → ((patW w)[m]? = some true ↔ ∃ p ∈ pairsW w i k, p.1 = i + m) := by
  induction w with
  | nil => intro i k m h; simp [inW] at h
  | cons t w ih =>
    intro i k m h
    cases t using Tok.by3 with
    | K =>
      simp only [patW, pairsW, Tok.K, List.mem_cons, inW] at h ⊢
      cases m with
      | zero => simp
      | succ m =>
        rw [List.getElem?_cons_succ, ih (i + 1) (k + 1) m (by omega)]
        constructor
        · rintro ⟨p, h1, h2⟩; exact ⟨p, .inr h1, by omega⟩
        · rintro ⟨p, h1 | h1, h2⟩
          · subst h1; simp at h2
          · exact ⟨p, h1, by omega⟩
    | X =>
      simp only [patW, pairsW, Tok.X, inW] at h ⊢
      cases m with
      | zero =>
        simp only [List.getElem?_cons_zero, Option.some.injEq, Bool.false_eq_true, Nat.add_zero, false_iff, not_exists, not_and]
        intro p hp e
        have := pairs_ge w (i + 1) k p hp
        omega
      | succ m =>
        rw [List.getElem?_cons_succ, ih (i + 1) k m (by omega)]
        constructor
        · rintro ⟨p, h1, h2⟩; exact ⟨p, h1, by omega⟩
        · rintro ⟨p, h1, h2⟩; exact ⟨p, h1, by omega⟩
    | P c =>
      simp only [patW, pairsW, Tok.P, inW] at h ⊢
      exact ih i (k + 1) m h
theorem Sem.pat {a b : List Tok} (h : Sem a b) : patW a = patW b := by
  refine List.ext_getElem? fun m => ?_
  by_cases hm : m < inW a
  · have h1 := pat_pairs a 0 0 m hm
    have h2 := pat_pairs b 0 0 m (by rw [← h.ins]; exact hm)
    rw [h.prs] at h1
    have e1 : ∃ x, (patW a)[m]? = some x := ⟨_, List.getElem?_eq_getElem (by rw [pat_len]; exact hm)⟩
    have e2 : ∃ y, (patW b)[m]? = some y := ⟨_, List.getElem?_eq_getElem (by rw [pat_len, ← h.ins]; exact hm)⟩
    obtain ⟨x, e1⟩ := e1
    obtain ⟨y, e2⟩ := e2
    rw [e1] at h1
    rw [e2] at h2
    rw [e1, e2]
    have : (x = true) ↔ (y = true) := by
      have h3 : (some x = some true) ↔ (some y = some true) := h1.trans h2.symm
      simpa using h3
    cases x <;> cases y <;> simp_all
  · rw [List.getElem?_eq_none (by rw [pat_len]; omega), List.getElem?_eq_none (by rw [pat_len, ← h.ins]; omega)]
/-- not k's -/
def notK (k : Nat) (x : List Nat) : List Bool := x.map (fun q => decide (q ≠ k))
/-- what is left behind a revision cuts just what is k's still -/
theorem Mt.pat {a b x y : List Tok} (h : Mt a b x y) (k n : Nat) (hn : n ≠ k) : ∀ xs : List Nat, patW b = notK k xs → patW y = notK k (blW a xs n) := by
  refine h (fun a b x y => ∀ xs : List Nat, patW b = notK k xs → patW y = notK k (blW a xs n)) ?_ ?_ ?_ ?_ ?_ ?_ ?_
  · intro xs hx; rfl
  · intro c a b x y ih xs hx
    show true :: patW y = decide (n ≠ k) :: notK k (blW a xs n)
    rw [ih xs hx, decide_eq_true hn]
  · intro c a b x y _ ih xs hx
    exact ih xs hx
  · intro a b x y ih xs hx
    cases xs with
    | nil => simp [patW, notK, Tok.K] at hx
    | cons q xs =>
      have h1 : true = decide (q ≠ k) ∧ patW b = notK k xs := by simpa [patW, notK, Tok.K] using hx
      show true :: patW y = decide (q ≠ k) :: notK k (blW a xs n)
      rw [ih xs h1.2, ← h1.1]
  · intro a b x y ih xs hx
    cases xs with
    | nil => simp [patW, notK, Tok.X] at hx
    | cons q xs =>
      have h1 : false = decide (q ≠ k) ∧ patW b = notK k xs := by simpa [patW, notK, Tok.X] using hx
      show false :: patW y = decide (q ≠ k) :: notK k (blW a xs n)
      rw [ih xs h1.2, ← h1.1]
  · intro a b x y ih xs hx
    cases xs with
    | nil => simp [patW, notK, Tok.K] at hx
    | cons q xs =>
      have h1 : true = decide (q ≠ k) ∧ patW b = notK k xs := by simpa [patW, notK, Tok.K] using hx
      exact ih xs h1.2
  · intro a b x y ih xs hx
    cases xs with
    | nil => simp [patW, notK, Tok.X] at hx
    | cons q xs =>
      have h1 : false = decide (q ≠ k) ∧ patW b = notK k xs := by simpa [patW, notK, Tok.X] using hx
      exact ih xs h1.2
theorem turn_pat (k : Nat) (w : List Tok) : ∀ (s : List UInt8) (xs : List Nat), s.length = inW w → xs.length = inW w → (∀ q ∈ xs, q ≠ k) → patW (turnW w s) = notK k (blW w xs k) := by
  induction w with
  | nil => intro s xs _ _ _; rfl
  | cons t w ih =>
    intro s xs hs hx hk
    cases t using Tok.by3 with
    | K =>
      simp only [inW, Tok.K] at hs hx
      cases xs with
      | nil => simp at hx
      | cons q xs =>
        have hq : q ≠ k := hk q (by simp)
        have := ih (s.drop 1) xs (by rw [List.length_drop]; omega) (by simpa using hx) (fun q hq => hk q (by simp [hq]))
        show true :: patW (turnW w (s.drop 1)) = decide (q ≠ k) :: notK k (blW w xs k)
        rw [this, decide_eq_true hq]
    | X =>
      simp only [inW, Tok.X] at hs hx
      cases xs with
      | nil => simp at hx
      | cons q xs =>
        have := ih (s.drop 1) xs (by rw [List.length_drop]; omega) (by simpa using hx) (fun q hq => hk q (by simp [hq]))
        show patW ((s.take 1).map .P ++ turnW w (s.drop 1)) = notK k (blW w xs k)
        rw [pat_app, pat_map, List.nil_append, this]
    | P c =>
      simp only [inW, Tok.P] at hs hx
      have := ih s xs hs hx hk
      show false :: patW (turnW w s) = decide (k ≠ k) :: notK k (blW w xs k)
      rw [this]; simp
/-- what is cut as a revision is taken back is just what is left of what it put -/
theorem undo_pat {l : List Rv} : ∀ {d : List Pt} {t : List UInt8} {xs : List Nat} {k n : Nat}, histE t l = 0 → sizesE d = 0 → inI d = (t.length : Nat) → patW (wordL d) = notK k xs → k < n → (undoF d l).2 = 0 →
    patW (wordL (undoF d l).1) = notK k (blameL xs l n) := by
  induction l with
  | nil => intro d t xs k n _ _ _ h _ _; exact h
  | cons r l ih =>
    intro d t xs k n h h1 h2 hp hk he
    obtain ⟨h3, h4, h5, h6⟩ := hist_cons h
    have hin : inI r.d = inI d := by rw [h5, h2]
    by_cases hm : meetE r.d d = 0
    · rw [undoF, if_pos hm] at he ⊢
      obtain ⟨f1, f2, f3, f4, f5, _, f7⟩ := meet_facts hm
      have hy : patW (wordL (meetR r.d d)) = notK k (blW (wordL r.d) xs n) := by
        have h7 := (meet_mt h4 h1 hin).pat k n (by omega) xs hp
        rw [meetR, if_pos hm, (canon_sem _).pat]
        exact h7
      exact ih h6 f2 (by rw [f4, (do_out h4 h5).1]) hy (by omega) he
    · rw [undoF, if_neg hm] at he
      exact absurd he hm
theorem undo_own {s : List UInt8} {l : List Rv} {k : Nat} (hh : histE s l = 0) (h1 : 1 ≤ k) (h2 : k ≤ l.length) (he : (undoD s l k).2 = 0) :
    patW (wordL (undoD s l k).1) = notK k (blameL (List.replicate s.length 0) l 1) := by
  obtain ⟨r, hr⟩ : ∃ r, l[k - 1]? = some r := ⟨l[k - 1]'(by omega), List.getElem?_eq_getElem _⟩
  obtain ⟨t1, t2, _⟩ := turn_of hh hr
  obtain ⟨_, q2, q3, q4⟩ := hist_at hh hr
  rw [show k - 1 + 1 = k by omega] at t2
  rw [undoD_at hr] at he ⊢
  obtain ⟨g, c, i, o, b1, b2⟩ := delta_facts q2
  have hx := blame_at hh (show k - 1 ≤ l.length by omega)
  have hp : patW (wordL (turnL r.d (textAt s l (k - 1)))) = notK k (blW (wordL r.d) (blameL (List.replicate s.length 0) (l.take (k - 1)) 1) k) := by
    rw [turn_canon q2 q3.symm, (canon_sem _).pat]
    refine turn_pat k (wordL r.d) _ _ (by omega) (by omega) (fun q hq => ?_)
    rcases blame_mem hq with h | h
    · have := (List.mem_replicate.1 h).2; omega
    · rw [List.length_take] at h; omega
  have h3 := undo_pat (n := k + 1) (hist_cut hh k).2 t1 t2 hp (by omega) he
  rw [h3]
  have hs : blW (wordL r.d) (blameL (List.replicate s.length 0) (l.take (k - 1)) 1) k = blameL (List.replicate s.length 0) (l.take k) 1 := by
    have h4 := blame_step (s := s) hr (List.replicate s.length 0)
    rw [show k - 1 + 1 = k by omega] at h4
    exact h4.symm
  rw [hs]
  have h5 := blame_app (l.take k) (l.drop k) (List.replicate s.length 0) 1
  rw [List.take_append_drop, List.length_take, Nat.min_eq_left h2, Nat.add_comm 1 k] at h5
  rw [h5]
/-- part by part -/
theorem pat_part {d : List Pt} (h : Right d) {xs : List Nat} {k : Nat} (hp : patW (wordL d) = notK k xs) {j : Nat} {p : Pt} (hj : d[j]? = some p) {i : Nat} (hi : (i : Int) < p.n) :
    ∃ q, xs[inW (wordL (d.take j)) + i]? = some q ∧ (q = k ↔ p.k = 3) := by
  have e : d = d.take j ++ p :: d.drop (j + 1) := by
    obtain ⟨h1, h2⟩ := List.getElem?_eq_some_iff.1 hj
    rw [← h2, ← List.drop_eq_getElem_cons h1, List.take_append_drop]
  obtain ⟨r1, r2, r3, r4⟩ := h p (List.mem_of_getElem? hj)
  have hw : wordL d = wordL (d.take j) ++ (wordP p ++ wordL (d.drop (j + 1))) := by
    conv => lhs; rw [e]
    rw [wordL_app, wordL_cons]
  have hpk : p.k = 1 ∨ p.k = 3 := by
    rcases r1 with h | h | h
    · exact .inl h
    · have := r2 h; omega
    · exact .inr h
  have hpat : (patW (wordL d))[inW (wordL (d.take j)) + i]? = some (decide (p.k ≠ 3)) := by
    rw [hw, pat_app, List.getElem?_append_right (by rw [pat_len]; omega), pat_len, Nat.add_sub_cancel_left, pat_app]
    rcases hpk with h1 | h1
    · have hwp : wordP p = List.replicate p.n.toNat .K := by rw [wordP, if_pos h1]
      rw [hwp, show (Tok.K) = ⟨.inl true⟩ from rfl, pat_rep, List.getElem?_append_left (by simp; omega), List.getElem?_replicate, if_pos (by omega), h1]; rfl
    · have hwp : wordP p = List.replicate p.n.toNat .X := by rw [wordP, if_neg (by omega), if_neg (by omega)]
      rw [hwp, show (Tok.X) = ⟨.inl false⟩ from rfl, pat_rep, List.getElem?_append_left (by simp; omega), List.getElem?_replicate, if_pos (by omega), h1]; rfl
  rw [hp, notK, List.getElem?_map, Option.map_eq_some_iff] at hpat
  obtain ⟨q, hq1, hq2⟩ := hpat
  refine ⟨q, hq1, ?_⟩
  have := decide_eq_decide.1 hq2
  constructor
  · intro h; rcases Decidable.em (p.k = 3) with h3 | h3
    · exact h3
    · exact absurd h (this.2 h3)
  · intro h; rcases Decidable.em (q = k) with h3 | h3
    · exact h3
    · exact absurd h (this.1 h3)
end Go.Proofs.Ytcghojnmnmmpoaa

/- What is put again, who does nothing, and who comes late: no program in it. -/
namespace Go.Proofs.Ytcghojnmnmmpoaa
set_option linter.unusedSimpArgs false
set_option linter.unusedVariables false

/-- how many bytes a word cuts -/
def cutW : List Tok → Nat
  | [] => 0
  | ⟨.inl false⟩ :: w => cutW w + 1
  | _ :: w => cutW w
theorem cut_pairs (w : List Tok) : ∀ i k, inW w = cutW w + (pairsW w i k).length := by
  induction w with
  | nil => intro i k; rfl
  | cons t w ih =>
    intro i k
    cases t using Tok.by3 with
    | K => have := ih (i + 1) (k + 1); simp only [inW, cutW, pairsW, Tok.K, List.length_cons]; omega
    | X => have := ih (i + 1) k; simp only [inW, cutW, pairsW, Tok.X]; omega
    | P c => have := ih i (k + 1); simp only [inW, cutW, pairsW, Tok.P]; omega
theorem put_pairs (w : List Tok) : ∀ i k, outW w = putW w + (pairsW w i k).length := by
  induction w with
  | nil => intro i k; rfl
  | cons t w ih =>
    intro i k
    cases t using Tok.by3 with
    | K => have := ih (i + 1) (k + 1); simp only [outW, putW, pairsW, Tok.K, List.length_cons]; omega
    | X => have := ih (i + 1) k; simp only [outW, putW, pairsW, Tok.X]; omega
    | P c => have := ih i (k + 1); simp only [outW, putW, pairsW, Tok.P]; omega
theorem Sem.puts {a b : List Tok} (h : Sem a b) : putW a = putW b := by
  have h1 := put_pairs a 0 0
  have h2 := put_pairs b 0 0
  rw [h.prs, h.outs] at h1
  omega
theorem putN_W (w : List Tok) : putN w = putW w := by
  induction w with
  | nil => rfl
  | cons t w ih => cases t using Tok.by3 <;> simp [putN, putW, Tok.K, Tok.X, Tok.P, ih]
theorem turn_puts {w : List Tok} {s : List UInt8} (h : s.length = inW w) : putW (turnW w s) = cutW w := by
  obtain ⟨h1, h2, h3, h4⟩ := turn_props w s h
  have h5 := put_pairs (turnW w s) 0 0
  have h6 := cut_pairs w 0 0
  rw [h4 0 0] at h5
  have h7 : (swapP (pairsW w 0 0)).length = (pairsW w 0 0).length := by simp [swapP]
  omega
/-- what a delta cuts -/
def cutsI (l : List Pt) : Int := match l with
  | [] => 0
  | p :: r => (if p.k = 3 then p.n else 0) + cutsI r
theorem cutW_app (a b : List Tok) : cutW (a ++ b) = cutW a + cutW b := by
  induction a with
  | nil => simp [cutW]
  | cons t a ih => cases t using Tok.by3 <;> simp [cutW, Tok.K, Tok.X, Tok.P, ih] <;> omega
theorem cutW_X (n : Nat) : cutW (List.replicate n .X) = n := by
  induction n with
  | zero => rfl
  | succ n ih => rw [List.replicate_succ]; simp [cutW, Tok.X]; exact ih
theorem cutW_K (n : Nat) : cutW (List.replicate n .K) = 0 := by
  induction n with
  | zero => rfl
  | succ n ih => rw [List.replicate_succ]; simp [cutW, Tok.K]; exact ih
theorem cutW_P (t : List UInt8) : cutW (t.map .P) = 0 := by
  induction t with
  | nil => rfl
  | cons c t ih => simp [cutW, Tok.P]; exact ih
theorem cuts_word {l : List Pt} (h : Right l) : (cutW (wordL l) : Int) = cutsI l := by
  induction l with
  | nil => rfl
  | cons p r ih =>
    obtain ⟨h1, h2, h3, h4⟩ := h p (by simp)
    have ih' := ih (fun q hq => h q (by simp [hq]))
    rw [wordL_cons, cutW_app, cutsI, ← ih']
    rcases h1 with k | k | k
    · rw [if_neg (by omega), wordP, if_pos k, cutW_K]; omega
    · rw [if_neg (by omega), wordP, if_neg (by omega), if_pos k, cutW_P]; omega
    · have := (h3 (by omega)).2
      rw [if_pos k, wordP, if_neg (by omega), if_neg (by omega), cutW_X]; omega
theorem undo_puts_at {l : List Rv} : ∀ {d : List Pt} {t : List UInt8}, histE t l = 0 → sizesE d = 0 → inI d = (t.length : Nat) → (undoF d l).2 = 0 → putW (wordL (undoF d l).1) = putW (wordL d) := by
  induction l with
  | nil => intro d t _ _ _ _; rfl
  | cons r l ih =>
    intro d t h h1 h2 he
    obtain ⟨h3, h4, h5, h6⟩ := hist_cons h
    have hin : inI r.d = inI d := by rw [h5, h2]
    by_cases hm : meetE r.d d = 0
    · rw [undoF, if_pos hm] at he ⊢
      obtain ⟨f1, f2, f3, f4, f5, _, _⟩ := meet_facts hm
      rw [ih h6 f2 (by rw [f4, (do_out h4 h5).1]) he]
      rw [meetR, if_pos hm, (canon_sem _).puts, ← putN_W, ← putN_W]
      exact (meet_mt h4 h1 hin).putN.2
    · rw [undoF, if_neg hm] at he
      exact absurd he hm
/-- all is put again that it cut -/
theorem undo_puts {s : List UInt8} {l : List Rv} {k : Nat} {r : Rv} (hh : histE s l = 0) (h1 : 1 ≤ k) (h2 : k ≤ l.length) (hr : l[k - 1]? = some r) (he : (undoD s l k).2 = 0) : ((putsI (undoD s l k).1 : Nat) : Int) = cutsI r.d := by
  obtain ⟨t1, t2, _⟩ := turn_of hh hr
  obtain ⟨_, q2, q3, q4⟩ := hist_at hh hr
  rw [show k - 1 + 1 = k by omega] at t2
  have hsz : sizesE (undoD s l k).1 = 0 := by
    rcases undo_says hh h1 h2 with h | h
    · exact h.2.1
    · rw [h.1] at he; cases he
  rw [← puts_word (sizes_right hsz), ← cuts_word (sizes_right q2)]
  rw [undoD_at hr] at he ⊢
  obtain ⟨g, c, i, o, b1, b2⟩ := delta_facts q2
  rw [undo_puts_at (hist_cut hh k).2 t1 t2 he, turn_canon q2 q3.symm, (canon_sem _).puts, turn_puts (by omega)]

theorem turn_all (n : Nat) (hn : n ≤ 500) {t : List UInt8} (ht : t.length = n) : turnL (allN (n : Nat)) t = allN (n : Nat) := by
  obtain ⟨x1, x2, x3⟩ := all_facts (n := (n : Int)) (by omega) (by omega)
  obtain ⟨g, c, i, o, b1, b2⟩ := delta_facts x1
  have hK : ∀ (m : Nat) (s : List UInt8), turnW (List.replicate m .K) s = List.replicate m .K := by
    intro m
    induction m with
    | zero => intro s; rfl
    | succ m ih =>
      intro s
      rw [List.replicate_succ]
      show Tok.K :: turnW (List.replicate m .K) (s.drop 1) = _
      rw [ih]
  rw [turn_canon x1 (by rw [x2]; omega), all_word (by omega), hK]
  rw [all_word (by omega)] at c
  exact c
theorem hist_snoc {l : List Rv} {r : Rv} : ∀ {s : List UInt8}, histE s l = 0 → oneE r = 0 → fitsE r.d ((textAt s l l.length).length : Nat) = 0 → histE s (l ++ [r]) = 0 := by
  induction l with
  | nil =>
    intro s _ h1 h2
    rw [List.nil_append, histE, if_pos h1, if_pos (show fitsE r.d (s.length : Nat) = 0 from h2)]; rfl
  | cons q l ih =>
    intro s h h1 h2
    obtain ⟨a1, a2, a3, a4⟩ := hist_cons h
    rw [List.cons_append, histE, if_pos a1, if_pos (by rw [fitsE, if_pos a2, if_pos a3])]
    exact ih a4 h1 h2
theorem text_snoc (s : List UInt8) (l : List Rv) (r : Rv) : textAt s (l ++ [r]) l.length = textAt s l l.length := by
  have h := text_take (l := l ++ [r]) s (k := l.length) (i := l.length) (Nat.le_refl _)
  rw [List.take_left' rfl] at h
  exact h.symm
/-- to take back what does nothing does nothing -/
theorem undo_idle {s : List UInt8} {l : List Rv} {r : Rv} (h : checkE s l = 0) (hl : l.length < 64) (hd : r.d = allN ((textAt s l l.length).length : Nat)) (hw : 0 ≤ r.who ∧ r.who ≤ 7 ∧ 0 ≤ r.seq ∧ r.seq ≤ 2147483647) :
    checkE s (l ++ [r]) = 0 ∧ undoD s (l ++ [r]) (l.length + 1) = (allN ((textAt s l l.length).length : Nat), 0) := by
  obtain ⟨h1, h2, h3⟩ := check_zero h
  have h5 := text_le h3 h1 l.length
  obtain ⟨x1, x2, x3⟩ := all_facts (n := ((textAt s l l.length).length : Nat)) (by omega) (by omega)
  have ho : oneE r = 0 := by rw [oneE, if_neg (by omega), hd]; exact x1
  have hf : fitsE r.d ((textAt s l l.length).length : Nat) = 0 := by rw [hd, fitsE, if_pos x1, if_pos x2]
  have hh := hist_snoc h3 ho hf
  refine ⟨by rw [checkE, if_neg (by simp; omega)]; exact hh, ?_⟩
  have hr : (l ++ [r])[l.length + 1 - 1]? = some r := by simp
  rw [undoD_at hr, show l.length + 1 - 1 = l.length by omega, text_snoc, hd, turn_all _ h5 rfl, List.drop_eq_nil_of_le (by simp)]
  rfl

/-- who comes late: which error -/
def catchE (s : List UInt8) (l : List Rv) (r : Int) (m : List Pt) : Int :=
  if betE s l r l.length = 0 then (if fitsE m ((textAt s l r.toNat).length : Nat) = 0 then meetE (betO s l r.toNat l.length) m else fitsE m ((textAt s l r.toNat).length : Nat)) else betE s l r l.length
theorem catch_zero {s : List UInt8} {l : List Rv} {r : Int} {m : List Pt} (h : catchE s l r m = 0) : ∃ n : Nat, r = n ∧ n ≤ l.length ∧ checkE s l = 0 ∧ sizesE m = 0 ∧ inI m = ((textAt s l n).length : Nat) ∧ meetE (betO s l n l.length) m = 0 := by
  unfold catchE at h
  split at h
  · rename_i h0
    split at h
    · rename_i h1
      obtain ⟨m1, m2⟩ := fits_zero h1
      have hc : checkE s l = 0 := by
        unfold betE at h0
        split at h0
        · assumption
        · rename_i h2; exact absurd h0 h2
      have hr : ¬ (r < 0 ∨ (l.length : Int) < r ∨ (l.length : Int) < l.length) := by
        intro h2
        rw [betE, if_pos hc, if_pos h2] at h0
        cases h0
      obtain ⟨n, rfl⟩ : ∃ n : Nat, r = n := ⟨r.toNat, by omega⟩
      rw [Int.toNat_natCast] at m2 h
      exact ⟨n, rfl, by omega, hc, m1, m2, h⟩
    · rename_i h1; exact absurd h h1
  · rename_i h0; exact absurd h h0
/-- who comes late and those who were there come to one text -/
theorem catch_meets {s : List UInt8} {l : List Rv} {n : Nat} {m : List Pt} (hn : n ≤ l.length) (hc : checkE s l = 0) (m1 : sizesE m = 0) (m2 : inI m = ((textAt s l n).length : Nat)) (hm : meetE (betO s l n l.length) m = 0) :
    doL (betO s l n l.length) (textAt s l n) = textAt s l l.length ∧ doL (meetR (betO s l n l.length) m) (textAt s l l.length) = doL (meetL (betO s l n l.length) m) (doL m (textAt s l n)) := by
  obtain ⟨b1, b2, b3, b4⟩ := bet_says hc hn (Nat.le_refl _)
  obtain ⟨e1, e2, e3⟩ := meet_same hm
  refine ⟨b4, ?_⟩
  obtain ⟨_, _, _, _, _, _, c1, _⟩ := comp_facts e1
  obtain ⟨_, _, _, _, _, _, c2, _⟩ := comp_facts e2
  have d1 := comp_does e1 (x := textAt s l n) (by rw [b2])
  have d2 := comp_does e2 (x := textAt s l n) (by rw [m2])
  rw [b4] at d1
  rw [← d1, ← d2, ← c1, ← c2, e3]
/-- who has done nothing has nothing left -/
theorem catch_none {s : List UInt8} {l : List Rv} {n : Nat} (hn : n ≤ l.length) (hc : checkE s l = 0) :
    meetE (betO s l n l.length) (allN ((textAt s l n).length : Nat)) = 0 ∧ meetL (betO s l n l.length) (allN ((textAt s l n).length : Nat)) = betO s l n l.length ∧ meetR (betO s l n l.length) (allN ((textAt s l n).length : Nat)) = allN ((textAt s l l.length).length : Nat) := by
  obtain ⟨b1, b2, b3, b4⟩ := bet_says hc hn (Nat.le_refl _)
  obtain ⟨⟨h1, h2, h3⟩, _⟩ := meet_idle b1
  rw [b2] at h1 h2 h3
  rw [b3] at h3
  exact ⟨h1, h2, h3⟩
/-- who is not late has all of it left -/
theorem catch_now {s : List UInt8} {l : List Rv} {m : List Pt} (m1 : sizesE m = 0) (m2 : inI m = ((textAt s l l.length).length : Nat)) :
    betO s l l.length l.length = allN ((textAt s l l.length).length : Nat) ∧ meetE (betO s l l.length l.length) m = 0 ∧ meetR (betO s l l.length l.length) m = m ∧ meetL (betO s l l.length l.length) m = allN (outI m) := by
  have e : betO s l l.length l.length = allN ((textAt s l l.length).length : Nat) := by
    rw [betO, List.drop_eq_nil_of_le (by simp)]; rfl
  obtain ⟨_, h1, h2, h3⟩ := meet_idle m1
  rw [m2] at h1 h2 h3
  rw [e]
  exact ⟨rfl, h1, h3, h2⟩

/-- two that cut nothing, as one, cut nothing -/
theorem Cmp.noCut {a b r : List Tok} (h : Cmp a b r) : NoCut a → NoCut b → NoCut r := by
  refine h (fun a b r => NoCut a → NoCut b → NoCut r) ?_ ?_ ?_ ?_ ?_ ?_ ?_
  · intro _ _; trivial
  · intro c a b r ih ha hb; exact ih ha hb
  · intro a b r ih ha hb; exact absurd ha (by simp [NoCut, Tok.X])
  · intro a b r ih ha hb; exact ih ha hb
  · intro a b r ih ha hb; exact absurd hb (by simp [NoCut, Tok.X])
  · intro c a b r ih ha hb; exact ih ha hb
  · intro c a b r ih ha hb; exact absurd hb (by simp [NoCut, Tok.X])
theorem noCut_zero {w : List Tok} (h : NoCut w) : cutW w = 0 := by
  induction w with
  | nil => rfl
  | cons t w ih =>
    cases t using Tok.by3 with
    | K => exact ih h
    | X => exact absurd h (by simp [NoCut, Tok.X])
    | P c => exact ih h
theorem word_noCut {l : List Pt} (hR : Right l) (h : NoCut (wordL l)) : ∀ p ∈ l, p.k ≠ 3 := by
  have h0 := noCut_zero h
  have h1 := cuts_word hR
  rw [h0] at h1
  clear h h0
  induction l with
  | nil => intro p hp; simp at hp
  | cons q r ih =>
    obtain ⟨k1, k2, k3, k4⟩ := hR q (by simp)
    have hr : Right r := fun p hp => hR p (by simp [hp])
    have h2 : 0 ≤ cutsI r := by rw [← cuts_word hr]; omega
    rw [cutsI] at h1
    have hq : q.k ≠ 3 := by
      intro e
      rw [if_pos e] at h1
      have := (k3 (by omega)).2
      omega
    rw [if_neg hq] at h1
    intro p hp
    rcases List.mem_cons.1 hp with rfl | hp
    · exact hq
    · exact ih hr (by omega) p hp
theorem comp_noCut {a b : List Pt} (h : compE a b = 0) (ha : ∀ p ∈ a, p.k ≠ 3) (hb : ∀ p ∈ b, p.k ≠ 3) : ∀ p ∈ compR a b, p.k ≠ 3 := by
  obtain ⟨za, zb, _⟩ := comp_zero h
  obtain ⟨r, k1, k2, k3, _, _, k4, _⟩ := comp_facts h
  have na : NoCut (wordL a) := noCut_word (fun p hp => by have := ((delta_facts za).1 p hp).1; have := ha p hp; omega)
  have nb : NoCut (wordL b) := noCut_word (fun p hp => by have := ((delta_facts zb).1 p hp).1; have := hb p hp; omega)
  have nr := k1.noCut na nb
  rw [k4]
  refine word_noCut (sizes_right k3) ?_
  rw [k2, ord_word (noCut_ord nr)]
  exact nr
theorem bet_noCut {l : List Rv} : ∀ {s : List UInt8}, histE s l = 0 → s.length ≤ 500 → (∀ r ∈ l, ∀ p ∈ r.d, p.k ≠ 3) → ∀ p ∈ betF ((textAt s l l.length).length : Nat) l, p.k ≠ 3 := by
  induction l with
  | nil =>
    intro s _ _ _ p hp
    have h : p ∈ allN ((s.length : Nat) : Int) := hp
    unfold allN at h
    split at h
    · simp at h
    · simp at h; subst h; show (1 : Int) ≠ 3; decide
  | cons r l ih =>
    intro s h hs hc
    obtain ⟨h1, h2, h3, h4⟩ := hist_cons h
    obtain ⟨o1, o2⟩ := do_out h2 h3
    obtain ⟨b, hb, b1, b2, b3, b4⟩ := bet_facts h4 o2
    have i := ih h4 o2 (fun q hq => hc q (by simp [hq]))
    have hE : compE r.d b = 0 := comp_is h2 b1 (by omega)
    rw [hb] at i
    have e : betF ((textAt s (r :: l) (r :: l).length).length : Nat) (r :: l) = compR r.d b := by
      show compR r.d (betF _ l) = _
      rw [← hb]; rfl
    rw [e]
    exact comp_noCut hE (hc r (by simp)) i
theorem meet_noCut {a c : List Pt} (h : meetE a c = 0) (hc : ∀ p ∈ c, p.k ≠ 3) : ∀ p ∈ meetR a c, p.k ≠ 3 := by
  obtain ⟨za, zc, zi, _⟩ := meet_zero h
  have nc : NoCut (wordL c) := noCut_word (fun p hp => by have := ((delta_facts zc).1 p hp).1; have := hc p hp; omega)
  have ny := (meet_mt za zc zi).noCutY nc
  obtain ⟨_, f2, _⟩ := meet_facts h
  refine word_noCut (sizes_right f2) ?_
  rw [meetR, if_pos h, ord_word (noCut_ord ny)]
  exact ny
/-- what fits behind both at once fits behind the second -/
theorem meet_third {a b c : List Pt} (h : compE a b = 0) (hb : ∀ p ∈ b, p.k ≠ 3) (hc : ∀ p ∈ c, p.k ≠ 3) (h1 : meetE (compR a b) c = 0) (h2 : meetE a c = 0) : meetE b (meetR a c) = 0 := by
  obtain ⟨za, zb, zab⟩ := comp_zero h
  obtain ⟨_, zc, zac, _⟩ := meet_zero h2
  obtain ⟨ga, ca, ia, oa, la, ma⟩ := delta_facts za
  obtain ⟨gb, cb, ib, ob, lb, mb⟩ := delta_facts zb
  obtain ⟨gc, cc, ic, oc, lc, mc⟩ := delta_facts zc
  have nb : NoCut (wordL b) := noCut_word (fun p hp => by have := (gb p hp).1; have := hb p hp; omega)
  have nc : NoCut (wordL c) := noCut_word (fun p hp => by have := (gc p hp).1; have := hc p hp; omega)
  obtain ⟨r, p, q, a1, c1, b1, k1, k2, k3, k4, k5, k6, _⟩ := mt_joins _ (wordL a) (wordL b) (wordL c) (Nat.lt_succ_self _) (by omega) (by omega) nb nc (delta_ord za)
  have ed : wordL (compR a b) = r := by
    obtain ⟨r1, d1, d2, _, _, _, d3, _⟩ := comp_facts h
    rw [d3, comp_cmp za k1]
    exact ord_word k6
  obtain ⟨rfl, rfl⟩ := k3.one
  have ec : wordL (meetR a c) = meetY (wordL a) (wordL c) := by
    rw [meetR, if_pos h2]
    exact ord_word (noCut_ord (k3.noCutY nc))
  obtain ⟨p1, p2⟩ := k2.one
  obtain ⟨q1, q2⟩ := k4.one
  obtain ⟨_, _, _, z5⟩ := meet_zero h1
  obtain ⟨_, y1, _, y2, _⟩ := meet_facts h2
  rw [meet_is zb y1 (by rw [y2, zab]), ec, ← q1, if_pos]
  rw [ed, ← p1] at z5
  have s1 := k2.sizes
  have s2 := k4.sizes
  omega
/-- behind all at once, and behind each, one after the other -/
theorem catch_each {l : List Rv} : ∀ {s : List UInt8} {c : List Pt}, histE s l = 0 → s.length ≤ 500 → (∀ r ∈ l.drop 1, ∀ p ∈ r.d, p.k ≠ 3) → sizesE c = 0 → inI c = (s.length : Nat) → (∀ p ∈ c, p.k ≠ 3) →
    meetE (betF ((textAt s l l.length).length : Nat) l) c = 0 → (undoF c l).2 = 0 → (undoF c l).1 = meetR (betF ((textAt s l l.length).length : Nat) l) c := by
  induction l with
  | nil =>
    intro s c _ hs _ hc hi _ _ _
    obtain ⟨_, h1, h2, h3⟩ := meet_idle hc
    rw [hi] at h3
    exact h3.symm
  | cons r l ih =>
    intro s c h hs hp hc hi hn h1 he
    obtain ⟨a1, a2, a3, a4⟩ := hist_cons h
    obtain ⟨o1, o2⟩ := do_out a2 a3
    obtain ⟨b, hb, b1, b2, b3, b4⟩ := bet_facts a4 o2
    have hE : compE r.d b = 0 := comp_is a2 b1 (by omega)
    have e : betF ((textAt s (r :: l) (r :: l).length).length : Nat) (r :: l) = compR r.d b := by
      show compR r.d (betF _ l) = _
      rw [← hb]; rfl
    rw [e] at h1 ⊢
    by_cases hm : meetE r.d c = 0
    · rw [undoF, if_pos hm] at he ⊢
      have nb : ∀ p ∈ b, p.k ≠ 3 := by
        have := bet_noCut a4 o2 (fun q hq => hp q (by simpa using hq))
        rw [hb] at this
        exact this
      have h3 := meet_third hE nb hn h1 hm
      obtain ⟨f1, f2, f3, f4, f5, _⟩ := meet_facts hm
      have i := ih a4 o2 (fun q hq => hp q (by simp; exact List.mem_of_mem_drop hq)) f2 (by rw [f4, o1]) (meet_noCut hm hn) (by rw [hb]; exact h3) he
      rw [i, hb]
      exact (meet_joins hE nb hn h1 hm h3).2.2.symm
    · rw [undoF, if_neg hm] at he
      exact absurd he hm
end Go.Proofs.Ytcghojnmnmmpoaa
