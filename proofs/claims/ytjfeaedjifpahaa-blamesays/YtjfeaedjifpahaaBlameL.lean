/- Whose each byte is: no program in it. -/
import Derived.Test.YtjfeaedjifpahaaRevL
namespace Go.Proofs.Ytjfeaedjifpahaa
set_option linter.unusedSimpArgs false
set_option linter.unusedVariables false

/-- what is kept stays whose it was, what is put is i's -/
def blW : List Tok → List Nat → Nat → List Nat
  | [], _, _ => []
  | ⟨.inl true⟩ :: w, x, i => x.take 1 ++ blW w (x.drop 1) i
  | ⟨.inl false⟩ :: w, x, i => blW w (x.drop 1) i
  | ⟨.inr _⟩ :: w, x, i => i :: blW w x i
/-- how many bytes a word puts -/
def putW : List Tok → Nat
  | [] => 0
  | ⟨.inl _⟩ :: w => putW w
  | ⟨.inr _⟩ :: w => putW w + 1
theorem blW_len {w : List Tok} : ∀ {x : List Nat} {i : Nat}, x.length = inW w → (blW w x i).length = outW w := by
  induction w with
  | nil => intro x i _; rfl
  | cons t w ih =>
    intro x i h
    cases t using Tok.by3 with
    | K =>
      cases x with
      | nil => simp [inW, Tok.K] at h
      | cons a x =>
        have := ih (x := x) (i := i) (by simpa [inW, Tok.K] using h)
        simp [blW, outW, Tok.K, this]
    | X =>
      cases x with
      | nil => simp [inW, Tok.X] at h
      | cons a x =>
        have := ih (x := x) (i := i) (by simpa [inW, Tok.X] using h)
        simp [blW, outW, Tok.X, this]
    | P c =>
      have := ih (x := x) (i := i) (by simpa [inW, Tok.P] using h)
      simp [blW, outW, Tok.P, this]
theorem blW_map (f : Nat → Nat) {w : List Tok} : ∀ (x : List Nat) (i : Nat), blW w (x.map f) (f i) = (blW w x i).map f := by
  induction w with
  | nil => intro x i; rfl
  | cons t w ih =>
    intro x i
    cases t using Tok.by3 with
    | K =>
      cases x with
      | nil => have := ih [] i; simpa [blW, Tok.K] using this
      | cons a x => have := ih x i; simpa [blW, Tok.K] using this
    | X =>
      cases x with
      | nil => have := ih [] i; simpa [blW, Tok.X] using this
      | cons a x => have := ih x i; simpa [blW, Tok.X] using this
    | P c => have := ih x i; simp [blW, Tok.P, this]
theorem blW_mem {w : List Tok} : ∀ {x : List Nat} {i n : Nat}, n ∈ blW w x i → n ∈ x ∨ n = i := by
  induction w with
  | nil => intro x i n h; simp [blW] at h
  | cons t w ih =>
    intro x i n h
    cases t using Tok.by3 with
    | K =>
      cases x with
      | nil => exact ih (x := []) (by simpa [blW, Tok.K] using h)
      | cons a x =>
        simp only [blW, Tok.K, List.take_succ_cons, List.take_zero, List.drop_succ_cons, List.drop_zero, List.cons_append, List.nil_append, List.mem_cons] at h
        rcases h with rfl | h
        · exact .inl (by simp)
        · rcases ih h with h | h
          · exact .inl (by simp [h])
          · exact .inr h
    | X =>
      cases x with
      | nil => exact ih (x := []) (by simpa [blW, Tok.X] using h)
      | cons a x =>
        rcases ih (x := x) (by simpa [blW, Tok.X] using h) with h | h
        · exact .inl (by simp [h])
        · exact .inr h
    | P c =>
      simp only [blW, Tok.P, List.mem_cons] at h
      rcases h with rfl | h
      · exact .inr rfl
      · exact ih h
/-- of each but i no more is left -/
theorem blW_count {w : List Tok} : ∀ {x : List Nat} {i n : Nat}, n ≠ i → (blW w x i).count n ≤ x.count n := by
  induction w with
  | nil => intro x i n _; simp [blW]
  | cons t w ih =>
    intro x i n h
    cases t using Tok.by3 with
    | K =>
      cases x with
      | nil => have := ih (x := []) h; simpa [blW, Tok.K] using this
      | cons a x =>
        have := ih (x := x) h
        simp only [blW, Tok.K, List.take_succ_cons, List.take_zero, List.drop_succ_cons, List.drop_zero, List.cons_append, List.nil_append, List.count_cons]
        omega
    | X =>
      cases x with
      | nil => have := ih (x := []) h; simpa [blW, Tok.X] using this
      | cons a x =>
        have := ih (x := x) h
        simp only [blW, Tok.X, List.drop_succ_cons, List.drop_zero, List.count_cons]
        omega
    | P c =>
      have := ih (x := x) h
      have e : (i == n) = false := by rw [beq_eq_false_iff_ne]; exact fun e => h e.symm
      simp only [blW, Tok.P, List.count_cons, e]
      simpa using this
/-- and of i just what is put, where nothing was its own -/
theorem blW_own {w : List Tok} : ∀ {x : List Nat} {i : Nat}, i ∉ x → (blW w x i).count i = putW w := by
  induction w with
  | nil => intro x i _; rfl
  | cons t w ih =>
    intro x i h
    cases t using Tok.by3 with
    | K =>
      cases x with
      | nil => have := ih (x := []) h; simpa [blW, putW, Tok.K] using this
      | cons a x =>
        have := ih (x := x) (i := i) (by simp at h; exact h.2)
        have e : (a == i) = false := by rw [beq_eq_false_iff_ne]; simp at h; exact fun e => h.1 e.symm
        simp only [blW, Tok.K, putW, List.take_succ_cons, List.take_zero, List.drop_succ_cons, List.drop_zero, List.cons_append, List.nil_append, List.count_cons, e]
        simpa using this
    | X =>
      cases x with
      | nil => have := ih (x := []) h; simpa [blW, putW, Tok.X] using this
      | cons a x =>
        have := ih (x := x) (i := i) (by simp at h; exact h.2)
        simpa [blW, putW, Tok.X] using this
    | P c =>
      have := ih (x := x) h
      simp [blW, putW, Tok.P, this]
/-- the other road: all is i's, and then each byte that is kept is whose it was -/
def fillW (x : List Nat) (out : List Nat) (ps : List (Nat × Nat)) : List Nat := ps.foldl (fun o p => o.set p.2 (x.getD p.1 0)) out
theorem fill_word {w : List Tok} : ∀ (x pre : List Nat) (j i : Nat), j + inW w ≤ x.length → fillW x (pre ++ List.replicate (outW w) i) (pairsW w j pre.length) = pre ++ blW w (x.drop j) i := by
  induction w with
  | nil => intro x pre j i _; simp [fillW, pairsW, outW, blW]
  | cons t w ih =>
    intro x pre j i h
    cases t using Tok.by3 with
    | K =>
      simp only [inW, Tok.K] at h
      obtain ⟨a, ha⟩ : ∃ a, x[j]? = some a := ⟨x[j]'(by omega), List.getElem?_eq_getElem _⟩
      have hd : x.drop j = a :: x.drop (j + 1) := by
        obtain ⟨h1, h2⟩ := List.getElem?_eq_some_iff.1 ha
        rw [List.drop_eq_getElem_cons h1, h2]
      have hset : (pre ++ List.replicate (outW w + 1) i).set pre.length (x.getD j 0) = (pre ++ [a]) ++ List.replicate (outW w) i := by
        rw [List.set_append_right _ _ (Nat.le_refl _), Nat.sub_self, List.replicate_succ, List.set_cons_zero, List.getD_eq_getElem?_getD, ha]
        simp
      have := ih x (pre ++ [a]) (j + 1) i (by omega)
      rw [List.length_append, List.length_singleton] at this
      simp only [fillW, pairsW, outW, Tok.K, List.foldl_cons, blW, hd]
      rw [hset]
      simp only [fillW] at this
      rw [this]
      simp
    | X =>
      simp only [inW, Tok.X] at h
      have := ih x pre (j + 1) i (by omega)
      simp only [pairsW, outW, Tok.X, blW]
      rw [this, List.drop_drop]
    | P c =>
      simp only [inW, Tok.P] at h
      have := ih x (pre ++ [i]) j i h
      rw [List.length_append, List.length_singleton] at this
      simp only [pairsW, outW, Tok.P, blW, List.replicate_succ]
      rw [show pre ++ i :: List.replicate (outW w) i = (pre ++ [i]) ++ List.replicate (outW w) i by simp, this]
      simp
/-- a history's -/
def blameL : List Nat → List Rv → Nat → List Nat
  | x, [], _ => x
  | x, r :: l, i => blameL (blW (wordL r.d) x i) l (i + 1)
theorem blame_fill {r : Rv} {x : List Nat} {i : Nat} (h : sizesE r.d = 0) (hx : (x.length : Int) = inI r.d) : fillW x (List.replicate (outI r.d).toNat i) (pairsL r.d) = blW (wordL r.d) x i := by
  obtain ⟨g, c, e1, e2, l, m⟩ := delta_facts h
  have := fill_word (w := wordL r.d) x [] 0 i (by omega)
  simp only [List.nil_append, List.length_nil, List.drop_zero] at this
  rw [show (outI r.d).toNat = outW (wordL r.d) by omega, pairsL]
  exact this
theorem blame_app (a b : List Rv) : ∀ (x : List Nat) (i : Nat), blameL x (a ++ b) i = blameL (blameL x a i) b (i + a.length) := by
  induction a with
  | nil => intro x i; rfl
  | cons r a ih =>
    intro x i
    show blameL _ (a ++ b) (i + 1) = blameL (blameL _ a (i + 1)) b _
    rw [ih, List.length_cons, show i + 1 + a.length = i + (a.length + 1) by omega]
theorem blame_len {l : List Rv} : ∀ {s : List UInt8} {x : List Nat} {i : Nat}, histE s l = 0 → x.length = s.length → (blameL x l i).length = (textAt s l l.length).length := by
  induction l with
  | nil => intro s x i _ h; exact h
  | cons r l ih =>
    intro s x i h hx
    obtain ⟨_, h2, h3, h4⟩ := hist_cons h
    obtain ⟨g, c, e1, e2, _, _⟩ := delta_facts h2
    have o := (do_out h2 h3).1
    have hb := blW_len (w := wordL r.d) (x := x) (i := i) (by omega)
    exact ih (s := doL r.d s) (x := blW (wordL r.d) x i) (i := i + 1) h4 (by omega)
theorem blame_mem {l : List Rv} : ∀ {x : List Nat} {i n : Nat}, n ∈ blameL x l i → n ∈ x ∨ (i ≤ n ∧ n < i + l.length) := by
  induction l with
  | nil => intro x i n h; exact .inl h
  | cons r l ih =>
    intro x i n h
    rcases ih h with h | h
    · rcases blW_mem h with h | rfl
      · exact .inl h
      · exact .inr ⟨Nat.le_refl _, by simp⟩
    · exact .inr ⟨by omega, by simp only [List.length_cons]; omega⟩
/-- numbers from another beginning on -/
theorem blame_from {l : List Rv} : ∀ (x : List Nat) {k i : Nat}, k ≤ i → blameL (x.map (· - k)) l (i - k) = (blameL x l i).map (· - k) := by
  induction l with
  | nil => intro x k i _; rfl
  | cons r l ih =>
    intro x k i h
    show blameL (blW _ (x.map (· - k)) ((· - k) i)) l (i - k + 1) = (blameL _ l (i + 1)).map _
    rw [blW_map (· - k), show i - k + 1 = (i + 1) - k by omega]
    exact ih _ (by omega)
/-- of those ahead no more is left -/
theorem blame_less {l : List Rv} : ∀ {x : List Nat} {i n : Nat}, n < i → (blameL x l i).count n ≤ x.count n := by
  induction l with
  | nil => intro x i n _; exact Nat.le_refl _
  | cons r l ih =>
    intro x i n h
    exact Nat.le_trans (ih (x := blW (wordL r.d) x i) (i := i + 1) (by omega)) (blW_count (by omega))
/-- of each revision no more bytes are left than it put; the last one's are all there -/
theorem blame_puts {a b : List Rv} {r : Rv} {x : List Nat} {i : Nat} (hx : ∀ n ∈ x, n < i) : (blameL x (a ++ r :: b) i).count (i + a.length) ≤ putW (wordL r.d) ∧ (b = [] → (blameL x (a ++ r :: b) i).count (i + a.length) = putW (wordL r.d)) := by
  have hn : i + a.length ∉ blameL x a i := by
    intro h
    rcases blame_mem h with h | h
    · have := hx _ h; omega
    · omega
  have e : blameL x (a ++ r :: b) i = blameL (blW (wordL r.d) (blameL x a i) (i + a.length)) b (i + a.length + 1) := by rw [blame_app]; rfl
  have ho := blW_own (w := wordL r.d) hn
  refine ⟨?_, ?_⟩
  · rw [e, ← ho]
    exact blame_less (by omega)
  · intro hb
    subst hb
    rw [e]; exact ho
/-- what a delta puts -/
def putsI (l : List Pt) : Nat := match l with
  | [] => 0
  | p :: r => p.t.size + putsI r
theorem putW_app (a b : List Tok) : putW (a ++ b) = putW a + putW b := by
  induction a with
  | nil => simp [putW]
  | cons t a ih => cases t using Tok.by3 <;> simp [putW, Tok.K, Tok.X, Tok.P, ih] <;> omega
theorem putW_rep (n : Nat) (b : Bool) : putW (List.replicate n ⟨.inl b⟩) = 0 := by
  induction n with
  | zero => rfl
  | succ n ih => rw [List.replicate_succ]; cases b <;> simpa [putW] using ih
theorem putW_put (t : List UInt8) : putW (t.map .P) = t.length := by
  induction t with
  | nil => rfl
  | cons c t ih => simp [putW, Tok.P, ih]
theorem puts_word {l : List Pt} (h : Right l) : putW (wordL l) = putsI l := by
  induction l with
  | nil => rfl
  | cons p r ih =>
    obtain ⟨h1, h2, h3, h4⟩ := h p (by simp)
    rw [wordL_cons, putW_app, ih (fun q hq => h q (by simp [hq])), putsI]
    congr 1
    unfold wordP
    by_cases e1 : p.k = 1
    · rw [if_pos e1]
      have := (h3 (by omega)).1
      rw [this]; exact putW_rep _ true
    · by_cases e2 : p.k = 2
      · rw [if_neg e1, if_pos e2, putW_put]; exact Array.length_toList
      · rw [if_neg e1, if_neg e2]
        have := (h3 e2).1
        rw [this]; exact putW_rep _ false

end Go.Proofs.Ytjfeaedjifpahaa
