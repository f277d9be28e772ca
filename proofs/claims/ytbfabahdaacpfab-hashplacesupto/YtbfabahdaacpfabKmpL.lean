/- How much of a text's beginning another ends with, and what one more byte makes of it: no program in it. -/
import Derived.Test.YtbfabahdaacpfabHashL
namespace Go.Proofs.Ytbfabahdaacpfab
set_option linter.unusedSimpArgs false
set_option linter.unusedVariables false

/-- q is the greatest number up to N of bytes of t's beginning that u ends with -/
def Top (t u : List UInt8) (N q : Nat) : Prop := q ≤ N ∧ q ≤ t.length ∧ t.take q <:+ u ∧ ∀ p, p ≤ N → p ≤ t.length → t.take p <:+ u → p ≤ q
/-- the first m of l are the borders of t's beginnings -/
def Backs (t : List UInt8) (l : List Nat) (m : Nat) : Prop := ∀ i, i < m → ∃ q, l[i]? = some q ∧ Top t (t.take (i + 1)) i q

theorem Top.uniq {t u : List UInt8} {N p q : Nat} (h : Top t u N p) (h' : Top t u N q) : p = q := by
  have h1 := h'.2.2.2 p h.1 h.2.1 h.2.2.1
  have h2 := h.2.2.2 q h'.1 h'.2.1 h'.2.2.1
  omega
theorem suffix_snoc {a u : List UInt8} {x b : UInt8} : a ++ [x] <:+ u ++ [b] ↔ a <:+ u ∧ x = b := by
  constructor
  · rintro ⟨y, hy⟩
    rw [← List.append_assoc] at hy
    have h := List.append_inj' hy rfl
    exact ⟨⟨y, h.1⟩, by simpa using h.2⟩
  · rintro ⟨⟨y, rfl⟩, rfl⟩
    exact ⟨y, by simp⟩
theorem take_one {t : List UInt8} {q : Nat} {c : UInt8} (h : t[q]? = some c) : t.take (q + 1) = t.take q ++ [c] := by
  rw [List.take_add_one, h]; rfl
theorem grow_iff {t u : List UInt8} {q : Nat} {b : UInt8} (h : q < t.length) : t.take (q + 1) <:+ u ++ [b] ↔ t.take q <:+ u ∧ t[q]? = some b := by
  have e : t[q]? = some t[q] := List.getElem?_eq_getElem h
  rw [take_one e, suffix_snoc, e]
  simp

/-- the loop's state: g is one that u ends with, and none that b would make longer is longer -/
def Go1 (t u : List UInt8) (N : Nat) (b : UInt8) (g : Nat) : Prop := g ≤ N ∧ g ≤ t.length ∧ t.take g <:+ u ∧ ∀ p, p ≤ N → p < t.length → t.take p <:+ u → t[p]? = some b → p ≤ g
theorem go1_start {t u : List UInt8} {N g : Nat} (b : UInt8) (h : Top t u N g) : Go1 t u N b g :=
  ⟨h.1, h.2.1, h.2.2.1, fun p h1 h2 h3 _ => h.2.2.2 p h1 (by omega) h3⟩
theorem go1_step {t u : List UInt8} {N g q : Nat} {b : UInt8} (h : Go1 t u N b (g + 1)) (hb : t[g + 1]? ≠ some b) (hq : Top t (t.take (g + 1)) g q) : Go1 t u N b q := by
  obtain ⟨h1, h2, h3, h4⟩ := h
  obtain ⟨q1, q2, q3, q4⟩ := hq
  refine ⟨by omega, q2, q3.trans h3, fun p p1 p2 p3 p4 => ?_⟩
  have h5 := h4 p p1 p2 p3 p4
  have h6 : p ≠ g + 1 := by rintro rfl; exact hb p4
  have h7 : t.take p <:+ t.take (g + 1) := List.suffix_of_suffix_length_le p3 h3 (by simp; omega)
  exact q4 p (by omega) (by omega) h7
/-- what is told, of a state that b makes longer, or of none -/
theorem go1_yes {t u : List UInt8} {N g : Nat} {b : UInt8} (h : Go1 t u N b g) (hb : t[g]? = some b) :
    g + 1 ≤ t.length ∧ t.take (g + 1) <:+ u ++ [b] ∧ ∀ p, p ≤ N + 1 → p ≤ t.length → t.take p <:+ u ++ [b] → p ≤ g + 1 := by
  obtain ⟨h1, h2, h3, h4⟩ := h
  have hlt : g < t.length := (List.getElem?_eq_some_iff.1 hb).1
  refine ⟨by omega, (grow_iff hlt).2 ⟨h3, hb⟩, fun p p1 p2 p3 => ?_⟩
  cases p with
  | zero => omega
  | succ p =>
    obtain ⟨p4, p5⟩ := (grow_iff (by omega)).1 p3
    have := h4 p (by omega) (by omega) p4 p5
    omega
theorem go1_no {t u : List UInt8} {N : Nat} {b : UInt8} (h : Go1 t u N b 0) (hb : t[0]? ≠ some b) :
    ∀ p, p ≤ N + 1 → p ≤ t.length → t.take p <:+ u ++ [b] → p ≤ 0 := by
  obtain ⟨h1, h2, h3, h4⟩ := h
  intro p p1 p2 p3
  cases p with
  | zero => omega
  | succ p =>
    obtain ⟨p4, p5⟩ := (grow_iff (by omega)).1 p3
    have h0 := h4 p (by omega) (by omega) p4 p5
    obtain rfl : p = 0 := by omega
    exact absurd p5 hb
/-- what grown tells -/
def Grew (t u : List UInt8) (N : Nat) (b : UInt8) (q : Nat) : Prop := q ≤ N + 1 ∧ q ≤ t.length ∧ t.take q <:+ u ++ [b] ∧ ∀ p, p ≤ N + 1 → p ≤ t.length → t.take p <:+ u ++ [b] → p ≤ q
theorem grew_yes {t u : List UInt8} {N g : Nat} {b : UInt8} (h : Go1 t u N b g) (hb : t[g]? = some b) : Grew t u N b (g + 1) := by
  obtain ⟨h1, h2, h3⟩ := go1_yes h hb
  exact ⟨by have := h.1; omega, h1, h2, h3⟩
theorem grew_no {t u : List UInt8} {N : Nat} {b : UInt8} (h : Go1 t u N b 0) (hb : t[0]? ≠ some b) : Grew t u N b 0 :=
  ⟨by omega, by omega, by simp, go1_no h hb⟩
/-- in a text that is searched -/
theorem grew_find {t u : List UInt8} {b : UInt8} {q : Nat} (h : Grew t u t.length b q) : Top t (u ++ [b]) t.length q :=
  ⟨h.2.1, h.2.1, h.2.2.1, fun p p1 p2 p3 => h.2.2.2 p (by omega) p2 p3⟩
/-- of t's own beginnings -/
theorem grew_back {t : List UInt8} {b : UInt8} {i q : Nat} (hi : t[i + 1]? = some b) (h : Grew t (t.take (i + 1)) i b q) : Top t (t.take (i + 2)) (i + 1) q := by
  rw [take_one hi]
  exact h
theorem back_first (t : List UInt8) : Top t (t.take 1) 0 0 := ⟨by omega, by omega, by simp, fun p h _ _ => h⟩
theorem top_first (t : List UInt8) : Top t [] t.length 0 := by
  refine ⟨by omega, by omega, by simp, fun p _ h1 h2 => ?_⟩
  have h3 : t.take p = [] := List.suffix_nil.1 h2
  have h4 : (t.take p).length = 0 := by rw [h3]; rfl
  simp at h4
  rcases h4 with h4 | h4
  · omega
  · subst h4; simp at h1; omega
theorem Backs.snoc {t : List UInt8} {l : List Nat} {m q : Nat} (h : Backs t l m) (hm : m < l.length) (hq : Top t (t.take (m + 1)) m q) : Backs t (l.set m q) (m + 1) := by
  intro i hi
  by_cases e : i = m
  · subst e
    exact ⟨q, by simp [hm], hq⟩
  · obtain ⟨r, h1, h2⟩ := h i (by omega)
    exact ⟨r, by rw [List.getElem?_set_ne (by omega)]; exact h1, h2⟩

/-- the places that are found among the first k bytes: those whose text ends there -/
def foundL (s t : List UInt8) (k : Nat) : List Nat := (findsL s t).filter (fun i => decide (i + t.length ≤ k))
theorem found_all (s t : List UInt8) : foundL s t s.length = findsL s t := by
  refine List.filter_eq_self.2 fun i hi => ?_
  have := (finds_within hi).1
  simpa using this
theorem found_none {s t : List UInt8} (h : t ≠ []) : foundL s t 0 = [] := by
  refine List.filter_eq_nil_iff.2 fun i _ => ?_
  have : 0 < t.length := List.length_pos_iff.2 h
  simp only [decide_eq_true_eq]; omega
theorem found_short {s t : List UInt8} (h : s.length < t.length) : findsL s t = [] := by
  refine List.eq_nil_iff_forall_not_mem.2 fun i hi => ?_
  have := (finds_within hi).1
  omega
theorem stands_iff {s t : List UInt8} {k : Nat} (hk : k < s.length) (h1 : t.length ≤ k + 1) : t <:+ s.take (k + 1) ↔ t <+: s.drop (k + 1 - t.length) := by
  have e : s.take (k + 1) = s.take (k + 1 - t.length) ++ (s.drop (k + 1 - t.length)).take t.length := by
    rw [← List.take_add]; congr 1; omega
  constructor
  · intro h
    have h2 : (s.take (k + 1)).drop ((s.take (k + 1)).length - t.length) = t := (List.suffix_iff_eq_drop.1 h).symm
    rw [List.length_take, Nat.min_eq_left (by omega), List.drop_take, show k + 1 - (k + 1 - t.length) = t.length by omega] at h2
    have h3 := List.take_prefix t.length (s.drop (k + 1 - t.length))
    rw [h2] at h3
    exact h3
  · intro h
    have h2 : (s.drop (k + 1 - t.length)).take t.length = t := (List.prefix_iff_eq_take.1 h).symm
    rw [e, h2]
    exact List.suffix_append _ _
theorem filter_lt {l : List Nat} (hs : l.Pairwise (· < ·)) (n : Nat) : l.filter (fun i => decide (i < n + 1)) = l.filter (fun i => decide (i < n)) ++ (if n ∈ l then [n] else []) := by
  induction l with
  | nil => simp
  | cons x r ih =>
    rw [List.pairwise_cons] at hs
    have ih' := ih hs.2
    by_cases h1 : x < n
    · have e1 : decide (x < n + 1) = true := by simp; omega
      have e2 : decide (x < n) = true := by simp [h1]
      rw [List.filter_cons_of_pos (by simpa using e1), List.filter_cons_of_pos (by simpa using e2), ih', List.cons_append]
      have e3 : (n ∈ x :: r) ↔ (n ∈ r) := by
        constructor
        · intro h; rcases List.mem_cons.1 h with h | h
          · omega
          · exact h
        · exact fun h => List.mem_cons_of_mem _ h
      simp only [e3]
    · have e4 : ∀ m, m ≤ n + 1 → r.filter (fun i => decide (i < m)) = [] := fun m hm => by
        refine List.filter_eq_nil_iff.2 fun i hi => ?_
        have := hs.1 i hi
        simp; omega
      by_cases h2 : x = n
      · subst h2
        rw [List.filter_cons_of_pos (by simp), List.filter_cons_of_neg (by simp), e4 _ (by omega), e4 _ (by omega)]
        simp
      · have e5 : n ∉ x :: r := by
          intro h
          rcases List.mem_cons.1 h with h | h
          · omega
          · have := hs.1 n h; omega
        rw [List.filter_cons_of_neg (by simp; omega), List.filter_cons_of_neg (by simp; omega), e4 _ (by omega), e4 _ (by omega), if_neg e5]
        rfl
theorem found_step {s t : List UInt8} {k q : Nat} {b : UInt8} (ht : t ≠ []) (hk : s[k]? = some b) (h : Top t (s.take (k + 1)) t.length q) :
    foundL s t (k + 1) = if q = t.length then foundL s t k ++ [k + 1 - t.length] else foundL s t k := by
  have hkl : k < s.length := (List.getElem?_eq_some_iff.1 hk).1
  have htl : 0 < t.length := List.length_pos_iff.2 ht
  have hq : q = t.length ↔ t <:+ s.take (k + 1) := by
    constructor
    · rintro rfl
      have := h.2.2.1
      rwa [List.take_length] at this
    · intro h2
      have h3 := h.2.2.2 t.length (Nat.le_refl _) (Nat.le_refl _) (by rwa [List.take_length])
      have := h.1
      omega
  by_cases h1 : t.length ≤ k + 1
  · have f : ∀ m, t.length ≤ m → foundL s t m = (findsL s t).filter (fun i => decide (i < m - t.length + 1)) := fun m hm => by
      refine List.filter_congr fun i _ => ?_
      rw [decide_eq_decide]; omega
    have f' : foundL s t k = (findsL s t).filter (fun i => decide (i < k + 1 - t.length)) := by
      refine List.filter_congr fun i _ => ?_
      rw [decide_eq_decide]; omega
    rw [f _ h1, filter_lt (finds_sorted s t), ← f']
    have e : (k + 1 - t.length ∈ findsL s t) ↔ q = t.length := by
      rw [finds_iff, hq, stands_iff hkl h1]
      constructor
      · exact fun h => h.2
      · exact fun h => ⟨by omega, h⟩
    by_cases hc : q = t.length
    · rw [if_pos (e.2 hc), if_pos hc]
    · rw [if_neg (fun hx => hc (e.1 hx)), if_neg hc, List.append_nil]
  · have hc : ¬ q = t.length := by
      rw [hq]
      intro h2
      have := h2.length_le
      simp at this
      omega
    rw [if_neg hc]
    refine List.filter_congr fun i _ => ?_
    rw [decide_eq_decide]; omega
end Go.Proofs.Ytbfabahdaacpfab
