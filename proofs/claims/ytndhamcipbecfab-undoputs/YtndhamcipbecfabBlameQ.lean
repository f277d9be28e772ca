/- How many bytes are whose: no program in it. -/
import Derived.Test.YtndhamcipbecfabRevL
namespace Go.Proofs.Ytndhamcipbecfab
set_option linter.unusedSimpArgs false
set_option linter.unusedVariables false

/-- how many there are of each of the first n numbers -/
def cntL (n : Nat) (y : List Nat) : List Nat := (List.range n).map (fun i => y.count i)
theorem cnt_len (n : Nat) (y : List Nat) : (cntL n y).length = n := by simp [cntL]
theorem cnt_at {n i : Nat} (y : List Nat) (h : i < n) : (cntL n y)[i]? = some (y.count i) := by simp [cntL, h]
theorem cnt_nil (n : Nat) : cntL n [] = List.replicate n 0 := by
  refine List.ext_getElem? fun i => ?_
  by_cases h : i < n
  · rw [cnt_at _ h, List.getElem?_replicate, if_pos h]; simp
  · rw [List.getElem?_eq_none (by rw [cnt_len]; omega), List.getElem?_eq_none (by simp; omega)]
theorem cnt_step {n j q : Nat} {x : List Nat} (h : x[j]? = some q) (hq : q < n) : (cntL n (x.take j)).set q ((x.take j).count q + 1) = cntL n (x.take (j + 1)) := by
  obtain ⟨h1, h2⟩ := List.getElem?_eq_some_iff.1 h
  refine List.ext_getElem? fun i => ?_
  by_cases hi : i < n
  · rw [cnt_at _ hi, List.take_succ_eq_append_getElem h1, h2, List.count_append]
    by_cases e : q = i
    · subst e
      rw [List.getElem?_set_self (by rw [cnt_len]; exact hi)]
      simp
    · rw [List.getElem?_set_ne e, cnt_at _ hi]
      have : (q == i) = false := by rw [beq_eq_false_iff_ne]; exact e
      simp [List.count_cons, this]
  · rw [List.getElem?_eq_none (by rw [List.length_set, cnt_len]; omega), List.getElem?_eq_none (by rw [cnt_len]; omega)]
theorem puts_snoc {d : List Pt} {j : Nat} {p : Pt} (h : d[j]? = some p) : putsI (d.take (j + 1)) = putsI (d.take j) + p.t.size := by
  induction d generalizing j with
  | nil => simp at h
  | cons q r ih =>
    cases j with
    | zero => simp at h; subst h; simp [putsI]
    | succ j =>
      have := ih (j := j) (by simpa using h)
      simp only [List.take_succ_cons, putsI, this]
      omega
theorem puts_bd {d : List Pt} (h : ∀ p ∈ d, p.t.size ≤ 500) : putsI d ≤ 500 * d.length := by
  induction d with
  | nil => simp [putsI]
  | cons p r ih =>
    have h1 := ih (fun q hq => h q (by simp [hq]))
    have h2 := h p (by simp)
    simp only [putsI, List.length_cons]
    omega
theorem each_puts {s : List UInt8} {l : List Rv} {i : Nat} {r : Rv} (h : histE s l = 0) (hi : l[i]? = some r) (x : List Nat) (hx : ∀ n ∈ x, n < 1) :
    (blameL x l 1).count (i + 1) ≤ putsI r.d ∧ (i + 1 = l.length → (blameL x l 1).count (i + 1) = putsI r.d) := by
  obtain ⟨h1, h2⟩ := List.getElem?_eq_some_iff.1 hi
  have e : l = l.take i ++ r :: l.drop (i + 1) := by rw [← drop_rv hi, List.take_append_drop]
  have hl : (l.take i).length = i := by rw [List.length_take]; omega
  have hb := blame_puts (a := l.take i) (b := l.drop (i + 1)) (r := r) (x := x) (i := 1) hx
  rw [← e, hl, Nat.add_comm 1 i] at hb
  have hw := puts_word (sizes_right (hist_at h hi).2.1)
  rw [hw] at hb
  exact ⟨hb.1, fun hh => hb.2 (List.drop_eq_nil_of_le (by omega))⟩
theorem each_zero (l : List Rv) (n : Nat) : (blameL (List.replicate n 0) l 1).count 0 ≤ n := by
  have := blame_less (l := l) (x := List.replicate n 0) (i := 1) (n := 0) (by omega)
  simpa using this
theorem each_le {l : List Rv} {n q : Nat} (h : q ∈ blameL (List.replicate n 0) l 1) : q ≤ l.length := by
  rcases blame_mem h with h | h
  · have := (List.mem_replicate.1 h).2; omega
  · omega
theorem blame_parts {s : List UInt8} {l : List Rv} {k : Nat} (h : histE s l = 0) (hk : k ≤ l.length) :
    (blameL (List.replicate s.length 0) l 1).map (· - k) = blameL (List.replicate (textAt s l k).length 0) (l.drop k) 1 := by
  have hl : (l.take k).length = k := by rw [List.length_take]; omega
  have e : blameL (List.replicate s.length 0) l 1 = blameL (blameL (List.replicate s.length 0) (l.take k) 1) (l.drop k) (1 + k) := by
    have h1 := blame_app (l.take k) (l.drop k) (List.replicate s.length 0) 1
    rw [List.take_append_drop, hl] at h1
    exact h1
  have h2 := blame_from (l := l.drop k) (blameL (List.replicate s.length 0) (l.take k) 1) (k := k) (i := 1 + k) (by omega)
  rw [e, ← h2, show 1 + k - k = 1 by omega]
  congr 1
  have h3 := blame_at h hk
  refine List.ext_getElem? fun i => ?_
  rw [List.getElem?_map, List.getElem?_replicate]
  by_cases hi : i < (textAt s l k).length
  · rw [if_pos hi, List.getElem?_eq_getElem (by omega), Option.map_some]
    have h4 := each_le (List.getElem_mem (l := blameL (List.replicate s.length 0) (l.take k) 1) (n := i) (by omega))
    rw [hl] at h4
    congr 1
    omega
  · rw [if_neg hi, List.getElem?_eq_none (by omega)]; rfl
end Go.Proofs.Ytndhamcipbecfab
