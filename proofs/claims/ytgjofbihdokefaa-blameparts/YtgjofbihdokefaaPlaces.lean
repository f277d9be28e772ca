/- The document's own road, byte by byte: what is put at each place, and whether its byte is kept: as plain functions. -/
import Derived.Test.YtgjofbihdokefaaFits
namespace Go.Proofs.Ytgjofbihdokefaa
set_option linter.unusedSimpArgs false
set_option linter.unusedVariables false

def setLast (q : List ByteArray) (t : ByteArray) : List ByteArray := q.dropLast ++ [(q.getLast?.getD ByteArray.empty) ++ t]
def ofStep (st : List ByteArray × List Bool) (p : Pt) : List ByteArray × List Bool :=
  if p.k = 2 then (setLast st.1 p.t, st.2) else (st.1 ++ List.replicate p.n.toNat ByteArray.empty, st.2 ++ List.replicate p.n.toNat (decide (p.k = 1)))
def ofAll (l : List Pt) : List ByteArray × List Bool := l.foldl ofStep ([ByteArray.empty], [])

def plDo : List ByteArray → List Bool → List UInt8 → List UInt8
  | q :: qs, b :: ks, c :: s => q.data.toList ++ (if b = true then [c] else []) ++ plDo qs ks s
  | q :: _, [], _ => q.data.toList
  | _, _, _ => []
def plPre : List ByteArray → List Bool → List UInt8 → List UInt8
  | q :: qs, b :: ks, c :: s => q.data.toList ++ (if b = true then [c] else []) ++ plPre qs ks s
  | _, _, _ => []

theorem ofAll_snoc {l : List Pt} {i : Nat} {p : Pt} (h : l[i]? = some p) : ofAll (l.take (i + 1)) = ofStep (ofAll (l.take i)) p := by
  rw [take_snoc h]; simp [ofAll, List.foldl_append]

theorem setLast_snoc (qs : List ByteArray) (a t : ByteArray) : setLast (qs ++ [a]) t = qs ++ [a ++ t] := by
  simp [setLast, List.getLast?_append]

theorem ofStep_len {st : List ByteArray × List Bool} {p : Pt} (h : st.1.length = st.2.length + 1) : (ofStep st p).1.length = (ofStep st p).2.length + 1 := by
  unfold ofStep
  split
  · simp [setLast]; omega
  · simp; omega
theorem fold_len (l : List Pt) {st : List ByteArray × List Bool} (h : st.1.length = st.2.length + 1) : (l.foldl ofStep st).1.length = (l.foldl ofStep st).2.length + 1 := by
  induction l generalizing st with
  | nil => exact h
  | cons p r ih => exact ih (ofStep_len h)
theorem ofAll_len (l : List Pt) : (ofAll l).1.length = (ofAll l).2.length + 1 := fold_len l rfl

theorem ofStep_kept {st : List ByteArray × List Bool} {p : Pt} (h : p.n ≤ 500) : (ofStep st p).2.length ≤ st.2.length + 500 := by
  unfold ofStep
  split
  · simp
  · simp; omega
theorem ofAll_kept {l : List Pt} (h : ∀ p ∈ l, 0 ≤ p.n ∧ p.n ≤ 500 ∧ p.t.size ≤ 500) : (ofAll l).2.length ≤ 500 * l.length := by
  suffices H : ∀ st : List ByteArray × List Bool, (l.foldl ofStep st).2.length ≤ st.2.length + 500 * l.length by simpa [ofAll] using H ([ByteArray.empty], [])
  induction l with
  | nil => simp
  | cons p r ih =>
    intro st
    have h1 := ih (fun q hq => h q (by simp [hq])) (ofStep st p)
    have h2 := ofStep_kept (st := st) (h p (by simp)).2.1
    simp only [List.foldl_cons, List.length_cons]
    omega
theorem ofAll_size {l : List Pt} (h : ∀ p ∈ l, 0 ≤ p.n ∧ p.n ≤ 500 ∧ p.t.size ≤ 500) : ∀ q ∈ (ofAll l).1, q.size ≤ 500 * l.length := by
  suffices H : ∀ (st : List ByteArray × List Bool) (m : Nat), (∀ q ∈ st.1, q.size ≤ m) → ∀ q ∈ (l.foldl ofStep st).1, q.size ≤ m + 500 * l.length by
    have := H ([ByteArray.empty], []) 0 (by simp)
    simpa [ofAll] using this
  induction l with
  | nil => intro st m hm q hq; simpa using hm q hq
  | cons p r ih =>
    intro st m hm q hq
    have hp := h p (by simp)
    have hst : ∀ q ∈ (ofStep st p).1, q.size ≤ m + 500 := by
      intro q hq
      unfold ofStep at hq
      split at hq
      · simp only [setLast, List.mem_append, List.mem_singleton] at hq
        rcases hq with hq | hq
        · have := hm q (List.dropLast_subset _ hq); omega
        · rw [hq, ByteArray.size_append]
          cases hl : st.1.getLast? with
          | none => simp; omega
          | some x =>
            have := hm x (List.mem_of_getLast? hl)
            simp; omega
      · simp only [List.mem_append, List.mem_replicate] at hq
        rcases hq with hq | hq
        · have := hm q hq; omega
        · rw [hq.2]; simp
    have := ih (fun q hq => h q (by simp [hq])) (ofStep st p) (m + 500) hst q hq
    simp only [List.length_cons]; omega

theorem plPre_append (qs qs' : List ByteArray) (ks ks' : List Bool) (s s' : List UInt8) (h1 : qs.length = ks.length) (h2 : s.length = ks.length) :
    plPre (qs ++ qs') (ks ++ ks') (s ++ s') = plPre qs ks s ++ plPre qs' ks' s' := by
  induction ks generalizing qs s with
  | nil =>
    have h3 : qs = [] := List.length_eq_zero_iff.1 (by simpa using h1)
    have h4 : s = [] := List.length_eq_zero_iff.1 (by simpa using h2)
    subst h3 h4
    simp [plPre]
  | cons b ks ih =>
    cases qs with
    | nil => simp at h1
    | cons q qs =>
      cases s with
      | nil => simp at h2
      | cons c s =>
        have := ih qs s (by simpa using h1) (by simpa using h2)
        simp [plPre, this, List.append_assoc]
theorem plDo_pre (qs : List ByteArray) (q : ByteArray) (ks : List Bool) (s s' : List UInt8) (h1 : qs.length = ks.length) (h2 : s.length = ks.length) :
    plDo (qs ++ [q]) ks (s ++ s') = plPre qs ks s ++ q.data.toList := by
  induction ks generalizing qs s with
  | nil =>
    have h3 : qs = [] := List.length_eq_zero_iff.1 (by simpa using h1)
    have h4 : s = [] := List.length_eq_zero_iff.1 (by simpa using h2)
    subst h3 h4
    simp [plPre, plDo]
  | cons b ks ih =>
    cases qs with
    | nil => simp at h1
    | cons q' qs =>
      cases s with
      | nil => simp at h2
      | cons c s =>
        have := ih qs s (by simpa using h1) (by simpa using h2)
        simp [plPre, plDo, this, List.append_assoc]

theorem plPre_keep (n : Nat) (q : ByteArray) (s : List UInt8) (h : s.length = n + 1) :
    plPre (q :: List.replicate n ByteArray.empty) (List.replicate (n + 1) true) s = q.data.toList ++ s := by
  induction n generalizing q s with
  | zero =>
    match s, h with
    | [c], _ => simp [plPre, List.replicate]
  | succ n ih =>
    cases s with
    | nil => simp at h
    | cons c s =>
      have := ih ByteArray.empty s (by simpa using h)
      rw [List.replicate_succ (n := n + 1), List.replicate_succ (n := n)]
      simp only [plPre, if_true]
      rw [this]
      have he : ByteArray.empty.data.toList = [] := rfl
      simp [he]
theorem plPre_cut (n : Nat) (q : ByteArray) (s : List UInt8) (h : s.length = n + 1) :
    plPre (q :: List.replicate n ByteArray.empty) (List.replicate (n + 1) false) s = q.data.toList := by
  induction n generalizing q s with
  | zero =>
    match s, h with
    | [c], _ => simp [plPre, List.replicate]
  | succ n ih =>
    cases s with
    | nil => simp at h
    | cons c s =>
      have := ih ByteArray.empty s (by simpa using h)
      rw [List.replicate_succ (n := n + 1), List.replicate_succ (n := n)]
      simp only [plPre]
      rw [this]
      have he : ByteArray.empty.data.toList = [] := rfl
      simp [he]

theorem data_append (a b : ByteArray) : (a ++ b).data.toList = a.data.toList ++ b.data.toList := by
  rw [ByteArray.data_append, Array.toList_append]

theorem rep_split (m : Nat) : List.replicate (m + 1) ByteArray.empty = List.replicate m ByteArray.empty ++ [ByteArray.empty] := by
  rw [List.replicate_succ']

theorem plDo_fold (l : List Pt) (hR : ∀ p ∈ l, 0 ≤ p.n ∧ (p.k = 2 → p.n = 0)) : ∀ (qs : List ByteArray) (q : ByteArray) (ks : List Bool) (s1 s2 : List UInt8), qs.length = ks.length → s1.length = ks.length → (s2.length : Int) = inI l →
    plDo (l.foldl ofStep (qs ++ [q], ks)).1 (l.foldl ofStep (qs ++ [q], ks)).2 (s1 ++ s2) = plPre qs ks s1 ++ q.data.toList ++ doL l s2 := by
  induction l with
  | nil =>
    intro qs q ks s1 s2 h1 h2 h3
    simp [plDo_pre qs q ks s1 s2 h1 h2, doL]
  | cons p r ih =>
    intro qs q ks s1 s2 h1 h2 h3
    have hp := hR p (by simp)
    have hge : ∀ l : List Pt, (∀ p ∈ l, 0 ≤ p.n ∧ (p.k = 2 → p.n = 0)) → 0 ≤ inI l := by
      intro l
      induction l with
      | nil => simp [inI]
      | cons a b ih2 =>
        intro h
        have h4 := h a (by simp)
        have h5 := ih2 (fun q hq => h q (by simp [hq]))
        simp only [inI]; omega
    have hr := hge r (fun q hq => hR q (by simp [hq]))
    simp only [inI] at h3
    have ih := ih (fun q hq => hR q (by simp [hq]))
    simp only [List.foldl_cons]
    by_cases hk : p.k = 2
    · have e : ofStep (qs ++ [q], ks) p = (qs ++ [q ++ p.t], ks) := by simp [ofStep, hk, setLast_snoc]
      rw [e, ih qs (q ++ p.t) ks s1 s2 h1 h2 (by have := hp.2 hk; omega)]
      simp [doL, hk, data_append, List.append_assoc]
    · by_cases hn : p.n.toNat = 0
      · have e : ofStep (qs ++ [q], ks) p = (qs ++ [q], ks) := by simp [ofStep, hk, hn]
        rw [e, ih qs q ks s1 s2 h1 h2 (by omega)]
        by_cases h1k : p.k = 1 <;> simp [doL, hk, h1k, hn]
      · obtain ⟨m, hm⟩ : ∃ m, p.n.toNat = m + 1 := ⟨p.n.toNat - 1, by omega⟩
        have e : ofStep (qs ++ [q], ks) p = ((qs ++ q :: List.replicate m ByteArray.empty) ++ [ByteArray.empty], ks ++ List.replicate (m + 1) (decide (p.k = 1))) := by
          simp [ofStep, hk, hm, rep_split, List.append_assoc]
        have hs2 : s2 = s2.take (m + 1) ++ s2.drop (m + 1) := (List.take_append_drop _ _).symm
        have hl2 : (s2.take (m + 1)).length = m + 1 := by rw [List.length_take]; omega
        have e2 : s1 ++ s2 = (s1 ++ s2.take (m + 1)) ++ s2.drop (m + 1) := by rw [List.append_assoc, List.take_append_drop]
        rw [e, e2, ih _ _ _ (s1 ++ s2.take (m + 1)) (s2.drop (m + 1)) (by simp; omega) (by simp only [List.length_append, hl2, List.length_replicate]; omega) (by rw [List.length_drop]; omega)]
        rw [plPre_append qs _ ks _ s1 _ h1 h2]
        have he : ByteArray.empty.data.toList = [] := rfl
        by_cases h1k : p.k = 1
        · simp only [h1k, decide_true]
          rw [plPre_keep m q _ hl2, he]
          simp [doL, h1k, hm, List.append_assoc]
        · simp only [h1k, decide_false]
          rw [plPre_cut m q _ hl2, he]
          simp [doL, hk, h1k, hm, List.append_assoc]

theorem plDo_all {l : List Pt} (hR : ∀ p ∈ l, 0 ≤ p.n ∧ (p.k = 2 → p.n = 0)) {s : List UInt8} (h : (s.length : Int) = inI l) : plDo (ofAll l).1 (ofAll l).2 s = doL l s := by
  have := plDo_fold l hR [] ByteArray.empty [] [] s rfl rfl h
  have he : ByteArray.empty.data.toList = [] := rfl
  simpa [plPre, he, ofAll] using this

/-- the walk of Do: what is done after i places -/
theorem plDo_step {q : ByteArray} {b : Bool} {c : UInt8} {qs : List ByteArray} {ks : List Bool} {s : List UInt8} {i : Nat} (h1 : qs[i]? = some q) (h2 : ks[i]? = some b) (h3 : s[i]? = some c) :
    plDo (qs.drop i) (ks.drop i) (s.drop i) = q.data.toList ++ (if b = true then [c] else []) ++ plDo (qs.drop (i + 1)) (ks.drop (i + 1)) (s.drop (i + 1)) := by
  obtain ⟨l1, rfl⟩ := List.getElem?_eq_some_iff.1 h1
  obtain ⟨l2, rfl⟩ := List.getElem?_eq_some_iff.1 h2
  obtain ⟨l3, rfl⟩ := List.getElem?_eq_some_iff.1 h3
  rw [List.drop_eq_getElem_cons l1, List.drop_eq_getElem_cons l2, List.drop_eq_getElem_cons l3]
  rfl
theorem plDo_end {q : ByteArray} {qs : List ByteArray} {ks : List Bool} {s : List UInt8} (h1 : qs[ks.length]? = some q) :
    plDo (qs.drop ks.length) (ks.drop ks.length) (s.drop ks.length) = q.data.toList := by
  obtain ⟨l1, rfl⟩ := List.getElem?_eq_some_iff.1 h1
  rw [List.drop_eq_getElem_cons l1, List.drop_length]
  rfl

theorem ofAll_keptlen {l : List Pt} (hR : ∀ p ∈ l, 0 ≤ p.n ∧ (p.k = 2 → p.n = 0)) : ((ofAll l).2.length : Int) = inI l := by
  suffices H : ∀ st : List ByteArray × List Bool, ((l.foldl ofStep st).2.length : Int) = st.2.length + inI l by simpa [ofAll] using H ([ByteArray.empty], [])
  induction l with
  | nil => simp [inI]
  | cons p r ih =>
    intro st
    have hp := hR p (by simp)
    have h1 := ih (fun q hq => hR q (by simp [hq])) (ofStep st p)
    simp only [List.foldl_cons, inI]
    rw [h1]
    unfold ofStep
    split
    · rename_i hk
      have := hp.2 hk
      simp; omega
    · simp; omega

end Go.Proofs.Ytgjofbihdokefaa
