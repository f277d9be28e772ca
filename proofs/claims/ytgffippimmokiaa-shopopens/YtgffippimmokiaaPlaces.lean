/- The document's own road, byte by byte: what is put at each place, and whether its byte is kept: as plain functions. -/
import Derived.Test.YtgffippimmokiaaDelta
namespace Go.Proofs.Ytgffippimmokiaa
set_option linter.unusedSimpArgs false
set_option linter.unusedVariables false

def setLast (q : List ByteArray) (t : ByteArray) : List ByteArray := q.dropLast ++ [(q.getLast?.getD ByteArray.empty) ++ t]
def ofStep (st : List ByteArray × List Bool) (p : Pt) : List ByteArray × List Bool :=
  if p.k = 2 then (setLast st.1 p.t, st.2) else (st.1 ++ List.replicate p.n.toNat ByteArray.empty, st.2 ++ List.replicate p.n.toNat (decide (p.k = 1)))
def ofAll (l : List Pt) : List ByteArray × List Bool := l.foldl ofStep ([ByteArray.empty], [])

def plDo : List ByteArray → List Bool → List UInt8 → List UInt8
  | q :: qs, b :: ks, c :: s => q.data.toList ++ (if b = true then [c] else []) ++ plDo qs ks s
  | q :: _, [], _ => q.data.toList
  | _, _, _ => []
def plPre : List ByteArray → List Bool → List UInt8 → List UInt8
  | q :: qs, b :: ks, c :: s => q.data.toList ++ (if b = true then [c] else []) ++ plPre qs ks s
  | _, _, _ => []

theorem ofAll_snoc {l : List Pt} {i : Nat} {p : Pt} (h : l[i]? = some p) : ofAll (l.take (i + 1)) = ofStep (ofAll (l.take i)) p := by
  rw [take_snoc h]; simp [ofAll, List.foldl_append]

theorem setLast_snoc (qs : List ByteArray) (a t : ByteArray) : setLast (qs ++ [a]) t = qs ++ [a ++ t] := by
  simp [setLast, List.getLast?_append]

theorem ofStep_len {st : List ByteArray × List Bool} {p : Pt} (h : st.1.length = st.2.length + 1) : (ofStep st p).1.length = (ofStep st p).2.length + 1 := by
  unfold ofStep
  split
  · simp [setLast]; omega
  · simp; omega
theorem fold_len (l : List Pt) {st : List ByteArray × List Bool} (h : st.1.length = st.2.length + 1) : (l.foldl ofStep st).1.length = (l.foldl ofStep st).2.length + 1 := by
  induction l generalizing st with
  | nil => exact h
  | cons p r ih => exact ih (ofStep_len h)
theorem ofAll_len (l : List Pt) : (ofAll l).1.length = (ofAll l).2.length + 1 := fold_len l rfl

theorem ofStep_kept {st : List ByteArray × List Bool} {p : Pt} (h : p.n ≤ 500) : (ofStep st p).2.length ≤ st.2.length + 500 := by
  unfold ofStep
  split
  · simp
  · simp; omega
theorem ofAll_kept {l : List Pt} (h : ∀ p ∈ l, 0 ≤ p.n ∧ p.n ≤ 500 ∧ p.t.size ≤ 500) : (ofAll l).2.length ≤ 500 * l.length := by
  suffices H : ∀ st : List ByteArray × List Bool, (l.foldl ofStep st).2.length ≤ st.2.length + 500 * l.length by simpa [ofAll] using H ([ByteArray.empty], [])
  induction l with
  | nil => simp
  | cons p r ih =>
    intro st
    have h1 := ih (fun q hq => h q (by simp [hq])) (ofStep st p)
    have h2 := ofStep_kept (st := st) (h p (by simp)).2.1
    simp only [List.foldl_cons, List.length_cons]
    omega
theorem ofAll_size {l : List Pt} (h : ∀ p ∈ l, 0 ≤ p.n ∧ p.n ≤ 500 ∧ p.t.size ≤ 500) : ∀ q ∈ (ofAll l).1, q.size ≤ 500 * l.length := by
  suffices H : ∀ (st : List ByteArray × List Bool) (m : Nat), (∀ q ∈ st.1, q.size ≤ m) → ∀ q ∈ (l.foldl ofStep st).1, q.size ≤ m + 500 * l.length by
    have := H ([ByteArray.empty], []) 0 (by simp)
    simpa [ofAll] using this
  induction l with
  | nil => intro st m hm q hq; simpa using hm q hq
  | cons p r ih =>
    intro st m hm q hq
    have hp := h p (by simp)
    have hst : ∀ q ∈ (ofStep st p).1, q.size ≤ m + 500 := by
      intro q hq
      unfold ofStep at hq
      split at hq
      · simp only [setLast, List.mem_append, List.mem_singleton] at hq
        rcases hq with hq | hq
        · have := hm q (List.dropLast_subset _ hq); omega
        · rw [hq, ByteArray.size_append]
          cases hl : st.1.getLast? with
          | none => simp; omega
          | some x =>
            have := hm x (List.mem_of_getLast? hl)
            simp; omega
      · simp only [List.mem_append, List.mem_replicate] at hq
        rcases hq with hq | hq
        · have := hm q hq; omega
        · rw [hq.2]; simp
    have := ih (fun q hq => h q (by simp [hq])) (ofStep st p) (m + 500) hst q hq
    simp only [List.length_cons]; omega

theorem plPre_append (qs qs' : List ByteArray) (ks ks' : List Bool) (s s' : List UInt8) (h1 : qs.length = ks.length) (h2 : s.length = ks.length) :
    plPre (qs ++ qs') (ks ++ ks') (s ++ s') = plPre qs ks s ++ plPre qs' ks' s' := by
  induction ks generalizing qs s with
  | nil =>
    have h3 : qs = [] := List.length_eq_zero_iff.1 (by simpa using h1)
    have h4 : s = [] := List.length_eq_zero_iff.1 (by simpa using h2)
    subst h3 h4
    simp [plPre]
  | cons b ks ih =>
    cases qs with
    | nil => simp at h1
    | cons q qs =>
      cases s with
      | nil => simp at h2
      | cons c s =>
        have := ih qs s (by simpa using h1) (by simpa using h2)
        simp [plPre, this, List.append_assoc]
theorem plDo_pre (qs : List ByteArray) (q : ByteArray) (ks : List Bool) (s s' : List UInt8) (h1 : qs.length = ks.length) (h2 : s.length = ks.length) :
    plDo (qs ++ [q]) ks (s ++ s') = plPre qs ks s ++ q.data.toList := by
  induction ks generalizing qs s with
  | nil =>
    have h3 : qs = [] := List.length_eq_zero_iff.1 (by simpa using h1)
    have h4 : s = [] := List.length_eq_zero_iff.1 (by simpa using h2)
    subst h3 h4
    simp [plPre, plDo]
  | cons b ks ih =>
    cases qs with
    | nil => simp at h1
    | cons q' qs =>
      cases s with
      | nil => simp at h2
      | cons c s =>
        have := ih qs s (by simpa using h1) (by simpa using h2)
        simp [plPre, plDo, this, List.append_assoc]

theorem plPre_keep (n : Nat) (q : ByteArray) (s : List UInt8) (h : s.length = n + 1) :
    plPre (q :: List.replicate n ByteArray.empty) (List.replicate (n + 1) true) s = q.data.toList ++ s := by
  induction n generalizing q s with
  | zero =>
    match s, h with
    | [c], _ => simp [plPre, List.replicate]
  | succ n ih =>
    cases s with
    | nil => simp at h
    | cons c s =>
      have := ih ByteArray.empty s (by simpa using h)
      rw [List.replicate_succ (n := n + 1), List.replicate_succ (n := n)]
      simp only [plPre, if_true]
      rw [this]
      have he : ByteArray.empty.data.toList = [] := rfl
      simp [he]
theorem plPre_cut (n : Nat) (q : ByteArray) (s : List UInt8) (h : s.length = n + 1) :
    plPre (q :: List.replicate n ByteArray.empty) (List.replicate (n + 1) false) s = q.data.toList := by
  induction n generalizing q s with
  | zero =>
    match s, h with
    | [c], _ => simp [plPre, List.replicate]
  | succ n ih =>
    cases s with
    | nil => simp at h
    | cons c s =>
      have := ih ByteArray.empty s (by simpa using h)
      rw [List.replicate_succ (n := n + 1), List.replicate_succ (n := n)]
      simp only [plPre]
      rw [this]
      have he : ByteArray.empty.data.toList = [] := rfl
      simp [he]

theorem data_append (a b : ByteArray) : (a ++ b).data.toList = a.data.toList ++ b.data.toList := by
  rw [ByteArray.data_append, Array.toList_append]

theorem rep_split (m : Nat) : List.replicate (m + 1) ByteArray.empty = List.replicate m ByteArray.empty ++ [ByteArray.empty] := by
  rw [List.replicate_succ']

theorem plDo_fold (l : List Pt) (hR : ∀ p ∈ l, 0 ≤ p.n ∧ (p.k = 2 → p.n = 0)) : ∀ (qs : List ByteArray) (q : ByteArray) (ks : List Bool) (s1 s2 : List UInt8), qs.length = ks.length → s1.length = ks.length → (s2.length : Int) = inI l →
    plDo (l.foldl ofStep (qs ++ [q], ks)).1 (l.foldl ofStep (qs ++ [q], ks)).2 (s1 ++ s2) = plPre qs ks s1 ++ q.data.toList ++ doL l s2 := by
  induction l with
  | nil =>
    intro qs q ks s1 s2 h1 h2 h3
    simp [plDo_pre qs q ks s1 s2 h1 h2, doL]
  | cons p r ih =>
    intro qs q ks s1 s2 h1 h2 h3
    have hp := hR p (by simp)
    have hge : ∀ l : List Pt, (∀ p ∈ l, 0 ≤ p.n ∧ (p.k = 2 → p.n = 0)) → 0 ≤ inI l := by
      intro l
      induction l with
      | nil => simp [inI]
      | cons a b ih2 =>
        intro h
        have h4 := h a (by simp)
        have h5 := ih2 (fun q hq => h q (by simp [hq]))
        simp only [inI]; omega
    have hr := hge r (fun q hq => hR q (by simp [hq]))
    simp only [inI] at h3
    have ih := ih (fun q hq => hR q (by simp [hq]))
    simp only [List.foldl_cons]
    by_cases hk : p.k = 2
    · have e : ofStep (qs ++ [q], ks) p = (qs ++ [q ++ p.t], ks) := by simp [ofStep, hk, setLast_snoc]
      rw [e, ih qs (q ++ p.t) ks s1 s2 h1 h2 (by have := hp.2 hk; omega)]
      simp [doL, hk, data_append, List.append_assoc]
    · by_cases hn : p.n.toNat = 0
      · have e : ofStep (qs ++ [q], ks) p = (qs ++ [q], ks) := by simp [ofStep, hk, hn]
        rw [e, ih qs q ks s1 s2 h1 h2 (by omega)]
        by_cases h1k : p.k = 1 <;> simp [doL, hk, h1k, hn]
      · obtain ⟨m, hm⟩ : ∃ m, p.n.toNat = m + 1 := ⟨p.n.toNat - 1, by omega⟩
        have e : ofStep (qs ++ [q], ks) p = ((qs ++ q :: List.replicate m ByteArray.empty) ++ [ByteArray.empty], ks ++ List.replicate (m + 1) (decide (p.k = 1))) := by
          simp [ofStep, hk, hm, rep_split, List.append_assoc]
        have hs2 : s2 = s2.take (m + 1) ++ s2.drop (m + 1) := (List.take_append_drop _ _).symm
        have hl2 : (s2.take (m + 1)).length = m + 1 := by rw [List.length_take]; omega
        have e2 : s1 ++ s2 = (s1 ++ s2.take (m + 1)) ++ s2.drop (m + 1) := by rw [List.append_assoc, List.take_append_drop]
        rw [e, e2, ih _ _ _ (s1 ++ s2.take (m + 1)) (s2.drop (m + 1)) (by simp; omega) (by simp only [List.length_append, hl2, List.length_replicate]; omega) (by rw [List.length_drop]; omega)]
        rw [plPre_append qs _ ks _ s1 _ h1 h2]
        have he : ByteArray.empty.data.toList = [] := rfl
        by_cases h1k : p.k = 1
        · simp only [h1k, decide_true]
          rw [plPre_keep m q _ hl2, he]
          simp [doL, h1k, hm, List.append_assoc]
        · simp only [h1k, decide_false]
          rw [plPre_cut m q _ hl2, he]
          simp [doL, hk, h1k, hm, List.append_assoc]

theorem plDo_all {l : List Pt} (hR : ∀ p ∈ l, 0 ≤ p.n ∧ (p.k = 2 → p.n = 0)) {s : List UInt8} (h : (s.length : Int) = inI l) : plDo (ofAll l).1 (ofAll l).2 s = doL l s := by
  have := plDo_fold l hR [] ByteArray.empty [] [] s rfl rfl h
  have he : ByteArray.empty.data.toList = [] := rfl
  simpa [plPre, he, ofAll] using this

/-- the walk of Do: what is done after i places -/
theorem plDo_step {q : ByteArray} {b : Bool} {c : UInt8} {qs : List ByteArray} {ks : List Bool} {s : List UInt8} {i : Nat} (h1 : qs[i]? = some q) (h2 : ks[i]? = some b) (h3 : s[i]? = some c) :
    plDo (qs.drop i) (ks.drop i) (s.drop i) = q.data.toList ++ (if b = true then [c] else []) ++ plDo (qs.drop (i + 1)) (ks.drop (i + 1)) (s.drop (i + 1)) := by
  obtain ⟨l1, rfl⟩ := List.getElem?_eq_some_iff.1 h1
  obtain ⟨l2, rfl⟩ := List.getElem?_eq_some_iff.1 h2
  obtain ⟨l3, rfl⟩ := List.getElem?_eq_some_iff.1 h3
  rw [List.drop_eq_getElem_cons l1, List.drop_eq_getElem_cons l2, List.drop_eq_getElem_cons l3]
  rfl
theorem plDo_end {q : ByteArray} {qs : List ByteArray} {ks : List Bool} {s : List UInt8} (h1 : qs[ks.length]? = some q) :
    plDo (qs.drop ks.length) (ks.drop ks.length) (s.drop ks.length) = q.data.toList := by
  obtain ⟨l1, rfl⟩ := List.getElem?_eq_some_iff.1 h1
  rw [List.drop_eq_getElem_cons l1, List.drop_length]
  rfl

theorem ofAll_keptlen {l : List Pt} (hR : ∀ p ∈ l, 0 ≤ p.n ∧ (p.k = 2 → p.n = 0)) : ((ofAll l).2.length : Int) = inI l := by
  suffices H : ∀ st : List ByteArray × List Bool, ((l.foldl ofStep st).2.length : Int) = st.2.length + inI l by simpa [ofAll] using H ([ByteArray.empty], [])
  induction l with
  | nil => simp [inI]
  | cons p r ih =>
    intro st
    have hp := hR p (by simp)
    have h1 := ih (fun q hq => hR q (by simp [hq])) (ofStep st p)
    simp only [List.foldl_cons, inI]
    rw [h1]
    unfold ofStep
    split
    · rename_i hk
      have := hp.2 hk
      simp; omega
    · simp; omega

end Go.Proofs.Ytgffippimmokiaa

/- Parts brought into their form, as plain functions: the program's road (gather), the document's (place by place), and that both come to one. -/
namespace Go.Proofs.Ytgffippimmokiaa
set_option linter.unusedSimpArgs false
set_option linter.unusedVariables false

def settleL (sl : List Pt) (tx : List UInt8) (ct : Int) : List Pt :=
  (sl ++ (if tx = [] then [] else [⟨2, 0, ⟨tx.toArray⟩⟩])) ++ (if 0 < ct then [⟨3, ct, ByteArray.empty⟩] else [])
def keepL (sl : List Pt) (n : Int) : List Pt :=
  match sl.getLast? with
  | some p => if p.k = 1 then sl.dropLast ++ [⟨p.k, p.n + n, p.t⟩] else sl ++ [⟨1, n, ByteArray.empty⟩]
  | none => sl ++ [⟨1, n, ByteArray.empty⟩]
structure GSt where
  sl : List Pt
  tx : List UInt8
  ct : Int
def gStep (s : GSt) (p : Pt) : GSt :=
  if p.k = 1 then (if p.n = 0 then s else ⟨keepL (settleL s.sl s.tx s.ct) p.n, [], 0⟩) else if p.k = 2 then ⟨s.sl, s.tx ++ p.t.data.toList, s.ct⟩ else ⟨s.sl, s.tx, s.ct + p.n⟩
def gAll (l : List Pt) : GSt := l.foldl gStep ⟨[], [], 0⟩
def gatherL (l : List Pt) : List Pt := settleL (gAll l).sl (gAll l).tx (gAll l).ct

def pStep (s : GSt) (q : ByteArray) (b : Bool) : GSt :=
  if b = true then ⟨keepL (settleL s.sl (s.tx ++ q.data.toList) s.ct) 1, [], 0⟩ else ⟨s.sl, s.tx ++ q.data.toList, s.ct + 1⟩
def pAll : List ByteArray → List Bool → GSt → GSt
  | q :: qs, b :: ks, s => pAll qs ks (pStep s q b)
  | _, _, s => s
def deltaP (qs : List ByteArray) (ks : List Bool) : List Pt :=
  let s := pAll qs ks ⟨[], [], 0⟩
  settleL s.sl (s.tx ++ (qs.getLast?.getD ByteArray.empty).data.toList) s.ct

theorem gAll_snoc {l : List Pt} {i : Nat} {p : Pt} (h : l[i]? = some p) : gAll (l.take (i + 1)) = gStep (gAll (l.take i)) p := by
  rw [take_snoc h]; simp [gAll, List.foldl_append]

theorem settle_none (sl : List Pt) : settleL sl [] 0 = sl := by simp [settleL]
theorem keep_keep (sl : List Pt) (a b : Int) : keepL (keepL sl a) b = keepL sl (a + b) := by
  unfold keepL
  cases h : sl.getLast? with
  | none => simp [List.getLast?_append]
  | some p =>
    by_cases hk : p.k = 1
    · simp [hk, List.getLast?_append]; omega
    · simp [hk, List.getLast?_append]

theorem pAll_append (qs qs' : List ByteArray) (ks ks' : List Bool) (s : GSt) (h : qs.length = ks.length) : pAll (qs ++ qs') (ks ++ ks') s = pAll qs' ks' (pAll qs ks s) := by
  induction ks generalizing qs s with
  | nil =>
    have h3 : qs = [] := List.length_eq_zero_iff.1 (by simpa using h)
    subst h3
    cases qs' <;> simp [pAll]
  | cons b ks ih =>
    cases qs with
    | nil => simp at h
    | cons q qs => simpa [pAll] using ih qs _ (by simpa using h)
theorem pAll_last (qs : List ByteArray) (q : ByteArray) (ks : List Bool) (s : GSt) (h : qs.length = ks.length) : pAll (qs ++ [q]) ks s = pAll qs ks s := by
  have := pAll_append qs [q] ks [] s h
  simpa [pAll] using this

theorem empty_data : ByteArray.empty.data.toList = [] := rfl
theorem pAll_cut (n : Nat) (q : ByteArray) (s : GSt) : pAll (q :: List.replicate n ByteArray.empty) (List.replicate (n + 1) false) s = ⟨s.sl, s.tx ++ q.data.toList, s.ct + (n + 1 : Nat)⟩ := by
  induction n generalizing q s with
  | zero => simp [pAll, pStep, List.replicate]
  | succ n ih =>
    rw [List.replicate_succ (n := n + 1), List.replicate_succ (n := n)]
    simp only [pAll]
    rw [ih]
    simp [pStep, empty_data]; omega
theorem pAll_keep (n : Nat) (q : ByteArray) (s : GSt) : pAll (q :: List.replicate n ByteArray.empty) (List.replicate (n + 1) true) s = ⟨keepL (settleL s.sl (s.tx ++ q.data.toList) s.ct) (n + 1 : Nat), [], 0⟩ := by
  induction n generalizing q s with
  | zero => simp [pAll, pStep, List.replicate]
  | succ n ih =>
    rw [List.replicate_succ (n := n + 1), List.replicate_succ (n := n)]
    simp only [pAll]
    rw [ih]
    simp only [pStep, if_true, empty_data, List.append_nil, settle_none, keep_keep]
    congr 2
    omega

/-- the two roads, step by step -/
theorem roads (l : List Pt) (hk : ∀ p ∈ l, 0 ≤ p.n ∧ (p.k = 1 ∨ p.k = 2 ∨ p.k = 3)) : ∀ (qs : List ByteArray) (q : ByteArray) (ks : List Bool) (s : GSt), qs.length = ks.length →
    s = (let t := pAll qs ks ⟨[], [], 0⟩; ⟨t.sl, t.tx ++ q.data.toList, t.ct⟩) →
    deltaP (l.foldl ofStep (qs ++ [q], ks)).1 (l.foldl ofStep (qs ++ [q], ks)).2 = settleL (l.foldl gStep s).sl (l.foldl gStep s).tx (l.foldl gStep s).ct := by
  induction l with
  | nil =>
    intro qs q ks s h1 hs
    subst hs
    simp [deltaP, pAll_last qs q ks _ h1, List.getLast?_append]
  | cons p r ih =>
    intro qs q ks s h1 hs
    have hp := hk p (by simp)
    have ih := ih (fun q hq => hk q (by simp [hq]))
    simp only [List.foldl_cons]
    by_cases hk2 : p.k = 2
    · have e : ofStep (qs ++ [q], ks) p = (qs ++ [q ++ p.t], ks) := by simp [ofStep, hk2, setLast_snoc]
      rw [e]
      exact ih qs (q ++ p.t) ks _ h1 (by subst hs; simp [gStep, hk2, data_append, List.append_assoc])
    · by_cases hn : p.n.toNat = 0
      · have e : ofStep (qs ++ [q], ks) p = (qs ++ [q], ks) := by simp [ofStep, hk2, hn]
        have hn0 : p.n = 0 := by omega
        have e2 : gStep s p = s := by
          rcases hp.2 with h | h | h
          · simp [gStep, h, hn0]
          · exact absurd h hk2
          · simp [gStep, h, hn0]
        rw [e, e2]
        exact ih qs q ks s h1 hs
      · obtain ⟨m, hm⟩ : ∃ m, p.n.toNat = m + 1 := ⟨p.n.toNat - 1, by omega⟩
        have e : ofStep (qs ++ [q], ks) p = ((qs ++ q :: List.replicate m ByteArray.empty) ++ [ByteArray.empty], ks ++ List.replicate (m + 1) (decide (p.k = 1))) := by
          simp [ofStep, hk2, hm, rep_split, List.append_assoc]
        rw [e]
        refine ih _ ByteArray.empty _ _ (by simp; omega) ?_
        rw [pAll_append qs _ ks _ _ h1]
        have hnn : p.n ≠ 0 := by omega
        have hcast : ((m + 1 : Nat) : Int) = p.n := by omega
        rcases hp.2 with h | h | h
        · simp only [h, decide_true]
          rw [pAll_keep]
          subst hs
          simp only [gStep, h, if_true, hnn, if_false, empty_data, List.append_nil, hcast]
        · exact absurd h hk2
        · have h13 : ¬ ((3 : Int) = 1) := by omega
          have h32 : ¬ ((3 : Int) = 2) := by omega
          simp only [h, h13, decide_false]
          rw [pAll_cut]
          subst hs
          simp only [gStep, h, h13, h32, if_false, empty_data, List.append_nil, hcast]

theorem deltaP_all {l : List Pt} (hk : ∀ p ∈ l, 0 ≤ p.n ∧ (p.k = 1 ∨ p.k = 2 ∨ p.k = 3)) : deltaP (ofAll l).1 (ofAll l).2 = gatherL l := by
  have := roads l hk [] ByteArray.empty [] ⟨[], [], 0⟩ rfl (by simp [pAll, empty_data])
  simpa [ofAll, gatherL, gAll] using this

end Go.Proofs.Ytgffippimmokiaa

/- What parts brought into their form have: bounds; that a delta is as it was; that as many bytes are kept and cut. -/
namespace Go.Proofs.Ytgffippimmokiaa
set_option linter.unusedSimpArgs false
set_option linter.unusedVariables false

def PtB (m : Nat) (p : Pt) : Prop := (p.k = 1 ∨ p.k = 2 ∨ p.k = 3) ∧ 0 ≤ p.n ∧ p.n ≤ 500 * m ∧ p.t.size ≤ 500 * m
structure GB (s : GSt) (m : Nat) : Prop where
  len : s.sl.length ≤ 3 * m
  tx : s.tx.length ≤ 500 * m
  ct0 : 0 ≤ s.ct
  ct : s.ct ≤ 500 * m
  pts : ∀ p ∈ s.sl, PtB m p

theorem PtB.mono {m n : Nat} {p : Pt} (h : PtB m p) (hm : m ≤ n) : PtB n p := by
  obtain ⟨h1, h2, h3, h4⟩ := h
  exact ⟨h1, h2, by omega, by omega⟩

theorem settle_pts {sl : List Pt} {tx : List UInt8} {ct : Int} {m : Nat} (h : ∀ p ∈ sl, PtB m p) (ht : tx.length ≤ 500 * m) (hc : ct ≤ 500 * m) : ∀ p ∈ settleL sl tx ct, PtB m p := by
  intro p hp
  simp only [settleL, List.mem_append] at hp
  rcases hp with (hp | hp) | hp
  · exact h p hp
  · split at hp
    · simp at hp
    · simp at hp
      subst hp
      refine ⟨by simp, by simp, by simp; omega, ?_⟩
      show (List.toArray tx).size ≤ _
      simpa using ht
  · split at hp
    · simp at hp
      subst hp
      exact ⟨by simp, by simp; omega, by simpa using hc, by simp⟩
    · simp at hp
theorem settle_len (sl : List Pt) (tx : List UInt8) (ct : Int) : (settleL sl tx ct).length ≤ sl.length + 2 := by
  simp only [settleL, List.length_append]
  split <;> split <;> simp
theorem keep_pts {sl : List Pt} {n : Int} {m m' : Nat} (h : ∀ p ∈ sl, PtB m p) (h0 : 0 ≤ n) (hn : n ≤ 500) (hm : m + 1 ≤ m') : ∀ p ∈ keepL sl n, PtB m' p := by
  have hnew : PtB m' ⟨1, n, ByteArray.empty⟩ := ⟨by simp, h0, by simp; omega, by simp⟩
  intro p hp
  unfold keepL at hp
  split at hp
  · rename_i q hq
    have hqm := h q (List.mem_of_getLast? hq)
    split at hp
    · simp only [List.mem_append, List.mem_singleton] at hp
      rcases hp with hp | hp
      · exact (h p (List.dropLast_subset _ hp)).mono (by omega)
      · subst hp
        obtain ⟨h1, h2, h3, h4⟩ := hqm
        exact ⟨h1, by show 0 ≤ q.n + n; omega, by show q.n + n ≤ _; omega, by show q.t.size ≤ _; omega⟩
    · simp only [List.mem_append, List.mem_singleton] at hp
      rcases hp with hp | hp
      · exact (h p hp).mono (by omega)
      · subst hp; exact hnew
  · simp only [List.mem_append, List.mem_singleton] at hp
    rcases hp with hp | hp
    · exact (h p hp).mono (by omega)
    · subst hp; exact hnew
theorem keep_len (sl : List Pt) (n : Int) : (keepL sl n).length ≤ sl.length + 1 := by
  unfold keepL
  split
  · split
    · simp only [List.length_append, List.length_dropLast, List.length_cons, List.length_nil]; omega
    · simp
  · simp

theorem GB.step {s : GSt} {m : Nat} {p : Pt} (h : GB s m) (hp : 0 ≤ p.n ∧ p.n ≤ 500 ∧ p.t.size ≤ 500) : GB (gStep s p) (m + 1) := by
  obtain ⟨h1, h2, h3, h4, h5⟩ := h
  have h6 : ∀ q ∈ s.sl, PtB (m + 1) q := fun q hq => (h5 q hq).mono (by omega)
  unfold gStep
  split
  · split
    · exact ⟨by omega, by omega, h3, by omega, h6⟩
    · have h7 := settle_pts h5 h2 h4
      have h8 := settle_len s.sl s.tx s.ct
      have h9 := keep_len (settleL s.sl s.tx s.ct) p.n
      exact ⟨by simp only; omega, by simp, by simp, by simp; omega, keep_pts h7 hp.1 hp.2.1 (by omega)⟩
  · split
    · have h7 : p.t.data.toList.length = p.t.size := Array.length_toList
      exact ⟨by simp only; omega, by simp only [List.length_append, h7]; omega, h3, by simp only; omega, h6⟩
    · exact ⟨by simp only; omega, by simp only; omega, by simp only; omega, by simp only; omega, h6⟩
theorem gAll_B {l : List Pt} (h : ∀ p ∈ l, 0 ≤ p.n ∧ p.n ≤ 500 ∧ p.t.size ≤ 500) : GB (gAll l) l.length := by
  suffices H : ∀ (s : GSt) (m : Nat), GB s m → GB (l.foldl gStep s) (m + l.length) by
    have := H ⟨[], [], 0⟩ 0 ⟨by simp, by simp, by simp, by simp, by simp⟩
    simpa [gAll] using this
  induction l with
  | nil => intro s m hs; simpa using hs
  | cons p r ih =>
    intro s m hs
    have := ih (fun q hq => h q (by simp [hq])) (gStep s p) (m + 1) (hs.step (h p (by simp)))
    simpa [Nat.add_assoc, Nat.add_comm 1] using this

/-- a delta is as it was -/
theorem ahead_last {l : List Pt} {i : Nat} (hi : i ≤ l.length) : (l.take i).getLast? = if i = 0 then none else l[i - 1]? := by
  cases i with
  | zero => simp
  | succ j =>
    have : l[j]? = some l[j] := List.getElem?_eq_getElem (by omega)
    rw [take_snoc this, List.getLast?_append, if_neg (by omega), Nat.add_sub_cancel, this]
    simp

theorem norm_self {l : List Pt} (h : scanE 0 l = 0) : gatherL l = l := by
  suffices H : ∀ i, i ≤ l.length → scanE (aheadI l i) (l.drop i) = 0 ∧ settleL (gAll (l.take i)).sl (gAll (l.take i)).tx (gAll (l.take i)).ct = l.take i ∧
      ((aheadI l i = 0 ∨ aheadI l i = 1) → (gAll (l.take i)).tx = [] ∧ (gAll (l.take i)).ct = 0) ∧ (aheadI l i = 2 → (gAll (l.take i)).ct = 0) by
    have := (H l.length (Nat.le_refl _)).2.1
    simpa [gatherL] using this
  have hR := scan_right h
  intro i
  induction i with
  | zero => intro _; exact ⟨h, by simp [gAll, settleL], by simp [gAll], by simp [gAll]⟩
  | succ j ih =>
    intro hj
    obtain ⟨i1, i2, i3, i4⟩ := ih (by omega)
    obtain ⟨p, hp⟩ : ∃ p, l[j]? = some p := ⟨l[j], List.getElem?_eq_getElem (by omega)⟩
    have hst : stepE (aheadI l j) p = 0 := by
      rw [drop_cons hp] at i1
      unfold scanE at i1
      split at i1
      · assumption
      · contradiction
    have hnext := scan_on hp i1 hst
    have hah : aheadI l (j + 1) = p.k := by simp [aheadI, hp]
    have hfo : followB (aheadI l j) p.k = true := by
      unfold stepE at hst
      split at hst
      · rename_i h1
        simp only [Bool.and_eq_true] at h1
        exact h1.2
      · omega
    simp only [followB, Bool.and_eq_true, decide_eq_true_eq, Bool.not_eq_true', Bool.and_eq_false_iff, decide_eq_false_iff_not] at hfo
    obtain ⟨hk, hn2, hn, ht2⟩ := hR p (List.mem_of_getElem? hp)
    have hsnoc := gAll_snoc hp
    have htk := take_snoc hp
    rw [hah]
    refine ⟨hnext, ?_⟩
    rw [hsnoc, htk]
    generalize hs : gAll (l.take j) = s at *
    rcases hk with hk | hk | hk
    · have hnp := hn (by omega)
      have hpt : p = ⟨1, p.n, ByteArray.empty⟩ := by
        obtain ⟨k, n, t⟩ := p
        simp only at hk hnp
        have : t = ByteArray.empty := by
          obtain ⟨⟨x⟩⟩ := t
          have h0 : x.length = 0 := hnp.1
          have h1 : x = [] := List.length_eq_zero_iff.1 h0
          subst h1; rfl
        subst hk this; rfl
      have hlast : ∀ q, (l.take j).getLast? = some q → q.k ≠ 1 := by
        intro q hq
        rw [ahead_last (by omega)] at hq
        split at hq
        · simp at hq
        · rename_i hj0
          have : aheadI l j = q.k := by
            obtain ⟨m, rfl⟩ : ∃ m, j = m + 1 := ⟨j - 1, by omega⟩
            simp at hq
            simp [aheadI, hq]
          rw [← this]
          intro e; exact hfo.1 (by omega)
      have hkp : keepL (l.take j) p.n = l.take j ++ [p] := by
        unfold keepL
        split
        · rename_i q hq
          rw [if_neg (hlast q hq), ← hpt]
        · rw [← hpt]
      refine ⟨?_, fun _ => ?_, fun e => by omega⟩
      · simp only [gStep, hk, if_true]
        rw [if_neg (by omega), i2, hkp, settle_none]
      · simp only [gStep, hk, if_true]
        rw [if_neg (by omega)]
        simp
    · have ha : aheadI l j = 0 ∨ aheadI l j = 1 := by
        cases j with
        | zero => left; rfl
        | succ m =>
          obtain ⟨q, hq⟩ : ∃ q, l[m]? = some q := ⟨l[m], List.getElem?_eq_getElem (by omega)⟩
          have hq1 := (hR q (List.mem_of_getElem? hq)).1
          have e : aheadI l (m + 1) = q.k := by simp [aheadI, hq]
          rw [e] at hfo ⊢
          omega
      obtain ⟨e1, e2⟩ := i3 ha
      have hpt : p = ⟨2, 0, ⟨p.t.data.toList.toArray⟩⟩ := by
        obtain ⟨k, n, t⟩ := p
        simp only at hk hn2
        have := hn2 hk
        subst this hk
        cases t; simp
      have hne : p.t.data.toList ≠ [] := by
        intro e
        have h1 : p.t.data.toList.length = p.t.size := Array.length_toList
        rw [e] at h1
        exact ht2 hk (by simpa using h1.symm)
      rw [e1, e2, settle_none] at i2
      refine ⟨?_, fun e => by omega, fun _ => ?_⟩
      · have h1 : ¬ (2 : Int) = 1 := by omega
        simp only [gStep, hk, h1, if_false, if_true, e1, e2, List.nil_append]
        rw [settleL, if_neg hne, if_neg (by omega), List.append_nil, i2, ← hpt]
      · simp [gStep, hk, e2]
    · have hc0 : s.ct = 0 := by
        cases j with
        | zero => exact (i3 (Or.inl rfl)).2
        | succ m =>
          obtain ⟨q, hq⟩ : ∃ q, l[m]? = some q := ⟨l[m], List.getElem?_eq_getElem (by omega)⟩
          have hq1 := (hR q (List.mem_of_getElem? hq)).1
          have e : aheadI l (m + 1) = q.k := by simp [aheadI, hq]
          rw [e] at hfo i3 i4
          rcases hq1 with h1 | h1 | h1
          · exact (i3 (Or.inr h1)).2
          · exact i4 h1
          · omega
      have hnp := hn (by omega)
      have hpt : p = ⟨3, p.n, ByteArray.empty⟩ := by
        obtain ⟨k, n, t⟩ := p
        simp only at hk hnp
        have : t = ByteArray.empty := by
          obtain ⟨⟨x⟩⟩ := t
          have h0 : x.length = 0 := hnp.1
          have h1 : x = [] := List.length_eq_zero_iff.1 h0
          subst h1; rfl
        subst hk this; rfl
      refine ⟨?_, fun e => by omega, fun e => by omega⟩
      · have h1 : ¬ (3 : Int) = 1 := by omega
        have h2 : ¬ (3 : Int) = 2 := by omega
        simp only [gStep, hk, h1, h2, if_false, hc0, Int.zero_add]
        rw [hc0] at i2
        simp only [settleL] at i2 ⊢
        have h00 : ¬ (0 : Int) < 0 := by omega
        simp only [h00, if_false, List.append_nil] at i2
        rw [if_pos hnp.2, i2, ← hpt]

/-- as many bytes are kept and cut -/
theorem settle_in (sl : List Pt) (tx : List UInt8) (ct : Int) (h : 0 ≤ ct) : inI (settleL sl tx ct) = inI sl + ct := by
  simp only [settleL, inI_app]
  split <;> split <;> simp [inI] <;> omega
theorem keep_in (sl : List Pt) (n : Int) : inI (keepL sl n) = inI sl + n := by
  unfold keepL
  split
  · rename_i p hp
    have h1 : sl = sl.dropLast ++ [p] := by
      have h2 : sl ≠ [] := fun e => by subst e; simp at hp
      rw [List.getLast?_eq_some_getLast h2] at hp
      have h3 := List.dropLast_concat_getLast h2
      have h4 : sl.getLast h2 = p := Option.some.inj hp
      rw [h4] at h3; exact h3.symm
    split
    · have h5 : inI sl = inI sl.dropLast + p.n := by
        have h6 : inI sl = inI (sl.dropLast ++ [p]) := by rw [← h1]
        rw [h6, inI_app]; simp [inI]
      rw [inI_app, h5]; simp [inI]; omega
    · rw [inI_app]; simp [inI]
  · rw [inI_app]; simp [inI]
theorem gather_in {l : List Pt} (h : ∀ p ∈ l, 0 ≤ p.n ∧ (p.k = 2 → p.n = 0)) : inI (gatherL l) = inI l := by
  suffices H : ∀ s : GSt, 0 ≤ s.ct → 0 ≤ (l.foldl gStep s).ct ∧ inI (l.foldl gStep s).sl + (l.foldl gStep s).ct = inI s.sl + s.ct + inI l by
    have h1 := H ⟨[], [], 0⟩ (by simp)
    unfold gatherL gAll
    rw [settle_in _ _ _ h1.1, h1.2]
    simp [inI]
  induction l with
  | nil => intro s hs; exact ⟨hs, by simp [inI]⟩
  | cons p r ih =>
    intro s hs
    have hp := h p (by simp)
    have ih := ih (fun q hq => h q (by simp [hq])) (gStep s p)
    simp only [List.foldl_cons, inI]
    have h1 : 0 ≤ (gStep s p).ct ∧ inI (gStep s p).sl + (gStep s p).ct = inI s.sl + s.ct + p.n := by
      unfold gStep
      split
      · split
        · exact ⟨hs, by omega⟩
        · exact ⟨by simp, by simp only [keep_in, settle_in _ _ _ hs]; omega⟩
      · split
        · rename_i h2
          have := hp.2 h2
          exact ⟨hs, by simp only; omega⟩
        · exact ⟨by simp only; omega, by simp only; omega⟩
    obtain ⟨i1, i2⟩ := ih h1.1
    exact ⟨i1, by rw [i2, h1.2]; omega⟩

end Go.Proofs.Ytgffippimmokiaa

/- What two deltas, one behind the other, do: as plain functions. -/
namespace Go.Proofs.Ytgffippimmokiaa
set_option linter.unusedSimpArgs false
set_option linter.unusedVariables false

def Loose (l : List Pt) : Prop := ∀ p ∈ l, 0 ≤ p.n ∧ (p.k = 2 → p.n = 0)
theorem Loose.ge {l : List Pt} (h : Loose l) : 0 ≤ inI l := by
  induction l with
  | nil => simp [inI]
  | cons p r ih =>
    have h1 := h p (by simp)
    have h2 := ih (fun q hq => h q (List.mem_cons_of_mem _ hq))
    simp only [inI]; omega

theorem doL_app {a : List Pt} (b : List Pt) (h : Loose a) : ∀ (x y : List UInt8), (x.length : Int) = inI a → doL (a ++ b) (x ++ y) = doL a x ++ doL b y := by
  induction a with
  | nil =>
    intro x y hx
    have : x = [] := List.length_eq_zero_iff.1 (by simp only [inI] at hx; omega)
    subst this
    simp [doL]
  | cons p r ih =>
    intro x y hx
    have hp := h p (by simp)
    have hr : Loose r := fun q hq => h q (List.mem_cons_of_mem _ hq)
    have hge := hr.ge
    simp only [inI] at hx
    have ih := ih hr
    have hle : p.n.toNat ≤ x.length := by omega
    have e1 : (x ++ y).drop p.n.toNat = x.drop p.n.toNat ++ y := by rw [List.drop_append_of_le_length hle]
    have e2 : (x ++ y).take p.n.toNat = x.take p.n.toNat := by rw [List.take_append_of_le_length hle]
    have hd : ((x.drop p.n.toNat).length : Int) = inI r := by rw [List.length_drop]; omega
    simp only [List.cons_append, doL]
    by_cases h1 : p.k = 1
    · rw [if_pos h1, if_pos h1, e1, e2, ih _ _ hd, List.append_assoc]
    · rw [if_neg h1, if_neg h1]
      by_cases h2 : p.k = 2
      · rw [if_pos h2, if_pos h2, ih _ _ (by have := hp.2 h2; omega), List.append_assoc]
      · rw [if_neg h2, if_neg h2, e1, ih _ _ hd]

theorem settle_loose {sl : List Pt} {tx : List UInt8} {ct : Int} (h : Loose sl) (hc : 0 ≤ ct) : Loose (settleL sl tx ct) := by
  intro p hp
  simp only [settleL, List.mem_append] at hp
  rcases hp with (hp | hp) | hp
  · exact h p hp
  · split at hp
    · simp at hp
    · simp at hp; subst hp; simp
  · split at hp
    · simp at hp; subst hp; simp; omega
    · simp at hp
theorem settle_do {sl : List Pt} {tx : List UInt8} {ct : Int} (h : Loose sl) (hc : 0 ≤ ct) {x y : List UInt8} (hx : (x.length : Int) = inI sl) (hy : (y.length : Int) = ct) : doL (settleL sl tx ct) (x ++ y) = doL sl x ++ tx := by
  unfold settleL
  rw [List.append_assoc, doL_app _ h x y hx]
  congr 1
  by_cases ht : tx = []
  · rw [if_pos ht, ht, List.nil_append]
    split <;> simp [doL]
  · rw [if_neg ht]
    split <;> simp [doL]
theorem keep_loose {sl : List Pt} {n : Int} (h : Loose sl) (hn : 0 ≤ n) : Loose (keepL sl n) := by
  intro p hp
  unfold keepL at hp
  split at hp
  · rename_i q hq
    have hqm := h q (List.mem_of_getLast? hq)
    split at hp
    · rename_i hk
      simp only [List.mem_append, List.mem_singleton] at hp
      rcases hp with hp | hp
      · exact h p (List.dropLast_subset _ hp)
      · subst hp; exact ⟨by show 0 ≤ q.n + n; omega, fun e => by simp only at e; omega⟩
    · simp only [List.mem_append, List.mem_singleton] at hp
      rcases hp with hp | hp
      · exact h p hp
      · subst hp; exact ⟨hn, fun e => by simp at e⟩
  · simp only [List.mem_append, List.mem_singleton] at hp
    rcases hp with hp | hp
    · exact h p hp
    · subst hp; exact ⟨hn, fun e => by simp at e⟩
theorem keep_do {sl : List Pt} {n : Int} (h : Loose sl) (hn : 0 ≤ n) {x y : List UInt8} (hx : (x.length : Int) = inI sl) (hy : (y.length : Int) = n) : doL (keepL sl n) (x ++ y) = doL sl x ++ y := by
  have hty : y.take n.toNat = y := List.take_of_length_le (by omega)
  unfold keepL
  split
  · rename_i q hq
    have hqm := h q (List.mem_of_getLast? hq)
    have h1 : sl = sl.dropLast ++ [q] := by
      have h2 : sl ≠ [] := fun e => by subst e; simp at hq
      rw [List.getLast?_eq_some_getLast h2] at hq
      have h3 := List.dropLast_concat_getLast h2
      have h4 : sl.getLast h2 = q := Option.some.inj hq
      rw [h4] at h3; exact h3.symm
    split
    · rename_i hk
      have hd : Loose sl.dropLast := fun p hp => h p (List.dropLast_subset _ hp)
      generalize sl.dropLast = D at *
      subst h1
      rw [inI_app] at hx
      simp only [inI, Int.add_zero] at hx
      have hge := hd.ge
      obtain ⟨x1, x2, rfl, hx1⟩ : ∃ x1 x2, x = x1 ++ x2 ∧ (x1.length : Int) = inI D := ⟨x.take (inI D).toNat, x.drop (inI D).toNat, (List.take_append_drop _ _).symm, by rw [List.length_take]; omega⟩
      rw [List.length_append] at hx
      have hx2 : (x2.length : Int) = q.n := by omega
      rw [List.append_assoc, doL_app _ hd x1 (x2 ++ y) hx1, doL_app _ hd x1 x2 hx1, List.append_assoc]
      congr 1
      simp only [doL, hk, if_true, List.append_nil]
      rw [List.take_of_length_le (by rw [List.length_append]; omega), List.take_of_length_le (by omega)]
    · rw [doL_app _ h x y hx]
      simp [doL, hty]
  · rw [doL_app _ h x y hx]
    simp [doL, hty]

theorem gather_do {l : List Pt} (hl : ∀ p ∈ l, 0 ≤ p.n ∧ (p.k = 2 → p.n = 0) ∧ (p.k = 1 ∨ p.k = 2 ∨ p.k = 3)) {x : List UInt8} (hx : (x.length : Int) = inI l) : doL (gatherL l) x = doL l x := by
  suffices H : ∀ (s : GSt) (a b y : List UInt8), Loose s.sl → 0 ≤ s.ct → (a.length : Int) = inI s.sl → (b.length : Int) = s.ct → (y.length : Int) = inI l →
      doL (settleL (l.foldl gStep s).sl (l.foldl gStep s).tx (l.foldl gStep s).ct) (a ++ b ++ y) = doL s.sl a ++ s.tx ++ doL l y by
    have := H ⟨[], [], 0⟩ [] [] x (by intro p hp; simp at hp) (by simp) (by simp [inI]) (by simp) hx
    simpa [gatherL, gAll, doL] using this
  clear hx x
  induction l with
  | nil =>
    intro s a b y hs hc ha hb hy
    have : y = [] := List.length_eq_zero_iff.1 (by simp only [inI] at hy; omega)
    subst this
    rw [List.append_nil]
    simp only [List.foldl_nil]
    rw [settle_do hs hc ha hb]
    simp [doL]
  | cons p r ih =>
    intro s a b y hs hc ha hb hy
    obtain ⟨hp1, hp2, hp3⟩ := hl p (by simp)
    have ih := ih (fun q hq => hl q (List.mem_cons_of_mem _ hq))
    have hr : Loose r := fun q hq => ⟨(hl q (List.mem_cons_of_mem _ hq)).1, (hl q (List.mem_cons_of_mem _ hq)).2.1⟩
    have hge := hr.ge
    simp only [inI] at hy
    simp only [List.foldl_cons]
    obtain ⟨y1, y2, rfl, hy1⟩ : ∃ y1 y2, y = y1 ++ y2 ∧ (y1.length : Int) = p.n := ⟨y.take p.n.toNat, y.drop p.n.toNat, (List.take_append_drop _ _).symm, by rw [List.length_take]; omega⟩
    have hy2 : (y2.length : Int) = inI r := by rw [List.length_append] at hy; omega
    have hpr : doL (p :: r) (y1 ++ y2) = doL [p] y1 ++ doL r y2 := doL_app (a := [p]) r (by intro q hq; simp at hq; subst hq; exact ⟨hp1, hp2⟩) y1 y2 (by simp [inI]; omega)
    rw [hpr]
    rcases hp3 with hk | hk | hk
    · by_cases hn : p.n = 0
      · have e : gStep s p = s := by simp [gStep, hk, hn]
        have : y1 = [] := List.length_eq_zero_iff.1 (by omega)
        subst this
        rw [e, List.nil_append, ih s a b y2 hs hc ha hb hy2]
        simp [doL, hk, hn]
      · have e : gStep s p = ⟨keepL (settleL s.sl s.tx s.ct) p.n, [], 0⟩ := by simp [gStep, hk, hn]
        have hab : ((a ++ b).length : Int) = inI (settleL s.sl s.tx s.ct) := by rw [settle_in _ _ _ hc, List.length_append]; omega
        have h1 := ih ⟨keepL (settleL s.sl s.tx s.ct) p.n, [], 0⟩ (a ++ b ++ y1) [] y2 (keep_loose (settle_loose hs hc) hp1) (by simp) (by rw [keep_in, settle_in _ _ _ hc]; simp only [List.length_append]; omega) (by simp) hy2
        rw [List.append_nil, List.append_assoc (a ++ b)] at h1
        rw [e, h1, keep_do (settle_loose hs hc) hp1 hab hy1, settle_do hs hc ha hb]
        have hty : y1.take p.n.toNat = y1 := List.take_of_length_le (by omega)
        simp [doL, hk, hty, List.append_assoc]
    · have hn := hp2 hk
      have e : gStep s p = ⟨s.sl, s.tx ++ p.t.data.toList, s.ct⟩ := by simp [gStep, hk]
      have : y1 = [] := List.length_eq_zero_iff.1 (by omega)
      subst this
      rw [e, List.nil_append, ih ⟨s.sl, s.tx ++ p.t.data.toList, s.ct⟩ a b y2 hs hc ha hb hy2]
      simp [doL, hk, List.append_assoc]
    · have e : gStep s p = ⟨s.sl, s.tx, s.ct + p.n⟩ := by simp [gStep, hk]
      have h1 := ih ⟨s.sl, s.tx, s.ct + p.n⟩ a (b ++ y1) y2 hs (by simp only; omega) ha (by simp only [List.length_append]; omega) hy2
      rw [e]
      rw [show a ++ b ++ (y1 ++ y2) = a ++ (b ++ y1) ++ y2 by simp [List.append_assoc], h1]
      simp [doL, hk]

end Go.Proofs.Ytgffippimmokiaa
