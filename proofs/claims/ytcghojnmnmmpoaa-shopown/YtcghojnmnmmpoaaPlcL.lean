/- Places as package meet keeps them, in one list: no program in it. -/
import Derived.Test.YtcghojnmnmmpoaaMeetL
namespace Go.Proofs.Ytcghojnmnmmpoaa
set_option linter.unusedSimpArgs false
set_option linter.unusedVariables false

def zipPl : List ByteArray → List Bool → List (ByteArray × Bool)
  | q :: qs, b :: ks => (q, !b) :: zipPl qs ks
  | q :: _, [] => [(q, false)]
  | [], _ => []
def cutN : Nat → List (ByteArray × Bool) → List (ByteArray × Bool)
  | 0, R => R
  | _ + 1, [] => []
  | n + 1, x :: R => (x.1, true) :: cutN n R
abbrev noPl : ByteArray × Bool := (ByteArray.empty, false)
theorem zipPl_app (qs : List ByteArray) (ks : List Bool) (h : qs.length = ks.length) : ∃ A : List (ByteArray × Bool), A.length = ks.length ∧ ∀ qs' ks', zipPl (qs ++ qs') (ks ++ ks') = A ++ zipPl qs' ks' := by
  induction ks generalizing qs with
  | nil =>
    have h3 : qs = [] := List.length_eq_zero_iff.1 (by simpa using h)
    subst h3
    exact ⟨[], rfl, fun _ _ => by simp⟩
  | cons b ks ih =>
    cases qs with
    | nil => simp at h
    | cons q qs =>
      obtain ⟨A, hA, hz⟩ := ih qs (by simpa using h)
      exact ⟨(q, !b) :: A, by simp [hA], fun qs' ks' => by simp [zipPl, hz]⟩
theorem zipPl_keep (m : Nat) (q : ByteArray) : zipPl (q :: List.replicate m ByteArray.empty) (List.replicate m true) = (q, false) :: List.replicate m noPl := by
  induction m generalizing q with
  | zero => rfl
  | succ m ih => simp only [List.replicate_succ, zipPl, ih]; rfl
theorem zipPl_cut (m : Nat) (q : ByteArray) : zipPl (q :: List.replicate m ByteArray.empty) (List.replicate m false) = cutN m ((q, false) :: List.replicate m noPl) := by
  induction m generalizing q with
  | zero => rfl
  | succ m ih => simp only [List.replicate_succ, zipPl, ih, cutN]; rfl
theorem cutN_len (m : Nat) (R : List (ByteArray × Bool)) : (cutN m R).length = R.length := by
  induction R generalizing m with
  | nil => cases m <;> rfl
  | cons x R ih => cases m <;> simp [cutN, ih]
theorem cutN_app (m : Nat) (R S : List (ByteArray × Bool)) (h : m ≤ R.length) : cutN m (R ++ S) = cutN m R ++ S := by
  induction R generalizing m with
  | nil =>
    have : m = 0 := by simpa using h
    subst this; rfl
  | cons x R ih =>
    cases m with
    | zero => rfl
    | succ m => simp only [List.cons_append, cutN, ih m (by simpa using h)]
theorem cutN_at {m : Nat} {R : List (ByteArray × Bool)} {x : ByteArray × Bool} (h : R[m]? = some x) : (cutN m R)[m]? = some x ∧ (cutN m R).set m (x.1, true) = cutN (m + 1) R := by
  induction R generalizing m with
  | nil => simp at h
  | cons y R ih =>
    cases m with
    | zero =>
      simp only [List.getElem?_cons_zero, Option.some.injEq] at h
      subst h
      exact ⟨rfl, rfl⟩
    | succ m =>
      obtain ⟨h1, h2⟩ := ih (m := m) (by simpa using h)
      exact ⟨by simpa [cutN] using h1, by simp [cutN, h2]⟩
/-- the list while it is filled: n bytes -/
def fillL (n : Nat) (l : List Pt) : List (ByteArray × Bool) := zipPl (ofAll l).1 (ofAll l).2 ++ List.replicate (n - (ofAll l).2.length) noPl
theorem last_empty {l : List Pt} (hR : Right l) (h : endK 0 l ≠ 2) : ∃ qs, (ofAll l).1 = qs ++ [ByteArray.empty] := by
  rcases List.eq_nil_or_concat l with rfl | ⟨m, p, rfl⟩
  · exact ⟨[], rfl⟩
  · have hk : p.k ≠ 2 := by
      rw [List.concat_eq_append, endK_app] at h; exact h
    have hn := ((hR p (by simp)).2.2.1 hk).2
    have e : ofAll (m.concat p) = ofStep (ofAll m) p := by rw [List.concat_eq_append, ofAll, List.foldl_append]; rfl
    obtain ⟨j, hj⟩ : ∃ j, p.n.toNat = j + 1 := ⟨p.n.toNat - 1, by omega⟩
    rw [e, ofStep, if_neg hk, hj]
    exact ⟨(ofAll m).1 ++ List.replicate j ByteArray.empty, by simp [rep_split]⟩
theorem empty_app (t : ByteArray) : ByteArray.empty ++ t = t := by simp
theorem fill_form {l : List Pt} {k n : Nat} (hz : sizesE l = 0) (hn : (n : Int) = inI l) (hk : k ≤ l.length) : ∃ (A : List (ByteArray × Bool)) (q : ByteArray), fillL n (l.take k) = A ++ (q, false) :: List.replicate (n - A.length) noPl ∧ (A.length : Int) = inI (l.take k) ∧
    ∀ p, l[k]? = some p → (p.k = 2 → fillL n (l.take (k + 1)) = A ++ (p.t, false) :: List.replicate (n - A.length) noPl) ∧ (p.k = 1 → fillL n (l.take (k + 1)) = fillL n (l.take k)) ∧
      (p.k = 3 → fillL n (l.take (k + 1)) = A ++ cutN p.n.toNat ((q, false) :: List.replicate (n - A.length) noPl)) ∧ (A.length : Int) + p.n ≤ n := by
  have hR := sizes_right hz
  have hRk : Right (l.take k) := fun p hp => hR p (List.mem_of_mem_take hp)
  have hlen := ofAll_len (l.take k)
  have hkept := ofAll_keptlen (l := l.take k) (fun p hp => ⟨((right_len hRk).2.2.2 p hp).1, (hRk p hp).2.1⟩)
  obtain ⟨qs, q, hqs⟩ : ∃ qs q, (ofAll (l.take k)).1 = qs ++ [q] := by
    rcases List.eq_nil_or_concat (ofAll (l.take k)).1 with h | ⟨qs, q, h⟩
    · rw [h] at hlen; simp at hlen
    · exact ⟨qs, q, by rw [h, List.concat_eq_append]⟩
  obtain ⟨ks, hks⟩ : ∃ ks, (ofAll (l.take k)).2 = ks := ⟨_, rfl⟩
  have hst : ofAll (l.take k) = (qs ++ [q], ks) := by rw [← hqs, ← hks]
  rw [hst] at hlen hkept
  have hl : qs.length = ks.length := by simpa using hlen
  obtain ⟨A, hA, hzip⟩ := zipPl_app qs ks hl
  have e0 : zipPl (qs ++ [q]) ks = A ++ [(q, false)] := by have := hzip [q] []; simpa [zipPl] using this
  have efill : fillL n (l.take k) = A ++ (q, false) :: List.replicate (n - A.length) noPl := by
    rw [fillL, hst]; simp only [e0, hA]; simp
  refine ⟨A, q, efill, by simp only at hkept; omega, fun p hp => ?_⟩
  have hsn := ofAll_snoc hp
  rw [hst] at hsn
  have hpm := List.mem_of_getElem? hp
  have hpR := hR p hpm
  have hpn := ((right_len hR).2.2.2 p hpm).1
  have hle : (A.length : Int) + p.n ≤ n := by
    have h1 : inI l = inI (l.take k ++ l.drop k) := by rw [List.take_append_drop]
    rw [inI_app, drop_cons hp] at h1
    have hd : Right (l.drop (k + 1)) := fun p hp => hR p (List.mem_of_mem_drop hp)
    have h2 := (right_len hd).1
    simp only [inI] at h1
    simp only at hkept
    omega
  refine ⟨fun h2 => ?_, fun h1 => ?_, fun h3 => ?_, hle⟩
  · have hq : q = ByteArray.empty := by
      have hsc := (sizes_scan hz).2
      have h3 : scanE 0 (l.take (k + 1)) = 0 := by
        have h4 : l.take (k + 1) ++ l.drop (k + 1) = l := List.take_append_drop _ _
        rw [← h4] at hsc
        exact (scan_app.1 hsc).1
      rw [take_snoc hp] at h3
      have h4 := scan_one.1 (scan_app.1 h3).2
      obtain ⟨_, _, h5, _⟩ := step_part h4
      have h6 : endK 0 (l.take k) ≠ 2 := by
        intro e
        rw [e] at h5
        simp [followB, h2] at h5
      obtain ⟨qs', hqs'⟩ := last_empty hRk h6
      rw [hst] at hqs'
      have := congrArg List.getLast? hqs'
      simpa using this
    have e : ofStep (qs ++ [q], ks) p = (qs ++ [p.t], ks) := by
      rw [ofStep, if_pos h2, setLast_snoc, hq, empty_app]
    rw [fillL, hsn, e]
    have e1 : zipPl (qs ++ [p.t]) ks = A ++ [(p.t, false)] := by have := hzip [p.t] []; simpa [zipPl] using this
    simp only [e1, hA]; simp
  · have e : ofStep (qs ++ [q], ks) p = (qs ++ (q :: List.replicate p.n.toNat ByteArray.empty), ks ++ List.replicate p.n.toNat true) := by
      rw [ofStep, if_neg (by omega)]; simp [h1]
    rw [efill, fillL, hsn, e]
    simp only [hzip, zipPl_keep, List.length_append, List.length_replicate, List.append_assoc, List.cons_append, List.replicate_append_replicate]
    rw [show p.n.toNat + (n - (ks.length + p.n.toNat)) = n - A.length by omega]
  · have e : ofStep (qs ++ [q], ks) p = (qs ++ (q :: List.replicate p.n.toNat ByteArray.empty), ks ++ List.replicate p.n.toNat false) := by
      rw [ofStep, if_neg (by omega)]; simp [h3]
    rw [fillL, hsn, e]
    simp only [hzip, zipPl_cut, List.length_append, List.length_replicate]
    have h4 : (q, false) :: List.replicate (n - A.length) noPl = ((q, false) :: List.replicate p.n.toNat noPl) ++ List.replicate (n - (ks.length + p.n.toNat)) noPl := by
      rw [List.cons_append, List.replicate_append_replicate, show p.n.toNat + (n - (ks.length + p.n.toNat)) = n - A.length by omega]
    rw [h4, cutN_app _ _ _ (by simp), List.append_assoc]
theorem fill_len {l : List Pt} {k n : Nat} (hz : sizesE l = 0) (hn : (n : Int) = inI l) (hk : k ≤ l.length) : (fillL n (l.take k)).length = n + 1 := by
  obtain ⟨A, q, h1, h2, _⟩ := fill_form hz hn hk
  have hR := sizes_right hz
  have h3 : inI l = inI (l.take k ++ l.drop k) := by rw [List.take_append_drop]
  rw [inI_app] at h3
  have hd : Right (l.drop k) := fun p hp => hR p (List.mem_of_mem_drop hp)
  have h4 := (right_len hd).1
  rw [h1]; simp; omega
theorem fill_all {l : List Pt} {n : Nat} (hz : sizesE l = 0) (hn : (n : Int) = inI l) : fillL n l = zipPl (ofAll l).1 (ofAll l).2 := by
  have hR := sizes_right hz
  have hkept := ofAll_keptlen (l := l) (fun p hp => ⟨((right_len hR).2.2.2 p hp).1, (hR p hp).2.1⟩)
  rw [fillL, show n - (ofAll l).2.length = 0 by omega]; simp
theorem fill_none (n : Nat) : fillL n [] = List.replicate (n + 1) noPl := by
  rw [fillL, List.replicate_succ]; simp [ofAll, zipPl]
/-- what is at a place -/
theorem zip_at {qs : List ByteArray} {ks : List Bool} (h : qs.length = ks.length + 1) {i : Nat} (hi : i ≤ ks.length) : ∃ q c, (zipPl qs ks)[i]? = some (q, c) ∧ qs[i]? = some q ∧ ((i = ks.length ∧ c = false) ∨ ∃ b, ks[i]? = some b ∧ c = !b) := by
  induction ks generalizing qs i with
  | nil =>
    match qs, h with
    | [q], _ =>
      have : i = 0 := by simpa using hi
      subst this
      exact ⟨q, false, rfl, rfl, .inl ⟨rfl, rfl⟩⟩
  | cons b ks ih =>
    match qs, h with
    | q :: qs, h =>
      cases i with
      | zero => exact ⟨q, !b, rfl, rfl, .inr ⟨b, rfl, rfl⟩⟩
      | succ i =>
        obtain ⟨q', c, h1, h2, h3⟩ := ih (qs := qs) (by simpa using h) (i := i) (by simpa using hi)
        refine ⟨q', c, by simpa [zipPl] using h1, by simpa using h2, ?_⟩
        rcases h3 with ⟨h3, h4⟩ | ⟨b', h3, h4⟩
        · exact .inl ⟨by simp [h3], h4⟩
        · exact .inr ⟨b', by simpa using h3, h4⟩
theorem left_step {qs us : List ByteArray} {ks ls : List Bool} {i : Nat} {q u : ByteArray} {b c : Bool} (hq : qs[i]? = some q) (hb : ks[i]? = some b) (hu : us[i]? = some u) (hc : ls[i]? = some c) :
    leftL (qs.drop i) (ks.drop i) (us.drop i) (ls.drop i) = putQ q :: keepQ u :: (if c = true then [oneQ b] else []) ++ leftL (qs.drop (i + 1)) (ks.drop (i + 1)) (us.drop (i + 1)) (ls.drop (i + 1)) ∧
    leftR (qs.drop i) (ks.drop i) (us.drop i) (ls.drop i) = keepQ q :: putQ u :: (if b = true then [oneQ c] else []) ++ leftR (qs.drop (i + 1)) (ks.drop (i + 1)) (us.drop (i + 1)) (ls.drop (i + 1)) := by
  obtain ⟨l1, rfl⟩ := List.getElem?_eq_some_iff.1 hq
  obtain ⟨l2, rfl⟩ := List.getElem?_eq_some_iff.1 hb
  obtain ⟨l3, rfl⟩ := List.getElem?_eq_some_iff.1 hu
  obtain ⟨l4, rfl⟩ := List.getElem?_eq_some_iff.1 hc
  rw [List.drop_eq_getElem_cons l1, List.drop_eq_getElem_cons l2, List.drop_eq_getElem_cons l3, List.drop_eq_getElem_cons l4]
  exact ⟨rfl, rfl⟩
theorem left_last {qs us : List ByteArray} {ks ls : List Bool} {i : Nat} {q u : ByteArray} (hq : qs[i]? = some q) (hb : ks.length = i) (hu : us[i]? = some u) :
    leftL (qs.drop i) (ks.drop i) (us.drop i) (ls.drop i) = [putQ q, keepQ u] ∧ leftR (qs.drop i) (ks.drop i) (us.drop i) (ls.drop i) = [keepQ q, putQ u] := by
  obtain ⟨l1, rfl⟩ := List.getElem?_eq_some_iff.1 hq
  obtain ⟨l3, rfl⟩ := List.getElem?_eq_some_iff.1 hu
  rw [List.drop_eq_getElem_cons l1, List.drop_eq_getElem_cons l3, List.drop_eq_nil_of_le (show ks.length ≤ i by omega)]
  exact ⟨rfl, rfl⟩

end Go.Proofs.Ytcghojnmnmmpoaa
