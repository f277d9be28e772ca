/- What parts brought into their form have: bounds; that a delta is as it was; that as many bytes are kept and cut. -/
import Derived.Test.YtjfeaedjifpahaaGather
namespace Go.Proofs.Ytjfeaedjifpahaa
set_option linter.unusedSimpArgs false
set_option linter.unusedVariables false

def PtB (m : Nat) (p : Pt) : Prop := (p.k = 1 ∨ p.k = 2 ∨ p.k = 3) ∧ 0 ≤ p.n ∧ p.n ≤ 500 * m ∧ p.t.size ≤ 500 * m
structure GB (s : GSt) (m : Nat) : Prop where
  len : s.sl.length ≤ 3 * m
  tx : s.tx.length ≤ 500 * m
  ct0 : 0 ≤ s.ct
  ct : s.ct ≤ 500 * m
  pts : ∀ p ∈ s.sl, PtB m p

theorem PtB.mono {m n : Nat} {p : Pt} (h : PtB m p) (hm : m ≤ n) : PtB n p := by
  obtain ⟨h1, h2, h3, h4⟩ := h
  exact ⟨h1, h2, by omega, by omega⟩

theorem settle_pts {sl : List Pt} {tx : List UInt8} {ct : Int} {m : Nat} (h : ∀ p ∈ sl, PtB m p) (ht : tx.length ≤ 500 * m) (hc : ct ≤ 500 * m) : ∀ p ∈ settleL sl tx ct, PtB m p := by
  intro p hp
  simp only [settleL, List.mem_append] at hp
  rcases hp with (hp | hp) | hp
  · exact h p hp
  · split at hp
    · simp at hp
    · simp at hp
      subst hp
      refine ⟨by simp, by simp, by simp; omega, ?_⟩
      show (List.toArray tx).size ≤ _
      simpa using ht
  · split at hp
    · simp at hp
      subst hp
      exact ⟨by simp, by simp; omega, by simpa using hc, by simp⟩
    · simp at hp
theorem settle_len (sl : List Pt) (tx : List UInt8) (ct : Int) : (settleL sl tx ct).length ≤ sl.length + 2 := by
  simp only [settleL, List.length_append]
  split <;> split <;> simp
theorem keep_pts {sl : List Pt} {n : Int} {m m' : Nat} (h : ∀ p ∈ sl, PtB m p) (h0 : 0 ≤ n) (hn : n ≤ 500) (hm : m + 1 ≤ m') : ∀ p ∈ keepL sl n, PtB m' p := by
  have hnew : PtB m' ⟨1, n, ByteArray.empty⟩ := ⟨by simp, h0, by simp; omega, by simp⟩
  intro p hp
  unfold keepL at hp
  split at hp
  · rename_i q hq
    have hqm := h q (List.mem_of_getLast? hq)
    split at hp
    · simp only [List.mem_append, List.mem_singleton] at hp
      rcases hp with hp | hp
      · exact (h p (List.dropLast_subset _ hp)).mono (by omega)
      · subst hp
        obtain ⟨h1, h2, h3, h4⟩ := hqm
        exact ⟨h1, by show 0 ≤ q.n + n; omega, by show q.n + n ≤ _; omega, by show q.t.size ≤ _; omega⟩
    · simp only [List.mem_append, List.mem_singleton] at hp
      rcases hp with hp | hp
      · exact (h p hp).mono (by omega)
      · subst hp; exact hnew
  · simp only [List.mem_append, List.mem_singleton] at hp
    rcases hp with hp | hp
    · exact (h p hp).mono (by omega)
    · subst hp; exact hnew
theorem keep_len (sl : List Pt) (n : Int) : (keepL sl n).length ≤ sl.length + 1 := by
  unfold keepL
  split
  · split
    · simp only [List.length_append, List.length_dropLast, List.length_cons, List.length_nil]; omega
    · simp
  · simp

theorem GB.step {s : GSt} {m : Nat} {p : Pt} (h : GB s m) (hp : 0 ≤ p.n ∧ p.n ≤ 500 ∧ p.t.size ≤ 500) : GB (gStep s p) (m + 1) := by
  obtain ⟨h1, h2, h3, h4, h5⟩ := h
  have h6 : ∀ q ∈ s.sl, PtB (m + 1) q := fun q hq => (h5 q hq).mono (by omega)
  unfold gStep
  split
  · split
    · exact ⟨by omega, by omega, h3, by omega, h6⟩
    · have h7 := settle_pts h5 h2 h4
      have h8 := settle_len s.sl s.tx s.ct
      have h9 := keep_len (settleL s.sl s.tx s.ct) p.n
      exact ⟨by simp only; omega, by simp, by simp, by simp; omega, keep_pts h7 hp.1 hp.2.1 (by omega)⟩
  · split
    · have h7 : p.t.data.toList.length = p.t.size := Array.length_toList
      exact ⟨by simp only; omega, by simp only [List.length_append, h7]; omega, h3, by simp only; omega, h6⟩
    · exact ⟨by simp only; omega, by simp only; omega, by simp only; omega, by simp only; omega, h6⟩
theorem gAll_B {l : List Pt} (h : ∀ p ∈ l, 0 ≤ p.n ∧ p.n ≤ 500 ∧ p.t.size ≤ 500) : GB (gAll l) l.length := by
  suffices H : ∀ (s : GSt) (m : Nat), GB s m → GB (l.foldl gStep s) (m + l.length) by
    have := H ⟨[], [], 0⟩ 0 ⟨by simp, by simp, by simp, by simp, by simp⟩
    simpa [gAll] using this
  induction l with
  | nil => intro s m hs; simpa using hs
  | cons p r ih =>
    intro s m hs
    have := ih (fun q hq => h q (by simp [hq])) (gStep s p) (m + 1) (hs.step (h p (by simp)))
    simpa [Nat.add_assoc, Nat.add_comm 1] using this

/-- a delta is as it was -/
theorem ahead_last {l : List Pt} {i : Nat} (hi : i ≤ l.length) : (l.take i).getLast? = if i = 0 then none else l[i - 1]? := by
  cases i with
  | zero => simp
  | succ j =>
    have : l[j]? = some l[j] := List.getElem?_eq_getElem (by omega)
    rw [take_snoc this, List.getLast?_append, if_neg (by omega), Nat.add_sub_cancel, this]
    simp

theorem norm_self {l : List Pt} (h : scanE 0 l = 0) : gatherL l = l := by
  suffices H : ∀ i, i ≤ l.length → scanE (aheadI l i) (l.drop i) = 0 ∧ settleL (gAll (l.take i)).sl (gAll (l.take i)).tx (gAll (l.take i)).ct = l.take i ∧
      ((aheadI l i = 0 ∨ aheadI l i = 1) → (gAll (l.take i)).tx = [] ∧ (gAll (l.take i)).ct = 0) ∧ (aheadI l i = 2 → (gAll (l.take i)).ct = 0) by
    have := (H l.length (Nat.le_refl _)).2.1
    simpa [gatherL] using this
  have hR := scan_right h
  intro i
  induction i with
  | zero => intro _; exact ⟨h, by simp [gAll, settleL], by simp [gAll], by simp [gAll]⟩
  | succ j ih =>
    intro hj
    obtain ⟨i1, i2, i3, i4⟩ := ih (by omega)
    obtain ⟨p, hp⟩ : ∃ p, l[j]? = some p := ⟨l[j], List.getElem?_eq_getElem (by omega)⟩
    have hst : stepE (aheadI l j) p = 0 := by
      rw [drop_cons hp] at i1
      unfold scanE at i1
      split at i1
      · assumption
      · contradiction
    have hnext := scan_on hp i1 hst
    have hah : aheadI l (j + 1) = p.k := by simp [aheadI, hp]
    have hfo : followB (aheadI l j) p.k = true := by
      unfold stepE at hst
      split at hst
      · rename_i h1
        simp only [Bool.and_eq_true] at h1
        exact h1.2
      · omega
    simp only [followB, Bool.and_eq_true, decide_eq_true_eq, Bool.not_eq_true', Bool.and_eq_false_iff, decide_eq_false_iff_not] at hfo
    obtain ⟨hk, hn2, hn, ht2⟩ := hR p (List.mem_of_getElem? hp)
    have hsnoc := gAll_snoc hp
    have htk := take_snoc hp
    rw [hah]
    refine ⟨hnext, ?_⟩
    rw [hsnoc, htk]
    generalize hs : gAll (l.take j) = s at *
    rcases hk with hk | hk | hk
    · have hnp := hn (by omega)
      have hpt : p = ⟨1, p.n, ByteArray.empty⟩ := by
        obtain ⟨k, n, t⟩ := p
        simp only at hk hnp
        have : t = ByteArray.empty := by
          obtain ⟨⟨x⟩⟩ := t
          have h0 : x.length = 0 := hnp.1
          have h1 : x = [] := List.length_eq_zero_iff.1 h0
          subst h1; rfl
        subst hk this; rfl
      have hlast : ∀ q, (l.take j).getLast? = some q → q.k ≠ 1 := by
        intro q hq
        rw [ahead_last (by omega)] at hq
        split at hq
        · simp at hq
        · rename_i hj0
          have : aheadI l j = q.k := by
            obtain ⟨m, rfl⟩ : ∃ m, j = m + 1 := ⟨j - 1, by omega⟩
            simp at hq
            simp [aheadI, hq]
          rw [← this]
          intro e; exact hfo.1 (by omega)
      have hkp : keepL (l.take j) p.n = l.take j ++ [p] := by
        unfold keepL
        split
        · rename_i q hq
          rw [if_neg (hlast q hq), ← hpt]
        · rw [← hpt]
      refine ⟨?_, fun _ => ?_, fun e => by omega⟩
      · simp only [gStep, hk, if_true]
        rw [if_neg (by omega), i2, hkp, settle_none]
      · simp only [gStep, hk, if_true]
        rw [if_neg (by omega)]
        simp
    · have ha : aheadI l j = 0 ∨ aheadI l j = 1 := by
        cases j with
        | zero => left; rfl
        | succ m =>
          obtain ⟨q, hq⟩ : ∃ q, l[m]? = some q := ⟨l[m], List.getElem?_eq_getElem (by omega)⟩
          have hq1 := (hR q (List.mem_of_getElem? hq)).1
          have e : aheadI l (m + 1) = q.k := by simp [aheadI, hq]
          rw [e] at hfo ⊢
          omega
      obtain ⟨e1, e2⟩ := i3 ha
      have hpt : p = ⟨2, 0, ⟨p.t.data.toList.toArray⟩⟩ := by
        obtain ⟨k, n, t⟩ := p
        simp only at hk hn2
        have := hn2 hk
        subst this hk
        cases t; simp
      have hne : p.t.data.toList ≠ [] := by
        intro e
        have h1 : p.t.data.toList.length = p.t.size := Array.length_toList
        rw [e] at h1
        exact ht2 hk (by simpa using h1.symm)
      rw [e1, e2, settle_none] at i2
      refine ⟨?_, fun e => by omega, fun _ => ?_⟩
      · have h1 : ¬ (2 : Int) = 1 := by omega
        simp only [gStep, hk, h1, if_false, if_true, e1, e2, List.nil_append]
        rw [settleL, if_neg hne, if_neg (by omega), List.append_nil, i2, ← hpt]
      · simp [gStep, hk, e2]
    · have hc0 : s.ct = 0 := by
        cases j with
        | zero => exact (i3 (Or.inl rfl)).2
        | succ m =>
          obtain ⟨q, hq⟩ : ∃ q, l[m]? = some q := ⟨l[m], List.getElem?_eq_getElem (by omega)⟩
          have hq1 := (hR q (List.mem_of_getElem? hq)).1
          have e : aheadI l (m + 1) = q.k := by simp [aheadI, hq]
          rw [e] at hfo i3 i4
          rcases hq1 with h1 | h1 | h1
          · exact (i3 (Or.inr h1)).2
          · exact i4 h1
          · omega
      have hnp := hn (by omega)
      have hpt : p = ⟨3, p.n, ByteArray.empty⟩ := by
        obtain ⟨k, n, t⟩ := p
        simp only at hk hnp
        have : t = ByteArray.empty := by
          obtain ⟨⟨x⟩⟩ := t
          have h0 : x.length = 0 := hnp.1
          have h1 : x = [] := List.length_eq_zero_iff.1 h0
          subst h1; rfl
        subst hk this; rfl
      refine ⟨?_, fun e => by omega, fun e => by omega⟩
      · have h1 : ¬ (3 : Int) = 1 := by omega
        have h2 : ¬ (3 : Int) = 2 := by omega
        simp only [gStep, hk, h1, h2, if_false, hc0, Int.zero_add]
        rw [hc0] at i2
        simp only [settleL] at i2 ⊢
        have h00 : ¬ (0 : Int) < 0 := by omega
        simp only [h00, if_false, List.append_nil] at i2
        rw [if_pos hnp.2, i2, ← hpt]

/-- as many bytes are kept and cut -/
theorem settle_in (sl : List Pt) (tx : List UInt8) (ct : Int) (h : 0 ≤ ct) : inI (settleL sl tx ct) = inI sl + ct := by
  simp only [settleL, inI_app]
  split <;> split <;> simp [inI] <;> omega
theorem keep_in (sl : List Pt) (n : Int) : inI (keepL sl n) = inI sl + n := by
  unfold keepL
  split
  · rename_i p hp
    have h1 : sl = sl.dropLast ++ [p] := by
      have h2 : sl ≠ [] := fun e => by subst e; simp at hp
      rw [List.getLast?_eq_some_getLast h2] at hp
      have h3 := List.dropLast_concat_getLast h2
      have h4 : sl.getLast h2 = p := Option.some.inj hp
      rw [h4] at h3; exact h3.symm
    split
    · have h5 : inI sl = inI sl.dropLast + p.n := by
        have h6 : inI sl = inI (sl.dropLast ++ [p]) := by rw [← h1]
        rw [h6, inI_app]; simp [inI]
      rw [inI_app, h5]; simp [inI]; omega
    · rw [inI_app]; simp [inI]
  · rw [inI_app]; simp [inI]
theorem gather_in {l : List Pt} (h : ∀ p ∈ l, 0 ≤ p.n ∧ (p.k = 2 → p.n = 0)) : inI (gatherL l) = inI l := by
  suffices H : ∀ s : GSt, 0 ≤ s.ct → 0 ≤ (l.foldl gStep s).ct ∧ inI (l.foldl gStep s).sl + (l.foldl gStep s).ct = inI s.sl + s.ct + inI l by
    have h1 := H ⟨[], [], 0⟩ (by simp)
    unfold gatherL gAll
    rw [settle_in _ _ _ h1.1, h1.2]
    simp [inI]
  induction l with
  | nil => intro s hs; exact ⟨hs, by simp [inI]⟩
  | cons p r ih =>
    intro s hs
    have hp := h p (by simp)
    have ih := ih (fun q hq => h q (by simp [hq])) (gStep s p)
    simp only [List.foldl_cons, inI]
    have h1 : 0 ≤ (gStep s p).ct ∧ inI (gStep s p).sl + (gStep s p).ct = inI s.sl + s.ct + p.n := by
      unfold gStep
      split
      · split
        · exact ⟨hs, by omega⟩
        · exact ⟨by simp, by simp only [keep_in, settle_in _ _ _ hs]; omega⟩
      · split
        · rename_i h2
          have := hp.2 h2
          exact ⟨hs, by simp only; omega⟩
        · exact ⟨by simp only; omega, by simp only; omega⟩
    obtain ⟨i1, i2⟩ := ih h1.1
    exact ⟨i1, by rw [i2, h1.2]; omega⟩

end Go.Proofs.Ytjfeaedjifpahaa
