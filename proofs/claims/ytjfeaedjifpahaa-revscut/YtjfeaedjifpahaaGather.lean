/- Parts brought into their form, as plain functions: the program's road (gather), the document's (place by place), and that both come to one. -/
import Derived.Test.YtjfeaedjifpahaaPlaces
namespace Go.Proofs.Ytjfeaedjifpahaa
set_option linter.unusedSimpArgs false
set_option linter.unusedVariables false

def settleL (sl : List Pt) (tx : List UInt8) (ct : Int) : List Pt :=
  (sl ++ (if tx = [] then [] else [⟨2, 0, ⟨tx.toArray⟩⟩])) ++ (if 0 < ct then [⟨3, ct, ByteArray.empty⟩] else [])
def keepL (sl : List Pt) (n : Int) : List Pt :=
  match sl.getLast? with
  | some p => if p.k = 1 then sl.dropLast ++ [⟨p.k, p.n + n, p.t⟩] else sl ++ [⟨1, n, ByteArray.empty⟩]
  | none => sl ++ [⟨1, n, ByteArray.empty⟩]
structure GSt where
  sl : List Pt
  tx : List UInt8
  ct : Int
def gStep (s : GSt) (p : Pt) : GSt :=
  if p.k = 1 then (if p.n = 0 then s else ⟨keepL (settleL s.sl s.tx s.ct) p.n, [], 0⟩) else if p.k = 2 then ⟨s.sl, s.tx ++ p.t.data.toList, s.ct⟩ else ⟨s.sl, s.tx, s.ct + p.n⟩
def gAll (l : List Pt) : GSt := l.foldl gStep ⟨[], [], 0⟩
def gatherL (l : List Pt) : List Pt := settleL (gAll l).sl (gAll l).tx (gAll l).ct

def pStep (s : GSt) (q : ByteArray) (b : Bool) : GSt :=
  if b = true then ⟨keepL (settleL s.sl (s.tx ++ q.data.toList) s.ct) 1, [], 0⟩ else ⟨s.sl, s.tx ++ q.data.toList, s.ct + 1⟩
def pAll : List ByteArray → List Bool → GSt → GSt
  | q :: qs, b :: ks, s => pAll qs ks (pStep s q b)
  | _, _, s => s
def deltaP (qs : List ByteArray) (ks : List Bool) : List Pt :=
  let s := pAll qs ks ⟨[], [], 0⟩
  settleL s.sl (s.tx ++ (qs.getLast?.getD ByteArray.empty).data.toList) s.ct

theorem gAll_snoc {l : List Pt} {i : Nat} {p : Pt} (h : l[i]? = some p) : gAll (l.take (i + 1)) = gStep (gAll (l.take i)) p := by
  rw [take_snoc h]; simp [gAll, List.foldl_append]

theorem settle_none (sl : List Pt) : settleL sl [] 0 = sl := by simp [settleL]
theorem keep_keep (sl : List Pt) (a b : Int) : keepL (keepL sl a) b = keepL sl (a + b) := by
  unfold keepL
  cases h : sl.getLast? with
  | none => simp [List.getLast?_append]
  | some p =>
    by_cases hk : p.k = 1
    · simp [hk, List.getLast?_append]; omega
    · simp [hk, List.getLast?_append]

theorem pAll_append (qs qs' : List ByteArray) (ks ks' : List Bool) (s : GSt) (h : qs.length = ks.length) : pAll (qs ++ qs') (ks ++ ks') s = pAll qs' ks' (pAll qs ks s) := by
  induction ks generalizing qs s with
  | nil =>
    have h3 : qs = [] := List.length_eq_zero_iff.1 (by simpa using h)
    subst h3
    cases qs' <;> simp [pAll]
  | cons b ks ih =>
    cases qs with
    | nil => simp at h
    | cons q qs => simpa [pAll] using ih qs _ (by simpa using h)
theorem pAll_last (qs : List ByteArray) (q : ByteArray) (ks : List Bool) (s : GSt) (h : qs.length = ks.length) : pAll (qs ++ [q]) ks s = pAll qs ks s := by
  have := pAll_append qs [q] ks [] s h
  simpa [pAll] using this

theorem empty_data : ByteArray.empty.data.toList = [] := rfl
theorem pAll_cut (n : Nat) (q : ByteArray) (s : GSt) : pAll (q :: List.replicate n ByteArray.empty) (List.replicate (n + 1) false) s = ⟨s.sl, s.tx ++ q.data.toList, s.ct + (n + 1 : Nat)⟩ := by
  induction n generalizing q s with
  | zero => simp [pAll, pStep, List.replicate]
  | succ n ih =>
    rw [List.replicate_succ (n := n + 1), List.replicate_succ (n := n)]
    simp only [pAll]
    rw [ih]
    simp [pStep, empty_data]; omega
theorem pAll_keep (n : Nat) (q : ByteArray) (s : GSt) : pAll (q :: List.replicate n ByteArray.empty) (List.replicate (n + 1) true) s = ⟨keepL (settleL s.sl (s.tx ++ q.data.toList) s.ct) (n + 1 : Nat), [], 0⟩ := by
  induction n generalizing q s with
  | zero => simp [pAll, pStep, List.replicate]
  | succ n ih =>
    rw [List.replicate_succ (n := n + 1), List.replicate_succ (n := n)]
    simp only [pAll]
    rw [ih]
    simp only [pStep, if_true, empty_data, List.append_nil, settle_none, keep_keep]
    congr 2
    omega

/-- the two roads, step by step -/
theorem roads (l : List Pt) (hk : ∀ p ∈ l, 0 ≤ p.n ∧ (p.k = 1 ∨ p.k = 2 ∨ p.k = 3)) : ∀ (qs : List ByteArray) (q : ByteArray) (ks : List Bool) (s : GSt), qs.length = ks.length →
    s = (let t := pAll qs ks ⟨[], [], 0⟩; ⟨t.sl, t.tx ++ q.data.toList, t.ct⟩) →
    deltaP (l.foldl ofStep (qs ++ [q], ks)).1 (l.foldl ofStep (qs ++ [q], ks)).2 = settleL (l.foldl gStep s).sl (l.foldl gStep s).tx (l.foldl gStep s).ct := by
  induction l with
  | nil =>
    intro qs q ks s h1 hs
    subst hs
    simp [deltaP, pAll_last qs q ks _ h1, List.getLast?_append]
  | cons p r ih =>
    intro qs q ks s h1 hs
    have hp := hk p (by simp)
    have ih := ih (fun q hq => hk q (by simp [hq]))
    simp only [List.foldl_cons]
    by_cases hk2 : p.k = 2
    · have e : ofStep (qs ++ [q], ks) p = (qs ++ [q ++ p.t], ks) := by simp [ofStep, hk2, setLast_snoc]
      rw [e]
      exact ih qs (q ++ p.t) ks _ h1 (by subst hs; simp [gStep, hk2, data_append, List.append_assoc])
    · by_cases hn : p.n.toNat = 0
      · have e : ofStep (qs ++ [q], ks) p = (qs ++ [q], ks) := by simp [ofStep, hk2, hn]
        have hn0 : p.n = 0 := by omega
        have e2 : gStep s p = s := by
          rcases hp.2 with h | h | h
          · simp [gStep, h, hn0]
          · exact absurd h hk2
          · simp [gStep, h, hn0]
        rw [e, e2]
        exact ih qs q ks s h1 hs
      · obtain ⟨m, hm⟩ : ∃ m, p.n.toNat = m + 1 := ⟨p.n.toNat - 1, by omega⟩
        have e : ofStep (qs ++ [q], ks) p = ((qs ++ q :: List.replicate m ByteArray.empty) ++ [ByteArray.empty], ks ++ List.replicate (m + 1) (decide (p.k = 1))) := by
          simp [ofStep, hk2, hm, rep_split, List.append_assoc]
        rw [e]
        refine ih _ ByteArray.empty _ _ (by simp; omega) ?_
        rw [pAll_append qs _ ks _ _ h1]
        have hnn : p.n ≠ 0 := by omega
        have hcast : ((m + 1 : Nat) : Int) = p.n := by omega
        rcases hp.2 with h | h | h
        · simp only [h, decide_true]
          rw [pAll_keep]
          subst hs
          simp only [gStep, h, if_true, hnn, if_false, empty_data, List.append_nil, hcast]
        · exact absurd h hk2
        · have h13 : ¬ ((3 : Int) = 1) := by omega
          have h32 : ¬ ((3 : Int) = 2) := by omega
          simp only [h, h13, decide_false]
          rw [pAll_cut]
          subst hs
          simp only [gStep, h, h13, h32, if_false, empty_data, List.append_nil, hcast]

theorem deltaP_all {l : List Pt} (hk : ∀ p ∈ l, 0 ≤ p.n ∧ (p.k = 1 ∨ p.k = 2 ∨ p.k = 3)) : deltaP (ofAll l).1 (ofAll l).2 = gatherL l := by
  have := roads l hk [] ByteArray.empty [] ⟨[], [], 0⟩ rfl (by simp [pAll, empty_data])
  simpa [ofAll, gatherL, gAll] using this

end Go.Proofs.Ytjfeaedjifpahaa
