/- What the functions of package part and of the document's own road compute, as plain functions on lists of parts: no program in it. -/
import GoSem.Claim
namespace Go.Proofs.Ytinhidddfpjjkaa

structure Pt where
  k : Int
  n : Int
  t : ByteArray

def widthI (k n : Int) (t : ByteArray) : Int := if k = 2 then (t.size : Int) else n
def formedB (k n : Int) (t : ByteArray) : Bool := if k = 1 ∨ k = 3 then decide (0 ≤ n) && decide (t.size = 0) else decide (k = 2) && decide (n = 0)
def followB (a k : Int) : Bool := decide (k ≠ a) && !(decide (a = 3) && decide (k = 2))
/-- what is wrong with a part behind one of kind a -/
def stepE (a : Int) (p : Pt) : Int := if (formedB p.k p.n p.t && decide (widthI p.k p.n p.t ≠ 0) && followB a p.k) = true then (if 500 < widthI p.k p.n p.t then 2 else 0) else 3
def scanE : Int → List Pt → Int
  | _, [] => 0
  | a, p :: r => if stepE a p = 0 then scanE p.k r else stepE a p
def inI : List Pt → Int
  | [] => 0
  | p :: r => p.n + inI r
def outI : List Pt → Int
  | [] => 0
  | p :: r => (if p.k = 3 then 0 else p.n + (p.t.size : Int)) + outI r
def sumIn : List Pt → Int
  | [] => 0
  | p :: r => (if p.k = 2 then 0 else widthI p.k p.n p.t) + sumIn r
def sumOut : List Pt → Int
  | [] => 0
  | p :: r => (if p.k = 3 then 0 else widthI p.k p.n p.t) + sumOut r
def partsE (l : List Pt) : Int := if 1600 < l.length then 2 else scanE 0 l
def deltaE (l : List Pt) : Int := if 1600 < l.length then 2 else if scanE 0 l = 0 then (if 500 < inI l ∨ 500 < outI l then 2 else 0) else scanE 0 l
/-- the kind ahead of place i -/
def aheadI (l : List Pt) (i : Nat) : Int := match i with | 0 => 0 | j + 1 => match l[j]? with | some p => p.k | none => 0

def Small (l : List Pt) : Prop := l.length ≤ 1600 ∧ ∀ p ∈ l, 0 ≤ p.n ∧ p.n ≤ 500 ∧ p.t.size ≤ 500

theorem inI_app (a b : List Pt) : inI (a ++ b) = inI a + inI b := by
  induction a with
  | nil => simp [inI]
  | cons p r ih => simp only [List.cons_append, inI, ih]; omega
theorem outI_app (a b : List Pt) : outI (a ++ b) = outI a + outI b := by
  induction a with
  | nil => simp [outI]
  | cons p r ih => simp only [List.cons_append, outI, ih]; omega
theorem sumIn_app (a b : List Pt) : sumIn (a ++ b) = sumIn a + sumIn b := by
  induction a with
  | nil => simp [sumIn]
  | cons p r ih => simp only [List.cons_append, sumIn, ih]; omega
theorem sumOut_app (a b : List Pt) : sumOut (a ++ b) = sumOut a + sumOut b := by
  induction a with
  | nil => simp [sumOut]
  | cons p r ih => simp only [List.cons_append, sumOut, ih]; omega
theorem take_snoc {l : List Pt} {i : Nat} {p : Pt} (h : l[i]? = some p) : l.take (i + 1) = l.take i ++ [p] := by
  obtain ⟨hi, rfl⟩ := List.getElem?_eq_some_iff.1 h
  rw [List.take_succ_eq_append_getElem hi]
theorem inI_snoc {l : List Pt} {i : Nat} {p : Pt} (h : l[i]? = some p) : inI (l.take (i + 1)) = inI (l.take i) + p.n := by
  rw [take_snoc h, inI_app]; simp [inI]
theorem outI_snoc {l : List Pt} {i : Nat} {p : Pt} (h : l[i]? = some p) : outI (l.take (i + 1)) = outI (l.take i) + (if p.k = 3 then 0 else p.n + (p.t.size : Int)) := by
  rw [take_snoc h, outI_app]; simp [outI]
theorem sumIn_snoc {l : List Pt} {i : Nat} {p : Pt} (h : l[i]? = some p) : sumIn (l.take (i + 1)) = sumIn (l.take i) + (if p.k = 2 then 0 else widthI p.k p.n p.t) := by
  rw [take_snoc h, sumIn_app]; simp [sumIn]
theorem sumOut_snoc {l : List Pt} {i : Nat} {p : Pt} (h : l[i]? = some p) : sumOut (l.take (i + 1)) = sumOut (l.take i) + (if p.k = 3 then 0 else widthI p.k p.n p.t) := by
  rw [take_snoc h, sumOut_app]; simp [sumOut]

theorem inI_bd {l : List Pt} (h : ∀ p ∈ l, 0 ≤ p.n ∧ p.n ≤ 500 ∧ p.t.size ≤ 500) : 0 ≤ inI l ∧ inI l ≤ 500 * l.length := by
  induction l with
  | nil => simp [inI]
  | cons p r ih =>
    have h1 := h p (by simp)
    have h2 := ih (fun q hq => h q (by simp [hq]))
    simp only [inI, List.length_cons]; omega
theorem outI_bd {l : List Pt} (h : ∀ p ∈ l, 0 ≤ p.n ∧ p.n ≤ 500 ∧ p.t.size ≤ 500) : 0 ≤ outI l ∧ outI l ≤ 1000 * l.length := by
  induction l with
  | nil => simp [outI]
  | cons p r ih =>
    have h1 := h p (by simp)
    have h2 := ih (fun q hq => h q (by simp [hq]))
    simp only [outI, List.length_cons]; split <;> omega
theorem sumIn_bd {l : List Pt} (h : ∀ p ∈ l, 0 ≤ p.n ∧ p.n ≤ 500 ∧ p.t.size ≤ 500) : 0 ≤ sumIn l ∧ sumIn l ≤ 500 * l.length := by
  induction l with
  | nil => simp [sumIn]
  | cons p r ih =>
    have h1 := h p (by simp)
    have h2 := ih (fun q hq => h q (by simp [hq]))
    simp only [sumIn, widthI, List.length_cons]; split <;> omega
theorem sumOut_bd {l : List Pt} (h : ∀ p ∈ l, 0 ≤ p.n ∧ p.n ≤ 500 ∧ p.t.size ≤ 500) : 0 ≤ sumOut l ∧ sumOut l ≤ 500 * l.length := by
  induction l with
  | nil => simp [sumOut]
  | cons p r ih =>
    have h1 := h p (by simp)
    have h2 := ih (fun q hq => h q (by simp [hq]))
    simp only [sumOut, widthI, List.length_cons]; split <;> (try split) <;> omega
theorem Small.take {l : List Pt} (h : Small l) (i : Nat) : Small (l.take i) :=
  ⟨by have := h.1; simp; omega, fun p hp => h.2 p (List.mem_of_mem_take hp)⟩

theorem drop_cons {l : List Pt} {i : Nat} {p : Pt} (h : l[i]? = some p) : l.drop i = p :: l.drop (i + 1) := by
  obtain ⟨hi, rfl⟩ := List.getElem?_eq_some_iff.1 h
  exact List.drop_eq_getElem_cons hi
theorem scan_stop {l : List Pt} {i : Nat} {p : Pt} {a R : Int} (h : l[i]? = some p) (hR : scanE a (l.drop i) = R) (he : stepE a p ≠ 0) : stepE a p = R := by
  rw [drop_cons h] at hR
  simpa [scanE, he] using hR
theorem scan_on {l : List Pt} {i : Nat} {p : Pt} {a R : Int} (h : l[i]? = some p) (hR : scanE a (l.drop i) = R) (he : stepE a p = 0) : scanE p.k (l.drop (i + 1)) = R := by
  rw [drop_cons h] at hR
  simpa [scanE, he] using hR
theorem step_unformed {a : Int} {p : Pt} (h : formedB p.k p.n p.t = false) : stepE a p = 3 := by simp [stepE, h]
theorem step_none {a : Int} {p : Pt} (h : widthI p.k p.n p.t = 0) : stepE a p = 3 := by simp [stepE, h]
theorem step_behind {a : Int} {p : Pt} (h : followB a p.k = false) : stepE a p = 3 := by simp [stepE, h]
theorem step_great {a : Int} {p : Pt} (h1 : formedB p.k p.n p.t = true) (h2 : widthI p.k p.n p.t ≠ 0) (h3 : followB a p.k = true) (h4 : 500 < widthI p.k p.n p.t) : stepE a p = 2 := by simp [stepE, h1, h2, h3, h4]
theorem step_ok {a : Int} {p : Pt} (h1 : formedB p.k p.n p.t = true) (h2 : widthI p.k p.n p.t ≠ 0) (h3 : followB a p.k = true) (h4 : ¬ 500 < widthI p.k p.n p.t) : stepE a p = 0 := by simp [stepE, h1, h2, h3, h4]

end Go.Proofs.Ytinhidddfpjjkaa

