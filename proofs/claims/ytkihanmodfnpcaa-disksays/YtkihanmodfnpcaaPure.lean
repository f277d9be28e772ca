/- What the functions of package part and of the document's own road compute, as plain functions on lists of parts: no program in it. -/
import GoSem.Claim
import Derived.Test.YtkihanmodfnpcaaRows
import Derived.WalkKit
import Derived.WalkSpells
import Derived.WalkLawsBesides
namespace Go.Proofs.Ytkihanmodfnpcaa

structure Pt where
  k : Int
  n : Int
  t : ByteArray

def widthI (k n : Int) (t : ByteArray) : Int := if k = 2 then (t.size : Int) else n
def formedB (k n : Int) (t : ByteArray) : Bool := if k = 1 ∨ k = 3 then decide (0 ≤ n) && decide (t.size = 0) else decide (k = 2) && decide (n = 0)
def followB (a k : Int) : Bool := decide (k ≠ a) && !(decide (a = 3) && decide (k = 2))
/-- what is wrong with a part behind one of kind a -/
def stepE (a : Int) (p : Pt) : Int := if (formedB p.k p.n p.t && decide (widthI p.k p.n p.t ≠ 0) && followB a p.k) = true then (if 500 < widthI p.k p.n p.t then 2 else 0) else 3
def scanE : Int → List Pt → Int
  | _, [] => 0
  | a, p :: r => if stepE a p = 0 then scanE p.k r else stepE a p
def inI : List Pt → Int
  | [] => 0
  | p :: r => p.n + inI r
def outI : List Pt → Int
  | [] => 0
  | p :: r => (if p.k = 3 then 0 else p.n + (p.t.size : Int)) + outI r
def sumIn : List Pt → Int
  | [] => 0
  | p :: r => (if p.k = 2 then 0 else widthI p.k p.n p.t) + sumIn r
def sumOut : List Pt → Int
  | [] => 0
  | p :: r => (if p.k = 3 then 0 else widthI p.k p.n p.t) + sumOut r
def partsE (l : List Pt) : Int := if 1600 < l.length then 2 else scanE 0 l
def deltaE (l : List Pt) : Int := if 1600 < l.length then 2 else if scanE 0 l = 0 then (if 500 < inI l ∨ 500 < outI l then 2 else 0) else scanE 0 l
/-- the kind ahead of place i -/
def aheadI (l : List Pt) (i : Nat) : Int := match i with | 0 => 0 | j + 1 => match l[j]? with | some p => p.k | none => 0

def Small (l : List Pt) : Prop := l.length ≤ 1600 ∧ ∀ p ∈ l, 0 ≤ p.n ∧ p.n ≤ 500 ∧ p.t.size ≤ 500

theorem inI_app (a b : List Pt) : inI (a ++ b) = inI a + inI b := by
  induction a with
  | nil => simp [inI]
  | cons p r ih => simp only [List.cons_append, inI, ih]; omega
theorem outI_app (a b : List Pt) : outI (a ++ b) = outI a + outI b := by
  induction a with
  | nil => simp [outI]
  | cons p r ih => simp only [List.cons_append, outI, ih]; omega
theorem sumIn_app (a b : List Pt) : sumIn (a ++ b) = sumIn a + sumIn b := by
  induction a with
  | nil => simp [sumIn]
  | cons p r ih => simp only [List.cons_append, sumIn, ih]; omega
theorem sumOut_app (a b : List Pt) : sumOut (a ++ b) = sumOut a + sumOut b := by
  induction a with
  | nil => simp [sumOut]
  | cons p r ih => simp only [List.cons_append, sumOut, ih]; omega
theorem take_snoc {l : List Pt} {i : Nat} {p : Pt} (h : l[i]? = some p) : l.take (i + 1) = l.take i ++ [p] := by
  obtain ⟨hi, rfl⟩ := List.getElem?_eq_some_iff.1 h
  rw [List.take_succ_eq_append_getElem hi]
theorem inI_snoc {l : List Pt} {i : Nat} {p : Pt} (h : l[i]? = some p) : inI (l.take (i + 1)) = inI (l.take i) + p.n := by
  rw [take_snoc h, inI_app]; simp [inI]
theorem outI_snoc {l : List Pt} {i : Nat} {p : Pt} (h : l[i]? = some p) : outI (l.take (i + 1)) = outI (l.take i) + (if p.k = 3 then 0 else p.n + (p.t.size : Int)) := by
  rw [take_snoc h, outI_app]; simp [outI]
theorem sumIn_snoc {l : List Pt} {i : Nat} {p : Pt} (h : l[i]? = some p) : sumIn (l.take (i + 1)) = sumIn (l.take i) + (if p.k = 2 then 0 else widthI p.k p.n p.t) := by
  rw [take_snoc h, sumIn_app]; simp [sumIn]
theorem sumOut_snoc {l : List Pt} {i : Nat} {p : Pt} (h : l[i]? = some p) : sumOut (l.take (i + 1)) = sumOut (l.take i) + (if p.k = 3 then 0 else widthI p.k p.n p.t) := by
  rw [take_snoc h, sumOut_app]; simp [sumOut]

theorem inI_bd {l : List Pt} (h : ∀ p ∈ l, 0 ≤ p.n ∧ p.n ≤ 500 ∧ p.t.size ≤ 500) : 0 ≤ inI l ∧ inI l ≤ 500 * l.length := by
  induction l with
  | nil => simp [inI]
  | cons p r ih =>
    have h1 := h p (by simp)
    have h2 := ih (fun q hq => h q (by simp [hq]))
    simp only [inI, List.length_cons]; omega
theorem outI_bd {l : List Pt} (h : ∀ p ∈ l, 0 ≤ p.n ∧ p.n ≤ 500 ∧ p.t.size ≤ 500) : 0 ≤ outI l ∧ outI l ≤ 1000 * l.length := by
  induction l with
  | nil => simp [outI]
  | cons p r ih =>
    have h1 := h p (by simp)
    have h2 := ih (fun q hq => h q (by simp [hq]))
    simp only [outI, List.length_cons]; split <;> omega
theorem sumIn_bd {l : List Pt} (h : ∀ p ∈ l, 0 ≤ p.n ∧ p.n ≤ 500 ∧ p.t.size ≤ 500) : 0 ≤ sumIn l ∧ sumIn l ≤ 500 * l.length := by
  induction l with
  | nil => simp [sumIn]
  | cons p r ih =>
    have h1 := h p (by simp)
    have h2 := ih (fun q hq => h q (by simp [hq]))
    simp only [sumIn, widthI, List.length_cons]; split <;> omega
theorem sumOut_bd {l : List Pt} (h : ∀ p ∈ l, 0 ≤ p.n ∧ p.n ≤ 500 ∧ p.t.size ≤ 500) : 0 ≤ sumOut l ∧ sumOut l ≤ 500 * l.length := by
  induction l with
  | nil => simp [sumOut]
  | cons p r ih =>
    have h1 := h p (by simp)
    have h2 := ih (fun q hq => h q (by simp [hq]))
    simp only [sumOut, widthI, List.length_cons]; split <;> (try split) <;> omega
theorem Small.take {l : List Pt} (h : Small l) (i : Nat) : Small (l.take i) :=
  ⟨by have := h.1; simp; omega, fun p hp => h.2 p (List.mem_of_mem_take hp)⟩

theorem drop_cons {l : List Pt} {i : Nat} {p : Pt} (h : l[i]? = some p) : l.drop i = p :: l.drop (i + 1) := by
  obtain ⟨hi, rfl⟩ := List.getElem?_eq_some_iff.1 h
  exact List.drop_eq_getElem_cons hi
theorem scan_stop {l : List Pt} {i : Nat} {p : Pt} {a R : Int} (h : l[i]? = some p) (hR : scanE a (l.drop i) = R) (he : stepE a p ≠ 0) : stepE a p = R := by
  rw [drop_cons h] at hR
  simpa [scanE, he] using hR
theorem scan_on {l : List Pt} {i : Nat} {p : Pt} {a R : Int} (h : l[i]? = some p) (hR : scanE a (l.drop i) = R) (he : stepE a p = 0) : scanE p.k (l.drop (i + 1)) = R := by
  rw [drop_cons h] at hR
  simpa [scanE, he] using hR
theorem step_unformed {a : Int} {p : Pt} (h : formedB p.k p.n p.t = false) : stepE a p = 3 := by simp [stepE, h]
theorem step_none {a : Int} {p : Pt} (h : widthI p.k p.n p.t = 0) : stepE a p = 3 := by simp [stepE, h]
theorem step_behind {a : Int} {p : Pt} (h : followB a p.k = false) : stepE a p = 3 := by simp [stepE, h]
theorem step_great {a : Int} {p : Pt} (h1 : formedB p.k p.n p.t = true) (h2 : widthI p.k p.n p.t ≠ 0) (h3 : followB a p.k = true) (h4 : 500 < widthI p.k p.n p.t) : stepE a p = 2 := by simp [stepE, h1, h2, h3, h4]
theorem step_ok {a : Int} {p : Pt} (h1 : formedB p.k p.n p.t = true) (h2 : widthI p.k p.n p.t ≠ 0) (h3 : followB a p.k = true) (h4 : ¬ 500 < widthI p.k p.n p.t) : stepE a p = 0 := by simp [stepE, h1, h2, h3, h4]

end Go.Proofs.Ytkihanmodfnpcaa

/- A list of parts as it lies in memory, and what stays of it where nothing old is written. -/
namespace Go.Proofs.Ytkihanmodfnpcaa
open Go.RowKit
set_option linter.unusedSimpArgs false
set_option linter.unusedVariables false

/-- the parts l lie from address a on, below block B -/
def PartsAt (w : World) (B : Nat) (a : Option Addr) (l : List Pt) : Prop :=
  l.length ≤ 9223372036854775807 ∧ B ≤ w.heap.size ∧ (∀ p ∈ l, p.t.size ≤ 9223372036854775807 ∧ -9223372036854775808 ≤ p.n ∧ p.n ≤ 9223372036854775807 ∧ -9223372036854775808 ≤ p.k ∧ p.k ≤ 9223372036854775807) ∧
  (l ≠ [] → ∃ b off, a = some ⟨b, off, none⟩ ∧ b < B ∧ ∀ i p, l[i]? = some p →
    w.cell? ⟨b, off + i * 3, none⟩ = some (.int .i64 p.k) ∧ w.cell? ⟨b, off + i * 3 + 1, none⟩ = some (.int .i64 p.n) ∧ w.cell? ⟨b, off + i * 3 + 2, none⟩ = some (.string p.t))

theorem PartsAt.below {w w' : World} {B B' : Nat} {a : Option Addr} {l : List Pt} (h : PartsAt w B a l) (hb : Below B' w w') (hB : B ≤ B') : PartsAt w' B a l := by
  obtain ⟨h1, h2, h3, h4⟩ := h
  refine ⟨h1, Nat.le_trans h2 hb.size, h3, fun hn => ?_⟩
  obtain ⟨b, off, ha, hlt, hc⟩ := h4 hn
  have hlt' : b < B' := Nat.lt_of_lt_of_le hlt hB
  refine ⟨b, off, ha, hlt, fun i p hi => ?_⟩
  obtain ⟨c1, c2, c3⟩ := hc i p hi
  exact ⟨(hb.cell (p := ⟨b, _, none⟩) hlt').trans c1, (hb.cell (p := ⟨b, _, none⟩) hlt').trans c2, (hb.cell (p := ⟨b, _, none⟩) hlt').trans c3⟩

theorem PartsAt.mem {w : World} {B : Nat} {a : Option Addr} {l : List Pt} (h : PartsAt w B a l) {i : Nat} {p : Pt} (hi : l[i]? = some p) :
    ∃ b off, a = some ⟨b, off, none⟩ ∧ b < B ∧
    w.cell? ⟨b, off + i * 3, none⟩ = some (.int .i64 p.k) ∧ w.cell? ⟨b, off + i * 3 + 1, none⟩ = some (.int .i64 p.n) ∧ w.cell? ⟨b, off + i * 3 + 2, none⟩ = some (.string p.t) := by
  obtain ⟨_, _, _, h4⟩ := h
  obtain ⟨b, off, ha, hlt, hc⟩ := h4 (fun e => by subst e; simp at hi)
  exact ⟨b, off, ha, hlt, hc i p hi⟩

theorem PartsAt.here {w w' : World} {B B' : Nat} {a : Option Addr} {l : List Pt} (h : PartsAt w B a l) (hb : Below B' w w') (hB : B ≤ B') : PartsAt w' w'.heap.size a l := by
  have h := h.below hb hB
  exact ⟨h.1, Nat.le_refl _, h.2.2.1, fun hn => by
    obtain ⟨b, off, ha, hlt, hc⟩ := h.2.2.2 hn
    exact ⟨b, off, ha, Nat.lt_of_lt_of_le hlt h.2.1, hc⟩⟩

theorem bcell {B : Nat} {W w1 : World} (hb : Below B W w1) : (∀ b o, b < B → w1.cell? ⟨b, o, none⟩ = W.cell? ⟨b, o, none⟩) ∧ (∀ b o, b < B → w1.frozen? ⟨b, o, none⟩ = W.frozen? ⟨b, o, none⟩) :=
  ⟨fun b o h => hb.cell (p := ⟨b, o, none⟩) h, fun b o h => hb.frozen (p := ⟨b, o, none⟩) h⟩
theorem ret_int {k : IntKind} {a b : Int} (h : a = b) : Ending.returned (.int k a) = .returned (.int k b) := by rw [h]
theorem ret_bool {a b : Bool} (h : a = b) : Ending.returned (.bool a) = .returned (.bool b) := by rw [h]

end Go.Proofs.Ytkihanmodfnpcaa
