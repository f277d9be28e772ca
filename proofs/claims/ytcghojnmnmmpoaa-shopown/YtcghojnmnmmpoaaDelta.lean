/- What the document's own road, Delta, answers: the same as package part's Check. -/
import Derived.Test.YtcghojnmnmmpoaaPure
import Derived.Deep.QuietTactic
import Derived.BigQuiet
namespace Go.Proofs.Ytcghojnmnmmpoaa
open Go.RowKit
set_option linter.unusedSimpArgs false
set_option linter.unusedVariables false

/-- what the document's road says of a part behind one of kind a: at the first place only what is wrong with itself -/
def clashB (a k : Int) : Bool := decide (a = k) || (decide (a = 3) && decide (k = 2))
theorem step_right {a : Int} {p : Pt} (h : clashB a p.k = false) : stepE a p = rightE p.k p.n p.t := by
  simp only [clashB, Bool.or_eq_false_iff, Bool.and_eq_false_iff, decide_eq_false_iff_not] at h
  have hf : followB a p.k = true := by
    simp only [followB, Bool.and_eq_true, decide_eq_true_eq, Bool.not_eq_true', Bool.and_eq_false_iff, decide_eq_false_iff_not]
    exact ⟨fun e => h.1 e.symm, h.2⟩
  unfold stepE rightE
  simp only [hf, Bool.and_true, Bool.and_eq_true, decide_eq_true_eq, formedB, widthI]
  by_cases h2 : p.k = 2
  · simp only [h2]
    by_cases hn : p.n = 0 <;> by_cases ht : p.t.size = 0 <;> simp [hn, ht] <;> (try omega)
  · by_cases h13 : p.k = 1 ∨ p.k = 3
    · simp only [h2, h13]
      by_cases hn : 0 < p.n
      · have : 0 ≤ p.n := by omega
        have : ¬ p.n = 0 := by omega
        by_cases ht : p.t.size = 0 <;> simp [*] <;> (try omega)
      · by_cases hz : p.n = 0
        · simp [hz]
        · have : ¬ 0 ≤ p.n := by omega
          simp [this, hn]
    · simp [h2, h13]
theorem step_clash {a : Int} {p : Pt} (h : clashB a p.k = true) : stepE a p = 3 := by
  apply step_behind
  simp only [clashB, Bool.or_eq_true, Bool.and_eq_true, decide_eq_true_eq] at h
  simp only [followB, Bool.and_eq_false_iff, decide_eq_false_iff_not, Bool.not_eq_false', Bool.and_eq_true, decide_eq_true_eq]
  rcases h with h | h
  · left; simp [h]
  · right; exact h
theorem step_first {p : Pt} : stepE 0 p = rightE p.k p.n p.t := by
  by_cases h : p.k = 0
  · have h1 : stepE 0 p = 3 := step_unformed (by simp [formedB, h])
    rw [h1]; simp [rightE, h]
  · apply step_right
    simp [clashB]; omega

theorem right_in {l : List Pt} {a : Int} (h : scanE a l = 0) : sumIn l = inI l ∧ sumOut l = outI l := by
  induction l generalizing a with
  | nil => simp [sumIn, sumOut, inI, outI]
  | cons q r ih =>
    unfold scanE at h
    split at h
    · rename_i h1
      obtain ⟨e1, e2⟩ := ih h
      unfold stepE at h1
      split at h1
      · rename_i h2
        simp only [Bool.and_eq_true, decide_eq_true_eq] at h2
        obtain ⟨⟨h2, h3⟩, h4⟩ := h2
        unfold formedB at h2
        simp only [sumIn, sumOut, inI, outI, e1, e2, widthI]
        split at h2 <;> simp only [Bool.and_eq_true, decide_eq_true_eq] at h2
        · rename_i h5
          rcases h5 with h5 | h5 <;> simp [h5, h2]
        · simp [h2]
      · omega
    · contradiction
theorem delta_sizes (l : List Pt) : deltaE l = sizesE l := by
  unfold deltaE sizesE partsE
  split
  · simp
  · split
    · rename_i h
      obtain ⟨e1, e2⟩ := right_in h
      simp [e1, e2]
    · rfl

end Go.Proofs.Ytcghojnmnmmpoaa

/- The walk of the document's own Delta. -/
namespace Go.Proofs.Ytcghojnmnmmpoaa
open Go.RowKit
set_option linter.unusedSimpArgs false
set_option linter.unusedVariables false

theorem ahead_succ {l : List Pt} {i : Nat} {p : Pt} (h : l[i]? = some p) : aheadI l (i + 1) = p.k := by simp [aheadI, h]


end Go.Proofs.Ytcghojnmnmmpoaa

/- The law PartChecks, walked: it answers true. -/
namespace Go.Proofs.Ytcghojnmnmmpoaa
open Go.RowKit
set_option linter.unusedSimpArgs false
set_option linter.unusedVariables false

theorem sizes_zero {l : List Pt} (h : sizesE l = 0) : Small l ∧ sizesIn l = inI l ∧ sizesOut l = outI l := by
  have h0 : partsE l = 0 := by
    unfold sizesE at h
    split at h
    · assumption
    · contradiction
  have hs : scanE 0 l = 0 := by
    unfold partsE at h0
    split at h0
    · omega
    · exact h0
  obtain ⟨e1, e2⟩ := right_in hs
  exact ⟨parts_small h0, by simp [sizesIn, h, e1], by simp [sizesOut, h, e2]⟩


end Go.Proofs.Ytcghojnmnmmpoaa

/- What Fits answers, in package apply and on the document's road, and what a delta does to a text, as a function on lists of bytes. -/
namespace Go.Proofs.Ytcghojnmnmmpoaa
open Go.RowKit
set_option linter.unusedSimpArgs false
set_option linter.unusedVariables false

def fitsE (l : List Pt) (n : Int) : Int := if sizesE l = 0 then (if inI l = n then 0 else 4) else sizesE l

theorem fits_zero {l : List Pt} {n : Int} (h : fitsE l n = 0) : sizesE l = 0 ∧ inI l = n := by
  unfold fitsE at h
  split at h
  · rename_i h0
    split at h
    · exact ⟨h0, by assumption⟩
    · omega
  · contradiction

/-- what a delta makes of a text -/
def doL : List Pt → List UInt8 → List UInt8
  | [], _ => []
  | p :: r, s => if p.k = 1 then s.take p.n.toNat ++ doL r (s.drop p.n.toNat) else if p.k = 2 then p.t.data.toList ++ doL r s else doL r (s.drop p.n.toNat)

def Right (l : List Pt) : Prop := ∀ p ∈ l, (p.k = 1 ∨ p.k = 2 ∨ p.k = 3) ∧ (p.k = 2 → p.n = 0) ∧ (p.k ≠ 2 → p.t.size = 0 ∧ 0 < p.n) ∧ (p.k = 2 → p.t.size ≠ 0)

theorem scan_right {a : Int} {l : List Pt} (h : scanE a l = 0) : Right l := by
  induction l generalizing a with
  | nil => simp [Right]
  | cons q r ih =>
    unfold scanE at h
    split at h
    · rename_i h1
      intro p hp
      rcases List.mem_cons.1 hp with rfl | hp
      · unfold stepE at h1
        split at h1
        · rename_i h2
          simp only [Bool.and_eq_true, decide_eq_true_eq] at h2
          obtain ⟨⟨h2, h3⟩, h4⟩ := h2
          unfold formedB at h2
          unfold widthI at h3
          split at h2 <;> simp only [Bool.and_eq_true, decide_eq_true_eq] at h2 <;> split at h3 <;> omega
        · omega
      · exact ih h p hp
    · contradiction
theorem sizes_right {l : List Pt} (h : sizesE l = 0) : Right l := by
  have h0 : partsE l = 0 := by
    unfold sizesE at h
    split at h
    · assumption
    · contradiction
  unfold partsE at h0
  split at h0
  · omega
  · exact scan_right h0

set_option maxHeartbeats 400000 in
theorem Fits_any (a : Option Addr) (l : List Pt) (cap : Nat) (n : Int) (w : World) (hp : PartsAt w w.heap.size a l) :
    Calls Try.prog 72 #[.slice a l.length cap, .int .i64 n] w fun e w' => e = .returned (.int .i64 (fitsE l n)) ∧ Below w.heap.size w w' := by
  have HP : Hid (PartsAt w w.heap.size a l) := hp
  clear hp
  go_enter Try.func72, Try.ntmps72
  go_wp2_with fail
  refine (Sizes_any a l cap _ HP.out).mono ?_
  rintro e w1 ⟨rfl, hb1⟩
  by_cases h0 : sizesE l = 0
  · have e1 := (sizes_zero h0).2.1
    have h0' : (sizesE l != 0) = false := by simp [h0]
    by_cases hn : inI l = n
    · have hn' : (sizesIn l != n) = false := by simp [e1, hn]
      have HF : Hid (fitsE l n = 0) := by show _ = _; simp [fitsE, h0, hn]
      clear h0 e1 hn
      go_wp2_with fail
      go_ret
      exact ⟨ret_int HF.out.symm, hb1⟩
    · have hn' : (sizesIn l != n) = true := by simp [e1, hn]
      have HF : Hid (fitsE l n = 4) := by show _ = _; simp [fitsE, h0, hn]
      clear h0 e1 hn
      go_wp2_with fail
      go_ret
      exact ⟨ret_int HF.out.symm, hb1⟩
  · have h0' : (sizesE l != 0) = true := by simp [h0]
    have HF : Hid (fitsE l n = sizesE l) := by show _ = _; simp [fitsE, h0]
    clear h0
    go_wp2_with fail
    go_ret
    exact ⟨ret_int HF.out.symm, hb1⟩


end Go.Proofs.Ytcghojnmnmmpoaa
