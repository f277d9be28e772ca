/- What Fits answers, in package apply and on the document's road, and what a delta does to a text, as a function on lists of bytes. -/
import Derived.Test.YtillooigiidpkaaPartChecksWalk
namespace Go.Proofs.Ytillooigiidpkaa
open Go.RowKit
set_option linter.unusedSimpArgs false
set_option linter.unusedVariables false

def fitsE (l : List Pt) (n : Int) : Int := if sizesE l = 0 then (if inI l = n then 0 else 4) else sizesE l

theorem fits_zero {l : List Pt} {n : Int} (h : fitsE l n = 0) : sizesE l = 0 ∧ inI l = n := by
  unfold fitsE at h
  split at h
  · rename_i h0
    split at h
    · exact ⟨h0, by assumption⟩
    · omega
  · contradiction

/-- what a delta makes of a text -/
def doL : List Pt → List UInt8 → List UInt8
  | [], _ => []
  | p :: r, s => if p.k = 1 then s.take p.n.toNat ++ doL r (s.drop p.n.toNat) else if p.k = 2 then p.t.data.toList ++ doL r s else doL r (s.drop p.n.toNat)

def Right (l : List Pt) : Prop := ∀ p ∈ l, (p.k = 1 ∨ p.k = 2 ∨ p.k = 3) ∧ (p.k = 2 → p.n = 0) ∧ (p.k ≠ 2 → p.t.size = 0 ∧ 0 < p.n) ∧ (p.k = 2 → p.t.size ≠ 0)

theorem scan_right {a : Int} {l : List Pt} (h : scanE a l = 0) : Right l := by
  induction l generalizing a with
  | nil => simp [Right]
  | cons q r ih =>
    unfold scanE at h
    split at h
    · rename_i h1
      intro p hp
      rcases List.mem_cons.1 hp with rfl | hp
      · unfold stepE at h1
        split at h1
        · rename_i h2
          simp only [Bool.and_eq_true, decide_eq_true_eq] at h2
          obtain ⟨⟨h2, h3⟩, h4⟩ := h2
          unfold formedB at h2
          unfold widthI at h3
          split at h2 <;> simp only [Bool.and_eq_true, decide_eq_true_eq] at h2 <;> split at h3 <;> omega
        · omega
      · exact ih h p hp
    · contradiction
theorem sizes_right {l : List Pt} (h : sizesE l = 0) : Right l := by
  have h0 : partsE l = 0 := by
    unfold sizesE at h
    split at h
    · assumption
    · contradiction
  unfold partsE at h0
  split at h0
  · omega
  · exact scan_right h0



end Go.Proofs.Ytillooigiidpkaa
