/- The law PartOnce, walked: it answers true. -/
import Derived.Test.YtjfeaedjifpahaaLoose
import Derived.Test.YtjfeaedjifpahaaSame
import Derived.Test.YtjfeaedjifpahaaPartChecksWalk
namespace Go.Proofs.Ytjfeaedjifpahaa
open Go.RowKit
set_option linter.unusedSimpArgs false
set_option linter.unusedVariables false

theorem step_loose {a : Int} {p : Pt} (h : stepE a p = 0) : looseP p = 0 := by
  unfold stepE at h
  split at h
  · rename_i h1
    simp only [Bool.and_eq_true] at h1
    unfold looseP
    rw [if_pos h1.1.1]
    exact h
  · omega
theorem scan_loose {a : Int} {l : List Pt} (h : scanE a l = 0) : looseS l = 0 := by
  induction l generalizing a with
  | nil => rfl
  | cons p r ih =>
    unfold scanE at h
    split at h
    · unfold looseS
      rw [if_pos (step_loose (by assumption))]
      exact ih h
    · contradiction
theorem sizes_scan {l : List Pt} (h : sizesE l = 0) : l.length ≤ 1600 ∧ scanE 0 l = 0 := by
  have h0 : partsE l = 0 := by
    unfold sizesE at h
    split at h
    · assumption
    · contradiction
  unfold partsE at h0
  split at h0
  · omega
  · exact ⟨by omega, h0⟩
theorem norm_delta {l : List Pt} (h : sizesE l = 0) : normE l = 0 ∧ normL l = l := by
  obtain ⟨h1, h2⟩ := sizes_scan h
  have h3 : looseE l = 0 := by unfold looseE; rw [if_neg (by omega)]; exact scan_loose h2
  have h4 := norm_self h2
  have h5 : normE l = 0 := by rw [normE, if_pos h3, h4, if_pos h]
  exact ⟨h5, by rw [normL, if_pos h5, h4]⟩
theorem norm_zero {l : List Pt} (h : normE l = 0) : looseE l = 0 ∧ sizesE (normL l) = 0 ∧ normL l = gatherL l := by
  have h1 : looseE l = 0 := by
    unfold normE at h
    split at h
    · assumption
    · contradiction
  have h2 : sizesE (gatherL l) = 0 := by
    rw [normE, if_pos h1] at h
    split at h
    · assumption
    · omega
  have h3 : normL l = gatherL l := by rw [normL, if_pos h]
  exact ⟨h1, by rw [h3]; exact h2, h3⟩
theorem norm_in {l : List Pt} (h : normE l = 0) : Small l ∧ sizesIn (normL l) = inI l := by
  obtain ⟨h1, h2, h3⟩ := norm_zero h
  obtain ⟨hs, hk⟩ := loose_small h1
  refine ⟨hs, ?_⟩
  rw [(sizes_zero h2).2.1, h3]
  exact gather_in (fun p hp => ⟨(hs.2 p hp).1, (hk p hp).2⟩)

def lit4 : List Pt := [⟨3, 1, ByteArray.empty⟩, ⟨2, 0, ⟨#[97]⟩⟩, ⟨1, 0, ByteArray.empty⟩, ⟨3, 2, ByteArray.empty⟩]
def lit2 : List Pt := [⟨2, 0, ⟨#[97]⟩⟩, ⟨3, 3, ByteArray.empty⟩]
theorem lit4_bound : Bound lit4 := by
  refine ⟨by decide, ?_⟩
  intro p hp
  simp only [lit4, List.mem_cons, List.mem_nil_iff, or_false] at hp
  rcases hp with rfl | rfl | rfl | rfl <;> decide
theorem lit2_bound : Bound lit2 := by
  refine ⟨by decide, ?_⟩
  intro p hp
  simp only [lit2, List.mem_cons, List.mem_nil_iff, or_false] at hp
  rcases hp with rfl | rfl <;> decide
theorem lit4_norm : normE lit4 = 0 ∧ normL lit4 = lit2 := by
  have h1 : looseE lit4 = 0 := by decide
  have h2 : gatherL lit4 = lit2 := rfl
  have h3 : sizesE lit2 = 0 := by decide
  have h4 : normE lit4 = 0 := by rw [normE, if_pos h1, h2, if_pos h3]
  exact ⟨h4, by rw [normL, if_pos h4, h2]⟩


end Go.Proofs.Ytjfeaedjifpahaa
