/- A part at the beginning of bytes: no program in it. -/
import Derived.Test.YtkihanmodfnpcabCodeL
import Derived.Test.YtkihanmodfnpcabNumGetL
namespace Go.Proofs.Ytkihanmodfnpcab
set_option linter.unusedSimpArgs false
set_option linter.unusedVariables false

/-- the part at the beginning, and what is behind it -/
def readP (s : List UInt8) : Option (Pt × List UInt8) :=
  if getE s = 0 then
    if getN s % 4 = 2 then
      if getN s / 4 ≤ (s.drop (getK s)).length then some (⟨2, 0, ⟨((s.drop (getK s)).take (getN s / 4)).toArray⟩⟩, (s.drop (getK s)).drop (getN s / 4)) else none
    else some (⟨(getN s % 4 : Nat), (getN s / 4 : Nat), ⟨#[]⟩⟩, s.drop (getK s))
  else none
theorem parse_step (n : Nat) (s : List UInt8) : parseN (n + 1) s = (readP s).bind (fun x => (parseN n x.2).map (fun y => (x.1 :: y.1, y.2))) := by
  rw [parseN, readP]
  by_cases h : getE s = 0
  · obtain ⟨g1, g2⟩ := get_good h
    rw [if_pos h, if_pos h, g1, g2]
    simp only
    split
    · split
      · simp
      · simp
    · simp; rfl
  · rw [if_neg h, if_neg h]; rfl
theorem get_le {s : List UInt8} (h : getE s = 0) : 0 < getK s ∧ getK s ≤ s.length ∧ getN s ≤ 2147483647 := by
  obtain ⟨g1, g2⟩ := get_good h
  have h1 := run_le s
  unfold getE at h
  split at h
  · omega
  · split at h
    · omega
    · split at h
      · rename_i h2 h3 h4
        rw [g1, g2]
        exact ⟨by omega, by omega, h4.1⟩
      · omega
theorem readP_len {s : List UInt8} {p : Pt} {r : List UInt8} (h : readP s = some (p, r)) : r.length < s.length ∧ 0 ≤ p.n ∧ p.n ≤ 2147483647 ∧ p.t.size ≤ s.length ∧ 0 ≤ p.k ∧ p.k ≤ 3 := by
  unfold readP at h
  split at h
  · rename_i h0
    obtain ⟨h1, h2, h3⟩ := get_le h0
    split at h
    · split at h
      · rename_i h4
        simp only [Option.some.injEq, Prod.mk.injEq] at h
        obtain ⟨rfl, rfl⟩ := h
        rw [List.length_drop] at h4
        refine ⟨by simp only [List.length_drop]; omega, by simp, by simp, ?_, by simp, by simp⟩
        show Array.size _ ≤ _
        simp; omega
      · simp at h
    · simp only [Option.some.injEq, Prod.mk.injEq] at h
      obtain ⟨rfl, rfl⟩ := h
      refine ⟨by simp only [List.length_drop]; omega, by simp; omega, by simp; omega, ?_, by simp; omega, by simp; omega⟩
      show 0 ≤ _
      omega
  · simp at h
end Go.Proofs.Ytkihanmodfnpcab
