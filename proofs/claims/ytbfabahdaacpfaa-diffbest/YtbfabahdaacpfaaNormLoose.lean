/- What Norm makes of parts that are not yet in form: no program in it. -/
import Derived.Test.YtbfabahdaacpfaaCompL
namespace Go.Proofs.Ytbfabahdaacpfaa
set_option linter.unusedSimpArgs false
set_option linter.unusedVariables false

/-- parts that Norm takes -/
theorem norm_loose {J : List Pt} (hG : Good J) (hl : J.length ≤ 1600) (hb : ∀ p ∈ J, p.n ≤ 500 ∧ p.t.size ≤ 500) : Small J ∧ gatherL J = canonW (wordL J) ∧ normE J = (if sizesE (canonW (wordL J)) = 0 then 0 else 2) ∧ (normE J = 0 → normL J = canonW (wordL J)) ∧ (normE J ≠ 0 → normL J = []) := by
  have h0 : looseE J = 0 := by
    rw [looseE, if_neg (by omega)]
    have h : ∀ p ∈ J, looseP p = 0 := by
      intro p hp
      obtain ⟨g1, g2, g3, g4⟩ := hG p hp
      obtain ⟨b1, b2⟩ := hb p hp
      have hf : formedB p.k p.n p.t = true := by
        unfold formedB
        rcases g1 with k | k | k
        · rw [if_pos (Or.inl k)]; simp only [Bool.and_eq_true, decide_eq_true_eq]; exact ⟨g2, g4 (by omega)⟩
        · rw [if_neg (by omega)]; simp only [Bool.and_eq_true, decide_eq_true_eq]; exact ⟨k, g3 k⟩
        · rw [if_pos (Or.inr k)]; simp only [Bool.and_eq_true, decide_eq_true_eq]; exact ⟨g2, g4 (by omega)⟩
      rw [looseP, if_pos hf, if_neg]
      unfold widthI
      split <;> omega
    clear hl hb hG
    induction J with
    | nil => rfl
    | cons p r ih =>
      show (if looseP p = 0 then looseS r else looseP p) = 0
      rw [if_pos (h p (by simp))]
      exact ih (fun q hq => h q (List.mem_cons_of_mem _ hq))
  have hg := gather_canon hG.kinds
  have hn : normE J = (if sizesE (canonW (wordL J)) = 0 then 0 else 2) := by rw [normE, if_pos h0, hg]
  exact ⟨⟨hl, fun p hp => ⟨(hG p hp).2.1, (hb p hp).1, (hb p hp).2⟩⟩, hg, hn, fun h => by rw [normL, if_pos h, hg], fun h => by rw [normL, if_neg h]⟩
end Go.Proofs.Ytbfabahdaacpfaa
