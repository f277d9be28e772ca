/- The parts that go byte by byte from a text to another, and what they make and cost: no program in it. -/
import Derived.Test.YtcghojnmnmmpoaaLcs
import Derived.Test.YtcghojnmnmmpoaaMeetL
import Derived.Test.YtcghojnmnmmpoaaRevText
namespace Go.Proofs.Ytcghojnmnmmpoaa
set_option linter.unusedSimpArgs false
set_option linter.unusedVariables false

def stepsL : List UInt8 → List UInt8 → List Pt
  | [], t => [⟨3, 0, ⟨#[]⟩⟩, ⟨2, 0, ⟨t.toArray⟩⟩]
  | a :: s, [] => [⟨3, (s.length : Int) + 1, ⟨#[]⟩⟩, ⟨2, 0, ⟨#[]⟩⟩]
  | a :: s, b :: t => if a = b then ⟨1, 1, ⟨#[]⟩⟩ :: stepsL s t
    else if lcs (a :: s) t ≤ lcs s (b :: t) then ⟨3, 1, ⟨#[]⟩⟩ :: stepsL s (b :: t)
    else ⟨2, 0, ⟨#[b]⟩⟩ :: stepsL (a :: s) t
  termination_by s t => s.length + t.length

structure StepsOk (s t : List UInt8) (l : List Pt) : Prop where
  good : Good l
  len : l.length ≤ s.length + t.length + 2
  nums : ∀ p ∈ l, p.n ≤ (s.length : Int) ∧ p.t.size ≤ t.length
  ins : inW (wordL l) = s.length
  does : doW (wordL l) s = t
  cost : costW (wordL l) + 2 * lcs s t = s.length + t.length

theorem good_cons {p : Pt} {l : List Pt} (h : (p.k = 1 ∨ p.k = 2 ∨ p.k = 3) ∧ 0 ≤ p.n ∧ (p.k = 2 → p.n = 0) ∧ (p.k ≠ 2 → p.t.size = 0)) (hl : Good l) : Good (p :: l) := fun q hq => by
  rcases List.mem_cons.1 hq with rfl | hq
  · exact h
  · exact hl q hq
theorem good_nil : Good [] := fun p hp => by simp at hp
theorem word_keep1 (l : List Pt) : wordL (⟨1, 1, ⟨#[]⟩⟩ :: l) = .K :: wordL l := rfl
theorem word_cut1 (l : List Pt) : wordL (⟨3, 1, ⟨#[]⟩⟩ :: l) = .X :: wordL l := rfl
theorem word_put1 (b : UInt8) (l : List Pt) : wordL (⟨2, 0, ⟨#[b]⟩⟩ :: l) = .P b :: wordL l := rfl
theorem word_end (n : Nat) (t : List UInt8) : wordL [⟨3, (n : Int), ⟨#[]⟩⟩, ⟨2, 0, ⟨t.toArray⟩⟩] = List.replicate n .X ++ t.map .P := by
  simp [wordL, wordP]
theorem steps_end (s t : List UInt8) (h : lcs s t = 0) : StepsOk s t [⟨3, (s.length : Int), ⟨#[]⟩⟩, ⟨2, 0, ⟨t.toArray⟩⟩] where
  good := good_cons ⟨by simp, by simp, by simp, by simp [ByteArray.size]⟩ (good_cons ⟨by simp, by simp, by simp, by simp⟩ good_nil)
  len := by simp
  nums := fun p hp => by
    simp only [List.mem_cons, List.not_mem_nil, or_false] at hp
    rcases hp with rfl | rfl
    · exact ⟨Int.le_refl _, by simp [ByteArray.size]⟩
    · exact ⟨by simp, by simp [ByteArray.size]⟩
  ins := by
    rw [word_end, (inW_rep _ _).2]
    have := inW_map t []
    rw [List.append_nil] at this
    rw [this]; rfl
  does := by
    rw [word_end, doW_repX]
    have := doW_map t [] (s.drop s.length)
    simpa [doW] using this
  cost := by rw [word_end, costW_app, costW_X, costW_P, h]; omega

theorem steps_ok (s t : List UInt8) : StepsOk s t (stepsL s t) := by
  induction s, t using stepsL.induct with
  | case1 t =>
    have h := steps_end [] t (lcs_nilL t)
    rw [stepsL]
    exact h
  | case2 a s =>
    have h := steps_end (a :: s) [] (lcs_nil _)
    rw [stepsL]
    simpa using h
  | case3 s b t ih =>
    rw [stepsL, if_pos rfl]
    refine ⟨good_cons ⟨by simp, by simp, by simp, by simp [ByteArray.size]⟩ ih.good, ?_, ?_, ?_, ?_, ?_⟩
    · have := ih.len; simp; omega
    · intro p hp
      rcases List.mem_cons.1 hp with rfl | hp
      · exact ⟨by simp; omega, by simp [ByteArray.size]⟩
      · have := ih.nums p hp; simp; omega
    · rw [word_keep1]; have := ih.ins; simp [Tok.K, inW]; omega
    · rw [word_keep1]; have := ih.does; simp [Tok.K, doW, this]
    · rw [word_keep1, lcs_eq]; have := ih.cost; simp [Tok.K, costW]; omega
  | case4 a s b t hne hle ih =>
    rw [stepsL, if_neg hne, if_pos hle]
    refine ⟨good_cons ⟨by simp, by simp, by simp, by simp [ByteArray.size]⟩ ih.good, ?_, ?_, ?_, ?_, ?_⟩
    · have := ih.len; simp at this ⊢; omega
    · intro p hp
      rcases List.mem_cons.1 hp with rfl | hp
      · exact ⟨by simp; omega, by simp [ByteArray.size]⟩
      · have := ih.nums p hp; simp at this ⊢; omega
    · rw [word_cut1]; have := ih.ins; simp [Tok.X, inW]; omega
    · rw [word_cut1]; have := ih.does; simp [Tok.X, doW, this]
    · rw [word_cut1, lcs_ne hne]; have := ih.cost; simp [Tok.X, costW] at this ⊢; omega
  | case5 a s b t hne hle ih =>
    rw [stepsL, if_neg hne, if_neg hle]
    refine ⟨good_cons ⟨by simp, by simp, by simp, by simp⟩ ih.good, ?_, ?_, ?_, ?_, ?_⟩
    · have := ih.len; simp at this ⊢; omega
    · intro p hp
      rcases List.mem_cons.1 hp with rfl | hp
      · exact ⟨by simp; omega, by simp [ByteArray.size]⟩
      · have := ih.nums p hp; simp at this ⊢; omega
    · rw [word_put1]; have := ih.ins; simp [Tok.P, inW] at this ⊢; omega
    · rw [word_put1]; have := ih.does; simp [Tok.P, doW, this]
    · rw [word_put1, lcs_ne hne]; have := ih.cost; simp [Tok.P, costW] at this ⊢; omega

/-- what Of tells -/
def diffL (s t : List UInt8) : List Pt := canonW (wordL (stepsL s t))
theorem diff_facts {s t : List UInt8} (hs : s.length ≤ 500) (ht : t.length ≤ 500) :
    normE (stepsL s t) = 0 ∧ normL (stepsL s t) = diffL s t ∧ sizesE (diffL s t) = 0 ∧ inI (diffL s t) = s.length ∧ doL (diffL s t) s = t ∧ costI (diffL s t) + 2 * lcs s t = s.length + t.length := by
  have h := steps_ok s t
  obtain ⟨n1, n2, n3, n4, n5⟩ := norm_loose h.good (by have := h.len; omega) (fun p hp => by have := h.nums p hp; omega)
  have ho : outW (wordL (stepsL s t)) = t.length := by rw [← doW_len _ s h.ins.symm, h.does]
  obtain ⟨c1, c2, c3, c4⟩ := canon_facts (w := wordL (stepsL s t)) (by rw [h.ins]; exact hs) (by rw [ho]; exact ht)
  have e0 : normE (stepsL s t) = 0 := by rw [n3, if_pos c1]
  have hsem := canon_sem (wordL (stepsL s t))
  refine ⟨e0, n4 e0, c1, by rw [diffL, c3, h.ins], ?_, ?_⟩
  · rw [doL_word, diffL, hsem.dos s (by rw [hsem.ins]; exact h.ins.symm), h.does]
  · rw [diffL, cost_word c2, cost_sem hsem]; exact h.cost
end Go.Proofs.Ytcghojnmnmmpoaa
