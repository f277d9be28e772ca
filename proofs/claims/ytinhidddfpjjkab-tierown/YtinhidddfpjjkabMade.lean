/- What the document's own 'made' answers: pure part, and the memory that it has. -/
import Derived.Test.YtinhidddfpjjkabRPairs
import Derived.Deep.OwnRows
namespace Go.Proofs.Ytinhidddfpjjkab
open Go.RowKit
set_option linter.unusedSimpArgs false
set_option linter.unusedVariables false

def sufQ (n : Nat) (text : List UInt8) : List (Nat × Nat) → Nat → Nat → List ByteArray
  | [], a, f => ⟨(text.drop a).toArray⟩ :: List.replicate (n - f) ByteArray.empty
  | (i, j) :: r, a, f => (⟨((text.drop a).take (j - a)).toArray⟩ :: List.replicate (i - f) ByteArray.empty) ++ sufQ n text r (j + 1) (i + 1)
def sufK (n : Nat) : List (Nat × Nat) → Nat → List Bool
  | [], f => List.replicate (n - f) false
  | (i, _) :: r, f => (List.replicate (i - f) false ++ [true]) ++ sufK n r (i + 1)
def KeptOK (n m : Nat) : List (Nat × Nat) → Nat → Nat → Prop
  | [], a, f => a ≤ m ∧ f ≤ n
  | (i, j) :: r, a, f => f ≤ i ∧ i < n ∧ a ≤ j ∧ j < m ∧ KeptOK n m r (j + 1) (i + 1)

theorem kept_pairs (w : List Tok) (i k a f : Nat) (ha : a ≤ k) (hf : f ≤ i) : KeptOK (i + inW w) (k + outW w) (pairsW w i k) a f := by
  induction w generalizing i k a f with
  | nil => simp [pairsW, KeptOK, inW, outW]; omega
  | cons t w ih =>
    cases t using Tok.by3 with
    | K =>
      simp only [pairsW, KeptOK, inW, outW]
      have := ih (i + 1) (k + 1) (k + 1) (i + 1) (Nat.le_refl _) (Nat.le_refl _)
      rw [show i + (inW w + 1) = i + 1 + inW w by omega, show k + (outW w + 1) = k + 1 + outW w by omega]
      exact ⟨hf, by omega, ha, by omega, this⟩
    | X =>
      have := ih (i + 1) k a f ha (by omega)
      simp only [pairsW, inW, outW]
      rw [show i + (inW w + 1) = i + 1 + inW w by omega]
      exact this
    | P c =>
      have := ih i (k + 1) a f (by omega) hf
      simp only [pairsW, inW, outW]
      rw [show k + (outW w + 1) = k + 1 + outW w by omega]
      exact this
theorem kept_swaps (w : List Tok) (i k a f : Nat) (ha : a ≤ i) (hf : f ≤ k) : KeptOK (k + outW w) (i + inW w) (swapP (pairsW w i k)) a f := by
  induction w generalizing i k a f with
  | nil => simp [pairsW, swapP, KeptOK, inW, outW]; omega
  | cons t w ih =>
    cases t using Tok.by3 with
    | K =>
      have := ih (i + 1) (k + 1) (i + 1) (k + 1) (Nat.le_refl _) (Nat.le_refl _)
      show KeptOK _ _ ((k, i) :: swapP (pairsW w (i + 1) (k + 1))) a f
      simp only [KeptOK, inW, outW]
      rw [show i + (inW w + 1) = i + 1 + inW w by omega, show k + (outW w + 1) = k + 1 + outW w by omega]
      exact ⟨hf, by omega, ha, by omega, this⟩
    | X =>
      have := ih (i + 1) k a f (by omega) hf
      simp only [pairsW, inW, outW]
      rw [show i + (inW w + 1) = i + 1 + inW w by omega]
      exact this
    | P c =>
      have := ih i (k + 1) a f ha (by omega)
      simp only [pairsW, inW, outW]
      rw [show k + (outW w + 1) = k + 1 + outW w by omega]
      exact this

theorem sufQ_len {n m : Nat} {text : List UInt8} {kept : List (Nat × Nat)} {a f : Nat} (h : KeptOK n m kept a f) : (sufQ n text kept a f).length = n - f + 1 ∧ (sufK n kept f).length = n - f ∧ f ≤ n := by
  induction kept generalizing a f with
  | nil => simp [sufQ, sufK]; exact h.2
  | cons p r ih =>
    obtain ⟨i, j⟩ := p
    obtain ⟨h1, h2, h3, h4, h5⟩ := h
    obtain ⟨e1, e2, e3⟩ := ih h5
    simp only [sufQ, sufK, List.length_append, List.length_cons, List.length_replicate, List.length_nil, e1, e2]
    omega
theorem sufQ_size {n : Nat} {text : List UInt8} {kept : List (Nat × Nat)} {a f : Nat} : ∀ q ∈ sufQ n text kept a f, q.size ≤ text.length := by
  induction kept generalizing a f with
  | nil =>
    intro q hq
    simp only [sufQ, List.mem_cons, List.mem_replicate] at hq
    rcases hq with rfl | ⟨_, rfl⟩
    · show (List.toArray _).size ≤ _; simp
    · simp
  | cons p r ih =>
    intro q hq
    simp only [sufQ, List.mem_append, List.mem_cons, List.mem_replicate] at hq
    rcases hq with (rfl | ⟨_, rfl⟩) | hq
    · show (List.toArray _).size ≤ _; simp; omega
    · simp
    · exact ih q hq
theorem sufQ_ne (n : Nat) (text : List UInt8) (kept : List (Nat × Nat)) (a f : Nat) : sufQ n text kept a f ≠ [] := by
  cases kept with
  | nil => simp [sufQ]
  | cons p r => simp [sufQ]
theorem pAll_gap (m : Nat) (q : ByteArray) (s : GSt) : pAll (q :: List.replicate m ByteArray.empty) (List.replicate m false ++ [true]) s = ⟨keepL (settleL s.sl (s.tx ++ q.data.toList) (s.ct + (m : Nat))) 1, [], 0⟩ := by
  cases m with
  | zero => simp [pAll, pStep]
  | succ m =>
    have h := pAll_append (q :: List.replicate m ByteArray.empty) [ByteArray.empty] (List.replicate (m + 1) false) [true] s (by simp)
    rw [pAll_cut] at h
    rw [show q :: List.replicate (m + 1) ByteArray.empty = q :: List.replicate m ByteArray.empty ++ [ByteArray.empty] by simp [rep_split], h]
    simp [pAll, pStep, empty_data]
def deltaS (s : GSt) (qs : List ByteArray) (ks : List Bool) : List Pt :=
  settleL (pAll qs ks s).sl ((pAll qs ks s).tx ++ (qs.getLast?.getD ByteArray.empty).data.toList) (pAll qs ks s).ct
theorem suf_delta {n : Nat} {text : List UInt8} {kept : List (Nat × Nat)} {a f : Nat} (h : KeptOK n text.length kept a f) (s : GSt) : deltaS s (sufQ n text kept a f) (sufK n kept f) = madeF n text kept a f s := by
  induction kept generalizing a f s with
  | nil =>
    simp only [sufQ, sufK, madeF]
    generalize n - f = m
    cases m with
    | zero => simp [deltaS, pAll]
    | succ m =>
      have e : (⟨(text.drop a).toArray⟩ : ByteArray) :: List.replicate (m + 1) ByteArray.empty = ((⟨(text.drop a).toArray⟩ : ByteArray) :: List.replicate m ByteArray.empty) ++ [ByteArray.empty] := by simp [rep_split]
      have hg : (((⟨(text.drop a).toArray⟩ : ByteArray) :: List.replicate m ByteArray.empty) ++ [ByteArray.empty]).getLast? = some ByteArray.empty := by rw [List.getLast?_append]; simp
      unfold deltaS
      rw [e, pAll_last _ _ _ _ (by simp), pAll_cut, hg]
      simp [empty_data]
  | cons p r ih =>
    obtain ⟨i, j⟩ := p
    obtain ⟨h1, h2, h3, h4, h5⟩ := h
    simp only [sufQ, sufK, madeF]
    rw [← ih h5]
    unfold deltaS
    rw [pAll_append _ _ _ _ _ (by simp), pAll_gap]
    have hl : ∀ A : List ByteArray, (A ++ sufQ n text r (j + 1) (i + 1)).getLast? = (sufQ n text r (j + 1) (i + 1)).getLast? := by
      intro A
      rw [List.getLast?_append]
      cases hq : (sufQ n text r (j + 1) (i + 1)).getLast? with
      | none => exact absurd (List.getLast?_eq_none_iff.1 hq) (sufQ_ne _ _ _ _ _)
      | some x => simp
    rw [hl]
theorem made_delta {n : Nat} {text : List UInt8} {kept : List (Nat × Nat)} (h : KeptOK n text.length kept 0 0) : deltaP (sufQ n text kept 0 0) (sufK n kept 0) = madeL n kept text := suf_delta h ⟨[], [], 0⟩

/-- the places that 'made' fills in, as they lie in memory -/
structure MdAt (w : World) (B X g1 g2 : Nat) (Q : List ByteArray) (K : List Bool) : Prop where
  bx : B ≤ X
  x : w.heap[X]? = some (.cells #[.slice (some ⟨g1, 0, none⟩) Q.length Q.length, .slice (some ⟨g2, 0, none⟩) K.length K.length] 80 (0, 0))
  q : w.ownsRow B 9 1 (.slice (some ⟨g1, 0, none⟩) Q.length Q.length) Q.length (Q.map Value.string)
  k : w.ownsRow B 4 1 (.slice (some ⟨g2, 0, none⟩) K.length K.length) K.length (K.map Value.bool)
section
variable {w : World} {B X g1 g2 : Nat} {Q : List ByteArray} {K : List Bool}
theorem MdAt.alloc (h : MdAt w B X g1 g2 Q K) (o : Obj) : MdAt (w.alloc o) B X g1 g2 Q K :=
  ⟨h.bx, (Deep.blk_alloc_lt _ _ _ (lt_of_heap h.x)).trans h.x, own_alloc h.q o, own_alloc h.k o⟩
theorem MdAt.drew (h : MdAt w B X g1 g2 Q K) : MdAt w.drew B X g1 g2 Q K := ⟨h.bx, h.x, h.q, h.k⟩
theorem MdAt.setQ (h : MdAt w B X g1 g2 Q K) (j : Nat) (s : ByteArray) : MdAt (w.setCell ⟨g1, j, none⟩ (.string s)) B X g1 g2 (Q.set j s) K := by
  have h1 : X ≠ g1 := fun e => own_ne h.q h.x (by decide) (by rw [e]; rfl)
  have h2 := (h.q.stored j (.string s)).1
  refine ⟨h.bx, ?_, ?_, ?_⟩
  · rw [Deep.blk_setCell_other _ _ _ _ h1, List.length_set]; exact h.x
  · rw [List.length_set, List.map_set]; exact h2
  · exact h.k.kept (grown_set w g1 j _) (own_ne2 h.k h.q (by decide))
theorem MdAt.setK (h : MdAt w B X g1 g2 Q K) (j : Nat) (b : Bool) : MdAt (w.setCell ⟨g2, j, none⟩ (.bool b)) B X g1 g2 Q (K.set j b) := by
  have h1 : X ≠ g2 := fun e => own_ne h.k h.x (by decide) (by rw [e]; rfl)
  have h2 := (h.k.stored j (.bool b)).1
  refine ⟨h.bx, ?_, ?_, ?_⟩
  · rw [Deep.blk_setCell_other _ _ _ _ h1, List.length_set]; exact h.x
  · exact h.q.kept (grown_set w g2 j _) (own_ne2 h.q h.k (by decide))
  · rw [List.length_set, List.map_set]; exact h2
theorem MdAt.bq (h : MdAt w B X g1 g2 Q K) : B ≤ g1 ∧ g1 < w.heap.size := h.q.lt g1 rfl
theorem MdAt.bk (h : MdAt w B X g1 g2 Q K) : B ≤ g2 ∧ g2 < w.heap.size := h.k.lt g2 rfl
end

/-- where the loop stands -/
structure MInv (n : Nat) (text : List UInt8) (kept : List (Nat × Nat)) (k a f : Nat) (Q : List ByteArray) (K : List Bool) : Prop where
  ok : KeptOK n text.length (kept.drop k) a f
  q : ∃ PQ, PQ.length = f ∧ Q = PQ ++ List.replicate (n + 1 - f) ByteArray.empty ∧ PQ ++ sufQ n text (kept.drop k) a f = sufQ n text kept 0 0
  k : ∃ PK, PK.length = f ∧ K = PK ++ List.replicate (n - f) false ∧ PK ++ sufK n (kept.drop k) f = sufK n kept 0
theorem MInv.start {n : Nat} {text : List UInt8} {kept : List (Nat × Nat)} (h : KeptOK n text.length kept 0 0) : MInv n text kept 0 0 0 (List.replicate (n + 1) ByteArray.empty) (List.replicate n false) :=
  ⟨h, ⟨[], rfl, by simp, by simp⟩, ⟨[], rfl, by simp, by simp⟩⟩
theorem MInv.step {n : Nat} {text : List UInt8} {kept : List (Nat × Nat)} {k a f i j : Nat} {Q : List ByteArray} {K : List Bool} (h : MInv n text kept k a f Q K) (hk : kept[k]? = some (i, j)) :
    f ≤ i ∧ i < n ∧ a ≤ j ∧ j < text.length ∧ Q.length = n + 1 ∧ K.length = n ∧ MInv n text kept (k + 1) (j + 1) (i + 1) (Q.set f ⟨((text.drop a).take (j - a)).toArray⟩) (K.set i true) := by
  have hd : kept.drop k = (i, j) :: kept.drop (k + 1) := by
    obtain ⟨l1, e⟩ := List.getElem?_eq_some_iff.1 hk
    rw [List.drop_eq_getElem_cons l1, e]
  obtain ⟨ok, ⟨PQ, q1, q2, q3⟩, ⟨PK, k1, k2, k3⟩⟩ := h
  rw [hd] at ok q3 k3
  obtain ⟨h1, h2, h3, h4, h5⟩ := ok
  refine ⟨h1, h2, h3, h4, by rw [q2]; simp; omega, by rw [k2]; simp; omega, h5, ⟨PQ ++ (⟨((text.drop a).take (j - a)).toArray⟩ :: List.replicate (i - f) ByteArray.empty), by simp; omega, ?_, ?_⟩, ⟨PK ++ (List.replicate (i - f) false ++ [true]), by simp; omega, ?_, ?_⟩⟩
  · rw [q2, List.set_append_right _ _ (by omega), q1, Nat.sub_self, show n + 1 - f = (i - f) + (n + 1 - (i + 1)) + 1 by omega, List.replicate_succ, List.set_cons_zero, ← List.replicate_append_replicate]
    simp
  · rw [← q3]; simp [sufQ]
  · rw [k2, List.set_append_right _ _ (by omega), k1, show n - f = (i - f) + ((n - (i + 1)) + 1) by omega, ← List.replicate_append_replicate, List.set_append_right _ _ (by simp), List.length_replicate, Nat.sub_self, List.replicate_succ, List.set_cons_zero]
    simp
  · rw [← k3]; simp [sufK]
theorem MInv.done {n : Nat} {text : List UInt8} {kept : List (Nat × Nat)} {a f : Nat} {Q : List ByteArray} {K : List Bool} (h : MInv n text kept kept.length a f Q K) :
    a ≤ text.length ∧ f ≤ n ∧ Q.length = n + 1 ∧ K.length = n ∧ Q[f]? = some ByteArray.empty ∧ Q.set f ⟨(text.drop a).toArray⟩ = sufQ n text kept 0 0 ∧ K = sufK n kept 0 := by
  obtain ⟨ok, ⟨PQ, q1, q2, q3⟩, ⟨PK, k1, k2, k3⟩⟩ := h
  rw [List.drop_length] at ok q3 k3
  obtain ⟨h1, h2⟩ := ok
  refine ⟨h1, h2, by rw [q2]; simp; omega, by rw [k2]; simp; omega, ?_, ?_, ?_⟩
  · rw [q2, List.getElem?_append_right (by omega), q1, Nat.sub_self, List.getElem?_replicate]; simp; omega
  · rw [q2, ← q3, List.set_append_right _ _ (by omega), q1, Nat.sub_self, show n + 1 - f = (n - f) + 1 by omega, List.replicate_succ, List.set_cons_zero]
    rfl
  · rw [k2, ← k3]; rfl

end Go.Proofs.Ytinhidddfpjjkab
