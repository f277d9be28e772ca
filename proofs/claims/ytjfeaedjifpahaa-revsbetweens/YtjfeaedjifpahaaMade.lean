/- What the document's own 'made' answers: pure part, and the memory that it has. -/
import Derived.Test.YtjfeaedjifpahaaRPairs
import Derived.Deep.OwnRows
import Derived.Deep.DeepCutAuto
namespace Go.Proofs.Ytjfeaedjifpahaa
open Go.RowKit
set_option linter.unusedSimpArgs false
set_option linter.unusedVariables false

def sufQ (n : Nat) (text : List UInt8) : List (Nat × Nat) → Nat → Nat → List ByteArray
  | [], a, f => ⟨(text.drop a).toArray⟩ :: List.replicate (n - f) ByteArray.empty
  | (i, j) :: r, a, f => (⟨((text.drop a).take (j - a)).toArray⟩ :: List.replicate (i - f) ByteArray.empty) ++ sufQ n text r (j + 1) (i + 1)
def sufK (n : Nat) : List (Nat × Nat) → Nat → List Bool
  | [], f => List.replicate (n - f) false
  | (i, _) :: r, f => (List.replicate (i - f) false ++ [true]) ++ sufK n r (i + 1)
def KeptOK (n m : Nat) : List (Nat × Nat) → Nat → Nat → Prop
  | [], a, f => a ≤ m ∧ f ≤ n
  | (i, j) :: r, a, f => f ≤ i ∧ i < n ∧ a ≤ j ∧ j < m ∧ KeptOK n m r (j + 1) (i + 1)

theorem kept_pairs (w : List Tok) (i k a f : Nat) (ha : a ≤ k) (hf : f ≤ i) : KeptOK (i + inW w) (k + outW w) (pairsW w i k) a f := by
  induction w generalizing i k a f with
  | nil => simp [pairsW, KeptOK, inW, outW]; omega
  | cons t w ih =>
    cases t using Tok.by3 with
    | K =>
      simp only [pairsW, KeptOK, inW, outW]
      have := ih (i + 1) (k + 1) (k + 1) (i + 1) (Nat.le_refl _) (Nat.le_refl _)
      rw [show i + (inW w + 1) = i + 1 + inW w by omega, show k + (outW w + 1) = k + 1 + outW w by omega]
      exact ⟨hf, by omega, ha, by omega, this⟩
    | X =>
      have := ih (i + 1) k a f ha (by omega)
      simp only [pairsW, inW, outW]
      rw [show i + (inW w + 1) = i + 1 + inW w by omega]
      exact this
    | P c =>
      have := ih i (k + 1) a f (by omega) hf
      simp only [pairsW, inW, outW]
      rw [show k + (outW w + 1) = k + 1 + outW w by omega]
      exact this
theorem kept_swaps (w : List Tok) (i k a f : Nat) (ha : a ≤ i) (hf : f ≤ k) : KeptOK (k + outW w) (i + inW w) (swapP (pairsW w i k)) a f := by
  induction w generalizing i k a f with
  | nil => simp [pairsW, swapP, KeptOK, inW, outW]; omega
  | cons t w ih =>
    cases t using Tok.by3 with
    | K =>
      have := ih (i + 1) (k + 1) (i + 1) (k + 1) (Nat.le_refl _) (Nat.le_refl _)
      show KeptOK _ _ ((k, i) :: swapP (pairsW w (i + 1) (k + 1))) a f
      simp only [KeptOK, inW, outW]
      rw [show i + (inW w + 1) = i + 1 + inW w by omega, show k + (outW w + 1) = k + 1 + outW w by omega]
      exact ⟨hf, by omega, ha, by omega, this⟩
    | X =>
      have := ih (i + 1) k a f (by omega) hf
      simp only [pairsW, inW, outW]
      rw [show i + (inW w + 1) = i + 1 + inW w by omega]
      exact this
    | P c =>
      have := ih i (k + 1) a f ha (by omega)
      simp only [pairsW, inW, outW]
      rw [show k + (outW w + 1) = k + 1 + outW w by omega]
      exact this

theorem sufQ_len {n m : Nat} {text : List UInt8} {kept : List (Nat × Nat)} {a f : Nat} (h : KeptOK n m kept a f) : (sufQ n text kept a f).length = n - f + 1 ∧ (sufK n kept f).length = n - f ∧ f ≤ n := by
  induction kept generalizing a f with
  | nil => simp [sufQ, sufK]; exact h.2
  | cons p r ih =>
    obtain ⟨i, j⟩ := p
    obtain ⟨h1, h2, h3, h4, h5⟩ := h
    obtain ⟨e1, e2, e3⟩ := ih h5
    simp only [sufQ, sufK, List.length_append, List.length_cons, List.length_replicate, List.length_nil, e1, e2]
    omega
theorem sufQ_size {n : Nat} {text : List UInt8} {kept : List (Nat × Nat)} {a f : Nat} : ∀ q ∈ sufQ n text kept a f, q.size ≤ text.length := by
  induction kept generalizing a f with
  | nil =>
    intro q hq
    simp only [sufQ, List.mem_cons, List.mem_replicate] at hq
    rcases hq with rfl | ⟨_, rfl⟩
    · show (List.toArray _).size ≤ _; simp
    · simp
  | cons p r ih =>
    intro q hq
    simp only [sufQ, List.mem_append, List.mem_cons, List.mem_replicate] at hq
    rcases hq with (rfl | ⟨_, rfl⟩) | hq
    · show (List.toArray _).size ≤ _; simp; omega
    · simp
    · exact ih q hq
theorem sufQ_ne (n : Nat) (text : List UInt8) (kept : List (Nat × Nat)) (a f : Nat) : sufQ n text kept a f ≠ [] := by
  cases kept with
  | nil => simp [sufQ]
  | cons p r => simp [sufQ]
theorem pAll_gap (m : Nat) (q : ByteArray) (s : GSt) : pAll (q :: List.replicate m ByteArray.empty) (List.replicate m false ++ [true]) s = ⟨keepL (settleL s.sl (s.tx ++ q.data.toList) (s.ct + (m : Nat))) 1, [], 0⟩ := by
  cases m with
  | zero => simp [pAll, pStep]
  | succ m =>
    have h := pAll_append (q :: List.replicate m ByteArray.empty) [ByteArray.empty] (List.replicate (m + 1) false) [true] s (by simp)
    rw [pAll_cut] at h
    rw [show q :: List.replicate (m + 1) ByteArray.empty = q :: List.replicate m ByteArray.empty ++ [ByteArray.empty] by simp [rep_split], h]
    simp [pAll, pStep, empty_data]
def deltaS (s : GSt) (qs : List ByteArray) (ks : List Bool) : List Pt :=
  settleL (pAll qs ks s).sl ((pAll qs ks s).tx ++ (qs.getLast?.getD ByteArray.empty).data.toList) (pAll qs ks s).ct
theorem suf_delta {n : Nat} {text : List UInt8} {kept : List (Nat × Nat)} {a f : Nat} (h : KeptOK n text.length kept a f) (s : GSt) : deltaS s (sufQ n text kept a f) (sufK n kept f) = madeF n text kept a f s := by
  induction kept generalizing a f s with
  | nil =>
    simp only [sufQ, sufK, madeF]
    generalize n - f = m
    cases m with
    | zero => simp [deltaS, pAll]
    | succ m =>
      have e : (⟨(text.drop a).toArray⟩ : ByteArray) :: List.replicate (m + 1) ByteArray.empty = ((⟨(text.drop a).toArray⟩ : ByteArray) :: List.replicate m ByteArray.empty) ++ [ByteArray.empty] := by simp [rep_split]
      have hg : (((⟨(text.drop a).toArray⟩ : ByteArray) :: List.replicate m ByteArray.empty) ++ [ByteArray.empty]).getLast? = some ByteArray.empty := by rw [List.getLast?_append]; simp
      unfold deltaS
      rw [e, pAll_last _ _ _ _ (by simp), pAll_cut, hg]
      simp [empty_data]
  | cons p r ih =>
    obtain ⟨i, j⟩ := p
    obtain ⟨h1, h2, h3, h4, h5⟩ := h
    simp only [sufQ, sufK, madeF]
    rw [← ih h5]
    unfold deltaS
    rw [pAll_append _ _ _ _ _ (by simp), pAll_gap]
    have hl : ∀ A : List ByteArray, (A ++ sufQ n text r (j + 1) (i + 1)).getLast? = (sufQ n text r (j + 1) (i + 1)).getLast? := by
      intro A
      rw [List.getLast?_append]
      cases hq : (sufQ n text r (j + 1) (i + 1)).getLast? with
      | none => exact absurd (List.getLast?_eq_none_iff.1 hq) (sufQ_ne _ _ _ _ _)
      | some x => simp
    rw [hl]
theorem made_delta {n : Nat} {text : List UInt8} {kept : List (Nat × Nat)} (h : KeptOK n text.length kept 0 0) : deltaP (sufQ n text kept 0 0) (sufK n kept 0) = madeL n kept text := suf_delta h ⟨[], [], 0⟩

/-- the places that 'made' fills in, as they lie in memory -/
structure MdAt (w : World) (B X g1 g2 : Nat) (Q : List ByteArray) (K : List Bool) : Prop where
  bx : B ≤ X
  x : w.heap[X]? = some (.cells #[.slice (some ⟨g1, 0, none⟩) Q.length Q.length, .slice (some ⟨g2, 0, none⟩) K.length K.length] 64 (0, 0))
  q : w.ownsRow B 9 1 (.slice (some ⟨g1, 0, none⟩) Q.length Q.length) Q.length (Q.map Value.string)
  k : w.ownsRow B 4 1 (.slice (some ⟨g2, 0, none⟩) K.length K.length) K.length (K.map Value.bool)
section
variable {w : World} {B X g1 g2 : Nat} {Q : List ByteArray} {K : List Bool}
theorem MdAt.alloc (h : MdAt w B X g1 g2 Q K) (o : Obj) : MdAt (w.alloc o) B X g1 g2 Q K :=
  ⟨h.bx, (Deep.blk_alloc_lt _ _ _ (lt_of_heap h.x)).trans h.x, own_alloc h.q o, own_alloc h.k o⟩
theorem MdAt.drew (h : MdAt w B X g1 g2 Q K) : MdAt w.drew B X g1 g2 Q K := ⟨h.bx, h.x, h.q, h.k⟩
theorem MdAt.setQ (h : MdAt w B X g1 g2 Q K) (j : Nat) (s : ByteArray) : MdAt (w.setCell ⟨g1, j, none⟩ (.string s)) B X g1 g2 (Q.set j s) K := by
  have h1 : X ≠ g1 := fun e => own_ne h.q h.x (by decide) (by rw [e]; rfl)
  have h2 := (h.q.stored j (.string s)).1
  refine ⟨h.bx, ?_, ?_, ?_⟩
  · rw [Deep.blk_setCell_other _ _ _ _ h1, List.length_set]; exact h.x
  · rw [List.length_set, List.map_set]; exact h2
  · exact h.k.kept (grown_set w g1 j _) (own_ne2 h.k h.q (by decide))
theorem MdAt.setK (h : MdAt w B X g1 g2 Q K) (j : Nat) (b : Bool) : MdAt (w.setCell ⟨g2, j, none⟩ (.bool b)) B X g1 g2 Q (K.set j b) := by
  have h1 : X ≠ g2 := fun e => own_ne h.k h.x (by decide) (by rw [e]; rfl)
  have h2 := (h.k.stored j (.bool b)).1
  refine ⟨h.bx, ?_, ?_, ?_⟩
  · rw [Deep.blk_setCell_other _ _ _ _ h1, List.length_set]; exact h.x
  · exact h.q.kept (grown_set w g2 j _) (own_ne2 h.q h.k (by decide))
  · rw [List.length_set, List.map_set]; exact h2
theorem MdAt.bq (h : MdAt w B X g1 g2 Q K) : B ≤ g1 ∧ g1 < w.heap.size := h.q.lt g1 rfl
theorem MdAt.bk (h : MdAt w B X g1 g2 Q K) : B ≤ g2 ∧ g2 < w.heap.size := h.k.lt g2 rfl
end

/-- where the loop stands -/
structure MInv (n : Nat) (text : List UInt8) (kept : List (Nat × Nat)) (k a f : Nat) (Q : List ByteArray) (K : List Bool) : Prop where
  ok : KeptOK n text.length (kept.drop k) a f
  q : ∃ PQ, PQ.length = f ∧ Q = PQ ++ List.replicate (n + 1 - f) ByteArray.empty ∧ PQ ++ sufQ n text (kept.drop k) a f = sufQ n text kept 0 0
  k : ∃ PK, PK.length = f ∧ K = PK ++ List.replicate (n - f) false ∧ PK ++ sufK n (kept.drop k) f = sufK n kept 0
theorem MInv.start {n : Nat} {text : List UInt8} {kept : List (Nat × Nat)} (h : KeptOK n text.length kept 0 0) : MInv n text kept 0 0 0 (List.replicate (n + 1) ByteArray.empty) (List.replicate n false) :=
  ⟨h, ⟨[], rfl, by simp, by simp⟩, ⟨[], rfl, by simp, by simp⟩⟩
theorem MInv.step {n : Nat} {text : List UInt8} {kept : List (Nat × Nat)} {k a f i j : Nat} {Q : List ByteArray} {K : List Bool} (h : MInv n text kept k a f Q K) (hk : kept[k]? = some (i, j)) :
    f ≤ i ∧ i < n ∧ a ≤ j ∧ j < text.length ∧ Q.length = n + 1 ∧ K.length = n ∧ MInv n text kept (k + 1) (j + 1) (i + 1) (Q.set f ⟨((text.drop a).take (j - a)).toArray⟩) (K.set i true) := by
  have hd : kept.drop k = (i, j) :: kept.drop (k + 1) := by
    obtain ⟨l1, e⟩ := List.getElem?_eq_some_iff.1 hk
    rw [List.drop_eq_getElem_cons l1, e]
  obtain ⟨ok, ⟨PQ, q1, q2, q3⟩, ⟨PK, k1, k2, k3⟩⟩ := h
  rw [hd] at ok q3 k3
  obtain ⟨h1, h2, h3, h4, h5⟩ := ok
  refine ⟨h1, h2, h3, h4, by rw [q2]; simp; omega, by rw [k2]; simp; omega, h5, ⟨PQ ++ (⟨((text.drop a).take (j - a)).toArray⟩ :: List.replicate (i - f) ByteArray.empty), by simp; omega, ?_, ?_⟩, ⟨PK ++ (List.replicate (i - f) false ++ [true]), by simp; omega, ?_, ?_⟩⟩
  · rw [q2, List.set_append_right _ _ (by omega), q1, Nat.sub_self, show n + 1 - f = (i - f) + (n + 1 - (i + 1)) + 1 by omega, List.replicate_succ, List.set_cons_zero, ← List.replicate_append_replicate]
    simp
  · rw [← q3]; simp [sufQ]
  · rw [k2, List.set_append_right _ _ (by omega), k1, show n - f = (i - f) + ((n - (i + 1)) + 1) by omega, ← List.replicate_append_replicate, List.set_append_right _ _ (by simp), List.length_replicate, Nat.sub_self, List.replicate_succ, List.set_cons_zero]
    simp
  · rw [← k3]; simp [sufK]
theorem MInv.done {n : Nat} {text : List UInt8} {kept : List (Nat × Nat)} {a f : Nat} {Q : List ByteArray} {K : List Bool} (h : MInv n text kept kept.length a f Q K) :
    a ≤ text.length ∧ f ≤ n ∧ Q.length = n + 1 ∧ K.length = n ∧ Q[f]? = some ByteArray.empty ∧ Q.set f ⟨(text.drop a).toArray⟩ = sufQ n text kept 0 0 ∧ K = sufK n kept 0 := by
  obtain ⟨ok, ⟨PQ, q1, q2, q3⟩, ⟨PK, k1, k2, k3⟩⟩ := h
  rw [List.drop_length] at ok q3 k3
  obtain ⟨h1, h2⟩ := ok
  refine ⟨h1, h2, by rw [q2]; simp; omega, by rw [k2]; simp; omega, ?_, ?_, ?_⟩
  · rw [q2, List.getElem?_append_right (by omega), q1, Nat.sub_self, List.getElem?_replicate]; simp; omega
  · rw [q2, ← q3, List.set_append_right _ _ (by omega), q1, Nat.sub_self, show n + 1 - f = (n - f) + 1 by omega, List.replicate_succ, List.set_cons_zero]
    rfl
  · rw [k2, ← k3]; rfl

end Go.Proofs.Ytjfeaedjifpahaa

/- The walk of the document's own 'made'. -/
namespace Go.Proofs.Ytjfeaedjifpahaa
open Go.RowKit
set_option linter.unusedSimpArgs false
set_option linter.unusedVariables false

theorem ext_eq (s : ByteArray) (a b : Nat) : s.extract a b = ⟨((s.data.toList.drop a).take (b - a)).toArray⟩ := by
  rw [← Lib.extract_data s a b]
theorem ext_to (s : ByteArray) (a : Nat) : s.extract a s.size = ⟨(s.data.toList.drop a).toArray⟩ := by
  have h : s.data.toList.length = s.size := Array.length_toList
  rw [ext_eq, List.take_of_length_le (by rw [List.length_drop, h]; omega)]
theorem three (w : World) (A B C : Obj) : (((w.alloc A).alloc B).alloc C).heap[w.heap.size]? = some A ∧ (((w.alloc A).alloc B).alloc C).heap[w.heap.size + 1]? = some B ∧ (((w.alloc A).alloc B).alloc C).heap[w.heap.size + 1 + 1]? = some C ∧ Below w.heap.size w (((w.alloc A).alloc B).alloc C) := by
  have e1 : (w.alloc A).heap.size = w.heap.size + 1 := Deep.nblk_alloc _ _
  have e2 : ((w.alloc A).alloc B).heap.size = w.heap.size + 1 + 1 := by rw [Deep.nblk_alloc, e1]
  refine ⟨?_, ?_, ?_, (((Below.refl _ _).alloc (Nat.le_refl _) _).alloc (by rw [e1]; omega) _).alloc (by rw [e2]; omega) _⟩
  · rw [Deep.blk_alloc_lt _ _ _ (by omega), Deep.blk_alloc_lt _ _ _ (by omega)]; exact Deep.blk_alloc_new _ _
  · rw [Deep.blk_alloc_lt _ _ _ (by omega), ← e1]; exact Deep.blk_alloc_new _ _
  · rw [← e2]; exact Deep.blk_alloc_new _ _
theorem md_start {W : World} {B X g1 g2 n : Nat} (bx : B ≤ X) (b1 : B ≤ g1) (b2 : B ≤ g2)
    (hx : W.heap[X]? = some (.cells #[.slice (some ⟨g1, 0, none⟩) (n + 1) (n + 1), .slice (some ⟨g2, 0, none⟩) n n] 64 (0, 0)))
    (hq : W.heap[g1]? = some (.cells (madeCells #[.string ⟨#[]⟩] (n + 1)) 9 (0, 0))) (hk : W.heap[g2]? = some (.cells (madeCells #[.bool false] n) 4 (0, 0))) (hn : n ≤ 500) :
    MdAt W B X g1 g2 (List.replicate (n + 1) ByteArray.empty) (List.replicate n false) := by
  have s1 : (madeCells #[Value.string ⟨#[]⟩] (n + 1)).size = n + 1 := size_madeCells _ _
  have s2 : (madeCells #[Value.bool false] n).size = n := size_madeCells _ _
  refine ⟨bx, by simpa using hx, ?_, ?_⟩
  · rw [List.length_replicate]
    refine ⟨by simp, .inr ⟨g1, n + 1, _, rfl, b1, hq, Nat.le_refl _, by unfold maxLen; omega, by rw [s1]; omega, ?_⟩⟩
    rw [toList_madeCells_one, List.take_of_length_le (by simp), List.map_replicate]
    rfl
  · rw [List.length_replicate]
    refine ⟨by simp, .inr ⟨g2, n, _, rfl, b2, hk, Nat.le_refl _, by unfold maxLen; omega, by rw [s2]; omega, ?_⟩⟩
    rw [toList_madeCells_one, List.take_of_length_le (by simp), List.map_replicate]

set_option maxRecDepth 100000 in
set_option maxHeartbeats 4000000 in
theorem made_any (B0 : Nat) (n : Nat) (kept : List (Nat × Nat)) (kv : Value) (text : ByteArray) (w : World) (hk : w.ownsRow B0 67 2 kv kept.length (prCells kept)) (hn : n ≤ 500) (ht : text.size ≤ 1000) (hkl : kept.length ≤ 500) (hok : KeptOK n text.data.toList.length kept 0 0) :
    Calls Try.prog 53 #[.int .i64 n, kv, .string text] w fun e w' => ∃ ov, e = .returned ov ∧ w'.ownsRow w.heap.size 53 3 ov (madeL n kept text.data.toList).length (allCells (madeL n kept text.data.toList)) ∧ Below w.heap.size w w' := by
  have hmk1 : ∀ w : World, (Instr.makeSlice 28 (.int .i64 ((n : Int) + 1)) (.int .i64 ((n : Int) + 1))).run Try.prog w = .ok (.slice (some ⟨w.heap.size, 0, none⟩) (n + 1) (n + 1)) (w.alloc (.cells (madeCells #[.string ⟨#[]⟩] (n + 1)) 9)) := fun w => by
    have h := run_make_row' (P := Try.prog) 28 9 (.string ⟨#[]⟩) 16 Try.underlying28 infoString rfl .i64 .i64 (n + 1) (by omega) (by omega) w
    rw [show ((n + 1 : Nat) : Int) = (n : Int) + 1 by omega] at h
    exact h
  have hmk2 := fun (w : World) => run_make_row' (P := Try.prog) 62 4 (.bool false) 1 Try.underlying62 infoBool rfl .i64 .i64 n (by omega) (by omega) w
  obtain ⟨ko, kc, rfl⟩ := slice_form' hk
  have HK : Hid (w.ownsRow B0 67 2 (.slice ko kept.length kc) kept.length (prCells kept)) := hk
  have HOK : Hid (KeptOK n text.data.toList.length kept 0 0) := hok
  clear hk hok
  go_enter Try.func53, Try.ntmps53
  go_upto_region 1 with fail
  go_cut [7] (fun x wc => ∃ X g1 g2 : Nat, x = .pointer (some ⟨X, 0, none⟩) ∧ MdAt wc w.heap.size X g1 g2 (List.replicate (n + 1) ByteArray.empty) (List.replicate n false) ∧ Below w.heap.size w wc)
  case first =>
    go_region
    all_goals go_wp2_with fail
    all_goals go_meet
    case rel => (have t := three w (.cells (madeCells #[.string ⟨#[]⟩] (n + 1)) 9) (.cells (madeCells #[.bool false] n) 4) (.cells #[.slice (some ⟨w.heap.size, 0, none⟩) (n + 1) (n + 1), .slice (some ⟨w.heap.size + 1, 0, none⟩) n n] 64); exact ⟨w.heap.size + 1 + 1, w.heap.size, w.heap.size + 1, rfl, (md_start (by omega) (by omega) (by omega) t.2.2.1 t.1 t.2.1 hn).drew, t.2.2.2.drew⟩)
    case rel => (have t := three w (.cells (madeCells #[.string ⟨#[]⟩] (n + 1)) 9) (.cells #[.slice (some ⟨w.heap.size, 0, none⟩) (n + 1) (n + 1), .slice (some ⟨w.heap.size + 1 + 1, 0, none⟩) n n] 64) (.cells (madeCells #[.bool false] n) 4); exact ⟨w.heap.size + 1, w.heap.size, w.heap.size + 1 + 1, rfl, (md_start (by omega) (by omega) (by omega) t.2.1 t.1 t.2.2.1 hn).drew, t.2.2.2.drew⟩)
    case rel => (have t := three w (.cells (madeCells #[.bool false] n) 4) (.cells (madeCells #[.string ⟨#[]⟩] (n + 1)) 9) (.cells #[.slice (some ⟨w.heap.size + 1, 0, none⟩) (n + 1) (n + 1), .slice (some ⟨w.heap.size, 0, none⟩) n n] 64); exact ⟨w.heap.size + 1 + 1, w.heap.size + 1, w.heap.size, rfl, (md_start (by omega) (by omega) (by omega) t.2.2.1 t.2.1 t.1 hn).drew, t.2.2.2.drew⟩)
    case rel => (have t := three w (.cells (madeCells #[.bool false] n) 4) (.cells #[.slice (some ⟨w.heap.size + 1 + 1, 0, none⟩) (n + 1) (n + 1), .slice (some ⟨w.heap.size, 0, none⟩) n n] 64) (.cells (madeCells #[.string ⟨#[]⟩] (n + 1)) 9); exact ⟨w.heap.size + 1, w.heap.size + 1 + 1, w.heap.size, rfl, (md_start (by omega) (by omega) (by omega) t.2.1 t.2.2.1 t.1 hn).drew, t.2.2.2.drew⟩)
    case rel => (have t := three w (.cells #[.slice (some ⟨w.heap.size + 1, 0, none⟩) (n + 1) (n + 1), .slice (some ⟨w.heap.size + 1 + 1, 0, none⟩) n n] 64) (.cells (madeCells #[.string ⟨#[]⟩] (n + 1)) 9) (.cells (madeCells #[.bool false] n) 4); exact ⟨w.heap.size, w.heap.size + 1, w.heap.size + 1 + 1, rfl, (md_start (by omega) (by omega) (by omega) t.1 t.2.1 t.2.2.1 hn).drew, t.2.2.2.drew⟩)
    case rel => (have t := three w (.cells #[.slice (some ⟨w.heap.size + 1 + 1, 0, none⟩) (n + 1) (n + 1), .slice (some ⟨w.heap.size + 1, 0, none⟩) n n] 64) (.cells (madeCells #[.bool false] n) 4) (.cells (madeCells #[.string ⟨#[]⟩] (n + 1)) 9); exact ⟨w.heap.size, w.heap.size + 1 + 1, w.heap.size + 1, rfl, (md_start (by omega) (by omega) (by omega) t.1 t.2.2.1 t.2.1 hn).drew, t.2.2.2.drew⟩)
  case rest =>
    obtain ⟨X, g1, g2, rfl, hM, hb⟩ := hcut
    have HM0 : Hid (MdAt wc w.heap.size X g1 g2 (List.replicate (n + 1) ByteArray.empty) (List.replicate n false)) := hM
    have HB0 : Hid (Below w.heap.size w wc) := hb
    have HI0 : Hid (MInv n text.data.toList kept 0 0 0 (List.replicate (n + 1) ByteArray.empty) (List.replicate n false)) := MInv.start HOK.out
    clear hM hb hmk1 hmk2
    go_wp2_with fail
    go_loopw [8, 9, 20] (fun av fv i wr => ∃ (k a f : Nat) (Q : List ByteArray) (K : List Bool), k ≤ kept.length ∧ i = .int .i64 k ∧ av = .int .i64 a ∧ fv = .int .i64 f ∧ MdAt wr w.heap.size X g1 g2 Q K ∧ MInv n text.data.toList kept k a f Q K ∧ Below w.heap.size w wr) (fun _ _ i _ => kept.length - (intOf i).toNat)
    case atStart => exact ⟨0, 0, 0, _, _, Nat.zero_le _, rfl, rfl, rfl, HM0.out, HI0.out, HB0.out⟩
    case round =>
      obtain ⟨k, a, f, Q, K, hk, rfl, rfl, rfl, hM, hI, hb⟩ := hrel
      have hz := hb.size
      have htl : text.data.toList.length = text.size := Array.length_toList
      have x0 : wr.cell? ⟨X, 0, none⟩ = some (.slice (some ⟨g1, 0, none⟩) Q.length Q.length) := by rw [cell_of_row _ _ _ _ _ _ hM.x]; rfl
      have x1 : wr.cell? ⟨X, 1, none⟩ = some (.slice (some ⟨g2, 0, none⟩) K.length K.length) := by rw [cell_of_row _ _ _ _ _ _ hM.x]; rfl
      have hX : X < wr.heap.size := lt_of_heap hM.x
      have hg1 : g1 < wr.heap.size := hM.bq.2
      have hg2 : g2 < wr.heap.size := hM.bk.2
      have hB1 := hM.bq.1
      have hB2 := hM.bk.1
      have hX1 : ¬ X = g1 := fun e => own_ne hM.q hM.x (by decide) (by rw [e]; rfl)
      have hX2 : ¬ X = g2 := fun e => own_ne hM.k hM.x (by decide) (by rw [e]; rfl)
      have h12 : ¬ g2 = g1 := by
        have h := own_ne2 hM.k hM.q (by decide)
        rcases h with h | h
        · cases h
        · exact fun e => h (by rw [e]; rfl)
      by_cases hlt : k < kept.length
      · obtain ⟨p, hpk⟩ : ∃ p, kept[k]? = some p := ⟨kept[k], List.getElem?_eq_getElem hlt⟩
        obtain ⟨i, j⟩ := p
        obtain ⟨s1, s2, s3, s4, s5, s6, s7⟩ := hI.step hpk
        obtain ⟨gk, ck, hgk, y0, y1, hgkw⟩ := pr_at HK.out hpk
        simp only [Value.slice.injEq, true_and] at hgk
        obtain ⟨rfl, rfl⟩ := hgk
        have z0 : wr.cell? ⟨gk, k * 2, none⟩ = some (.int .i64 (i : Int)) := (hb.cell (p := ⟨gk, k * 2, none⟩) hgkw).trans y0
        have z1 : wr.cell? ⟨gk, k * 2 + 1, none⟩ = some (.int .i64 (j : Int)) := (hb.cell (p := ⟨gk, k * 2 + 1, none⟩) hgkw).trans y1
        have hgkr : gk < wr.heap.size := by omega
        obtain ⟨q0, hq0⟩ : ∃ q0, Q[f]? = some q0 := ⟨Q[f]'(by omega), List.getElem?_eq_getElem _⟩
        obtain ⟨b0, hb0⟩ : ∃ b0, K[i]? = some b0 := ⟨K[i]'(by omega), List.getElem?_eq_getElem _⟩
        have v0 : wr.cell? ⟨g1, f, none⟩ = some (.string q0) := by rw [hM.q.cellAt f (by omega)]; simp [hq0]
        have v1 : wr.cell? ⟨g2, i, none⟩ = some (.bool b0) := by rw [hM.k.cellAt i (by omega)]; simp [hb0]
        have w0 : ∀ o, wr.frozen? ⟨g1, o, none⟩ = false := fun o => hM.q.frozenAt o
        have w1 : ∀ o, wr.frozen? ⟨g2, o, none⟩ = false := fun o => hM.k.frozenAt o
        have HI2 : Hid (MInv n text.data.toList kept (k + 1) (j + 1) (i + 1) (Q.set f ⟨((text.data.toList.drop a).take (j - a)).toArray⟩) (K.set i true)) := s7
        have HM : Hid (MdAt wr w.heap.size X g1 g2 Q K) := hM
        have HB : Hid (Below w.heap.size w wr) := hb
        rw [htl] at s4
        clear hM hI hb y0 y1 s7 hpk hq0 hb0
        go_wp2_with fail
        go_region
        go_wp2_with fail
        go_region
        go_wp2_with fail
        go_roundw
        case rel =>
          refine ⟨k + 1, j + 1, i + 1, _, _, by omega, by go_num, by go_num, by go_num, ?_, HI2.out, ?_⟩
          · rw [← ext_eq]
            exact (((HM.out.setQ f (text.extract a j)).setK i true).alloc _).drew.drew
          · exact ((((HB.out.setCell (p := ⟨g1, f, none⟩) hB1 _).setCell (p := ⟨g2, i, none⟩) hB2 _).alloc (by simpa using hz) _).drew).drew
        case measure => simp [intOf]; omega
      · have hkk : k = kept.length := by omega
        subst hkk
        obtain ⟨d1, d2, d3, d4, d5, d6, d7⟩ := hI.done
        rw [htl] at d1
        have v0 : wr.cell? ⟨g1, f, none⟩ = some (.string ByteArray.empty) := by rw [hM.q.cellAt f (by omega)]; simp [d5]
        have w0 : ∀ o, wr.frozen? ⟨g1, o, none⟩ = false := fun o => hM.q.frozenAt o
        have HM2 : Hid (MdAt ((wr.setCell ⟨g1, f, none⟩ (.string (text.extract a text.size))).drew) w.heap.size X g1 g2 (sufQ n text.data.toList kept 0 0) (sufK n kept 0)) := by
          have h := (hM.setQ f (text.extract a text.size)).drew
          rw [ext_to] at h ⊢
          rw [d6, d7] at h
          exact h
        have HQL : Hid (Q.length = (sufQ n text.data.toList kept 0 0).length ∧ K.length = (sufK n kept 0).length) := ⟨by rw [← d6, List.length_set], by rw [d7]⟩
        have HB : Hid (Below w.heap.size w ((wr.setCell ⟨g1, f, none⟩ (.string (text.extract a text.size))).drew)) := (hb.setCell (p := ⟨g1, f, none⟩) hB1 _).drew
        have HLN : Hid ((sufQ n text.data.toList kept 0 0).length = (sufK n kept 0).length + 1 ∧ (sufK n kept 0).length ≤ 800000 ∧ ∀ q ∈ sufQ n text.data.toList kept 0 0, q.size ≤ 1000000) := by
          obtain ⟨l1, l2, l3⟩ := sufQ_len (text := text.data.toList) HOK.out
          refine ⟨by omega, by omega, fun q hq => ?_⟩
          have := sufQ_size q hq
          omega
        have HQN : Hid ((sufQ n text.data.toList kept 0 0).length = n + 1 ∧ (sufK n kept 0).length = n) := by
          obtain ⟨l1, l2, l3⟩ := sufQ_len (text := text.data.toList) HOK.out
          exact ⟨by omega, by omega⟩
        have HQ3 : Hid ((wr.setCell ⟨g1, f, none⟩ (.string (text.extract a text.size))).drew.ownsRow w.heap.size 9 1 (.slice (some ⟨g1, 0, none⟩) (n + 1) (n + 1)) (sufQ n text.data.toList kept 0 0).length ((sufQ n text.data.toList kept 0 0).map Value.string)) := by
          have h := HM2.out.q
          rw [HQN.out.1] at h
          show World.ownsRow _ _ _ _ _ _ _
          rw [HQN.out.1]
          exact h
        have HK3 : Hid ((wr.setCell ⟨g1, f, none⟩ (.string (text.extract a text.size))).drew.ownsRow w.heap.size 4 1 (.slice (some ⟨g2, 0, none⟩) n n) (sufK n kept 0).length ((sufK n kept 0).map Value.bool)) := by
          have h := HM2.out.k
          rw [HQN.out.2] at h
          show World.ownsRow _ _ _ _ _ _ _
          rw [HQN.out.2]
          exact h
        have HMD : Hid (deltaP (sufQ n text.data.toList kept 0 0) (sufK n kept 0) = madeL n kept text.data.toList) := made_delta HOK.out
        clear hM hI hb d6 d7 d5
        go_wp2_with fail
        go_region
        go_wp2_with fail
        refine (PlDelta_any w.heap.size _ _ (sufQ n text.data.toList kept 0 0) (sufK n kept 0) _ HQ3.out HK3.out HLN.out.1 HLN.out.2.1 HLN.out.2.2).mono ?_
        rintro e w2 ⟨ov, rfl, hown, hb2⟩
        rw [HMD.out] at hown
        obtain ⟨oo, oc, rfl⟩ := slice_form' hown
        have hz2 : w.heap.size ≤ (wr.setCell ⟨g1, f, none⟩ (.string (text.extract a text.size))).drew.heap.size := HB.out.size
        have HO2 : Hid (w2.ownsRow w.heap.size 53 3 (.slice oo (madeL n kept text.data.toList).length oc) (madeL n kept text.data.toList).length (allCells (madeL n kept text.data.toList))) := by
          rcases hown.2 with ⟨h1, h2⟩ | ⟨g, cap, cur, h1, h2, h3⟩
          · exact ⟨hown.1, .inl ⟨h1, h2⟩⟩
          · exact ⟨hown.1, .inr ⟨g, cap, cur, h1, Nat.le_trans hz2 h2, h3⟩⟩
        have HB2 : Hid (Below w.heap.size w w2) := HB.out.trans (hb2.mono hz2)
        clear hown hb2 hz2
        go_wp2_with fail
        go_ret
        exact ⟨_, rfl, HO2.out, HB2.out⟩

end Go.Proofs.Ytjfeaedjifpahaa
