/- What the document's own Places.Delta answers. -/
import Derived.Test.YtinhidddfpjjkabDMem
import Derived.Test.YtinhidddfpjjkabKeep
import Derived.Test.YtinhidddfpjjkabPlDo
namespace Go.Proofs.Ytinhidddfpjjkab
open Go.RowKit
set_option linter.unusedSimpArgs false
set_option linter.unusedVariables false

structure PB (s : GSt) (m : Nat) : Prop where
  len : s.sl.length ≤ 3 * m
  tx : s.tx.length ≤ 1000000 * m
  ct0 : 0 ≤ s.ct
  ct : s.ct ≤ m
  pts : ∀ p ∈ s.sl, 0 ≤ p.n ∧ p.n ≤ m

theorem settle_n {sl : List Pt} {tx : List UInt8} {ct : Int} {m : Nat} (h : ∀ p ∈ sl, 0 ≤ p.n ∧ p.n ≤ m) (hc : ct ≤ m) : ∀ p ∈ settleL sl tx ct, 0 ≤ p.n ∧ p.n ≤ m := by
  intro p hp
  simp only [settleL, List.mem_append] at hp
  rcases hp with (hp | hp) | hp
  · exact h p hp
  · split at hp
    · simp at hp
    · simp at hp
      subst hp
      simp
  · split at hp
    · simp at hp
      subst hp
      exact ⟨by simp; omega, hc⟩
    · simp at hp
theorem keep_n {sl : List Pt} {m : Nat} (h : ∀ p ∈ sl, 0 ≤ p.n ∧ p.n ≤ m) : ∀ p ∈ keepL sl 1, 0 ≤ p.n ∧ p.n ≤ (m + 1 : Nat) := by
  have hnew : 0 ≤ (Pt.mk 1 1 ByteArray.empty).n ∧ (Pt.mk 1 1 ByteArray.empty).n ≤ (m + 1 : Nat) := ⟨by simp, by simp; omega⟩
  intro p hp
  unfold keepL at hp
  split at hp
  · rename_i q hq
    have hqm := h q (List.mem_of_getLast? hq)
    split at hp
    · simp only [List.mem_append, List.mem_singleton] at hp
      rcases hp with hp | hp
      · have := h p (List.dropLast_subset _ hp); omega
      · subst hp
        show 0 ≤ q.n + 1 ∧ q.n + 1 ≤ _
        omega
    · simp only [List.mem_append, List.mem_singleton] at hp
      rcases hp with hp | hp
      · have := h p hp; omega
      · subst hp; exact hnew
  · simp only [List.mem_append, List.mem_singleton] at hp
    rcases hp with hp | hp
    · have := h p hp; omega
    · subst hp; exact hnew
theorem PB.step {s : GSt} {m : Nat} {q : ByteArray} {b : Bool} (h : PB s m) (hq : q.size ≤ 1000000) : PB (pStep s q b) (m + 1) := by
  obtain ⟨h1, h2, h3, h4, h5⟩ := h
  have hl : q.data.toList.length = q.size := Array.length_toList
  unfold pStep
  split
  · have h8 := settle_len s.sl (s.tx ++ q.data.toList) s.ct
    have h9 := keep_len (settleL s.sl (s.tx ++ q.data.toList) s.ct) 1
    exact ⟨by simp only; omega, by simp, by simp, by simp; omega, keep_n (settle_n h5 h4)⟩
  · exact ⟨by simp only; omega, by simp only [List.length_append, hl]; omega, by simp only; omega, by simp only; omega, fun p hp => by have := h5 p hp; omega⟩

def pTo (qs : List ByteArray) (ks : List Bool) (k : Nat) : GSt := pAll (qs.take k) (ks.take k) ⟨[], [], 0⟩
theorem pTo_succ {qs : List ByteArray} {ks : List Bool} {k : Nat} {q : ByteArray} {b : Bool} (hq : qs[k]? = some q) (hb : ks[k]? = some b) : pTo qs ks (k + 1) = pStep (pTo qs ks k) q b := by
  obtain ⟨l1, rfl⟩ := List.getElem?_eq_some_iff.1 hq
  obtain ⟨l2, rfl⟩ := List.getElem?_eq_some_iff.1 hb
  unfold pTo
  rw [List.take_succ_eq_append_getElem l1, List.take_succ_eq_append_getElem l2, pAll_append _ _ _ _ _ (by simp; omega)]
  simp [pAll]
theorem pTo_B {qs : List ByteArray} {ks : List Bool} (hl : qs.length = ks.length + 1) (hq : ∀ q ∈ qs, q.size ≤ 1000000) : ∀ k, k ≤ ks.length → PB (pTo qs ks k) k := by
  intro k
  induction k with
  | zero => intro _; exact ⟨by simp [pTo, pAll], by simp [pTo, pAll], by simp [pTo, pAll], by simp [pTo, pAll], by simp [pTo, pAll]⟩
  | succ k ih =>
    intro hk
    have h1 : qs[k]? = some qs[k] := List.getElem?_eq_getElem (by omega)
    have h2 : ks[k]? = some ks[k] := List.getElem?_eq_getElem (by omega)
    rw [pTo_succ h1 h2]
    exact (ih (by omega)).step (hq _ (List.getElem_mem _))
theorem deltaP_to {qs : List ByteArray} {ks : List Bool} {q : ByteArray} (hl : qs.length = ks.length + 1) (hq : qs[ks.length]? = some q) :
    deltaP qs ks = settleL (pTo qs ks ks.length).sl ((pTo qs ks ks.length).tx ++ q.data.toList) (pTo qs ks ks.length).ct := by
  have h1 : qs.getLast? = some q := by rw [List.getLast?_eq_getElem?, hl]; exact hq
  have h2 : qs = qs.take ks.length ++ [q] := by
    obtain ⟨l1, rfl⟩ := List.getElem?_eq_some_iff.1 hq
    rw [← List.take_succ_eq_append_getElem l1, List.take_of_length_le (by omega)]
  have h3 : pAll qs ks ⟨[], [], 0⟩ = pTo qs ks ks.length := by
    unfold pTo
    rw [List.take_of_length_le (Nat.le_refl ks.length)]
    have h4 := pAll_last (qs.take ks.length) q ks ⟨[], [], 0⟩ (by rw [List.length_take]; omega)
    rw [← h2] at h4
    exact h4
  unfold deltaP
  rw [h3, h1]
  rfl

theorem str_add (t : List UInt8) (q : ByteArray) : (⟨t.toArray⟩ : ByteArray) ++ q = ⟨(t ++ q.data.toList).toArray⟩ := by
  rw [← str_eq (⟨t.toArray⟩ ++ q), data_append]

theorem dl_start (w : World) (pv kv : Value) : DAt ((((w.alloc (.cells #[pv, kv] 80)).alloc (.cells #[.slice none 0 0] 33)).alloc (.cells #[.string ⟨#[]⟩] 9)).alloc (.cells #[.int .i64 0] 3))
    w.heap.size w.heap.size (w.heap.size + 1) (w.heap.size + 1 + 1) (w.heap.size + 1 + 1 + 1) pv kv ⟨[], [], 0⟩ (.slice none 0 0) := by
  have e1 : (w.alloc (.cells #[pv, kv] 80)).heap.size = w.heap.size + 1 := Deep.nblk_alloc _ _
  have e2 : ((w.alloc (.cells #[pv, kv] 80)).alloc (.cells #[.slice none 0 0] 33)).heap.size = w.heap.size + 1 + 1 := by rw [Deep.nblk_alloc, e1]
  have e3 : (((w.alloc (.cells #[pv, kv] 80)).alloc (.cells #[.slice none 0 0] 33)).alloc (.cells #[.string ⟨#[]⟩] 9)).heap.size = w.heap.size + 1 + 1 + 1 := by rw [Deep.nblk_alloc, e2]
  refine ⟨by omega, by omega, by omega, by omega, ?_, ?_, ?_, ?_, World.ownsRow_nil _ _ _ _⟩
  · rw [Deep.blk_alloc_lt _ _ _ (by omega), Deep.blk_alloc_lt _ _ _ (by omega), Deep.blk_alloc_lt _ _ _ (by omega)]; exact Deep.blk_alloc_new _ _
  · rw [Deep.blk_alloc_lt _ _ _ (by omega), Deep.blk_alloc_lt _ _ _ (by omega), ← e1]; exact Deep.blk_alloc_new _ _
  · rw [Deep.blk_alloc_lt _ _ _ (by omega), ← e2]; exact Deep.blk_alloc_new _ _
  · rw [← e3]; exact Deep.blk_alloc_new _ _

theorem DAt.bump {w : World} {B X O P C : Nat} {pv kv : Value} {L : List Pt} {t : List UInt8} {c : Int} {g cap m : Nat} {p : Pt} {x : Int} (h : DAt w B X O P C pv kv ⟨L, t, c⟩ (.slice (some ⟨g, 0, none⟩) L.length cap)) (hl : L.length = m + 1) (hp : L[m]? = some p) :
    DAt (w.setCell ⟨g, m * 3 + 1, none⟩ (.int .i64 x)) B X O P C pv kv ⟨L.take m ++ [⟨p.k, x, p.t⟩], t, c⟩ (.slice (some ⟨g, 0, none⟩) L.length cap) := by
  have ne : ∀ {k : Nat} {cs : Array Value} {ty : TypeId} {f : Nat × Nat}, w.heap[k]? = some (.cells cs ty f) → ty ≠ 58 → k ≠ g := fun hk ht e => own_ne' h.sl hk ht (by rw [e]; rfl)
  have h2 := (h.sl.stored (m * 3 + 1) (.int .i64 x)).1
  have h3 : (L.take m ++ [Pt.mk p.k x p.t]).length = L.length := by rw [List.length_append, List.length_take]; simp only [List.length_cons, List.length_nil]; omega
  refine ⟨h.bx, h.bo, h.bp, h.bc, ?_, ?_, ?_, ?_, ?_⟩
  · rw [Deep.blk_setCell_other _ _ _ _ (ne h.x (by decide))]; exact h.x
  · rw [Deep.blk_setCell_other _ _ _ _ (ne h.o (by decide))]; exact h.o
  · rw [Deep.blk_setCell_other _ _ _ _ (ne h.p (by decide))]; exact h.p
  · rw [Deep.blk_setCell_other _ _ _ _ (ne h.c (by decide))]; exact h.c
  · simp only [h3]
    rw [← allCells_set hl hp]
    exact h2

end Go.Proofs.Ytinhidddfpjjkab
