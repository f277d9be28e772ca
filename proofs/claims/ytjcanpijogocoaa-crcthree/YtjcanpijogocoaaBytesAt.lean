/- Bytes at the head of a block, none of them frozen: read, set, kept, and read as a text. -/
import Derived.Test.YtjcanpijogocoaaByteRow
import Derived.Laws.Tables
namespace Go.Proofs.Ytjcanpijogocoaa
open Go.RowKit
set_option linter.unusedSimpArgs false
set_option linter.unusedVariables false

def BytesAt (w : World) (g : Nat) (l : List UInt8) : Prop :=
  ∃ (cur : Array Value) (fr : Nat × Nat), w.heap[g]? = some (.cells cur 5 fr) ∧ (∀ (j : Nat) (c : UInt8), l[j]? = some c → cur[j]? = some (Value.int .u8 (c.toNat : Int))) ∧ (∀ j, j < l.length → (decide (fr.1 ≤ j) && decide (j < fr.2)) = false)
theorem BytesAt.here {w : World} {g : Nat} {l : List UInt8} (h : BytesAt w g l) : g < w.heap.size := by
  obtain ⟨cur, fr, h1, _⟩ := h
  exact lt_of_heap h1
theorem BytesAt.cellOf {w : World} {g j : Nat} {l : List UInt8} {c : UInt8} (h : BytesAt w g l) (hj : l[j]? = some c) : w.cell? ⟨g, j, none⟩ = some (.int .u8 (c.toNat : Int)) := by
  obtain ⟨cur, fr, h1, h2, _⟩ := h
  rw [Lib.cell_of_heap h1]
  exact h2 j c hj
theorem BytesAt.loose {w : World} {g j : Nat} {l : List UInt8} (h : BytesAt w g l) (hj : j < l.length) : w.frozen? ⟨g, j, none⟩ = false := by
  obtain ⟨cur, ⟨lo, hi⟩, h1, _, h3⟩ := h
  have h4 := h3 j hj
  simp only [World.frozen?, h1]
  exact h4
theorem BytesAt.below {w w' : World} {B g : Nat} {l : List UInt8} (h : BytesAt w g l) (hb : Below B w w') (hg : g < B) : BytesAt w' g l := by
  obtain ⟨cur, fr, h1, h2⟩ := h
  exact ⟨cur, fr, (hb.block g hg).trans h1, h2⟩
theorem BytesAt.drew {w : World} {g : Nat} {l : List UInt8} (h : BytesAt w g l) : BytesAt w.drew g l := h
theorem BytesAt.put {w : World} {g : Nat} {l : List UInt8} (h : BytesAt w g l) (i : Nat) (c : UInt8) : BytesAt (w.setCell ⟨g, i, none⟩ (.int .u8 (c.toNat : Int))) g (l.set i c) := by
  obtain ⟨cur, fr, h1, h2, h3⟩ := h
  refine ⟨cur.setIfInBounds i (.int .u8 (c.toNat : Int)), fr, ?_, ?_, by rw [List.length_set]; exact h3⟩
  · rw [setCell_eq_setRow w g i cur _ fr _ h1]
    exact setRow_heap w g cur _ _ _ h1
  · intro j d hj
    by_cases e : i = j
    · subst e
      have hl : i < l.length := by
        obtain ⟨h4, _⟩ := List.getElem?_eq_some_iff.1 hj
        rw [List.length_set] at h4; exact h4
      rw [List.getElem?_set_self hl] at hj
      obtain rfl := Option.some.inj hj
      obtain ⟨h5, _⟩ := Array.getElem?_eq_some_iff.1 (h2 i l[i] (List.getElem?_eq_getElem hl))
      rw [Array.getElem?_setIfInBounds_self_of_lt h5]
    · rw [List.getElem?_set_ne e] at hj
      rw [Array.getElem?_setIfInBounds_ne e]
      exact h2 j d hj
theorem BytesAt.text {w : World} {g : Nat} {l : List UInt8} (h : BytesAt w g l) (cap : Nat) : (convert 38 9 (.slice (some ⟨g, 0, none⟩) l.length cap)).run Try.prog w = .ok (.string ⟨l.toArray⟩) w :=
  run_convert_bytes_back w 38 9 5 ⟨g, 0, none⟩ cap l Try.underlying38 Try.underlying5 Try.underlying9 (fun j hj => by
    rw [Addr.add_lit, Nat.zero_add]
    exact h.cellOf (List.getElem?_eq_getElem hj))
/-- a text as a row of bytes -/
theorem bytes_of (w : World) (s : ByteArray) (cap : Nat) : BytesAt (w.drew.alloc (.cells (bytesRow s cap) 5 ((bytesRow s cap).size, (bytesRow s cap).size + 1))) w.heap.size s.data.toList := by
  refine ⟨_, _, Deep.blk_alloc_new w.drew _, ?_, ?_⟩
  · intro j c hj
    obtain ⟨h1, h2⟩ := List.getElem?_eq_some_iff.1 hj
    have h3 : j < s.data.size := by simpa using h1
    have h4 : s.data[j] = c := by simpa using h2
    unfold bytesRow
    rw [Array.getElem?_append_left (by simpa using h3), Array.getElem?_map, Array.getElem?_eq_getElem h3, h4]
    rfl
  · intro j hj
    have h1 : j < (bytesRow s cap).size := by
      have : j < s.data.size := by simpa using hj
      unfold bytesRow; rw [Array.size_append, Array.size_map]; omega
    simp
    omega
/-- a row of bytes that was made -/
theorem bytes_made (w : World) (n : Nat) : BytesAt (w.alloc (.cells (madeCells #[.int .u8 0] n) 5)) w.heap.size (List.replicate n 0) := by
  refine ⟨_, _, Deep.blk_alloc_new w _, ?_, by intro j _; simp⟩
  intro j c hj
  rw [List.getElem?_replicate] at hj
  split at hj
  · rename_i h
    obtain rfl := Option.some.inj hj
    have h1 : (madeCells #[Value.int .u8 0] n).toList = List.replicate n (.int .u8 0) := toList_madeCells_one _ _
    rw [← Array.getElem?_toList, h1, List.getElem?_replicate, if_pos h]
    rfl
  · simp at hj
end Go.Proofs.Ytjcanpijogocoaa
