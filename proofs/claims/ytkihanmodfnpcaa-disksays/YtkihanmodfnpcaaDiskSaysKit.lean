/- What DiskSays leans on. -/
import Derived.Test.YtkihanmodfnpcaaDiskKit
import Derived.Deep.DeepCutAuto
namespace Go.Proofs.Ytkihanmodfnpcaa
open Go.RowKit
set_option linter.unusedSimpArgs false
set_option linter.unusedVariables false

abbrev alloc3 (w : World) (o : Obj) : World := ((w.alloc o).alloc o).alloc o
theorem dk_thrice (w : World) (a : ByteArray) (x : Int) (b : ByteArray) (y : Int) :
    DkAt (alloc3 w (.cells #[.string a, .int .i64 x, .string b, .int .i64 y] 26)) w.heap.size a x b y ∧ DkAt (alloc3 w (.cells #[.string a, .int .i64 x, .string b, .int .i64 y] 26)) (w.heap.size + 1) a x b y ∧ DkAt (alloc3 w (.cells #[.string a, .int .i64 x, .string b, .int .i64 y] 26)) (w.heap.size + 1 + 1) a x b y ∧ Below w.heap.size w (alloc3 w (.cells #[.string a, .int .i64 x, .string b, .int .i64 y] 26)) := by
  refine ⟨(Deep.blk_alloc_lt _ _ _ (by simp; omega)).trans (heap_alloc2_old w _ _), (Deep.blk_alloc_lt _ _ _ (by simp)).trans (heap_alloc2_new w _ _), ?_, (((Below.refl _ w).alloc (Nat.le_refl _) _).alloc (by simp) _).alloc (by simp; omega) _⟩
  have h := heap_alloc_new ((w.alloc (.cells #[.string a, .int .i64 x, .string b, .int .i64 y] 26)).alloc (.cells #[.string a, .int .i64 x, .string b, .int .i64 y] 26)) (.cells #[.string a, .int .i64 x, .string b, .int .i64 y] 26)
  rw [show ((w.alloc (.cells #[.string a, .int .i64 x, .string b, .int .i64 y] 26)).alloc (.cells #[.string a, .int .i64 x, .string b, .int .i64 y] 26)).heap.size = w.heap.size + 1 + 1 by simp] at h
  exact h
/-- three copies, in whatever order they were laid -/
def Thrice (w : World) (a : ByteArray) (x : Int) (b : ByteArray) (y : Int) (g1 g2 g3 : Nat) (w' : World) : Prop :=
  DkAt w' g1 a x b y ∧ DkAt w' g2 a x b y ∧ DkAt w' g3 a x b y ∧ (g1 ≠ g2 ∧ g1 ≠ g3 ∧ g2 ≠ g3 ∧ w.heap.size ≤ g1 ∧ w.heap.size ≤ g2 ∧ w.heap.size ≤ g3) ∧ Below w.heap.size w w'
theorem thrice_of (w : World) (a : ByteArray) (x : Int) (b : ByteArray) (y : Int) (i j k : Nat) (h : (i = 0 ∧ j = 1 ∧ k = 2) ∨ (i = 0 ∧ j = 2 ∧ k = 1) ∨ (i = 1 ∧ j = 0 ∧ k = 2) ∨ (i = 1 ∧ j = 2 ∧ k = 0) ∨ (i = 2 ∧ j = 0 ∧ k = 1) ∨ (i = 2 ∧ j = 1 ∧ k = 0)) :
    Thrice w a x b y (w.heap.size + i) (w.heap.size + j) (w.heap.size + k) (alloc3 w (.cells #[.string a, .int .i64 x, .string b, .int .i64 y] 26)).drew := by
  obtain ⟨t1, t2, t3, t4⟩ := dk_thrice w a x b y
  rcases h with ⟨rfl, rfl, rfl⟩ | ⟨rfl, rfl, rfl⟩ | ⟨rfl, rfl, rfl⟩ | ⟨rfl, rfl, rfl⟩ | ⟨rfl, rfl, rfl⟩ | ⟨rfl, rfl, rfl⟩
  · exact ⟨t1, t2, t3, by omega, t4.drew⟩
  · exact ⟨t1, t3, t2, by omega, t4.drew⟩
  · exact ⟨t2, t1, t3, by omega, t4.drew⟩
  · exact ⟨t2, t3, t1, by omega, t4.drew⟩
  · exact ⟨t3, t1, t2, by omega, t4.drew⟩
  · exact ⟨t3, t2, t1, by omega, t4.drew⟩

end Go.Proofs.Ytkihanmodfnpcaa
