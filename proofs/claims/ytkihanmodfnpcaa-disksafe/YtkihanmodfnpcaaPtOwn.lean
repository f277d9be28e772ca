/- Small laws on rows of the call's own, and on texts. -/
import Derived.Test.YtkihanmodfnpcaaRows
import Derived.WalkKit
import Derived.WalkSpells
import Derived.WalkLawsBesides
import Derived.OwnWalk
import Derived.Deep.Heap
import Derived.Lib.Strings
namespace Go.Proofs.Ytkihanmodfnpcaa
open Go.RowKit
set_option linter.unusedSimpArgs false
set_option linter.unusedVariables false

theorem slice_form {w : World} {B n : Nat} {e : TypeId} {v : Value} {xs : List Value} (h : w.ownsRow B e 1 v n xs) : ∃ ao cap, v = .slice ao n cap := by
  rcases h.2 with ⟨rfl, rfl⟩ | ⟨g, cap, cur, rfl, _⟩
  · exact ⟨none, 0, rfl⟩
  · exact ⟨_, _, rfl⟩

theorem lt_of_heap {w : World} {k : Nat} {o : Obj} (h : w.heap[k]? = some o) : k < w.heap.size := (Array.getElem?_eq_some_iff.1 h).1

theorem grown_alloc (w : World) (o : Obj) (row : Option Nat) : w.grownBy (w.alloc o) row := World.grownBy_alloc w o row

theorem below_own {w w0 w' : World} {B n : Nat} {e : TypeId} {v : Value} {xs : List Value} (hb : Below B w0 w) (h : w.ownsRow B e 1 v n xs) (hg : w.grownBy w' v.ownBlock) (hB : B ≤ w.heap.size) : Below B w0 w' :=
  hb.grown hg hB (fun k hk => (h.lt k hk).1)

theorem own_alloc {w : World} {B n size : Nat} {e : TypeId} {v : Value} {xs : List Value} (h : w.ownsRow B e size v n xs) (o : Obj) : (w.alloc o).ownsRow B e size v n xs := World.ownsRow.alloc h o

theorem own_at {w : World} {B n : Nat} {e : TypeId} {v u : Value} {xs : List Value} {j : Nat} (h : w.ownsRow B e 1 v n xs) (hj : xs[j]? = some u) : ∃ g cap, v = .slice (some ⟨g, 0, none⟩) n cap ∧ w.cell? ⟨g, j, none⟩ = some u ∧ g < w.heap.size := by
  have hjl : j < n := by
    have h1 := h.1
    obtain ⟨h2, _⟩ := List.getElem?_eq_some_iff.1 hj
    omega
  rcases h.2 with ⟨_, h0⟩ | ⟨g, cap, cur, rfl, _, hc, _⟩
  · omega
  · exact ⟨g, cap, rfl, by rw [h.cellAt j (by omega)]; exact hj, lt_of_heap hc⟩

theorem str_eq (x : ByteArray) : (⟨x.data.toList.toArray⟩ : ByteArray) = x := by cases x; simp

theorem slice_one (s : ByteArray) {i : Nat} {c : UInt8} (h : s.data.toList[i]? = some c) : (s.extract i (i + 1)).data.toList = [c] := by
  rw [Lib.extract_data]
  obtain ⟨h1, rfl⟩ := List.getElem?_eq_some_iff.1 h
  rw [List.drop_eq_getElem_cons h1, show i + 1 - i = 0 + 1 by omega, List.take_succ_cons]
  rfl
theorem at_byte {s : ByteArray} {k : Nat} {c : UInt8} (h : s.data.toList[k]? = some c) (hk : k < s.size) : s[k] = c := by
  obtain ⟨h1, h2⟩ := List.getElem?_eq_some_iff.1 h
  rw [← h2]; rfl

theorem own_below {w w' : World} {B n size : Nat} {e : TypeId} {v : Value} {xs : List Value} (h : w.ownsRow B e size v n xs) (hb : Below w.heap.size w w') : w'.ownsRow B e size v n xs := by
  rcases h.2 with ⟨h1, h2⟩ | ⟨g, cap', cur, h1, h2, h3, h4⟩
  · exact ⟨h.1, .inl ⟨h1, h2⟩⟩
  · exact ⟨h.1, .inr ⟨g, cap', cur, h1, h2, (hb.block g (lt_of_heap h3)).trans h3, h4⟩⟩
/-- two cells, behind a call -/
theorem held2 {w w' : World} {b o c q : Nat} {u v : Value} (h1 : w.cell? ⟨b, o, none⟩ = some u) (h2 : w.cell? ⟨c, q, none⟩ = some v) (hb : Below w.heap.size w w') (hb1 : b < w.heap.size) (hc1 : c < w.heap.size) :
    w'.cell? ⟨b, o, none⟩ = some u ∧ w'.cell? ⟨c, q, none⟩ = some v := ⟨(hb.cell (p := ⟨b, o, none⟩) hb1).trans h1, (hb.cell (p := ⟨c, q, none⟩) hc1).trans h2⟩

end Go.Proofs.Ytkihanmodfnpcaa

