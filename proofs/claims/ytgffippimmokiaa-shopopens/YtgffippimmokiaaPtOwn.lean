/- A list of parts that a call has made itself. -/
import Derived.Test.YtgffippimmokiaaPure
import Derived.OwnWalk
import Derived.Laws.OwnMore
import Derived.Test.YtgffippimmokiaaRows
import Derived.WalkKit
import Derived.WalkSpells
import Derived.WalkLawsBesides
import Derived.Deep.Heap
import Derived.Lib.Strings
import Derived.Lib.AppendStr
import Derived.Lib.UnsafeStr
import Derived.Laws.IdiomStrings
namespace Go.Proofs.Ytgffippimmokiaa
open Go.RowKit
set_option linter.unusedSimpArgs false
set_option linter.unusedVariables false

def ptCells (p : Pt) : List Value := [.int .i64 p.k, .int .i64 p.n, .string p.t]
def allCells (l : List Pt) : List Value := l.flatMap ptCells
theorem allCells_cons (p : Pt) (r : List Pt) : allCells (p :: r) = .int .i64 p.k :: .int .i64 p.n :: .string p.t :: allCells r := rfl
theorem allCells_append (a b : List Pt) : allCells (a ++ b) = allCells a ++ allCells b := by simp [allCells]
theorem allCells_length (l : List Pt) : (allCells l).length = l.length * 3 := by
  induction l with
  | nil => rfl
  | cons p r ih => rw [allCells_cons]; simp only [List.length_cons, ih]; omega
theorem allCells_at {l : List Pt} {i : Nat} {p : Pt} (h : l[i]? = some p) : (allCells l)[i * 3]? = some (.int .i64 p.k) ∧ (allCells l)[i * 3 + 1]? = some (.int .i64 p.n) ∧ (allCells l)[i * 3 + 2]? = some (.string p.t) := by
  induction l generalizing i with
  | nil => simp at h
  | cons q r ih =>
    cases i with
    | zero =>
      simp at h
      subst h
      simp [allCells_cons]
    | succ j =>
      have := ih (i := j) (by simpa using h)
      rw [allCells_cons, show (j + 1) * 3 = j * 3 + 1 + 1 + 1 by omega]
      refine ⟨?_, ?_, ?_⟩
      · simpa using this.1
      · rw [show j * 3 + 1 + 1 + 1 + 1 = (j * 3 + 1) + 1 + 1 + 1 by omega]; simpa using this.2.1
      · rw [show j * 3 + 1 + 1 + 1 + 2 = (j * 3 + 2) + 1 + 1 + 1 by omega]; simpa using this.2.2

def Bound (l : List Pt) : Prop := l.length ≤ 9223372036854775807 ∧ ∀ p ∈ l, p.t.size ≤ 9223372036854775807 ∧ -9223372036854775808 ≤ p.n ∧ p.n ≤ 9223372036854775807 ∧ -9223372036854775808 ≤ p.k ∧ p.k ≤ 9223372036854775807

theorem parts_own {w : World} {B : Nat} {v : Value} {l : List Pt} (h : w.ownsRow B 138 3 v l.length (allCells l)) (hb : Bound l) : ∃ a cap, v = .slice a l.length cap ∧ PartsAt w w.heap.size a l := by
  rcases h.2 with ⟨rfl, h0⟩ | ⟨g, cap, cur, rfl, hB, hg, hn, hm, hc, ht⟩
  · have : l = [] := List.length_eq_zero_iff.1 h0
    subst this
    exact ⟨none, 0, rfl, by simp, Nat.le_refl _, by simp, by simp⟩
  · refine ⟨some ⟨g, 0, none⟩, cap, rfl, hb.1, Nat.le_refl _, hb.2, fun _ => ⟨g, 0, rfl, (Array.getElem?_eq_some_iff.1 hg).1, fun i p hi => ?_⟩⟩
    obtain ⟨c1, c2, c3⟩ := allCells_at hi
    have hil := (List.getElem?_eq_some_iff.1 hi).1
    refine ⟨?_, ?_, ?_⟩
    · rw [Nat.zero_add, h.cellAt _ (by omega)]; exact c1
    · rw [Nat.zero_add, h.cellAt _ (by omega)]; exact c2
    · rw [Nat.zero_add, h.cellAt _ (by omega)]; exact c3

theorem parts_lit (w : World) (l : List Pt) (hb : Bound l) : PartsAt (w.alloc (.cells (allCells l).toArray 138)) (w.heap.size + 1) (some ⟨w.heap.size, 0, none⟩) l := by
  have h := World.ownsRow_lit (base := 0) (e := 138) (size := 3) w (allCells l).toArray l.length (Nat.zero_le _) hb.1 (by simp [allCells_length])
  obtain ⟨a, cap, hv, hp⟩ := parts_own (l := l) (by simpa using h) hb
  simp only [Value.slice.injEq, true_and] at hv
  obtain ⟨rfl, _⟩ := hv
  simpa using hp

end Go.Proofs.Ytgffippimmokiaa

/- Small laws on rows of the call's own, and on texts. -/
namespace Go.Proofs.Ytgffippimmokiaa
open Go.RowKit
set_option linter.unusedSimpArgs false
set_option linter.unusedVariables false

theorem slice_form {w : World} {B n : Nat} {e : TypeId} {v : Value} {xs : List Value} (h : w.ownsRow B e 1 v n xs) : ∃ ao cap, v = .slice ao n cap := by
  rcases h.2 with ⟨rfl, rfl⟩ | ⟨g, cap, cur, rfl, _⟩
  · exact ⟨none, 0, rfl⟩
  · exact ⟨_, _, rfl⟩

theorem lt_of_heap {w : World} {k : Nat} {o : Obj} (h : w.heap[k]? = some o) : k < w.heap.size := (Array.getElem?_eq_some_iff.1 h).1

theorem grown_alloc (w : World) (o : Obj) (row : Option Nat) : w.grownBy (w.alloc o) row := World.grownBy_alloc w o row

theorem below_own {w w0 w' : World} {B n : Nat} {e : TypeId} {v : Value} {xs : List Value} (hb : Below B w0 w) (h : w.ownsRow B e 1 v n xs) (hg : w.grownBy w' v.ownBlock) (hB : B ≤ w.heap.size) : Below B w0 w' :=
  hb.grown hg hB (fun k hk => (h.lt k hk).1)

theorem own_alloc {w : World} {B n size : Nat} {e : TypeId} {v : Value} {xs : List Value} (h : w.ownsRow B e size v n xs) (o : Obj) : (w.alloc o).ownsRow B e size v n xs := World.ownsRow.alloc h o

theorem own_at {w : World} {B n : Nat} {e : TypeId} {v u : Value} {xs : List Value} {j : Nat} (h : w.ownsRow B e 1 v n xs) (hj : xs[j]? = some u) : ∃ g cap, v = .slice (some ⟨g, 0, none⟩) n cap ∧ w.cell? ⟨g, j, none⟩ = some u ∧ g < w.heap.size := by
  have hjl : j < n := by
    have h1 := h.1
    obtain ⟨h2, _⟩ := List.getElem?_eq_some_iff.1 hj
    omega
  rcases h.2 with ⟨_, h0⟩ | ⟨g, cap, cur, rfl, _, hc, _⟩
  · omega
  · exact ⟨g, cap, rfl, by rw [h.cellAt j (by omega)]; exact hj, lt_of_heap hc⟩

theorem str_eq (x : ByteArray) : (⟨x.data.toList.toArray⟩ : ByteArray) = x := by cases x; simp

theorem slice_one (s : ByteArray) {i : Nat} {c : UInt8} (h : s.data.toList[i]? = some c) : (s.extract i (i + 1)).data.toList = [c] := by
  rw [Lib.extract_data]
  obtain ⟨h1, rfl⟩ := List.getElem?_eq_some_iff.1 h
  rw [List.drop_eq_getElem_cons h1, show i + 1 - i = 0 + 1 by omega, List.take_succ_cons]
  rfl
theorem at_byte {s : ByteArray} {k : Nat} {c : UInt8} (h : s.data.toList[k]? = some c) (hk : k < s.size) : s[k] = c := by
  obtain ⟨h1, h2⟩ := List.getElem?_eq_some_iff.1 h
  rw [← h2]; rfl

theorem own_below {w w' : World} {B n size : Nat} {e : TypeId} {v : Value} {xs : List Value} (h : w.ownsRow B e size v n xs) (hb : Below w.heap.size w w') : w'.ownsRow B e size v n xs := by
  rcases h.2 with ⟨h1, h2⟩ | ⟨g, cap', cur, h1, h2, h3, h4⟩
  · exact ⟨h.1, .inl ⟨h1, h2⟩⟩
  · exact ⟨h.1, .inr ⟨g, cap', cur, h1, h2, (hb.block g (lt_of_heap h3)).trans h3, h4⟩⟩
/-- two cells, behind a call -/
theorem held2 {w w' : World} {b o c q : Nat} {u v : Value} (h1 : w.cell? ⟨b, o, none⟩ = some u) (h2 : w.cell? ⟨c, q, none⟩ = some v) (hb : Below w.heap.size w w') (hb1 : b < w.heap.size) (hc1 : c < w.heap.size) :
    w'.cell? ⟨b, o, none⟩ = some u ∧ w'.cell? ⟨c, q, none⟩ = some v := ⟨(hb.cell (p := ⟨b, o, none⟩) hb1).trans h1, (hb.cell (p := ⟨c, q, none⟩) hc1).trans h2⟩

end Go.Proofs.Ytgffippimmokiaa

/- Rows of bytes of the call's own. -/
namespace Go.Proofs.Ytgffippimmokiaa
open Go.RowKit
set_option linter.unusedSimpArgs false
set_option linter.unusedVariables false

theorem slice_form' {w : World} {B n size : Nat} {e : TypeId} {v : Value} {xs : List Value} (h : w.ownsRow B e size v n xs) : ∃ ao cap, v = .slice ao n cap := by
  rcases h.2 with ⟨rfl, rfl⟩ | ⟨g, cap, cur, rfl, _⟩
  · exact ⟨none, 0, rfl⟩
  · exact ⟨_, _, rfl⟩

theorem below_own' {w w0 w' : World} {B n size : Nat} {e : TypeId} {v : Value} {xs : List Value} (hb : Below B w0 w) (h : w.ownsRow B e size v n xs) (hg : w.grownBy w' v.ownBlock) (hB : B ≤ w.heap.size) : Below B w0 w' :=
  hb.grown hg hB (fun k hk => (h.lt k hk).1)

/-- what a callee leaves that lays new blocks alone -/
theorem own_stay {w w' : World} {B n size : Nat} {e : TypeId} {v : Value} {xs : List Value} (h : w.ownsRow B e size v n xs) (hb : Below w.heap.size w w') : w'.ownsRow B e size v n xs := by
  rcases h.2 with ⟨h1, h2⟩ | ⟨g, cap', cur, h1, h2, h3, h4⟩
  · exact ⟨h.1, .inl ⟨h1, h2⟩⟩
  · exact ⟨h.1, .inr ⟨g, cap', cur, h1, h2, (hb.block g (lt_of_heap h3)).trans h3, h4⟩⟩

theorem text_at {w : World} {B : Nat} {g cap : Nat} {t : List UInt8} (h : w.ownsRow B 5 1 (.slice (some ⟨g, 0, none⟩) t.length cap) t.length (Lib.byteCells t)) (j : Nat) (hj : j < t.length) : w.cell? ((⟨g, 0, none⟩ : Addr).add j) = some (.int .u8 (t[j].toNat : Int)) := by
  rw [Addr.add_lit, Nat.zero_add, h.cellAt j (by omega)]
  simp [Lib.byteCells, hj]

theorem alloc_cell {w : World} {o : Obj} {g i : Nat} (h : g < w.heap.size) : (w.alloc o).cell? ⟨g, i, none⟩ = w.cell? ⟨g, i, none⟩ := World.cell?_of_block (Deep.blk_alloc_lt w o g h)

theorem infoByte : (Try.prog.info? 5).map (fun i => (i.zero, i.size, i.bytes)) = some (some (.int .u8 0), 1, 1) := by kernel_rfl

end Go.Proofs.Ytgffippimmokiaa

/- Rows of parts of the call's own, one more. -/
namespace Go.Proofs.Ytgffippimmokiaa
open Go.RowKit
set_option linter.unusedSimpArgs false
set_option linter.unusedVariables false

theorem own_snoc {w : World} {B : Nat} {v : Value} {l : List Pt} {k n : Int} {t : ByteArray} (h : w.ownsRow B 138 3 v (l.length + 1) (allCells l ++ [.int .i64 k, .int .i64 n, .string t])) : w.ownsRow B 138 3 v (l ++ [Pt.mk k n t]).length (allCells (l ++ [Pt.mk k n t])) := by
  rw [allCells_append, List.length_append]; exact h

theorem infoPart : (Try.prog.info? 138).map (fun i => (i.zero, i.size, i.bytes)) = some (some (.agg #[.int .i64 0, .int .i64 0, .string ⟨#[]⟩]), 3, 32) := by kernel_rfl

end Go.Proofs.Ytgffippimmokiaa
