/- A row of ints of the call's own. -/
import Derived.Test.YtgffippimmokiaaPtOwn
import Derived.OwnWalk
namespace Go.Proofs.Ytgffippimmokiaa
open Go.RowKit
set_option linter.unusedSimpArgs false
set_option linter.unusedVariables false

def intV (x : Nat) : Value := .int .i64 x
/-- the row l lies at g, with no room behind it -/
def IntRow (w : World) (B g : Nat) (l : List Nat) : Prop := w.ownsRow B 3 1 (.slice (some ⟨g, 0, none⟩) l.length l.length) l.length (l.map intV)
theorem infoInt : (Try.prog.info? 3).map (fun i => (i.zero, i.size, i.bytes)) = some (some (.int .i64 0), 1, 8) := by kernel_rfl
theorem IntRow.cellOf {w : World} {B g : Nat} {l : List Nat} (h : IntRow w B g l) {i q : Nat} (hi : l[i]? = some q) : w.cell? ⟨g, i, none⟩ = some (.int .i64 q) := by
  have h1 := World.ownsRow.cellAt h i (by have := (List.getElem?_eq_some_iff.1 hi).1; omega)
  rw [h1]; simp [hi, intV]
theorem IntRow.block {w : World} {B g : Nat} {l : List Nat} (h : IntRow w B g l) (hl : 0 < l.length) : B ≤ g ∧ g < w.heap.size := by
  rcases h.2 with ⟨_, h0⟩ | ⟨g', cap, cur, h1, hB, hc, _⟩
  · omega
  · simp only [Value.slice.injEq, Option.some.injEq, Addr.mk.injEq, and_true] at h1
    obtain ⟨⟨rfl, _⟩, _⟩ := h1
    exact ⟨hB, lt_of_heap hc⟩
theorem IntRow.frozen {w : World} {B g : Nat} {l : List Nat} (h : IntRow w B g l) (i : Nat) : w.frozen? ⟨g, i, none⟩ = false := World.ownsRow.frozenAt h i
theorem IntRow.put {w : World} {B g : Nat} {l : List Nat} (h : IntRow w B g l) (i q : Nat) : IntRow (w.setCell ⟨g, i, none⟩ (.int .i64 q)) B g (l.set i q) := by
  have h1 := World.ownsRow.stored h i (.int .i64 q)
  unfold IntRow
  rw [List.length_set, List.map_set]
  exact h1.1
theorem IntRow.below {w w' : World} {B g : Nat} {l : List Nat} (h : IntRow w B g l) (hb : Below w.heap.size w w') : IntRow w' B g l := by
  refine ⟨h.1, ?_⟩
  rcases h.2 with h0 | ⟨g', cap, cur, h1, hB, hc, h2⟩
  · exact .inl h0
  · exact .inr ⟨g', cap, cur, h1, hB, by rw [hb.block _ (lt_of_heap hc)]; exact hc, h2⟩
theorem IntRow.drew {w : World} {B g : Nat} {l : List Nat} (h : IntRow w B g l) : IntRow w.drew B g l := h
theorem IntRow.drewN {w : World} {B g : Nat} {l : List Nat} (h : IntRow w B g l) (n : Nat) : IntRow (w.drewN n) B g l := h
theorem made_ints (n : Nat) : (madeCells #[Value.int .i64 0] n).toList = (List.replicate n 0).map intV := by
  refine List.ext_getElem? fun i => ?_
  by_cases h : i < n
  · have h1 : (madeCells #[Value.int .i64 0] n).toList[i]? = some (#[Value.int .i64 0][i % 1]!) := by
      simp [madeCells, h]
    rw [h1, Nat.mod_one, List.getElem?_map, List.getElem?_replicate, if_pos h]; rfl
  · rw [List.getElem?_eq_none (by simp [size_madeCells]; omega), List.getElem?_eq_none (by simp; omega)]
end Go.Proofs.Ytgffippimmokiaa
