/- More laws on rows of ints of the call's own. -/
import Derived.Test.YtjfeaedjifpahaaNats
namespace Go.Proofs.Ytjfeaedjifpahaa
open Go.RowKit
set_option linter.unusedSimpArgs false
set_option linter.unusedVariables false

/-- of what was there only block g is written -/
def Only (w w' : World) (g : Nat) : Prop := w.heap.size ≤ w'.heap.size ∧ ∀ b, b < w.heap.size → b ≠ g → w'.heap[b]? = w.heap[b]?
theorem Only.refl (w : World) (g : Nat) : Only w w g := ⟨Nat.le_refl _, fun _ _ _ => rfl⟩
theorem Only.alloc {w w' : World} {g : Nat} (h : Only w w' g) (o : Obj) : Only w (w'.alloc o) g :=
  ⟨by rw [Deep.nblk_alloc]; have := h.1; omega, fun b hb hn => by rw [Deep.blk_alloc_lt _ _ _ (by have := h.1; omega)]; exact h.2 b hb hn⟩
theorem Only.set {w w' : World} {g : Nat} (h : Only w w' g) (o : Nat) (v : Value) : Only w (w'.setCell ⟨g, o, none⟩ v) g :=
  ⟨by have := h.1; simpa [World.setCell] using this, fun b hb hn => by rw [Deep.blk_setCell_other _ _ _ _ hn]; exact h.2 b hb hn⟩
theorem Only.drew {w w' : World} {g : Nat} (h : Only w w' g) : Only w w'.drew g := h
theorem IntRow.mono {w : World} {B B' g : Nat} {l : List Nat} (h : IntRow w B g l) (hB : B' ≤ B) : IntRow w B' g l :=
  ⟨h.1, h.2.imp id fun ⟨g, cap, cur, h1, h2, r⟩ => ⟨g, cap, cur, h1, Nat.le_trans hB h2, r⟩⟩
theorem IntRow.alloc {w : World} {B g : Nat} {l : List Nat} (h : IntRow w B g l) (o : Obj) : IntRow (w.alloc o) B g l := own_alloc h o
theorem IntRow.there {w : World} {B g : Nat} {l : List Nat} (h : IntRow w B g l) : B ≤ g ∧ g < w.heap.size := by
  rcases h.2 with ⟨h0, _⟩ | ⟨g', cap, cur, h1, hB, hc, _⟩
  · simp at h0
  · simp only [Value.slice.injEq, Option.some.injEq, Addr.mk.injEq, and_true] at h1
    obtain ⟨⟨rfl, _⟩, _⟩ := h1
    exact ⟨hB, lt_of_heap hc⟩
theorem row_nats {w : World} {B g : Nat} {x : List Nat} (h : IntRow w B g x) : NatsAt w w.heap.size (some ⟨g, 0, none⟩) x x.length := by
  obtain ⟨a, c, e, h1⟩ := nats_own h
  simp only [Value.slice.injEq, true_and] at e
  obtain ⟨rfl, rfl⟩ := e
  exact h1
end Go.Proofs.Ytjfeaedjifpahaa
