/- A row of texts that is read. -/
import Derived.Test.YtcghojnmnmmpoaaPtOwn
import Derived.OwnWalk
namespace Go.Proofs.Ytcghojnmnmmpoaa
open Go.RowKit
set_option linter.unusedSimpArgs false
set_option linter.unusedVariables false

/-- the texts x lie from address a on, below block B, with room for c -/
def StAt (w : World) (B : Nat) (a : Option Addr) (x : List ByteArray) (c : Nat) : Prop :=
  x.length ≤ c ∧ c ≤ 9223372036854775807 ∧ B ≤ w.heap.size ∧ (x ≠ [] → ∃ b off, a = some ⟨b, off, none⟩ ∧ b < B ∧ (∀ (i : Nat) (q : ByteArray), x[i]? = some q → w.cell? ⟨b, off + i, none⟩ = some (.string q))) ∧ ∀ q ∈ x, q.size ≤ 9223372036854775807
theorem StAt.below {w w' : World} {B B' : Nat} {a : Option Addr} {x : List ByteArray} {c : Nat} (h : StAt w B a x c) (hb : Below B' w w') (hB : B ≤ B') : StAt w' B a x c := by
  obtain ⟨h1, h0, h2, h3, h4⟩ := h
  refine ⟨h1, h0, Nat.le_trans h2 hb.size, fun hn => ?_, h4⟩
  obtain ⟨b, off, ha, hlt, hc⟩ := h3 hn
  have hlt' : b < B' := Nat.lt_of_lt_of_le hlt hB
  exact ⟨b, off, ha, hlt, fun i q hi => (hb.cell (p := ⟨b, _, none⟩) hlt').trans (hc i q hi)⟩
theorem StAt.wider {w : World} {B B' : Nat} {a : Option Addr} {x : List ByteArray} {c : Nat} (h : StAt w B a x c) (h1 : B ≤ B') (h2 : B' ≤ w.heap.size) : StAt w B' a x c :=
  ⟨h.1, h.2.1, h2, fun hn => by
    obtain ⟨b, off, ha, hlt, hc⟩ := h.2.2.2.1 hn
    exact ⟨b, off, ha, by omega, hc⟩, h.2.2.2.2⟩
theorem StAt.here {w w' : World} {B B' : Nat} {a : Option Addr} {x : List ByteArray} {c : Nat} (h : StAt w B a x c) (hb : Below B' w w') (hB : B ≤ B') : StAt w' w'.heap.size a x c :=
  (h.below hb hB).wider (h.below hb hB).2.2.1 (Nat.le_refl _)
theorem StAt.mem {w : World} {B : Nat} {a : Option Addr} {x : List ByteArray} {c : Nat} (h : StAt w B a x c) {i : Nat} {q : ByteArray} (hi : x[i]? = some q) :
    ∃ b off, a = some ⟨b, off, none⟩ ∧ b < B ∧ w.cell? ⟨b, off + i, none⟩ = some (.string q) := by
  obtain ⟨b, off, ha, hlt, hc⟩ := h.2.2.2.1 (fun e => by subst e; simp at hi)
  exact ⟨b, off, ha, hlt, hc i q hi⟩
theorem StAt.cut {w : World} {B : Nat} {a : Option Addr} {x : List ByteArray} {c : Nat} (h : StAt w B a x c) (k : Nat) : StAt w B a (x.take k) c := by
  refine ⟨Nat.le_trans (by rw [List.length_take]; omega) h.1, h.2.1, h.2.2.1, fun hn => ?_, fun q hq => h.2.2.2.2 q (List.mem_of_mem_take hq)⟩
  obtain ⟨b, off, ha, hlt, hc⟩ := h.2.2.2.1 (fun e => hn (by rw [e]; simp))
  refine ⟨b, off, ha, hlt, fun i q hi => hc i q ?_⟩
  rw [List.getElem?_take] at hi
  split at hi
  · exact hi
  · cases hi
theorem st_nil (w : World) (B c : Nat) (hB : B ≤ w.heap.size) (hc : c ≤ 9223372036854775807) (a : Option Addr) : StAt w B a [] c := ⟨by simp, hc, hB, by simp, by simp⟩
end Go.Proofs.Ytcghojnmnmmpoaa
