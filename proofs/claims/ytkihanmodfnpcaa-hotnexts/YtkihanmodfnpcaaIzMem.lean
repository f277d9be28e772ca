/- A row of ints that is read, and one of the call's own. -/
import Derived.Test.YtkihanmodfnpcaaPtOwn
import Derived.OwnWalk
namespace Go.Proofs.Ytkihanmodfnpcaa
open Go.RowKit
set_option linter.unusedSimpArgs false
set_option linter.unusedVariables false

/-- the ints x lie from address a on, below block B, with room for c -/
def IzAt (w : World) (B : Nat) (a : Option Addr) (x : List Int) (c : Nat) : Prop :=
  x.length ≤ c ∧ c ≤ 9223372036854775807 ∧ B ≤ w.heap.size ∧ (x ≠ [] → ∃ b off, a = some ⟨b, off, none⟩ ∧ b < B ∧ ∀ (i : Nat) (q : Int), x[i]? = some q → w.cell? ⟨b, off + i, none⟩ = some (.int .i64 q))
theorem IzAt.below {w w' : World} {B B' : Nat} {a : Option Addr} {x : List Int} {c : Nat} (h : IzAt w B a x c) (hb : Below B' w w') (hB : B ≤ B') : IzAt w' B a x c := by
  obtain ⟨h1, h0, h2, h3⟩ := h
  refine ⟨h1, h0, Nat.le_trans h2 hb.size, fun hn => ?_⟩
  obtain ⟨b, off, ha, hlt, hc⟩ := h3 hn
  have hlt' : b < B' := Nat.lt_of_lt_of_le hlt hB
  exact ⟨b, off, ha, hlt, fun i q hi => (hb.cell (p := ⟨b, _, none⟩) hlt').trans (hc i q hi)⟩
theorem IzAt.wider {w : World} {B B' : Nat} {a : Option Addr} {x : List Int} {c : Nat} (h : IzAt w B a x c) (h1 : B ≤ B') (h2 : B' ≤ w.heap.size) : IzAt w B' a x c :=
  ⟨h.1, h.2.1, h2, fun hn => by
    obtain ⟨b, off, ha, hlt, hc⟩ := h.2.2.2 hn
    exact ⟨b, off, ha, by omega, hc⟩⟩
theorem IzAt.here {w w' : World} {B B' : Nat} {a : Option Addr} {x : List Int} {c : Nat} (h : IzAt w B a x c) (hb : Below B' w w') (hB : B ≤ B') : IzAt w' w'.heap.size a x c :=
  (h.below hb hB).wider (h.below hb hB).2.2.1 (Nat.le_refl _)
theorem IzAt.mem {w : World} {B : Nat} {a : Option Addr} {x : List Int} {c : Nat} (h : IzAt w B a x c) {i : Nat} {q : Int} (hi : x[i]? = some q) :
    ∃ b off, a = some ⟨b, off, none⟩ ∧ b < B ∧ w.cell? ⟨b, off + i, none⟩ = some (.int .i64 q) := by
  obtain ⟨b, off, ha, hlt, hc⟩ := h.2.2.2 (fun e => by subst e; simp at hi)
  exact ⟨b, off, ha, hlt, hc i q hi⟩
theorem iz_nil (w : World) (B c : Nat) (hB : B ≤ w.heap.size) (hc : c ≤ 9223372036854775807) (a : Option Addr) : IzAt w B a [] c := ⟨by simp, hc, hB, by simp⟩
/-- ints as cells -/
def jzC (l : List Int) : List Value := l.map (fun n => .int .i64 n)
theorem jzC_len (l : List Int) : (jzC l).length = l.length := List.length_map _
theorem jzC_one (l : List Int) : ∀ u ∈ jzC l, u.oneCell' = true := by
  intro u hu
  obtain ⟨n, _, rfl⟩ := List.mem_map.1 hu
  rfl
theorem jz_own {w : World} {B : Nat} {a : Option Addr} {l : List Int} {c : Nat} (h : w.ownsRow B 3 1 (.slice a l.length c) l.length (jzC l)) : IzAt w w.heap.size a l c := by
  rcases h.2 with ⟨h1, h2⟩ | ⟨g, cap, cur, hv, hB, hg, h3, h4, h5, h6⟩
  · have hl : l = [] := List.length_eq_zero_iff.1 h2
    subst hl
    simp only [Value.slice.injEq, List.length_nil, true_and] at h1
    obtain ⟨rfl, rfl⟩ := h1
    exact iz_nil _ _ _ (Nat.le_refl _) (by omega) _
  · simp only [Value.slice.injEq, true_and] at hv
    obtain ⟨rfl, rfl⟩ := hv
    refine ⟨h3, by unfold maxLen at h4; omega, Nat.le_refl _, fun hn => ⟨g, 0, rfl, lt_of_heap hg, fun i q hi => ?_⟩⟩
    have hlt := (List.getElem?_eq_some_iff.1 hi).1
    have e : (jzC l)[i]? = some (.int .i64 q) := by rw [jzC, List.getElem?_map, hi]; rfl
    rw [Nat.zero_add]
    exact (h.cellAt i (by omega)).trans e
end Go.Proofs.Ytkihanmodfnpcaa
