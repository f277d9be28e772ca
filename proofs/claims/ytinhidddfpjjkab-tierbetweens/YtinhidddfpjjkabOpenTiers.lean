/- An argument that is tiers, opened: what lies where. -/
import Derived.Test.YtinhidddfpjjkabOpenRevs
import Derived.Test.YtinhidddfpjjkabTierMem
namespace Go.Proofs.Ytinhidddfpjjkab
open Go.ChangeShapes Go.WideShapes Go.ChangeAt Go.RowKit
set_option linter.unusedSimpArgs false
set_option linter.unusedVariables false

theorem Try.cellsRow : Try.prog.cellsOf 40 = 1 := by kernel_rfl
set_option maxRecDepth 20000 in
theorem one_at {W : World} {base : Nat} {a : Addr} {v : Value} (hc : W.cells? base a 1 = some [v]) : a.block < W.heap.size ∧ a.spot = none ∧ W.cell? ⟨a.block, a.off, none⟩ = some v := by
  have hb := World.cells?_block hc (by omega)
  obtain ⟨_, _, hcell⟩ := World.cells?_some hc
  have g0 := hcell 0 (by omega)
  obtain ⟨b, off, spot⟩ := a
  have hspot : spot = none := by simpa [Addr.add] using World.cell?_spot (w := W) (show W.cell? (Addr.add ⟨b, off, spot⟩ 0) = some v by simpa using g0)
  subst hspot
  exact ⟨hb, rfl, by simpa [Addr.add] using g0⟩
set_option maxRecDepth 20000 in
theorem open_row {H : Type} {enc : TypeId × Value → H} {W : World} {base fuel : Nat} {sp : Nat → Bool} {cs : List Value} {x : DataW H × List MemPlace}
    (h : DataW.trod enc Try.prog W base sp true fuel 40 cs = some x) :
    ∃ (a : Option Addr) (X : List (List Pt)) (cap : Nat), cs = [.slice a X.length cap] ∧ RowAt W W.heap.size a X cap := by
  rcases Deep.open_slice Try.underlying40 h with ⟨hcs, hx⟩ | ⟨a, len, cap, m, n, D, Pl, hcs, hb, hl, hm, hmm, hx, hel⟩
  · exact ⟨none, [], 0, hcs, row_nil W _ (Nat.le_refl _)⟩
  · have hlm : len ≤ m := by rw [hmm]; split <;> omega
    have hcm : cap ≤ 9223372036854775807 := by
      unfold maxLen at hm
      omega
    have inh : Inhabited (List Pt) := ⟨[]⟩
    obtain ⟨P, hP⟩ := Deep.choose_lt (n := len) (p := fun i (l : List Pt) => (a.add (i * 1)).block < W.heap.size ∧ (a.add (i * 1)).spot = none ∧ ∃ ai ci, W.cell? ⟨(a.add (i * 1)).block, (a.add (i * 1)).off, none⟩ = some (.slice ai l.length ci) ∧ PartsAt W W.heap.size ai l ∧ Room ai l ci) (fun i hi => by
        obtain ⟨cs', hc, ht⟩ := hel i (by omega)
        obtain ⟨ai, l, ci, e, h1, h2⟩ := open_delta ht
        simp only [Try.cellsParts] at hc
        subst e
        obtain ⟨k1, k2, k3⟩ := one_at hc
        exact ⟨l, by simpa [Try.cellsParts] using k1, by simpa [Try.cellsParts] using k2, ai, ci, by simpa [Try.cellsParts] using k3, h1, h2⟩)
    refine ⟨some a, (List.range len).map P, cap, by rw [hcs]; simp, by simpa using hl, hcm, Nat.le_refl _, ?_⟩
    intro hn
    have hpos : 0 < len := by
      rcases Nat.eq_zero_or_pos len with h0 | h0
      · subst h0; simp at hn
      · exact h0
    obtain ⟨b, off, spot⟩ := a
    have hspot : spot = none := by simpa [Addr.add] using (hP 0 hpos).2.1
    subst hspot
    have hbl : b < W.heap.size := by simpa [Addr.add] using (hP 0 hpos).1
    refine ⟨b, off, rfl, hbl, fun i r hi => ?_⟩
    obtain ⟨hil, hif⟩ := List.getElem?_eq_some_iff.1 hi
    have hil' : i < len := by simpa using hil
    have hif' : P i = r := by simpa using hif
    obtain ⟨_, _, ai, ci, k1, k2, k3⟩ := hP i hil'
    rw [hif', Addr.add_lit, Nat.mul_one] at k1
    rw [hif'] at k2 k3
    exact ⟨ai, ci, k1, k2, k3⟩
set_option maxRecDepth 20000 in
theorem open_tiers {H : Type} {enc : TypeId × Value → H} {W : World} {base : Nat} {v : Value} {d : DataW H} {ps : List MemPlace}
    (hv : Value.okWide Try.prog W .any base 23 v) (h : DataW.Trod enc Try.prog W 0 (fun _ => true) true 23 v d ps) :
    ∃ (a : Option Addr) (T : List (List (List Pt))) (cap : Nat), v = .slice a T.length cap ∧ TiersAt W W.heap.size a T cap ∧ T.length ≤ cap := by
  obtain ⟨a0, len, cap, rfl⟩ := okWide_slice Try.underlying23 hv
  obtain ⟨fuel, hf⟩ := h
  rcases Deep.open_slice Try.underlying23 (by simpa [Value.cells] using hf) with ⟨hcs, hx⟩ | ⟨a, len', cap', m, n, D, Pl, hcs, hb, hl, hm, hmm, hx, hel⟩
  · simp only [List.cons.injEq, Value.slice.injEq, and_true] at hcs
    obtain ⟨rfl, rfl, rfl⟩ := hcs
    exact ⟨none, [], 0, rfl, tiers_nil W _ (Nat.le_refl _), Nat.le_refl _⟩
  · simp only [List.cons.injEq, Value.slice.injEq, and_true] at hcs
    obtain ⟨rfl, rfl, rfl⟩ := hcs
    have hlm : len ≤ m := by rw [hmm]; split <;> omega
    have hcm : cap ≤ 9223372036854775807 := by
      unfold maxLen at hm
      omega
    have inh : Inhabited (List (List Pt)) := ⟨[]⟩
    obtain ⟨P, hP⟩ := Deep.choose_lt (n := len) (p := fun i (X : List (List Pt)) => (a.add (i * 1)).block < W.heap.size ∧ (a.add (i * 1)).spot = none ∧ ∃ ai ci, W.cell? ⟨(a.add (i * 1)).block, (a.add (i * 1)).off, none⟩ = some (.slice ai X.length ci) ∧ RowAt W W.heap.size ai X ci) (fun i hi => by
        obtain ⟨cs', hc, ht⟩ := hel i (by omega)
        obtain ⟨ai, l, ci, e, h1⟩ := open_row ht
        simp only [Try.cellsRow] at hc
        subst e
        obtain ⟨k1, k2, k3⟩ := one_at hc
        exact ⟨l, by simpa [Try.cellsRow] using k1, by simpa [Try.cellsRow] using k2, ai, ci, by simpa [Try.cellsRow] using k3, h1⟩)
    refine ⟨some a, (List.range len).map P, cap, by simp, ⟨by simpa using hl, hcm, Nat.le_refl _, ?_⟩, by simpa using hl⟩
    intro hn
    have hpos : 0 < len := by
      rcases Nat.eq_zero_or_pos len with h0 | h0
      · subst h0; simp at hn
      · exact h0
    obtain ⟨b, off, spot⟩ := a
    have hspot : spot = none := by simpa [Addr.add] using (hP 0 hpos).2.1
    subst hspot
    have hbl : b < W.heap.size := by simpa [Addr.add] using (hP 0 hpos).1
    refine ⟨b, off, rfl, hbl, fun i r hi => ?_⟩
    obtain ⟨hil, hif⟩ := List.getElem?_eq_some_iff.1 hi
    have hil' : i < len := by simpa using hil
    have hif' : P i = r := by simpa using hif
    obtain ⟨_, _, ai, ci, k1, k2⟩ := hP i hil'
    rw [hif', Addr.add_lit, Nat.mul_one] at k1
    rw [hif'] at k2
    exact ⟨ai, ci, k1, k2⟩
end Go.Proofs.Ytinhidddfpjjkab
