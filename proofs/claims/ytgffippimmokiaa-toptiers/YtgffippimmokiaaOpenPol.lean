/- An argument that is a row of ints, opened. -/
import Derived.Test.YtgffippimmokiaaOpenRevs
import Derived.Test.YtgffippimmokiaaLogBox
import Derived.Test.YtgffippimmokiaaKeepOf
namespace Go.Proofs.Ytgffippimmokiaa
open Go.ChangeShapes Go.WideShapes Go.ChangeAt Go.RowKit
set_option linter.unusedSimpArgs false
set_option linter.unusedVariables false

theorem Try.cellsIntP : Try.prog.cellsOf 3 = 1 := by kernel_rfl
theorem Try.cellsIntsP : Try.prog.cellsOf 61 = 1 := by kernel_rfl
theorem open_one {H : Type} {enc : TypeId × Value → H} {W : World} {base fuel : Nat} {sp : Nat → Bool} {a : Addr} {cs : List Value} {x : DataW H × List MemPlace}
    (hc : W.cells? base a (Try.prog.cellsOf 3) = some cs) (h : DataW.trod enc Try.prog W base sp true fuel 3 cs = some x) :
    ∃ q : Int, a.block < W.heap.size ∧ a.spot = none ∧ W.cell? ⟨a.block, a.off, none⟩ = some (.int .i64 q) := by
  simp only [Try.cellsIntP] at hc
  have hb := World.cells?_block hc (by omega)
  obtain ⟨_, _, hcell⟩ := World.cells?_some hc
  obtain ⟨q, e0, _, _⟩ := DataW.trod_int Try.underlying3 h
  subst e0
  have g0 := hcell 0 (by omega)
  obtain ⟨b, off, spot⟩ := a
  have hspot : spot = none := by simpa [Addr.add] using World.cell?_spot (w := W) (show W.cell? (Addr.add ⟨b, off, spot⟩ 0) = some (.int .i64 q) by simpa using g0)
  subst hspot
  exact ⟨q, hb, rfl, by simpa [Addr.add] using g0⟩
set_option maxRecDepth 20000 in
theorem open_ints {H : Type} {enc : TypeId × Value → H} {W : World} {base fuel : Nat} {sp : Nat → Bool} {cs : List Value} {x : DataW H × List MemPlace}
    (h : DataW.trod enc Try.prog W base sp true fuel 61 cs = some x) :
    ∃ (a : Option Addr) (l : List Int) (cap : Nat), cs = [.slice a l.length cap] ∧ IzAt W W.heap.size a l cap ∧ (a = none → cap = 0) := by
  rcases Deep.open_slice Try.underlying61 h with ⟨hcs, hx⟩ | ⟨a, len, cap, m, n, D, Pl, hcs, hb, hl, hm, hmm, hx, hel⟩
  · exact ⟨none, [], 0, hcs, iz_nil _ _ _ (Nat.le_refl _) (by simp) _, fun _ => rfl⟩
  · have hlm : len ≤ m := by rw [hmm]; split <;> omega
    have hmc : cap ≤ 9223372036854775807 := by unfold maxLen at hm; omega
    obtain ⟨P, hP⟩ := Deep.choose_lt (n := len) (p := fun i (q : Int) => (a.add (i * 1)).block < W.heap.size ∧ (a.add (i * 1)).spot = none ∧ W.cell? ⟨(a.add (i * 1)).block, (a.add (i * 1)).off, none⟩ = some (.int .i64 q)) (fun i hi => by
        obtain ⟨cs', hc, ht⟩ := hel i (by omega)
        have h := open_one hc ht
        simp only [Try.cellsIntP] at h
        exact h)
    refine ⟨some a, (List.range len).map P, cap, by rw [hcs]; simp, ⟨by simpa using hl, hmc, Nat.le_refl _, ?_⟩, fun e => by cases e⟩
    intro hn
    have hpos : 0 < len := by
      rcases Nat.eq_zero_or_pos len with h0 | h0
      · subst h0; simp at hn
      · exact h0
    obtain ⟨b, off, spot⟩ := a
    have hspot : spot = none := by simpa [Addr.add] using (hP 0 hpos).2.1
    subst hspot
    have hbl : b < W.heap.size := by simpa [Addr.add] using (hP 0 hpos).1
    refine ⟨b, off, rfl, hbl, fun i p hi => ?_⟩
    obtain ⟨hil, hif⟩ := List.getElem?_eq_some_iff.1 hi
    have hil' : i < len := by simpa using hil
    have hif' : P i = p := by simpa using hif
    obtain ⟨_, _, c1⟩ := hP i hil'
    rw [hif', Addr.add_lit, Nat.mul_one] at c1
    exact c1
set_option maxRecDepth 20000 in
theorem open_intl {H : Type} {enc : TypeId × Value → H} {W : World} {base : Nat} {v : Value} {d : DataW H} {ps : List MemPlace}
    (hv : Value.okWide Try.prog W .any base 61 v) (h : DataW.Trod enc Try.prog W 0 (fun _ => true) true 61 v d ps) :
    ∃ (a : Option Addr) (l : List Int) (cap : Nat), v = .slice a l.length cap ∧ IzAt W W.heap.size a l cap := by
  obtain ⟨a0, len, cap, rfl⟩ := okWide_slice Try.underlying61 hv
  obtain ⟨fuel, hf⟩ := h
  obtain ⟨a, l, c, e, hi, _⟩ := open_ints (by simpa [Value.cells] using hf)
  simp only [List.cons.injEq, and_true] at e
  exact ⟨a, l, c, e, hi⟩
end Go.Proofs.Ytgffippimmokiaa

/- An argument that is a policy, opened: what lies where. -/
namespace Go.Proofs.Ytgffippimmokiaa
open Go.ChangeShapes Go.WideShapes Go.ChangeAt Go.RowKit
set_option linter.unusedSimpArgs false
set_option linter.unusedVariables false

theorem Try.cellsPol : Try.prog.cellsOf 63 = 3 := by kernel_rfl
set_option maxRecDepth 20000 in
theorem open_policy {H : Type} {enc : TypeId × Value → H} {W : World} {base b2 : Nat} {sp : Nat → Bool} {v : Value} {d : DataW H} {ps : List MemPlace}
    (hv : Value.okWide Try.prog W .any base 63 v) (h : DataW.Trod enc Try.prog W b2 sp true 63 v d ps) :
    ∃ (last every : Int) (a : Option Addr) (pins : List Int) (c : Nat), v = polV last every a pins.length c ∧ IzAt W W.heap.size a pins c ∧ (a = none → c = 0) := by
  obtain ⟨⟨l⟩, rfl, hsz⟩ := okWide_struct Try.underlying63 hv
  rw [Try.cellsPol] at hsz
  obtain ⟨fuel, hf⟩ := h
  obtain ⟨y0, y1, y2, n, hx, hl, h0, h1, h2⟩ := Deep.trod_struct3 Try.underlying63 hf
  simp only [Value.cells, Try.cellsIntP, Try.cellsIntsP] at h0 h1 h2
  match l, hsz with
  | [c0, c1, c2], _ =>
    simp only [List.drop_zero, List.drop_succ_cons, List.take_succ_cons, List.take_zero] at h0 h1 h2
    obtain ⟨k, e0, _, wk⟩ := DataW.trod_int Try.underlying3 h0
    obtain ⟨m, e1, _, wm⟩ := DataW.trod_int Try.underlying3 h1
    obtain ⟨ai, pins, ci, e2, hp, hr⟩ := open_ints h2
    simp only [List.cons.injEq, and_true] at e0 e1 e2
    subst e0 e1 e2
    exact ⟨k, m, ai, pins, ci, rfl, hp, hr⟩
end Go.Proofs.Ytgffippimmokiaa
