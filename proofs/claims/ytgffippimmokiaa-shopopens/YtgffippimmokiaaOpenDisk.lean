/- An argument that is a disk, opened. -/
import Derived.Test.YtgffippimmokiaaOpenRevs
import Derived.OpenShut
namespace Go.Proofs.Ytgffippimmokiaa
open Go.ChangeShapes Go.WideShapes Go.ChangeAt Go.RowKit
set_option linter.unusedSimpArgs false
set_option linter.unusedVariables false

theorem Try.cellsDisk : Try.prog.cellsOf 26 = 4 := by kernel_rfl
theorem Try.cellsSlots : Try.prog.cellsOf 24 = 4 := by kernel_rfl
theorem Try.cellsSlot : Try.prog.cellsOf 23 = 2 := by kernel_rfl
theorem Try.cellsIntD : Try.prog.cellsOf 3 = 1 := by kernel_rfl
theorem Try.cellsStringD : Try.prog.cellsOf 9 = 1 := by kernel_rfl
set_option maxRecDepth 20000 in
theorem open_slot {H : Type} {enc : TypeId × Value → H} {W : World} {base fuel : Nat} {sp : Nat → Bool} {c0 c1 : Value} {x : DataW H × List MemPlace}
    (h : DataW.trod enc Try.prog W base sp true fuel 23 [c0, c1] = some x) :
    ∃ (t : ByteArray) (k : Int), c0 = .string t ∧ c1 = .int .i64 k ∧ t.size ≤ maxLen ∧ (Lit.int .i64 k).wf = true := by
  obtain ⟨y0, y1, n, hx, _, h0, h1⟩ := trod_struct2 Try.underlying23 h
  simp only [Try.cellsIntD, Try.cellsStringD] at h0 h1
  obtain ⟨t, e1, _, ht⟩ := DataW.trod_string Try.underlying9 h0
  obtain ⟨k, e0, _, wk⟩ := DataW.trod_int Try.underlying3 h1
  simp only [List.drop_zero, List.drop_succ_cons, List.take_succ_cons, List.take_zero, List.cons.injEq, and_true] at e0 e1
  exact ⟨t, k, e1, e0, ht, wk⟩
set_option maxRecDepth 20000 in
theorem open_disk {H : Type} {enc : TypeId × Value → H} {W : World} {base b2 : Nat} {sp : Nat → Bool} {v : Value} {d : DataW H} {ps : List MemPlace}
    (hv : Value.okWide Try.prog W .any base 26 v) (h : DataW.Trod enc Try.prog W b2 sp true 26 v d ps) :
    ∃ (a : ByteArray) (x : Int) (b : ByteArray) (y : Int), v = .agg #[.string a, .int .i64 x, .string b, .int .i64 y] ∧ (Lit.int .i64 x).wf = true ∧ (Lit.int .i64 y).wf = true ∧ a.size ≤ maxLen ∧ b.size ≤ maxLen := by
  obtain ⟨⟨l⟩, rfl, hsz⟩ := okWide_struct Try.underlying26 hv
  rw [Try.cellsDisk] at hsz
  obtain ⟨fuel, hf⟩ := h
  obtain ⟨y0, n, hx, _, h0⟩ := trod_struct1 Try.underlying26 hf
  simp only [Value.cells, Try.cellsSlots] at h0
  match l, hsz with
  | [c0, c1, c2, c3], _ =>
    obtain ⟨xs, m, _, _, _, hlen, hel⟩ := DataW.trod_array Try.underlying24 h0
    have e0 := hel 0 (by omega)
    have e1 := hel 1 (by omega)
    simp only [Try.cellsSlot, Nat.zero_mul, Nat.one_mul, List.drop_zero, List.drop_succ_cons, List.take_succ_cons, List.take_zero] at e0 e1
    match xs, hlen with
    | [z0, z1], _ =>
      obtain ⟨a, x, rfl, rfl, ha, hx⟩ := open_slot (x := z0) e0
      obtain ⟨b, y, rfl, rfl, hb, hy⟩ := open_slot (x := z1) e1
      exact ⟨a, x, b, y, rfl, hx, hy, ha, hb⟩
end Go.Proofs.Ytgffippimmokiaa
