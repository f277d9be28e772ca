/- An argument that is a policy, opened: what lies where. -/
import Derived.Test.YtgffippimmokiaaOpenRevs
import Derived.Test.YtgffippimmokiaaKeepOf
import Derived.Test.YtgffippimmokiaaOpenIz
namespace Go.Proofs.Ytgffippimmokiaa
open Go.ChangeShapes Go.WideShapes Go.ChangeAt Go.RowKit
set_option linter.unusedSimpArgs false
set_option linter.unusedVariables false

theorem Try.cellsPol : Try.prog.cellsOf 63 = 3 := by kernel_rfl
set_option maxRecDepth 20000 in
theorem open_policy {H : Type} {enc : TypeId × Value → H} {W : World} {base b2 : Nat} {sp : Nat → Bool} {v : Value} {d : DataW H} {ps : List MemPlace}
    (hv : Value.okWide Try.prog W .any base 63 v) (h : DataW.Trod enc Try.prog W b2 sp true 63 v d ps) :
    ∃ (last every : Int) (a : Option Addr) (pins : List Int) (c : Nat), v = polV last every a pins.length c ∧ IzAt W W.heap.size a pins c ∧ (a = none → c = 0) := by
  obtain ⟨⟨l⟩, rfl, hsz⟩ := okWide_struct Try.underlying63 hv
  rw [Try.cellsPol] at hsz
  obtain ⟨fuel, hf⟩ := h
  obtain ⟨y0, y1, y2, n, hx, hl, h0, h1, h2⟩ := Deep.trod_struct3 Try.underlying63 hf
  simp only [Value.cells, Try.cellsIntP, Try.cellsIntsP] at h0 h1 h2
  match l, hsz with
  | [c0, c1, c2], _ =>
    simp only [List.drop_zero, List.drop_succ_cons, List.take_succ_cons, List.take_zero] at h0 h1 h2
    obtain ⟨k, e0, _, wk⟩ := DataW.trod_int Try.underlying3 h0
    obtain ⟨m, e1, _, wm⟩ := DataW.trod_int Try.underlying3 h1
    obtain ⟨ai, pins, ci, e2, hp, hr⟩ := open_ints h2
    simp only [List.cons.injEq, and_true] at e0 e1 e2
    subst e0 e1 e2
    exact ⟨k, m, ai, pins, ci, rfl, hp, hr⟩
end Go.Proofs.Ytgffippimmokiaa
