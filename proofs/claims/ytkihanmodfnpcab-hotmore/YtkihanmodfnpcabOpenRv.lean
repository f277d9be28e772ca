/- An argument that is a revision, opened. -/
import Derived.Test.YtkihanmodfnpcabOpenRevs
namespace Go.Proofs.Ytkihanmodfnpcab
open Go.ChangeShapes Go.WideShapes Go.ChangeAt Go.RowKit
set_option linter.unusedSimpArgs false
set_option linter.unusedVariables false

set_option maxRecDepth 20000 in
theorem open_rv {H : Type} {enc : TypeId × Value → H} {W : World} {base : Nat} {v : Value} {d : DataW H} {ps : List MemPlace}
    (hv : Value.okWide Try.prog W .any base 25 v) (h : DataW.Trod enc Try.prog W 0 (fun _ => true) true 25 v d ps) :
    ∃ (r : Rv) (a : Option Addr) (c : Nat), v = .agg #[.int .i64 r.who, .int .i64 r.seq, .slice a r.d.length c] ∧ PartsAt W W.heap.size a r.d ∧ Room a r.d c ∧ wide r.who ∧ wide r.seq := by
  obtain ⟨⟨l⟩, rfl, hsz⟩ := okWide_struct Try.underlying25 hv
  rw [Try.cellsRev] at hsz
  obtain ⟨fuel, hf⟩ := h
  obtain ⟨y0, y1, y2, n, _, hl, h0, h1, h2⟩ := Deep.trod_struct3 Try.underlying25 hf
  simp only [Value.cells, Try.cellsRev, Try.cellsInt, Try.cellsParts] at h0 h1 h2
  match l, hsz with
  | [c0, c1, c2], _ =>
    simp only [List.drop_zero, List.drop_succ_cons, List.take_succ_cons, List.take_zero] at h0 h1 h2
    obtain ⟨k, e0, _, wk⟩ := DataW.trod_int Try.underlying3 h0
    obtain ⟨m, e1, _, wm⟩ := DataW.trod_int Try.underlying3 h1
    obtain ⟨ai, dl, ci, e2, hp, hr⟩ := open_delta h2
    simp only [List.cons.injEq, and_true] at e0 e1 e2
    subst e0 e1 e2
    exact ⟨⟨k, m, dl⟩, ai, ci, rfl, hp, hr, wf_bounds wk, wf_bounds wm⟩
end Go.Proofs.Ytkihanmodfnpcab
