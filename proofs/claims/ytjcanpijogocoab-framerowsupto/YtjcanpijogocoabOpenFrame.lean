/- An argument that is a frame, opened and shut. -/
import Derived.Test.YtjcanpijogocoabOpen
import Derived.ChangeSame
import Derived.ChangeMaps5
namespace Go.Proofs.Ytjcanpijogocoab
open Go.ChangeShapes Go.WideShapes Go.ChangeAt Go.RowKit
set_option linter.unusedSimpArgs false
set_option linter.unusedVariables false

theorem Try.cellsFrame : Try.prog.cellsOf 23 = 2 := by kernel_rfl
theorem open_frame {H : Type} {enc : TypeId × Value → H} {W : World} {base b2 : Nat} {sp : Nat → Bool} {v : Value} {d : DataW H} {ps : List MemPlace}
    (hv : Value.okWide Try.prog W .any base 23 v) (h : DataW.Trod enc Try.prog W b2 sp true 23 v d ps) :
    ∃ (k : Int) (t : ByteArray), v = .agg #[.int .i64 k, .string t] ∧ d = .agg [.lit (.int .i64 k), .lit (.string t.data.toList)] ∧ ps = [] ∧ (Lit.int .i64 k).wf = true ∧ t.size ≤ maxLen := by
  obtain ⟨⟨l⟩, rfl, hsz⟩ := okWide_struct Try.underlying23 hv
  rw [Try.cellsFrame] at hsz
  obtain ⟨fuel, hf⟩ := h
  obtain ⟨y0, y1, n, hx, _, h0, h1⟩ := trod_struct2 Try.underlying23 hf
  simp only [Value.cells, Try.cellsInt, Try.cellsString] at h0 h1
  match l, hsz with
  | [c0, c1], _ =>
    obtain ⟨k, e0, rfl, wk⟩ := DataW.trod_int Try.underlying3 h0
    obtain ⟨t, e1, rfl, ht⟩ := DataW.trod_string Try.underlying9 h1
    simp only [List.drop_zero, List.drop_succ_cons, List.take_succ_cons, List.take_zero, List.cons.injEq, and_true] at e0 e1
    subst e0 e1
    simp only [Prod.mk.injEq] at hx
    obtain ⟨rfl, rfl⟩ := hx
    exact ⟨k, t, rfl, rfl, rfl, wk, ht⟩
theorem shut_frame {H : Type} {enc : TypeId × Value → H} {W : World} {b2 : Nat} {sp : Nat → Bool} {k : Int} {t : ByteArray} (wk : (Lit.int .i64 k).wf = true) (ht : t.size ≤ maxLen) :
    DataW.Trod enc Try.prog W b2 sp true 23 (.agg #[.int .i64 k, .string t]) (.agg [.lit (.int .i64 k), .lit (.string t.data.toList)]) [] := by
  have r0 : DataW.trod enc Try.prog W b2 sp true 1 3 [.int .i64 k] = some (.lit (.int .i64 k), []) := by simp [DataW.trod, Try.underlying3, wk]
  have r1 : DataW.trod enc Try.prog W b2 sp true 1 9 [.string t] = some (.lit (.string t.data.toList), []) := by simp [DataW.trod, Try.underlying9, ht, ByteArray.toList_eq]
  refine ⟨2, ?_⟩
  have h := trod_struct2_mk (enc := enc) (w := W) (cs := [.int .i64 k, .string t]) Try.underlying23 Try.cellsFrame.symm r0 r1
  exact h
end Go.Proofs.Ytjcanpijogocoab
