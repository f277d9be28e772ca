/- What the document's own Turn answers: the same as package turn's Of. -/
import Derived.Test.YtinhidddfpjjkabMadeWalk
import Derived.Test.YtinhidddfpjjkabDelta
import Derived.Test.YtinhidddfpjjkabPure
import Derived.Test.YtinhidddfpjjkabTurned
namespace Go.Proofs.Ytinhidddfpjjkab
open Go.RowKit
set_option linter.unusedSimpArgs false
set_option linter.unusedVariables false

theorem pairs_len (w : List Tok) (i k : Nat) : (pairsW w i k).length ≤ inW w := by
  induction w generalizing i k with
  | nil => simp [pairsW]
  | cons t w ih => cases t using Tok.by3 <;> simp [pairsW, inW] <;> first | exact ih _ _ | (have := ih (i + 1) k; omega)
theorem swap_snoc {ps : List (Nat × Nat)} {k i j : Nat} (h : ps[k]? = some (i, j)) : swapP (ps.take (k + 1)) = swapP (ps.take k) ++ [(j, i)] := by
  obtain ⟨hi, e⟩ := List.getElem?_eq_some_iff.1 h
  rw [List.take_succ_eq_append_getElem hi, e]; simp [swapP]
theorem made_bound {n : Nat} {kept : List (Nat × Nat)} {text : List UInt8} {l : List Pt} (h : madeL n kept text = l) (hz : sizesE l = 0) : Bound (madeL n kept text) := by
  rw [h]
  obtain ⟨h1, h2⟩ := sizes_zero hz
  have hR := sizes_right hz
  refine ⟨by have := h1.1; omega, fun p hp => ?_⟩
  have h3 := h1.2 p hp
  have h4 := (hR p hp).1
  exact ⟨by omega, by omega, by omega, by omega, by omega⟩


end Go.Proofs.Ytinhidddfpjjkab
