/- A list of parts that came in: nil has no room; and how many there may be. -/
import Derived.Test.YtcghojnmnmmpoaaOpenRevs
import Derived.SizedLaws
namespace Go.Proofs.Ytcghojnmnmmpoaa
open Go.ChangeShapes Go.WideShapes Go.ChangeAt Go.RowKit
set_option linter.unusedSimpArgs false
set_option linter.unusedVariables false

theorem Try.bytesPart : Try.prog.bytesOf 45 = 32 := by kernel_rfl

theorem open_cap {H : Type} {enc : TypeId × Value → H} {W : World} {a : Option Addr} {n cap : Nat} {d : DataW H} {ps : List MemPlace}
    (h : DataW.Trod enc Try.prog W 0 (fun _ => true) true 25 (.slice a n cap) d ps) : a = none → cap = 0 := by
  obtain ⟨fuel, hf⟩ := h
  intro ha
  rcases Deep.open_slice Try.underlying25 (by simpa [Value.cells] using hf) with ⟨hcs, _⟩ | ⟨a', len', cap', m, n', D, Pl, hcs, _⟩
  · simp only [List.cons.injEq, Value.slice.injEq, and_true] at hcs
    exact hcs.2.2
  · simp only [List.cons.injEq, Value.slice.injEq, and_true] at hcs
    rw [ha] at hcs
    cases hcs.1

theorem sized_parts {H : Type} {ts : List TypeId} {ds : List (DataW H)} (hsz : (DataW.weightsEach Try.prog ts ds).all (· ≤ reachBytes) = true) {j : Nat} (ht : ts[j]? = some 25) {d : DataW H} (hd : ds[j]? = some d) {l : List Pt}
    (h : (d = .nil ∧ l = []) ∨ ∃ sp, d = .slice (l.map ptData) sp) : l.length * 32 ≤ 140737488351232 := by
  rcases h with ⟨_, rfl⟩ | ⟨sp, rfl⟩
  · decide
  · have h1 := sized_slice hsz ht hd Try.underlying25
    rw [Try.bytesPart, List.length_map] at h1
    unfold reachBytes at h1
    omega

theorem sized_str {H : Type} {ts : List TypeId} {ds : List (DataW H)} (hsz : (DataW.weightsEach Try.prog ts ds).all (· ≤ reachBytes) = true) {j : Nat} {t : TypeId} (ht : ts[j]? = some t) {s : ByteArray} (hd : ds[j]? = some (.lit (.string s.data.toList))) : s.size ≤ 140737488355328 := by
  have h1 := sized_string hsz ht hd
  have h2 : s.data.toList.length = s.size := Array.length_toList
  unfold reachBytes at h1
  omega

end Go.Proofs.Ytcghojnmnmmpoaa
