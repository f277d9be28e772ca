/- What diff.Of, and the document's own Common and Cost, answer. -/
import Derived.Test.YtcghojnmnmmpoaaDiffSteps
namespace Go.Proofs.Ytcghojnmnmmpoaa
open Go.RowKit
set_option linter.unusedSimpArgs false
set_option linter.unusedVariables false

set_option maxRecDepth 20000 in
set_option maxHeartbeats 4000000 in
theorem DiffOf_ok (s t : ByteArray) (w : World) (hs : s.size ≤ 500) (ht : t.size ≤ 500) :
    Calls Try.prog 36 #[.string s, .string t] w fun e w' => ∃ a c, e = .returned (.tuple #[.slice a (diffL s.data.toList t.data.toList).length c, .int .i64 0]) ∧ PartsAt w' w'.heap.size a (diffL s.data.toList t.data.toList) ∧ Below w.heap.size w w' := by
  have hsl : s.data.toList.length = s.size := Array.length_toList
  have htl : t.data.toList.length = t.size := Array.length_toList
  obtain ⟨d1, d2, _⟩ := diff_facts (s := s.data.toList) (t := t.data.toList) (by omega) (by omega)
  have HD : Hid (normE (stepsL s.data.toList t.data.toList) = 0 ∧ normL (stepsL s.data.toList t.data.toList) = diffL s.data.toList t.data.toList) := ⟨d1, d2⟩
  clear hsl htl d1 d2
  go_enter Try.func36, Try.ntmps36
  go_wp2_with fail
  refine (shared_any s t _ hs ht).mono ?_
  rintro e w1 ⟨gt, gs, rfl, hT, hb1⟩
  have HT : Hid _ := hT
  have HB1 : Hid (Below w.heap.size w w1) := hb1
  clear hT hb1
  go_wp2_with fail
  refine (dsteps_any s t _ gt gs _ HT.out hs ht).mono ?_
  rintro e w2 ⟨a2, c2, rfl, hp2, hb2⟩
  have HP : Hid _ := hp2
  have HB2 : Hid (Below w.heap.size w w2) := HB1.out.trans (hb2.mono HB1.out.size)
  clear hp2 hb2
  go_wp2_with fail
  refine (Norm_any a2 _ c2 _ HP.out).mono ?_
  rintro e w3 ⟨a3, c3, rfl, hp3, hb3⟩
  rw [HD.out.2] at hp3 ⊢
  rw [HD.out.1]
  have HP3 : Hid _ := hp3
  have HB3 : Hid (Below w.heap.size w w3) := HB2.out.trans (hb3.mono HB2.out.size)
  clear hp3 hb3
  go_wp2_with fail
  go_ret2
  exact ⟨a3, c3, rfl, HP3.out, HB3.out⟩

set_option maxRecDepth 20000 in
set_option maxHeartbeats 4000000 in
theorem DiffOf_not (s t : ByteArray) (w : World) (h : 500 < s.size ∨ 500 < t.size) (hs : s.size ≤ 9223372036854775807) (ht : t.size ≤ 9223372036854775807) :
    Calls Try.prog 36 #[.string s, .string t] w fun e w' => e = .returned (.tuple #[.slice none 0 0, .int .i64 2]) ∧ w' = w := by
  go_enter Try.func36, Try.ntmps36
  by_cases h1 : 500 < s.size
  · clear h
    go_wp2_with fail
    go_ret2
    exact ⟨rfl, rfl⟩
  · have h2 : 500 < t.size := by omega
    clear h
    go_wp2_with fail
    go_ret2
    exact ⟨rfl, rfl⟩
end Go.Proofs.Ytcghojnmnmmpoaa
