/- The law CodeOne, walked: it answers true. -/
import Derived.Test.YtillooigiidpkaaCodeRead
import Derived.Test.YtillooigiidpkaaCodeWrite
import Derived.Test.YtillooigiidpkaaSame
import Derived.Test.YtillooigiidpkaaAll
namespace Go.Proofs.Ytillooigiidpkaa
open Go.RowKit
set_option linter.unusedSimpArgs false
set_option linter.unusedVariables false

theorem is_one : IsCode [1, 5] (allL 1) := by
  have he : allL 1 = [⟨1, 1, ByteArray.empty⟩] := rfl
  rw [he]
  refine ⟨by decide, ?_⟩
  have hc : codeN ⟨1, 1, ByteArray.empty⟩ = 5 := by decide
  rw [codeL]
  simp only [List.flatMap_cons, List.flatMap_nil, codeP, hc, List.length_singleton]
  rw [num_small (by omega), num_small (by omega)]
  rfl

set_option maxRecDepth 20000 in
set_option maxHeartbeats 8000000 in
theorem CodeOne_any (s : ByteArray) (w : World) (hs : s.size ≤ 9223372036854775807) :
    Calls Try.prog 7 #[.string s] w fun e w' => e = .returned (.bool true) ∧ Below w.heap.size w w' := by
  have HL : Hid _ := fun w => Read_ok ⟨#[1, 5]⟩ (allL 1) w (by decide) is_one
  by_cases h : ∃ d, IsCode s.data.toList d
  · obtain ⟨d, hd⟩ := h
    have HR : Hid _ := fun w => Read_ok s d w hs hd
    have HD : Hid (sizesE d = 0 ∧ codeL d = s.data.toList) := hd
    clear hd
    go_enter Try.func7, Try.ntmps7
    go_wp2_with fail
    refine (HL.out _).mono ?_
    rintro e w1 ⟨a1, c1, rfl, hp1, _, hb1⟩
    have HP1 : Hid (PartsAt w1 w1.heap.size a1 (allL 1)) := hp1
    have HW1 : Hid (Below w.heap.size w w1) := hb1
    clear hp1 hb1
    go_wp2_with fail
    refine (All_any 1 _ (by decide) (by decide)).mono ?_
    rintro e w2 ⟨a2, c2, rfl, hp2, hb2⟩
    have HP2 : Hid (PartsAt w2 w2.heap.size a2 (allL 1)) := hp2
    have HP12 : Hid (PartsAt w2 w2.heap.size a1 (allL 1)) := HP1.out.here hb2 (Nat.le_refl _)
    have HW2 : Hid (Below w.heap.size w w2) := HW1.out.trans (hb2.mono HW1.out.size)
    clear hp2 hb2
    go_wp2_with fail
    refine (Same_yes a1 a2 (allL 1) c1 c2 _ HP12.out HP2.out).mono ?_
    rintro e w3 ⟨rfl, hb3⟩
    have HW3 : Hid (Below w.heap.size w w3) := HW2.out.trans (hb3.mono HW2.out.size)
    clear hb3
    go_wp2_with fail
    refine (HR.out _).mono ?_
    rintro e w4 ⟨a4, c4, rfl, hp4, _, hb4⟩
    have HP4 : Hid (PartsAt w4 w4.heap.size a4 d) := hp4
    have HW4 : Hid (Below w.heap.size w w4) := HW3.out.trans (hb4.mono HW3.out.size)
    clear hp4 hb4
    go_wp2_with fail
    refine (Write_any a4 d c4 _ HP4.out).mono ?_
    rintro e w5 ⟨rfl, hb5⟩
    have HW5 : Hid (Below w.heap.size w w5) := HW4.out.trans (hb5.mono HW4.out.size)
    clear hb5
    have HT : Hid ((⟨(writeT d).toArray⟩ : ByteArray) = s) := by
      show _ = _
      rw [writeT, if_pos HD.out.1, HD.out.2]
    rw [HD.out.1, HT.out]
    go_wp2_with fail
    go_ret
    exact ⟨by first | rfl | simp, HW5.out⟩
  · have HR : Hid _ := fun w => Read_no s w hs (fun d hd => h ⟨d, hd⟩)
    clear h
    go_enter Try.func7, Try.ntmps7
    go_wp2_with fail
    refine (HL.out _).mono ?_
    rintro e w1 ⟨a1, c1, rfl, hp1, _, hb1⟩
    have HP1 : Hid (PartsAt w1 w1.heap.size a1 (allL 1)) := hp1
    have HW1 : Hid (Below w.heap.size w w1) := hb1
    clear hp1 hb1
    go_wp2_with fail
    refine (All_any 1 _ (by decide) (by decide)).mono ?_
    rintro e w2 ⟨a2, c2, rfl, hp2, hb2⟩
    have HP2 : Hid (PartsAt w2 w2.heap.size a2 (allL 1)) := hp2
    have HP12 : Hid (PartsAt w2 w2.heap.size a1 (allL 1)) := HP1.out.here hb2 (Nat.le_refl _)
    have HW2 : Hid (Below w.heap.size w w2) := HW1.out.trans (hb2.mono HW1.out.size)
    clear hp2 hb2
    go_wp2_with fail
    refine (Same_yes a1 a2 (allL 1) c1 c2 _ HP12.out HP2.out).mono ?_
    rintro e w3 ⟨rfl, hb3⟩
    have HW3 : Hid (Below w.heap.size w w3) := HW2.out.trans (hb3.mono HW2.out.size)
    clear hb3
    go_wp2_with fail
    refine (HR.out _).mono ?_
    rintro e w4 ⟨rfl, hb4⟩
    have HW4 : Hid (Below w.heap.size w w4) := HW3.out.trans (hb4.mono HW3.out.size)
    clear hb4
    go_wp2_with fail
    go_ret
    exact ⟨rfl, HW4.out⟩
end Go.Proofs.Ytillooigiidpkaa
