/- The law DiffSays, walked: it answers true. -/
import Derived.Test.YtbfabahdaacpfaaDiffKit
import Derived.Test.YtbfabahdaacpfaaDiffCommon
import Derived.Test.YtbfabahdaacpfaaPlDo
namespace Go.Proofs.Ytbfabahdaacpfaa
open Go.RowKit
set_option linter.unusedSimpArgs false
set_option linter.unusedVariables false

set_option maxRecDepth 100000 in
set_option maxHeartbeats 8000000 in
theorem DiffSays_any (s t : ByteArray) (w : World) (hs : s.size ≤ 9223372036854775807) (ht : t.size ≤ 9223372036854775807) :
    Calls Try.prog 3 #[.string s, .string t] w fun e w' => e = .returned (.bool true) ∧ Below w.heap.size w w' := by
  by_cases hle : s.size ≤ 500 ∧ t.size ≤ 500
  · obtain ⟨h1, h2⟩ := hle
    obtain ⟨d1, d2, d3, d4⟩ := diff_says h1 h2
    have HD : Hid (fitsE (diffL s.data.toList t.data.toList) s.size = 0 ∧ (⟨(doT (diffL s.data.toList t.data.toList) s).toArray⟩ : ByteArray) = t ∧ Small (diffL s.data.toList t.data.toList)) := ⟨d1, d2, d3⟩
    obtain ⟨c, hc⟩ : ∃ c, costI (diffL s.data.toList t.data.toList) = c := ⟨_, rfl⟩
    obtain ⟨m, hm⟩ : ∃ m, lcs s.data.toList t.data.toList = m := ⟨_, rfl⟩
    rw [hc, hm] at d4
    have HC : Hid (costI (diffL s.data.toList t.data.toList) = c ∧ lcs s.data.toList t.data.toList = m) := ⟨hc, hm⟩
    have heq : ((c : Int) == (s.size : Int) + (t.size : Int) - 2 * (m : Int)) = true := by simp; omega
    clear d1 d2 d3 hc hm hs ht
    go_enter Try.func3, Try.ntmps3
    go_wp2_with fail
    refine (DiffOf_ok s t _ h1 h2).mono ?_
    rintro e w1 ⟨a, ca, rfl, hp, hb⟩
    have HP1 : Hid (PartsAt w1 w1.heap.size a (diffL s.data.toList t.data.toList)) := hp
    have HB1 : Hid (Below w.heap.size w w1) := hb
    clear hp hb
    go_wp2_with fail
    refine (RDo_any a _ ca s _ HP1.out (by omega)).mono ?_
    rintro e w2 ⟨rfl, hb⟩
    rw [HD.out.1, HD.out.2.1]
    have HP2 : Hid (PartsAt w2 w2.heap.size a (diffL s.data.toList t.data.toList)) := HP1.out.here hb (Nat.le_refl _)
    have HB2 : Hid (Below w.heap.size w w2) := HB1.out.trans (hb.mono HB1.out.size)
    clear hb
    go_wp2_with fail
    refine (Cost_any a _ ca _ HP2.out HD.out.2.2).mono ?_
    rintro e w3 ⟨rfl, hb⟩
    rw [HC.out.1]
    have HB3 : Hid (Below w.heap.size w w3) := HB2.out.trans (hb.mono HB2.out.size)
    clear hb
    go_wp2_with fail
    refine (Common_any s t _ h1 h2).mono ?_
    rintro e w4 ⟨rfl, hb⟩
    rw [HC.out.2]
    have HB4 : Hid (Below w.heap.size w w4) := HB3.out.trans (hb.mono HB3.out.size)
    clear hb
    go_wp2_with fail
    go_ret
    refine ⟨?_, HB4.out⟩
    first | rfl | (simp; omega)
  · have hor : 500 < s.size ∨ 500 < t.size := by omega
    have HO : Hid _ := hor
    go_enter Try.func3, Try.ntmps3
    clear hle
    by_cases h1 : 500 < s.size
    · clear hor
      go_wp2_with fail
      refine (DiffOf_not s t _ HO.out hs ht).mono ?_
      rintro e w1 ⟨rfl, we⟩
      subst we
      go_wp2_with fail
      go_ret
      exact ⟨rfl, Below.refl _ _⟩
    · have h2 : 500 < t.size := by omega
      clear hor
      go_wp2_with fail
      refine (DiffOf_not s t _ HO.out hs ht).mono ?_
      rintro e w1 ⟨rfl, we⟩
      subst we
      go_wp2_with fail
      go_ret
      exact ⟨rfl, Below.refl _ _⟩
end Go.Proofs.Ytbfabahdaacpfaa
