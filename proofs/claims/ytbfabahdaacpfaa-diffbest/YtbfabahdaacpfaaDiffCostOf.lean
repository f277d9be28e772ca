/- What the laws' own cost answers. -/
import Derived.Test.YtbfabahdaacpfaaDiffKit
import Derived.Test.YtbfabahdaacpfaaDo
namespace Go.Proofs.Ytbfabahdaacpfaa
open Go.RowKit
set_option linter.unusedSimpArgs false
set_option linter.unusedVariables false

set_option maxRecDepth 20000 in
set_option maxHeartbeats 4000000 in
theorem cost_any (s t : ByteArray) (w : World) (h1 : s.size ≤ 500) (h2 : t.size ≤ 500) :
    Calls Try.prog 20 #[.string s, .string t] w fun e w' => ∃ c : Nat, e = .returned (.tuple #[.int .i64 c, .bool true]) ∧ c + 2 * lcs s.data.toList t.data.toList = s.size + t.size ∧ Below w.heap.size w w' := by
  obtain ⟨d1, d2, d3, d4⟩ := diff_says h1 h2
  have HD : Hid (fitsE (diffL s.data.toList t.data.toList) s.size = 0 ∧ (⟨(doT (diffL s.data.toList t.data.toList) s).toArray⟩ : ByteArray) = t ∧ Small (diffL s.data.toList t.data.toList)) := ⟨d1, d2, d3⟩
  obtain ⟨c, hc⟩ : ∃ c, costI (diffL s.data.toList t.data.toList) = c := ⟨_, rfl⟩
  rw [hc] at d4
  have HC : Hid (costI (diffL s.data.toList t.data.toList) = c) := hc
  have HQ : Hid (c + 2 * lcs s.data.toList t.data.toList = s.size + t.size) := d4
  clear d1 d2 d3 d4 hc
  go_enter Try.func20, Try.ntmps20
  go_wp2_with fail
  refine (DiffOf_ok s t _ h1 h2).mono ?_
  rintro e w1 ⟨a, ca, rfl, hp, hb⟩
  have HP1 : Hid (PartsAt w1 w1.heap.size a (diffL s.data.toList t.data.toList)) := hp
  have HB1 : Hid (Below w.heap.size w w1) := hb
  clear hp hb
  go_wp2_with fail
  refine (Do_any a _ ca s _ HP1.out (by omega)).mono ?_
  rintro e w2 ⟨rfl, hb⟩
  rw [HD.out.1, HD.out.2.1]
  have HP2 : Hid (PartsAt w2 w2.heap.size a (diffL s.data.toList t.data.toList)) := HP1.out.here hb (Nat.le_refl _)
  have HB2 : Hid (Below w.heap.size w w2) := HB1.out.trans (hb.mono HB1.out.size)
  clear hb
  go_wp2_with fail
  refine (Cost_any a _ ca _ HP2.out HD.out.2.2).mono ?_
  rintro e w3 ⟨rfl, hb⟩
  rw [HC.out]
  have HB3 : Hid (Below w.heap.size w w3) := HB2.out.trans (hb.mono HB2.out.size)
  clear hb
  go_wp2_with fail
  go_ret2
  refine ⟨c, ?_, HQ.out, HB3.out⟩
  first | rfl | (simp; done)
end Go.Proofs.Ytbfabahdaacpfaa
