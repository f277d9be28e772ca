/- The law PartNorms, walked: it answers true. -/
import Derived.Test.YtjnjmphmhhandaaRNorm
import Derived.Test.YtjnjmphmhhandaaSame
namespace Go.Proofs.Ytjnjmphmhhandaa
open Go.RowKit
set_option linter.unusedSimpArgs false
set_option linter.unusedVariables false

set_option maxHeartbeats 1000000 in
theorem PartNorms_any (a : Option Addr) (l : List Pt) (cap : Nat) (w : World) (hp : PartsAt w w.heap.size a l) :
    Calls Try.prog 4 #[.slice a l.length cap] w fun e w' => e = .returned (.bool true) ∧ Below w.heap.size w w' := by
  have HP : Hid (PartsAt w w.heap.size a l) := hp
  clear hp
  go_enter Try.func4, Try.ntmps4
  go_wp2_with fail
  refine (Norm_any a l cap _ HP.out).mono ?_
  rintro e w1 ⟨a1, c1, rfl, hp1, hb1⟩
  have HN1 : Hid (PartsAt w1 w1.heap.size a1 (normL l)) := hp1
  have HB1 : Hid (Below w.heap.size w w1) := hb1
  have HP1 : Hid (PartsAt w1 w1.heap.size a l) := HP.out.here hb1 (Nat.le_refl _)
  clear hp1 hb1
  go_wp2_with fail
  refine (RNorm_any a l cap _ HP1.out).mono ?_
  rintro e w2 ⟨a2, c2, rfl, hp2, hb2⟩
  have HN2 : Hid (PartsAt w2 w2.heap.size a2 (normL l)) := hp2
  have HM2 : Hid (PartsAt w2 w2.heap.size a1 (normL l)) := HN1.out.here hb2 (Nat.le_refl _)
  have HB2 : Hid (Below w.heap.size w w2) := HB1.out.trans (hb2.mono HB1.out.size)
  clear hp2 hb2
  go_wp2_with fail
  refine (Same_yes a1 a2 (normL l) c1 c2 _ HM2.out HN2.out).mono ?_
  rintro e w3 ⟨rfl, hb3⟩
  have HB3 : Hid (Below w.heap.size w w3) := HB2.out.trans (hb3.mono HB2.out.size)
  clear hb3
  have hself : (normE l == normE l) = true := by simp
  go_wp2_with fail
  go_ret
  exact ⟨rfl, HB3.out⟩

end Go.Proofs.Ytjnjmphmhhandaa
