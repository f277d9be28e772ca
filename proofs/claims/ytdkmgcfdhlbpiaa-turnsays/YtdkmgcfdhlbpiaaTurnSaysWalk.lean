/- The law TurnSays, walked: it answers true. -/
import Derived.Test.YtdkmgcfdhlbpiaaRTurn
import Derived.Test.YtdkmgcfdhlbpiaaSame
namespace Go.Proofs.Ytdkmgcfdhlbpiaa
open Go.RowKit
set_option linter.unusedSimpArgs false
set_option linter.unusedVariables false

set_option maxHeartbeats 1000000 in
theorem TurnSays_any (a : Option Addr) (l : List Pt) (cap : Nat) (s : ByteArray) (w : World) (hp : PartsAt w w.heap.size a l) (hs : s.size ≤ 9223372036854775807) :
    Calls Try.prog 4 #[.slice a l.length cap, .string s] w fun e w' => e = .returned (.bool true) ∧ Below w.heap.size w w' := by
  have HP : Hid (PartsAt w w.heap.size a l) := hp
  clear hp
  have hself : (fitsE l s.size == fitsE l s.size) = true := by simp
  go_enter Try.func4, Try.ntmps4
  go_wp2_with fail
  refine (TurnOf_any a l cap s _ HP.out hs).mono ?_
  rintro e w1 ⟨a1, c1, rfl, hp1, hc1, hb1⟩
  have HE1 : Hid (Below w.heap.size w w1) := hb1
  have HQ1 : Hid (PartsAt w1 w1.heap.size a1 (turnR l s)) := hp1
  have HP1 : Hid (PartsAt w1 w1.heap.size a l) := HP.out.here hb1 (Nat.le_refl _)
  clear hp1 hc1 hb1
  go_wp2_with fail
  refine (RTurn_any a l cap s _ HP1.out hs).mono ?_
  rintro e w2 ⟨a2, c2, rfl, hp2, hb2⟩
  have HE2 : Hid (Below w.heap.size w w2) := HE1.out.trans (hb2.mono HE1.out.size)
  have HP2 : Hid (PartsAt w2 w2.heap.size a2 (turnR l s)) := hp2
  have HQ2 : Hid (PartsAt w2 w2.heap.size a1 (turnR l s)) := HQ1.out.here hb2 (Nat.le_refl _)
  clear hp2 hb2
  go_wp2_with fail
  refine (Same_yes a1 a2 (turnR l s) c1 c2 _ HQ2.out HP2.out).mono ?_
  rintro e w3 ⟨rfl, hb3⟩
  have HE3 : Hid (Below w.heap.size w w3) := HE2.out.trans (hb3.mono HE2.out.size)
  clear hb3
  go_wp2_with fail
  go_ret
  exact ⟨rfl, HE3.out⟩

end Go.Proofs.Ytdkmgcfdhlbpiaa
