/- The law CompSays, walked: it answers true. -/
import Derived.Test.YtdkmgcfdhlbpiaaRComp
import Derived.Test.YtdkmgcfdhlbpiaaSame
namespace Go.Proofs.Ytdkmgcfdhlbpiaa
open Go.RowKit
set_option linter.unusedSimpArgs false
set_option linter.unusedVariables false

set_option maxHeartbeats 1000000 in
theorem CompSays_any (a : Option Addr) (la : List Pt) (ca : Nat) (b : Option Addr) (lb : List Pt) (cb : Nat) (w : World) (ha : PartsAt w w.heap.size a la) (hb : PartsAt w w.heap.size b lb) (hca : la.length ≤ ca) (hcb : lb.length ≤ cb) :
    Calls Try.prog 3 #[.slice a la.length ca, .slice b lb.length cb] w fun e w' => e = .returned (.bool true) ∧ Below w.heap.size w w' := by
  have HA : Hid (PartsAt w w.heap.size a la) := ha
  have HB : Hid (PartsAt w w.heap.size b lb) := hb
  clear ha hb
  have hself : (compE la lb == compE la lb) = true := by simp
  go_enter Try.func3, Try.ntmps3
  go_wp2_with fail
  refine (CompOf_any a b la lb ca cb _ HA.out HB.out hca).mono ?_
  rintro e w1 ⟨a1, c1, rfl, hp1, hc1, hb1⟩
  have HE1 : Hid (Below w.heap.size w w1) := hb1
  have HQ1 : Hid (PartsAt w1 w1.heap.size a1 (compR la lb)) := hp1
  have HA1 : Hid (PartsAt w1 w1.heap.size a la) := HA.out.here hb1 (Nat.le_refl _)
  have HB1 : Hid (PartsAt w1 w1.heap.size b lb) := HB.out.here hb1 (Nat.le_refl _)
  clear hp1 hc1 hb1
  go_wp2_with fail
  refine (RComp_any a b la lb ca cb _ HA1.out HB1.out).mono ?_
  rintro e w2 ⟨a2, c2, rfl, hp2, hb2⟩
  have HE2 : Hid (Below w.heap.size w w2) := HE1.out.trans (hb2.mono HE1.out.size)
  have HP2 : Hid (PartsAt w2 w2.heap.size a2 (compR la lb)) := hp2
  have HQ2 : Hid (PartsAt w2 w2.heap.size a1 (compR la lb)) := HQ1.out.here hb2 (Nat.le_refl _)
  clear hp2 hb2
  go_wp2_with fail
  refine (Same_yes a1 a2 (compR la lb) c1 c2 _ HQ2.out HP2.out).mono ?_
  rintro e w3 ⟨rfl, hb3⟩
  have HE3 : Hid (Below w.heap.size w w3) := HE2.out.trans (hb3.mono HE2.out.size)
  clear hb3
  go_wp2_with fail
  go_ret
  exact ⟨rfl, HE3.out⟩

end Go.Proofs.Ytdkmgcfdhlbpiaa
