/- The law PartChecks, walked: it answers true. -/
import Derived.Test.YtjnjmphmhhandaaDeltaWalk
namespace Go.Proofs.Ytjnjmphmhhandaa
open Go.RowKit
set_option linter.unusedSimpArgs false
set_option linter.unusedVariables false

theorem sizes_zero {l : List Pt} (h : sizesE l = 0) : Small l ∧ sizesIn l = inI l ∧ sizesOut l = outI l := by
  have h0 : partsE l = 0 := by
    unfold sizesE at h
    split at h
    · assumption
    · contradiction
  have hs : scanE 0 l = 0 := by
    unfold partsE at h0
    split at h0
    · omega
    · exact h0
  obtain ⟨e1, e2⟩ := right_in hs
  exact ⟨parts_small h0, by simp [sizesIn, h, e1], by simp [sizesOut, h, e2]⟩

set_option maxHeartbeats 1000000 in
theorem PartChecks_any (a : Option Addr) (l : List Pt) (cap : Nat) (w : World) (hp : PartsAt w w.heap.size a l) :
    Calls Try.prog 3 #[.slice a l.length cap] w fun e w' => e = .returned (.bool true) ∧ Below w.heap.size w w' := by
  have HP : Hid (PartsAt w w.heap.size a l) := hp
  clear hp
  go_enter Try.func3, Try.ntmps3
  go_wp2_with fail
  refine (Sizes_any a l cap _ HP.out).mono ?_
  rintro e w1 ⟨rfl, hb1⟩
  have HB1 : Hid (Below w.heap.size w w1) := hb1
  have HP1 : Hid (PartsAt w1 w1.heap.size a l) := HP.out.here hb1 (Nat.le_refl _)
  clear hb1
  go_wp2_with fail
  refine (Delta_any a l cap _ HP1.out).mono ?_
  rintro e w2 ⟨rfl, hb2⟩
  have HB2 : Hid (Below w.heap.size w w2) := HB1.out.trans (hb2.mono HB1.out.size)
  have HP2 : Hid (PartsAt w2 w2.heap.size a l) := HP1.out.here hb2 (Nat.le_refl _)
  clear hb2
  go_wp2_with fail
  refine (Check_any a l cap _ HP2.out).mono ?_
  rintro e w3 ⟨rfl, hb3⟩
  have HB3 : Hid (Below w.heap.size w w3) := HB2.out.trans (hb3.mono HB2.out.size)
  have HP3 : Hid (PartsAt w3 w3.heap.size a l) := HP2.out.here hb3 (Nat.le_refl _)
  clear hb3
  have hself : (sizesE l != sizesE l) = false := by simp
  by_cases h0 : sizesE l = 0
  · obtain ⟨hsm, e1, e2⟩ := sizes_zero h0
    have HSM : Hid (Small l) := hsm
    have h0' : (sizesE l != 0) = false := by simp [h0]
    have h0'' : (sizesE l == 0) = true := by simp [h0]
    have t1 : (sizesIn l == inI l) = true := by simp [e1]
    have t2 : (sizesOut l == outI l) = true := by simp [e2]
    clear e1 e2 hsm h0
    go_wp2_with fail
    refine (In_any a l cap _ HP3.out HSM.out).mono ?_
    rintro e w4 ⟨rfl, hb4⟩
    have HB4 : Hid (Below w.heap.size w w4) := HB3.out.trans (hb4.mono HB3.out.size)
    have HP4 : Hid (PartsAt w4 w4.heap.size a l) := HP3.out.here hb4 (Nat.le_refl _)
    clear hb4
    go_wp2_with fail
    refine (Out_any a l cap _ HP4.out HSM.out).mono ?_
    rintro e w5 ⟨rfl, hb5⟩
    have HB5 : Hid (Below w.heap.size w w5) := HB4.out.trans (hb5.mono HB4.out.size)
    clear hb5
    go_wp2_with fail
    go_ret
    exact ⟨rfl, HB5.out⟩
  · have h0' : (sizesE l != 0) = true := by simp [h0]
    have hs2 : (sizesE l == sizesE l) = true := by simp
    have t1 : (sizesIn l == 0) = true := by simp [sizesIn, h0]
    have t2 : (sizesOut l == 0) = true := by simp [sizesOut, h0]
    clear h0
    go_wp2_with fail
    go_ret
    exact ⟨rfl, HB3.out⟩

end Go.Proofs.Ytjnjmphmhhandaa
