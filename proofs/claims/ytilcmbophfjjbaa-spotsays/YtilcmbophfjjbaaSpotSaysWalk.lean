/- The law SpotSays, walked: it answers true. -/
import Derived.Test.YtilcmbophfjjbaaSpotOf
import Derived.Test.YtilcmbophfjjbaaRSpot
import Derived.Test.YtilcmbophfjjbaaDeltaWalk
import Derived.Test.YtilcmbophfjjbaaSums
namespace Go.Proofs.Ytilcmbophfjjbaa
open Go.RowKit
set_option linter.unusedSimpArgs false
set_option linter.unusedVariables false

set_option maxRecDepth 100000 in
set_option maxHeartbeats 8000000 in
theorem SpotSays_any (a : Option Addr) (la : List Pt) (ca : Nat) (i : Int) (late : Bool) (w : World) (h_a : PartsAt w w.heap.size a la) (k_a : la.length ≤ ca)  (w_i : -9223372036854775808 ≤ i ∧ i ≤ 9223372036854775807) :
    Calls Try.prog 4 #[.slice a la.length ca, .int .i64 i, .bool late] w fun e w' => e = .returned (.bool true) ∧ Below w.heap.size w w' := by
  have HE0 : Hid (Below w.heap.size w w) := Below.refl _ _
  have H0_a : Hid (PartsAt w w.heap.size a la) := h_a
  clear h_a
  go_enter Try.func4, Try.ntmps4
  go_wp2_with fail
  refine (SpotOf_any a (la) ca i late _ H0_a.out w_i).mono ?_
  rintro e w1 ⟨rfl, hb⟩
  have HE1 : Hid (Below w.heap.size w w1) := HE0.out.trans (hb.mono HE0.out.size)
  have H1_a : Hid (PartsAt w1 w1.heap.size a (la)) := H0_a.out.here hb (Nat.le_refl _)
  clear hb
  go_wp2_with fail
  refine (Delta_any a la ca _ H1_a.out).mono ?_
  rintro e w2 ⟨rfl, hb⟩
  have HE2 : Hid (Below w.heap.size w w2) := HE1.out.trans (hb.mono HE1.out.size)
  have H2_a : Hid (PartsAt w2 w2.heap.size a (la)) := H1_a.out.here hb (Nat.le_refl _)
  clear hb
  by_cases h0 : sizesE la = 0
  · obtain ⟨hsm, e1, e2⟩ := sizes_zero h0
    obtain ⟨g, cn, ii, oo, b1, b2⟩ := delta_facts h0
    have HSM : Hid (Small la) := hsm
    have HZ : Hid (sizesE la = 0) := h0
    have r0 : (sizesE la == 0) = true := by simp [h0]
    have r0' : (sizesE la != 0) = false := by simp [h0]
    have hin0 : 0 ≤ inI la := by omega
    have hin5 : inI la ≤ 500 := by omega
    clear e1 e2 g cn ii oo b1 b2 hsm
    by_cases hn : i < 0
    · have HE : Hid (spotE la i = 1 ∧ spotR la i late = 0) := by
        have e : spotE la i = 1 := by rw [spotE, if_pos h0, if_pos (by omega)]
        exact ⟨e, by rw [spotR, if_neg (by omega)]⟩
      rw [HE.out.1, HE.out.2]
      have d1 : decide (i < 0) = true := by simp [hn]
      clear h0
      go_wp2_with fail
      go_ret
      exact ⟨rfl, HE2.out⟩
    · have d1 : decide (i < 0) = false := by simp; omega
      go_wp2_with fail
      refine (In_any a la ca _ H2_a.out HSM.out).mono ?_
      rintro e w3 ⟨rfl, hb⟩
      have HE3 : Hid (Below w.heap.size w w3) := HE2.out.trans (hb.mono HE2.out.size)
      have H3_a : Hid (PartsAt w3 w3.heap.size a (la)) := H2_a.out.here hb (Nat.le_refl _)
      clear hb
      by_cases hg : inI la < i
      · have HE : Hid (spotE la i = 1 ∧ spotR la i late = 0) := by
          have e : spotE la i = 1 := by rw [spotE, if_pos h0, if_pos (by omega)]
          exact ⟨e, by rw [spotR, if_neg (by omega)]⟩
        rw [HE.out.1, HE.out.2]
        have d2 : decide (inI la < i) = true := by simp [hg]
        clear h0
        go_wp2_with fail
        go_ret
        exact ⟨rfl, HE3.out⟩
      · obtain ⟨m, hm⟩ : ∃ m : Nat, i = (m : Int) := ⟨i.toNat, by omega⟩
        subst hm
        have HE : Hid (spotE la m = 0 ∧ spotR la m late = (spotW (wordL la) m late : Nat)) := by
          have e := spotE_ok (d := la) (at_ := (m : Int)) h0 (by omega) (by omega)
          exact ⟨e, by rw [spotR, if_pos e]; rfl⟩
        have hle : (m : Int) ≤ inI la := by omega
        have d2 : decide (inI la < (m : Int)) = false := by simp; omega
        rw [HE.out.1, HE.out.2]
        clear h0
        go_wp2_with fail
        refine (RSpot_any a la ca m late _ H3_a.out HZ.out hle).mono ?_
        rintro e w4 ⟨rfl, hb⟩
        have HE4 : Hid (Below w.heap.size w w4) := HE3.out.trans (hb.mono HE3.out.size)
        have H4_a : Hid (PartsAt w4 w4.heap.size a (la)) := H3_a.out.here hb (Nat.le_refl _)
        clear hb
        go_wp2_with fail
        go_ret
        exact ⟨rfl, HE4.out⟩
  · have r0 : (sizesE la == 0) = false := by simp [h0]
    have r0' : (sizesE la != 0) = true := by simp [h0]
    have HE : Hid (spotE la i = sizesE la ∧ spotR la i late = 0) := by
      have e : spotE la i = sizesE la := by rw [spotE, if_neg h0]
      exact ⟨e, by rw [spotR, if_neg (by omega)]⟩
    rw [HE.out.1, HE.out.2]
    have hself : (sizesE la == sizesE la) = true := by simp
    clear h0
    go_wp2_with fail
    go_ret
    exact ⟨rfl, HE2.out⟩

end Go.Proofs.Ytilcmbophfjjbaa
