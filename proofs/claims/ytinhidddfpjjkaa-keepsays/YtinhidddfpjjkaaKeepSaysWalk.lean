/- The law KeepSays, walked: it answers true. -/
import Derived.Test.YtinhidddfpjjkaaKeepKit
import Derived.Test.YtinhidddfpjjkaaRPol
namespace Go.Proofs.Ytinhidddfpjjkaa
open Go.RowKit
set_option linter.unusedSimpArgs false
set_option linter.unusedVariables false

set_option maxHeartbeats 4000000 in
theorem KeepSays_any (last every : Int) (a : Option Addr) (pins : List Int) (c : Nat) (head : Int) (w : World) (hv : IzAt w w.heap.size a pins c) :
    Calls Try.prog 3 #[polV last every a pins.length c, .int .i64 head] w fun e w' => e = .returned (.bool true) ∧ Below w.heap.size w w' := by
  obtain ⟨w0, hw0⟩ : ∃ w0, w0 = w.alloc (.cells #[.int .i64 last, .int .i64 every, .slice a pins.length c] 24) := ⟨_, rfl⟩
  have HB0 : Hid (Below w.heap.size w w0) := by subst hw0; exact (Below.refl _ _).alloc (Nat.le_refl _) _
  have HV : Hid (IzAt w w.heap.size a pins c) := hv
  have HX0 : Hid (PBox w0 w.heap.size last every (.slice a pins.length c)) := by subst hw0; exact pbox_new _ _ _ _
  have HV0 : Hid (IzAt w0 w0.heap.size a pins c) := hv.here HB0.out (Nat.le_refl _)
  obtain ⟨x0, x1, x2, x3⟩ := HX0.out
  clear hv
  subst hw0
  go_enter Try.func3, Try.ntmps3
  by_cases hE : keepE last every pins head = 0
  · obtain ⟨hz, hh0, hh1⟩ := keepE_zero hE
    obtain ⟨hd, rfl⟩ : ∃ hd : Nat, head = (hd : Int) := ⟨head.toNat, by omega⟩
    have hh : hd ≤ 640 := by omega
    obtain ⟨x, hx, _⟩ := kept_floor (last := last) (every := every) (pins := pins) (head := hd) (pol_zero hz).1
    have HOf : Hid _ := fun w hv => KOf_ok (last := last) (every := every) a (pins := pins) c (hd := hd) hz hh w hv
    have HFl : Hid _ := fun w hv => KFl_ok (last := last) (every := every) a (pins := pins) c (hd := hd) hz hh hx w hv
    have HRK : Hid _ := fun w hv => RKept_any last every a pins c hd w hv hz hh
    have HRP : Hid _ := fun w hv => RPolicy_any last every a pins c w hv
    have HPC : Hid _ := fun w hv => PolCheck_any last every a pins c w hv
    rw [hz] at HRP HPC
    obtain ⟨K, hK⟩ : ∃ K, keptL last every pins hd = K := ⟨_, rfl⟩
    rw [hK] at HOf HRK hx
    have hKl : 0 < K.length := (List.getElem?_eq_some_iff.1 hx).1
    have hKi : (0 : Int) < (K.length : Int) := by omega
    have g1 : ¬ (hd : Int) < 0 := by omega
    have g2 : ¬ (640 : Int) < (hd : Int) := by omega
    have HXX : Hid (K[0]? = some x) := hx
    clear hE hz hh0 hh1 hx hK
    go_wp2_with fail
    refine (HOf.out _ HV0.out).mono ?_
    rintro e w1 ⟨ao, co, rfl, hn1, hb1⟩
    have HB1 : Hid (Below w.heap.size w w1) := HB0.out.trans (hb1.mono HB0.out.size)
    have HX1 : Hid (PBox w1 w.heap.size last every (.slice a pins.length c)) := HX0.out.below hb1
    have HN1 : Hid (NatsAt w1 w1.heap.size ao K co) := hn1
    clear hb1 hn1 x0 x1 x2 x3
    obtain ⟨x0, x1, x2, x3⟩ := HX1.out
    go_wp2_with fail
    refine (HFl.out _ (HV.out.here HB1.out (Nat.le_refl _))).mono ?_
    rintro e w2 ⟨rfl, hb2⟩
    have HB2 : Hid (Below w.heap.size w w2) := HB1.out.trans (hb2.mono HB1.out.size)
    have HX2 : Hid (PBox w2 w.heap.size last every (.slice a pins.length c)) := HX1.out.below hb2
    have HN2 : Hid (NatsAt w2 w2.heap.size ao K co) := HN1.out.here hb2 (Nat.le_refl _)
    clear hb2 x0 x1 x2 x3
    obtain ⟨x0, x1, x2, x3⟩ := HX2.out
    go_wp2_with fail
    refine (HRP.out _ (HV.out.here HB2.out (Nat.le_refl _))).mono ?_
    rintro e w3 ⟨rfl, hb3⟩
    have HB3 : Hid (Below w.heap.size w w3) := HB2.out.trans (hb3.mono HB2.out.size)
    have HX3 : Hid (PBox w3 w.heap.size last every (.slice a pins.length c)) := HX2.out.below hb3
    have HN3 : Hid (NatsAt w3 w3.heap.size ao K co) := HN2.out.here hb3 (Nat.le_refl _)
    clear hb3 x0 x1 x2 x3
    obtain ⟨x0, x1, x2, x3⟩ := HX3.out
    go_wp2_with fail
    refine (HPC.out _ (HV.out.here HB3.out (Nat.le_refl _))).mono ?_
    rintro e w4 ⟨rfl, hb4⟩
    have HB4 : Hid (Below w.heap.size w w4) := HB3.out.trans (hb4.mono HB3.out.size)
    have HX4 : Hid (PBox w4 w.heap.size last every (.slice a pins.length c)) := HX3.out.below hb4
    have HN4 : Hid (NatsAt w4 w4.heap.size ao K co) := HN3.out.here hb4 (Nat.le_refl _)
    clear hb4 x0 x1 x2 x3
    obtain ⟨x0, x1, x2, x3⟩ := HX4.out
    go_wp2_with fail
    refine (HRK.out _ (HV.out.here HB4.out (Nat.le_refl _))).mono ?_
    rintro e w5 ⟨a5, c5, rfl, hn5, hb5⟩
    have HB5 : Hid (Below w.heap.size w w5) := HB4.out.trans (hb5.mono HB4.out.size)
    have HN5 : Hid (NatsAt w5 w5.heap.size ao K co) := HN4.out.here hb5 (Nat.le_refl _)
    have HM5 : Hid (NatsAt w5 w5.heap.size a5 K c5) := hn5
    clear hb5 hn5 x0 x1 x2 x3
    go_wp2_with fail
    refine (EqNats_yes ao a5 K co c5 _ HN5.out HM5.out).mono ?_
    rintro e w6 ⟨rfl, hb6⟩
    have HB6 : Hid (Below w.heap.size w w6) := HB5.out.trans (hb6.mono HB5.out.size)
    obtain ⟨g, og, e1, hg, y1⟩ := (HM5.out.here hb6 (Nat.le_refl _)).mem HXX.out
    subst e1
    rw [Nat.add_zero] at y1
    clear hb6
    go_wp2_with fail
    go_ret
    exact ⟨rfl, HB6.out⟩
  · obtain ⟨E, hEE⟩ : ∃ E, keepE last every pins head = E := ⟨_, rfl⟩
    rw [hEE] at hE
    have HOf : Hid _ := fun w hv => KOf_not (last := last) (every := every) a (pins := pins) c (head := head) hEE hE w hv
    have HFl : Hid _ := fun w hv => KFl_not (last := last) (every := every) a (pins := pins) c (head := head) hEE hE w hv
    have HRP : Hid _ := fun w hv => RPolicy_any last every a pins c w hv
    have HPC : Hid _ := fun w hv => PolCheck_any last every a pins c w hv
    obtain ⟨P, hP⟩ : ∃ P, polE last every pins = P := ⟨_, rfl⟩
    rw [hP] at HRP HPC
    have HPE : Hid ((P = 0 ∧ E = 1 ∧ (head < 0 ∨ 640 < head)) ∨ (P ≠ 0 ∧ E = P)) := by
      rw [← hP, ← hEE]
      by_cases h : polE last every pins = 0
      · by_cases h2 : 0 ≤ head ∧ head ≤ 640
        · exact absurd (keepE_ok h h2.1 h2.2) (by rw [hEE]; exact hE)
        · exact .inl ⟨h, keepE_out h h2, by omega⟩
      · exact .inr ⟨h, keepE_not h⟩
    clear hE hEE hP
    go_wp2_with fail
    refine (HOf.out _ HV0.out).mono ?_
    rintro e w1 ⟨ao, co, rfl, hb1⟩
    have HB1 : Hid (Below w.heap.size w w1) := HB0.out.trans (hb1.mono HB0.out.size)
    have HX1 : Hid (PBox w1 w.heap.size last every (.slice a pins.length c)) := HX0.out.below hb1
    clear hb1 x0 x1 x2 x3
    obtain ⟨x0, x1, x2, x3⟩ := HX1.out
    go_wp2_with fail
    refine (HFl.out _ (HV.out.here HB1.out (Nat.le_refl _))).mono ?_
    rintro e w2 ⟨rfl, hb2⟩
    have HB2 : Hid (Below w.heap.size w w2) := HB1.out.trans (hb2.mono HB1.out.size)
    have HX2 : Hid (PBox w2 w.heap.size last every (.slice a pins.length c)) := HX1.out.below hb2
    clear hb2 x0 x1 x2 x3
    obtain ⟨x0, x1, x2, x3⟩ := HX2.out
    go_wp2_with fail
    refine (HRP.out _ (HV.out.here HB2.out (Nat.le_refl _))).mono ?_
    rintro e w3 ⟨rfl, hb3⟩
    have HB3 : Hid (Below w.heap.size w w3) := HB2.out.trans (hb3.mono HB2.out.size)
    have HX3 : Hid (PBox w3 w.heap.size last every (.slice a pins.length c)) := HX2.out.below hb3
    clear hb3 x0 x1 x2 x3
    obtain ⟨x0, x1, x2, x3⟩ := HX3.out
    go_wp2_with fail
    refine (HPC.out _ (HV.out.here HB3.out (Nat.le_refl _))).mono ?_
    rintro e w4 ⟨rfl, hb4⟩
    have HB4 : Hid (Below w.heap.size w w4) := HB3.out.trans (hb4.mono HB3.out.size)
    clear hb4 x0 x1 x2 x3
    rcases HPE.out with ⟨rfl, rfl, h1 | h1⟩ | ⟨h1, rfl⟩
    · clear HPE
      go_wp2_with fail
      go_ret
      exact ⟨rfl, HB4.out⟩
    · have h2 : ¬ head < 0 := by omega
      clear HPE
      go_wp2_with fail
      go_ret
      exact ⟨rfl, HB4.out⟩
    · have h2 : (E == 0) = false := by simp [h1]
      have h3 : (E != 0) = true := by simp [h1]
      clear HPE
      go_wp2_with fail
      go_ret
      exact ⟨by first | rfl | simp, HB4.out⟩
end Go.Proofs.Ytinhidddfpjjkaa
