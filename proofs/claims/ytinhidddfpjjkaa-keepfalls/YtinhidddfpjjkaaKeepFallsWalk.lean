/- The law KeepFalls, walked: it answers true. -/
import Derived.Test.YtinhidddfpjjkaaKeepKit
import Derived.Test.YtinhidddfpjjkaaRPol
namespace Go.Proofs.Ytinhidddfpjjkaa
open Go.RowKit
set_option linter.unusedSimpArgs false
set_option linter.unusedVariables false

theorem falls_lit (w : World) : Calls Try.prog 9 #[.agg #[.int .i64 1, .int .i64 2, .slice none 0 0], .int .i64 3] w fun e w' => ∃ ao co, e = .returned (.tuple #[.slice ao 3 co, .int .i64 0]) ∧ NatsAt w' w'.heap.size ao [0, 2, 3] co ∧ Below w.heap.size w w' := by
  have h := KOf_ok (last := 1) (every := 2) none (pins := []) 0 (hd := 3) (by decide) (by decide) w (iz_nil _ _ _ (Nat.le_refl _) (by decide) _)
  rw [show keptL 1 2 [] 3 = [0, 2, 3] by decide] at h
  exact h
set_option maxHeartbeats 8000000 in
theorem KeepFalls_any (last every : Int) (a : Option Addr) (pins : List Int) (c : Nat) (head : Int) (w : World) (hv : IzAt w w.heap.size a pins c) :
    Calls Try.prog 4 #[polV last every a pins.length c, .int .i64 head] w fun e w' => e = .returned (.bool true) ∧ Below w.heap.size w w' := by
  obtain ⟨w0, hw0⟩ : ∃ w0, w0 = w.alloc (.cells #[.int .i64 last, .int .i64 every, .slice a pins.length c] 24) := ⟨_, rfl⟩
  have HB0 : Hid (Below w.heap.size w w0) := by subst hw0; exact (Below.refl _ _).alloc (Nat.le_refl _) _
  have HV : Hid (IzAt w w.heap.size a pins c) := hv
  have HX0 : Hid (PBox w0 w.heap.size last every (.slice a pins.length c)) := by subst hw0; exact pbox_new _ _ _ _
  clear hv
  subst hw0
  go_enter Try.func4, Try.ntmps4
  go_wp2_with fail
  refine (falls_lit _).mono ?_
  rintro e w1 ⟨ao, co, rfl, hn1, hb1⟩
  have HB1 : Hid (Below w.heap.size w w1) := HB0.out.trans (hb1.mono HB0.out.size)
  have HX1 : Hid (PBox w1 w.heap.size last every (.slice a pins.length c)) := HX0.out.below hb1
  have hbl : Below w1.heap.size w1 (w1.alloc (.cells #[.int .i64 0, .int .i64 2, .int .i64 3] 3)) := (Below.refl _ _).alloc (Nat.le_refl _) _
  have HN1 : Hid (NatsAt (w1.alloc (.cells #[.int .i64 0, .int .i64 2, .int .i64 3] 3)) (w1.alloc (.cells #[.int .i64 0, .int .i64 2, .int .i64 3] 3)).heap.size ao [0, 2, 3] co) := hn1.here hbl (Nat.le_refl _)
  have HL1 : Hid (NatsAt (w1.alloc (.cells #[.int .i64 0, .int .i64 2, .int .i64 3] 3)) (w1.alloc (.cells #[.int .i64 0, .int .i64 2, .int .i64 3] 3)).heap.size (some ⟨w1.heap.size, 0, none⟩) [0, 2, 3] 3) := by
    rw [show (w1.alloc (.cells #[.int .i64 0, .int .i64 2, .int .i64 3] 3)).heap.size = w1.heap.size + 1 from Deep.nblk_alloc _ _]
    exact nats_lit w1 [0, 2, 3] (by decide)
  have HBl : Hid (Below w.heap.size w (w1.alloc (.cells #[.int .i64 0, .int .i64 2, .int .i64 3] 3))) := HB1.out.trans (hbl.mono HB1.out.size)
  have HXl : Hid (PBox (w1.alloc (.cells #[.int .i64 0, .int .i64 2, .int .i64 3] 3)) w.heap.size last every (.slice a pins.length c)) := HX1.out.below hbl
  clear hb1 hn1 hbl
  go_wp2_with fail
  refine (EqNats_yes ao (some ⟨w1.heap.size, 0, none⟩) [0, 2, 3] co 3 _ HN1.out HL1.out).mono ?_
  rintro e w2 ⟨rfl, hb2⟩
  have HB2 : Hid (Below w.heap.size w w2) := HBl.out.trans (hb2.mono HBl.out.size)
  have HX2 : Hid (PBox w2 w.heap.size last every (.slice a pins.length c)) := HXl.out.below hb2
  clear hb2 HN1 HL1 HBl HXl
  go_wp2_with fail
  refine (Within3_any head 640 _ (by decide) (by decide)).mono ?_
  rintro e w3 ⟨hd, rfl, hh, we⟩
  subst we
  obtain ⟨x0, x1, x2, x3⟩ := HX2.out
  have hc1 : ((hd + 1 : Nat) : Int) = (hd : Int) + 1 := by omega
  by_cases hz : polE last every pins = 0
  · have hl1 := (pol_zero hz).1
    obtain ⟨fa, hfa, hfa1, hfa2⟩ := kept_floor (last := last) (every := every) (pins := pins) (head := hd) hl1
    obtain ⟨fb, hfb, _⟩ := kept_floor (last := last) (every := every) (pins := pins) (head := hd + 1) hl1
    have hfab := floor_rises hl1 hfa hfb
    have HA : Hid _ := fun w hv => KOf_ok (last := last) (every := every) a (pins := pins) c (hd := hd) hz (by omega) w hv
    have HFA : Hid _ := fun w hv => KFl_ok (last := last) (every := every) a (pins := pins) c (hd := hd) hz (by omega) hfa w hv
    have HB : Hid _ := fun w hv => KOf_ok (last := last) (every := every) a (pins := pins) c (hd := hd + 1) hz (by omega) w hv
    have HFB : Hid _ := fun w hv => KFl_ok (last := last) (every := every) a (pins := pins) c (hd := hd + 1) hz (by omega) hfb w hv
    rw [hc1] at HB HFB
    have hlast := kept_last (every := every) (pins := pins) (head := hd + 1) hl1
    have HFall : Hid (∀ r : Nat, r ∈ keptL last every pins (hd + 1) → r ≤ hd → r ∈ keptL last every pins hd) := fun r h1 h2 => kept_falls h1 h2
    have HRise : Hid _ := kept_rises last every pins (hd + 1)
    have HHead : Hid (hd ∈ keptL last every pins hd) := kept_mem.2 ⟨Nat.le_refl _, kept_head hl1⟩
    obtain ⟨KA, hKA⟩ : ∃ K, keptL last every pins hd = K := ⟨_, rfl⟩
    obtain ⟨KB, hKB⟩ : ∃ K, keptL last every pins (hd + 1) = K := ⟨_, rfl⟩
    rw [hKA] at HA HFall HHead hfa hfa1 hfa2
    rw [hKB] at HB HFall HRise hlast
    have HMin : Hid (fa ∈ KA ∧ ∀ r ∈ KA, fa ≤ r) := ⟨hfa1, hfa2⟩
    have hKAl : 0 < KA.length := (List.getElem?_eq_some_iff.1 hfa).1
    obtain ⟨m, hm⟩ : ∃ m, KB.length = m + 1 := ⟨(keptN last every pins (hd + 1) (hd + 1)).length, by rw [hlast]; simp⟩
    have HLast : Hid (KB[m]? = some (hd + 1)) := by
      show _ = _
      have h1 : m = (keptN last every pins (hd + 1) (hd + 1)).length := by rw [hlast, List.length_append] at hm; simp at hm; omega
      rw [hlast, h1, List.getElem?_append_right (Nat.le_refl _), Nat.sub_self]; rfl
    have HM : Hid (KB.length = m + 1) := hm
    have hfi : (fa : Int) ≤ (fb : Int) := by omega
    clear hfa hfa1 hfa2 hfb hKA hKB hlast hm hz hfab
    go_wp2_with fail
    refine (HA.out _ (HV.out.here HB2.out (Nat.le_refl _))).mono ?_
    rintro e w4 ⟨aa, ca, rfl, hn4, hb4⟩
    have HB4 : Hid (Below w.heap.size w w4) := HB2.out.trans (hb4.mono HB2.out.size)
    have HX4 : Hid (PBox w4 w.heap.size last every (.slice a pins.length c)) := HX2.out.below hb4
    have HNA4 : Hid (NatsAt w4 w4.heap.size aa KA ca) := hn4
    clear hb4 hn4 x0 x1 x2 x3
    obtain ⟨x0, x1, x2, x3⟩ := HX4.out
    go_wp2_with fail
    refine (HB.out _ (HV.out.here HB4.out (Nat.le_refl _))).mono ?_
    rintro e w5 ⟨ab, cb, rfl, hn5, hb5⟩
    have HB5 : Hid (Below w.heap.size w w5) := HB4.out.trans (hb5.mono HB4.out.size)
    have HX5 : Hid (PBox w5 w.heap.size last every (.slice a pins.length c)) := HX4.out.below hb5
    have HNA5 : Hid (NatsAt w5 w5.heap.size aa KA ca) := HNA4.out.here hb5 (Nat.le_refl _)
    have HNB5 : Hid (NatsAt w5 w5.heap.size ab KB cb) := hn5
    clear hb5 hn5 x0 x1 x2 x3
    obtain ⟨x0, x1, x2, x3⟩ := HX5.out
    go_wp2_with fail
    refine (HFA.out _ (HV.out.here HB5.out (Nat.le_refl _))).mono ?_
    rintro e w6 ⟨rfl, hb6⟩
    have HB6 : Hid (Below w.heap.size w w6) := HB5.out.trans (hb6.mono HB5.out.size)
    have HX6 : Hid (PBox w6 w.heap.size last every (.slice a pins.length c)) := HX5.out.below hb6
    have HNA6 : Hid (NatsAt w6 w6.heap.size aa KA ca) := HNA5.out.here hb6 (Nat.le_refl _)
    have HNB6 : Hid (NatsAt w6 w6.heap.size ab KB cb) := HNB5.out.here hb6 (Nat.le_refl _)
    clear hb6 x0 x1 x2 x3
    obtain ⟨x0, x1, x2, x3⟩ := HX6.out
    go_wp2_with fail
    refine (HFB.out _ (HV.out.here HB6.out (Nat.le_refl _))).mono ?_
    rintro e w7 ⟨rfl, hb7⟩
    have HB7 : Hid (Below w.heap.size w w7) := HB6.out.trans (hb7.mono HB6.out.size)
    have HNA7 : Hid (NatsAt w7 w7.heap.size aa KA ca) := HNA6.out.here hb7 (Nat.le_refl _)
    have HNB7 : Hid (NatsAt w7 w7.heap.size ab KB cb) := HNB6.out.here hb7 (Nat.le_refl _)
    have hKBl : KB.length ≤ 9223372036854775807 := Nat.le_trans HNB7.out.1 HNB7.out.2.1
    clear hb7 x0 x1 x2 x3
    go_wp2_with fail
    go_loopw [86] (fun i wr => ∃ k : Nat, k ≤ KB.length ∧ i = .int .i64 k ∧ wr = w7) (fun i _ => KB.length - (intOf i).toNat)
    case atStart => exact ⟨0, Nat.zero_le _, rfl, rfl⟩
    case round =>
      rename World => wr
      obtain ⟨k, hk, rfl, hwr⟩ := hrel
      subst hwr
      by_cases hlt : k < KB.length
      · obtain ⟨r, hr⟩ : ∃ r, KB[k]? = some r := ⟨KB[k], List.getElem?_eq_getElem hlt⟩
        have hki : (k : Int) < (KB.length : Int) := by omega
        obtain ⟨g, og, e1, hg, y1⟩ := HNB7.out.mem hr
        subst e1
        have HR : Hid (KB[k]? = some r) := hr
        clear hr
        by_cases hrh : r ≤ hd
        · have hri : (r : Int) ≤ (hd : Int) := by omega
          have HMe : Hid (r ∈ KA) := HFall.out r (List.mem_of_getElem? HR.out) hrh
          rcases Nat.eq_zero_or_pos k with hk0 | hk0
          · subst hk0
            rw [Nat.add_zero] at y1
            go_wp2_with fail
            refine (KCo_yes aa KA ca r _ HNA7.out HMe.out).mono ?_
            rintro e w8 ⟨rfl, we⟩
            subst we
            go_wp2_with fail
            go_roundw
            case rel => exact ⟨1, by omega, rfl, by first | rfl | trivial⟩
            case measure => simp [intOf]; omega
          · obtain ⟨j, rfl⟩ : ∃ j, k = j + 1 := ⟨k - 1, by omega⟩
            obtain ⟨q, hq⟩ : ∃ q, KB[j]? = some q := ⟨KB[j], List.getElem?_eq_getElem (by omega)⟩
            obtain ⟨g', og', e2, _, y2⟩ := HNB7.out.mem hq
            simp only [Option.some.injEq, Addr.mk.injEq, and_true] at e2
            obtain ⟨rfl, rfl⟩ := e2
            have hqr := rises_at HRise.out (Nat.lt_succ_self j) hq HR.out
            have hqi : ¬ (r : Int) ≤ (q : Int) := by omega
            have hji : (j : Int) < (KB.length : Int) := by omega
            have hjp : (0 : Int) < ((j + 1 : Nat) : Int) := by omega
            clear hq
            go_wp2_with fail
            refine (KCo_yes aa KA ca r _ HNA7.out HMe.out).mono ?_
            rintro e w8 ⟨rfl, we⟩
            subst we
            go_wp2_with fail
            go_roundw
            case rel => exact ⟨j + 1 + 1, by omega, by go_num, by first | rfl | trivial⟩
            case measure => simp [intOf]; omega
        · have hri : ¬ (r : Int) ≤ (hd : Int) := by omega
          rcases Nat.eq_zero_or_pos k with hk0 | hk0
          · subst hk0
            rw [Nat.add_zero] at y1
            go_wp2_with fail
            go_roundw
            case rel => exact ⟨1, by omega, rfl, by first | rfl | trivial⟩
            case measure => simp [intOf]; omega
          · obtain ⟨j, rfl⟩ : ∃ j, k = j + 1 := ⟨k - 1, by omega⟩
            obtain ⟨q, hq⟩ : ∃ q, KB[j]? = some q := ⟨KB[j], List.getElem?_eq_getElem (by omega)⟩
            obtain ⟨g', og', e2, _, y2⟩ := HNB7.out.mem hq
            simp only [Option.some.injEq, Addr.mk.injEq, and_true] at e2
            obtain ⟨rfl, rfl⟩ := e2
            have hqr := rises_at HRise.out (Nat.lt_succ_self j) hq HR.out
            have hqi : ¬ (r : Int) ≤ (q : Int) := by omega
            have hji : (j : Int) < (KB.length : Int) := by omega
            have hjp : (0 : Int) < ((j + 1 : Nat) : Int) := by omega
            clear hq
            go_wp2_with fail
            go_roundw
            case rel => exact ⟨j + 1 + 1, by omega, by go_num, by first | rfl | trivial⟩
            case measure => simp [intOf]; omega
      · have hki : ¬ (k : Int) < (KB.length : Int) := by omega
        clear hlt hk
        go_wp2_with fail
        refine (KCo_yes aa KA ca hd _ HNA7.out HHead.out).mono ?_
        rintro e w8 ⟨rfl, we⟩
        subst we
        obtain ⟨g, og, e1, hg, y1⟩ := HNB7.out.mem HLast.out
        subst e1
        have hm := HM.out
        have hmi : (0 : Int) < (KB.length : Int) := by omega
        have hmw : (KB.length : Int) - 1 = (m : Int) := by omega
        have hmj : (m : Int) < (KB.length : Int) := by omega
        clear hm hki
        go_wp2_with fail
        refine (Min_any aa KA ca _ HNA7.out hKAl).mono ?_
        rintro e w9 ⟨mn, rfl, hm1, hm2, we⟩
        subst we
        obtain rfl : mn = fa := by
          have h1 := HMin.out.2 mn hm1
          have h2 := hm2 fa HMin.out.1
          omega
        clear hm1 hm2
        go_wp2_with fail
        go_ret
        exact ⟨by first | rfl | simp, HB7.out⟩
  · obtain ⟨P, hP⟩ : ∃ P, polE last every pins = P := ⟨_, rfl⟩
    have HA : Hid _ := fun w hv => KOf_not (last := last) (every := every) a (pins := pins) c (head := (hd : Int)) (keepE_not hz) hz w hv
    have HFA : Hid _ := fun w hv => KFl_not (last := last) (every := every) a (pins := pins) c (head := (hd : Int)) (keepE_not hz) hz w hv
    have HB : Hid _ := fun w hv => KOf_not (last := last) (every := every) a (pins := pins) c (head := (hd : Int) + 1) (keepE_not hz) hz w hv
    have HFB : Hid _ := fun w hv => KFl_not (last := last) (every := every) a (pins := pins) c (head := (hd : Int) + 1) (keepE_not hz) hz w hv
    rw [hP] at HA HFA HB HFB hz
    have hz' : (P != 0) = true := by simp [hz]
    clear hP hz
    go_wp2_with fail
    refine (HA.out _ (HV.out.here HB2.out (Nat.le_refl _))).mono ?_
    rintro e w4 ⟨aa, ca, rfl, hb4⟩
    have HB4 : Hid (Below w.heap.size w w4) := HB2.out.trans (hb4.mono HB2.out.size)
    have HX4 : Hid (PBox w4 w.heap.size last every (.slice a pins.length c)) := HX2.out.below hb4
    clear hb4 x0 x1 x2 x3
    obtain ⟨x0, x1, x2, x3⟩ := HX4.out
    go_wp2_with fail
    refine (HB.out _ (HV.out.here HB4.out (Nat.le_refl _))).mono ?_
    rintro e w5 ⟨ab, cb, rfl, hb5⟩
    have HB5 : Hid (Below w.heap.size w w5) := HB4.out.trans (hb5.mono HB4.out.size)
    have HX5 : Hid (PBox w5 w.heap.size last every (.slice a pins.length c)) := HX4.out.below hb5
    clear hb5 x0 x1 x2 x3
    obtain ⟨x0, x1, x2, x3⟩ := HX5.out
    go_wp2_with fail
    refine (HFA.out _ (HV.out.here HB5.out (Nat.le_refl _))).mono ?_
    rintro e w6 ⟨rfl, hb6⟩
    have HB6 : Hid (Below w.heap.size w w6) := HB5.out.trans (hb6.mono HB5.out.size)
    have HX6 : Hid (PBox w6 w.heap.size last every (.slice a pins.length c)) := HX5.out.below hb6
    clear hb6 x0 x1 x2 x3
    obtain ⟨x0, x1, x2, x3⟩ := HX6.out
    go_wp2_with fail
    refine (HFB.out _ (HV.out.here HB6.out (Nat.le_refl _))).mono ?_
    rintro e w7 ⟨rfl, hb7⟩
    have HB7 : Hid (Below w.heap.size w w7) := HB6.out.trans (hb7.mono HB6.out.size)
    clear hb7 x0 x1 x2 x3
    go_wp2_with fail
    go_ret
    exact ⟨by first | rfl | simp, HB7.out⟩
end Go.Proofs.Ytinhidddfpjjkaa
