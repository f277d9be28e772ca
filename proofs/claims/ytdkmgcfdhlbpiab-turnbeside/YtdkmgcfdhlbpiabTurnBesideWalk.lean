/- The law TurnBeside, walked: it answers true. -/
import Derived.Test.YtdkmgcfdhlbpiabLawKit
namespace Go.Proofs.Ytdkmgcfdhlbpiab
open Go.RowKit
set_option linter.unusedSimpArgs false
set_option linter.unusedVariables false

theorem turnR_len (a : List Pt) (s : ByteArray) : (turnR a s).length ≤ 1600 := by
  unfold turnR
  split
  · rename_i h
    obtain ⟨z, i⟩ := fits_zero h
    have hsl : (s.data.toList.length : Int) = inI a := by rw [i]; exact congrArg Nat.cast Array.length_toList
    exact (sizes_scan (turn_facts z hsl).1).1
  · simp
theorem all_one : allL 1 = [keepP 1] := by simp [allL, keepP]
theorem TurnAll (a : Option Addr) (c : Nat) (w : World) (h : PartsAt w w.heap.size a (allL 1)) :
    Calls Try.prog 10 #[.slice a (allL 1).length c, .string ⟨#[97]⟩] w fun e w' => ∃ a' c', e = .returned (.tuple #[.slice a' (allL 1).length c', .int .i64 0]) ∧ PartsAt w' w'.heap.size a' (allL 1) ∧ Below w.heap.size w w' := by
  rw [all_one] at h ⊢
  exact (turn_lit (s := ⟨#[97]⟩) litA.1 litA.2 a c w h (by decide)).mono (fun e w' ⟨a', c', h1, h2, h3, h4⟩ => ⟨a', c', h1, h2, h4⟩)
/-- what is asked -/
theorem turn_asked {la lb : List Pt} {s t : ByteArray} (h1 : fitsE la s.size = 0) (h2 : fitsE lb t.size = 0) (h3 : normE (la ++ lb) = 0) :
    s.size + t.size ≤ 500 ∧ normE (turnR la s ++ turnR lb t) = 0 ∧ fitsE (normL (la ++ lb)) ((s.size : Int) + (t.size : Int)) = 0 ∧ normL (turnR la s ++ turnR lb t) = turnR (normL (la ++ lb)) (s ++ t) := by
  obtain ⟨z1, i1⟩ := fits_zero h1
  obtain ⟨z2, i2⟩ := fits_zero h2
  have hsl : s.data.toList.length = s.size := Array.length_toList
  have htl : t.data.toList.length = t.size := Array.length_toList
  have hst : (s ++ t).data.toList = s.data.toList ++ t.data.toList := data_append s t
  have e1 : turnR la s = turnL la s.data.toList := by rw [turnR, if_pos h1]
  have e2 : turnR lb t = turnL lb t.data.toList := by rw [turnR, if_pos h2]
  obtain ⟨b1, b2, b3, b4⟩ := turn_beside (s := s.data.toList) (t := t.data.toList) z1 (by omega) z2 (by omega) h3
  obtain ⟨g, c, e3, e4, b5, b6⟩ := delta_facts b3
  rw [List.length_append] at b2
  have hf : fitsE (normL (la ++ lb)) ((s.size : Int) + (t.size : Int)) = 0 := by rw [fitsE, if_pos b3, if_pos (by omega)]
  have hf2 : fitsE (normL (la ++ lb)) (s ++ t).size = 0 := by rw [ByteArray.size_append, show ((s.size + t.size : Nat) : Int) = (s.size : Int) + (t.size : Int) by omega]; exact hf
  refine ⟨by omega, by rw [e1, e2]; exact b1, hf, ?_⟩
  rw [e1, e2, b4, turnR, if_pos hf2, hst]

set_option maxHeartbeats 4000000 in
theorem TurnBeside_any (a : Option Addr) (la : List Pt) (ca : Nat) (b : Option Addr) (lb : List Pt) (cb : Nat) (s t : ByteArray) (w : World)
    (ha : PartsAt w w.heap.size a la) (hb : PartsAt w w.heap.size b lb) (ha0 : a = none → ca = 0) (hb0 : b = none → cb = 0) (hla : la.length * 32 ≤ 140737488351232) (hlb : lb.length * 32 ≤ 140737488351232)
    (hs : s.size ≤ 9223372036854775807) (ht : t.size ≤ 9223372036854775807) :
    Calls Try.prog 4 #[.slice a la.length ca, .slice b lb.length cb, .string s, .string t] w fun e w' => e = .returned (.bool true) ∧ Below w.heap.size w w' := by
  have HA : Hid (PartsAt w w.heap.size a la) := ha
  have HB : Hid (PartsAt w w.heap.size b lb) := hb
  have HA0 : Hid (a = none → ca = 0) := ha0
  have HB0 : Hid (b = none → cb = 0) := hb0
  clear ha hb ha0 hb0
  go_enter Try.func4, Try.ntmps4
  go_wp2_with fail
  refine (All_any 1 _ (by decide) (by decide)).mono ?_
  rintro e w1 ⟨a1, c1, rfl, hp1, hb1⟩
  have HE1 : Hid (Below w.heap.size w w1) := hb1
  have HP1 : Hid (PartsAt w1 w1.heap.size a1 (allL 1)) := hp1
  clear hp1 hb1
  go_wp2_with fail
  refine (TurnAll a1 c1 _ HP1.out).mono ?_
  rintro e w2 ⟨a2, c2, rfl, hp2, hb2⟩
  have HE2 : Hid (Below w.heap.size w w2) := HE1.out.trans (hb2.mono HE1.out.size)
  have HP2 : Hid (PartsAt w2 w2.heap.size a2 (allL 1)) := hp2
  clear hp2 hb2
  go_wp2_with fail
  refine (All_any 1 _ (by decide) (by decide)).mono ?_
  rintro e w3 ⟨a3, c3, rfl, hp3, hb3⟩
  have HE3 : Hid (Below w.heap.size w w3) := HE2.out.trans (hb3.mono HE2.out.size)
  have HP3 : Hid (PartsAt w3 w3.heap.size a3 (allL 1)) := hp3
  have HQ3 : Hid (PartsAt w3 w3.heap.size a2 (allL 1)) := HP2.out.here hb3 (Nat.le_refl _)
  clear hp3 hb3
  go_wp2_with fail
  refine (Same_yes a2 a3 (allL 1) c2 c3 _ HQ3.out HP3.out).mono ?_
  rintro e w4 ⟨rfl, hb4⟩
  have HE4 : Hid (Below w.heap.size w w4) := HE3.out.trans (hb4.mono HE3.out.size)
  have HA4 : Hid (PartsAt w4 w4.heap.size a la) := HA.out.here HE4.out (Nat.le_refl _)
  clear hb4
  go_wp2_with fail
  refine (TurnOf_any a la ca s _ HA4.out hs).mono ?_
  rintro e w5 ⟨a5, c5, rfl, hp5, hc5, hb5⟩
  have HE5 : Hid (Below w.heap.size w w5) := HE4.out.trans (hb5.mono HE4.out.size)
  have HP5 : Hid (PartsAt w5 w5.heap.size a5 (turnR la s)) := hp5
  have HR5 : Hid (Room a5 (turnR la s) c5) := hc5
  have HB5 : Hid (PartsAt w5 w5.heap.size b lb) := HB.out.here HE5.out (Nat.le_refl _)
  clear hp5 hc5 hb5
  go_wp2_with fail
  refine (TurnOf_any b lb cb t _ HB5.out ht).mono ?_
  rintro e w6 ⟨a6, c6, rfl, hp6, hc6, hb6⟩
  have HE6 : Hid (Below w.heap.size w w6) := HE5.out.trans (hb6.mono HE5.out.size)
  have HP6 : Hid (PartsAt w6 w6.heap.size a6 (turnR lb t)) := hp6
  have HR6 : Hid (Room a6 (turnR lb t) c6) := hc6
  have HQ6 : Hid (PartsAt w6 w6.heap.size a5 (turnR la s)) := HP5.out.here hb6 (Nat.le_refl _)
  have HA6 : Hid (PartsAt w6 w6.heap.size a la) := HA.out.here HE6.out (Nat.le_refl _)
  have HB6 : Hid (PartsAt w6 w6.heap.size b lb) := HB.out.here HE6.out (Nat.le_refl _)
  clear hp6 hc6 hb6
  go_wp2_with fail
  refine (besideC_any a b la lb ca cb _ HA6.out HB6.out HA0.out HB0.out hla hlb).mono ?_
  rintro e w7 ⟨a7, c7, rfl, hp7, hc7, hb7⟩
  have HE7 : Hid (Below w.heap.size w w7) := HE6.out.trans (hb7.mono HE6.out.size)
  have HP7 : Hid (PartsAt w7 w7.heap.size a7 (normL (la ++ lb))) := hp7
  have HQ7 : Hid (PartsAt w7 w7.heap.size a5 (turnR la s)) := HQ6.out.here hb7 (Nat.le_refl _)
  have HS7 : Hid (PartsAt w7 w7.heap.size a6 (turnR lb t)) := HP6.out.here hb7 (Nat.le_refl _)
  clear hp7 hc7 hb7
  by_cases h1 : fitsE la s.size = 0
  · by_cases h2 : fitsE lb t.size = 0
    · by_cases h3 : normE (la ++ lb) = 0
      · obtain ⟨k1, k2, k3, k4⟩ := turn_asked h1 h2 h3
        have r1 : (fitsE la s.size != 0) = false := by simp [h1]
        have r2 : (fitsE lb t.size != 0) = false := by simp [h2]
        have r3 : (normE (la ++ lb) != 0) = false := by simp [h3]
        have r4 : (normE (turnR la s ++ turnR lb t) == 0) = true := by simp [k2]
        have r5 : (fitsE (normL (la ++ lb)) ((s.size : Int) + (t.size : Int)) == 0) = true := by simp [k3]
        have HK : Hid (normL (turnR la s ++ turnR lb t) = turnR (normL (la ++ lb)) (s ++ t)) := k4
        have hst : (s ++ t).size ≤ 9223372036854775807 := by rw [ByteArray.size_append]; omega
        have hk1 := turnR_len la s
        have hk2 := turnR_len lb t
        clear h1 h2 h3 k2 k3 k4
        go_wp2_with fail
        refine (besideC_any a5 a6 (turnR la s) (turnR lb t) c5 c6 _ HQ7.out HS7.out HR5.out.2 HR6.out.2 (by omega) (by omega)).mono ?_
        rintro e w8 ⟨a8, c8, rfl, hp8, hc8, hb8⟩
        have HE8 : Hid (Below w.heap.size w w8) := HE7.out.trans (hb8.mono HE7.out.size)
        have HP8 : Hid (PartsAt w8 w8.heap.size a8 (normL (turnR la s ++ turnR lb t))) := hp8
        have HQ8 : Hid (PartsAt w8 w8.heap.size a7 (normL (la ++ lb))) := HP7.out.here hb8 (Nat.le_refl _)
        clear hp8 hc8 hb8
        go_wp2_with fail
        refine (TurnOf_any a7 (normL (la ++ lb)) c7 (s ++ t) _ HQ8.out hst).mono ?_
        rintro e w9 ⟨a9, c9, rfl, hp9, hc9, hb9⟩
        have HE9 : Hid (Below w.heap.size w w9) := HE8.out.trans (hb9.mono HE8.out.size)
        have HP9 : Hid (PartsAt w9 w9.heap.size a9 (turnR (normL (la ++ lb)) (s ++ t))) := hp9
        have HQ9 : Hid (PartsAt w9 w9.heap.size a8 (normL (turnR la s ++ turnR lb t))) := HP8.out.here hb9 (Nat.le_refl _)
        clear hp9 hc9 hb9
        go_wp2_with fail
        refine (Same_any a8 a9 (normL (turnR la s ++ turnR lb t)) (turnR (normL (la ++ lb)) (s ++ t)) c8 c9 _ HQ9.out HP9.out).mono ?_
        rintro e w10 ⟨r, rfl, hr, hb10⟩
        obtain rfl : r = true := hr.2 HK.out
        have HE10 : Hid (Below w.heap.size w w10) := HE9.out.trans (hb10.mono HE9.out.size)
        clear hr hb10
        go_wp2_with fail
        go_ret
        exact ⟨rfl, HE10.out⟩
      · have r1 : (fitsE la s.size != 0) = false := by simp [h1]
        have r2 : (fitsE lb t.size != 0) = false := by simp [h2]
        have r3 : (normE (la ++ lb) != 0) = true := by simp [h3]
        clear h1 h2 h3
        go_wp2_with fail
        go_ret
        exact ⟨rfl, HE7.out⟩
    · have r1 : (fitsE la s.size != 0) = false := by simp [h1]
      have r2 : (fitsE lb t.size != 0) = true := by simp [h2]
      clear h1 h2
      go_wp2_with fail
      go_ret
      exact ⟨rfl, HE7.out⟩
  · have r1 : (fitsE la s.size != 0) = true := by simp [h1]
    clear h1
    go_wp2_with fail
    go_ret
    exact ⟨rfl, HE7.out⟩

end Go.Proofs.Ytdkmgcfdhlbpiab
