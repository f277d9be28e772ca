/- The law RevsCut, walked: it answers true. -/
import Derived.Test.YtjfeaedjifpahaaRevText
import Derived.Test.YtjfeaedjifpahaaNumWithin
namespace Go.Proofs.Ytjfeaedjifpahaa
open Go.RowKit
set_option linter.unusedSimpArgs false
set_option linter.unusedVariables false

theorem revs_nil (w : World) (a : Option Addr) : RevsAt w w.heap.size a [] := ⟨by simp, Nat.le_refl _, by simp, by simp⟩
/-- a text of bytes, as Text takes it -/
theorem bytes_list (t : List UInt8) : (⟨t.toArray⟩ : ByteArray).data.toList = t := rfl
theorem Text_ab (w : World) : Calls Try.prog 13 #[.string ⟨#[97, 98]⟩, .slice none 0 0, .int .i64 0] w fun e w' => e = .returned (.tuple #[.string ⟨#[97, 98]⟩, .int .i64 0]) ∧ Below w.heap.size w w' :=
  Text_ok ⟨#[97, 98]⟩ none [] 0 0 w (revs_nil w none) (Nat.le_refl _) (by decide) (Nat.le_refl _)

set_option maxRecDepth 20000 in
set_option maxHeartbeats 4000000 in
theorem RevsCut_any (s : ByteArray) (a : Option Addr) (l : List Rv) (cap : Nat) (k i : Int) (w : World) (hl : RevsAt w w.heap.size a l) (hc : l.length ≤ cap) (hs : s.size ≤ 9223372036854775807) :
    Calls Try.prog 8 #[.string s, .slice a l.length cap, .int .i64 k, .int .i64 i] w fun e w' => e = .returned (.bool true) ∧ Below w.heap.size w w' := by
  have hll := hl.1
  have HL : Hid (RevsAt w w.heap.size a l) := hl
  clear hl
  go_enter Try.func8, Try.ntmps8
  go_wp2_with fail
  refine (Text_ab _).mono ?_
  rintro e w1 ⟨rfl, hb1⟩
  have HB1 : Hid (Below w.heap.size w w1) := hb1
  clear hb1
  go_wp2_with fail
  refine (RevCheck_any s a l cap _ (HL.out.here HB1.out (Nat.le_refl _)) hs).mono ?_
  rintro e w2 ⟨rfl, hb2⟩
  have HB2 : Hid (Below w.heap.size w w2) := HB1.out.trans (hb2.mono HB1.out.size)
  clear hb2
  by_cases h0 : checkE s.data.toList l = 0
  · rw [h0]
    obtain ⟨z1, z2, z3⟩ := check_zero h0
    have H0 : Hid (checkE s.data.toList l = 0) := h0
    clear h0 z1 z3
    go_wp2_with fail
    rw [show (l.length : Int) + 1 = ((l.length + 1 : Nat) : Int) by omega]
    refine (Within3_any k (l.length + 1) _ (by omega) (by omega)).mono ?_
    rintro e w3 ⟨n, rfl, hn, e3⟩
    subst e3
    go_wp2_with fail
    try rw [show (l.length : Int) + 1 = ((l.length + 1 : Nat) : Int) by omega]
    refine (Within3_any i (l.length + 1) _ (by omega) (by omega)).mono ?_
    rintro e w3 ⟨m, rfl, hm, e3⟩
    subst e3
    obtain ⟨l2, hl2, hlen2, hr2, hrun2⟩ := run_to HL.out hc (show n ≤ l.length by omega)
    obtain ⟨l3, a3, hl3, hlen3, hc3, hr3, hrun3⟩ := run_from HL.out hc (show n ≤ l.length by omega)
    obtain ⟨x1, x2⟩ := check_cut H0.out n
    rw [← hl2] at x1
    rw [← hl3] at x2
    have HR2 : Hid (RevsAt w w.heap.size a l2) := hr2
    have HR3 : Hid (RevsAt w w.heap.size a3 l3) := hr3
    have HK : Hid _ := fun w hh => Text_ok s a l cap n w hh hc H0.out (by omega)
    have HI : Hid _ := fun w hh => Text_ok s a l cap m w hh hc H0.out (by omega)
    have HC2 : Hid _ := fun w hh => RevCheck_any s a l2 cap w hh hs
    rw [x1] at HC2
    obtain ⟨t, ht⟩ : ∃ t : ByteArray, (⟨(textAt s.data.toList l n).toArray⟩ : ByteArray) = t := ⟨_, rfl⟩
    have htl : t.data.toList = textAt s.data.toList l n := by rw [← ht]
    rw [ht] at HK
    rw [← htl] at x2
    have hts : t.size ≤ 500 := by have := (check_zero x2).1; have h2 : t.data.toList.length = t.size := Array.length_toList; omega
    have HC3 : Hid _ := fun w hh => RevCheck_any t a3 l3 (cap - n) w hh (by omega)
    rw [x2] at HC3
    have hl2c : l2.length ≤ cap := by omega
    have k0 : ((n : Nat) : Int) ≤ (l.length : Int) := by omega
    -- the rest, from the text on
    have HT3 : Hid _ := fun (j : Nat) w hh (hj : j ≤ l3.length) => Text_ok t a3 l3 (cap - n) j w hh hc3 x2 hj
    have HX3 : Hid (∀ j, n + j = m → (⟨(textAt t.data.toList l3 j).toArray⟩ : ByteArray) = ⟨(textAt s.data.toList l m).toArray⟩) := by
      intro j hj
      rw [htl, hl3, text_drop _ _ _ (by omega), hj]
    have HT2 : Hid _ := fun w hh (hj : m ≤ l2.length) => Text_ok s a l2 cap m w hh hl2c x1 hj
    have HX2 : Hid (m ≤ n → (⟨(textAt s.data.toList l2 m).toArray⟩ : ByteArray) = ⟨(textAt s.data.toList l m).toArray⟩) := by
      intro hj
      rw [hl2, text_take _ hj]
    have HLEN : Hid (l2.length = n ∧ l3.length = l.length - n ∧ l3.length ≤ cap - n) := ⟨hlen2, hlen3, hc3⟩
    clear hl2 hl3 hr2 hr3 x1 x2 ht htl hlen2 hlen3 hc3
    go_wp2_with fail
    with_reducible refine (HK.out _ (HL.out.here HB2.out (Nat.le_refl _))).mono ?_
    rintro e w4 ⟨rfl, hb4⟩
    have HB4 : Hid (Below w.heap.size w w4) := HB2.out.trans (hb4.mono HB2.out.size)
    clear hb4
    go_wp2_with fail
    with_reducible refine (HI.out _ (HL.out.here HB4.out (Nat.le_refl _))).mono ?_
    rintro e w5 ⟨rfl, hb5⟩
    have HB5 : Hid (Below w.heap.size w w5) := HB4.out.trans (hb5.mono HB4.out.size)
    clear hb5
    go_wp2_with fail
    with_reducible refine (HC2.out _ (HR2.out.here HB5.out (Nat.le_refl _))).mono ?_
    rintro e w6 ⟨rfl, hb6⟩
    have HB6 : Hid (Below w.heap.size w w6) := HB5.out.trans (hb6.mono HB5.out.size)
    clear hb6
    go_wp2_with fail
    with_reducible refine (HC3.out _ (HR3.out.here HB6.out (Nat.le_refl _))).mono ?_
    rintro e w7 ⟨rfl, hb7⟩
    have HB7 : Hid (Below w.heap.size w w7) := HB6.out.trans (hb7.mono HB6.out.size)
    clear hb7
    by_cases hmn : m < n
    · have q1 : (m : Int) < (n : Int) := by omega
      go_wp2_with fail
      rw [show max 0 ((m : Int) - (n : Int)) = ((0 : Nat) : Int) by omega]
      with_reducible refine (HT3.out 0 _ (HR3.out.here HB7.out (Nat.le_refl _)) (Nat.zero_le _)).mono ?_
      rintro e w8 ⟨rfl, hb8⟩
      have HB8 : Hid (Below w.heap.size w w8) := HB7.out.trans (hb8.mono HB7.out.size)
      clear hb8
      go_wp2_with fail
      with_reducible refine (HT2.out _ (HR2.out.here HB8.out (Nat.le_refl _)) (by rw [HLEN.out.1]; omega)).mono ?_
      rintro e w9 ⟨rfl, hb9⟩
      have HB9 : Hid (Below w.heap.size w w9) := HB8.out.trans (hb9.mono HB8.out.size)
      rw [HX2.out (by omega)]
      clear hb9
      go_wp2_with fail
      go_ret
      exact ⟨rfl, HB9.out⟩
    · have q1 : ¬ (m : Int) < (n : Int) := by omega
      obtain ⟨j, hj⟩ : ∃ j, n + j = m := ⟨m - n, by omega⟩
      have HJ : Hid (n + j = m) := hj
      clear hj
      go_wp2_with fail
      rw [show max 0 ((m : Int) - (n : Int)) = (j : Int) by have := HJ.out; omega]
      with_reducible refine (HT3.out j _ (HR3.out.here HB7.out (Nat.le_refl _)) (by have := HJ.out; rw [HLEN.out.2.1]; omega)).mono ?_
      rintro e w8 ⟨rfl, hb8⟩
      have HB8 : Hid (Below w.heap.size w w8) := HB7.out.trans (hb8.mono HB7.out.size)
      rw [HX3.out j HJ.out]
      clear hb8
      go_wp2_with fail
      go_ret
      exact ⟨rfl, HB8.out⟩
  · have q2 : (checkE s.data.toList l != 0) = true := by simp [h0]
    clear h0
    go_wp2_with fail
    go_ret
    exact ⟨rfl, HB2.out⟩
end Go.Proofs.Ytjfeaedjifpahaa
