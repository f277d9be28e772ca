/- The law UndoSays, walked: it answers true. -/
import Derived.Test.YtndhamcipbecfaaUndoOf
import Derived.Test.YtndhamcipbecfaaRUndo
import Derived.Test.YtndhamcipbecfaaCompL
namespace Go.Proofs.Ytndhamcipbecfaa
open Go.RowKit
set_option linter.unusedSimpArgs false
set_option linter.unusedVariables false

set_option maxRecDepth 20000 in
set_option maxHeartbeats 4000000 in
theorem UndoSays_any (s : ByteArray) (a : Option Addr) (l : List Rv) (cap : Nat) (k : Int) (w : World) (hl : RevsAt w w.heap.size a l) (hc : l.length ≤ cap) (hs : s.size ≤ 9223372036854775807) :
    Calls Try.prog 3 #[.string s, .slice a l.length cap, .int .i64 k] w fun e w' => e = .returned (.bool true) ∧ Below w.heap.size w w' := by
  have hll := hl.1
  have HL : Hid (RevsAt w w.heap.size a l) := hl
  clear hl
  have HTX : Hid _ := fun w hh => RTexts_any s a l cap w hh hs
  have HU : Hid _ := fun w hh => UndoOf_any s a l cap k w hh hc hs
  by_cases h0 : checkE s.data.toList l = 0
  · rw [h0] at HTX
    by_cases hk : k < 1 ∨ (l.length : Int) < k
    · have t1 : undoA s.data.toList l k = ([], 1) := by rw [undoA, if_pos h0, if_pos hk]
      rw [t1] at HU
      clear t1 h0
      by_cases k0 : k < 1
      · clear hk
        go_enter Try.func3, Try.ntmps3
        go_wp2_with fail
        refine (HU.out _ HL.out).mono ?_
        rintro e w1 ⟨a1, c1, rfl, hp1, hr1, hb1⟩
        have HB1 : Hid (Below w.heap.size w w1) := hb1
        clear hp1 hr1 hb1
        go_wp2_with fail
        refine (HTX.out _ (HL.out.here HB1.out (Nat.le_refl _))).mono ?_
        rintro e w2 ⟨v, rfl, hown, hb2⟩
        have HB2 : Hid (Below w.heap.size w w2) := HB1.out.trans (hb2.mono HB1.out.size)
        clear hown hb2
        go_wp2_with fail
        go_ret
        exact ⟨rfl, HB2.out⟩
      · have k1 : (l.length : Int) < k := by omega
        clear hk
        go_enter Try.func3, Try.ntmps3
        go_wp2_with fail
        refine (HU.out _ HL.out).mono ?_
        rintro e w1 ⟨a1, c1, rfl, hp1, hr1, hb1⟩
        have HB1 : Hid (Below w.heap.size w w1) := hb1
        clear hp1 hr1 hb1
        go_wp2_with fail
        refine (HTX.out _ (HL.out.here HB1.out (Nat.le_refl _))).mono ?_
        rintro e w2 ⟨v, rfl, hown, hb2⟩
        have HB2 : Hid (Below w.heap.size w w2) := HB1.out.trans (hb2.mono HB1.out.size)
        clear hown hb2
        go_wp2_with fail
        go_ret
        exact ⟨rfl, HB2.out⟩
    · obtain ⟨n, rfl⟩ : ∃ n : Nat, k = n := ⟨k.toNat, by omega⟩
      have HRU : Hid _ := fun w hh => RUndo_any s a l cap n w hh hc h0 (by omega) (by omega)
      rw [undoA_ok h0 (by omega) (by omega)] at HU
      obtain ⟨U, hU⟩ : ∃ U, undoD s.data.toList l n = U := ⟨_, rfl⟩
      rw [hU] at HU HRU
      obtain ⟨D, E⟩ := U
      have k0 : ¬ (n : Int) < 1 := by omega
      have k1 : ¬ (l.length : Int) < (n : Int) := by omega
      have k2 : (E == E) = true := by simp
      clear hU hk h0
      go_enter Try.func3, Try.ntmps3
      go_wp2_with fail
      refine (HU.out _ HL.out).mono ?_
      rintro e w1 ⟨a1, c1, rfl, hp1, hr1, hb1⟩
      have HB1 : Hid (Below w.heap.size w w1) := hb1
      have HP1 : Hid (PartsAt w1 w1.heap.size a1 D) := hp1
      clear hp1 hr1 hb1
      go_wp2_with fail
      refine (HTX.out _ (HL.out.here HB1.out (Nat.le_refl _))).mono ?_
      rintro e w2 ⟨v, rfl, hown, hb2⟩
      have HB2 : Hid (Below w.heap.size w w2) := HB1.out.trans (hb2.mono HB1.out.size)
      have HP2 : Hid (PartsAt w2 w2.heap.size a1 D) := HP1.out.here hb2 (Nat.le_refl _)
      clear hown hb2
      go_wp2_with fail
      refine (HRU.out _ (HL.out.here HB2.out (Nat.le_refl _))).mono ?_
      rintro e w3 ⟨a3, c3, rfl, hp3, hb3⟩
      have HB3 : Hid (Below w.heap.size w w3) := HB2.out.trans (hb3.mono HB2.out.size)
      have HP3 : Hid (PartsAt w3 w3.heap.size a1 D) := HP2.out.here hb3 (Nat.le_refl _)
      have HQ3 : Hid (PartsAt w3 w3.heap.size a3 D) := hp3
      clear hp3 hb3
      go_wp2_with fail
      refine (Same_yes a1 a3 D c1 c3 _ HP3.out HQ3.out).mono ?_
      rintro e w4 ⟨rfl, hb4⟩
      have HB4 : Hid (Below w.heap.size w w4) := HB3.out.trans (hb4.mono HB3.out.size)
      clear hb4
      go_wp2_with fail
      go_ret
      exact ⟨rfl, HB4.out⟩
  · have t1 : undoA s.data.toList l k = ([], checkE s.data.toList l) := by rw [undoA, if_neg h0]
    rw [t1] at HU
    have q1 : (checkE s.data.toList l == 0) = false := by simp [h0]
    have q2 : (checkE s.data.toList l != 0) = true := by simp [h0]
    have q3 : (checkE s.data.toList l == checkE s.data.toList l) = true := by simp
    clear t1 h0
    go_enter Try.func3, Try.ntmps3
    go_wp2_with fail
    refine (HU.out _ HL.out).mono ?_
    rintro e w1 ⟨a1, c1, rfl, hp1, hr1, hb1⟩
    have HB1 : Hid (Below w.heap.size w w1) := hb1
    clear hp1 hr1 hb1
    go_wp2_with fail
    refine (HTX.out _ (HL.out.here HB1.out (Nat.le_refl _))).mono ?_
    rintro e w2 ⟨v, rfl, hown, hb2⟩
    have HB2 : Hid (Below w.heap.size w w2) := HB1.out.trans (hb2.mono HB1.out.size)
    clear hown hb2
    go_wp2_with fail
    go_ret
    exact ⟨rfl, HB2.out⟩
end Go.Proofs.Ytndhamcipbecfaa
