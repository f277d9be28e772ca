/- The law UndoLast, walked: it answers true. -/
import Derived.Test.YtndhamcipbecfaaUndoLit
import Derived.Test.YtndhamcipbecfaaMeetKit
namespace Go.Proofs.Ytndhamcipbecfaa
open Go.RowKit
set_option linter.unusedSimpArgs false
set_option linter.unusedVariables false

set_option maxRecDepth 20000 in
set_option maxHeartbeats 4000000 in
theorem UndoLast_any (s : ByteArray) (a : Option Addr) (l : List Rv) (cap : Nat) (w : World) (hl : RevsAt w w.heap.size a l) (hc : l.length ≤ cap) (hs : s.size ≤ 9223372036854775807) :
    Calls Try.prog 5 #[.string s, .slice a l.length cap] w fun e w' => e = .returned (.bool true) ∧ Below w.heap.size w w' := by
  have hll := hl.1
  have HL : Hid (RevsAt w w.heap.size a l) := hl
  clear hl
  have HU : Hid _ := fun w hh => UndoOf_any s a l cap l.length w hh hc hs
  go_enter Try.func5, Try.ntmps5
  go_wp2_with fail
  refine (first_any ⟨#[97]⟩ _ (by decide)).mono ?_
  rintro e w1 ⟨ad, rfl, hp1, hb1⟩
  have HB1 : Hid (Below w.heap.size w w1) := hb1
  have HT1 : Hid (∀ _ : Unit, _) := fun _ => UndoFirst w1 ad hp1
  clear hp1 hb1
  go_wp2_with fail
  refine Calls.mono (HT1.out ()) ?_
  rintro e w2 ⟨a2, c2, rfl, hp2, hb2⟩
  have HB2 : Hid (Below w.heap.size w w2) := HB1.out.trans (hb2.mono HB1.out.size)
  have HB2' : Hid (Below w.heap.size w (w2.alloc (.cells #[.int .i64 3, .int .i64 1, .string ⟨#[]⟩] 43))) := HB2.out.alloc HB2.out.size _
  have HP2 : Hid (PartsAt (w2.alloc (.cells #[.int .i64 3, .int .i64 1, .string ⟨#[]⟩] 43)) (w2.alloc (.cells #[.int .i64 3, .int .i64 1, .string ⟨#[]⟩] 43)).heap.size a2 [cutP 1]) := hp2.here ((Below.refl _ _).alloc (Nat.le_refl _) _) (Nat.le_refl _)
  have HQ2 : Hid (PartsAt (w2.alloc (.cells #[.int .i64 3, .int .i64 1, .string ⟨#[]⟩] 43)) (w2.alloc (.cells #[.int .i64 3, .int .i64 1, .string ⟨#[]⟩] 43)).heap.size (some ⟨w2.heap.size, 0, none⟩) [cutP 1]) := lit_at w2 [cutP 1] (small_bound (by decide)) _ rfl
  clear hp2 hb2
  go_wp2_with fail
  refine (same_n (la := [cutP 1]) a2 (some ⟨w2.heap.size, 0, none⟩) c2 1 _ HP2.out HQ2.out 1 (by rfl)).mono ?_
  rintro e w3 ⟨rfl, hb3⟩
  have HB3 : Hid (Below w.heap.size w w3) := HB2'.out.trans (hb3.mono HB2'.out.size)
  clear hb3
  go_wp2_with fail
  refine (HU.out _ (HL.out.here HB3.out (Nat.le_refl _))).mono ?_
  rintro e w4 ⟨a4, c4, rfl, hp4, hr4, hb4⟩
  have HB4 : Hid (Below w.heap.size w w4) := HB3.out.trans (hb4.mono HB3.out.size)
  have HP4 : Hid (PartsAt w4 w4.heap.size a4 (undoA s.data.toList l l.length).1) := hp4
  clear hp4 hr4 hb4
  by_cases h0 : (undoA s.data.toList l l.length).2 = 0
  · obtain ⟨hc0, n, hn, hn1, hn2, hA⟩ := undoA_zero h0
    obtain rfl : n = l.length := by omega
    obtain ⟨z1, z2, z3⟩ := check_zero hc0
    rw [hA] at HP4 h0 ⊢
    obtain ⟨u1, u2⟩ := undo_last z3 hn1
    have u3 : sizesE (undoD s.data.toList l l.length).1 = 0 ∧ inI (undoD s.data.toList l l.length).1 = ((textAt s.data.toList l l.length).length : Nat) := by
      rcases undo_says z3 hn1 (Nat.le_refl _) with h | h
      · exact h.2
      · rw [h.1] at h0; cases h0
    have HT : Hid _ := fun w hh => Text_ok s a l cap l.length w hh hc hc0 (Nat.le_refl _)
    have HT' : Hid _ := fun w hh => Text_ok s a l cap (l.length - 1) w hh hc hc0 (by omega)
    have htl := text_le z3 z1 l.length
    obtain ⟨t1, ht1⟩ : ∃ t : ByteArray, (⟨(textAt s.data.toList l l.length).toArray⟩ : ByteArray) = t := ⟨_, rfl⟩
    obtain ⟨t0, ht0⟩ : ∃ t : ByteArray, (⟨(textAt s.data.toList l (l.length - 1)).toArray⟩ : ByteArray) = t := ⟨_, rfl⟩
    have hts : t1.size = (textAt s.data.toList l l.length).length := by rw [← ht1]; rfl
    rw [ht1] at HT
    rw [ht0] at HT'
    obtain ⟨U, hU⟩ : ∃ U, undoD s.data.toList l l.length = U := ⟨_, rfl⟩
    rw [hU] at HP4 u1 u2 u3 ⊢
    obtain ⟨D, E⟩ := U
    have hfit : fitsE D (t1.size : Nat) = 0 := fits_of u3.1 (by rw [u3.2, hts])
    have HDo : Hid (∀ (ad : Option Addr) (c : Nat) (w : World), PartsAt w w.heap.size ad D → Calls Try.prog 19 #[.slice ad D.length c, .string t1] w fun e w' => e = .returned (.tuple #[.string t0, .int .i64 0]) ∧ Below w.heap.size w w') := by
      intro ad c w hp
      have h := Do_any ad D c t1 w hp (by omega)
      have e1 : doT D t1 = textAt s.data.toList l (l.length - 1) := by
        rw [doT, if_pos hfit, ← ht1]; exact u2
      rw [e1, hfit, ht0] at h
      exact h
    obtain rfl : E = 0 := u1
    rw [show ((l.length - 1 : Nat) : Int) = (l.length : Int) - 1 by omega] at HT'
    have HP4 : Hid (PartsAt w4 w4.heap.size a4 D) := HP4.out
    clear hc0 hA h0 z1 z3 u2 u3 htl ht1 ht0 hts hU hfit hn
    go_wp2_with fail
    refine (HT.out _ (HL.out.here HB4.out (Nat.le_refl _))).mono ?_
    rintro e w5 ⟨rfl, hb5⟩
    have HB5 : Hid (Below w.heap.size w w5) := HB4.out.trans (hb5.mono HB4.out.size)
    have HP5 : Hid (PartsAt w5 w5.heap.size a4 D) := HP4.out.here hb5 (Nat.le_refl _)
    clear hb5
    go_wp2_with fail
    refine (HT'.out _ (HL.out.here HB5.out (Nat.le_refl _))).mono ?_
    rintro e w6 ⟨rfl, hb6⟩
    have HB6 : Hid (Below w.heap.size w w6) := HB5.out.trans (hb6.mono HB5.out.size)
    have HP6 : Hid (PartsAt w6 w6.heap.size a4 D) := HP5.out.here hb6 (Nat.le_refl _)
    clear hb6
    go_wp2_with fail
    refine (HDo.out a4 c4 _ HP6.out).mono ?_
    rintro e w7 ⟨rfl, hb7⟩
    have HB7 : Hid (Below w.heap.size w w7) := HB6.out.trans (hb7.mono HB6.out.size)
    clear hb7
    go_wp2_with fail
    go_ret
    exact ⟨rfl, HB7.out⟩
  · have hn := undoA_not h0
    obtain ⟨U, hU⟩ : ∃ U, undoA s.data.toList l l.length = U := ⟨_, rfl⟩
    rw [hU] at hn h0 ⊢
    obtain ⟨D, E⟩ := U
    obtain rfl : D = [] := hn
    have q1 : (E != 0) = true := by simpa using h0
    clear hU h0 HP4 HU
    go_wp2_with fail
    go_ret
    exact ⟨rfl, HB4.out⟩
end Go.Proofs.Ytndhamcipbecfaa
