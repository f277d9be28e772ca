/- The law CatchSays, walked: it answers true. -/
import Derived.Test.YtndhamcipbecfaaCatchOf
import Derived.Test.YtndhamcipbecfaaRBet
import Derived.Test.YtndhamcipbecfaaRMeet
import Derived.Test.YtndhamcipbecfaaCompL
namespace Go.Proofs.Ytndhamcipbecfaa
open Go.RowKit
set_option linter.unusedSimpArgs false
set_option linter.unusedVariables false

set_option maxRecDepth 20000 in
set_option maxHeartbeats 8000000 in
theorem CatchSays_any (s : ByteArray) (a : Option Addr) (l : List Rv) (cap : Nat) (r : Int) (b : Option Addr) (m : List Pt) (cb : Nat) (w : World) (hl : RevsAt w w.heap.size a l) (hc : l.length ≤ cap) (hm : PartsAt w w.heap.size b m) (hs : s.size ≤ 9223372036854775807) :
    Calls Try.prog 4 #[.string s, .slice a l.length cap, .int .i64 r, .slice b m.length cb] w fun e w' => e = .returned (.bool true) ∧ Below w.heap.size w w' := by
  have hll := hl.1
  have HL : Hid (RevsAt w w.heap.size a l) := hl
  have HM : Hid (PartsAt w w.heap.size b m) := hm
  clear hl hm
  have HC : Hid _ := fun w h1 h2 => CatchOf_any s a b l m cap cb r w h1 hc h2 hs
  have HTX : Hid _ := fun w hh => RTexts_any s a l cap w hh hs
  by_cases h0 : checkE s.data.toList l = 0
  · rw [h0] at HTX
    by_cases hk : r < 0 ∨ (l.length : Int) < r
    · have hE : catchE s.data.toList l r m = 1 := by
        have h1 : betE s.data.toList l r l.length = 1 := by rw [betE, if_pos h0, if_pos (by omega)]
        rw [catchE, h1]; rfl
      obtain ⟨g1, g2, g3⟩ := catch_bad hE (by decide)
      rw [g1, g2, g3, hE] at HC
      clear g1 g2 g3 hE h0
      by_cases k0 : r < 0
      · clear hk
        go_enter Try.func4, Try.ntmps4
        go_wp2_with fail
        refine (HC.out _ HL.out HM.out).mono ?_
        rintro e w1 ⟨a1, c1, a2, c2, a3, c3, rfl, hp1, hp2, hp3, hb1⟩
        have HB1 : Hid (Below w.heap.size w w1) := hb1
        clear hp1 hp2 hp3 hb1
        go_wp2_with fail
        refine (HTX.out _ (HL.out.here HB1.out (Nat.le_refl _))).mono ?_
        rintro e w2 ⟨v, rfl, hown, hb2⟩
        have HB2 : Hid (Below w.heap.size w w2) := HB1.out.trans (hb2.mono HB1.out.size)
        clear hown hb2
        go_wp2_with fail
        go_ret
        exact ⟨rfl, HB2.out⟩
      · have k1 : (l.length : Int) < r := by omega
        clear hk
        go_enter Try.func4, Try.ntmps4
        go_wp2_with fail
        refine (HC.out _ HL.out HM.out).mono ?_
        rintro e w1 ⟨a1, c1, a2, c2, a3, c3, rfl, hp1, hp2, hp3, hb1⟩
        have HB1 : Hid (Below w.heap.size w w1) := hb1
        clear hp1 hp2 hp3 hb1
        go_wp2_with fail
        refine (HTX.out _ (HL.out.here HB1.out (Nat.le_refl _))).mono ?_
        rintro e w2 ⟨v, rfl, hown, hb2⟩
        have HB2 : Hid (Below w.heap.size w w2) := HB1.out.trans (hb2.mono HB1.out.size)
        clear hown hb2
        go_wp2_with fail
        go_ret
        exact ⟨rfl, HB2.out⟩
    · obtain ⟨n, rfl⟩ : ∃ n : Nat, r = n := ⟨r.toNat, by omega⟩
      have hn : n ≤ l.length := by omega
      have HCE : Hid _ := catchE_ok (m := m) h0 hn
      have HCG : Hid (catchE s.data.toList l n m = 0 → _) := catch_good
      have HTR : Hid (textsR s.data.toList l = textsB s.data.toList l (l.length + 1)) := by show _ = _; rw [textsR, if_pos h0]
      have HRB : Hid _ := fun w hh => RBetween_any s a l cap n l.length w hh h0 hn (Nat.le_refl _)
      obtain ⟨D, hD⟩ : ∃ D, betO s.data.toList l n l.length = D := ⟨_, rfl⟩
      obtain ⟨t, ht⟩ : ∃ t : ByteArray, (⟨(textAt s.data.toList l n).toArray⟩ : ByteArray) = t := ⟨_, rfl⟩
      have hts : (textAt s.data.toList l n).length = t.size := by rw [← ht]; rfl
      have HAT : Hid (((textsB s.data.toList l (l.length + 1)).map Value.string)[n]? = some (.string t)) := by show _ = _; rw [← ht]; exact textsB_at s.data.toList l (by omega)
      rw [hD, hts] at HCE
      rw [hD] at HCG HRB
      have HF : Hid _ := fun w hh => RFits_any b m cb (t.size : Nat) w hh
      have HMe : Hid _ := fun (x : Option Addr) (cx : Nat) w h1 h2 => RMeet_any x b D m cx cb w h1 h2
      obtain ⟨fe, hfe⟩ : ∃ fe, fitsE m (t.size : Nat) = fe := ⟨_, rfl⟩
      obtain ⟨me, hme⟩ : ∃ me, meetE D m = me := ⟨_, rfl⟩
      obtain ⟨X, hX⟩ : ∃ X, meetL D m = X := ⟨_, rfl⟩
      obtain ⟨Y, hY⟩ : ∃ Y, meetR D m = Y := ⟨_, rfl⟩
      rw [hfe] at HF HCE
      rw [hme] at HCE HMe
      rw [hX, hY] at HCG HMe
      have k0 : ¬ (n : Int) < 0 := by omega
      have k1 : ¬ (l.length : Int) < (n : Int) := by omega
      have k2 : (n : Int) < (l.length : Int) + 1 := by omega
      clear hD ht hts hfe hme hX hY hk h0
      by_cases hf : fe = 0
      · have hf' : (fe == 0) = true := by simp [hf]
        by_cases hm : me = 0
        · have hE : catchE s.data.toList l n m = 0 := by rw [HCE.out, if_pos hf, hm]
          obtain ⟨g1, g2, g3⟩ := HCG.out hE
          rw [g1, g2, g3, hE] at HC
          have hm' : (me != 0) = false := by simp [hm]
          clear hE g1 g2 g3 hf hm HCE HCG
          go_enter Try.func4, Try.ntmps4
          go_wp2_with fail
          refine (HC.out _ HL.out HM.out).mono ?_
          rintro e w1 ⟨a1, c1, a2, c2, a3, c3, rfl, hp1, hp2, hp3, hb1⟩
          have HB1 : Hid (Below w.heap.size w w1) := hb1
          have HX1 : Hid (PartsAt w1 w1.heap.size a1 D) := hp1
          have HX2 : Hid (PartsAt w1 w1.heap.size a2 Y) := hp2
          have HX3 : Hid (PartsAt w1 w1.heap.size a3 X) := hp3
          clear hp1 hp2 hp3 hb1
          go_wp2_with fail
          refine (HTX.out _ (HL.out.here HB1.out (Nat.le_refl _))).mono ?_
          rintro e w2 ⟨v, rfl, hown, hb2⟩
          rw [HTR.out, textsB_len] at hown
          obtain ⟨gt, cg, rfl, hgc, hgl⟩ := own_at hown HAT.out
          have HB2 : Hid (Below w.heap.size w w2) := HB1.out.trans (hb2.mono HB1.out.size)
          have HX1 : Hid (PartsAt w2 w2.heap.size a1 D) := HX1.out.here hb2 (Nat.le_refl _)
          have HX2 : Hid (PartsAt w2 w2.heap.size a2 Y) := HX2.out.here hb2 (Nat.le_refl _)
          have HX3 : Hid (PartsAt w2 w2.heap.size a3 X) := HX3.out.here hb2 (Nat.le_refl _)
          clear hown hb2
          go_wp2_with fail
          refine (HF.out _ (HM.out.here HB2.out (Nat.le_refl _))).mono ?_
          rintro e w3 ⟨rfl, hb3⟩
          have HB3 : Hid (Below w.heap.size w w3) := HB2.out.trans (hb3.mono HB2.out.size)
          have HX1 : Hid (PartsAt w3 w3.heap.size a1 D) := HX1.out.here hb3 (Nat.le_refl _)
          have HX2 : Hid (PartsAt w3 w3.heap.size a2 Y) := HX2.out.here hb3 (Nat.le_refl _)
          have HX3 : Hid (PartsAt w3 w3.heap.size a3 X) := HX3.out.here hb3 (Nat.le_refl _)
          clear hb3 hgc
          go_wp2_with fail
          refine (HRB.out _ (HL.out.here HB3.out (Nat.le_refl _))).mono ?_
          rintro e w4 ⟨a4, c4, rfl, hp4, hb4⟩
          have HB4 : Hid (Below w.heap.size w w4) := HB3.out.trans (hb4.mono HB3.out.size)
          have HX1 : Hid (PartsAt w4 w4.heap.size a1 D) := HX1.out.here hb4 (Nat.le_refl _)
          have HX2 : Hid (PartsAt w4 w4.heap.size a2 Y) := HX2.out.here hb4 (Nat.le_refl _)
          have HX3 : Hid (PartsAt w4 w4.heap.size a3 X) := HX3.out.here hb4 (Nat.le_refl _)
          have HD4 : Hid (PartsAt w4 w4.heap.size a4 D) := hp4
          clear hb4 hp4
          go_wp2_with fail
          refine (HMe.out a4 c4 _ HD4.out (HM.out.here HB4.out (Nat.le_refl _))).mono ?_
          rintro e w5 ⟨x5, cx5, y5, cy5, rfl, hpx, hpy, hb5⟩
          have HB5 : Hid (Below w.heap.size w w5) := HB4.out.trans (hb5.mono HB4.out.size)
          have HX1 : Hid (PartsAt w5 w5.heap.size a1 D) := HX1.out.here hb5 (Nat.le_refl _)
          have HX2 : Hid (PartsAt w5 w5.heap.size a2 Y) := HX2.out.here hb5 (Nat.le_refl _)
          have HX3 : Hid (PartsAt w5 w5.heap.size a3 X) := HX3.out.here hb5 (Nat.le_refl _)
          have HD5 : Hid (PartsAt w5 w5.heap.size a4 D) := HD4.out.here hb5 (Nat.le_refl _)
          have HXX : Hid (PartsAt w5 w5.heap.size x5 X) := hpx
          have HYY : Hid (PartsAt w5 w5.heap.size y5 Y) := hpy
          clear hb5 hpx hpy
          go_wp2_with fail
          refine (Same_yes a1 a4 D c1 c4 _ HX1.out HD5.out).mono ?_
          rintro e w6 ⟨rfl, hb6⟩
          have HB6 : Hid (Below w.heap.size w w6) := HB5.out.trans (hb6.mono HB5.out.size)
          have HX2 : Hid (PartsAt w6 w6.heap.size a2 Y) := HX2.out.here hb6 (Nat.le_refl _)
          have HX3 : Hid (PartsAt w6 w6.heap.size a3 X) := HX3.out.here hb6 (Nat.le_refl _)
          have HXX : Hid (PartsAt w6 w6.heap.size x5 X) := HXX.out.here hb6 (Nat.le_refl _)
          have HYY : Hid (PartsAt w6 w6.heap.size y5 Y) := HYY.out.here hb6 (Nat.le_refl _)
          clear hb6
          go_wp2_with fail
          refine (Same_yes a2 y5 Y c2 cy5 _ HX2.out HYY.out).mono ?_
          rintro e w7 ⟨rfl, hb7⟩
          have HB7 : Hid (Below w.heap.size w w7) := HB6.out.trans (hb7.mono HB6.out.size)
          have HX3 : Hid (PartsAt w7 w7.heap.size a3 X) := HX3.out.here hb7 (Nat.le_refl _)
          have HXX : Hid (PartsAt w7 w7.heap.size x5 X) := HXX.out.here hb7 (Nat.le_refl _)
          clear hb7
          go_wp2_with fail
          refine (Same_yes a3 x5 X c3 cx5 _ HX3.out HXX.out).mono ?_
          rintro e w8 ⟨rfl, hb8⟩
          have HB8 : Hid (Below w.heap.size w w8) := HB7.out.trans (hb8.mono HB7.out.size)
          clear hb8
          go_wp2_with fail
          go_ret
          exact ⟨rfl, HB8.out⟩
        · have hE : catchE s.data.toList l n m = me := by rw [HCE.out, if_pos hf]
          obtain ⟨g1, g2, g3⟩ := catch_bad hE hm
          rw [g1, g2, g3, hE] at HC
          have hm' : (me != 0) = true := by simp [hm]
          have hm2 : (me == me) = true := by simp
          clear hE g1 g2 g3 hf hm HCE HCG
          go_enter Try.func4, Try.ntmps4
          go_wp2_with fail
          refine (HC.out _ HL.out HM.out).mono ?_
          rintro e w1 ⟨a1, c1, a2, c2, a3, c3, rfl, hp1, hp2, hp3, hb1⟩
          have HB1 : Hid (Below w.heap.size w w1) := hb1
          clear hp1 hp2 hp3 hb1
          go_wp2_with fail
          refine (HTX.out _ (HL.out.here HB1.out (Nat.le_refl _))).mono ?_
          rintro e w2 ⟨v, rfl, hown, hb2⟩
          rw [HTR.out, textsB_len] at hown
          obtain ⟨gt, cg, rfl, hgc, hgl⟩ := own_at hown HAT.out
          have HB2 : Hid (Below w.heap.size w w2) := HB1.out.trans (hb2.mono HB1.out.size)
          clear hown hb2
          go_wp2_with fail
          refine (HF.out _ (HM.out.here HB2.out (Nat.le_refl _))).mono ?_
          rintro e w3 ⟨rfl, hb3⟩
          have HB3 : Hid (Below w.heap.size w w3) := HB2.out.trans (hb3.mono HB2.out.size)
          clear hb3 hgc
          go_wp2_with fail
          refine (HRB.out _ (HL.out.here HB3.out (Nat.le_refl _))).mono ?_
          rintro e w4 ⟨a4, c4, rfl, hp4, hb4⟩
          have HB4 : Hid (Below w.heap.size w w4) := HB3.out.trans (hb4.mono HB3.out.size)
          have HD4 : Hid (PartsAt w4 w4.heap.size a4 D) := hp4
          clear hb4 hp4
          go_wp2_with fail
          refine (HMe.out a4 c4 _ HD4.out (HM.out.here HB4.out (Nat.le_refl _))).mono ?_
          rintro e w5 ⟨x5, cx5, y5, cy5, rfl, hpx, hpy, hb5⟩
          have HB5 : Hid (Below w.heap.size w w5) := HB4.out.trans (hb5.mono HB4.out.size)
          clear hb5 hpx hpy
          go_wp2_with fail
          go_ret
          exact ⟨rfl, HB5.out⟩
      · have hf' : (fe == 0) = false := by simp [hf]
        have hf2 : (fe != 0) = true := by simp [hf]
        have hf3 : (fe == fe) = true := by simp
        have hE : catchE s.data.toList l n m = fe := by rw [HCE.out, if_neg hf]
        obtain ⟨g1, g2, g3⟩ := catch_bad hE hf
        rw [g1, g2, g3, hE] at HC
        clear hE g1 g2 g3 hf HCE HCG
        go_enter Try.func4, Try.ntmps4
        go_wp2_with fail
        refine (HC.out _ HL.out HM.out).mono ?_
        rintro e w1 ⟨a1, c1, a2, c2, a3, c3, rfl, hp1, hp2, hp3, hb1⟩
        have HB1 : Hid (Below w.heap.size w w1) := hb1
        clear hp1 hp2 hp3 hb1
        go_wp2_with fail
        refine (HTX.out _ (HL.out.here HB1.out (Nat.le_refl _))).mono ?_
        rintro e w2 ⟨v, rfl, hown, hb2⟩
        rw [HTR.out, textsB_len] at hown
        obtain ⟨gt, cg, rfl, hgc, hgl⟩ := own_at hown HAT.out
        have HB2 : Hid (Below w.heap.size w w2) := HB1.out.trans (hb2.mono HB1.out.size)
        clear hown hb2
        go_wp2_with fail
        refine (HF.out _ (HM.out.here HB2.out (Nat.le_refl _))).mono ?_
        rintro e w3 ⟨rfl, hb3⟩
        have HB3 : Hid (Below w.heap.size w w3) := HB2.out.trans (hb3.mono HB2.out.size)
        clear hb3 hgc
        go_wp2_with fail
        go_ret
        exact ⟨rfl, HB3.out⟩
  · have hE : catchE s.data.toList l r m = checkE s.data.toList l := by
      have h1 : betE s.data.toList l r l.length = checkE s.data.toList l := by rw [betE, if_neg h0]
      rw [catchE, h1, if_neg h0]
    obtain ⟨g1, g2, g3⟩ := catch_bad hE h0
    rw [g1, g2, g3, hE] at HC
    have q1 : (checkE s.data.toList l == 0) = false := by simp [h0]
    have q2 : (checkE s.data.toList l != 0) = true := by simp [h0]
    have q3 : (checkE s.data.toList l == checkE s.data.toList l) = true := by simp
    clear g1 g2 g3 hE h0
    go_enter Try.func4, Try.ntmps4
    go_wp2_with fail
    refine (HC.out _ HL.out HM.out).mono ?_
    rintro e w1 ⟨a1, c1, a2, c2, a3, c3, rfl, hp1, hp2, hp3, hb1⟩
    have HB1 : Hid (Below w.heap.size w w1) := hb1
    clear hp1 hp2 hp3 hb1
    go_wp2_with fail
    refine (HTX.out _ (HL.out.here HB1.out (Nat.le_refl _))).mono ?_
    rintro e w2 ⟨v, rfl, hown, hb2⟩
    have HB2 : Hid (Below w.heap.size w w2) := HB1.out.trans (hb2.mono HB1.out.size)
    clear hown hb2
    go_wp2_with fail
    go_ret
    exact ⟨rfl, HB2.out⟩
end Go.Proofs.Ytndhamcipbecfaa
