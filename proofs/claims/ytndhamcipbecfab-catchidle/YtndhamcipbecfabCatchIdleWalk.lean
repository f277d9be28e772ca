/- The law CatchIdle, walked: it answers true. -/
import Derived.Test.YtndhamcipbecfabCatchOf
import Derived.Test.YtndhamcipbecfabMeetKit
import Derived.Test.YtndhamcipbecfabRevText
import Derived.Test.YtndhamcipbecfabMeetL
import Derived.Test.YtndhamcipbecfabPutPt
import Derived.Test.YtndhamcipbecfabNumWithin
namespace Go.Proofs.Ytndhamcipbecfab
open Go.RowKit
set_option linter.unusedSimpArgs false
set_option linter.unusedVariables false

theorem lit_none : catchE [] [] 0 [⟨2, 0, ⟨#[97]⟩⟩] = 0 ∧ catchT [] [] 0 [⟨2, 0, ⟨#[97]⟩⟩] = [] ∧ catchR [] [] 0 [⟨2, 0, ⟨#[97]⟩⟩] = [putP ⟨#[97]⟩] ∧ catchB [] [] 0 [⟨2, 0, ⟨#[97]⟩⟩] = allL 1 := ⟨by rfl, by rfl, by rfl, by rfl⟩
/-- nobody has done anything -/
theorem CatchNil (w : World) (bd : Addr) (hm : PartsAt w w.heap.size (some bd) [⟨2, 0, ⟨#[97]⟩⟩]) :
    Calls Try.prog 13 #[.string ⟨#[]⟩, .slice none 0 0, .int .i64 0, .slice (some bd) 1 1] w fun e w' => ∃ a1 c1 a2 c2 a3 c3, e = .returned (.tuple #[.slice a1 0 c1, .slice a2 1 c2, .slice a3 (allL 1).length c3, .int .i64 0]) ∧ PartsAt w' w'.heap.size a2 [putP ⟨#[97]⟩] ∧ PartsAt w' w'.heap.size a3 (allL 1) ∧ Below w.heap.size w w' := by
  have h3 := CatchOf_any ⟨#[]⟩ none (some bd) [] [⟨2, 0, ⟨#[97]⟩⟩] 0 1 0 w ⟨by simp, Nat.le_refl _, by simp, by simp⟩ (Nat.le_refl _) hm (by decide)
  obtain ⟨e0, e1, e2, e3⟩ := lit_none
  have d : (⟨#[]⟩ : ByteArray).data.toList = [] := rfl
  rw [d, e0, e1, e2, e3] at h3
  refine Calls.mono h3 ?_
  rintro e w' ⟨a1, c1, a2, c2, a3, c3, rfl, _, h5, h6, hb⟩
  exact ⟨a1, c1, a2, c2, a3, c3, rfl, h5, h6, hb⟩

set_option maxRecDepth 20000 in
set_option maxHeartbeats 8000000 in
theorem CatchIdle_any (s : ByteArray) (a : Option Addr) (l : List Rv) (cap : Nat) (r : Int) (b : Option Addr) (m : List Pt) (cb : Nat) (w : World) (hl : RevsAt w w.heap.size a l) (hc : l.length ≤ cap) (hm : PartsAt w w.heap.size b m) (hs : s.size ≤ 9223372036854775807) :
    Calls Try.prog 5 #[.string s, .slice a l.length cap, .int .i64 r, .slice b m.length cb] w fun e w' => e = .returned (.bool true) ∧ Below w.heap.size w w' := by
  have hll := hl.1
  have HL : Hid (RevsAt w w.heap.size a l) := hl
  have HM : Hid (PartsAt w w.heap.size b m) := hm
  clear hl hm
  go_enter Try.func5, Try.ntmps5
  go_wp2_with fail
  refine (put_any ⟨#[97]⟩ _ (by decide)).mono ?_
  rintro e w1 ⟨rfl, hp1, hb1⟩
  have HB1 : Hid (Below w.heap.size w w1) := hb1
  have HT1 : Hid (∀ _ : Unit, _) := fun _ => CatchNil w1 ⟨w.heap.size, 0, none⟩ hp1
  clear hp1 hb1
  go_wp2_with fail
  refine Calls.mono (HT1.out ()) ?_
  rintro e w2 ⟨a1, c1, a2, c2, a3, c3, rfl, hp2, hq2, hb2⟩
  have HB2 : Hid (Below w.heap.size w w2) := HB1.out.trans (hb2.mono HB1.out.size)
  have HP2 : Hid (PartsAt w2 w2.heap.size a2 [putP ⟨#[97]⟩]) := hp2
  have HQ2 : Hid (PartsAt w2 w2.heap.size a3 (allL 1)) := hq2
  clear hp2 hq2 hb2 HT1
  go_wp2_with fail
  refine (put_any ⟨#[97]⟩ _ (by decide)).mono ?_
  rintro e w3 ⟨rfl, hp3, hb3⟩
  have HB3 : Hid (Below w.heap.size w w3) := HB2.out.trans (hb3.mono HB2.out.size)
  have HP3 : Hid (PartsAt w3 w3.heap.size a2 [putP ⟨#[97]⟩]) := HP2.out.here hb3 (Nat.le_refl _)
  have HQ3 : Hid (PartsAt w3 w3.heap.size a3 (allL 1)) := HQ2.out.here hb3 (Nat.le_refl _)
  have HR3 : Hid (PartsAt w3 w3.heap.size (some ⟨w2.heap.size, 0, none⟩) [putP ⟨#[97]⟩]) := hp3
  clear hp3 hb3
  go_wp2_with fail
  refine (same_n (la := [putP ⟨#[97]⟩]) a2 (some ⟨w2.heap.size, 0, none⟩) c2 1 _ HP3.out HR3.out 1 (by rfl)).mono ?_
  rintro e w4 ⟨rfl, hb4⟩
  have HB4 : Hid (Below w.heap.size w w4) := HB3.out.trans (hb4.mono HB3.out.size)
  have HQ4 : Hid (PartsAt w4 w4.heap.size a3 (allL 1)) := HQ3.out.here hb4 (Nat.le_refl _)
  clear hb4
  go_wp2_with fail
  refine (All_any 1 _ (by decide) (by decide)).mono ?_
  rintro e w5 ⟨x5, c5, rfl, hp5, hb5⟩
  have HB5 : Hid (Below w.heap.size w w5) := HB4.out.trans (hb5.mono HB4.out.size)
  have HQ5 : Hid (PartsAt w5 w5.heap.size a3 (allL 1)) := HQ4.out.here hb5 (Nat.le_refl _)
  have HP5 : Hid (PartsAt w5 w5.heap.size x5 (allL 1)) := hp5
  clear hp5 hb5
  go_wp2_with fail
  refine (same_n (la := allL 1) a3 x5 c3 c5 _ HQ5.out HP5.out _ (by rfl)).mono ?_
  rintro e w6 ⟨rfl, hb6⟩
  have HB6 : Hid (Below w.heap.size w w6) := HB5.out.trans (hb6.mono HB5.out.size)
  clear hb6
  go_wp2_with fail
  refine (RevCheck_any s a l cap _ (HL.out.here HB6.out (Nat.le_refl _)) hs).mono ?_
  rintro e w7 ⟨rfl, hb7⟩
  have HB7 : Hid (Below w.heap.size w w7) := HB6.out.trans (hb7.mono HB6.out.size)
  clear hb7
  by_cases h0 : checkE s.data.toList l = 0
  · rw [h0]
    obtain ⟨z1, z2, z3⟩ := check_zero h0
    go_wp2_with fail
    rw [show (l.length : Int) + 1 = ((l.length + 1 : Nat) : Int) by omega]
    refine (Within3_any r (l.length + 1) _ (by omega) (by omega)).mono ?_
    rintro e wx ⟨n, rfl, hn1, e3⟩
    subst wx
    have hn : n ≤ l.length := by omega
    have HT : Hid _ := fun w hh => Text_ok s a l cap n w hh hc h0 hn
    have HTL : Hid _ := fun w hh => Text_ok s a l cap l.length w hh hc h0 (Nat.le_refl _)
    have htn := text_le z3 z1 n
    have htl := text_le z3 z1 l.length
    obtain ⟨k1, k2, k3⟩ := catch_none hn h0
    obtain ⟨t0, ht0⟩ : ∃ t : ByteArray, (⟨(textAt s.data.toList l n).toArray⟩ : ByteArray) = t := ⟨_, rfl⟩
    obtain ⟨t1, ht1⟩ : ∃ t : ByteArray, (⟨(textAt s.data.toList l l.length).toArray⟩ : ByteArray) = t := ⟨_, rfl⟩
    have s0 : (textAt s.data.toList l n).length = t0.size := by rw [← ht0]; rfl
    have s1 : (textAt s.data.toList l l.length).length = t1.size := by rw [← ht1]; rfl
    rw [ht0] at HT
    rw [ht1] at HTL
    have hall : sizesE (allN (t0.size : Nat)) = 0 ∧ inI (allN (t0.size : Nat)) = (t0.size : Nat) := by
      obtain ⟨x1, x2, x3⟩ := all_facts (n := ((t0.size : Nat) : Int)) (by omega) (by omega)
      exact ⟨x1, x2⟩
    rw [s0] at k1 k2 k3 htn
    rw [s1] at k3 htl
    have hE : catchE s.data.toList l n (allN (t0.size : Nat)) = 0 := by rw [catchE_ok h0 hn, s0, if_pos (fits_of hall.1 hall.2)]; exact k1
    obtain ⟨g1, g2, g3⟩ := catch_good hE
    have HC : Hid (∀ (x : Option Addr) (cx : Nat) (w : World), RevsAt w w.heap.size a l → PartsAt w w.heap.size x (allL (t0.size : Nat)) → Calls Try.prog 13 #[.string s, .slice a l.length cap, .int .i64 (n : Int), .slice x (allL (t0.size : Nat)).length cx] w fun e w' => ∃ a1 c1 a2 c2 a3 c3, e = .returned (.tuple #[.slice a1 (betO s.data.toList l n l.length).length c1, .slice a2 (allL (t1.size : Nat)).length c2, .slice a3 (betO s.data.toList l n l.length).length c3, .int .i64 0]) ∧ PartsAt w' w'.heap.size a1 (betO s.data.toList l n l.length) ∧ PartsAt w' w'.heap.size a2 (allL (t1.size : Nat)) ∧ PartsAt w' w'.heap.size a3 (betO s.data.toList l n l.length) ∧ Below w.heap.size w w') := by
      intro x cx w h1 h2
      have h := CatchOf_any s a x l (allN (t0.size : Nat)) cap cx n w h1 hc h2 hs
      rw [g1, g2, g3, k2, k3, hE] at h
      exact h
    obtain ⟨D, hD⟩ : ∃ D, betO s.data.toList l n l.length = D := ⟨_, rfl⟩
    rw [hD] at HC
    have HC9 : Hid _ := fun w h1 h2 => CatchOf_any s a b l m cap cb l.length w h1 hc h2 hs
    have HNow : Hid (catchE s.data.toList l l.length m = 0 → sizesE m = 0 ∧ catchT s.data.toList l l.length m = allL (t1.size : Nat) ∧ catchR s.data.toList l l.length m = m ∧ catchB s.data.toList l l.length m = allL (outI m)) := by
      intro h
      obtain ⟨q, hq, _, _, m1, m2, _⟩ := catch_zero h
      obtain rfl : q = l.length := by omega
      obtain ⟨y1, y2, y3, y4⟩ := catch_now m1 m2
      obtain ⟨e1, e2, e3⟩ := catch_good h
      exact ⟨m1, by rw [e1, y1, s1]; rfl, by rw [e2, y3], by rw [e3, y4]; rfl⟩
    clear h0 z1 z3 k1 k2 k3 ht0 ht1 s0 s1 hall hE g1 g2 g3 hD
    go_wp2_with fail
    refine (HT.out _ (HL.out.here HB7.out (Nat.le_refl _))).mono ?_
    rintro e w8 ⟨rfl, hb8⟩
    have HB8 : Hid (Below w.heap.size w w8) := HB7.out.trans (hb8.mono HB7.out.size)
    clear hb8
    go_wp2_with fail
    refine (HTL.out _ (HL.out.here HB8.out (Nat.le_refl _))).mono ?_
    rintro e w9 ⟨rfl, hb9⟩
    have HB9 : Hid (Below w.heap.size w w9) := HB8.out.trans (hb9.mono HB8.out.size)
    clear hb9
    go_wp2_with fail
    refine (All_any (t0.size : Nat) _ (by omega) (by omega)).mono ?_
    rintro e w10 ⟨x10, c10, rfl, hp10, hb10⟩
    have HB10 : Hid (Below w.heap.size w w10) := HB9.out.trans (hb10.mono HB9.out.size)
    have HP10 : Hid (PartsAt w10 w10.heap.size x10 (allL (t0.size : Nat))) := hp10
    clear hp10 hb10
    go_wp2_with fail
    refine (HC.out x10 c10 _ (HL.out.here HB10.out (Nat.le_refl _)) HP10.out).mono ?_
    rintro e w11 ⟨y1, d1, y2, d2, y3, d3, rfl, hp1, hp2, hp3, hb11⟩
    have HB11 : Hid (Below w.heap.size w w11) := HB10.out.trans (hb11.mono HB10.out.size)
    have HY1 : Hid (PartsAt w11 w11.heap.size y1 D) := hp1
    have HY2 : Hid (PartsAt w11 w11.heap.size y2 (allL (t1.size : Nat))) := hp2
    have HY3 : Hid (PartsAt w11 w11.heap.size y3 D) := hp3
    clear hp1 hp2 hp3 hb11
    go_wp2_with fail
    refine (Same_yes y1 y3 D d1 d3 _ HY1.out HY3.out).mono ?_
    rintro e w12 ⟨rfl, hb12⟩
    have HB12 : Hid (Below w.heap.size w w12) := HB11.out.trans (hb12.mono HB11.out.size)
    have HY2 : Hid (PartsAt w12 w12.heap.size y2 (allL (t1.size : Nat))) := HY2.out.here hb12 (Nat.le_refl _)
    clear hb12 HY1 HY3
    go_wp2_with fail
    refine (All_any (t1.size : Nat) _ (by omega) (by omega)).mono ?_
    rintro e w13 ⟨x13, c13, rfl, hp13, hb13⟩
    have HB13 : Hid (Below w.heap.size w w13) := HB12.out.trans (hb13.mono HB12.out.size)
    have HY2 : Hid (PartsAt w13 w13.heap.size y2 (allL (t1.size : Nat))) := HY2.out.here hb13 (Nat.le_refl _)
    have HP13 : Hid (PartsAt w13 w13.heap.size x13 (allL (t1.size : Nat))) := hp13
    clear hp13 hb13
    go_wp2_with fail
    refine (same_n (la := allL (t1.size : Nat)) y2 x13 d2 c13 _ HY2.out HP13.out _ (by rfl)).mono ?_
    rintro e w14 ⟨rfl, hb14⟩
    have HB14 : Hid (Below w.heap.size w w14) := HB13.out.trans (hb14.mono HB13.out.size)
    clear hb14
    go_wp2_with fail
    refine (HC9.out _ (HL.out.here HB14.out (Nat.le_refl _)) (HM.out.here HB14.out (Nat.le_refl _))).mono ?_
    rintro e w15 ⟨y1, d1, y2, d2, y3, d3, rfl, hp1, hp2, hp3, hb15⟩
    have HB15 : Hid (Below w.heap.size w w15) := HB14.out.trans (hb15.mono HB14.out.size)
    have HY1 : Hid (PartsAt w15 w15.heap.size y1 (catchT s.data.toList l l.length m)) := hp1
    have HY2 : Hid (PartsAt w15 w15.heap.size y2 (catchR s.data.toList l l.length m)) := hp2
    have HY3 : Hid (PartsAt w15 w15.heap.size y3 (catchB s.data.toList l l.length m)) := hp3
    clear hp1 hp2 hp3 hb15 HC HC9
    by_cases h9 : catchE s.data.toList l l.length m = 0
    · obtain ⟨m1, e1, e2, e3⟩ := HNow.out h9
      rw [e1] at HY1 ⊢
      rw [e2] at HY2 ⊢
      rw [e3] at HY3 ⊢
      rw [h9]
      have HSz : Hid _ := fun w hh => Sizes_any b m cb w hh
      rw [m1, (sizes_zero m1).2.2] at HSz
      obtain ⟨_, _, _, o, _, b2⟩ := delta_facts m1
      obtain ⟨si, hsi⟩ : ∃ si, sizesIn m = si := ⟨_, rfl⟩
      rw [hsi] at HSz
      obtain ⟨so, hso⟩ : ∃ so, outI m = so := ⟨_, rfl⟩
      rw [hso] at HSz HY3 o ⊢
      have ho1 : 0 ≤ so := by omega
      have ho2 : so ≤ 500 := by omega
      clear h9 e1 e2 e3 m1 hsi hso o b2 HNow
      go_wp2_with fail
      refine (HSz.out _ (HM.out.here HB15.out (Nat.le_refl _))).mono ?_
      rintro e w16 ⟨rfl, hb16⟩
      have HB16 : Hid (Below w.heap.size w w16) := HB15.out.trans (hb16.mono HB15.out.size)
      have HY1 : Hid (PartsAt w16 w16.heap.size y1 (allL (t1.size : Nat))) := HY1.out.here hb16 (Nat.le_refl _)
      have HY2 : Hid (PartsAt w16 w16.heap.size y2 m) := HY2.out.here hb16 (Nat.le_refl _)
      have HY3 : Hid (PartsAt w16 w16.heap.size y3 (allL so)) := HY3.out.here hb16 (Nat.le_refl _)
      clear hb16
      go_wp2_with fail
      refine (All_any (t1.size : Nat) _ (by omega) (by omega)).mono ?_
      rintro e w17 ⟨x17, c17, rfl, hp17, hb17⟩
      have HB17 : Hid (Below w.heap.size w w17) := HB16.out.trans (hb17.mono HB16.out.size)
      have HY1 : Hid (PartsAt w17 w17.heap.size y1 (allL (t1.size : Nat))) := HY1.out.here hb17 (Nat.le_refl _)
      have HY2 : Hid (PartsAt w17 w17.heap.size y2 m) := HY2.out.here hb17 (Nat.le_refl _)
      have HY3 : Hid (PartsAt w17 w17.heap.size y3 (allL so)) := HY3.out.here hb17 (Nat.le_refl _)
      have HP17 : Hid (PartsAt w17 w17.heap.size x17 (allL (t1.size : Nat))) := hp17
      clear hp17 hb17
      go_wp2_with fail
      refine (same_n (la := allL (t1.size : Nat)) y1 x17 d1 c17 _ HY1.out HP17.out _ (by rfl)).mono ?_
      rintro e w18 ⟨rfl, hb18⟩
      have HB18 : Hid (Below w.heap.size w w18) := HB17.out.trans (hb18.mono HB17.out.size)
      have HY2 : Hid (PartsAt w18 w18.heap.size y2 m) := HY2.out.here hb18 (Nat.le_refl _)
      have HY3 : Hid (PartsAt w18 w18.heap.size y3 (allL so)) := HY3.out.here hb18 (Nat.le_refl _)
      clear hb18
      go_wp2_with fail
      refine (Same_yes y2 b m d2 cb _ HY2.out (HM.out.here HB18.out (Nat.le_refl _))).mono ?_
      rintro e w19 ⟨rfl, hb19⟩
      have HB19 : Hid (Below w.heap.size w w19) := HB18.out.trans (hb19.mono HB18.out.size)
      have HY3 : Hid (PartsAt w19 w19.heap.size y3 (allL so)) := HY3.out.here hb19 (Nat.le_refl _)
      clear hb19
      go_wp2_with fail
      refine (All_any so _ (by omega) (by omega)).mono ?_
      rintro e w20 ⟨x20, c20, rfl, hp20, hb20⟩
      have HB20 : Hid (Below w.heap.size w w20) := HB19.out.trans (hb20.mono HB19.out.size)
      have HY3 : Hid (PartsAt w20 w20.heap.size y3 (allL so)) := HY3.out.here hb20 (Nat.le_refl _)
      have HP20 : Hid (PartsAt w20 w20.heap.size x20 (allL so)) := hp20
      clear hp20 hb20
      go_wp2_with fail
      refine (same_n (la := allL so) y3 x20 d3 c20 _ HY3.out HP20.out _ (by rfl)).mono ?_
      rintro e w21 ⟨rfl, hb21⟩
      have HB21 : Hid (Below w.heap.size w w21) := HB20.out.trans (hb21.mono HB20.out.size)
      clear hb21
      go_wp2_with fail
      go_ret
      exact ⟨rfl, HB21.out⟩
    · obtain ⟨g1, g2, g3⟩ := catch_bad rfl h9
      rw [g1, g2, g3]
      have q1 : (catchE s.data.toList l l.length m != 0) = true := by simp [h9]
      clear h9 g1 g2 g3 HY1 HY2 HY3 HNow
      go_wp2_with fail
      go_ret
      exact ⟨rfl, HB15.out⟩
  · have q1 : (checkE s.data.toList l != 0) = true := by simp [h0]
    clear h0
    go_wp2_with fail
    go_ret
    exact ⟨rfl, HB7.out⟩
end Go.Proofs.Ytndhamcipbecfab
