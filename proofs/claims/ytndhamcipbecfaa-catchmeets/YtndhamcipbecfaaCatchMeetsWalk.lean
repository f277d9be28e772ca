/- The law CatchMeets, walked: it answers true. -/
import Derived.Test.YtndhamcipbecfaaCatchLit
import Derived.Test.YtndhamcipbecfaaRevText
namespace Go.Proofs.Ytndhamcipbecfaa
open Go.RowKit
set_option linter.unusedSimpArgs false
set_option linter.unusedVariables false

/-- apply.Do of a delta that fits -/
theorem Do_fit {D : List Pt} {t u : ByteArray} (h1 : sizesE D = 0) (h2 : inI D = (t.size : Nat)) (h3 : doL D t.data.toList = u.data.toList) (h4 : t.size ≤ 500) (ad : Option Addr) (c : Nat) (w : World) (hp : PartsAt w w.heap.size ad D) :
    Calls Try.prog 19 #[.slice ad D.length c, .string t] w fun e w' => e = .returned (.tuple #[.string u, .int .i64 0]) ∧ Below w.heap.size w w' := by
  have hfit : fitsE D (t.size : Nat) = 0 := fits_of h1 h2
  have h := Do_any ad D c t w hp (by omega)
  rw [doT, if_pos hfit, hfit, h3, str_eq] at h
  exact h

set_option maxRecDepth 20000 in
set_option maxHeartbeats 8000000 in
theorem CatchMeets_any (s : ByteArray) (a : Option Addr) (l : List Rv) (cap : Nat) (r : Int) (b : Option Addr) (m : List Pt) (cb : Nat) (w : World) (hl : RevsAt w w.heap.size a l) (hc : l.length ≤ cap) (hm : PartsAt w w.heap.size b m) (hs : s.size ≤ 9223372036854775807) :
    Calls Try.prog 7 #[.string s, .slice a l.length cap, .int .i64 r, .slice b m.length cb] w fun e w' => e = .returned (.bool true) ∧ Below w.heap.size w w' := by
  have hll := hl.1
  have HL : Hid (RevsAt w w.heap.size a l) := hl
  have HM : Hid (PartsAt w w.heap.size b m) := hm
  clear hl hm
  have HC : Hid _ := fun w h1 h2 => CatchOf_any s a b l m cap cb r w h1 hc h2 hs
  go_enter Try.func7, Try.ntmps7
  go_wp2_with fail
  refine (first_any ⟨#[97]⟩ _ (by decide)).mono ?_
  rintro e w1 ⟨ad, rfl, hp1, hb1⟩
  have HB1 : Hid (Below w.heap.size w (w1.alloc (.cells #[.int .i64 1, .int .i64 1, .slice (some ad) 1 1] 40))) := hb1.alloc hb1.size _
  have HF1 : Hid (∀ w2, _ → _) := fun w2 hb => first_held w1 w2 ad hp1 hb
  clear hp1 hb1
  go_wp2_with fail
  refine (put_any ⟨#[98]⟩ _ (by decide)).mono ?_
  rintro e w2 ⟨rfl, hp2, hb2⟩
  have HB2 : Hid (Below w.heap.size w w2) := HB1.out.trans (hb2.mono HB1.out.size)
  rw [show (w1.alloc (.cells #[.int .i64 1, .int .i64 1, .slice (some ad) 1 1] 40)).heap.size = w1.heap.size + 1 from Deep.nblk_alloc _ _] at hp2 ⊢
  have HC2 : Hid (∀ _ : Unit, _) := fun _ => CatchFirst w2 ⟨w1.heap.size, 0, none⟩ ⟨w1.heap.size + 1, 0, none⟩ (HF1.out w2 hb2) hp2
  clear hp2 hb2
  go_wp2_with fail
  refine Calls.mono (HC2.out ()) ?_
  rintro e w3 ⟨a1, c1, a2, c2, a3, c3, rfl, hp3, _, _, hb3⟩
  have HB3 : Hid (Below w.heap.size w w3) := HB2.out.trans (hb3.mono HB2.out.size)
  have HP3 : Hid (PartsAt w3 w3.heap.size a1 [putP ⟨#[97]⟩]) := hp3
  clear hp3 hb3
  go_wp2_with fail
  refine (put_any ⟨#[97]⟩ _ (by decide)).mono ?_
  rintro e w4 ⟨rfl, hp4, hb4⟩
  have HB4 : Hid (Below w.heap.size w w4) := HB3.out.trans (hb4.mono HB3.out.size)
  have HP4 : Hid (PartsAt w4 w4.heap.size a1 [putP ⟨#[97]⟩]) := HP3.out.here hb4 (Nat.le_refl _)
  have HQ4 : Hid (PartsAt w4 w4.heap.size (some ⟨w3.heap.size, 0, none⟩) [putP ⟨#[97]⟩]) := hp4
  clear hp4 hb4
  go_wp2_with fail
  refine (same_n (la := [putP ⟨#[97]⟩]) a1 (some ⟨w3.heap.size, 0, none⟩) c1 1 _ HP4.out HQ4.out 1 (by rfl)).mono ?_
  rintro e w5 ⟨rfl, hb5⟩
  have HB5 : Hid (Below w.heap.size w w5) := HB4.out.trans (hb5.mono HB4.out.size)
  clear hb5
  go_wp2_with fail
  refine (HC.out _ (HL.out.here HB5.out (Nat.le_refl _)) (HM.out.here HB5.out (Nat.le_refl _))).mono ?_
  rintro e w6 ⟨x1, d1, x2, d2, x3, d3, rfl, hp1, hp2, hp3, hb6⟩
  have HB6 : Hid (Below w.heap.size w w6) := HB5.out.trans (hb6.mono HB5.out.size)
  have HX1 : Hid (PartsAt w6 w6.heap.size x1 (catchT s.data.toList l r m)) := hp1
  have HX2 : Hid (PartsAt w6 w6.heap.size x2 (catchR s.data.toList l r m)) := hp2
  have HX3 : Hid (PartsAt w6 w6.heap.size x3 (catchB s.data.toList l r m)) := hp3
  clear hp1 hp2 hp3 hb6
  by_cases h0 : catchE s.data.toList l r m = 0
  · obtain ⟨n, rfl, hn, hc0, m1, m2, hme⟩ := catch_zero h0
    obtain ⟨z1, z2, z3⟩ := check_zero hc0
    obtain ⟨g1, g2, g3⟩ := catch_good h0
    obtain ⟨b1, b2, b3, b4⟩ := bet_says hc0 hn (Nat.le_refl _)
    obtain ⟨k1, k2⟩ := catch_meets hn hc0 m1 m2 hme
    obtain ⟨f1, f2, f3, f4, f5, _⟩ := meet_facts hme
    rw [g1] at HX1 ⊢
    rw [g2] at HX2 ⊢
    rw [g3] at HX3 ⊢
    rw [h0]
    have HT : Hid _ := fun w hh => Text_ok s a l cap n w hh hc hc0 hn
    have HTL : Hid _ := fun w hh => Text_ok s a l cap l.length w hh hc hc0 (Nat.le_refl _)
    have htn := text_le z3 z1 n
    have htl := text_le z3 z1 l.length
    obtain ⟨o1, o2⟩ := do_out m1 m2
    obtain ⟨t0, ht0⟩ : ∃ t : ByteArray, (⟨(textAt s.data.toList l n).toArray⟩ : ByteArray) = t := ⟨_, rfl⟩
    obtain ⟨t1, ht1⟩ : ∃ t : ByteArray, (⟨(textAt s.data.toList l l.length).toArray⟩ : ByteArray) = t := ⟨_, rfl⟩
    obtain ⟨t2, ht2⟩ : ∃ t : ByteArray, (⟨(doL (meetR (betO s.data.toList l n l.length) m) (textAt s.data.toList l l.length)).toArray⟩ : ByteArray) = t := ⟨_, rfl⟩
    obtain ⟨t3, ht3⟩ : ∃ t : ByteArray, (⟨(doL m (textAt s.data.toList l n)).toArray⟩ : ByteArray) = t := ⟨_, rfl⟩
    rw [ht0] at HT
    rw [ht1] at HTL
    obtain ⟨D, hD⟩ : ∃ D, betO s.data.toList l n l.length = D := ⟨_, rfl⟩
    rw [hD] at HX1 HX2 HX3 b1 b2 b3 b4 k1 k2 f1 f2 f3 f4 f5 ht2 ⊢
    obtain ⟨Y, hY⟩ : ∃ Y, meetR D m = Y := ⟨_, rfl⟩
    obtain ⟨X, hX⟩ : ∃ X, meetL D m = X := ⟨_, rfl⟩
    rw [hY] at HX2 k2 f2 f4 f5 ht2 ⊢
    rw [hX] at HX3 k2 f1 f3 f5 ⊢
    have s0 : t0.size = (textAt s.data.toList l n).length := by rw [← ht0]; rfl
    have s1 : t1.size = (textAt s.data.toList l l.length).length := by rw [← ht1]; rfl
    have s3 : t3.size = (doL m (textAt s.data.toList l n)).length := by rw [← ht3]; rfl
    have D1 : Hid _ := fun ad c w hp => Do_fit (D := D) (t := t0) (u := t1) b1 (by rw [b2, s0]) (by rw [← ht0, ← ht1]; exact k1) (by omega) ad c w hp
    have D2 : Hid _ := fun ad c w hp => Do_fit (D := Y) (t := t1) (u := t2) f2 (by rw [f4, b3, s1]) (by rw [← ht1, ← ht2]) (by omega) ad c w hp
    have D3 : Hid _ := fun ad c w hp => Do_fit (D := m) (t := t0) (u := t3) m1 (by rw [m2, s0]) (by rw [← ht0, ← ht3]) (by omega) ad c w hp
    have D4 : Hid _ := fun ad c w hp => Do_fit (D := X) (t := t3) (u := t2) f1 (by rw [f3, s3, o1]) (by rw [← ht3, ← ht2]; exact k2.symm) (by omega) ad c w hp
    clear h0 hc0 m1 m2 hme z1 z3 g1 g2 g3 b1 b2 b3 b4 k1 k2 f1 f2 f3 f4 f5 htn htl o1 o2 ht0 ht1 ht2 ht3 hD hY hX s0 s1 s3 HC HC2 HF1
    go_wp2_with fail
    refine (HT.out _ (HL.out.here HB6.out (Nat.le_refl _))).mono ?_
    rintro e w7 ⟨rfl, hb7⟩
    have HB7 : Hid (Below w.heap.size w w7) := HB6.out.trans (hb7.mono HB6.out.size)
    have HY1 : Hid (PartsAt w7 w7.heap.size x1 D) := HX1.out.here hb7 (Nat.le_refl _)
    have HY2 : Hid (PartsAt w7 w7.heap.size x2 Y) := HX2.out.here hb7 (Nat.le_refl _)
    have HY3 : Hid (PartsAt w7 w7.heap.size x3 X) := HX3.out.here hb7 (Nat.le_refl _)
    clear hb7 HX1 HX2 HX3
    go_wp2_with fail
    refine (HTL.out _ (HL.out.here HB7.out (Nat.le_refl _))).mono ?_
    rintro e w8 ⟨rfl, hb8⟩
    have HB8 : Hid (Below w.heap.size w w8) := HB7.out.trans (hb8.mono HB7.out.size)
    have HX1 : Hid (PartsAt w8 w8.heap.size x1 D) := HY1.out.here hb8 (Nat.le_refl _)
    have HX2 : Hid (PartsAt w8 w8.heap.size x2 Y) := HY2.out.here hb8 (Nat.le_refl _)
    have HX3 : Hid (PartsAt w8 w8.heap.size x3 X) := HY3.out.here hb8 (Nat.le_refl _)
    clear hb8 HY1 HY2 HY3
    go_wp2_with fail
    refine (D1.out x1 d1 _ HX1.out).mono ?_
    rintro e w9 ⟨rfl, hb9⟩
    have HB9 : Hid (Below w.heap.size w w9) := HB8.out.trans (hb9.mono HB8.out.size)
    have HY2 : Hid (PartsAt w9 w9.heap.size x2 Y) := HX2.out.here hb9 (Nat.le_refl _)
    have HY3 : Hid (PartsAt w9 w9.heap.size x3 X) := HX3.out.here hb9 (Nat.le_refl _)
    clear hb9 HX1 HX2 HX3 D1
    go_wp2_with fail
    refine (D2.out x2 d2 _ HY2.out).mono ?_
    rintro e w10 ⟨rfl, hb10⟩
    have HB10 : Hid (Below w.heap.size w w10) := HB9.out.trans (hb10.mono HB9.out.size)
    have HX3 : Hid (PartsAt w10 w10.heap.size x3 X) := HY3.out.here hb10 (Nat.le_refl _)
    clear hb10 HY2 HY3 D2
    go_wp2_with fail
    refine (D3.out b cb _ (HM.out.here HB10.out (Nat.le_refl _))).mono ?_
    rintro e w11 ⟨rfl, hb11⟩
    have HB11 : Hid (Below w.heap.size w w11) := HB10.out.trans (hb11.mono HB10.out.size)
    have HY3 : Hid (PartsAt w11 w11.heap.size x3 X) := HX3.out.here hb11 (Nat.le_refl _)
    clear hb11 HX3 D3
    go_wp2_with fail
    refine (D4.out x3 d3 _ HY3.out).mono ?_
    rintro e w12 ⟨rfl, hb12⟩
    have HB12 : Hid (Below w.heap.size w w12) := HB11.out.trans (hb12.mono HB11.out.size)
    clear hb12 HY3 D4
    go_wp2_with fail
    go_ret
    exact ⟨rfl, HB12.out⟩
  · obtain ⟨g1, g2, g3⟩ := catch_bad rfl h0
    rw [g1, g2, g3]
    have q1 : (catchE s.data.toList l r m != 0) = true := by simp [h0]
    clear h0 g1 g2 g3 HX1 HX2 HX3 HC HC2 HF1
    go_wp2_with fail
    go_ret
    exact ⟨rfl, HB6.out⟩
end Go.Proofs.Ytndhamcipbecfaa
