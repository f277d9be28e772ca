/- The law TierRows, walked: it answers true. -/
import Derived.Test.YtinhidddfpjjkabTierMem
import Derived.Test.YtinhidddfpjjkabRevText
import Derived.Test.YtinhidddfpjjkabRevTwo
import Derived.Test.YtinhidddfpjjkabDo
import Derived.Test.YtinhidddfpjjkabCaps
import Derived.Deep.RegionHeld3
namespace Go.Proofs.Ytinhidddfpjjkab
open Go.RowKit
set_option linter.unusedSimpArgs false
set_option linter.unusedVariables false

abbrev keepA : List Pt := [⟨1, 1, ByteArray.empty⟩]
/-- the tiers of two revisions that are written out -/
theorem BuildTwo (w : World) (ad : Addr) (b : Option Addr) (d : Nat) (hp : PartsAt w w.heap.size (some ad) putA) (hq : PartsAt w w.heap.size b keepA) (hr : Room b keepA d) :
    Calls Try.prog 8 #[.string ⟨#[]⟩, .slice (some ⟨w.heap.size, 0, none⟩) 2 2] (w.alloc (.cells #[.int .i64 1, .int .i64 1, .slice (some ad) 1 1, .int .i64 1, .int .i64 2, .slice b 1 d] 46)) fun e w' => ∃ a' c', e = .returned (.tuple #[.slice a' 2 c', .int .i64 0]) ∧ TiersAt w' w'.heap.size a' [[putA, keepA], [putA]] c' ∧ Below w.heap.size w w' := by
  have h2 := revs_two w ⟨1, 1, putA⟩ ⟨1, 2, keepA⟩ ⟨⟨⟨by decide, by decide⟩, ⟨by decide, by decide⟩⟩, ⟨by decide, by decide⟩, ⟨by decide, by decide⟩⟩ (some ad) b 1 d hp ⟨by decide, fun e => by cases e⟩ hq hr
  have hz : (w.alloc (.cells #[.int .i64 1, .int .i64 1, .slice (some ad) 1 1, .int .i64 1, .int .i64 2, .slice b 1 d] 46)).heap.size = w.heap.size + 1 := Deep.nblk_alloc _ _
  have h3 := Build_at ⟨#[]⟩ (some ⟨w.heap.size, 0, none⟩) [⟨1, 1, putA⟩, ⟨1, 2, keepA⟩] 2 (w.alloc (.cells #[.int .i64 1, .int .i64 1, .slice (some ad) 1 1, .int .i64 1, .int .i64 2, .slice b 1 d] 46)) (by rw [hz]; exact h2) (by rfl)
  rw [show tiersL (⟨#[]⟩ : ByteArray).data.toList [⟨1, 1, putA⟩, ⟨1, 2, keepA⟩] = [[putA, keepA], [putA]] by rfl] at h3
  refine Calls.mono h3 ?_
  rintro e w' ⟨a', c', rfl, h5, hb⟩
  have h4 : Below w.heap.size w (w.alloc (.cells #[.int .i64 1, .int .i64 1, .slice (some ad) 1 1, .int .i64 1, .int .i64 2, .slice b 1 d] 46)) := (Below.refl _ w).alloc (Nat.le_refl _) _
  exact ⟨a', c', rfl, h5, h4.trans (hb.mono h4.size)⟩
/-- what is looked at of these tiers -/
theorem two_held {w : World} {a : Option Addr} {c : Nat} (h : TiersAt w w.heap.size a [[putA, keepA], [putA]] c) :
    ∃ g og a1 c1 g2 og2 c2 a3 c3, a = some ⟨g, og, none⟩ ∧ (w.cell? ⟨g, og, none⟩ = some (.slice a1 2 c1) ∧ w.cell? ⟨g, og + 1, none⟩ = some (.slice (some ⟨g2, og2, none⟩) 1 c2) ∧ w.cell? ⟨g2, og2, none⟩ = some (.slice a3 1 c3)) ∧ PartsAt w w.heap.size a3 putA ∧ g < w.heap.size ∧ g2 < w.heap.size := by
  obtain ⟨g, og, a1, c1, e1, hg, x1, _⟩ := h.mem (i := 0) rfl
  obtain ⟨g', og', a2, c2, e2, _, y1, y2⟩ := h.mem (i := 1) rfl
  obtain ⟨g2, og2, a3, c3, e3, hg2, z1, z2, _⟩ := y2.mem (i := 0) rfl
  subst e1 e3
  simp only [Option.some.injEq, Addr.mk.injEq, and_true] at e2
  obtain ⟨rfl, rfl⟩ := e2
  exact ⟨g, og, a1, c1, g2, og2, c2, a3, c3, rfl, ⟨x1, y1, z1⟩, z2, hg, hg2⟩
theorem held3 {w w' : World} {b o c q d r : Nat} {u v x : Value} (h : w.cell? ⟨b, o, none⟩ = some u ∧ w.cell? ⟨c, q, none⟩ = some v ∧ w.cell? ⟨d, r, none⟩ = some x) (hb : Below w.heap.size w w') (hb1 : b < w.heap.size) (hc1 : c < w.heap.size) (hd1 : d < w.heap.size) :
    w'.cell? ⟨b, o, none⟩ = some u ∧ w'.cell? ⟨c, q, none⟩ = some v ∧ w'.cell? ⟨d, r, none⟩ = some x :=
  ⟨(hb.cell (p := ⟨b, o, none⟩) hb1).trans h.1, (hb.cell (p := ⟨c, q, none⟩) hc1).trans h.2.1, (hb.cell (p := ⟨d, r, none⟩) hd1).trans h.2.2⟩
set_option maxRecDepth 20000 in
set_option maxHeartbeats 8000000 in
theorem TierRows_any (s : ByteArray) (a : Option Addr) (l : List Rv) (cap : Nat) (i k : Int) (w : World) (hl : RevsAt w w.heap.size a l) (hc : l.length ≤ cap) (hs : s.size ≤ 9223372036854775807) :
    Calls Try.prog 6 #[.string s, .slice a l.length cap, .int .i64 i, .int .i64 k] w fun e w' => e = .returned (.bool true) ∧ Below w.heap.size w w' := by
  have hll := hl.1
  have HL : Hid (RevsAt w w.heap.size a l) := hl
  clear hl
  go_enter Try.func6, Try.ntmps6
  go_wp2_with fail
  refine (first_any ⟨#[97]⟩ _ (by decide)).mono ?_
  rintro e w1 ⟨ad, rfl, hp1, hb1⟩
  have HB1 : Hid (Below w.heap.size w w1) := hb1
  have HP1 : Hid (PartsAt w1 w1.heap.size (some ad) putA) := hp1
  have HAl : Hid (∀ w : World, Calls Try.prog 21 #[.int .i64 1] w fun e w' => ∃ a cap, e = .returned (.slice a 1 cap) ∧ PartsAt w' w'.heap.size a keepA ∧ Room a keepA cap ∧ Below w.heap.size w w') := fun w => AllC_any 1 w (by decide) (by decide)
  clear hp1 hb1
  go_wp2_with fail
  refine (HAl.out _).mono ?_
  rintro e w2 ⟨a2, c2, rfl, hp2, hr2, hb2⟩
  have HB2 : Hid (Below w.heap.size w w2) := HB1.out.trans (hb2.mono HB1.out.size)
  have HT2 : Hid _ := BuildTwo w2 ad a2 c2 (HP1.out.here hb2 (Nat.le_refl _)) hp2 hr2
  clear hp2 hr2 hb2
  go_wp2_with fail
  refine Calls.mono HT2.out ?_
  rintro e w3 ⟨a3, c3, rfl, ht3, hb3⟩
  have HB3 : Hid (Below w.heap.size w w3) := HB2.out.trans (hb3.mono HB2.out.size)
  obtain ⟨g, og, b1, d1, g2, og2, d2, b3, d3, e3, hcs, hp3, hg, hg2⟩ := two_held ht3
  subst e3
  have HCS : Hid (w3.cell? ⟨g, og, none⟩ = some (.slice b1 2 d1) ∧ w3.cell? ⟨g, og + 1, none⟩ = some (.slice (some ⟨g2, og2, none⟩) 1 d2) ∧ w3.cell? ⟨g2, og2, none⟩ = some (.slice b3 1 d3)) := hcs
  have HP3 : Hid (PartsAt w3 w3.heap.size b3 putA) := hp3
  obtain ⟨x0, x1, x2⟩ := hcs
  clear hb3 ht3 hp3 HT2
  go_wp2_with fail
  go_region_held3 (fun w' => w'.cell? ⟨g, og, none⟩ = some (.slice b1 2 d1) ∧ w'.cell? ⟨g, og + 1, none⟩ = some (.slice (some ⟨g2, og2, none⟩) 1 d2) ∧ w'.cell? ⟨g2, og2, none⟩ = some (.slice b3 1 d3)) (first | go_keep | exact held3 (w := w3.drew) HCS.out hb4 hg hg hg2 | exact held3 (w := w4) HC4.out hb5 hg4 hg4 hg5 | fail) (first
    | (go_at_call 18; refine (put_any ⟨#[97]⟩ _ (by decide)).mono ?_; rintro e w4 ⟨rfl, hp4, hb4⟩; have HC4 : Hid _ := held3 (w := w3.drew) HCS.out hb4 hg hg hg2; have hg4 : g < w4.heap.size := Nat.lt_of_lt_of_le hg hb4.size; have hg5 : g2 < w4.heap.size := Nat.lt_of_lt_of_le hg2 hb4.size)
    | (go_at_call 16; refine (Same_yes b3 (some ⟨w3.heap.size, 0, none⟩) putA d3 1 _ (HP3.out.here (((Below.refl _ w3).drew).trans hb4) (Nat.le_refl _)) hp4).mono ?_; rintro e w5 ⟨rfl, hb5⟩)
    | fail)
  have hbw : Below w3.heap.size w3 w5 := (((Below.refl _ w3).drew).trans hb4).trans (hb5.mono (by simpa using hb4.size))
  have HB5 : Hid (Below w.heap.size w w5) := HB3.out.trans (hbw.mono HB3.out.size)
  have HL5 : Hid (RevsAt w5 w5.heap.size a l) := HL.out.here HB5.out (Nat.le_refl _)
  clear hbw hb4 hb5 x0 x1 x2 HCS HC4 hg4 hg5 hp4 HP3 hg hg2 HB1 HB2 HB3 HP1 HAl
  by_cases h0 : checkE s.data.toList l = 0
  · obtain ⟨z1, z2, z3⟩ := check_zero h0
    have HBu : Hid (∀ w : World, RevsAt w w.heap.size a l → _) := fun w h => Build_at s a l cap w h h0
    obtain ⟨T, hT⟩ : ∃ T, tiersL s.data.toList l = T := ⟨_, rfl⟩
    have HTl : Hid (T.length = lvN l.length) := by show _ = _; rw [← hT, tiersL, List.length_map, List.length_range]
    have h7 : lvN l.length ≤ 7 := by
      rw [lvN]
      exact Nat.le_trans (List.length_filter_le _ _) (by simp)
    have HTn : Hid (∀ n, n < lvN l.length → T[n]? = some (tierRow s.data.toList l n)) := fun n hn => by rw [← hT, tiersL, List.getElem?_map, List.getElem?_range hn]; rfl
    rw [hT] at HBu
    have H0 : Hid (checkE s.data.toList l = 0) := h0
    obtain ⟨n, hn⟩ : ∃ n, T.length = n := ⟨_, rfl⟩
    rw [hn] at HTl HBu
    have hn7 : n ≤ 7 := by have := HTl.out; omega
    have HEnd : Hid (l.length / 2 ^ n = 0 ∧ ∀ v, v < n → 2 ^ v ≤ l.length) := by
      have h1 := HTl.out
      refine ⟨?_, fun v hv => (lvN_iff z2 (by omega)).1 (by omega)⟩
      rcases Nat.lt_or_ge n 7 with h | h
      · have h2 : ¬ 2 ^ n ≤ l.length := fun hh => by have := (lvN_iff z2 (show n ≤ 6 by omega)).2 hh; omega
        exact Nat.div_eq_of_lt (by omega)
      · obtain rfl : n = 7 := by omega
        exact Nat.div_eq_of_lt (by omega)
    have HNT : Hid (T.length = n) := hn
    clear h0 hT hn z1 z3
    go_wp2_with fail
    refine (HBu.out _ HL5.out).mono ?_
    rintro e w6 ⟨a6, c6, rfl, ht6, hb6⟩
    have HB6 : Hid (Below w.heap.size w w6) := HB5.out.trans (hb6.mono HB5.out.size)
    have HT6 : Hid (TiersAt w6 w6.heap.size a6 T c6) := ht6
    have HL6 : Hid (RevsAt w6 w6.heap.size a l) := HL5.out.here hb6 (Nat.le_refl _)
    clear hb6 ht6 HBu
    rcases Nat.eq_zero_or_pos n with hz | hz
    · subst hz
      have hl0 : l.length = 0 := by have := HEnd.out.1; simpa using this
      rw [hl0]
      go_wp2_with fail
      go_ret
      exact ⟨by first | rfl | simp, HB6.out⟩
    · have hni : ((n : Int) == 0) = false := by simp; omega
      go_wp2_with fail
      go_loopw [85] (fun x wr => ∃ j : Nat, j ≤ n ∧ x = .int .i64 j ∧ Below w6.heap.size w6 wr) (fun x _ => n - (intOf x).toNat)
      case atStart => exact ⟨0, Nat.zero_le _, rfl, Below.refl _ _⟩
      case round =>
        rename World => wr
        obtain ⟨j, hj, rfl, hb⟩ := hrel
        have HBr : Hid (Below w6.heap.size w6 wr) := hb
        by_cases hlt : j < n
        · have hji : (j : Int) < (n : Int) := by omega
          have hj0 : (0 : Int) ≤ (j : Int) := by omega
          have hX := HTn.out j (by have := HTl.out; omega)
          obtain ⟨g, og, aX, cX, e1, hg, y1, _⟩ := (HT6.out.here hb (Nat.le_refl _)).mem hX
          subst e1
          rw [tier_len] at y1
          obtain ⟨q, hq⟩ : ∃ q, l.length / 2 ^ j = q := ⟨_, rfl⟩
          have hs2 := shr_num l.length j q hq
          rw [hq] at y1
          clear hb hX hq
          go_wp2_with fail
          go_quiet (fail)
          go_wp2_with fail
          go_roundw
          case rel => exact ⟨j + 1, by omega, by go_num, below_drewN HBr.out _⟩
          case measure => simp [intOf]; omega
        · have hji : ¬ (j : Int) < (n : Int) := by omega
          have HBq : Hid (Below w.heap.size w wr) := HB6.out.trans (hb.mono HB6.out.size)
          have HTr : Hid (TiersAt wr wr.heap.size a6 T c6) := HT6.out.here hb (Nat.le_refl _)
          have HLr : Hid (RevsAt wr wr.heap.size a l) := HL6.out.here hb (Nat.le_refl _)
          clear hb hlt hj
          go_wp2_with fail
          refine (Within3_any i n _ hz (by omega)).mono ?_
          rintro e wx ⟨v, rfl, hv, we⟩
          have we := we.symm
          subst we
          have hX := HTn.out v (by have := HTl.out; omega)
          obtain ⟨g, og, aX, cX, e1, hg, y1, y2⟩ := HTr.out.mem hX
          subst e1
          have hlen := tier_len s.data.toList l v
          obtain ⟨X, hXX⟩ : ∃ X, tierRow s.data.toList l v = X := ⟨_, rfl⟩
          rw [hXX] at y1 y2 hlen hX
          obtain ⟨m, hm⟩ : ∃ m, X.length = m := ⟨_, rfl⟩
          rw [hm] at y1 hlen
          have hpw := HEnd.out.2 v hv
          have hm1 : 0 < m := by rw [hlen]; exact Nat.div_pos hpw (Nat.two_pow_pos v)
          have hm64 : m ≤ 64 := by rw [hlen]; exact Nat.le_trans (Nat.div_le_self _ _) z2
          have HRX : Hid (RowAt wr wr.heap.size aX X cX) := y2
          have HXv : Hid (∀ b, b < m → X[b]? = some (betO s.data.toList l (b * 2 ^ v) ((b + 1) * 2 ^ v)) ∧ (b + 1) * 2 ^ v ≤ l.length) := fun b hb => by
            rw [← hXX]
            exact ⟨tier_at (by omega), blk_in2 (by omega)⟩
          have hvi : (v : Int) < (n : Int) := by omega
          have hv0 : (0 : Int) ≤ (v : Int) := by omega
          clear y2 hlen hXX hX
          go_wp2_with fail
          refine (Within3_any k m _ hm1 (by omega)).mono ?_
          rintro e wx ⟨b, rfl, hb, we⟩
          have we := we.symm
          subst we
          obtain ⟨hXb, hbl⟩ := HXv.out b hb
          obtain ⟨p, hp⟩ : ∃ p, b * 2 ^ v = p := ⟨_, rfl⟩
          obtain ⟨q, hq⟩ : ∃ q, (b + 1) * 2 ^ v = q := ⟨_, rfl⟩
          have hpq : p ≤ q := by rw [← hp, ← hq]; exact Nat.mul_le_mul_right _ (by omega)
          have s1 : (b : Int) * (2 : Int) ^ v = (p : Int) := by rw [← hp]; simp
          have s2 : ((b : Int) + 1) * (2 : Int) ^ v = (q : Int) := by rw [← hq]; simp
          rw [hp, hq] at hXb
          rw [hq] at hbl
          obtain ⟨g2, og2, ad3, cd3, e2, hg2, u1, u2, _⟩ := HRX.out.mem hXb
          subst e2
          obtain ⟨b1, b2, b3, b4⟩ := bet_says H0.out hpq hbl
          have htp := text_le (check_zero H0.out).2.2 (check_zero H0.out).1 p
          have HT0 : Hid (∀ w : World, RevsAt w w.heap.size a l → _) := fun w hh => Text_ok s a l cap p w hh hc H0.out (by omega)
          have HT2 : Hid (∀ w : World, RevsAt w w.heap.size a l → _) := fun w hh => Text_ok s a l cap q w hh hc H0.out hbl
          obtain ⟨t0, ht0⟩ : ∃ t : ByteArray, (⟨(textAt s.data.toList l p).toArray⟩ : ByteArray) = t := ⟨_, rfl⟩
          obtain ⟨t2, ht2⟩ : ∃ t : ByteArray, (⟨(textAt s.data.toList l q).toArray⟩ : ByteArray) = t := ⟨_, rfl⟩
          have ht0s : t0.size = (textAt s.data.toList l p).length := by rw [← ht0]; rfl
          have hfit : fitsE (betO s.data.toList l p q) (t0.size : Nat) = 0 := fits_of b1 (by rw [b2, ht0s])
          have HDo : Hid (∀ (ad : Option Addr) (c : Nat) (w : World), PartsAt w w.heap.size ad (betO s.data.toList l p q) → Calls Try.prog 23 #[.slice ad (betO s.data.toList l p q).length c, .string t0] w fun e w' => e = .returned (.tuple #[.string t2, .int .i64 0]) ∧ Below w.heap.size w w') := by
            intro ad c w hp
            have h := Do_any ad (betO s.data.toList l p q) c t0 w hp (by omega)
            have e1 : doT (betO s.data.toList l p q) t0 = textAt s.data.toList l q := by
              rw [doT, if_pos hfit, ← b4, ← ht0]
            rw [e1, hfit, ht2] at h
            exact h
          rw [ht0] at HT0
          rw [ht2] at HT2
          obtain ⟨D, hD⟩ : ∃ D, betO s.data.toList l p q = D := ⟨_, rfl⟩
          rw [hD] at HDo u1 u2
          have HPD : Hid (PartsAt wr wr.heap.size ad3 D) := u2
          have hbi : (b : Int) < (m : Int) := by omega
          have hb0 : (0 : Int) ≤ (b : Int) := by omega
          have hp64 : (p : Int) ≤ 64 := by omega
          have hq64 : (q : Int) ≤ 64 := by omega
          have HY : Hid (wr.cell? ⟨g, og + v, none⟩ = some (.slice (some ⟨g2, og2, none⟩) m cX) ∧ wr.cell? ⟨g2, og2 + b, none⟩ = some (.slice ad3 D.length cd3)) := ⟨y1, u1⟩
          have hse := shr_num l.length n 0 HEnd.out.1
          clear hXb hbl hp hq u1 u2 b1 b2 b3 b4 htp ht0 ht2 ht0s hfit hD hpw y1 hm
          go_wp2_with fail
          refine (HT0.out _ HLr.out).mono ?_
          rintro e v1 ⟨rfl, hb1⟩
          have HV1 : Hid (Below wr.heap.size wr v1) := hb1
          have HL1 : Hid (RevsAt v1 v1.heap.size a l) := HLr.out.here hb1 (Nat.le_refl _)
          clear hb1
          go_wp2_with fail
          refine (HT2.out _ HL1.out).mono ?_
          rintro e v2 ⟨rfl, hb2⟩
          have HV2 : Hid (Below wr.heap.size wr v2) := HV1.out.trans (hb2.mono HV1.out.size)
          clear hb2
          obtain ⟨k1, k2⟩ := held2 HY.out.1 HY.out.2 HV2.out hg hg2
          have HP2 : Hid (PartsAt v2 v2.heap.size ad3 D) := HPD.out.here HV2.out (Nat.le_refl _)
          go_wp2_with fail
          refine (HDo.out _ _ _ HP2.out).mono ?_
          rintro e v3 ⟨rfl, hb3⟩
          have HV3 : Hid (Below w.heap.size w v3) := HBq.out.trans ((HV2.out.trans (hb3.mono HV2.out.size)).mono HBq.out.size)
          clear hb3 k1 k2
          go_wp2_with fail
          go_ret
          exact ⟨by first | rfl | simp, HV3.out⟩
  · have HBu : Hid (∀ w : World, RevsAt w w.heap.size a l → _) := fun w h => Build_not s a l cap w h hs h0
    obtain ⟨E, hE⟩ : ∃ E, checkE s.data.toList l = E := ⟨_, rfl⟩
    rw [hE] at HBu h0
    have h0' : (E != 0) = true := by simp [h0]
    clear hE h0
    go_wp2_with fail
    refine (HBu.out _ HL5.out).mono ?_
    rintro e w6 ⟨rfl, hb6⟩
    have HB6 : Hid (Below w.heap.size w w6) := HB5.out.trans (hb6.mono HB5.out.size)
    clear hb6
    go_wp2_with fail
    go_ret
    exact ⟨by first | rfl | simp, HB6.out⟩
end Go.Proofs.Ytinhidddfpjjkab
