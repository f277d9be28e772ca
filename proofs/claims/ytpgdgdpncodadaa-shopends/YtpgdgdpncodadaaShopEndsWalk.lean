/- The law ShopEnds, walked: it answers true. (laws/mkends.py) -/
import Derived.Test.YtpgdgdpncodadaaShMove
import Derived.Test.YtpgdgdpncodadaaShRevs
import Derived.Test.YtpgdgdpncodadaaShRun
import Derived.Deep.RegionHeld3
namespace Go.Proofs.Ytpgdgdpncodadaa
open Go.RowKit
set_option linter.unusedSimpArgs false
set_option linter.unusedVariables false

/-- how much of a move is left -/
def rk (st sd : Int) : Nat := if st = 1 then 2147483652 else if st = 2 then 2147483651 - sd.toNat else if st = 3 then 2 else if st = 4 then 1 else 0
def rkW (w : World) (g : Nat) : Nat := match w.cell? ⟨g, 44, none⟩, w.cell? ⟨g, 46, none⟩ with
  | some (.int _ st), some (.int _ sd) => rk st sd
  | _, _ => 0
theorem rkW_is {w : World} {g : Nat} {S : Sh} (h : SG w g S) : rkW w g = rk S.stage S.said := by
  obtain ⟨v, xs, hof⟩ := h.1
  obtain ⟨_, _, _, h44, _, h46⟩ := hof.cells
  unfold rkW
  rw [h44, h46]
theorem rk_step {S : Sh} (hg : SGood S) (h0 : S.stage ≠ 0) : rk (stepS S).stage (stepS S).said < rk S.stage S.said := by
  have hb := hg.bounds
  obtain ⟨a, b, m, hi, _⟩ := hg
  have hst := hi.oth.stage
  rcases (by omega : S.stage = 1 ∨ S.stage = 2 ∨ S.stage = 3 ∨ S.stage = 4) with h | h | h | h
  · have e : stepS S = stepHead S := by unfold stepS; rw [if_pos h]
    obtain ⟨g1, g2, g3⟩ := head_stage S
    rw [e, g1, h]
    unfold rk
    simp
    omega
  · have e : stepS S = stepNext S := by unfold stepS; rw [if_neg (by omega), if_pos h]
    obtain ⟨_, _, _, _, hs, _⟩ := hi.oth.two h
    obtain ⟨g1, g2⟩ := next_stage S
    rw [e]
    by_cases hd : S.said = headN S
    · obtain ⟨g5, g6⟩ := g1 hd
      rw [g5, h]
      unfold rk
      simp
      omega
    · obtain ⟨g5, g6, g7⟩ := g2 hd
      rw [g5, g7, h]
      unfold rk
      simp
      omega
  · have e : stepS S = changeS S := by unfold stepS; rw [if_neg (by omega), if_neg (by omega), if_pos h]
    have e2 : (changeS S).stage = 4 := rfl
    rw [e, e2, h]
    unfold rk
    simp
  · have e : stepS S = overS S := by unfold stepS; rw [if_neg (by omega), if_neg (by omega), if_neg (by omega), if_pos h]
    have e2 : (overS S).stage = 0 := rfl
    rw [e, e2, h]
    unfold rk
    simp
theorem stepS_none {S : Sh} (h0 : S.stage = 0) : stepS S = S := by
  unfold stepS
  rw [if_neg (by omega), if_neg (by omega), if_neg (by omega), if_neg (by omega)]
theorem sync_twice (S : Sh) : syncS (syncS S) = syncS S := by
  have h : twoB (syncS S) = twoB S := rfl
  unfold syncS at h ⊢
  rw [h]
  cases twoB S <;> rfl
/-- behind a move one slot is empty, and the other one isn't -/
theorem one_empty {S : Sh} (hg : SGood S) (h0 : S.stage = 0) : (S.p0 = ⟨#[]⟩ ∧ ¬ S.p1 = ⟨#[]⟩) ∨ (¬ S.p0 = ⟨#[]⟩ ∧ S.p1 = ⟨#[]⟩) := by
  obtain ⟨a, b, m, hi, _⟩ := hg
  have ho := (hi.oth.zero h0).1
  have hc : ¬ S.c = ⟨#[]⟩ := by
    intro e
    have h1 := hi.data
    rw [e] at h1
    have h2 := congrArg List.length h1
    rw [row_len] at h2
    have h3 : 7 ≤ rowN (curF S a b) := by
      unfold curF slotF
      show 7 ≤ (_ + 7) + rowN _
      omega
    have h4 : (⟨#[]⟩ : ByteArray).data.toList.length = 0 := rfl
    omega
  rcases (by have := hi.cur; omega : S.cur = 0 ∨ S.cur = 1) with h | h
  · right
    unfold Sh.p0 Sh.p1
    rw [if_pos h, if_pos h]
    exact ⟨hc, ho⟩
  · left
    unfold Sh.p0 Sh.p1
    rw [if_neg (by omega), if_neg (by omega)]
    exact ⟨ho, hc⟩
theorem bytes_some {p : ByteArray} (h : ¬ p = ⟨#[]⟩) : p.toList.isEmpty = false := by
  rw [ByteArray.toList_eq]
  cases h2 : p.data.toList with
  | nil => exact absurd (ByteArray.ext (Array.ext' (by rw [h2]))) h
  | cons => rfl
/-- an archive, and a disk in a block -/
def EndsAt (W w : World) (B g D : Nat) (S : Sh) (p : ByteArray) (x : Int) (q : ByteArray) (y : Int) : Prop := SG W g S ∧ DkAt W D p x q y ∧ Below B w W ∧ B ≤ W.heap.size
theorem ends_next {W W' w : World} {B g D : Nat} {S : Sh} {p q : ByteArray} {x y : Int} (h : Hid (EndsAt W w B g D S p x q y)) (hb : Below W.heap.size W W') : Hid (EndsAt W' w B g D S p x q y) := by
  obtain ⟨h1, h2, h3, h4⟩ := h.out
  exact ⟨h1.below hb, h2.below hb h2.lt, h3.trans (hb.mono h4), Nat.le_trans h4 hb.size⟩
set_option maxRecDepth 20000 in
set_option maxHeartbeats 16000000 in
theorem ShopEnds_any (a : Option Addr) (l : List Rv) (cap : Nat) (floor : Int) (w : World) (hl : RevsAt w w.heap.size a l) (hc : l.length ≤ cap) :
    Calls Try.prog 7 #[.slice a l.length cap, .int .i64 floor] w fun e w' => e = .returned (.bool true) ∧ Below w.heap.size w w' := by
  have HL : Hid (RevsAt w w.heap.size a l) := hl
  have hll : l.length ≤ 9223372036854775807 := hl.1
  obtain ⟨B, hB⟩ : ∃ B, w.heap.size = B := ⟨_, rfl⟩
  have HWB : Hid (w.heap.size = B) := hB
  rw [hB] at HL
  have HF1 : Hid _ := fun w => first_any ⟨#[97]⟩ w (by decide)
  have HO1 : Hid _ := fun w ad hp => fill_one2 w ad hp
  obtain ⟨o1, o2, o3, o4, o5⟩ := one_facts
  have HSt1 : Hid (∀ w g, SG w g (fillS [oneRv]) → Calls Try.prog 16 #[.pointer (some ⟨g, 0, none⟩)] w fun e w' => e = .returned (.bool false) ∧ SG w' g (fillS [oneRv]) ∧ Aside g w w') := by
    intro w g h
    have h2 := GStep (fillS [oneRv]) g w h
    rw [stepB_no o3, stepS_none o3] at h2
    exact h2
  have HS1 : Hid (∀ w g, SG w g (fillS [oneRv]) → Calls Try.prog 21 #[.pointer (some ⟨g, 0, none⟩)] w fun e w' => e = .returned (.int .i64 0) ∧ Below w.heap.size w w') := by
    intro w g h
    have h2 := GSafe (fillS [oneRv]) g w h
    rw [o2] at h2
    exact h2
  clear o1 o2 o3 o4 o5 hl hB
  generalize fillS [oneRv] = F1 at *
  have HW : Hid _ := fun k m w h1 h2 => Within3_any k m w h1 h2
  have HFl : Hid _ := fun w h => Filled_any a l cap w h
  obtain ⟨hg1, hg2, hg3, hg4⟩ := fill_is l
  have hgd := (fill_good l).bounds
  have HH : Hid _ := fun w g h => GHead (fillS l) g w h
  obtain ⟨N, hN⟩ : ∃ N, headN (fillS l) = N := ⟨_, rfl⟩
  have HSt2 : Hid (∀ w g, SG w g (fillS l) → Calls Try.prog 16 #[.pointer (some ⟨g, 0, none⟩)] w fun e w' => e = .returned (.bool false) ∧ SG w' g (fillS l) ∧ Aside g w w') := by
    intro w g h
    have h2 := GStep (fillS l) g w h
    rw [stepB_no hg1, stepS_none hg1] at h2
    exact h2
  have HKf : Hid (∀ w g, SG w g (fillS l) → Calls Try.prog 15 #[.pointer (some ⟨g, 0, none⟩), .int .i64 ((N : Int) + 1)] w fun e w' => e = .returned (.int .i64 8) ∧ SG w' g (fillS l) ∧ Aside g w w') := by
    intro w g h
    have h2 := GKeep (fillS l) ((N : Int) + 1) g w h
    have h3 : hasE (fillS l) ((N : Int) + 1) = 8 := by unfold hasE; rw [if_neg (by omega), if_pos (by omega)]
    have h4 : kpE (fillS l) ((N : Int) + 1) = 8 := by unfold kpE; rw [if_pos hg1, h3, if_neg (by decide)]
    have h5 : keepS (fillS l) ((N : Int) + 1) = fillS l := by unfold keepS; rw [h4, if_neg (by decide)]
    rw [h4, h5] at h2
    exact h2
  have HKg : Hid (∀ w g, SG w g (fillS l) → Calls Try.prog 15 #[.pointer (some ⟨g, 0, none⟩), .int .i64 (-1)] w fun e w' => e = .returned (.int .i64 9) ∧ SG w' g (fillS l) ∧ Aside g w w') := by
    intro w g h
    have h2 := GKeep (fillS l) (-1) g w h
    have h3 : hasE (fillS l) (-1) = 9 := by unfold hasE; rw [if_pos (by omega)]
    have h4 : kpE (fillS l) (-1) = 9 := by unfold kpE; rw [if_pos hg1, h3, if_neg (by decide)]
    have h5 : keepS (fillS l) (-1) = fillS l := by unfold keepS; rw [h4, if_neg (by decide)]
    rw [h4, h5] at h2
    exact h2
  have HK : Hid (∀ k : Nat, k < N + 1 → ∀ w g, SG w g (fillS l) → Calls Try.prog 15 #[.pointer (some ⟨g, 0, none⟩), .int .i64 k] w fun e w' => e = .returned (.int .i64 0) ∧ (∃ S, SG w' g S ∧ MvSt S k 0) ∧ Aside g w w') := by
    intro k hk w g h
    obtain ⟨k1, k2⟩ := keep_ok hg1 (by rw [hg4]; decide) (k := k) (by rw [hg3]; omega) (by rw [hN]; omega)
    have h2 := GKeep (fillS l) k g w h
    rw [k1] at h2
    refine h2.mono fun e w' ⟨h1, h2, h3⟩ => ⟨h1, ⟨_, h2, .inl ?_⟩, h3⟩
    rw [k2]
    exact ⟨rfl, rfl, rfl, rfl, hg3, hg4, by show k ≤ headN (fillS l); omega⟩
  rw [hN] at HH
  have hN2 : N ≤ 64 := by rw [← hN, fill_head]; exact hgd.1
  clear hgd hg1 hg2 hg3 hg4 hN
  generalize fillS l = Fl at *
  go_enter Try.func7, Try.ntmps7
  go_wp2_with fail
  with_reducible refine (HF1.out _).mono ?_
  rintro e w1 ⟨ad, rfl, hp1, hb1⟩
  have HB1 : Hid (Below B w w1) := by rw [← HWB.out]; exact hb1
  have HP1 : Hid _ := hp1
  clear hp1 hb1
  have HOne : Hid (Calls Try.prog 12 #[.slice (some ⟨w1.heap.size, 0, none⟩) 1 1] (w1.alloc (.cells #[.int .i64 1, .int .i64 1, .slice (some ad) 1 1] 40)) fun e w' => ∃ g, e = .returned (.pointer (some ⟨g, 0, none⟩)) ∧ w1.heap.size ≤ g ∧ SG w' g F1 ∧ Below w1.heap.size w1 w') := HO1.out w1 ad HP1.out
  go_wp2_with fail
  with_reducible refine Calls.mono HOne.out ?_
  rintro e w2 ⟨g1, rfl, hg1, hs2, hb2⟩
  have HB2 : Hid (Below B w w2) := HB1.out.trans (hb2.mono (by have := HB1.out.size; have := HWB.out; omega))
  have HS2 : Hid (SG w2 g1 F1) := hs2
  have HG1 : Hid (B ≤ g1) := by have := HB1.out.size; have := HWB.out; show B ≤ g1; omega
  clear hs2 hb2 hg1 HOne
  go_wp2_with fail
  with_reducible refine (HSt1.out _ _ HS2.out).mono ?_
  rintro e w3 ⟨rfl, hs3, ha3⟩
  have HS3 : Hid (SG w3 g1 F1) := hs3
  have HB3 : Hid (Below B w w3) := HB2.out.trans (ha3.below HG1.out (by have := HB2.out.size; have := HWB.out; omega))
  clear hs3 ha3
  go_wp2_with fail
  with_reducible refine (HS1.out _ _ HS3.out).mono ?_
  rintro e w4 ⟨rfl, hb4⟩
  have HB4 : Hid (Below B w w4) := HB3.out.trans (hb4.mono (by have := HB3.out.size; have := HWB.out; omega))
  clear hb4 HS2 HS3 HB1 HB2 HB3 HP1 HF1 HO1 HSt1 HS1
  go_wp2_with fail
  with_reducible refine (HFl.out _ (HL.out.here HB4.out (Nat.le_refl _))).mono ?_
  rintro e w5 ⟨g, rfl, hg, hs5, hb5⟩
  have HB5 : Hid (Below B w w5) := HB4.out.trans (hb5.mono (by have := HB4.out.size; have := HWB.out; omega))
  have HG : Hid (B ≤ g) := by have := HB4.out.size; have := HWB.out; show B ≤ g; omega
  have HS5 : Hid (SG w5 g Fl) := hs5
  clear hg hs5 hb5
  go_wp2_with fail
  with_reducible refine (HH.out _ _ HS5.out).mono ?_
  rintro e w6 ⟨rfl, hb6⟩
  have HS6 : Hid (SG w6 g Fl) := HS5.out.below hb6
  have HB6 : Hid (Below B w w6) := HB5.out.trans (hb6.mono (by have := HB5.out.size; have := HWB.out; omega))
  clear hb6
  go_wp2_with fail
  rw [show (N : Int) + 1 = ((N + 1 : Nat) : Int) by omega]
  with_reducible refine (HW.out _ _ _ (by omega) (by omega)).mono ?_
  rintro e w7 ⟨fl, rfl, hfl, rfl⟩
  have HKk : Hid _ := HK.out fl hfl
  go_wp2_with fail
  with_reducible refine (HSt2.out _ _ HS6.out).mono ?_
  rintro e w8 ⟨rfl, hs8, ha8⟩
  have HS8 : Hid (SG w8 g Fl) := hs8
  have HB8 : Hid (Below B w w8) := HB6.out.trans (ha8.below HG.out (by have := HB6.out.size; have := HWB.out; omega))
  clear hs8 ha8
  go_wp2_with fail
  with_reducible refine (HH.out _ _ HS8.out).mono ?_
  rintro e w9 ⟨rfl, hb9⟩
  have HS9 : Hid (SG w9 g Fl) := HS8.out.below hb9
  have HB9 : Hid (Below B w w9) := HB8.out.trans (hb9.mono (by have := HB8.out.size; have := HWB.out; omega))
  clear hb9
  go_wp2_with fail
  with_reducible refine (HKf.out _ _ HS9.out).mono ?_
  rintro e w10 ⟨rfl, hs10, ha10⟩
  have HS10 : Hid (SG w10 g Fl) := hs10
  have HB10 : Hid (Below B w w10) := HB9.out.trans (ha10.below HG.out (by have := HB9.out.size; have := HWB.out; omega))
  clear hs10 ha10
  go_wp2_with fail
  with_reducible refine (HKg.out _ _ HS10.out).mono ?_
  rintro e w11 ⟨rfl, hs11, ha11⟩
  have HS11 : Hid (SG w11 g Fl) := hs11
  have HB11 : Hid (Below B w w11) := HB10.out.trans (ha11.below HG.out (by have := HB10.out.size; have := HWB.out; omega))
  clear hs11 ha11
  go_wp2_with fail
  with_reducible refine (HKk.out _ _ HS11.out).mono ?_
  rintro e w12 ⟨rfl, ⟨S0, hs12, hmv⟩, ha12⟩
  have HS12 : Hid (SG w12 g S0) := hs12
  have HM12 : Hid (MvSt S0 fl 0) := hmv
  have HB12 : Hid (Below B w w12) := HB11.out.trans (ha12.below HG.out (by have := HB11.out.size; have := HWB.out; omega))
  clear hs12 hmv ha12 HKk HK HKf HKg HSt2 HH HFl HW HL HS5 HS6 HS8 HS9 HS10 HS11 HB4 HB5 HB6 HB8 HB9 HB10 HB11
  go_wp2_with fail
  go_loopw [] (fun wr => ∃ n S, SG wr g S ∧ MvSt S fl n ∧ Below B w wr) (fun wr => rkW wr g)
  case atStart => exact ⟨0, S0, HS12.out, HM12.out, HB12.out⟩
  case round =>
    rename World => wq
    clear HS12 HM12 HB12
    obtain ⟨n, S, hs, hmv, hb⟩ := hrel
    have HS : Hid (SG wq g S) := hs
    have HMv : Hid (MvSt S fl n) := hmv
    have HB : Hid (Below B w wq) := hb
    have HSt : Hid _ := fun w h => GStep S g w h
    clear hs hmv hb
    by_cases h0 : S.stage = 0
    · rw [stepB_no h0, stepS_none h0] at HSt
      obtain ⟨hbs, hgn⟩ : S.log.base = fl ∧ S.log.gen = 2 := by
        rcases HMv.out with h | h | h | h | h <;> first | omega | exact ⟨h.2.2.1, h.2.2.2⟩
      have hbd := HS.out.2.bounds
      have hem := one_empty (good_sync HS.out.2) (show (syncS S).stage = 0 from h0)
      have HSy : Hid (∀ w, SG w g S → Calls Try.prog 24 #[.pointer (some ⟨g, 0, none⟩)] w fun e w' => e = .returned (.tuple #[]) ∧ SG w' g (syncS S) ∧ Aside g w w') := fun w h => GSync S g w h
      have HSy2 : Hid (∀ w, SG w g (syncS S) → Calls Try.prog 24 #[.pointer (some ⟨g, 0, none⟩)] w fun e w' => e = .returned (.tuple #[]) ∧ SG w' g (syncS S) ∧ Aside g w w') := by
        intro w h
        have h2 := GSync (syncS S) g w h
        rw [sync_twice] at h2
        exact h2
      have hh2 : headN (syncS S) = headN S := rfl
      have HHd : Hid _ := fun w h => GHead (syncS S) g w h
      have HSf : Hid _ := fun w h => GSafe (syncS S) g w h
      have hsf : (syncS S).safe = headN (syncS S) := rfl
      rw [hsf] at HSf
      have HDk : Hid (∀ w, SG w g (syncS S) → Calls Try.prog 25 #[.pointer (some ⟨g, 0, none⟩)] w fun e w' => e = .returned (.agg #[.string (syncS S).p0, .int .i64 (syncS S).x0, .string (syncS S).p1, .int .i64 (syncS S).x1]) ∧ Below w.heap.size w w') := fun w h => GDisk (syncS S) g w h
      have hbs2 : (syncS S).log.base = fl := hbs
      have HTg : Hid (∀ w, SG w g (syncS S) → Calls Try.prog 18 #[.pointer (some ⟨g, 0, none⟩), .int .i64 ((fl : Int) - 1)] w fun e w' => (∃ t, e = .returned (.tuple #[.string t, .int .i64 9])) ∧ Below w.heap.size w w') := by
        intro w h
        have h2 := GText (syncS S) ((fl : Int) - 1) g w h
        have h3 : hasE (syncS S) ((fl : Int) - 1) = 9 := by unfold hasE; rw [if_pos (by omega)]
        rw [h3] at h2
        exact h2.mono fun e w' ⟨h4, h5⟩ => ⟨⟨_, h4⟩, h5⟩
      have HRg : Hid (∀ w, SG w g (syncS S) → Calls Try.prog 27 #[.pointer (some ⟨g, 0, none⟩), .int .i64 ((fl : Int) - 1)] w fun e w' => (∃ v, e = .returned (.tuple #[v, .int .i64 9])) ∧ Below w.heap.size w w') := by
        intro w h
        have h2 := GRevs (syncS S) ((fl : Int) - 1) g w h
        have h3 : hasE (syncS S) ((fl : Int) - 1) = 9 := by unfold hasE; rw [if_pos (by omega)]
        rw [h3] at h2
        exact h2.mono fun e w' ⟨v, xs, h4, _, _, h5⟩ => ⟨⟨_, h4⟩, h5⟩
      obtain ⟨hd, hhd⟩ : ∃ hd, headN (syncS S) = hd := ⟨_, rfl⟩
      have HTf : Hid (∀ w, SG w g (syncS S) → Calls Try.prog 18 #[.pointer (some ⟨g, 0, none⟩), .int .i64 ((hd : Int) + 1)] w fun e w' => (∃ t, e = .returned (.tuple #[.string t, .int .i64 8])) ∧ Below w.heap.size w w') := by
        intro w h
        have h2 := GText (syncS S) ((hd : Int) + 1) g w h
        have h3 : hasE (syncS S) ((hd : Int) + 1) = 8 := by unfold hasE; rw [if_neg (by omega), if_pos (by omega)]
        rw [h3] at h2
        exact h2.mono fun e w' ⟨h4, h5⟩ => ⟨⟨_, h4⟩, h5⟩
      rw [hhd] at HHd HSf
      have hd2 : hd ≤ 2147483647 := by omega
      have hf2 : fl ≤ 2147483647 := by omega
      have heq := disk_eql (syncS S).p0 (syncS S).p1 (syncS S).x0 (syncS S).x1
      clear hbs hgn hbd hh2 hsf hbs2 hhd h0 HMv
      generalize syncS S = S2 at *
      generalize S2.p0 = p0 at *
      generalize S2.x0 = x0 at *
      generalize S2.p1 = p1 at *
      generalize S2.x1 = x1 at *
      go_wp2_with fail
      with_reducible refine (HSt.out _ HS.out).mono ?_
      rintro e w12 ⟨rfl, hs12, ha12⟩
      have HS12 : Hid (SG w12 g S) := hs12
      have HB12 : Hid (Below B w w12) := HB.out.trans (ha12.below HG.out (by have := HB.out.size; have := HWB.out; omega))
      clear hs12 ha12 HS HB
      go_wp2_with fail
      with_reducible refine (HSy.out _ HS12.out).mono ?_
      rintro e w13 ⟨rfl, hs13, ha13⟩
      have HS13 : Hid (SG w13 g S2) := hs13
      have HB13 : Hid (Below B w w13) := HB12.out.trans (ha13.below HG.out (by have := HB12.out.size; have := HWB.out; omega))
      clear hs13 ha13
      go_wp2_with fail
      with_reducible refine (HDk.out _ HS13.out).mono ?_
      rintro e w14 ⟨rfl, hb14⟩
      have HS14 : Hid (SG w14 g S2) := HS13.out.below hb14
      have HB14 : Hid (Below B w w14) := HB13.out.trans (hb14.mono (by have := HB13.out.size; have := HWB.out; omega))
      clear hb14
      have HD0 : Hid (DkAt (w14.alloc (.cells #[.string p0, .int .i64 x0, .string p1, .int .i64 x1] 26)) w14.heap.size p0 x0 p1 x1 ∧ Below w14.heap.size w14 (w14.alloc (.cells #[.string p0, .int .i64 x0, .string p1, .int .i64 x1] 26))) := ⟨DkBox, (Below.refl _ w14).alloc (Nat.le_refl _) _⟩
      go_upto_region 13 with fail
      generalize w14.alloc (.cells #[.string p0, .int .i64 x0, .string p1, .int .i64 x1] 26) = w15 at HD0 ⊢
      have HS15 : Hid (SG w15 g S2) := HS14.out.below HD0.out.2
      have HB15 : Hid (Below B w w15) := HB14.out.trans (HD0.out.2.mono (by have := HB14.out.size; have := HWB.out; omega))
      have hgd : g < w14.heap.size := HS14.out.lt
      have hB14 : B ≤ w14.heap.size := by have := HB14.out.size; have := HWB.out; omega
      obtain ⟨D, hD⟩ : ∃ D, w14.heap.size = D := ⟨_, rfl⟩
      rw [hD] at HD0 hgd hB14 ⊢
      have HD15 : Hid (DkAt w15 D p0 x0 p1 x1) := HD0.out.1
      have HGD : Hid (g < D ∧ B ≤ D) := ⟨hgd, hB14⟩
      clear hD HD0 hgd hB14
      go_wp2_with fail
      with_reducible refine (HSy2.out _ HS15.out).mono ?_
      rintro e w16 ⟨rfl, hs16, ha16⟩
      have HD16 : Hid (DkAt w16 D p0 x0 p1 x1) := ha16.block HD15.out (by have := HGD.out.1; omega)
      have HS16 : Hid (SG w16 g S2) := hs16
      have HB16 : Hid (Below B w w16) := HB15.out.trans (ha16.below HG.out (by have := HB15.out.size; have := HWB.out; omega))
      clear hs16 ha16
      go_wp2_with fail
      with_reducible refine (HTg.out _ HS16.out).mono ?_
      rintro e w17 ⟨⟨tg, rfl⟩, hb17⟩
      have HD17 : Hid (DkAt w17 D p0 x0 p1 x1) := HD16.out.below hb17 HD16.out.lt
      have HS17 : Hid (SG w17 g S2) := HS16.out.below hb17
      have HB17 : Hid (Below B w w17) := HB16.out.trans (hb17.mono (by have := HB16.out.size; have := HWB.out; omega))
      clear hb17
      go_wp2_with fail
      with_reducible refine (HHd.out _ HS17.out).mono ?_
      rintro e w18 ⟨rfl, hb18⟩
      have HD18 : Hid (DkAt w18 D p0 x0 p1 x1) := HD17.out.below hb18 HD17.out.lt
      have HS18 : Hid (SG w18 g S2) := HS17.out.below hb18
      have HB18 : Hid (Below B w w18) := HB17.out.trans (hb18.mono (by have := HB17.out.size; have := HWB.out; omega))
      clear hb18
      go_wp2_with fail
      with_reducible refine (HTf.out _ HS18.out).mono ?_
      rintro e w19 ⟨⟨tf, rfl⟩, hb19⟩
      have HD19 : Hid (DkAt w19 D p0 x0 p1 x1) := HD18.out.below hb19 HD18.out.lt
      have HS19 : Hid (SG w19 g S2) := HS18.out.below hb19
      have HB19 : Hid (Below B w w19) := HB18.out.trans (hb19.mono (by have := HB18.out.size; have := HWB.out; omega))
      clear hb19
      go_wp2_with fail
      with_reducible refine (HRg.out _ HS19.out).mono ?_
      rintro e w20 ⟨⟨rv, rfl⟩, hb20⟩
      have HD20 : Hid (DkAt w20 D p0 x0 p1 x1) := HD19.out.below hb20 HD19.out.lt
      have HS20 : Hid (SG w20 g S2) := HS19.out.below hb20
      have HB20 : Hid (Below B w w20) := HB19.out.trans (hb20.mono (by have := HB19.out.size; have := HWB.out; omega))
      clear hb20
      clear HSt HSy HSy2 HTg HTf HRg HS12 HS13 HS14 HS15 HS16 HS17 HS18 HS19 HB12 HB13 HB14 HB15 HB16 HB17 HB18 HB19 HD15 HD16 HD17 HD18 HD19
      go_wp2_with fail
      have HX : Hid (EndsAt w20.drew w B g D S2 p0 x0 p1 x1) := ⟨HS20.out.below (Below.refl w20.heap.size w20).drew, HD20.out.below ((Below.refl w20.heap.size w20).drew) HD20.out.lt, HB20.out.drew, by have := HB20.out.size; have := HWB.out; show B ≤ w20.heap.size; omega⟩
      clear HS20 HD20 HB20
      rcases hem with ⟨hp, hq⟩ | ⟨hp, hq⟩
      · subst hp
        have hne := bytes_some hq
        obtain ⟨c0, c1, c2, c3⟩ := HX.out.2.1.cells
        go_region_held3 (fun w' => w'.cell? ⟨D, 0, none⟩ = some (.string ⟨#[]⟩) ∧ w'.cell? ⟨D, 1, none⟩ = some (.int .i64 x0) ∧ w'.cell? ⟨D, 2, none⟩ = some (.string p1) ∧ w'.cell? ⟨D, 3, none⟩ = some (.int .i64 x1)) (first | go_keep | exact HX.out.2.1.cells | fail) (first
          | (go_at_call 25; have hsg := HX.out.1; with_reducible refine (HDk.out _ hsg).mono ?_; rintro e w' ⟨rfl, hb⟩; replace HX := ends_next HX hb; clear hb hsg)
          | (go_at_call 21; have hsg := HX.out.1; with_reducible refine (HSf.out _ hsg).mono ?_; rintro e w' ⟨rfl, hb⟩; replace HX := ends_next HX hb; clear hb hsg)
          | (go_at_call 14; have hsg := HX.out.1; with_reducible refine (HHd.out _ hsg).mono ?_; rintro e w' ⟨rfl, hb⟩; replace HX := ends_next HX hb; clear hb hsg)
          | fail)
        all_goals
          go_wp2_with fail
          go_ret
          exact ⟨rfl, by rw [HWB.out]; exact HX.out.2.2.1⟩
      · subst hq
        have hne := bytes_some hp
        obtain ⟨c0, c1, c2, c3⟩ := HX.out.2.1.cells
        go_region_held3 (fun w' => w'.cell? ⟨D, 0, none⟩ = some (.string p0) ∧ w'.cell? ⟨D, 1, none⟩ = some (.int .i64 x0) ∧ w'.cell? ⟨D, 2, none⟩ = some (.string ⟨#[]⟩) ∧ w'.cell? ⟨D, 3, none⟩ = some (.int .i64 x1)) (first | go_keep | exact HX.out.2.1.cells | fail) (first
          | (go_at_call 25; have hsg := HX.out.1; with_reducible refine (HDk.out _ hsg).mono ?_; rintro e w' ⟨rfl, hb⟩; replace HX := ends_next HX hb; clear hb hsg)
          | (go_at_call 21; have hsg := HX.out.1; with_reducible refine (HSf.out _ hsg).mono ?_; rintro e w' ⟨rfl, hb⟩; replace HX := ends_next HX hb; clear hb hsg)
          | (go_at_call 14; have hsg := HX.out.1; with_reducible refine (HHd.out _ hsg).mono ?_; rintro e w' ⟨rfl, hb⟩; replace HX := ends_next HX hb; clear hb hsg)
          | fail)
        all_goals
          go_wp2_with fail
          go_ret
          exact ⟨rfl, by rw [HWB.out]; exact HX.out.2.2.1⟩
    · rw [stepB_yes HS.out.2 h0] at HSt
      have HM2 : Hid (MvSt (stepS S) fl (n + 1)) := mv_step HS.out.2 HMv.out h0
      have HRk : Hid (rk (stepS S).stage (stepS S).said < rkW wq g) := by
        show _ < _
        rw [rkW_is HS.out]
        exact rk_step HS.out.2 h0
      have hbd := (good_step HS.out.2).bounds.2.2.2
      have HBa : Hid _ := fun w h => GBase (stepS S) g w h
      have HHd : Hid _ := fun w h => GHead (stepS S) g w h
      obtain ⟨hd, hhd⟩ : ∃ hd, headN (stepS S) = hd := ⟨_, rfl⟩
      obtain ⟨bs, hbs⟩ : ∃ bs, (stepS S).log.base = bs := ⟨_, rfl⟩
      rw [hhd] at HHd hbd
      rw [hbs] at HBa hbd
      have hnot : ¬ (hd : Int) < (bs : Int) := by omega
      clear hhd hbs hbd h0 HMv
      generalize stepS S = S2 at *
      go_wp2_with fail
      with_reducible refine (HSt.out _ HS.out).mono ?_
      rintro e w12 ⟨rfl, hs12, ha12⟩
      have HS12 : Hid (SG w12 g S2) := hs12
      have HB12 : Hid (Below B w w12) := HB.out.trans (ha12.below HG.out (by have := HB.out.size; have := HWB.out; omega))
      clear hs12 ha12
      go_wp2_with fail
      with_reducible refine (HBa.out _ HS12.out).mono ?_
      rintro e w13 ⟨rfl, hb13⟩
      have HS13 : Hid (SG w13 g S2) := HS12.out.below hb13
      have HB13 : Hid (Below B w w13) := HB12.out.trans (hb13.mono (by have := HB12.out.size; have := HWB.out; omega))
      clear hb13
      go_wp2_with fail
      with_reducible refine (HHd.out _ HS13.out).mono ?_
      rintro e w14 ⟨rfl, hb14⟩
      have HS14 : Hid (SG w14 g S2) := HS13.out.below hb14
      have HB14 : Hid (Below B w w14) := HB13.out.trans (hb14.mono (by have := HB13.out.size; have := HWB.out; omega))
      clear hb14
      go_wp2_with fail
      go_roundw
      case rel => exact ⟨n + 1, S2, HS14.out, HM2.out, HB14.out⟩
      case measure =>
        rw [rkW_is HS14.out]
        exact HRk.out
end Go.Proofs.Ytpgdgdpncodadaa
