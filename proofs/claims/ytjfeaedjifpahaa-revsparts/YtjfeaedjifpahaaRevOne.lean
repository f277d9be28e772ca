/- What revs.One, the document's Rev, revs.made and revs.Check answer. -/
import Derived.Test.YtjfeaedjifpahaaRevMem
import Derived.Test.YtjfeaedjifpahaaRevL
import Derived.Test.YtjfeaedjifpahaaFits
namespace Go.Proofs.Ytjfeaedjifpahaa
open Go.RowKit
set_option linter.unusedSimpArgs false
set_option linter.unusedVariables false

set_option maxRecDepth 20000 in
set_option maxHeartbeats 1000000 in
theorem One_any (r : Rv) (a : Option Addr) (c : Nat) (w : World) (hp : PartsAt w w.heap.size a r.d) :
    Calls Try.prog 9 #[.agg #[.int .i64 r.who, .int .i64 r.seq, .slice a r.d.length c]] w fun e w' => e = .returned (.int .i64 (oneE r)) ∧ Below w.heap.size w w' := by
  have HP : Hid (PartsAt w w.heap.size a r.d) := hp
  clear hp
  by_cases h1 : r.who < 0
  · have hE : oneE r = 1 := by rw [oneE, if_pos (by omega)]
    rw [hE]; clear hE
    go_enter Try.func9, Try.ntmps9
    go_wp2_with fail
    go_ret
    exact ⟨rfl, (Below.refl _ _).alloc (Nat.le_refl _) _⟩
  · by_cases h2 : 7 < r.who
    · have hE : oneE r = 1 := by rw [oneE, if_pos (by omega)]
      rw [hE]; clear hE
      go_enter Try.func9, Try.ntmps9
      go_wp2_with fail
      go_ret
      exact ⟨rfl, (Below.refl _ _).alloc (Nat.le_refl _) _⟩
    · by_cases h3 : r.seq < 0
      · have hE : oneE r = 1 := by rw [oneE, if_pos (by omega)]
        rw [hE]; clear hE
        go_enter Try.func9, Try.ntmps9
        go_wp2_with fail
        go_ret
        exact ⟨rfl, (Below.refl _ _).alloc (Nat.le_refl _) _⟩
      · by_cases h4 : 2147483647 < r.seq
        · have hE : oneE r = 1 := by rw [oneE, if_pos (by omega)]
          rw [hE]; clear hE
          go_enter Try.func9, Try.ntmps9
          go_wp2_with fail
          go_ret
          exact ⟨rfl, (Below.refl _ _).alloc (Nat.le_refl _) _⟩
        · have hE : oneE r = sizesE r.d := by rw [oneE, if_neg (by omega)]
          rw [hE]; clear hE
          go_enter Try.func9, Try.ntmps9
          go_wp2_with fail
          refine (Check_any a r.d c _ (HP.out.here ((Below.refl _ w).alloc (Nat.le_refl _) _) (Nat.le_refl _))).mono ?_
          rintro e w1 ⟨rfl, hb1⟩
          have HB1 : Hid (Below w.heap.size w w1) := ((Below.refl _ w).alloc (Nat.le_refl _) _).trans (hb1.mono (by simp))
          clear hb1
          go_wp2_with fail
          go_ret
          exact ⟨rfl, HB1.out⟩

set_option maxRecDepth 20000 in
set_option maxHeartbeats 1000000 in
theorem RRev_any (r : Rv) (a : Option Addr) (c : Nat) (w : World) (hp : PartsAt w w.heap.size a r.d) :
    Calls Try.prog 10 #[.agg #[.int .i64 r.who, .int .i64 r.seq, .slice a r.d.length c]] w fun e w' => e = .returned (.int .i64 (oneE r)) ∧ Below w.heap.size w w' := by
  have HP : Hid (PartsAt w w.heap.size a r.d) := hp
  clear hp
  by_cases h1 : r.who < 0
  · have hE : oneE r = 1 := by rw [oneE, if_pos (by omega)]
    rw [hE]; clear hE
    go_enter Try.func10, Try.ntmps10
    go_wp2_with fail
    go_ret
    exact ⟨rfl, (Below.refl _ _).alloc (Nat.le_refl _) _⟩
  · by_cases h2 : 7 < r.who
    · have hE : oneE r = 1 := by rw [oneE, if_pos (by omega)]
      rw [hE]; clear hE
      go_enter Try.func10, Try.ntmps10
      go_wp2_with fail
      go_ret
      exact ⟨rfl, (Below.refl _ _).alloc (Nat.le_refl _) _⟩
    · by_cases h3 : r.seq < 0
      · have hE : oneE r = 1 := by rw [oneE, if_pos (by omega)]
        rw [hE]; clear hE
        go_enter Try.func10, Try.ntmps10
        go_wp2_with fail
        go_ret
        exact ⟨rfl, (Below.refl _ _).alloc (Nat.le_refl _) _⟩
      · by_cases h4 : 2147483647 < r.seq
        · have hE : oneE r = 1 := by rw [oneE, if_pos (by omega)]
          rw [hE]; clear hE
          go_enter Try.func10, Try.ntmps10
          go_wp2_with fail
          go_ret
          exact ⟨rfl, (Below.refl _ _).alloc (Nat.le_refl _) _⟩
        · have hE : oneE r = sizesE r.d := by rw [oneE, if_neg (by omega)]
          rw [hE]; clear hE
          go_enter Try.func10, Try.ntmps10
          go_wp2_with fail
          refine (Delta_any a r.d c _ (HP.out.here ((Below.refl _ w).alloc (Nat.le_refl _) _) (Nat.le_refl _))).mono ?_
          rintro e w1 ⟨rfl, hb1⟩
          have HB1 : Hid (Below w.heap.size w w1) := ((Below.refl _ w).alloc (Nat.le_refl _) _).trans (hb1.mono (by simp))
          clear hb1
          go_wp2_with fail
          go_ret
          exact ⟨rfl, HB1.out⟩

set_option maxHeartbeats 1000000 in
theorem rmade_any (r : Rv) (a : Option Addr) (c : Nat) (w : World) (hp : PartsAt w w.heap.size a r.d) :
    Calls Try.prog 29 #[.agg #[.int .i64 r.who, .int .i64 r.seq, .slice a r.d.length c]] w fun e w' => e = .returned (.int .i64 (sizesOut r.d)) ∧ Below w.heap.size w w' := by
  have HP : Hid (PartsAt w w.heap.size a r.d) := hp
  clear hp
  go_enter Try.func29, Try.ntmps29
  go_wp2_with fail
  refine (Sizes_any a r.d c _ (HP.out.here ((Below.refl _ w).alloc (Nat.le_refl _) _) (Nat.le_refl _))).mono ?_
  rintro e w1 ⟨rfl, hb1⟩
  have HB1 : Hid (Below w.heap.size w w1) := ((Below.refl _ w).alloc (Nat.le_refl _) _).trans (hb1.mono (by simp))
  clear hb1
  go_wp2_with fail
  go_ret
  exact ⟨rfl, HB1.out⟩

theorem ret_err {a b : Int} (h : a = b) : Ending.returned (.int .i64 a) = .returned (.int .i64 b) := by rw [h]

set_option maxRecDepth 20000 in
set_option maxHeartbeats 2000000 in
theorem RevCheck_any (s : ByteArray) (a : Option Addr) (l : List Rv) (cap : Nat) (w : World) (hl : RevsAt w w.heap.size a l) (hs : s.size ≤ 9223372036854775807) :
    Calls Try.prog 12 #[.string s, .slice a l.length cap] w fun e w' => e = .returned (.int .i64 (checkE s.data.toList l)) ∧ Below w.heap.size w w' := by
  have hsl : s.data.toList.length = s.size := Array.length_toList
  have hll := hl.1
  by_cases h1 : 500 < s.size
  · have hE : checkE s.data.toList l = 2 := by rw [checkE, if_pos (by omega)]
    rw [hE]; clear hE hsl
    have h1' : (500 : Int) < (s.size : Int) := by omega
    go_enter Try.func12, Try.ntmps12
    go_wp2_with fail
    go_ret
    exact ⟨rfl, Below.refl _ _⟩
  · have h1' : ¬ (500 : Int) < (s.size : Int) := by omega
    by_cases h2 : 64 < l.length
    · have hE : checkE s.data.toList l = 2 := by rw [checkE, if_pos (by omega)]
      rw [hE]; clear hE hsl
      have h2' : (64 : Int) < (l.length : Int) := by omega
      go_enter Try.func12, Try.ntmps12
      go_wp2_with fail
      go_ret
      exact ⟨rfl, Below.refl _ _⟩
    · have h2' : ¬ (64 : Int) < (l.length : Int) := by omega
      have HL : Hid (RevsAt w w.heap.size a l) := hl
      have HSL : Hid (s.data.toList.length = s.size) := hsl
      have HE : Hid (checkE s.data.toList l = histE s.data.toList l) := by show _ = _; rw [checkE, if_neg (by omega)]
      clear hl hsl
      go_enter Try.func12, Try.ntmps12
      go_wp2_with fail
      go_loopw [5, 22] (fun n i wr => ∃ (k : Nat) (t : List UInt8) (m : Int), k ≤ l.length ∧ i = .int .i64 k ∧ n = .int .i64 m ∧ m = t.length ∧ t.length ≤ 500 ∧ histE t (l.drop k) = histE s.data.toList l ∧ Below w.heap.size w wr) (fun _ i _ => l.length - (intOf i).toNat)
      case atStart => exact ⟨0, s.data.toList, _, Nat.zero_le _, rfl, rfl, by rw [HSL.out], by rw [HSL.out]; omega, rfl, Below.refl _ _⟩
      case round =>
        obtain ⟨k, t, m, hk, rfl, rfl, hm, ht5, hh, hb⟩ := hrel
        by_cases hlt : k < l.length
        · obtain ⟨r, hrk⟩ : ∃ r, l[k]? = some r := ⟨l[k], List.getElem?_eq_getElem hlt⟩
          have hki : (k : Int) < (l.length : Int) := by omega
          obtain ⟨b, off, ai, ci, rfl, hblt, c1, c2, c3, hpd, hrm⟩ := (HL.out.below hb (Nat.le_refl _)).mem hrk
          have hz := hb.size
          have hbw : b < wr.heap.size := by omega
          have HD : Hid (PartsAt wr w.heap.size ai r.d) := hpd
          have HB : Hid (Below w.heap.size w wr) := hb
          have HH : Hid (histE s.data.toList l = histE t (r :: l.drop (k + 1))) := by show _ = _; rw [← hh, drop_rv hrk]
          have HM : Hid (m = (t.length : Int)) := hm
          have HT : Hid (t.length ≤ 500) := ht5
          have hHB1 : Below w.heap.size w (wr.alloc (.cells #[.int .i64 r.who, .int .i64 r.seq, .slice ai r.d.length ci] 25)) := HB.out.alloc hz _
          have HD1 : Hid (PartsAt (wr.alloc (.cells #[.int .i64 r.who, .int .i64 r.seq, .slice ai r.d.length ci] 25)) w.heap.size ai r.d) := hpd.below ((Below.refl _ wr).alloc (Nat.le_refl _) _) hz
          have HB1 : Hid _ := hHB1
          clear hb hh hm ht5 hpd hrm hrk hHB1
          go_wp2_with fail
          refine (One_any r ai ci _ (HD1.out.here (Below.refl _ _) (Nat.le_refl _))).mono ?_
          rintro e w2 ⟨rfl, hb2⟩
          have HX2 : Hid (RBox w2 wr.heap.size r ai ci) := (rbox_new wr r ai ci).below hb2
          obtain ⟨x0, x1, x2, x3⟩ := HX2.out
          have hz2 : wr.heap.size + 1 ≤ w2.heap.size := by have := hb2.size; simpa using this
          have HB2 : Hid (Below w.heap.size w w2) := HB1.out.trans (hb2.mono (by simp; omega))
          have HD2 : Hid (PartsAt w2 w.heap.size ai r.d) := HD1.out.below hb2 (by simp; omega)
          clear hb2
          by_cases hO : oneE r = 0
          · have hO' : (oneE r != 0) = false := by simp [hO]
            have HO : Hid (oneE r = 0) := hO
            have HZ : Hid _ := (one_zero hO).2
            clear hO
            go_wp2_with fail
            clear x0 x1 x2 x3
            refine (Fits_any ai r.d ci _ _ (HD2.out.here (Below.refl _ _) (by omega))).mono ?_
            rintro e w3 ⟨rfl, hb3⟩
            obtain ⟨y0, y1, y2, y3⟩ := HX2.out.below hb3
            have hz3 := hb3.size
            have HB3 : Hid (Below w.heap.size w w3) := HB2.out.trans (hb3.mono (by omega))
            have HD3 : Hid (PartsAt w3 w.heap.size ai r.d) := HD2.out.below hb3 (by omega)
            clear hb3
            by_cases hF : fitsE r.d m = 0
            · have hF' : (fitsE r.d m != 0) = false := by simp [hF]
              have HF : Hid (fitsE r.d m = 0) := hF
              clear hF
              go_wp2_with fail
              refine (rmade_any r ai ci _ (HD3.out.here (Below.refl _ _) (by omega))).mono ?_
              rintro e w4 ⟨rfl, hb4⟩
              have HB4 : Hid (Below w.heap.size w w4) := HB3.out.trans (hb4.mono (by omega))
              clear hb4
              go_wp2_with fail
              go_roundw
              case rel =>
                have hF := HF.out
                rw [HM.out] at hF
                obtain ⟨f1, f2⟩ := fits_zero hF
                obtain ⟨o1, o2⟩ := do_out f1 f2
                refine ⟨k + 1, doL r.d t, _, by omega, by go_num, rfl, by rw [(sizes_zero f1).2.2, o1], o2, ?_, HB4.out⟩
                rw [HH.out, histE, if_pos HO.out, if_pos hF]
              case measure => simp [intOf]; omega
            · have hF' : (fitsE r.d m != 0) = true := by simp [hF]
              have HF : Hid (¬ fitsE r.d m = 0) := hF
              clear hF
              go_wp2_with fail
              go_ret
              refine ⟨ret_err ?_, HB3.out⟩
              have hF := HF.out
              rw [HM.out] at hF
              rw [HE.out, HH.out, histE, if_pos HO.out, if_neg hF, HM.out]
          · have hO' : (oneE r != 0) = true := by simp [hO]
            have HO : Hid (¬ oneE r = 0) := hO
            clear hO
            go_wp2_with fail
            go_ret
            exact ⟨ret_err (by rw [HE.out, HH.out, histE, if_neg HO.out]), HB2.out⟩
        · have hki : ¬ (k : Int) < (l.length : Int) := by omega
          have HH : Hid (0 = histE s.data.toList l) := by show _ = _; rw [← hh, List.drop_eq_nil_of_le (by omega)]; rfl
          clear hh
          go_wp2_with fail
          go_ret
          exact ⟨ret_err (by rw [HE.out, ← HH.out]), hb⟩
end Go.Proofs.Ytjfeaedjifpahaa
