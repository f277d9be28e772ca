/- The law CatchEach, walked: it answers true. -/
import Derived.Test.YtndhamcipbecfaaCatchLit
import Derived.Test.YtndhamcipbecfaaPlain
namespace Go.Proofs.Ytndhamcipbecfaa
open Go.RowKit
set_option linter.unusedSimpArgs false
set_option linter.unusedVariables false

/-- behind all at once, and behind each -/
theorem each_all {s : List UInt8} {l : List Rv} {n : Nat} {m : List Pt} (hn : n ≤ l.length) (hc : checkE s l = 0) (m1 : sizesE m = 0) (m2 : inI m = ((textAt s l n).length : Nat)) (hm : meetE (betO s l n l.length) m = 0)
    (hp : plainB (l.drop n) = true) (hk : cutsB m = false) {D : List Pt} (hD : undoF m (l.drop n) = (D, 0)) : D = meetR (betO s l n l.length) m := by
  obtain ⟨z1, z2, z3⟩ := check_zero hc
  have e1 : textAt (textAt s l n) (l.drop n) (l.drop n).length = textAt s l l.length := by
    rw [text_drop s n _ hn, List.length_drop, show n + (l.length - n) = l.length by omega]
  have e2 : betO s l n l.length = betF ((textAt (textAt s l n) (l.drop n) (l.drop n).length).length : Nat) (l.drop n) := by
    rw [betO, e1, List.take_length]
  rw [e2] at hm ⊢
  have h := catch_each (hist_cut z3 n).2 (text_le z3 z1 n) (plain_no hp) m1 m2 (cuts_no hk) hm (by rw [hD])
  rw [hD] at h
  exact h

set_option maxRecDepth 20000 in
set_option maxHeartbeats 8000000 in
theorem CatchEach_any (s : ByteArray) (a : Option Addr) (l : List Rv) (cap : Nat) (r : Int) (b : Option Addr) (m : List Pt) (cb : Nat) (w : World) (hl : RevsAt w w.heap.size a l) (hc : l.length ≤ cap) (hm : PartsAt w w.heap.size b m) (hs : s.size ≤ 9223372036854775807) :
    Calls Try.prog 8 #[.string s, .slice a l.length cap, .int .i64 r, .slice b m.length cb] w fun e w' => e = .returned (.bool true) ∧ Below w.heap.size w w' := by
  have hll := hl.1
  have HL : Hid (RevsAt w w.heap.size a l) := hl
  have HM : Hid (PartsAt w w.heap.size b m) := hm
  clear hl hm
  have HC : Hid _ := fun w h1 h2 => CatchOf_any s a b l m cap cb r w h1 hc h2 hs
  go_enter Try.func8, Try.ntmps8
  go_wp2_with fail
  refine (first_any ⟨#[97]⟩ _ (by decide)).mono ?_
  rintro e w1 ⟨ad, rfl, hp1, hb1⟩
  have HB1 : Hid (Below w.heap.size w (w1.alloc (.cells #[.int .i64 1, .int .i64 1, .slice (some ad) 1 1] 40))) := hb1.alloc hb1.size _
  have HF1 : Hid (∀ w2, _ → _) := fun w2 hb => first_held w1 w2 ad hp1 hb
  clear hp1 hb1
  go_wp2_with fail
  refine (put_any ⟨#[98]⟩ _ (by decide)).mono ?_
  rintro e w2 ⟨rfl, hp2, hb2⟩
  have HB2 : Hid (Below w.heap.size w w2) := HB1.out.trans (hb2.mono HB1.out.size)
  rw [show (w1.alloc (.cells #[.int .i64 1, .int .i64 1, .slice (some ad) 1 1] 40)).heap.size = w1.heap.size + 1 from Deep.nblk_alloc _ _] at hp2 ⊢
  have HC2 : Hid (∀ _ : Unit, _) := fun _ => CatchFirst w2 ⟨w1.heap.size, 0, none⟩ ⟨w1.heap.size + 1, 0, none⟩ (HF1.out w2 hb2) hp2
  clear hp2 hb2
  go_wp2_with fail
  refine Calls.mono (HC2.out ()) ?_
  rintro e w3 ⟨a1, c1, a2, c2, a3, c3, rfl, _, hp3, _, hb3⟩
  have HB3 : Hid (Below w.heap.size w w3) := HB2.out.trans (hb3.mono HB2.out.size)
  have HB3' : Hid (Below w.heap.size w (w3.alloc (.cells #[.int .i64 1, .int .i64 1, .string ⟨#[]⟩, .int .i64 2, .int .i64 0, .string ⟨#[98]⟩] 43))) := HB3.out.alloc HB3.out.size _
  have HP3 : Hid (PartsAt (w3.alloc (.cells #[.int .i64 1, .int .i64 1, .string ⟨#[]⟩, .int .i64 2, .int .i64 0, .string ⟨#[98]⟩] 43)) (w3.alloc (.cells #[.int .i64 1, .int .i64 1, .string ⟨#[]⟩, .int .i64 2, .int .i64 0, .string ⟨#[98]⟩] 43)).heap.size a2 [keepP 1, putP ⟨#[98]⟩]) := hp3.here ((Below.refl _ _).alloc (Nat.le_refl _) _) (Nat.le_refl _)
  have HQ3 : Hid (PartsAt (w3.alloc (.cells #[.int .i64 1, .int .i64 1, .string ⟨#[]⟩, .int .i64 2, .int .i64 0, .string ⟨#[98]⟩] 43)) (w3.alloc (.cells #[.int .i64 1, .int .i64 1, .string ⟨#[]⟩, .int .i64 2, .int .i64 0, .string ⟨#[98]⟩] 43)).heap.size (some ⟨w3.heap.size, 0, none⟩) [keepP 1, putP ⟨#[98]⟩]) := lit_at w3 [keepP 1, putP ⟨#[98]⟩] (small_bound (by decide)) _ rfl
  clear hp3 hb3 HC2 HF1
  go_wp2_with fail
  refine (same_n (la := [keepP 1, putP ⟨#[98]⟩]) a2 (some ⟨w3.heap.size, 0, none⟩) c2 2 _ HP3.out HQ3.out 2 (by rfl)).mono ?_
  rintro e w5 ⟨rfl, hb5⟩
  have HB5 : Hid (Below w.heap.size w w5) := HB3'.out.trans (hb5.mono HB3'.out.size)
  clear hb5
  go_wp2_with fail
  refine (HC.out _ (HL.out.here HB5.out (Nat.le_refl _)) (HM.out.here HB5.out (Nat.le_refl _))).mono ?_
  rintro e w6 ⟨x1, d1, x2, d2, x3, d3, rfl, hp1, hp2, hp3, hb6⟩
  have HB6 : Hid (Below w.heap.size w w6) := HB5.out.trans (hb6.mono HB5.out.size)
  have HX2 : Hid (PartsAt w6 w6.heap.size x2 (catchR s.data.toList l r m)) := hp2
  clear hp1 hp2 hp3 hb6 HC
  by_cases h0 : catchE s.data.toList l r m = 0
  · obtain ⟨n, rfl, hn, hc0, m1, m2, hme⟩ := catch_zero h0
    obtain ⟨z1, z2, z3⟩ := check_zero hc0
    obtain ⟨g1, g2, g3⟩ := catch_good h0
    rw [g2] at HX2
    rw [g1, g2, g3, h0]
    obtain ⟨l2, b2, hl2, hlen, hlc, hr2, hrun⟩ := run_from HL.out hc hn
    have HR : Hid (RevsAt w w.heap.size b2 l2) := hr2
    have HH : Hid (∀ (j : Nat) (q : Rv), l2[j]? = some q → sizesE q.d = 0 ∧ inI q.d = ((textAt s.data.toList l (n + j)).length : Nat) ∧ outI q.d = ((textAt s.data.toList l (n + (j + 1))).length : Nat)) := by
      intro j q hj
      rw [hl2, List.getElem?_drop] at hj
      obtain ⟨q1, q2, q3, q4⟩ := hist_at z3 hj
      exact ⟨q2, q3, q4⟩
    have HEA : Hid (plainB l2 = true → cutsB m = false → ∀ D, undoF m l2 = (D, 0) → D = meetR (betO s.data.toList l n l.length) m) := by
      intro p1 p2 D hD
      rw [hl2] at p1 hD
      exact each_all hn hc0 m1 m2 hme p1 p2 hD
    have HM0 : Hid (sizesE m = 0 ∧ inI m = ((textAt s.data.toList l (n + 0)).length : Nat)) := ⟨m1, m2⟩
    have HPl : Hid _ := fun w hh => plain_any b2 l2 (cap - n) w hh hlc
    have HCu : Hid _ := fun w hh => cuts_any b m cb w hh
    obtain ⟨X, hX⟩ : ∃ X, betO s.data.toList l n l.length = X := ⟨_, rfl⟩
    rw [hX] at HX2 HEA ⊢
    obtain ⟨Y, hY⟩ : ∃ Y, meetR X m = Y := ⟨_, rfl⟩
    obtain ⟨Z, hZ⟩ : ∃ Z, meetL X m = Z := ⟨_, rfl⟩
    rw [hY] at HX2 HEA ⊢
    rw [hZ]
    have hl9 : l2.length ≤ 64 := by omega
    clear h0 hc0 m1 m2 hme z1 z3 g1 g2 g3 hl2 hlen hlc hr2 hX hY hZ
    go_wp2_with fail
    refine (HPl.out _ (HR.out.here HB6.out (Nat.le_refl _))).mono ?_
    rintro e w7 ⟨rfl, hb7⟩
    have HB7 : Hid (Below w.heap.size w w7) := HB6.out.trans (hb7.mono HB6.out.size)
    have HX2 : Hid (PartsAt w7 w7.heap.size x2 Y) := HX2.out.here hb7 (Nat.le_refl _)
    clear hb7
    cases hpl : plainB l2
    · clear hpl
      go_wp2_with fail
      go_ret
      exact ⟨rfl, HB7.out⟩
    · have HEA : Hid (cutsB m = false → ∀ D, undoF m l2 = (D, 0) → D = Y) := HEA.out hpl
      clear hpl
      go_wp2_with fail
      refine (HCu.out _ (HM.out.here HB7.out (Nat.le_refl _))).mono ?_
      rintro e w8 ⟨rfl, hb8⟩
      have HB8 : Hid (Below w.heap.size w w8) := HB7.out.trans (hb8.mono HB7.out.size)
      have HX2 : Hid (PartsAt w8 w8.heap.size x2 Y) := HX2.out.here hb8 (Nat.le_refl _)
      clear hb8
      cases hcu : cutsB m
      · have HEA : Hid (∀ D, undoF m l2 = (D, 0) → D = Y) := HEA.out hcu
        have HM8 : Hid (PartsAt w8 w8.heap.size b m) := HM.out.here HB8.out (Nat.le_refl _)
        clear hcu
        go_wp2_with fail
        go_loopw [17, 16, 74] (fun v ev x wr => ∃ (j : Nat) (a' : Option Addr) (c' : Nat) (D : List Pt) (E : Int), j ≤ l2.length ∧ x = .int .i64 j ∧ v = .slice a' D.length c' ∧ ev = .int .i64 E ∧ PartsAt wr wr.heap.size a' D ∧ undoF D (l2.drop j) = undoF m l2 ∧ sizesE D = 0 ∧ inI D = ((textAt s.data.toList l (n + j)).length : Nat) ∧ Below w8.heap.size w8 wr) (fun _ _ x _ => l2.length - (intOf x).toNat)
        case atStart => exact ⟨0, b, cb, m, 0, Nat.zero_le _, rfl, rfl, rfl, HM8.out, rfl, HM0.out.1, HM0.out.2, Below.refl _ _⟩
        case round =>
          obtain ⟨j, a', c', D, E, hj, rfl, rfl, rfl, hpD, hun, hsz, hin, hb⟩ := hrel
          have hz := hb.size
          have HBW : Hid (Below w.heap.size w wr) := HB8.out.trans (hb.mono HB8.out.size)
          have hzw := HBW.out.size
          by_cases hlt : j < l2.length
          · obtain ⟨q, hq⟩ : ∃ q, l2[j]? = some q := ⟨l2[j], List.getElem?_eq_getElem hlt⟩
            have hji : (j : Int) < (l2.length : Int) := by omega
            obtain ⟨g2, off, ai, ci, e2, hblt, k1, k2, k3, hpd, hrm⟩ := (HR.out.below HBW.out (Nat.le_refl _)).mem hq
            subst e2
            have hbw : g2 < wr.heap.size := by omega
            obtain ⟨q2, q3, q4⟩ := HH.out j q hq
            have HB : Hid (Below w8.heap.size w8 (wr.alloc (.cells #[.int .i64 q.who, .int .i64 q.seq, .slice ai q.d.length ci] 40))) := hb.alloc hz _
            have HD : Hid (PartsAt (wr.alloc (.cells #[.int .i64 q.who, .int .i64 q.seq, .slice ai q.d.length ci] 40)) (wr.alloc (.cells #[.int .i64 q.who, .int .i64 q.seq, .slice ai q.d.length ci] 40)).heap.size ai q.d) := hpd.here ((Below.refl _ wr).alloc (Nat.le_refl _) _) hzw
            have HDD : Hid (PartsAt (wr.alloc (.cells #[.int .i64 q.who, .int .i64 q.seq, .slice ai q.d.length ci] 40)) (wr.alloc (.cells #[.int .i64 q.who, .int .i64 q.seq, .slice ai q.d.length ci] 40)).heap.size a' D) := hpD.here ((Below.refl _ wr).alloc (Nat.le_refl _) _) (Nat.le_refl _)
            have HMe : Hid _ := fun w h1 h2 => MeetOf_any ai a' q.d D ci c' w h1 h2
            have HY : Hid ((meetE q.d D = 0 ∧ undoF (meetR q.d D) (l2.drop (j + 1)) = undoF m l2 ∧ sizesE (meetR q.d D) = 0 ∧ inI (meetR q.d D) = ((textAt s.data.toList l (n + (j + 1))).length : Nat)) ∨ meetE q.d D = 2) := by
              rcases meet_err q2 hsz (by rw [q3, hin]) with h | h
              · obtain ⟨_, f2, _, f4, _⟩ := meet_facts h
                rw [drop_rv hq, undoF, if_pos h] at hun
                exact .inl ⟨h, hun, f2, by rw [f4, q4]⟩
              · exact .inr h
            obtain ⟨Q, hQ⟩ : ∃ Q, meetR q.d D = Q := ⟨_, rfl⟩
            obtain ⟨F, hF⟩ : ∃ F, meetL q.d D = F := ⟨_, rfl⟩
            obtain ⟨me, hme⟩ : ∃ me, meetE q.d D = me := ⟨_, rfl⟩
            rw [hQ, hF, hme] at HMe
            rw [hQ, hme] at HY
            clear hb hpd hrm hq hQ hF hme hun hpD hsz hin q2 q3 q4
            go_wp2_with fail
            refine (HMe.out _ HD.out HDD.out).mono ?_
            rintro e w4 ⟨x4, cx4, a4, c4, rfl, hpx, hrx, hp4, hr4, hb4⟩
            have HB4 : Hid (Below w8.heap.size w8 w4) := HB.out.trans (hb4.mono (by simp; omega))
            have HP4 : Hid (PartsAt w4 w4.heap.size a4 Q) := hp4
            clear hb4 hp4 hpx hrx hr4
            rcases HY.out with ⟨t1, t2, t3, t4⟩ | t1
            · have t5 : (me != 0) = false := by simp [t1]
              have HT : Hid (undoF Q (l2.drop (j + 1)) = undoF m l2 ∧ sizesE Q = 0 ∧ inI Q = ((textAt s.data.toList l (n + (j + 1))).length : Nat)) := ⟨t2, t3, t4⟩
              clear t1 t2 t3 t4 HY
              go_wp2_with fail
              go_roundw
              case rel => exact ⟨j + 1, a4, c4, Q, me, by omega, by go_num, rfl, rfl, HP4.out, HT.out.1, HT.out.2.1, HT.out.2.2, HB4.out⟩
              case measure => simp [intOf]; omega
            · have t5 : (me != 0) = true := by simp [t1]
              have t6 : (me == 2) = true := by simp [t1]
              clear t1 HY
              go_wp2_with fail
              go_ret
              exact ⟨rfl, HB8.out.trans (HB4.out.mono HB8.out.size)⟩
          · have hji : ¬ (j : Int) < (l2.length : Int) := by omega
            obtain rfl : D = Y := by
              refine HEA.out D ?_
              rw [← hun, List.drop_eq_nil_of_le (by omega)]; rfl
            have HPD : Hid (PartsAt wr wr.heap.size a' D) := hpD
            have HX2 : Hid (PartsAt wr wr.heap.size x2 D) := HX2.out.here hb (Nat.le_refl _)
            clear hb hpD hun hsz hin
            go_wp2_with fail
            refine (Same_yes x2 a' D d2 c' _ HX2.out HPD.out).mono ?_
            rintro e w9 ⟨rfl, hb9⟩
            have HB9 : Hid (Below w.heap.size w w9) := HBW.out.trans (hb9.mono HBW.out.size)
            clear hb9
            go_wp2_with fail
            go_ret
            exact ⟨rfl, HB9.out⟩
      · clear hcu HEA
        go_wp2_with fail
        go_ret
        exact ⟨rfl, HB8.out⟩
  · obtain ⟨g1, g2, g3⟩ := catch_bad rfl h0
    rw [g1, g2, g3]
    have q1 : (catchE s.data.toList l r m != 0) = true := by simp [h0]
    have q2 : (catchE s.data.toList l r m == 0) = false := by simp [h0]
    clear h0 g1 g2 g3 HX2
    go_wp2_with fail
    go_ret
    exact ⟨rfl, HB6.out⟩
end Go.Proofs.Ytndhamcipbecfaa
