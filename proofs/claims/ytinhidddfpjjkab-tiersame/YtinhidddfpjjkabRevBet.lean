/- What revs.keepAll and revs.Between answer. -/
import Derived.Test.YtinhidddfpjjkabRevOne
import Derived.Test.YtinhidddfpjjkabCompOf
namespace Go.Proofs.Ytinhidddfpjjkab
open Go.RowKit
set_option linter.unusedSimpArgs false
set_option linter.unusedVariables false

set_option maxHeartbeats 400000 in
theorem keepAll_any (n : Int) (w : World) (h0 : 0 ≤ n) (h1 : n ≤ 500) :
    Calls Try.prog 51 #[.int .i64 n] w fun e w' => ∃ a cap, e = .returned (.slice a (allN n).length cap) ∧ PartsAt w' w'.heap.size a (allN n) ∧ Room a (allN n) cap ∧ Below w.heap.size w w' := by
  by_cases hn : n = 0
  · have hn' : (n == 0) = true := by simp [hn]
    have HN : Hid (allN n = []) := by show _ = _; simp [allN, hn]
    clear hn
    go_enter Try.func51, Try.ntmps51
    go_wp2
    go_ret
    exact ⟨none, 0, by rw [HN.out]; rfl, by rw [HN.out]; exact ⟨by simp, Nat.le_refl _, by simp, by simp⟩, by rw [HN.out]; exact room_nil, Below.refl _ _⟩
  · have hn' : (n == 0) = false := by simp [hn]
    have HN : Hid (allN n = [⟨1, n, ByteArray.empty⟩]) := by show _ = _; simp [allN, hn]
    clear hn
    go_enter Try.func51, Try.ntmps51
    go_wp2
    go_ret
    refine ⟨some ⟨w.heap.size, 0, none⟩, 1, by rw [HN.out]; rfl, ?_, by rw [HN.out]; exact ⟨by simp, fun e => by cases e⟩, (Below.refl _ _).alloc (Nat.le_refl _) _⟩
    rw [HN.out]
    have h2 := parts_lit w [⟨1, n, ByteArray.empty⟩] ⟨by simp, by intro p hp; simp at hp; subst hp; exact ⟨Nat.zero_le _, by show _ ≤ n; omega, by show n ≤ _; omega, by show _ ≤ (1 : Int); omega, by show (1 : Int) ≤ _; omega⟩⟩
    rw [show (w.alloc (.cells #[.int .i64 1, .int .i64 n, .string ⟨#[]⟩] 58)).heap.size = w.heap.size + 1 from Deep.nblk_alloc _ _]
    exact h2

set_option maxRecDepth 20000 in
set_option maxHeartbeats 4000000 in
theorem Between_from0 (s : ByteArray) (a : Option Addr) (l : List Rv) (cap i k : Nat) (w : World) (hl : RevsAt w w.heap.size a l) (hc : l.length ≤ cap) (h0 : checkE s.data.toList l = 0) (hi : i ≤ k) (hk : k ≤ l.length) (hi0 : i = 0) :
    Calls Try.prog 20 #[.string s, .slice a l.length cap, .int .i64 (i : Int), .int .i64 (k : Int)] w fun e w' => ∃ a' c', e = .returned (.tuple #[.slice a' (betO s.data.toList l i k).length c', .int .i64 0]) ∧ PartsAt w' w'.heap.size a' (betO s.data.toList l i k) ∧ Room a' (betO s.data.toList l i k) c' ∧ Below w.heap.size w w' := by
  have hsl : s.data.toList.length = s.size := Array.length_toList
  have hll := hl.1
  obtain ⟨z1, z2, z3⟩ := check_zero h0
  obtain ⟨l2, b2, hl2, hlen, hr2, hrun⟩ := run_mid hl hc hi hk
  have HC : Hid _ := fun w hh hs => RevCheck_any s a l cap w hh hs
  rw [h0] at HC
  have hti : (textAt s.data.toList l i).length ≤ 500 := text_le z3 z1 i
  have HL : Hid (RevsAt w w.heap.size a l) := hl
  have HR : Hid (RevsAt w w.heap.size b2 l2) := hr2
  have H2 : Hid (l2 = (l.take k).drop i) := hl2
  have HH : Hid (histE s.data.toList l = 0 ∧ s.data.toList.length ≤ 500) := ⟨z3, z1⟩
  have hs6 : s.size ≤ 500 := by omega
  have i0 : ¬ (i : Int) < 0 := by omega
  have i1 : ¬ (k : Int) < (i : Int) := by omega
  have k1 : ¬ (l.length : Int) < (k : Int) := by omega
  obtain ⟨n, hn⟩ : ∃ n : Int, n = ((textAt s.data.toList l i).length : Nat) := ⟨_, rfl⟩
  have HBW : Hid (betL (allN n) (l2.drop 0) = betO s.data.toList l i k) := by show _ = _; rw [hn, List.drop_zero, hl2]; exact bet_walk h0 hi hk
  have HAN : Hid (sizesE (allN n) = 0 ∧ outI (allN n) = ((textAt s.data.toList l (i + 0)).length : Nat)) := by
    obtain ⟨x1, x2, x3⟩ := all_facts (n := n) (by omega) (by omega)
    exact ⟨x1, by rw [x3, hn]; rfl⟩
  have hn0 : 0 ≤ n := by omega
  have hn5 : n ≤ 500 := by omega

  have hns : n = (s.size : Int) := by rw [hn, hi0, text_zero, hsl]
  have i2 : ¬ 0 < (i : Int) := by omega
  clear hl hr2 hl2 h0 z1 z3 hti hn hsl hi0
  go_enter Try.func20, Try.ntmps20
  go_wp2_with fail
  refine (HC.out _ HL.out (by omega)).mono ?_
  rintro e w2 ⟨rfl, hb2⟩
  have HB2 : Hid (Below w.heap.size w w2) := hb2
  clear hb2
  go_wp2_with fail
  rw [← hns]
  clear hns
  refine (keepAll_any _ _ hn0 hn5).mono ?_
  rintro e w3 ⟨a3, c3, rfl, hp3, hr3, hb3⟩
  have HB3 : Hid (Below w.heap.size w w3) := HB2.out.trans (hb3.mono HB2.out.size)
  have HP3 : Hid (PartsAt w3 w3.heap.size a3 (allN n)) := hp3
  have HR3 : Hid (Room a3 (allN n) c3) := hr3
  clear hb3 hp3 hr3
  go_wp2_with fail
  go_loopw [12, 51] (fun v x wr => ∃ (j : Nat) (a' : Option Addr) (c' : Nat) (D : List Pt), j ≤ l2.length ∧ x = .int .i64 j ∧ v = .slice a' D.length c' ∧ PartsAt wr wr.heap.size a' D ∧ Room a' D c' ∧ betL D (l2.drop j) = betO s.data.toList l i k ∧ sizesE D = 0 ∧ outI D = ((textAt s.data.toList l (i + j)).length : Nat) ∧ Below w.heap.size w wr) (fun _ x _ => l2.length - (intOf x).toNat)
  case atStart => exact ⟨0, a3, c3, allN n, Nat.zero_le _, rfl, rfl, HP3.out, HR3.out, HBW.out, HAN.out.1, HAN.out.2, HB3.out⟩
  case round =>
    obtain ⟨j, a', c', D, hj, rfl, rfl, hpD, hrD, hbl, hsz, hout, hb⟩ := hrel
    by_cases hlt : j < l2.length
    · obtain ⟨r, hrj⟩ : ∃ r, l2[j]? = some r := ⟨l2[j], List.getElem?_eq_getElem hlt⟩
      have hrj' : l[i + j]? = some r := by
        rw [H2.out, List.getElem?_drop, List.getElem?_take] at hrj
        split at hrj
        · exact hrj
        · cases hrj
      have hji : (j : Int) < (l2.length : Int) := by omega
      obtain ⟨b, off, ai, ci, e2, hblt, c1, c2, c3', hpd, hrm⟩ := (HR.out.below hb (Nat.le_refl _)).mem hrj
      subst e2
      have hz := hb.size
      have hbw : b < wr.heap.size := by omega
      obtain ⟨q1, q2, q3, q4⟩ := hist_at HH.out.1 hrj'
      have hE : compE D r.d = 0 := comp_is hsz q2 (by rw [hout, q3])
      obtain ⟨x, _, _, f1, f2, f3, f4, _⟩ := comp_facts hE
      have HX : Hid (betL (compR D r.d) (l2.drop (j + 1)) = betO s.data.toList l i k ∧ sizesE (compR D r.d) = 0 ∧ outI (compR D r.d) = ((textAt s.data.toList l (i + (j + 1))).length : Nat)) := by
        rw [drop_rv hrj] at hbl
        refine ⟨hbl, by rw [f4]; exact f1, ?_⟩
        rw [f4, f3, q4]; rfl
      have hl0 : D.length ≤ c' := hrD.1
      have HB : Hid (Below w.heap.size w (wr.alloc (.cells #[.int .i64 r.who, .int .i64 r.seq, .slice ai r.d.length ci] 46))) := hb.alloc hz _
      have HD : Hid (PartsAt (wr.alloc (.cells #[.int .i64 r.who, .int .i64 r.seq, .slice ai r.d.length ci] 46)) (wr.alloc (.cells #[.int .i64 r.who, .int .i64 r.seq, .slice ai r.d.length ci] 46)).heap.size ai r.d) := hpd.here ((Below.refl _ wr).alloc (Nat.le_refl _) _) hz
      have HDD : Hid (PartsAt (wr.alloc (.cells #[.int .i64 r.who, .int .i64 r.seq, .slice ai r.d.length ci] 46)) (wr.alloc (.cells #[.int .i64 r.who, .int .i64 r.seq, .slice ai r.d.length ci] 46)).heap.size a' D) := hpD.here ((Below.refl _ wr).alloc (Nat.le_refl _) _) (Nat.le_refl _)
      have HCO : Hid _ := fun w h1 h2 => CompOf_any a' ai D r.d c' ci w h1 h2 hl0
      rw [hE] at HCO
      obtain ⟨E, hEE⟩ : ∃ E, compR D r.d = E := ⟨_, rfl⟩
      rw [hEE] at HCO HX
      clear hb hpd hrm hrj hrj' q1 q2 q3 q4 hE f1 f2 f3 f4 hEE hbl hsz hout hpD hrD
      go_wp2_with fail
      refine (HCO.out _ HDD.out HD.out).mono ?_
      rintro e w4 ⟨a4, c4, rfl, hp4, hr4, hb4⟩
      have HB4 : Hid (Below w.heap.size w w4) := HB.out.trans (hb4.mono (by simp; omega))
      have HP4 : Hid _ := hp4
      have HR4 : Hid _ := hr4
      clear hb4 hp4 hr4
      go_wp2_with fail
      go_roundw
      case rel => exact ⟨j + 1, a4, c4, E, by omega, by go_num, rfl, HP4.out, HR4.out, HX.out.1, HX.out.2.1, HX.out.2.2, HB4.out⟩
      case measure => simp [intOf]; omega
    · have hji : ¬ (j : Int) < (l2.length : Int) := by omega
      have HF : Hid (D = betO s.data.toList l i k) := by
        show _ = _
        rw [← hbl, List.drop_eq_nil_of_le (by omega)]; rfl
      have HB : Hid (Below w.heap.size w wr) := hb
      have HPD : Hid _ := hpD
      have HRD : Hid _ := hrD
      clear hb hpD hrD hbl hsz hout
      go_wp2_with fail
      go_ret2
      rw [← HF.out]
      exact ⟨a', c', rfl, HPD.out, HRD.out, HB.out⟩

set_option maxRecDepth 20000 in
set_option maxHeartbeats 4000000 in
theorem Between_from1 (s : ByteArray) (a : Option Addr) (l : List Rv) (cap i k : Nat) (w : World) (hl : RevsAt w w.heap.size a l) (hc : l.length ≤ cap) (h0 : checkE s.data.toList l = 0) (hi : i ≤ k) (hk : k ≤ l.length) (hi0 : 0 < i) :
    Calls Try.prog 20 #[.string s, .slice a l.length cap, .int .i64 (i : Int), .int .i64 (k : Int)] w fun e w' => ∃ a' c', e = .returned (.tuple #[.slice a' (betO s.data.toList l i k).length c', .int .i64 0]) ∧ PartsAt w' w'.heap.size a' (betO s.data.toList l i k) ∧ Room a' (betO s.data.toList l i k) c' ∧ Below w.heap.size w w' := by
  have hsl : s.data.toList.length = s.size := Array.length_toList
  have hll := hl.1
  obtain ⟨z1, z2, z3⟩ := check_zero h0
  obtain ⟨l2, b2, hl2, hlen, hr2, hrun⟩ := run_mid hl hc hi hk
  have HC : Hid _ := fun w hh hs => RevCheck_any s a l cap w hh hs
  rw [h0] at HC
  have hti : (textAt s.data.toList l i).length ≤ 500 := text_le z3 z1 i
  have HL : Hid (RevsAt w w.heap.size a l) := hl
  have HR : Hid (RevsAt w w.heap.size b2 l2) := hr2
  have H2 : Hid (l2 = (l.take k).drop i) := hl2
  have HH : Hid (histE s.data.toList l = 0 ∧ s.data.toList.length ≤ 500) := ⟨z3, z1⟩
  have hs6 : s.size ≤ 500 := by omega
  have i0 : ¬ (i : Int) < 0 := by omega
  have i1 : ¬ (k : Int) < (i : Int) := by omega
  have k1 : ¬ (l.length : Int) < (k : Int) := by omega
  obtain ⟨n, hn⟩ : ∃ n : Int, n = ((textAt s.data.toList l i).length : Nat) := ⟨_, rfl⟩
  have HBW : Hid (betL (allN n) (l2.drop 0) = betO s.data.toList l i k) := by show _ = _; rw [hn, List.drop_zero, hl2]; exact bet_walk h0 hi hk
  have HAN : Hid (sizesE (allN n) = 0 ∧ outI (allN n) = ((textAt s.data.toList l (i + 0)).length : Nat)) := by
    obtain ⟨x1, x2, x3⟩ := all_facts (n := n) (by omega) (by omega)
    exact ⟨x1, by rw [x3, hn]; rfl⟩
  have hn0 : 0 ≤ n := by omega
  have hn5 : n ≤ 500 := by omega

  have i2 : 0 < (i : Int) := by omega
  obtain ⟨r0, hr0⟩ : ∃ r, l[i - 1]? = some r := ⟨l[i - 1]'(by omega), List.getElem?_eq_getElem _⟩
  have hso : sizesOut r0.d = n := by
    obtain ⟨q1, q2, q3, q4⟩ := hist_at z3 hr0
    rw [(sizes_zero q2).2.2, q4, hn, show i - 1 + 1 = i by omega]
  obtain ⟨g, og, a0, cc0, e0, hg, d1, d2, d3, hpd0, _⟩ := hl.mem hr0
  have im : ((i - 1 : Nat) : Int) = (i : Int) - 1 := by omega
  have im2 : ((i : Int) - 1).toNat = i - 1 := by omega
  have im0 : 0 ≤ (i : Int) - 1 := by omega
  have im1 : (i : Int) - 1 < (l.length : Int) := by omega
  subst e0
  have HM : Hid _ := fun w h => rmade_any r0 a0 cc0 w h
  rw [hso] at HM
  have HP0 : Hid (PartsAt w w.heap.size a0 r0.d) := hpd0
  clear hl hr2 hl2 h0 z1 z3 hti hn hsl hr0 hso hpd0
  go_enter Try.func20, Try.ntmps20
  go_wp2_with fail
  refine (HC.out _ HL.out (by omega)).mono ?_
  rintro e w1 ⟨rfl, hb1⟩
  have HB1 : Hid (Below w.heap.size w w1) := hb1
  have hz1 := hb1.size
  obtain ⟨y1, y2⟩ := held2 d1 d2 hb1 hg hg
  have y3 := (held2 d1 d3 hb1 hg hg).2
  clear hb1 d1 d2 d3
  go_wp2_with fail
  refine (HM.out _ (HP0.out.here HB1.out (Nat.le_refl _))).mono ?_
  rintro e w2 ⟨rfl, hb2⟩
  have HB2 : Hid (Below w.heap.size w w2) := HB1.out.trans (hb2.mono HB1.out.size)
  clear hb2 y1 y2 y3
  go_wp2_with fail
  refine (keepAll_any _ _ hn0 hn5).mono ?_
  rintro e w3 ⟨a3, c3, rfl, hp3, hr3, hb3⟩
  have HB3 : Hid (Below w.heap.size w w3) := HB2.out.trans (hb3.mono HB2.out.size)
  have HP3 : Hid (PartsAt w3 w3.heap.size a3 (allN n)) := hp3
  have HR3 : Hid (Room a3 (allN n) c3) := hr3
  clear hb3 hp3 hr3
  go_wp2_with fail
  go_loopw [12, 51] (fun v x wr => ∃ (j : Nat) (a' : Option Addr) (c' : Nat) (D : List Pt), j ≤ l2.length ∧ x = .int .i64 j ∧ v = .slice a' D.length c' ∧ PartsAt wr wr.heap.size a' D ∧ Room a' D c' ∧ betL D (l2.drop j) = betO s.data.toList l i k ∧ sizesE D = 0 ∧ outI D = ((textAt s.data.toList l (i + j)).length : Nat) ∧ Below w.heap.size w wr) (fun _ x _ => l2.length - (intOf x).toNat)
  case atStart => exact ⟨0, a3, c3, allN n, Nat.zero_le _, rfl, rfl, HP3.out, HR3.out, HBW.out, HAN.out.1, HAN.out.2, HB3.out⟩
  case round =>
    obtain ⟨j, a', c', D, hj, rfl, rfl, hpD, hrD, hbl, hsz, hout, hb⟩ := hrel
    by_cases hlt : j < l2.length
    · obtain ⟨r, hrj⟩ : ∃ r, l2[j]? = some r := ⟨l2[j], List.getElem?_eq_getElem hlt⟩
      have hrj' : l[i + j]? = some r := by
        rw [H2.out, List.getElem?_drop, List.getElem?_take] at hrj
        split at hrj
        · exact hrj
        · cases hrj
      have hji : (j : Int) < (l2.length : Int) := by omega
      obtain ⟨b, off, ai, ci, e2, hblt, c1, c2, c3', hpd, hrm⟩ := (HR.out.below hb (Nat.le_refl _)).mem hrj
      subst e2
      have hz := hb.size
      have hbw : b < wr.heap.size := by omega
      obtain ⟨q1, q2, q3, q4⟩ := hist_at HH.out.1 hrj'
      have hE : compE D r.d = 0 := comp_is hsz q2 (by rw [hout, q3])
      obtain ⟨x, _, _, f1, f2, f3, f4, _⟩ := comp_facts hE
      have HX : Hid (betL (compR D r.d) (l2.drop (j + 1)) = betO s.data.toList l i k ∧ sizesE (compR D r.d) = 0 ∧ outI (compR D r.d) = ((textAt s.data.toList l (i + (j + 1))).length : Nat)) := by
        rw [drop_rv hrj] at hbl
        refine ⟨hbl, by rw [f4]; exact f1, ?_⟩
        rw [f4, f3, q4]; rfl
      have hl0 : D.length ≤ c' := hrD.1
      have HB : Hid (Below w.heap.size w (wr.alloc (.cells #[.int .i64 r.who, .int .i64 r.seq, .slice ai r.d.length ci] 46))) := hb.alloc hz _
      have HD : Hid (PartsAt (wr.alloc (.cells #[.int .i64 r.who, .int .i64 r.seq, .slice ai r.d.length ci] 46)) (wr.alloc (.cells #[.int .i64 r.who, .int .i64 r.seq, .slice ai r.d.length ci] 46)).heap.size ai r.d) := hpd.here ((Below.refl _ wr).alloc (Nat.le_refl _) _) hz
      have HDD : Hid (PartsAt (wr.alloc (.cells #[.int .i64 r.who, .int .i64 r.seq, .slice ai r.d.length ci] 46)) (wr.alloc (.cells #[.int .i64 r.who, .int .i64 r.seq, .slice ai r.d.length ci] 46)).heap.size a' D) := hpD.here ((Below.refl _ wr).alloc (Nat.le_refl _) _) (Nat.le_refl _)
      have HCO : Hid _ := fun w h1 h2 => CompOf_any a' ai D r.d c' ci w h1 h2 hl0
      rw [hE] at HCO
      obtain ⟨E, hEE⟩ : ∃ E, compR D r.d = E := ⟨_, rfl⟩
      rw [hEE] at HCO HX
      clear hb hpd hrm hrj hrj' q1 q2 q3 q4 hE f1 f2 f3 f4 hEE hbl hsz hout hpD hrD
      go_wp2_with fail
      refine (HCO.out _ HDD.out HD.out).mono ?_
      rintro e w4 ⟨a4, c4, rfl, hp4, hr4, hb4⟩
      have HB4 : Hid (Below w.heap.size w w4) := HB.out.trans (hb4.mono (by simp; omega))
      have HP4 : Hid _ := hp4
      have HR4 : Hid _ := hr4
      clear hb4 hp4 hr4
      go_wp2_with fail
      go_roundw
      case rel => exact ⟨j + 1, a4, c4, E, by omega, by go_num, rfl, HP4.out, HR4.out, HX.out.1, HX.out.2.1, HX.out.2.2, HB4.out⟩
      case measure => simp [intOf]; omega
    · have hji : ¬ (j : Int) < (l2.length : Int) := by omega
      have HF : Hid (D = betO s.data.toList l i k) := by
        show _ = _
        rw [← hbl, List.drop_eq_nil_of_le (by omega)]; rfl
      have HB : Hid (Below w.heap.size w wr) := hb
      have HPD : Hid _ := hpD
      have HRD : Hid _ := hrD
      clear hb hpD hrD hbl hsz hout
      go_wp2_with fail
      go_ret2
      rw [← HF.out]
      exact ⟨a', c', rfl, HPD.out, HRD.out, HB.out⟩

set_option maxRecDepth 20000 in
set_option maxHeartbeats 2000000 in
theorem Between_any (s : ByteArray) (a : Option Addr) (l : List Rv) (cap : Nat) (i k : Int) (w : World) (hl : RevsAt w w.heap.size a l) (hc : l.length ≤ cap) (hs : s.size ≤ 9223372036854775807) :
    Calls Try.prog 20 #[.string s, .slice a l.length cap, .int .i64 i, .int .i64 k] w fun e w' => ∃ a' c', e = .returned (.tuple #[.slice a' (betR s.data.toList l i k).length c', .int .i64 (betE s.data.toList l i k)]) ∧ PartsAt w' w'.heap.size a' (betR s.data.toList l i k) ∧ Room a' (betR s.data.toList l i k) c' ∧ Below w.heap.size w w' := by
  have hll := hl.1
  have HL : Hid (RevsAt w w.heap.size a l) := hl
  by_cases h0 : checkE s.data.toList l = 0
  · by_cases hk : i < 0 ∨ k < i ∨ (l.length : Int) < k
    · obtain ⟨t1, t2⟩ := betE_arg h0 hk
      rw [t1, t2]
      have HC : Hid _ := fun w hh hs => RevCheck_any s a l cap w hh hs
      rw [h0] at HC
      clear t1 t2 h0 hl
      by_cases k0 : i < 0
      · clear hk
        go_enter Try.func20, Try.ntmps20
        go_wp2_with fail
        refine (HC.out _ HL.out hs).mono ?_
        rintro e w1 ⟨rfl, hb1⟩
        go_wp2_with fail
        go_ret2
        exact ⟨none, 0, rfl, ⟨by simp, Nat.le_refl _, by simp, by simp⟩, room_nil, hb1⟩
      · by_cases k1 : k < i
        · clear hk
          go_enter Try.func20, Try.ntmps20
          go_wp2_with fail
          refine (HC.out _ HL.out hs).mono ?_
          rintro e w1 ⟨rfl, hb1⟩
          go_wp2_with fail
          go_ret2
          exact ⟨none, 0, rfl, ⟨by simp, Nat.le_refl _, by simp, by simp⟩, room_nil, hb1⟩
        · have k2 : (l.length : Int) < k := by omega
          clear hk
          go_enter Try.func20, Try.ntmps20
          go_wp2_with fail
          refine (HC.out _ HL.out hs).mono ?_
          rintro e w1 ⟨rfl, hb1⟩
          go_wp2_with fail
          go_ret2
          exact ⟨none, 0, rfl, ⟨by simp, Nat.le_refl _, by simp, by simp⟩, room_nil, hb1⟩
    · obtain ⟨n, rfl⟩ : ∃ n : Nat, i = n := ⟨i.toNat, by omega⟩
      obtain ⟨m, rfl⟩ : ∃ m : Nat, k = m := ⟨k.toNat, by omega⟩
      obtain ⟨t1, t2⟩ := betE_ok (i := n) (k := m) h0 (by omega) (by omega)
      rw [t1, t2]
      rcases Nat.eq_zero_or_pos n with h | h
      · exact Between_from0 s a l cap n m w hl hc h0 (by omega) (by omega) h
      · exact Between_from1 s a l cap n m w hl hc h0 (by omega) (by omega) h
  · obtain ⟨t1, t2⟩ := betE_bad (i := i) (k := k) h0
    rw [t1, t2]
    have HC : Hid _ := fun w hh hs => RevCheck_any s a l cap w hh hs
    have hq : (checkE s.data.toList l != 0) = true := by simp [h0]
    clear t1 t2 h0 hl
    go_enter Try.func20, Try.ntmps20
    go_wp2_with fail
    refine (HC.out _ HL.out hs).mono ?_
    rintro e w1 ⟨rfl, hb1⟩
    go_wp2_with fail
    go_ret2
    exact ⟨none, 0, rfl, ⟨by simp, Nat.le_refl _, by simp, by simp⟩, room_nil, hb1⟩
theorem Between_ok (s : ByteArray) (a : Option Addr) (l : List Rv) (cap i k : Nat) (w : World) (hl : RevsAt w w.heap.size a l) (hc : l.length ≤ cap) (h0 : checkE s.data.toList l = 0) (hi : i ≤ k) (hk : k ≤ l.length) :
    Calls Try.prog 20 #[.string s, .slice a l.length cap, .int .i64 (i : Int), .int .i64 (k : Int)] w fun e w' => ∃ a' c', e = .returned (.tuple #[.slice a' (betO s.data.toList l i k).length c', .int .i64 0]) ∧ PartsAt w' w'.heap.size a' (betO s.data.toList l i k) ∧ Room a' (betO s.data.toList l i k) c' ∧ Below w.heap.size w w' := by
  rcases Nat.eq_zero_or_pos i with h | h
  · exact Between_from0 s a l cap i k w hl hc h0 hi hk h
  · exact Between_from1 s a l cap i k w hl hc h0 hi hk h
end Go.Proofs.Ytinhidddfpjjkab
