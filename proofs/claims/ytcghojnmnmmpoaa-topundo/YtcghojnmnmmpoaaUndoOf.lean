/- What undo.past and undo.Of answer. -/
import Derived.Test.YtcghojnmnmmpoaaRevL
import Derived.Test.YtcghojnmnmmpoaaRevText
import Derived.Test.YtcghojnmnmmpoaaTurned
import Derived.Test.YtcghojnmnmmpoaaMeetOf
namespace Go.Proofs.Ytcghojnmnmmpoaa
open Go.RowKit
set_option linter.unusedSimpArgs false
set_option linter.unusedVariables false

set_option maxRecDepth 20000 in
set_option maxHeartbeats 2000000 in
theorem past_any (a b : Option Addr) (l : List Rv) (d : List Pt) (ca cb : Nat) (w : World) (hl : RevsAt w w.heap.size a l) (hd : PartsAt w w.heap.size b d) (hr : Room b d cb) :
    Calls Try.prog 69 #[.slice a l.length ca, .slice b d.length cb] w fun e w' => ∃ a' c', e = .returned (.tuple #[.slice a' (undoF d l).1.length c', .int .i64 (undoF d l).2]) ∧ PartsAt w' w'.heap.size a' (undoF d l).1 ∧ Room a' (undoF d l).1 c' ∧ Below w.heap.size w w' := by
  have hll := hl.1
  have HL : Hid (RevsAt w w.heap.size a l) := hl
  have HP : Hid (PartsAt w w.heap.size b d) := hd
  have HR : Hid (Room b d cb) := hr
  obtain ⟨U, HU⟩ : ∃ U, Hid (undoF d l = U) := ⟨_, rfl⟩
  rw [HU.out]
  clear hl hd hr
  go_enter Try.func69, Try.ntmps69
  go_wp2_with fail
  go_loopw [1, 13] (fun v x wr => ∃ (j : Nat) (a' : Option Addr) (c' : Nat) (D : List Pt), j ≤ l.length ∧ x = .int .i64 j ∧ v = .slice a' D.length c' ∧ PartsAt wr wr.heap.size a' D ∧ Room a' D c' ∧ undoF D (l.drop j) = U ∧ Below w.heap.size w wr) (fun _ x _ => l.length - (intOf x).toNat)
  case atStart => exact ⟨0, b, cb, d, Nat.zero_le _, rfl, rfl, HP.out, HR.out, HU.out, Below.refl _ _⟩
  case round =>
    obtain ⟨j, a', c', D, hj, rfl, rfl, hpD, hrD, hun, hb⟩ := hrel
    by_cases hlt : j < l.length
    · obtain ⟨r, hrj⟩ : ∃ r, l[j]? = some r := ⟨l[j], List.getElem?_eq_getElem hlt⟩
      have hji : (j : Int) < (l.length : Int) := by omega
      obtain ⟨g, off, ai, ci, e2, hblt, c1, c2, c3', hpd, hrm⟩ := (HL.out.below hb (Nat.le_refl _)).mem hrj
      subst e2
      have hz := hb.size
      have hbw : g < wr.heap.size := by omega
      have HX : Hid (undoF D (r :: l.drop (j + 1)) = U) := by show _ = _; rw [← drop_rv hrj]; exact hun
      have HB : Hid (Below w.heap.size w (wr.alloc (.cells #[.int .i64 r.who, .int .i64 r.seq, .slice ai r.d.length ci] 27))) := hb.alloc hz _
      have HD : Hid (PartsAt (wr.alloc (.cells #[.int .i64 r.who, .int .i64 r.seq, .slice ai r.d.length ci] 27)) (wr.alloc (.cells #[.int .i64 r.who, .int .i64 r.seq, .slice ai r.d.length ci] 27)).heap.size ai r.d) := hpd.here ((Below.refl _ wr).alloc (Nat.le_refl _) _) hz
      have HDD : Hid (PartsAt (wr.alloc (.cells #[.int .i64 r.who, .int .i64 r.seq, .slice ai r.d.length ci] 27)) (wr.alloc (.cells #[.int .i64 r.who, .int .i64 r.seq, .slice ai r.d.length ci] 27)).heap.size a' D) := hpD.here ((Below.refl _ wr).alloc (Nat.le_refl _) _) (Nat.le_refl _)
      have HM : Hid _ := fun w h1 h2 => MeetOf_any ai a' r.d D ci c' w h1 h2
      obtain ⟨E, hEE⟩ : ∃ E, meetR r.d D = E := ⟨_, rfl⟩
      obtain ⟨F, hFF⟩ : ∃ F, meetL r.d D = F := ⟨_, rfl⟩
      obtain ⟨me, hme⟩ : ∃ me, meetE r.d D = me := ⟨_, rfl⟩
      have HX : Hid ((if me = 0 then undoF E (l.drop (j + 1)) else ([], me)) = U) := by show _ = _; rw [← HX.out, undoF, hme, hEE]
      rw [hEE, hFF, hme] at HM
      clear hb hpd hrm hrj hEE hFF hme hun hpD hrD
      go_wp2_with fail
      refine (HM.out _ HD.out HDD.out).mono ?_
      rintro e w4 ⟨x4, cx4, a4, c4, rfl, hpx, hrx, hp4, hr4, hb4⟩
      have HB4 : Hid (Below w.heap.size w w4) := HB.out.trans (hb4.mono (by simp; omega))
      have HP4 : Hid (PartsAt w4 w4.heap.size a4 E) := hp4
      have HR4 : Hid (Room a4 E c4) := hr4
      clear hb4 hp4 hr4 hpx hrx
      by_cases hm : me = 0
      · have hm' : (me != 0) = false := by simp [hm]
        have HX : Hid (undoF E (l.drop (j + 1)) = U) := by show _ = _; rw [← HX.out, if_pos hm]
        clear hm
        go_wp2_with fail
        go_roundw
        case rel => exact ⟨j + 1, a4, c4, E, by omega, by go_num, rfl, HP4.out, HR4.out, HX.out, HB4.out⟩
        case measure => simp [intOf]; omega
      · have hm' : (me != 0) = true := by simp [hm]
        have HX : Hid (([], me) = U) := by show _ = _; rw [← HX.out, if_neg hm]
        clear hm
        go_wp2_with fail
        go_ret2
        rw [← HX.out]
        exact ⟨none, 0, rfl, ⟨by simp, Nat.le_refl _, by simp, by simp⟩, room_nil, HB4.out⟩
    · have hji : ¬ (j : Int) < (l.length : Int) := by omega
      have HF : Hid ((D, 0) = U) := by
        show _ = _
        rw [← hun, List.drop_eq_nil_of_le (by omega)]; rfl
      have HB : Hid (Below w.heap.size w wr) := hb
      have HPD : Hid (PartsAt wr wr.heap.size a' D) := hpD
      have HRD : Hid (Room a' D c') := hrD
      clear hb hpD hrD hun
      go_wp2_with fail
      go_ret2
      rw [← HF.out]
      exact ⟨a', c', rfl, HPD.out, HRD.out, HB.out⟩

set_option maxRecDepth 20000 in
set_option maxHeartbeats 2000000 in
/-- of a history that is right -/
theorem UndoOf_ok (s : ByteArray) (a : Option Addr) (l : List Rv) (cap k : Nat) (w : World) (hl : RevsAt w w.heap.size a l) (hc : l.length ≤ cap) (h0 : checkE s.data.toList l = 0) (hk0 : 1 ≤ k) (hk : k ≤ l.length) :
    Calls Try.prog 30 #[.string s, .slice a l.length cap, .int .i64 (k : Int)] w fun e w' => ∃ a' c', e = .returned (.tuple #[.slice a' (undoD s.data.toList l k).1.length c', .int .i64 (undoD s.data.toList l k).2]) ∧ PartsAt w' w'.heap.size a' (undoD s.data.toList l k).1 ∧ Room a' (undoD s.data.toList l k).1 c' ∧ Below w.heap.size w w' := by
  have hsl : s.data.toList.length = s.size := Array.length_toList
  have hll := hl.1
  obtain ⟨z1, z2, z3⟩ := check_zero h0
  obtain ⟨l2, b2, hl2, hlen, hlc, hr2, hrun⟩ := run_from hl hc hk
  obtain ⟨r0, hr0⟩ : ∃ r, l[k - 1]? = some r := ⟨l[k - 1]'(by omega), List.getElem?_eq_getElem _⟩
  obtain ⟨g, og, a0, cc0, e0, hg, d1, d2, d3, hpd0, _⟩ := hl.mem hr0
  obtain ⟨q1, q2, q3, q4⟩ := hist_at z3 hr0
  have hti : (textAt s.data.toList l (k - 1)).length ≤ 500 := text_le z3 z1 _
  have HC : Hid _ := fun w hh hs => RevCheck_any s a l cap w hh hs
  rw [h0] at HC
  have HT : Hid _ := fun w hh => Text_ok s a l cap (k - 1) w hh hc h0 (by omega)
  obtain ⟨t, ht⟩ : ∃ t : ByteArray, (⟨(textAt s.data.toList l (k - 1)).toArray⟩ : ByteArray) = t := ⟨_, rfl⟩
  have hts : t.size = (textAt s.data.toList l (k - 1)).length := by rw [← ht]; rfl
  have htl : t.data.toList = textAt s.data.toList l (k - 1) := by rw [← ht]
  rw [ht] at HT
  have hfit : fitsE r0.d (t.size : Nat) = 0 := fits_of q2 (by rw [q3, hts])
  have HTu : Hid (∀ w : World, PartsAt w w.heap.size a0 r0.d → Calls Try.prog 68 #[.slice a0 r0.d.length cc0, .string t] w fun e w' => ∃ a' c', e = .returned (.tuple #[.slice a' (turnR r0.d t).length c', .int .i64 0]) ∧ PartsAt w' w'.heap.size a' (turnR r0.d t) ∧ Room a' (turnR r0.d t) c' ∧ Below w.heap.size w w') := by
    intro w hw
    have h := TurnOf_any a0 r0.d cc0 t w hw (by omega)
    rw [hfit] at h
    exact h
  have hun : undoD s.data.toList l k = undoF (turnR r0.d t) l2 := by rw [undoD_at hr0, turnR, if_pos hfit, htl, hl2]
  obtain ⟨U, hU⟩ : ∃ U, turnR r0.d t = U := ⟨_, rfl⟩
  rw [hU] at HTu hun
  rw [hun]
  have HPa : Hid _ := fun (b : Option Addr) (cb : Nat) w h1 h2 h3 => past_any b2 b l2 U (cap - k) cb w h1 h2 h3
  obtain ⟨V, hV⟩ : ∃ V, undoF U l2 = V := ⟨_, rfl⟩
  rw [hV] at HPa ⊢
  have im : ((k - 1 : Nat) : Int) = (k : Int) - 1 := by omega
  have im2 : ((k : Int) - 1).toNat = k - 1 := by omega
  have im0 : 0 ≤ (k : Int) - 1 := by omega
  have im1 : (k : Int) - 1 < (l.length : Int) := by omega
  rw [im] at HT
  have k0 : ¬ (k : Int) < 1 := by omega
  have k1 : ¬ (l.length : Int) < (k : Int) := by omega
  subst e0
  have HL : Hid (RevsAt w w.heap.size (some ⟨g, og, none⟩) l) := hl
  have HR : Hid (RevsAt w w.heap.size b2 l2) := hr2
  have HP0 : Hid (PartsAt w w.heap.size a0 r0.d) := hpd0
  have hs6 : s.size ≤ 500 := by omega
  clear hl hr2 hl2 h0 z1 z3 hti hsl hr0 hpd0 q1 q2 q3 q4 ht hts htl hfit hun hU hV hlen hlc
  go_enter Try.func30, Try.ntmps30
  go_wp2_with fail
  refine (HC.out _ HL.out (by omega)).mono ?_
  rintro e w1 ⟨rfl, hb1⟩
  have HB1 : Hid (Below w.heap.size w w1) := hb1
  clear hb1
  go_wp2_with fail
  refine (HT.out _ (HL.out.here HB1.out (Nat.le_refl _))).mono ?_
  rintro e w2 ⟨rfl, hb2⟩
  have HB2 : Hid (Below w.heap.size w w2) := HB1.out.trans (hb2.mono HB1.out.size)
  have hz2 := HB2.out.size
  obtain ⟨y1, y2⟩ := held2 d1 d2 HB2.out hg hg
  have y3 := (held2 d1 d3 HB2.out hg hg).2
  clear hb2 d1 d2 d3
  go_wp2_with fail
  refine (HTu.out _ (HP0.out.here HB2.out (Nat.le_refl _))).mono ?_
  rintro e w3 ⟨a3, c3, rfl, hp3, hr3, hb3⟩
  have HB3 : Hid (Below w.heap.size w w3) := HB2.out.trans (hb3.mono HB2.out.size)
  have HP3 : Hid (PartsAt w3 w3.heap.size a3 U) := hp3
  have HR3 : Hid (Room a3 U c3) := hr3
  clear hb3 hp3 hr3 y1 y2 y3
  go_wp2_with fail
  refine (HPa.out a3 c3 _ (HR.out.here HB3.out (Nat.le_refl _)) HP3.out HR3.out).mono ?_
  rintro e w4 ⟨a4, c4, rfl, hp4, hr4, hb4⟩
  have HB4 : Hid (Below w.heap.size w w4) := HB3.out.trans (hb4.mono HB3.out.size)
  have HP4 : Hid (PartsAt w4 w4.heap.size a4 V.1) := hp4
  have HR4 : Hid (Room a4 V.1 c4) := hr4
  clear hb4 hp4 hr4
  go_wp2_with fail
  go_ret2
  exact ⟨a4, c4, rfl, HP4.out, HR4.out, HB4.out⟩

/-- which error, and which answer -/
def undoA (s : List UInt8) (l : List Rv) (k : Int) : List Pt × Int := if checkE s l = 0 then (if k < 1 ∨ (l.length : Int) < k then ([], 1) else undoD s l k.toNat) else ([], checkE s l)
theorem undoA_ok {s : List UInt8} {l : List Rv} {k : Nat} (h : checkE s l = 0) (h1 : 1 ≤ k) (h2 : k ≤ l.length) : undoA s l k = undoD s l k := by rw [undoA, if_pos h, if_neg (by omega)]; rfl
theorem undoA_zero {s : List UInt8} {l : List Rv} {k : Int} (h : (undoA s l k).2 = 0) : checkE s l = 0 ∧ ∃ n : Nat, k = n ∧ 1 ≤ n ∧ n ≤ l.length ∧ undoA s l k = undoD s l n := by
  by_cases h0 : checkE s l = 0
  · by_cases hk : k < 1 ∨ (l.length : Int) < k
    · rw [undoA, if_pos h0, if_pos hk] at h; cases h
    · obtain ⟨n, rfl⟩ : ∃ n : Nat, k = n := ⟨k.toNat, by omega⟩
      exact ⟨h0, n, rfl, by omega, by omega, undoA_ok h0 (by omega) (by omega)⟩
  · rw [undoA, if_neg h0] at h; exact absurd h h0
theorem undoA_not {s : List UInt8} {l : List Rv} {k : Int} (h : (undoA s l k).2 ≠ 0) : (undoA s l k).1 = [] := by
  by_cases h0 : checkE s l = 0
  · by_cases hk : k < 1 ∨ (l.length : Int) < k
    · rw [undoA, if_pos h0, if_pos hk]
    · obtain ⟨n, rfl⟩ : ∃ n : Nat, k = n := ⟨k.toNat, by omega⟩
      rw [undoA_ok h0 (by omega) (by omega)] at h ⊢
      rcases undo_says (check_zero h0).2.2 (k := n) (by omega) (by omega) with hu | hu
      · exact absurd hu.1 h
      · exact hu.2
  · rw [undoA, if_neg h0]

set_option maxRecDepth 20000 in
set_option maxHeartbeats 2000000 in
theorem UndoOf_any (s : ByteArray) (a : Option Addr) (l : List Rv) (cap : Nat) (k : Int) (w : World) (hl : RevsAt w w.heap.size a l) (hc : l.length ≤ cap) (hs : s.size ≤ 9223372036854775807) :
    Calls Try.prog 30 #[.string s, .slice a l.length cap, .int .i64 k] w fun e w' => ∃ a' c', e = .returned (.tuple #[.slice a' (undoA s.data.toList l k).1.length c', .int .i64 (undoA s.data.toList l k).2]) ∧ PartsAt w' w'.heap.size a' (undoA s.data.toList l k).1 ∧ Room a' (undoA s.data.toList l k).1 c' ∧ Below w.heap.size w w' := by
  have hll := hl.1
  have HL : Hid (RevsAt w w.heap.size a l) := hl
  have HC : Hid _ := fun w hh hs => RevCheck_any s a l cap w hh hs
  by_cases h0 : checkE s.data.toList l = 0
  · by_cases hk : k < 1 ∨ (l.length : Int) < k
    · have t1 : undoA s.data.toList l k = ([], 1) := by rw [undoA, if_pos h0, if_pos hk]
      rw [t1]
      rw [h0] at HC
      clear t1 h0 hl
      by_cases k0 : k < 1
      · clear hk
        go_enter Try.func30, Try.ntmps30
        go_wp2_with fail
        refine (HC.out _ HL.out hs).mono ?_
        rintro e w1 ⟨rfl, hb1⟩
        go_wp2_with fail
        go_ret2
        exact ⟨none, 0, rfl, ⟨by simp, Nat.le_refl _, by simp, by simp⟩, room_nil, hb1⟩
      · have k1 : (l.length : Int) < k := by omega
        clear hk
        go_enter Try.func30, Try.ntmps30
        go_wp2_with fail
        refine (HC.out _ HL.out hs).mono ?_
        rintro e w1 ⟨rfl, hb1⟩
        go_wp2_with fail
        go_ret2
        exact ⟨none, 0, rfl, ⟨by simp, Nat.le_refl _, by simp, by simp⟩, room_nil, hb1⟩
    · obtain ⟨n, rfl⟩ : ∃ n : Nat, k = n := ⟨k.toNat, by omega⟩
      rw [undoA_ok h0 (by omega) (by omega)]
      exact UndoOf_ok s a l cap n w hl hc h0 (by omega) (by omega)
  · have t1 : undoA s.data.toList l k = ([], checkE s.data.toList l) := by rw [undoA, if_neg h0]
    rw [t1]
    have hq : (checkE s.data.toList l != 0) = true := by simp [h0]
    clear t1 h0 hl
    go_enter Try.func30, Try.ntmps30
    go_wp2_with fail
    refine (HC.out _ HL.out hs).mono ?_
    rintro e w1 ⟨rfl, hb1⟩
    go_wp2_with fail
    go_ret2
    exact ⟨none, 0, rfl, ⟨by simp, Nat.le_refl _, by simp, by simp⟩, room_nil, hb1⟩
end Go.Proofs.Ytcghojnmnmmpoaa
