/- What the document's own Undo answers of a history that is right. -/
import Derived.Test.YtndhamcipbecfaaRevL
import Derived.Test.YtndhamcipbecfaaRTexts
import Derived.Test.YtndhamcipbecfaaRTurn
import Derived.Test.YtndhamcipbecfaaRMeet
import Derived.Test.YtndhamcipbecfaaRevText
namespace Go.Proofs.Ytndhamcipbecfaa
open Go.RowKit
set_option linter.unusedSimpArgs false
set_option linter.unusedVariables false

set_option maxRecDepth 20000 in
set_option maxHeartbeats 4000000 in
theorem RUndo_any (s : ByteArray) (a : Option Addr) (l : List Rv) (cap k : Nat) (w : World) (hl : RevsAt w w.heap.size a l) (hc : l.length ≤ cap) (h0 : checkE s.data.toList l = 0) (hk0 : 1 ≤ k) (hk : k ≤ l.length) :
    Calls Try.prog 11 #[.string s, .slice a l.length cap, .int .i64 (k : Int)] w fun e w' => ∃ a' c', e = .returned (.tuple #[.slice a' (undoD s.data.toList l k).1.length c', .int .i64 (undoD s.data.toList l k).2]) ∧ PartsAt w' w'.heap.size a' (undoD s.data.toList l k).1 ∧ Below w.heap.size w w' := by
  have hsl : s.data.toList.length = s.size := Array.length_toList
  have hll := hl.1
  obtain ⟨z1, z2, z3⟩ := check_zero h0
  obtain ⟨l2, b2, hl2, hlen, hlc, hr2, hrun⟩ := run_from hl hc hk
  obtain ⟨m, hm⟩ : ∃ m : Nat, k - 1 = m := ⟨_, rfl⟩
  obtain ⟨r0, hr0⟩ : ∃ r, l[k - 1]? = some r := ⟨l[k - 1]'(by omega), List.getElem?_eq_getElem _⟩
  obtain ⟨g, og, a0, cc0, e0, hg, d1, d2, d3, hpd0, _⟩ := hl.mem hr0
  obtain ⟨q1, q2, q3, q4⟩ := hist_at z3 hr0
  have hti : (textAt s.data.toList l (k - 1)).length ≤ 500 := text_le z3 z1 _
  have HT : Hid _ := fun w hh => RTexts_any s a l cap w hh (by omega)
  rw [h0] at HT
  have HTR : Hid (textsR s.data.toList l = textsB s.data.toList l (l.length + 1)) := by show _ = _; rw [textsR, if_pos h0]
  obtain ⟨t, ht⟩ : ∃ t : ByteArray, (⟨(textAt s.data.toList l (k - 1)).toArray⟩ : ByteArray) = t := ⟨_, rfl⟩
  have hts : t.size = (textAt s.data.toList l (k - 1)).length := by rw [← ht]; rfl
  have htl : t.data.toList = textAt s.data.toList l (k - 1) := by rw [← ht]
  have hfit : fitsE r0.d (t.size : Nat) = 0 := fits_of q2 (by rw [q3, hts])
  have HTu : Hid (∀ w : World, PartsAt w w.heap.size a0 r0.d → Calls Try.prog 30 #[.slice a0 r0.d.length cc0, .string t] w fun e w' => ∃ a' c', e = .returned (.tuple #[.slice a' (turnR r0.d t).length c', .int .i64 0]) ∧ PartsAt w' w'.heap.size a' (turnR r0.d t) ∧ Below w.heap.size w w') := by
    intro w hw
    have h := RTurn_any a0 r0.d cc0 t w hw (by omega)
    rw [hfit] at h
    exact h
  have hun : undoD s.data.toList l k = undoF (turnR r0.d t) l2 := by rw [undoD_at hr0, turnR, if_pos hfit, htl, hl2]
  obtain ⟨T, hU⟩ : ∃ T, turnR r0.d t = T := ⟨_, rfl⟩
  rw [hU] at HTu hun
  rw [hun]
  obtain ⟨U, HU⟩ : ∃ U, Hid (undoF T l2 = U) := ⟨_, rfl⟩
  rw [HU.out]
  have HAT : Hid (((textsB s.data.toList l (l.length + 1)).map Value.string)[k - 1]? = some (.string t)) := by show _ = _; rw [← ht]; exact textsB_at s.data.toList l (by omega)
  rw [hm] at HAT d1 d2 d3
  have im0 : (0 : Int) ≤ (m : Int) := by omega
  have im1 : (m : Int) < (l.length : Int) := by omega
  have im3 : (m : Int) < (l.length : Int) + 1 := by omega
  have im4 : IntKind.i64.wrap ((k : Int) - 1) = (m : Int) := by rw [show (k : Int) - 1 = (m : Int) by omega]; exact IntWalk.i64_in _ ⟨by omega, by omega⟩
  have hl2l : l2.length ≤ 64 := by omega
  subst e0
  have HL : Hid (RevsAt w w.heap.size (some ⟨g, og, none⟩) l) := hl
  have HR : Hid (RevsAt w w.heap.size b2 l2) := hr2
  have HP0 : Hid (PartsAt w w.heap.size a0 r0.d) := hpd0
  have hs6 : s.size ≤ 500 := by omega
  clear hl hr2 hl2 h0 z1 z3 hti hsl hr0 hpd0 q1 q2 q3 q4 ht hts htl hfit hun hU hlen hlc hm
  go_enter Try.func11, Try.ntmps11
  go_wp2_with fail
  refine (HT.out _ HL.out).mono ?_
  rintro e w1 ⟨v, rfl, hown, hb1⟩
  rw [HTR.out, textsB_len] at hown
  obtain ⟨gt, cg, rfl, hgc, hgl⟩ := own_at hown HAT.out
  have HB1 : Hid (Below w.heap.size w w1) := hb1
  have hz1 := hb1.size
  have y3 := (held2 d1 d3 hb1 hg hg).2
  have hg1 : g < w1.heap.size := by omega
  have HPd : Hid (PartsAt w1.drew w1.drew.heap.size a0 r0.d) := HP0.out.here HB1.out.drew (Nat.le_refl _)
  clear hb1 hown d1 d2 d3
  go_wp2_with fail
  go_region_held3 (fun w' => w'.cell? ⟨g, og + m * 3 + 2, none⟩ = some (.slice a0 r0.d.length cc0) ∧ w'.cell? ⟨gt, m, none⟩ = some (.string t)) (first | go_keep | exact held2 (w := w1.drew) y3 hgc hb3 hg1 hgl) (first | (go_at_call 30; refine (HTu.out _ HPd.out).mono ?_; rintro e w3 ⟨a3, c3, rfl, hp3, hb3⟩))
  all_goals
    have HB3 : Hid (Below w.heap.size w w3) := HB1.out.drew.trans (hb3.mono HB1.out.size)
    have HP3 : Hid (PartsAt w3 w3.heap.size a3 T) := hp3
    clear hb3 hp3 hgc y3
    go_wp2_with fail
    go_loopw [10, 11, 39] (fun v ev x wr => ∃ (j : Nat) (a' : Option Addr) (c' : Nat) (D : List Pt) (E : Int), j ≤ l2.length ∧ x = .int .i64 j ∧ v = .slice a' D.length c' ∧ ev = .int .i64 E ∧ PartsAt wr wr.heap.size a' D ∧ ((E = 0 ∧ undoF D (l2.drop j) = U) ∨ (E ≠ 0 ∧ (D, E) = U)) ∧ Below w.heap.size w wr) (fun _ _ x _ => l2.length - (intOf x).toNat)
    case atStart => exact ⟨0, a3, c3, T, 0, Nat.zero_le _, rfl, rfl, rfl, HP3.out, .inl ⟨rfl, HU.out⟩, HB3.out⟩
    case round =>
      obtain ⟨j, a', c', D, E, hj, rfl, rfl, rfl, hpD, hun, hb⟩ := hrel
      by_cases hlt : j < l2.length
      · obtain ⟨r, hrj⟩ : ∃ r, l2[j]? = some r := ⟨l2[j], List.getElem?_eq_getElem hlt⟩
        have hji : (j : Int) < (l2.length : Int) := by omega
        obtain ⟨g2, off, ai, ci, e2, hblt, c1, c2, c3', hpd, hrm⟩ := (HR.out.below hb (Nat.le_refl _)).mem hrj
        subst e2
        have hz := hb.size
        have hbw : g2 < wr.heap.size := by omega
        have HB : Hid (Below w.heap.size w (wr.alloc (.cells #[.int .i64 r.who, .int .i64 r.seq, .slice ai r.d.length ci] 40))) := hb.alloc hz _
        have HDD : Hid (PartsAt (wr.alloc (.cells #[.int .i64 r.who, .int .i64 r.seq, .slice ai r.d.length ci] 40)) (wr.alloc (.cells #[.int .i64 r.who, .int .i64 r.seq, .slice ai r.d.length ci] 40)).heap.size a' D) := hpD.here ((Below.refl _ wr).alloc (Nat.le_refl _) _) (Nat.le_refl _)
        by_cases hE : E = 0
        · have HX : Hid (undoF D (r :: l2.drop (j + 1)) = U) := by
            show _ = _
            rw [← drop_rv hrj]
            rcases hun with h | h
            · exact h.2
            · exact absurd hE h.1
          have hE' : (E == 0) = true := by simp [hE]
          have HD : Hid (PartsAt (wr.alloc (.cells #[.int .i64 r.who, .int .i64 r.seq, .slice ai r.d.length ci] 40)) (wr.alloc (.cells #[.int .i64 r.who, .int .i64 r.seq, .slice ai r.d.length ci] 40)).heap.size ai r.d) := hpd.here ((Below.refl _ wr).alloc (Nat.le_refl _) _) hz
          have HM : Hid _ := fun w h1 h2 => RMeet_any ai a' r.d D ci c' w h1 h2
          have HY : Hid ((meetE r.d D = 0 ∧ undoF (meetR r.d D) (l2.drop (j + 1)) = U) ∨ (meetE r.d D ≠ 0 ∧ (meetR r.d D, meetE r.d D) = U)) := by
            show _ ∨ _
            rw [← HX.out, undoF]
            by_cases hm : meetE r.d D = 0
            · exact .inl ⟨hm, by rw [if_pos hm]⟩
            · exact .inr ⟨hm, by rw [if_neg hm, meetR, if_neg hm]⟩
          obtain ⟨Q, hQ⟩ : ∃ Q, meetR r.d D = Q := ⟨_, rfl⟩
          obtain ⟨F, hF⟩ : ∃ F, meetL r.d D = F := ⟨_, rfl⟩
          obtain ⟨me, hme⟩ : ∃ me, meetE r.d D = me := ⟨_, rfl⟩
          rw [hQ, hF, hme] at HM
          rw [hQ, hme] at HY
          clear hb hpd hrm hrj hQ hF hme hun hpD hE HX
          go_wp2_with fail
          refine (HM.out _ HD.out HDD.out).mono ?_
          rintro e w4 ⟨x4, cx4, a4, c4, rfl, hpx, hp4, hb4⟩
          have HB4 : Hid (Below w.heap.size w w4) := HB.out.trans (hb4.mono (by simp; omega))
          have HP4 : Hid (PartsAt w4 w4.heap.size a4 Q) := hp4
          clear hb4 hp4 hpx
          go_wp2_with fail
          go_roundw
          case rel => exact ⟨j + 1, a4, c4, Q, me, by omega, by go_num, rfl, rfl, HP4.out, HY.out, HB4.out⟩
          case measure => simp [intOf]; omega
        · have HY : Hid ((E = 0 ∧ undoF D (l2.drop (j + 1)) = U) ∨ (E ≠ 0 ∧ (D, E) = U)) := by
            rcases hun with h | h
            · exact absurd h.1 hE
            · exact .inr h
          have hE' : (E == 0) = false := by simp [hE]
          clear hb hpd hrm hrj hun hpD hE
          go_wp2_with fail
          go_roundw
          case rel => exact ⟨j + 1, a', c', D, E, by omega, by go_num, rfl, rfl, HDD.out, HY.out, HB.out⟩
          case measure => simp [intOf]; omega
      · have hji : ¬ (j : Int) < (l2.length : Int) := by omega
        have HF : Hid ((D, E) = U) := by
          show _ = _
          rcases hun with h | h
          · rw [← h.2, h.1, List.drop_eq_nil_of_le (by omega)]; rfl
          · exact h.2
        have HB : Hid (Below w.heap.size w wr) := hb
        have HPD : Hid (PartsAt wr wr.heap.size a' D) := hpD
        clear hb hpD hun
        go_wp2_with fail
        go_ret2
        rw [← HF.out]
        first | exact ⟨a', c', rfl, HPD.out, HB.out⟩ | exact ⟨a', ⟨c', rfl⟩, HPD.out, HB.out⟩
end Go.Proofs.Ytndhamcipbecfaa
