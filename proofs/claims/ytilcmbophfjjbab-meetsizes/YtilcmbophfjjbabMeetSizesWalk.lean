/- The law MeetSizes, walked: it answers true. -/
import Derived.Test.YtilcmbophfjjbabMeetKit
import Derived.Test.YtilcmbophfjjbabPuts
namespace Go.Proofs.Ytilcmbophfjjbab
open Go.RowKit
set_option linter.unusedSimpArgs false
set_option linter.unusedVariables false

set_option maxRecDepth 100000 in
set_option maxHeartbeats 8000000 in
theorem MeetSizes_any (a : Option Addr) (la : List Pt) (ca : Nat) (b : Option Addr) (lb : List Pt) (cb : Nat) (w : World) (h_a : PartsAt w w.heap.size a la) (h_b : PartsAt w w.heap.size b lb) (k_a : la.length ≤ ca) (k_b : lb.length ≤ cb)   :
    Calls Try.prog 5 #[.slice a la.length ca, .slice b lb.length cb] w fun e w' => e = .returned (.bool true) ∧ Below w.heap.size w w' := by
  have HE0 : Hid (Below w.heap.size w w) := Below.refl _ _
  have H0_a : Hid (PartsAt w w.heap.size a la) := h_a
  have H0_b : Hid (PartsAt w w.heap.size b lb) := h_b
  clear h_a h_b
  go_enter Try.func5, Try.ntmps5
  go_wp2_with fail
  refine (put_any ⟨#[97]⟩ _ (by decide)).mono ?_
  rintro e w1 ⟨rfl, h0, hb⟩
  have HE1 : Hid (Below w.heap.size w w1) := HE0.out.trans (hb.mono HE0.out.size)
  have H1_a : Hid (PartsAt w1 w1.heap.size a (la)) := H0_a.out.here hb (Nat.le_refl _)
  have H1_b : Hid (PartsAt w1 w1.heap.size b (lb)) := H0_b.out.here hb (Nat.le_refl _)
  have H1_p : Hid (PartsAt w1 w1.heap.size (some ⟨w.heap.size, 0, none⟩) ([putP ⟨#[97]⟩])) := h0
  clear hb h0
  go_wp2_with fail
  refine (put_any ⟨#[98]⟩ _ (by decide)).mono ?_
  rintro e w2 ⟨rfl, h0, hb⟩
  have HE2 : Hid (Below w.heap.size w w2) := HE1.out.trans (hb.mono HE1.out.size)
  have H2_a : Hid (PartsAt w2 w2.heap.size a (la)) := H1_a.out.here hb (Nat.le_refl _)
  have H2_b : Hid (PartsAt w2 w2.heap.size b (lb)) := H1_b.out.here hb (Nat.le_refl _)
  have H2_p : Hid (PartsAt w2 w2.heap.size (some ⟨w.heap.size, 0, none⟩) ([putP ⟨#[97]⟩])) := H1_p.out.here hb (Nat.le_refl _)
  have H2_q : Hid (PartsAt w2 w2.heap.size (some ⟨w1.heap.size, 0, none⟩) ([putP ⟨#[98]⟩])) := h0
  clear hb h0
  go_wp2_with fail
  refine (meet_n litMab (some ⟨w.heap.size, 0, none⟩) (some ⟨w1.heap.size, 0, none⟩) 1 1 _ H2_p.out H2_q.out 1 1 2 2 (by rfl) (by rfl) (by rfl) (by rfl)).mono ?_
  rintro e w3 ⟨xc, cc, xd, cd, rfl, h0, rc, h1, rd, hb⟩
  have HE3 : Hid (Below w.heap.size w w3) := HE2.out.trans (hb.mono HE2.out.size)
  have H3_a : Hid (PartsAt w3 w3.heap.size a (la)) := H2_a.out.here hb (Nat.le_refl _)
  have H3_b : Hid (PartsAt w3 w3.heap.size b (lb)) := H2_b.out.here hb (Nat.le_refl _)
  have H3_p : Hid (PartsAt w3 w3.heap.size (some ⟨w.heap.size, 0, none⟩) ([putP ⟨#[97]⟩])) := H2_p.out.here hb (Nat.le_refl _)
  have H3_q : Hid (PartsAt w3 w3.heap.size (some ⟨w1.heap.size, 0, none⟩) ([putP ⟨#[98]⟩])) := H2_q.out.here hb (Nat.le_refl _)
  have H3_c : Hid (PartsAt w3 w3.heap.size xc ([putP ⟨#[97]⟩, keepP 1])) := h0
  have H3_d : Hid (PartsAt w3 w3.heap.size xd ([keepP 1, putP ⟨#[98]⟩])) := h1
  clear hb h0 h1 rc rd
  clear H3_p
  clear H3_q
  clear H3_c
  clear H3_d
  go_wp2_with fail
  refine (MeetOf_any a b (la) (lb) ca cb _ H3_a.out H3_b.out).mono ?_
  rintro e w4 ⟨xe, ce, xf, cf, rfl, h0, re, h1, rf, hb⟩
  have HE4 : Hid (Below w.heap.size w w4) := HE3.out.trans (hb.mono HE3.out.size)
  have H4_a : Hid (PartsAt w4 w4.heap.size a (la)) := H3_a.out.here hb (Nat.le_refl _)
  have H4_b : Hid (PartsAt w4 w4.heap.size b (lb)) := H3_b.out.here hb (Nat.le_refl _)
  have H4_e : Hid (PartsAt w4 w4.heap.size xe (meetL (la) (lb))) := h0
  have H4_f : Hid (PartsAt w4 w4.heap.size xf (meetR (la) (lb))) := h1
  have R_e : Hid (Room xe (meetL (la) (lb)) ce) := re
  have R_f : Hid (Room xf (meetR (la) (lb)) cf) := rf
  clear hb h0 h1 re rf
  by_cases h0 : meetE la lb = 0
  · have r0 : (meetE la lb != 0) = false := by simp [h0]
    obtain ⟨za, zb, zi, _⟩ := meet_zero h0
    obtain ⟨x1, y1, x2, y2, x3, _, _⟩ := meet_facts h0
    obtain ⟨p1, p2⟩ := meet_puts h0
    have HS : Hid (Small la ∧ Small lb ∧ Small (meetL la lb) ∧ Small (meetR la lb)) := ⟨(sizes_zero za).1, (sizes_zero zb).1, (sizes_zero x1).1, (sizes_zero y1).1⟩
    have HI : Hid (sizesIn (meetL la lb) = outI lb ∧ sizesOut (meetL la lb) = outI (meetR la lb) ∧ sizesIn (meetR la lb) = outI la ∧ sizesOut (meetR la lb) = outI (meetR la lb) ∧ sizesOut la = outI la ∧ sizesOut lb = outI lb) :=
      ⟨by rw [(sizes_zero x1).2.1, x2], by rw [(sizes_zero x1).2.2, x3], by rw [(sizes_zero y1).2.1, y2], (sizes_zero y1).2.2, (sizes_zero za).2.2, (sizes_zero zb).2.2⟩
    have HPU : Hid (putsI (meetL la lb) = putsI la ∧ putsI (meetR la lb) = putsI lb) := ⟨p1, p2⟩
    clear h0 zi x2 y2 x3 p1 p2
    go_wp2_with fail
    refine (Sizes_any xe (meetL (la) (lb)) ce _ H4_e.out).mono ?_
    rintro e w5 ⟨rfl, hb⟩
    have HE5 : Hid (Below w.heap.size w w5) := HE4.out.trans (hb.mono HE4.out.size)
    have H5_a : Hid (PartsAt w5 w5.heap.size a (la)) := H4_a.out.here hb (Nat.le_refl _)
    have H5_b : Hid (PartsAt w5 w5.heap.size b (lb)) := H4_b.out.here hb (Nat.le_refl _)
    have H5_e : Hid (PartsAt w5 w5.heap.size xe (meetL (la) (lb))) := H4_e.out.here hb (Nat.le_refl _)
    have H5_f : Hid (PartsAt w5 w5.heap.size xf (meetR (la) (lb))) := H4_f.out.here hb (Nat.le_refl _)
    clear hb
    rw [HI.out.1, HI.out.2.1]
    go_wp2_with fail
    refine (Sizes_any xf (meetR (la) (lb)) cf _ H5_f.out).mono ?_
    rintro e w6 ⟨rfl, hb⟩
    have HE6 : Hid (Below w.heap.size w w6) := HE5.out.trans (hb.mono HE5.out.size)
    have H6_a : Hid (PartsAt w6 w6.heap.size a (la)) := H5_a.out.here hb (Nat.le_refl _)
    have H6_b : Hid (PartsAt w6 w6.heap.size b (lb)) := H5_b.out.here hb (Nat.le_refl _)
    have H6_e : Hid (PartsAt w6 w6.heap.size xe (meetL (la) (lb))) := H5_e.out.here hb (Nat.le_refl _)
    have H6_f : Hid (PartsAt w6 w6.heap.size xf (meetR (la) (lb))) := H5_f.out.here hb (Nat.le_refl _)
    clear hb
    rw [HI.out.2.2.1, HI.out.2.2.2.1]
    go_wp2_with fail
    refine (Sizes_any a (la) ca _ H6_a.out).mono ?_
    rintro e w7 ⟨rfl, hb⟩
    have HE7 : Hid (Below w.heap.size w w7) := HE6.out.trans (hb.mono HE6.out.size)
    have H7_a : Hid (PartsAt w7 w7.heap.size a (la)) := H6_a.out.here hb (Nat.le_refl _)
    have H7_b : Hid (PartsAt w7 w7.heap.size b (lb)) := H6_b.out.here hb (Nat.le_refl _)
    have H7_e : Hid (PartsAt w7 w7.heap.size xe (meetL (la) (lb))) := H6_e.out.here hb (Nat.le_refl _)
    have H7_f : Hid (PartsAt w7 w7.heap.size xf (meetR (la) (lb))) := H6_f.out.here hb (Nat.le_refl _)
    clear hb
    rw [HI.out.2.2.2.2.1]
    go_wp2_with fail
    refine (Sizes_any b (lb) cb _ H7_b.out).mono ?_
    rintro e w8 ⟨rfl, hb⟩
    have HE8 : Hid (Below w.heap.size w w8) := HE7.out.trans (hb.mono HE7.out.size)
    have H8_a : Hid (PartsAt w8 w8.heap.size a (la)) := H7_a.out.here hb (Nat.le_refl _)
    have H8_b : Hid (PartsAt w8 w8.heap.size b (lb)) := H7_b.out.here hb (Nat.le_refl _)
    have H8_e : Hid (PartsAt w8 w8.heap.size xe (meetL (la) (lb))) := H7_e.out.here hb (Nat.le_refl _)
    have H8_f : Hid (PartsAt w8 w8.heap.size xf (meetR (la) (lb))) := H7_f.out.here hb (Nat.le_refl _)
    clear hb
    rw [HI.out.2.2.2.2.2]
    go_wp2_with fail
    refine (puts_any xe (meetL (la) (lb)) ce _ H8_e.out HS.out.2.2.1).mono ?_
    rintro e w9 ⟨rfl, hb⟩
    have HE9 : Hid (Below w.heap.size w w9) := HE8.out.trans (hb.mono HE8.out.size)
    have H9_a : Hid (PartsAt w9 w9.heap.size a (la)) := H8_a.out.here hb (Nat.le_refl _)
    have H9_b : Hid (PartsAt w9 w9.heap.size b (lb)) := H8_b.out.here hb (Nat.le_refl _)
    have H9_e : Hid (PartsAt w9 w9.heap.size xe (meetL (la) (lb))) := H8_e.out.here hb (Nat.le_refl _)
    have H9_f : Hid (PartsAt w9 w9.heap.size xf (meetR (la) (lb))) := H8_f.out.here hb (Nat.le_refl _)
    clear hb
    rw [HPU.out.1]
    go_wp2_with fail
    refine (puts_any a (la) ca _ H9_a.out HS.out.1).mono ?_
    rintro e w10 ⟨rfl, hb⟩
    have HE10 : Hid (Below w.heap.size w w10) := HE9.out.trans (hb.mono HE9.out.size)
    have H10_a : Hid (PartsAt w10 w10.heap.size a (la)) := H9_a.out.here hb (Nat.le_refl _)
    have H10_b : Hid (PartsAt w10 w10.heap.size b (lb)) := H9_b.out.here hb (Nat.le_refl _)
    have H10_e : Hid (PartsAt w10 w10.heap.size xe (meetL (la) (lb))) := H9_e.out.here hb (Nat.le_refl _)
    have H10_f : Hid (PartsAt w10 w10.heap.size xf (meetR (la) (lb))) := H9_f.out.here hb (Nat.le_refl _)
    clear hb
    go_wp2_with fail
    refine (puts_any xf (meetR (la) (lb)) cf _ H10_f.out HS.out.2.2.2).mono ?_
    rintro e w11 ⟨rfl, hb⟩
    have HE11 : Hid (Below w.heap.size w w11) := HE10.out.trans (hb.mono HE10.out.size)
    have H11_a : Hid (PartsAt w11 w11.heap.size a (la)) := H10_a.out.here hb (Nat.le_refl _)
    have H11_b : Hid (PartsAt w11 w11.heap.size b (lb)) := H10_b.out.here hb (Nat.le_refl _)
    have H11_e : Hid (PartsAt w11 w11.heap.size xe (meetL (la) (lb))) := H10_e.out.here hb (Nat.le_refl _)
    have H11_f : Hid (PartsAt w11 w11.heap.size xf (meetR (la) (lb))) := H10_f.out.here hb (Nat.le_refl _)
    clear hb
    rw [HPU.out.2]
    go_wp2_with fail
    refine (puts_any b (lb) cb _ H11_b.out HS.out.2.1).mono ?_
    rintro e w12 ⟨rfl, hb⟩
    have HE12 : Hid (Below w.heap.size w w12) := HE11.out.trans (hb.mono HE11.out.size)
    have H12_a : Hid (PartsAt w12 w12.heap.size a (la)) := H11_a.out.here hb (Nat.le_refl _)
    have H12_b : Hid (PartsAt w12 w12.heap.size b (lb)) := H11_b.out.here hb (Nat.le_refl _)
    have H12_e : Hid (PartsAt w12 w12.heap.size xe (meetL (la) (lb))) := H11_e.out.here hb (Nat.le_refl _)
    have H12_f : Hid (PartsAt w12 w12.heap.size xf (meetR (la) (lb))) := H11_f.out.here hb (Nat.le_refl _)
    clear hb
    go_wp2_with fail
    go_ret
    exact ⟨rfl, HE12.out⟩
  · have r0 : (meetE la lb != 0) = true := by simp [h0]
    have HR : Hid (meetL la lb = [] ∧ meetR la lb = []) := ⟨by rw [meetL, if_neg h0], by rw [meetR, if_neg h0]⟩
    rw [HR.out.1, HR.out.2]
    clear h0
    go_wp2_with fail
    go_ret
    exact ⟨rfl, HE4.out⟩

end Go.Proofs.Ytilcmbophfjjbab
