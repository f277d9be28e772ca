/- The law MeetApart, walked: it answers true. -/
import Derived.Test.YtilcmbophfjjbabMeetKit
import Derived.Test.YtilcmbophfjjbabApart
namespace Go.Proofs.Ytilcmbophfjjbab
open Go.RowKit
set_option linter.unusedSimpArgs false
set_option linter.unusedVariables false

theorem apart_all {la lb : List Pt} (h : shareB (plS la 0) (plS lb 0) = false) : (meetE la lb = 0 ∧ meetE lb la = 0 ∧ compE la (meetR la lb) = 0 ∧ compE la (meetL lb la) = 0 ∧ compE lb (meetL la lb) = 0 ∧ compE lb (meetR lb la) = 0 ∧
    compR la (meetR la lb) = compR la (meetL lb la) ∧ compR lb (meetL la lb) = compR lb (meetR lb la) ∧ compR la (meetR la lb) = compR lb (meetL la lb)) ∨ (meetE la lb ≠ 0 ∧ meetE lb la ≠ 0) := by
  by_cases h0 : meetE la lb = 0
  · obtain ⟨za, zb, zi, _⟩ := meet_zero h0
    obtain ⟨k1, k2⟩ := meet_apart (share_none za zb h)
    obtain ⟨k3, k4⟩ := k2 h0
    obtain ⟨m1, m2, m3⟩ := meet_same h0
    left
    exact ⟨h0, k1.1 h0, m1, by rw [k3]; exact m1, m2, by rw [k4]; exact m2, by rw [k3], by rw [k4], m3⟩
  · right
    refine ⟨h0, fun h1 => h0 ?_⟩
    obtain ⟨zb, za, zi, _⟩ := meet_zero h1
    exact (meet_apart (share_none za zb h)).1.2 h1

set_option maxRecDepth 100000 in
set_option maxHeartbeats 8000000 in
theorem MeetApart_any (a : Option Addr) (la : List Pt) (ca : Nat) (b : Option Addr) (lb : List Pt) (cb : Nat) (w : World) (h_a : PartsAt w w.heap.size a la) (h_b : PartsAt w w.heap.size b lb) (k_a : la.length ≤ ca) (k_b : lb.length ≤ cb)  (s_a : la.length * 32 ≤ 140737488351232) (s_b : lb.length * 32 ≤ 140737488351232) :
    Calls Try.prog 4 #[.slice a la.length ca, .slice b lb.length cb] w fun e w' => e = .returned (.bool true) ∧ Below w.heap.size w w' := by
  have HE0 : Hid (Below w.heap.size w w) := Below.refl _ _
  have H0_a : Hid (PartsAt w w.heap.size a la) := h_a
  have H0_b : Hid (PartsAt w w.heap.size b lb) := h_b
  clear h_a h_b
  have HE1 : Hid (Below w.heap.size w (w.alloc (.cells #[.slice b lb.length cb] 22))) := (Below.refl _ _).alloc (Nat.le_refl _) _
  have H1_a : Hid (PartsAt (w.alloc (.cells #[.slice b lb.length cb] 22)) (w.alloc (.cells #[.slice b lb.length cb] 22)).heap.size a la) := H0_a.out.here HE1.out (Nat.le_refl _)
  have H1_b : Hid (PartsAt (w.alloc (.cells #[.slice b lb.length cb] 22)) (w.alloc (.cells #[.slice b lb.length cb] 22)).heap.size b lb) := H0_b.out.here HE1.out (Nat.le_refl _)
  have HX1 : Hid ((w.alloc (.cells #[.slice b lb.length cb] 22)).heap[w.heap.size]? = some (.cells #[.slice b lb.length cb] 22 (0, 0))) := Deep.blk_alloc_new _ _
  go_enter Try.func4, Try.ntmps4
  go_wp2_with fail
  refine (put_any ⟨#[97]⟩ _ (by decide)).mono ?_
  rintro e w2 ⟨rfl, h0, hb⟩
  have HE2 : Hid (Below w.heap.size w w2) := HE1.out.trans (hb.mono HE1.out.size)
  have H2_a : Hid (PartsAt w2 w2.heap.size a (la)) := H1_a.out.here hb (Nat.le_refl _)
  have H2_b : Hid (PartsAt w2 w2.heap.size b (lb)) := H1_b.out.here hb (Nat.le_refl _)
  have H2_p : Hid (PartsAt w2 w2.heap.size (some ⟨w.heap.size + 1, 0, none⟩) ([putP ⟨#[97]⟩])) := by have hh := h0; simp only [Deep.nblk_alloc] at hh; exact hh
  have HX2 : Hid (w2.heap[w.heap.size]? = some (.cells #[.slice b lb.length cb] 22 (0, 0))) := (hb.block w.heap.size (lt_of_heap HX1.out)).trans HX1.out
  clear hb h0
  go_wp2_with fail
  refine (AllC_any (0) _ (by decide) (by decide)).mono ?_
  rintro e w3 ⟨xq, cq, rfl, h0, rq, hb⟩
  have HE3 : Hid (Below w.heap.size w w3) := HE2.out.trans (hb.mono HE2.out.size)
  have H3_a : Hid (PartsAt w3 w3.heap.size a (la)) := H2_a.out.here hb (Nat.le_refl _)
  have H3_b : Hid (PartsAt w3 w3.heap.size b (lb)) := H2_b.out.here hb (Nat.le_refl _)
  have H3_p : Hid (PartsAt w3 w3.heap.size (some ⟨w.heap.size + 1, 0, none⟩) ([putP ⟨#[97]⟩])) := H2_p.out.here hb (Nat.le_refl _)
  have H3_q : Hid (PartsAt w3 w3.heap.size xq (allL (0))) := h0
  have R_q : Hid (Room xq (allL (0)) cq) := rq
  have HX3 : Hid (w3.heap[w.heap.size]? = some (.cells #[.slice b lb.length cb] 22 (0, 0))) := (hb.block w.heap.size (lt_of_heap HX2.out)).trans HX2.out
  clear hb h0 rq
  go_wp2_with fail
  refine (meet_n litMa0 (some ⟨w.heap.size + 1, 0, none⟩) xq 1 cq _ H3_p.out H3_q.out 1 (allL (0)).length 1 (allL 1).length (by rfl) (by rfl) (by rfl) (by rfl)).mono ?_
  rintro e w4 ⟨xu, cu, xv, cv, rfl, h0, ru, h1, rv, hb⟩
  have HE4 : Hid (Below w.heap.size w w4) := HE3.out.trans (hb.mono HE3.out.size)
  have H4_a : Hid (PartsAt w4 w4.heap.size a (la)) := H3_a.out.here hb (Nat.le_refl _)
  have H4_b : Hid (PartsAt w4 w4.heap.size b (lb)) := H3_b.out.here hb (Nat.le_refl _)
  have H4_p : Hid (PartsAt w4 w4.heap.size (some ⟨w.heap.size + 1, 0, none⟩) ([putP ⟨#[97]⟩])) := H3_p.out.here hb (Nat.le_refl _)
  have H4_q : Hid (PartsAt w4 w4.heap.size xq (allL (0))) := H3_q.out.here hb (Nat.le_refl _)
  have H4_u : Hid (PartsAt w4 w4.heap.size xu ([putP ⟨#[97]⟩])) := h0
  have H4_v : Hid (PartsAt w4 w4.heap.size xv (allL 1)) := h1
  have HX4 : Hid (w4.heap[w.heap.size]? = some (.cells #[.slice b lb.length cb] 22 (0, 0))) := (hb.block w.heap.size (lt_of_heap HX3.out)).trans HX3.out
  clear hb h0 h1 ru rv
  clear H4_p
  clear H4_q
  go_wp2_with fail
  refine (put_any ⟨#[97]⟩ _ (by decide)).mono ?_
  rintro e w5 ⟨rfl, h0, hb⟩
  have HE5 : Hid (Below w.heap.size w w5) := HE4.out.trans (hb.mono HE4.out.size)
  have H5_a : Hid (PartsAt w5 w5.heap.size a (la)) := H4_a.out.here hb (Nat.le_refl _)
  have H5_b : Hid (PartsAt w5 w5.heap.size b (lb)) := H4_b.out.here hb (Nat.le_refl _)
  have H5_u : Hid (PartsAt w5 w5.heap.size xu ([putP ⟨#[97]⟩])) := H4_u.out.here hb (Nat.le_refl _)
  have H5_v : Hid (PartsAt w5 w5.heap.size xv (allL 1)) := H4_v.out.here hb (Nat.le_refl _)
  have H5_r : Hid (PartsAt w5 w5.heap.size (some ⟨w4.heap.size, 0, none⟩) ([putP ⟨#[97]⟩])) := h0
  have HX5 : Hid (w5.heap[w.heap.size]? = some (.cells #[.slice b lb.length cb] 22 (0, 0))) := (hb.block w.heap.size (lt_of_heap HX4.out)).trans HX4.out
  clear hb h0
  go_wp2_with fail
  refine (same_n (la := [putP ⟨#[97]⟩]) xu (some ⟨w4.heap.size, 0, none⟩) cu 1 _ H5_u.out H5_r.out 1 (by rfl)).mono ?_
  rintro e w6 ⟨rfl, hb⟩
  have HE6 : Hid (Below w.heap.size w w6) := HE5.out.trans (hb.mono HE5.out.size)
  have H6_a : Hid (PartsAt w6 w6.heap.size a (la)) := H5_a.out.here hb (Nat.le_refl _)
  have H6_b : Hid (PartsAt w6 w6.heap.size b (lb)) := H5_b.out.here hb (Nat.le_refl _)
  have H6_u : Hid (PartsAt w6 w6.heap.size xu ([putP ⟨#[97]⟩])) := H5_u.out.here hb (Nat.le_refl _)
  have H6_v : Hid (PartsAt w6 w6.heap.size xv (allL 1)) := H5_v.out.here hb (Nat.le_refl _)
  have H6_r : Hid (PartsAt w6 w6.heap.size (some ⟨w4.heap.size, 0, none⟩) ([putP ⟨#[97]⟩])) := H5_r.out.here hb (Nat.le_refl _)
  have HX6 : Hid (w6.heap[w.heap.size]? = some (.cells #[.slice b lb.length cb] 22 (0, 0))) := (hb.block w.heap.size (lt_of_heap HX5.out)).trans HX5.out
  clear hb
  clear H6_u
  clear H6_r
  go_wp2_with fail
  refine (AllC_any (1) _ (by decide) (by decide)).mono ?_
  rintro e w7 ⟨xr, cr, rfl, h0, rr, hb⟩
  have HE7 : Hid (Below w.heap.size w w7) := HE6.out.trans (hb.mono HE6.out.size)
  have H7_a : Hid (PartsAt w7 w7.heap.size a (la)) := H6_a.out.here hb (Nat.le_refl _)
  have H7_b : Hid (PartsAt w7 w7.heap.size b (lb)) := H6_b.out.here hb (Nat.le_refl _)
  have H7_v : Hid (PartsAt w7 w7.heap.size xv (allL 1)) := H6_v.out.here hb (Nat.le_refl _)
  have H7_r : Hid (PartsAt w7 w7.heap.size xr (allL (1))) := h0
  have R_r : Hid (Room xr (allL (1)) cr) := rr
  have HX7 : Hid (w7.heap[w.heap.size]? = some (.cells #[.slice b lb.length cb] 22 (0, 0))) := (hb.block w.heap.size (lt_of_heap HX6.out)).trans HX6.out
  clear hb h0 rr
  go_wp2_with fail
  refine (same_n (la := allL 1) xv xr cv cr _ H7_v.out H7_r.out (allL (1)).length (by rfl)).mono ?_
  rintro e w8 ⟨rfl, hb⟩
  have HE8 : Hid (Below w.heap.size w w8) := HE7.out.trans (hb.mono HE7.out.size)
  have H8_a : Hid (PartsAt w8 w8.heap.size a (la)) := H7_a.out.here hb (Nat.le_refl _)
  have H8_b : Hid (PartsAt w8 w8.heap.size b (lb)) := H7_b.out.here hb (Nat.le_refl _)
  have H8_v : Hid (PartsAt w8 w8.heap.size xv (allL 1)) := H7_v.out.here hb (Nat.le_refl _)
  have H8_r : Hid (PartsAt w8 w8.heap.size xr (allL (1))) := H7_r.out.here hb (Nat.le_refl _)
  have HX8 : Hid (w8.heap[w.heap.size]? = some (.cells #[.slice b lb.length cb] 22 (0, 0))) := (hb.block w.heap.size (lt_of_heap HX7.out)).trans HX7.out
  clear hb
  clear H8_v
  clear H8_r
  have hpl := plS_len la 0
  go_wp2_with fail
  refine (splaces_any a la ca _ H8_a.out s_a).mono ?_
  rintro e w9 ⟨vv, rfl, ho, hb⟩
  have HE9 : Hid (Below w.heap.size w w9) := HE8.out.trans (hb.mono HE8.out.size)
  have H9_a : Hid (PartsAt w9 w9.heap.size a (la)) := H8_a.out.here hb (Nat.le_refl _)
  have H9_b : Hid (PartsAt w9 w9.heap.size b (lb)) := H8_b.out.here hb (Nat.le_refl _)
  have HV : Hid (w9.ownsRow w8.heap.size 3 1 vv (plS la 0).length ((plS la 0).map intC)) := ho
  have HX9 : Hid (w9.heap[w.heap.size]? = some (.cells #[.slice b lb.length cb] 22 (0, 0))) := (hb.block w.heap.size (lt_of_heap HX8.out)).trans HX8.out
  clear hb ho
  go_wp2_with fail
  refine (coShare_any w8.heap.size vv (plS la 0) w.heap.size b lb cb _ HV.out (by omega) H9_b.out HX9.out s_b).mono ?_
  rintro e w10 ⟨rfl, hb⟩
  have HE10 : Hid (Below w.heap.size w w10) := HE9.out.trans (hb.mono HE9.out.size)
  have H10_a : Hid (PartsAt w10 w10.heap.size a (la)) := H9_a.out.here hb (Nat.le_refl _)
  have H10_b : Hid (PartsAt w10 w10.heap.size b (lb)) := H9_b.out.here hb (Nat.le_refl _)
  have HX10 : Hid (w10.heap[w.heap.size]? = some (.cells #[.slice b lb.length cb] 22 (0, 0))) := (hb.block w.heap.size (lt_of_heap HX9.out)).trans HX9.out
  clear hb
  cases hsh : shareB (plS la 0) (plS lb 0)
  · have HSH : Hid _ := apart_all hsh
    have bx : w10.cell? ⟨w.heap.size, 0, none⟩ = some (.slice b lb.length cb) := by rw [cell_of_row _ _ _ _ _ _ HX10.out]; rfl
    clear hsh
    go_wp2_with fail
    refine (MeetOf_any a b (la) (lb) ca cb _ H10_a.out H10_b.out).mono ?_
    rintro e w11 ⟨xc, cc, xd, cd, rfl, h0, rc, h1, rd, hb⟩
    have HE11 : Hid (Below w.heap.size w w11) := HE10.out.trans (hb.mono HE10.out.size)
    have H11_a : Hid (PartsAt w11 w11.heap.size a (la)) := H10_a.out.here hb (Nat.le_refl _)
    have H11_b : Hid (PartsAt w11 w11.heap.size b (lb)) := H10_b.out.here hb (Nat.le_refl _)
    have H11_c : Hid (PartsAt w11 w11.heap.size xc (meetL (la) (lb))) := h0
    have H11_d : Hid (PartsAt w11 w11.heap.size xd (meetR (la) (lb))) := h1
    have R_c : Hid (Room xc (meetL (la) (lb)) cc) := rc
    have R_d : Hid (Room xd (meetR (la) (lb)) cd) := rd
    have HX11 : Hid (w11.heap[w.heap.size]? = some (.cells #[.slice b lb.length cb] 22 (0, 0))) := (hb.block w.heap.size (lt_of_heap HX10.out)).trans HX10.out
    clear hb h0 h1 rc rd
    have bx2 : w11.cell? ⟨w.heap.size, 0, none⟩ = some (.slice b lb.length cb) := by rw [cell_of_row _ _ _ _ _ _ HX11.out]; rfl
    go_wp2_with fail
    refine (MeetOf_any b a (lb) (la) cb ca _ H11_b.out H11_a.out).mono ?_
    rintro e w12 ⟨xx, cx, xy, cy, rfl, h0, rx, h1, ry, hb⟩
    have HE12 : Hid (Below w.heap.size w w12) := HE11.out.trans (hb.mono HE11.out.size)
    have H12_a : Hid (PartsAt w12 w12.heap.size a (la)) := H11_a.out.here hb (Nat.le_refl _)
    have H12_b : Hid (PartsAt w12 w12.heap.size b (lb)) := H11_b.out.here hb (Nat.le_refl _)
    have H12_c : Hid (PartsAt w12 w12.heap.size xc (meetL (la) (lb))) := H11_c.out.here hb (Nat.le_refl _)
    have H12_d : Hid (PartsAt w12 w12.heap.size xd (meetR (la) (lb))) := H11_d.out.here hb (Nat.le_refl _)
    have H12_x : Hid (PartsAt w12 w12.heap.size xx (meetL (lb) (la))) := h0
    have H12_y : Hid (PartsAt w12 w12.heap.size xy (meetR (lb) (la))) := h1
    have R_x : Hid (Room xx (meetL (lb) (la)) cx) := rx
    have R_y : Hid (Room xy (meetR (lb) (la)) cy) := ry
    have HX12 : Hid (w12.heap[w.heap.size]? = some (.cells #[.slice b lb.length cb] 22 (0, 0))) := (hb.block w.heap.size (lt_of_heap HX11.out)).trans HX11.out
    clear hb h0 h1 rx ry
    rcases HSH.out with ⟨k1, k2, k3, k4, k5, k6, k7, k8, k9⟩ | ⟨k1, k2⟩
    · have r1 : (meetE la lb != 0) = false := by simp [k1]
      have r2 : (meetE lb la != 0) = false := by simp [k2]
      have K7 : Hid (compR la (meetR la lb) = compR la (meetL lb la)) := k7
      have K8 : Hid (compR lb (meetL la lb) = compR lb (meetR lb la)) := k8
      have K9 : Hid (compR la (meetR la lb) = compR lb (meetL la lb)) := k9
      clear HSH k1 k2 k7 k8 k9
      go_wp2_with fail
      refine (CompOf_any a xd (la) (meetR (la) (lb)) ca cd _ H12_a.out H12_d.out k_a).mono ?_
      rintro e w13 ⟨xe, ce, rfl, h0, re, hb⟩
      have HE13 : Hid (Below w.heap.size w w13) := HE12.out.trans (hb.mono HE12.out.size)
      have H13_a : Hid (PartsAt w13 w13.heap.size a (la)) := H12_a.out.here hb (Nat.le_refl _)
      have H13_b : Hid (PartsAt w13 w13.heap.size b (lb)) := H12_b.out.here hb (Nat.le_refl _)
      have H13_c : Hid (PartsAt w13 w13.heap.size xc (meetL (la) (lb))) := H12_c.out.here hb (Nat.le_refl _)
      have H13_d : Hid (PartsAt w13 w13.heap.size xd (meetR (la) (lb))) := H12_d.out.here hb (Nat.le_refl _)
      have H13_x : Hid (PartsAt w13 w13.heap.size xx (meetL (lb) (la))) := H12_x.out.here hb (Nat.le_refl _)
      have H13_y : Hid (PartsAt w13 w13.heap.size xy (meetR (lb) (la))) := H12_y.out.here hb (Nat.le_refl _)
      have H13_e : Hid (PartsAt w13 w13.heap.size xe (compR (la) (meetR (la) (lb)))) := h0
      have R_e : Hid (Room xe (compR (la) (meetR (la) (lb))) ce) := re
      have HX13 : Hid (w13.heap[w.heap.size]? = some (.cells #[.slice b lb.length cb] 22 (0, 0))) := (hb.block w.heap.size (lt_of_heap HX12.out)).trans HX12.out
      clear hb h0 re
      go_wp2_with fail
      refine (CompOf_any a xx (la) (meetL (lb) (la)) ca cx _ H13_a.out H13_x.out k_a).mono ?_
      rintro e w14 ⟨xf, cf, rfl, h0, rf, hb⟩
      have HE14 : Hid (Below w.heap.size w w14) := HE13.out.trans (hb.mono HE13.out.size)
      have H14_a : Hid (PartsAt w14 w14.heap.size a (la)) := H13_a.out.here hb (Nat.le_refl _)
      have H14_b : Hid (PartsAt w14 w14.heap.size b (lb)) := H13_b.out.here hb (Nat.le_refl _)
      have H14_c : Hid (PartsAt w14 w14.heap.size xc (meetL (la) (lb))) := H13_c.out.here hb (Nat.le_refl _)
      have H14_d : Hid (PartsAt w14 w14.heap.size xd (meetR (la) (lb))) := H13_d.out.here hb (Nat.le_refl _)
      have H14_x : Hid (PartsAt w14 w14.heap.size xx (meetL (lb) (la))) := H13_x.out.here hb (Nat.le_refl _)
      have H14_y : Hid (PartsAt w14 w14.heap.size xy (meetR (lb) (la))) := H13_y.out.here hb (Nat.le_refl _)
      have H14_e : Hid (PartsAt w14 w14.heap.size xe (compR (la) (meetR (la) (lb)))) := H13_e.out.here hb (Nat.le_refl _)
      have H14_f : Hid (PartsAt w14 w14.heap.size xf (compR (la) (meetL (lb) (la)))) := h0
      have R_f : Hid (Room xf (compR (la) (meetL (lb) (la))) cf) := rf
      have HX14 : Hid (w14.heap[w.heap.size]? = some (.cells #[.slice b lb.length cb] 22 (0, 0))) := (hb.block w.heap.size (lt_of_heap HX13.out)).trans HX13.out
      clear hb h0 rf
      have bx14 : w14.cell? ⟨w.heap.size, 0, none⟩ = some (.slice b lb.length cb) := by rw [cell_of_row _ _ _ _ _ _ HX14.out]; rfl
      go_wp2_with fail
      refine (CompOf_any b xc (lb) (meetL (la) (lb)) cb cc _ H14_b.out H14_c.out k_b).mono ?_
      rintro e w15 ⟨xg, cg, rfl, h0, rg, hb⟩
      have HE15 : Hid (Below w.heap.size w w15) := HE14.out.trans (hb.mono HE14.out.size)
      have H15_a : Hid (PartsAt w15 w15.heap.size a (la)) := H14_a.out.here hb (Nat.le_refl _)
      have H15_b : Hid (PartsAt w15 w15.heap.size b (lb)) := H14_b.out.here hb (Nat.le_refl _)
      have H15_c : Hid (PartsAt w15 w15.heap.size xc (meetL (la) (lb))) := H14_c.out.here hb (Nat.le_refl _)
      have H15_d : Hid (PartsAt w15 w15.heap.size xd (meetR (la) (lb))) := H14_d.out.here hb (Nat.le_refl _)
      have H15_x : Hid (PartsAt w15 w15.heap.size xx (meetL (lb) (la))) := H14_x.out.here hb (Nat.le_refl _)
      have H15_y : Hid (PartsAt w15 w15.heap.size xy (meetR (lb) (la))) := H14_y.out.here hb (Nat.le_refl _)
      have H15_e : Hid (PartsAt w15 w15.heap.size xe (compR (la) (meetR (la) (lb)))) := H14_e.out.here hb (Nat.le_refl _)
      have H15_f : Hid (PartsAt w15 w15.heap.size xf (compR (la) (meetL (lb) (la)))) := H14_f.out.here hb (Nat.le_refl _)
      have H15_g : Hid (PartsAt w15 w15.heap.size xg (compR (lb) (meetL (la) (lb)))) := h0
      have R_g : Hid (Room xg (compR (lb) (meetL (la) (lb))) cg) := rg
      have HX15 : Hid (w15.heap[w.heap.size]? = some (.cells #[.slice b lb.length cb] 22 (0, 0))) := (hb.block w.heap.size (lt_of_heap HX14.out)).trans HX14.out
      clear hb h0 rg
      have bx15 : w15.cell? ⟨w.heap.size, 0, none⟩ = some (.slice b lb.length cb) := by rw [cell_of_row _ _ _ _ _ _ HX15.out]; rfl
      go_wp2_with fail
      refine (CompOf_any b xy (lb) (meetR (lb) (la)) cb cy _ H15_b.out H15_y.out k_b).mono ?_
      rintro e w16 ⟨xh, ch, rfl, h0, rh, hb⟩
      have HE16 : Hid (Below w.heap.size w w16) := HE15.out.trans (hb.mono HE15.out.size)
      have H16_a : Hid (PartsAt w16 w16.heap.size a (la)) := H15_a.out.here hb (Nat.le_refl _)
      have H16_b : Hid (PartsAt w16 w16.heap.size b (lb)) := H15_b.out.here hb (Nat.le_refl _)
      have H16_c : Hid (PartsAt w16 w16.heap.size xc (meetL (la) (lb))) := H15_c.out.here hb (Nat.le_refl _)
      have H16_d : Hid (PartsAt w16 w16.heap.size xd (meetR (la) (lb))) := H15_d.out.here hb (Nat.le_refl _)
      have H16_x : Hid (PartsAt w16 w16.heap.size xx (meetL (lb) (la))) := H15_x.out.here hb (Nat.le_refl _)
      have H16_y : Hid (PartsAt w16 w16.heap.size xy (meetR (lb) (la))) := H15_y.out.here hb (Nat.le_refl _)
      have H16_e : Hid (PartsAt w16 w16.heap.size xe (compR (la) (meetR (la) (lb)))) := H15_e.out.here hb (Nat.le_refl _)
      have H16_f : Hid (PartsAt w16 w16.heap.size xf (compR (la) (meetL (lb) (la)))) := H15_f.out.here hb (Nat.le_refl _)
      have H16_g : Hid (PartsAt w16 w16.heap.size xg (compR (lb) (meetL (la) (lb)))) := H15_g.out.here hb (Nat.le_refl _)
      have H16_h : Hid (PartsAt w16 w16.heap.size xh (compR (lb) (meetR (lb) (la)))) := h0
      have R_h : Hid (Room xh (compR (lb) (meetR (lb) (la))) ch) := rh
      have HX16 : Hid (w16.heap[w.heap.size]? = some (.cells #[.slice b lb.length cb] 22 (0, 0))) := (hb.block w.heap.size (lt_of_heap HX15.out)).trans HX15.out
      clear hb h0 rh
      go_wp2_with fail
      refine (same_by K7.out xe xf ce cf _ H16_e.out H16_f.out).mono ?_
      rintro e w17 ⟨rfl, hb⟩
      have HE17 : Hid (Below w.heap.size w w17) := HE16.out.trans (hb.mono HE16.out.size)
      have H17_a : Hid (PartsAt w17 w17.heap.size a (la)) := H16_a.out.here hb (Nat.le_refl _)
      have H17_b : Hid (PartsAt w17 w17.heap.size b (lb)) := H16_b.out.here hb (Nat.le_refl _)
      have H17_c : Hid (PartsAt w17 w17.heap.size xc (meetL (la) (lb))) := H16_c.out.here hb (Nat.le_refl _)
      have H17_d : Hid (PartsAt w17 w17.heap.size xd (meetR (la) (lb))) := H16_d.out.here hb (Nat.le_refl _)
      have H17_x : Hid (PartsAt w17 w17.heap.size xx (meetL (lb) (la))) := H16_x.out.here hb (Nat.le_refl _)
      have H17_y : Hid (PartsAt w17 w17.heap.size xy (meetR (lb) (la))) := H16_y.out.here hb (Nat.le_refl _)
      have H17_e : Hid (PartsAt w17 w17.heap.size xe (compR (la) (meetR (la) (lb)))) := H16_e.out.here hb (Nat.le_refl _)
      have H17_f : Hid (PartsAt w17 w17.heap.size xf (compR (la) (meetL (lb) (la)))) := H16_f.out.here hb (Nat.le_refl _)
      have H17_g : Hid (PartsAt w17 w17.heap.size xg (compR (lb) (meetL (la) (lb)))) := H16_g.out.here hb (Nat.le_refl _)
      have H17_h : Hid (PartsAt w17 w17.heap.size xh (compR (lb) (meetR (lb) (la)))) := H16_h.out.here hb (Nat.le_refl _)
      have HX17 : Hid (w17.heap[w.heap.size]? = some (.cells #[.slice b lb.length cb] 22 (0, 0))) := (hb.block w.heap.size (lt_of_heap HX16.out)).trans HX16.out
      clear hb
      go_wp2_with fail
      refine (same_by K8.out xg xh cg ch _ H17_g.out H17_h.out).mono ?_
      rintro e w18 ⟨rfl, hb⟩
      have HE18 : Hid (Below w.heap.size w w18) := HE17.out.trans (hb.mono HE17.out.size)
      have H18_a : Hid (PartsAt w18 w18.heap.size a (la)) := H17_a.out.here hb (Nat.le_refl _)
      have H18_b : Hid (PartsAt w18 w18.heap.size b (lb)) := H17_b.out.here hb (Nat.le_refl _)
      have H18_c : Hid (PartsAt w18 w18.heap.size xc (meetL (la) (lb))) := H17_c.out.here hb (Nat.le_refl _)
      have H18_d : Hid (PartsAt w18 w18.heap.size xd (meetR (la) (lb))) := H17_d.out.here hb (Nat.le_refl _)
      have H18_x : Hid (PartsAt w18 w18.heap.size xx (meetL (lb) (la))) := H17_x.out.here hb (Nat.le_refl _)
      have H18_y : Hid (PartsAt w18 w18.heap.size xy (meetR (lb) (la))) := H17_y.out.here hb (Nat.le_refl _)
      have H18_e : Hid (PartsAt w18 w18.heap.size xe (compR (la) (meetR (la) (lb)))) := H17_e.out.here hb (Nat.le_refl _)
      have H18_f : Hid (PartsAt w18 w18.heap.size xf (compR (la) (meetL (lb) (la)))) := H17_f.out.here hb (Nat.le_refl _)
      have H18_g : Hid (PartsAt w18 w18.heap.size xg (compR (lb) (meetL (la) (lb)))) := H17_g.out.here hb (Nat.le_refl _)
      have H18_h : Hid (PartsAt w18 w18.heap.size xh (compR (lb) (meetR (lb) (la)))) := H17_h.out.here hb (Nat.le_refl _)
      have HX18 : Hid (w18.heap[w.heap.size]? = some (.cells #[.slice b lb.length cb] 22 (0, 0))) := (hb.block w.heap.size (lt_of_heap HX17.out)).trans HX17.out
      clear hb
      go_wp2_with fail
      refine (same_by K9.out xe xg ce cg _ H18_e.out H18_g.out).mono ?_
      rintro e w19 ⟨rfl, hb⟩
      have HE19 : Hid (Below w.heap.size w w19) := HE18.out.trans (hb.mono HE18.out.size)
      have H19_a : Hid (PartsAt w19 w19.heap.size a (la)) := H18_a.out.here hb (Nat.le_refl _)
      have H19_b : Hid (PartsAt w19 w19.heap.size b (lb)) := H18_b.out.here hb (Nat.le_refl _)
      have H19_c : Hid (PartsAt w19 w19.heap.size xc (meetL (la) (lb))) := H18_c.out.here hb (Nat.le_refl _)
      have H19_d : Hid (PartsAt w19 w19.heap.size xd (meetR (la) (lb))) := H18_d.out.here hb (Nat.le_refl _)
      have H19_x : Hid (PartsAt w19 w19.heap.size xx (meetL (lb) (la))) := H18_x.out.here hb (Nat.le_refl _)
      have H19_y : Hid (PartsAt w19 w19.heap.size xy (meetR (lb) (la))) := H18_y.out.here hb (Nat.le_refl _)
      have H19_e : Hid (PartsAt w19 w19.heap.size xe (compR (la) (meetR (la) (lb)))) := H18_e.out.here hb (Nat.le_refl _)
      have H19_f : Hid (PartsAt w19 w19.heap.size xf (compR (la) (meetL (lb) (la)))) := H18_f.out.here hb (Nat.le_refl _)
      have H19_g : Hid (PartsAt w19 w19.heap.size xg (compR (lb) (meetL (la) (lb)))) := H18_g.out.here hb (Nat.le_refl _)
      have H19_h : Hid (PartsAt w19 w19.heap.size xh (compR (lb) (meetR (lb) (la)))) := H18_h.out.here hb (Nat.le_refl _)
      have HX19 : Hid (w19.heap[w.heap.size]? = some (.cells #[.slice b lb.length cb] 22 (0, 0))) := (hb.block w.heap.size (lt_of_heap HX18.out)).trans HX18.out
      clear hb
      go_wp2_with fail
      go_ret
      exact ⟨rfl, HE19.out⟩
    · have r1 : (meetE la lb != 0) = true := by simp [k1]
      have r2 : (meetE lb la != 0) = true := by simp [k2]
      clear HSH k1 k2
      go_wp2_with fail
      go_ret
      exact ⟨rfl, HE12.out⟩
  · skip
    go_wp2_with fail
    go_ret
    exact ⟨rfl, HE10.out⟩

end Go.Proofs.Ytilcmbophfjjbab
