/- The law MeetJoins, walked: it answers true. -/
import Derived.Test.YtilcmbophfjjbaaMeetKit
import Derived.Test.YtilcmbophfjjbaaCuts
namespace Go.Proofs.Ytilcmbophfjjbaa
open Go.RowKit
set_option linter.unusedSimpArgs false
set_option linter.unusedVariables false

set_option maxRecDepth 100000 in
set_option maxHeartbeats 8000000 in
theorem MeetJoins_any (a : Option Addr) (la : List Pt) (ca : Nat) (b : Option Addr) (lb : List Pt) (cb : Nat) (c : Option Addr) (lc : List Pt) (cc : Nat) (w : World) (h_a : PartsAt w w.heap.size a la) (h_b : PartsAt w w.heap.size b lb) (h_c : PartsAt w w.heap.size c lc) (k_a : la.length ≤ ca) (k_b : lb.length ≤ cb) (k_c : lc.length ≤ cc)   :
    Calls Try.prog 7 #[.slice a la.length ca, .slice b lb.length cb, .slice c lc.length cc] w fun e w' => e = .returned (.bool true) ∧ Below w.heap.size w w' := by
  have HE0 : Hid (Below w.heap.size w w) := Below.refl _ _
  have H0_a : Hid (PartsAt w w.heap.size a la) := h_a
  have H0_b : Hid (PartsAt w w.heap.size b lb) := h_b
  have H0_c : Hid (PartsAt w w.heap.size c lc) := h_c
  clear h_a h_b h_c
  go_enter Try.func7, Try.ntmps7
  go_wp2_with fail
  refine (put_any ⟨#[97]⟩ _ (by decide)).mono ?_
  rintro e w1 ⟨rfl, h0, hb⟩
  have HE1 : Hid (Below w.heap.size w w1) := HE0.out.trans (hb.mono HE0.out.size)
  have H1_a : Hid (PartsAt w1 w1.heap.size a (la)) := H0_a.out.here hb (Nat.le_refl _)
  have H1_b : Hid (PartsAt w1 w1.heap.size b (lb)) := H0_b.out.here hb (Nat.le_refl _)
  have H1_c : Hid (PartsAt w1 w1.heap.size c (lc)) := H0_c.out.here hb (Nat.le_refl _)
  have H1_p : Hid (PartsAt w1 w1.heap.size (some ⟨w.heap.size, 0, none⟩) ([putP ⟨#[97]⟩])) := h0
  clear hb h0
  go_wp2_with fail
  refine (AllC_any (0) _ (by decide) (by decide)).mono ?_
  rintro e w2 ⟨xq, cq, rfl, h0, rq, hb⟩
  have HE2 : Hid (Below w.heap.size w w2) := HE1.out.trans (hb.mono HE1.out.size)
  have H2_a : Hid (PartsAt w2 w2.heap.size a (la)) := H1_a.out.here hb (Nat.le_refl _)
  have H2_b : Hid (PartsAt w2 w2.heap.size b (lb)) := H1_b.out.here hb (Nat.le_refl _)
  have H2_c : Hid (PartsAt w2 w2.heap.size c (lc)) := H1_c.out.here hb (Nat.le_refl _)
  have H2_p : Hid (PartsAt w2 w2.heap.size (some ⟨w.heap.size, 0, none⟩) ([putP ⟨#[97]⟩])) := H1_p.out.here hb (Nat.le_refl _)
  have H2_q : Hid (PartsAt w2 w2.heap.size xq (allL (0))) := h0
  have R_q : Hid (Room xq (allL (0)) cq) := rq
  clear hb h0 rq
  go_wp2_with fail
  refine (meet_n litMa0 (some ⟨w.heap.size, 0, none⟩) xq 1 cq _ H2_p.out H2_q.out 1 (allL (0)).length 1 (allL 1).length (by rfl) (by rfl) (by rfl) (by rfl)).mono ?_
  rintro e w3 ⟨xu, cu, xv, cv, rfl, h0, ru, h1, rv, hb⟩
  have HE3 : Hid (Below w.heap.size w w3) := HE2.out.trans (hb.mono HE2.out.size)
  have H3_a : Hid (PartsAt w3 w3.heap.size a (la)) := H2_a.out.here hb (Nat.le_refl _)
  have H3_b : Hid (PartsAt w3 w3.heap.size b (lb)) := H2_b.out.here hb (Nat.le_refl _)
  have H3_c : Hid (PartsAt w3 w3.heap.size c (lc)) := H2_c.out.here hb (Nat.le_refl _)
  have H3_p : Hid (PartsAt w3 w3.heap.size (some ⟨w.heap.size, 0, none⟩) ([putP ⟨#[97]⟩])) := H2_p.out.here hb (Nat.le_refl _)
  have H3_q : Hid (PartsAt w3 w3.heap.size xq (allL (0))) := H2_q.out.here hb (Nat.le_refl _)
  have H3_u : Hid (PartsAt w3 w3.heap.size xu ([putP ⟨#[97]⟩])) := h0
  have H3_v : Hid (PartsAt w3 w3.heap.size xv (allL 1)) := h1
  clear hb h0 h1 ru rv
  clear H3_p
  clear H3_q
  clear H3_v
  go_wp2_with fail
  refine (put_any ⟨#[97]⟩ _ (by decide)).mono ?_
  rintro e w4 ⟨rfl, h0, hb⟩
  have HE4 : Hid (Below w.heap.size w w4) := HE3.out.trans (hb.mono HE3.out.size)
  have H4_a : Hid (PartsAt w4 w4.heap.size a (la)) := H3_a.out.here hb (Nat.le_refl _)
  have H4_b : Hid (PartsAt w4 w4.heap.size b (lb)) := H3_b.out.here hb (Nat.le_refl _)
  have H4_c : Hid (PartsAt w4 w4.heap.size c (lc)) := H3_c.out.here hb (Nat.le_refl _)
  have H4_u : Hid (PartsAt w4 w4.heap.size xu ([putP ⟨#[97]⟩])) := H3_u.out.here hb (Nat.le_refl _)
  have H4_r : Hid (PartsAt w4 w4.heap.size (some ⟨w3.heap.size, 0, none⟩) ([putP ⟨#[97]⟩])) := h0
  clear hb h0
  go_wp2_with fail
  refine (same_n (la := [putP ⟨#[97]⟩]) xu (some ⟨w3.heap.size, 0, none⟩) cu 1 _ H4_u.out H4_r.out 1 (by rfl)).mono ?_
  rintro e w5 ⟨rfl, hb⟩
  have HE5 : Hid (Below w.heap.size w w5) := HE4.out.trans (hb.mono HE4.out.size)
  have H5_a : Hid (PartsAt w5 w5.heap.size a (la)) := H4_a.out.here hb (Nat.le_refl _)
  have H5_b : Hid (PartsAt w5 w5.heap.size b (lb)) := H4_b.out.here hb (Nat.le_refl _)
  have H5_c : Hid (PartsAt w5 w5.heap.size c (lc)) := H4_c.out.here hb (Nat.le_refl _)
  have H5_u : Hid (PartsAt w5 w5.heap.size xu ([putP ⟨#[97]⟩])) := H4_u.out.here hb (Nat.le_refl _)
  have H5_r : Hid (PartsAt w5 w5.heap.size (some ⟨w3.heap.size, 0, none⟩) ([putP ⟨#[97]⟩])) := H4_r.out.here hb (Nat.le_refl _)
  clear hb
  clear H5_u
  clear H5_r
  go_wp2_with fail
  refine (CompOf_any a b (la) (lb) ca cb _ H5_a.out H5_b.out k_a).mono ?_
  rintro e w6 ⟨xd, cd, rfl, h0, rd, hb⟩
  have HE6 : Hid (Below w.heap.size w w6) := HE5.out.trans (hb.mono HE5.out.size)
  have H6_a : Hid (PartsAt w6 w6.heap.size a (la)) := H5_a.out.here hb (Nat.le_refl _)
  have H6_b : Hid (PartsAt w6 w6.heap.size b (lb)) := H5_b.out.here hb (Nat.le_refl _)
  have H6_c : Hid (PartsAt w6 w6.heap.size c (lc)) := H5_c.out.here hb (Nat.le_refl _)
  have H6_d : Hid (PartsAt w6 w6.heap.size xd (compR (la) (lb))) := h0
  have R_d : Hid (Room xd (compR (la) (lb)) cd) := rd
  clear hb h0 rd
  by_cases h0 : compE la lb = 0
  · have r0 : (compE la lb != 0) = false := by simp [h0]
    have r0' : (compE la lb == 0) = true := by simp [h0]
    have HZ : Hid (compE la lb = 0) := h0
    clear h0
    go_wp2_with fail
    refine (cuts_any b lb cb _ H6_b.out).mono ?_
    rintro e w7 ⟨rfl, hb⟩
    have HE7 : Hid (Below w.heap.size w w7) := HE6.out.trans (hb.mono HE6.out.size)
    have H7_a : Hid (PartsAt w7 w7.heap.size a (la)) := H6_a.out.here hb (Nat.le_refl _)
    have H7_b : Hid (PartsAt w7 w7.heap.size b (lb)) := H6_b.out.here hb (Nat.le_refl _)
    have H7_c : Hid (PartsAt w7 w7.heap.size c (lc)) := H6_c.out.here hb (Nat.le_refl _)
    have H7_d : Hid (PartsAt w7 w7.heap.size xd (compR (la) (lb))) := H6_d.out.here hb (Nat.le_refl _)
    clear hb
    cases hcb : cutsB lb
    · have HCB : Hid (cutsB lb = false) := hcb
      go_wp2_with fail
      refine (cuts_any c lc cc _ H7_c.out).mono ?_
      rintro e w8 ⟨rfl, hb⟩
      have HE8 : Hid (Below w.heap.size w w8) := HE7.out.trans (hb.mono HE7.out.size)
      have H8_a : Hid (PartsAt w8 w8.heap.size a (la)) := H7_a.out.here hb (Nat.le_refl _)
      have H8_b : Hid (PartsAt w8 w8.heap.size b (lb)) := H7_b.out.here hb (Nat.le_refl _)
      have H8_c : Hid (PartsAt w8 w8.heap.size c (lc)) := H7_c.out.here hb (Nat.le_refl _)
      have H8_d : Hid (PartsAt w8 w8.heap.size xd (compR (la) (lb))) := H7_d.out.here hb (Nat.le_refl _)
      clear hb
      cases hcc : cutsB lc
      · have HCC : Hid (cutsB lc = false) := hcc
        clear hcb hcc
        go_wp2_with fail
        refine (MeetOf_any xd c (compR (la) (lb)) (lc) cd cc _ H8_d.out H8_c.out).mono ?_
        rintro e w9 ⟨xe, ce, xf, cf, rfl, h0, re, h1, rf, hb⟩
        have HE9 : Hid (Below w.heap.size w w9) := HE8.out.trans (hb.mono HE8.out.size)
        have H9_a : Hid (PartsAt w9 w9.heap.size a (la)) := H8_a.out.here hb (Nat.le_refl _)
        have H9_b : Hid (PartsAt w9 w9.heap.size b (lb)) := H8_b.out.here hb (Nat.le_refl _)
        have H9_c : Hid (PartsAt w9 w9.heap.size c (lc)) := H8_c.out.here hb (Nat.le_refl _)
        have H9_d : Hid (PartsAt w9 w9.heap.size xd (compR (la) (lb))) := H8_d.out.here hb (Nat.le_refl _)
        have H9_e : Hid (PartsAt w9 w9.heap.size xe (meetL (compR (la) (lb)) (lc))) := h0
        have H9_f : Hid (PartsAt w9 w9.heap.size xf (meetR (compR (la) (lb)) (lc))) := h1
        have R_e : Hid (Room xe (meetL (compR (la) (lb)) (lc)) ce) := re
        have R_f : Hid (Room xf (meetR (compR (la) (lb)) (lc)) cf) := rf
        clear hb h0 h1 re rf
        go_wp2_with fail
        refine (MeetOf_any a c (la) (lc) ca cc _ H9_a.out H9_c.out).mono ?_
        rintro e w10 ⟨xg, cg, xh, ch, rfl, h0, rg, h1, rh, hb⟩
        have HE10 : Hid (Below w.heap.size w w10) := HE9.out.trans (hb.mono HE9.out.size)
        have H10_a : Hid (PartsAt w10 w10.heap.size a (la)) := H9_a.out.here hb (Nat.le_refl _)
        have H10_b : Hid (PartsAt w10 w10.heap.size b (lb)) := H9_b.out.here hb (Nat.le_refl _)
        have H10_c : Hid (PartsAt w10 w10.heap.size c (lc)) := H9_c.out.here hb (Nat.le_refl _)
        have H10_d : Hid (PartsAt w10 w10.heap.size xd (compR (la) (lb))) := H9_d.out.here hb (Nat.le_refl _)
        have H10_e : Hid (PartsAt w10 w10.heap.size xe (meetL (compR (la) (lb)) (lc))) := H9_e.out.here hb (Nat.le_refl _)
        have H10_f : Hid (PartsAt w10 w10.heap.size xf (meetR (compR (la) (lb)) (lc))) := H9_f.out.here hb (Nat.le_refl _)
        have H10_g : Hid (PartsAt w10 w10.heap.size xg (meetL (la) (lc))) := h0
        have H10_h : Hid (PartsAt w10 w10.heap.size xh (meetR (la) (lc))) := h1
        have R_g : Hid (Room xg (meetL (la) (lc)) cg) := rg
        have R_h : Hid (Room xh (meetR (la) (lc)) ch) := rh
        clear hb h0 h1 rg rh
        by_cases h1 : meetE (compR la lb) lc = 0
        · have r1 : (meetE (compR la lb) lc != 0) = false := by simp [h1]
          have HM1 : Hid (meetE (compR la lb) lc = 0) := h1
          clear h1
          by_cases h2 : meetE la lc = 0
          · have r2 : (meetE la lc != 0) = false := by simp [h2]
            have HM2 : Hid (meetE la lc = 0) := h2
            clear h2
            go_wp2_with fail
            refine (MeetOf_any b xh (lb) (meetR (la) (lc)) cb ch _ H10_b.out H10_h.out).mono ?_
            rintro e w11 ⟨xi, ci, xj, cj, rfl, h0, ri, h1, rj, hb⟩
            have HE11 : Hid (Below w.heap.size w w11) := HE10.out.trans (hb.mono HE10.out.size)
            have H11_a : Hid (PartsAt w11 w11.heap.size a (la)) := H10_a.out.here hb (Nat.le_refl _)
            have H11_b : Hid (PartsAt w11 w11.heap.size b (lb)) := H10_b.out.here hb (Nat.le_refl _)
            have H11_c : Hid (PartsAt w11 w11.heap.size c (lc)) := H10_c.out.here hb (Nat.le_refl _)
            have H11_d : Hid (PartsAt w11 w11.heap.size xd (compR (la) (lb))) := H10_d.out.here hb (Nat.le_refl _)
            have H11_e : Hid (PartsAt w11 w11.heap.size xe (meetL (compR (la) (lb)) (lc))) := H10_e.out.here hb (Nat.le_refl _)
            have H11_f : Hid (PartsAt w11 w11.heap.size xf (meetR (compR (la) (lb)) (lc))) := H10_f.out.here hb (Nat.le_refl _)
            have H11_g : Hid (PartsAt w11 w11.heap.size xg (meetL (la) (lc))) := H10_g.out.here hb (Nat.le_refl _)
            have H11_h : Hid (PartsAt w11 w11.heap.size xh (meetR (la) (lc))) := H10_h.out.here hb (Nat.le_refl _)
            have H11_i : Hid (PartsAt w11 w11.heap.size xi (meetL (lb) (meetR (la) (lc)))) := h0
            have H11_j : Hid (PartsAt w11 w11.heap.size xj (meetR (lb) (meetR (la) (lc)))) := h1
            have R_i : Hid (Room xi (meetL (lb) (meetR (la) (lc))) ci) := ri
            have R_j : Hid (Room xj (meetR (lb) (meetR (la) (lc))) cj) := rj
            clear hb h0 h1 ri rj
            by_cases h3 : meetE lb (meetR la lc) = 0
            · have r3 : (meetE lb (meetR la lc) != 0) = false := by simp [h3]
              obtain ⟨j1, j2, j3⟩ := meet_joins HZ.out (cuts_no HCB.out) (cuts_no HCC.out) HM1.out HM2.out h3
              have J2 : Hid (meetL (compR la lb) lc = compR (meetL la lc) (meetL lb (meetR la lc))) := j2
              have J3 : Hid (meetR (compR la lb) lc = meetR lb (meetR la lc)) := j3
              clear h3 j2 j3
              go_wp2_with fail
              refine (CompOf_any xg xi (meetL (la) (lc)) (meetL (lb) (meetR (la) (lc))) cg ci _ H11_g.out H11_i.out R_g.out.1).mono ?_
              rintro e w12 ⟨xk, ck, rfl, h0, rk, hb⟩
              have HE12 : Hid (Below w.heap.size w w12) := HE11.out.trans (hb.mono HE11.out.size)
              have H12_a : Hid (PartsAt w12 w12.heap.size a (la)) := H11_a.out.here hb (Nat.le_refl _)
              have H12_b : Hid (PartsAt w12 w12.heap.size b (lb)) := H11_b.out.here hb (Nat.le_refl _)
              have H12_c : Hid (PartsAt w12 w12.heap.size c (lc)) := H11_c.out.here hb (Nat.le_refl _)
              have H12_d : Hid (PartsAt w12 w12.heap.size xd (compR (la) (lb))) := H11_d.out.here hb (Nat.le_refl _)
              have H12_e : Hid (PartsAt w12 w12.heap.size xe (meetL (compR (la) (lb)) (lc))) := H11_e.out.here hb (Nat.le_refl _)
              have H12_f : Hid (PartsAt w12 w12.heap.size xf (meetR (compR (la) (lb)) (lc))) := H11_f.out.here hb (Nat.le_refl _)
              have H12_g : Hid (PartsAt w12 w12.heap.size xg (meetL (la) (lc))) := H11_g.out.here hb (Nat.le_refl _)
              have H12_h : Hid (PartsAt w12 w12.heap.size xh (meetR (la) (lc))) := H11_h.out.here hb (Nat.le_refl _)
              have H12_i : Hid (PartsAt w12 w12.heap.size xi (meetL (lb) (meetR (la) (lc)))) := H11_i.out.here hb (Nat.le_refl _)
              have H12_j : Hid (PartsAt w12 w12.heap.size xj (meetR (lb) (meetR (la) (lc)))) := H11_j.out.here hb (Nat.le_refl _)
              have H12_k : Hid (PartsAt w12 w12.heap.size xk (compR (meetL (la) (lc)) (meetL (lb) (meetR (la) (lc))))) := h0
              have R_k : Hid (Room xk (compR (meetL (la) (lc)) (meetL (lb) (meetR (la) (lc)))) ck) := rk
              clear hb h0 rk
              go_wp2_with fail
              refine (same_by J2.out xe xk ce ck _ H12_e.out H12_k.out).mono ?_
              rintro e w13 ⟨rfl, hb⟩
              have HE13 : Hid (Below w.heap.size w w13) := HE12.out.trans (hb.mono HE12.out.size)
              have H13_a : Hid (PartsAt w13 w13.heap.size a (la)) := H12_a.out.here hb (Nat.le_refl _)
              have H13_b : Hid (PartsAt w13 w13.heap.size b (lb)) := H12_b.out.here hb (Nat.le_refl _)
              have H13_c : Hid (PartsAt w13 w13.heap.size c (lc)) := H12_c.out.here hb (Nat.le_refl _)
              have H13_d : Hid (PartsAt w13 w13.heap.size xd (compR (la) (lb))) := H12_d.out.here hb (Nat.le_refl _)
              have H13_e : Hid (PartsAt w13 w13.heap.size xe (meetL (compR (la) (lb)) (lc))) := H12_e.out.here hb (Nat.le_refl _)
              have H13_f : Hid (PartsAt w13 w13.heap.size xf (meetR (compR (la) (lb)) (lc))) := H12_f.out.here hb (Nat.le_refl _)
              have H13_g : Hid (PartsAt w13 w13.heap.size xg (meetL (la) (lc))) := H12_g.out.here hb (Nat.le_refl _)
              have H13_h : Hid (PartsAt w13 w13.heap.size xh (meetR (la) (lc))) := H12_h.out.here hb (Nat.le_refl _)
              have H13_i : Hid (PartsAt w13 w13.heap.size xi (meetL (lb) (meetR (la) (lc)))) := H12_i.out.here hb (Nat.le_refl _)
              have H13_j : Hid (PartsAt w13 w13.heap.size xj (meetR (lb) (meetR (la) (lc)))) := H12_j.out.here hb (Nat.le_refl _)
              have H13_k : Hid (PartsAt w13 w13.heap.size xk (compR (meetL (la) (lc)) (meetL (lb) (meetR (la) (lc))))) := H12_k.out.here hb (Nat.le_refl _)
              clear hb
              go_wp2_with fail
              refine (same_by J3.out xf xj cf cj _ H13_f.out H13_j.out).mono ?_
              rintro e w14 ⟨rfl, hb⟩
              have HE14 : Hid (Below w.heap.size w w14) := HE13.out.trans (hb.mono HE13.out.size)
              have H14_a : Hid (PartsAt w14 w14.heap.size a (la)) := H13_a.out.here hb (Nat.le_refl _)
              have H14_b : Hid (PartsAt w14 w14.heap.size b (lb)) := H13_b.out.here hb (Nat.le_refl _)
              have H14_c : Hid (PartsAt w14 w14.heap.size c (lc)) := H13_c.out.here hb (Nat.le_refl _)
              have H14_d : Hid (PartsAt w14 w14.heap.size xd (compR (la) (lb))) := H13_d.out.here hb (Nat.le_refl _)
              have H14_e : Hid (PartsAt w14 w14.heap.size xe (meetL (compR (la) (lb)) (lc))) := H13_e.out.here hb (Nat.le_refl _)
              have H14_f : Hid (PartsAt w14 w14.heap.size xf (meetR (compR (la) (lb)) (lc))) := H13_f.out.here hb (Nat.le_refl _)
              have H14_g : Hid (PartsAt w14 w14.heap.size xg (meetL (la) (lc))) := H13_g.out.here hb (Nat.le_refl _)
              have H14_h : Hid (PartsAt w14 w14.heap.size xh (meetR (la) (lc))) := H13_h.out.here hb (Nat.le_refl _)
              have H14_i : Hid (PartsAt w14 w14.heap.size xi (meetL (lb) (meetR (la) (lc)))) := H13_i.out.here hb (Nat.le_refl _)
              have H14_j : Hid (PartsAt w14 w14.heap.size xj (meetR (lb) (meetR (la) (lc)))) := H13_j.out.here hb (Nat.le_refl _)
              have H14_k : Hid (PartsAt w14 w14.heap.size xk (compR (meetL (la) (lc)) (meetL (lb) (meetR (la) (lc))))) := H13_k.out.here hb (Nat.le_refl _)
              clear hb
              go_wp2_with fail
              go_ret
              exact ⟨rfl, HE14.out⟩
            · have r3 : (meetE lb (meetR la lc) != 0) = true := by simp [h3]
              clear h3
              go_wp2_with fail
              go_ret
              exact ⟨rfl, HE11.out⟩
          · have r2 : (meetE la lc != 0) = true := by simp [h2]
            clear h2
            go_wp2_with fail
            go_ret
            exact ⟨rfl, HE10.out⟩
        · have r1 : (meetE (compR la lb) lc != 0) = true := by simp [h1]
          clear h1
          go_wp2_with fail
          go_ret
          exact ⟨rfl, HE10.out⟩
      · clear hcb
        go_wp2_with fail
        go_ret
        exact ⟨rfl, HE8.out⟩
    · skip
      go_wp2_with fail
      go_ret
      exact ⟨rfl, HE7.out⟩
  · have r0 : (compE la lb != 0) = true := by simp [h0]
    have r0' : (compE la lb == 0) = false := by simp [h0]
    have HR : Hid (compR la lb = []) := by show _ = _; rw [compR, if_neg h0]
    rw [HR.out]
    clear h0
    go_wp2_with fail
    go_ret
    exact ⟨rfl, HE6.out⟩

end Go.Proofs.Ytilcmbophfjjbaa
