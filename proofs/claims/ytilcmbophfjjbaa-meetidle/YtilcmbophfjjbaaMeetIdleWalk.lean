/- The law MeetIdle, walked: it answers true. -/
import Derived.Test.YtilcmbophfjjbaaMeetKit
namespace Go.Proofs.Ytilcmbophfjjbaa
open Go.RowKit
set_option linter.unusedSimpArgs false
set_option linter.unusedVariables false

set_option maxRecDepth 100000 in
set_option maxHeartbeats 8000000 in
theorem MeetIdle_any (a : Option Addr) (la : List Pt) (ca : Nat) (w : World) (h_a : PartsAt w w.heap.size a la) (k_a : la.length ≤ ca)   :
    Calls Try.prog 6 #[.slice a la.length ca] w fun e w' => e = .returned (.bool true) ∧ Below w.heap.size w w' := by
  have HE0 : Hid (Below w.heap.size w w) := Below.refl _ _
  have H0_a : Hid (PartsAt w w.heap.size a la) := h_a
  clear h_a
  go_enter Try.func6, Try.ntmps6
  have HE1 : Hid (Below w.heap.size w (w.alloc (.cells #[.int .i64 3, .int .i64 2, .string ⟨#[]⟩] 35))) := HE0.out.alloc HE0.out.size _
  have H1_a : Hid (PartsAt (w.alloc (.cells #[.int .i64 3, .int .i64 2, .string ⟨#[]⟩] 35)) (w.alloc (.cells #[.int .i64 3, .int .i64 2, .string ⟨#[]⟩] 35)).heap.size a (la)) := H0_a.out.here ((Below.refl _ _).alloc (Nat.le_refl _) _) (Nat.le_refl _)
  have H1_p : Hid (PartsAt (w.alloc (.cells #[.int .i64 3, .int .i64 2, .string ⟨#[]⟩] 35)) (w.alloc (.cells #[.int .i64 3, .int .i64 2, .string ⟨#[]⟩] 35)).heap.size (some ⟨w.heap.size, 0, none⟩) [cutP 2]) := by
    have hh := lit_at w [cutP 2] (small_bound (by decide)) _ rfl
    try simp only [Deep.nblk_alloc] at hh ⊢
    exact hh
  have HE2 : Hid (Below w.heap.size w ((w.alloc (.cells #[.int .i64 3, .int .i64 2, .string ⟨#[]⟩] 35)).alloc (.cells #[.int .i64 1, .int .i64 1, .string ⟨#[]⟩, .int .i64 3, .int .i64 1, .string ⟨#[]⟩] 35))) := HE1.out.alloc HE1.out.size _
  have H2_a : Hid (PartsAt ((w.alloc (.cells #[.int .i64 3, .int .i64 2, .string ⟨#[]⟩] 35)).alloc (.cells #[.int .i64 1, .int .i64 1, .string ⟨#[]⟩, .int .i64 3, .int .i64 1, .string ⟨#[]⟩] 35)) ((w.alloc (.cells #[.int .i64 3, .int .i64 2, .string ⟨#[]⟩] 35)).alloc (.cells #[.int .i64 1, .int .i64 1, .string ⟨#[]⟩, .int .i64 3, .int .i64 1, .string ⟨#[]⟩] 35)).heap.size a (la)) := H1_a.out.here ((Below.refl _ _).alloc (Nat.le_refl _) _) (Nat.le_refl _)
  have H2_p : Hid (PartsAt ((w.alloc (.cells #[.int .i64 3, .int .i64 2, .string ⟨#[]⟩] 35)).alloc (.cells #[.int .i64 1, .int .i64 1, .string ⟨#[]⟩, .int .i64 3, .int .i64 1, .string ⟨#[]⟩] 35)) ((w.alloc (.cells #[.int .i64 3, .int .i64 2, .string ⟨#[]⟩] 35)).alloc (.cells #[.int .i64 1, .int .i64 1, .string ⟨#[]⟩, .int .i64 3, .int .i64 1, .string ⟨#[]⟩] 35)).heap.size (some ⟨w.heap.size, 0, none⟩) ([cutP 2])) := H1_p.out.here ((Below.refl _ _).alloc (Nat.le_refl _) _) (Nat.le_refl _)
  have H2_q : Hid (PartsAt ((w.alloc (.cells #[.int .i64 3, .int .i64 2, .string ⟨#[]⟩] 35)).alloc (.cells #[.int .i64 1, .int .i64 1, .string ⟨#[]⟩, .int .i64 3, .int .i64 1, .string ⟨#[]⟩] 35)) ((w.alloc (.cells #[.int .i64 3, .int .i64 2, .string ⟨#[]⟩] 35)).alloc (.cells #[.int .i64 1, .int .i64 1, .string ⟨#[]⟩, .int .i64 3, .int .i64 1, .string ⟨#[]⟩] 35)).heap.size (some ⟨w.heap.size + 1, 0, none⟩) [keepP 1, cutP 1]) := by
    have hh := lit_at (w.alloc (.cells #[.int .i64 3, .int .i64 2, .string ⟨#[]⟩] 35)) [keepP 1, cutP 1] (small_bound (by decide)) _ rfl
    try simp only [Deep.nblk_alloc] at hh ⊢
    exact hh
  go_wp2_with fail
  refine (meet_n litMcc (some ⟨w.heap.size, 0, none⟩) (some ⟨w.heap.size + 1, 0, none⟩) 1 2 _ H2_p.out H2_q.out 1 2 1 0 (by rfl) (by rfl) (by rfl) (by rfl)).mono ?_
  rintro e w3 ⟨xc, cc, xd, cd, rfl, h0, rc, h1, rd, hb⟩
  have HE3 : Hid (Below w.heap.size w w3) := HE2.out.trans (hb.mono HE2.out.size)
  have H3_a : Hid (PartsAt w3 w3.heap.size a (la)) := H2_a.out.here hb (Nat.le_refl _)
  have H3_p : Hid (PartsAt w3 w3.heap.size (some ⟨w.heap.size, 0, none⟩) ([cutP 2])) := H2_p.out.here hb (Nat.le_refl _)
  have H3_q : Hid (PartsAt w3 w3.heap.size (some ⟨w.heap.size + 1, 0, none⟩) ([keepP 1, cutP 1])) := H2_q.out.here hb (Nat.le_refl _)
  have H3_c : Hid (PartsAt w3 w3.heap.size xc ([cutP 1])) := h0
  have H3_d : Hid (PartsAt w3 w3.heap.size xd ([])) := h1
  clear hb h0 h1 rc rd
  clear H3_p
  clear H3_q
  clear H3_d
  have HE4 : Hid (Below w.heap.size w (w3.alloc (.cells #[.int .i64 3, .int .i64 1, .string ⟨#[]⟩] 35))) := HE3.out.alloc HE3.out.size _
  have H4_a : Hid (PartsAt (w3.alloc (.cells #[.int .i64 3, .int .i64 1, .string ⟨#[]⟩] 35)) (w3.alloc (.cells #[.int .i64 3, .int .i64 1, .string ⟨#[]⟩] 35)).heap.size a (la)) := H3_a.out.here ((Below.refl _ _).alloc (Nat.le_refl _) _) (Nat.le_refl _)
  have H4_c : Hid (PartsAt (w3.alloc (.cells #[.int .i64 3, .int .i64 1, .string ⟨#[]⟩] 35)) (w3.alloc (.cells #[.int .i64 3, .int .i64 1, .string ⟨#[]⟩] 35)).heap.size xc ([cutP 1])) := H3_c.out.here ((Below.refl _ _).alloc (Nat.le_refl _) _) (Nat.le_refl _)
  have H4_r : Hid (PartsAt (w3.alloc (.cells #[.int .i64 3, .int .i64 1, .string ⟨#[]⟩] 35)) (w3.alloc (.cells #[.int .i64 3, .int .i64 1, .string ⟨#[]⟩] 35)).heap.size (some ⟨w3.heap.size, 0, none⟩) [cutP 1]) := by
    have hh := lit_at w3 [cutP 1] (small_bound (by decide)) _ rfl
    try simp only [Deep.nblk_alloc] at hh ⊢
    exact hh
  go_wp2_with fail
  refine (same_n (la := [cutP 1]) xc (some ⟨w3.heap.size, 0, none⟩) cc 1 _ H4_c.out H4_r.out 1 (by rfl)).mono ?_
  rintro e w5 ⟨rfl, hb⟩
  have HE5 : Hid (Below w.heap.size w w5) := HE4.out.trans (hb.mono HE4.out.size)
  have H5_a : Hid (PartsAt w5 w5.heap.size a (la)) := H4_a.out.here hb (Nat.le_refl _)
  have H5_c : Hid (PartsAt w5 w5.heap.size xc ([cutP 1])) := H4_c.out.here hb (Nat.le_refl _)
  have H5_r : Hid (PartsAt w5 w5.heap.size (some ⟨w3.heap.size, 0, none⟩) ([cutP 1])) := H4_r.out.here hb (Nat.le_refl _)
  clear hb
  clear H5_c
  clear H5_r
  go_wp2_with fail
  refine (Sizes_any a (la) ca _ H5_a.out).mono ?_
  rintro e w6 ⟨rfl, hb⟩
  have HE6 : Hid (Below w.heap.size w w6) := HE5.out.trans (hb.mono HE5.out.size)
  have H6_a : Hid (PartsAt w6 w6.heap.size a (la)) := H5_a.out.here hb (Nat.le_refl _)
  clear hb
  by_cases h0 : sizesE la = 0
  · have r0 : (sizesE la != 0) = false := by simp [h0]
    obtain ⟨hsm, e1, e2⟩ := sizes_zero h0
    obtain ⟨g, cn, ii, oo, b1, b2⟩ := delta_facts h0
    obtain ⟨⟨m1, m2, m3⟩, m4, m5, m6⟩ := meet_idle h0
    have hi0 : 0 ≤ inI la := by omega
    have hi5 : inI la ≤ 500 := by omega
    have ho0 : 0 ≤ outI la := by omega
    have ho5 : outI la ≤ 500 := by omega
    have M2 : Hid (meetL la (allL (inI la)) = la) := m2
    have M3 : Hid (meetR la (allL (inI la)) = allL (outI la)) := m3
    have M5 : Hid (meetL (allL (inI la)) la = allL (outI la)) := m5
    have M6 : Hid (meetR (allL (inI la)) la = la) := m6
    rw [e1, e2]
    clear h0 hsm e1 e2 g cn ii oo b1 b2 m2 m3 m5 m6
    go_wp2_with fail
    refine (AllC_any (inI la) _ (by omega) (by omega)).mono ?_
    rintro e w7 ⟨xf, cf, rfl, h0, rf, hb⟩
    have HE7 : Hid (Below w.heap.size w w7) := HE6.out.trans (hb.mono HE6.out.size)
    have H7_a : Hid (PartsAt w7 w7.heap.size a (la)) := H6_a.out.here hb (Nat.le_refl _)
    have H7_f : Hid (PartsAt w7 w7.heap.size xf (allL (inI la))) := h0
    have R_f : Hid (Room xf (allL (inI la)) cf) := rf
    clear hb h0 rf
    go_wp2_with fail
    refine (MeetOf_any a xf (la) (allL (inI la)) ca cf _ H7_a.out H7_f.out).mono ?_
    rintro e w8 ⟨xc, cc, xd, cd, rfl, h0, rc, h1, rd, hb⟩
    have HE8 : Hid (Below w.heap.size w w8) := HE7.out.trans (hb.mono HE7.out.size)
    have H8_a : Hid (PartsAt w8 w8.heap.size a (la)) := H7_a.out.here hb (Nat.le_refl _)
    have H8_f : Hid (PartsAt w8 w8.heap.size xf (allL (inI la))) := H7_f.out.here hb (Nat.le_refl _)
    have H8_c : Hid (PartsAt w8 w8.heap.size xc (meetL (la) (allL (inI la)))) := h0
    have H8_d : Hid (PartsAt w8 w8.heap.size xd (meetR (la) (allL (inI la)))) := h1
    have R_c : Hid (Room xc (meetL (la) (allL (inI la))) cc) := rc
    have R_d : Hid (Room xd (meetR (la) (allL (inI la))) cd) := rd
    clear hb h0 h1 rc rd
    clear H8_f
    go_wp2_with fail
    refine (AllC_any (inI la) _ (by omega) (by omega)).mono ?_
    rintro e w9 ⟨xg, cg, rfl, h0, rg, hb⟩
    have HE9 : Hid (Below w.heap.size w w9) := HE8.out.trans (hb.mono HE8.out.size)
    have H9_a : Hid (PartsAt w9 w9.heap.size a (la)) := H8_a.out.here hb (Nat.le_refl _)
    have H9_c : Hid (PartsAt w9 w9.heap.size xc (meetL (la) (allL (inI la)))) := H8_c.out.here hb (Nat.le_refl _)
    have H9_d : Hid (PartsAt w9 w9.heap.size xd (meetR (la) (allL (inI la)))) := H8_d.out.here hb (Nat.le_refl _)
    have H9_g : Hid (PartsAt w9 w9.heap.size xg (allL (inI la))) := h0
    have R_g : Hid (Room xg (allL (inI la)) cg) := rg
    clear hb h0 rg
    go_wp2_with fail
    refine (MeetOf_any xg a (allL (inI la)) (la) cg ca _ H9_g.out H9_a.out).mono ?_
    rintro e w10 ⟨xx, cx, xy, cy, rfl, h0, rx, h1, ry, hb⟩
    have HE10 : Hid (Below w.heap.size w w10) := HE9.out.trans (hb.mono HE9.out.size)
    have H10_a : Hid (PartsAt w10 w10.heap.size a (la)) := H9_a.out.here hb (Nat.le_refl _)
    have H10_c : Hid (PartsAt w10 w10.heap.size xc (meetL (la) (allL (inI la)))) := H9_c.out.here hb (Nat.le_refl _)
    have H10_d : Hid (PartsAt w10 w10.heap.size xd (meetR (la) (allL (inI la)))) := H9_d.out.here hb (Nat.le_refl _)
    have H10_g : Hid (PartsAt w10 w10.heap.size xg (allL (inI la))) := H9_g.out.here hb (Nat.le_refl _)
    have H10_x : Hid (PartsAt w10 w10.heap.size xx (meetL (allL (inI la)) (la))) := h0
    have H10_y : Hid (PartsAt w10 w10.heap.size xy (meetR (allL (inI la)) (la))) := h1
    have R_x : Hid (Room xx (meetL (allL (inI la)) (la)) cx) := rx
    have R_y : Hid (Room xy (meetR (allL (inI la)) (la)) cy) := ry
    clear hb h0 h1 rx ry
    clear H10_g
    go_wp2_with fail
    refine (same_by M2.out xc a cc ca _ H10_c.out H10_a.out).mono ?_
    rintro e w11 ⟨rfl, hb⟩
    have HE11 : Hid (Below w.heap.size w w11) := HE10.out.trans (hb.mono HE10.out.size)
    have H11_a : Hid (PartsAt w11 w11.heap.size a (la)) := H10_a.out.here hb (Nat.le_refl _)
    have H11_c : Hid (PartsAt w11 w11.heap.size xc (meetL (la) (allL (inI la)))) := H10_c.out.here hb (Nat.le_refl _)
    have H11_d : Hid (PartsAt w11 w11.heap.size xd (meetR (la) (allL (inI la)))) := H10_d.out.here hb (Nat.le_refl _)
    have H11_x : Hid (PartsAt w11 w11.heap.size xx (meetL (allL (inI la)) (la))) := H10_x.out.here hb (Nat.le_refl _)
    have H11_y : Hid (PartsAt w11 w11.heap.size xy (meetR (allL (inI la)) (la))) := H10_y.out.here hb (Nat.le_refl _)
    clear hb
    clear H11_c
    go_wp2_with fail
    refine (AllC_any (outI la) _ (by omega) (by omega)).mono ?_
    rintro e w12 ⟨xh, ch, rfl, h0, rh, hb⟩
    have HE12 : Hid (Below w.heap.size w w12) := HE11.out.trans (hb.mono HE11.out.size)
    have H12_a : Hid (PartsAt w12 w12.heap.size a (la)) := H11_a.out.here hb (Nat.le_refl _)
    have H12_d : Hid (PartsAt w12 w12.heap.size xd (meetR (la) (allL (inI la)))) := H11_d.out.here hb (Nat.le_refl _)
    have H12_x : Hid (PartsAt w12 w12.heap.size xx (meetL (allL (inI la)) (la))) := H11_x.out.here hb (Nat.le_refl _)
    have H12_y : Hid (PartsAt w12 w12.heap.size xy (meetR (allL (inI la)) (la))) := H11_y.out.here hb (Nat.le_refl _)
    have H12_h : Hid (PartsAt w12 w12.heap.size xh (allL (outI la))) := h0
    have R_h : Hid (Room xh (allL (outI la)) ch) := rh
    clear hb h0 rh
    go_wp2_with fail
    refine (same_by M3.out xd xh cd ch _ H12_d.out H12_h.out).mono ?_
    rintro e w13 ⟨rfl, hb⟩
    have HE13 : Hid (Below w.heap.size w w13) := HE12.out.trans (hb.mono HE12.out.size)
    have H13_a : Hid (PartsAt w13 w13.heap.size a (la)) := H12_a.out.here hb (Nat.le_refl _)
    have H13_d : Hid (PartsAt w13 w13.heap.size xd (meetR (la) (allL (inI la)))) := H12_d.out.here hb (Nat.le_refl _)
    have H13_x : Hid (PartsAt w13 w13.heap.size xx (meetL (allL (inI la)) (la))) := H12_x.out.here hb (Nat.le_refl _)
    have H13_y : Hid (PartsAt w13 w13.heap.size xy (meetR (allL (inI la)) (la))) := H12_y.out.here hb (Nat.le_refl _)
    have H13_h : Hid (PartsAt w13 w13.heap.size xh (allL (outI la))) := H12_h.out.here hb (Nat.le_refl _)
    clear hb
    clear H13_d
    clear H13_h
    go_wp2_with fail
    refine (AllC_any (outI la) _ (by omega) (by omega)).mono ?_
    rintro e w14 ⟨xj, cj, rfl, h0, rj, hb⟩
    have HE14 : Hid (Below w.heap.size w w14) := HE13.out.trans (hb.mono HE13.out.size)
    have H14_a : Hid (PartsAt w14 w14.heap.size a (la)) := H13_a.out.here hb (Nat.le_refl _)
    have H14_x : Hid (PartsAt w14 w14.heap.size xx (meetL (allL (inI la)) (la))) := H13_x.out.here hb (Nat.le_refl _)
    have H14_y : Hid (PartsAt w14 w14.heap.size xy (meetR (allL (inI la)) (la))) := H13_y.out.here hb (Nat.le_refl _)
    have H14_j : Hid (PartsAt w14 w14.heap.size xj (allL (outI la))) := h0
    have R_j : Hid (Room xj (allL (outI la)) cj) := rj
    clear hb h0 rj
    go_wp2_with fail
    refine (same_by M5.out xx xj cx cj _ H14_x.out H14_j.out).mono ?_
    rintro e w15 ⟨rfl, hb⟩
    have HE15 : Hid (Below w.heap.size w w15) := HE14.out.trans (hb.mono HE14.out.size)
    have H15_a : Hid (PartsAt w15 w15.heap.size a (la)) := H14_a.out.here hb (Nat.le_refl _)
    have H15_x : Hid (PartsAt w15 w15.heap.size xx (meetL (allL (inI la)) (la))) := H14_x.out.here hb (Nat.le_refl _)
    have H15_y : Hid (PartsAt w15 w15.heap.size xy (meetR (allL (inI la)) (la))) := H14_y.out.here hb (Nat.le_refl _)
    have H15_j : Hid (PartsAt w15 w15.heap.size xj (allL (outI la))) := H14_j.out.here hb (Nat.le_refl _)
    clear hb
    clear H15_x
    clear H15_j
    go_wp2_with fail
    refine (same_by M6.out xy a cy ca _ H15_y.out H15_a.out).mono ?_
    rintro e w16 ⟨rfl, hb⟩
    have HE16 : Hid (Below w.heap.size w w16) := HE15.out.trans (hb.mono HE15.out.size)
    have H16_a : Hid (PartsAt w16 w16.heap.size a (la)) := H15_a.out.here hb (Nat.le_refl _)
    have H16_y : Hid (PartsAt w16 w16.heap.size xy (meetR (allL (inI la)) (la))) := H15_y.out.here hb (Nat.le_refl _)
    clear hb
    go_wp2_with fail
    go_ret
    exact ⟨rfl, HE16.out⟩
  · have r0 : (sizesE la != 0) = true := by simp [h0]
    have HI : Hid (sizesIn la = 0 ∧ sizesOut la = 0) := ⟨by rw [sizesIn, if_neg h0], by rw [sizesOut, if_neg h0]⟩
    rw [HI.out.1, HI.out.2]
    clear h0
    go_wp2_with fail
    go_ret
    exact ⟨rfl, HE6.out⟩

end Go.Proofs.Ytilcmbophfjjbaa
