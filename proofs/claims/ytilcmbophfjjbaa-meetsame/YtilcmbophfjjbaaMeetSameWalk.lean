/- The law MeetSame, walked: it answers true. -/
import Derived.Test.YtilcmbophfjjbaaMeetKit
import Derived.Test.YtilcmbophfjjbaaDo
import Derived.Test.YtilcmbophfjjbaaCompDoesKit
namespace Go.Proofs.Ytilcmbophfjjbaa
open Go.RowKit
set_option linter.unusedSimpArgs false
set_option linter.unusedVariables false

theorem meet_do {la lb : List Pt} {s t : ByteArray} (h : meetE la lb = 0) (ht : t.data.toList = doT la s) :
    fitsE (compR la (meetR la lb)) s.size = fitsE la s.size ∧ (fitsE la s.size = 0 → fitsE (meetR la lb) t.size = 0 ∧ doT (compR la (meetR la lb)) s = doT (meetR la lb) t) := by
  obtain ⟨e1, e2, e3⟩ := meet_same h
  obtain ⟨r, c1, c2, c3, c4, c5, c6, _⟩ := comp_facts e1
  obtain ⟨za, zb, zi, _⟩ := meet_zero h
  obtain ⟨x1, y1, x2, y2, x3, _, _⟩ := meet_facts h
  have hf : fitsE (compR la (meetR la lb)) s.size = fitsE la s.size := by rw [c6, fitsE, if_pos c3, fitsE, if_pos za, c4]
  refine ⟨hf, fun h0 => ?_⟩
  obtain ⟨_, hin⟩ := fits_zero h0
  have hsl : (s.data.toList.length : Int) = inI la := by rw [hin]; exact congrArg Nat.cast Array.length_toList
  have hd : doT la s = doL la s.data.toList := by rw [doT, if_pos h0]
  rw [hd] at ht
  have htl : t.data.toList.length = t.size := Array.length_toList
  obtain ⟨g, cn, i, o, b1, b2⟩ := delta_facts za
  have hlen : ((doL la s.data.toList).length : Int) = outI la := by
    rw [doL_word, doW_len _ _ (by omega), o]
  have hft : fitsE (meetR la lb) t.size = 0 := by
    rw [fitsE, if_pos y1, if_pos]
    rw [y2, ← htl, ht]; omega
  refine ⟨hft, ?_⟩
  rw [doT, if_pos (by rw [hf]; exact h0), doT, if_pos hft, c6, comp_does e1 hsl, ht]

set_option maxRecDepth 100000 in
set_option maxHeartbeats 8000000 in
theorem MeetSame_any (a : Option Addr) (la : List Pt) (ca : Nat) (b : Option Addr) (lb : List Pt) (cb : Nat) (s : ByteArray) (w : World) (h_a : PartsAt w w.heap.size a la) (h_b : PartsAt w w.heap.size b lb) (k_a : la.length ≤ ca) (k_b : lb.length ≤ cb) (z_s : s.size ≤ 9223372036854775807)  :
    Calls Try.prog 5 #[.slice a la.length ca, .slice b lb.length cb, .string s] w fun e w' => e = .returned (.bool true) ∧ Below w.heap.size w w' := by
  have HE0 : Hid (Below w.heap.size w w) := Below.refl _ _
  have H0_a : Hid (PartsAt w w.heap.size a la) := h_a
  have H0_b : Hid (PartsAt w w.heap.size b lb) := h_b
  clear h_a h_b
  go_enter Try.func5, Try.ntmps5
  go_wp2_with fail
  refine (put_any ⟨#[97]⟩ _ (by decide)).mono ?_
  rintro e w1 ⟨rfl, h0, hb⟩
  have HE1 : Hid (Below w.heap.size w w1) := HE0.out.trans (hb.mono HE0.out.size)
  have H1_a : Hid (PartsAt w1 w1.heap.size a (la)) := H0_a.out.here hb (Nat.le_refl _)
  have H1_b : Hid (PartsAt w1 w1.heap.size b (lb)) := H0_b.out.here hb (Nat.le_refl _)
  have H1_p : Hid (PartsAt w1 w1.heap.size (some ⟨w.heap.size, 0, none⟩) ([putP ⟨#[97]⟩])) := h0
  clear hb h0
  go_wp2_with fail
  refine (put_any ⟨#[98]⟩ _ (by decide)).mono ?_
  rintro e w2 ⟨rfl, h0, hb⟩
  have HE2 : Hid (Below w.heap.size w w2) := HE1.out.trans (hb.mono HE1.out.size)
  have H2_a : Hid (PartsAt w2 w2.heap.size a (la)) := H1_a.out.here hb (Nat.le_refl _)
  have H2_b : Hid (PartsAt w2 w2.heap.size b (lb)) := H1_b.out.here hb (Nat.le_refl _)
  have H2_p : Hid (PartsAt w2 w2.heap.size (some ⟨w.heap.size, 0, none⟩) ([putP ⟨#[97]⟩])) := H1_p.out.here hb (Nat.le_refl _)
  have H2_q : Hid (PartsAt w2 w2.heap.size (some ⟨w1.heap.size, 0, none⟩) ([putP ⟨#[98]⟩])) := h0
  clear hb h0
  go_wp2_with fail
  refine (meet_n litMab (some ⟨w.heap.size, 0, none⟩) (some ⟨w1.heap.size, 0, none⟩) 1 1 _ H2_p.out H2_q.out 1 1 2 2 (by rfl) (by rfl) (by rfl) (by rfl)).mono ?_
  rintro e w3 ⟨xc, cc, xd, cd, rfl, h0, rc, h1, rd, hb⟩
  have HE3 : Hid (Below w.heap.size w w3) := HE2.out.trans (hb.mono HE2.out.size)
  have H3_a : Hid (PartsAt w3 w3.heap.size a (la)) := H2_a.out.here hb (Nat.le_refl _)
  have H3_b : Hid (PartsAt w3 w3.heap.size b (lb)) := H2_b.out.here hb (Nat.le_refl _)
  have H3_p : Hid (PartsAt w3 w3.heap.size (some ⟨w.heap.size, 0, none⟩) ([putP ⟨#[97]⟩])) := H2_p.out.here hb (Nat.le_refl _)
  have H3_q : Hid (PartsAt w3 w3.heap.size (some ⟨w1.heap.size, 0, none⟩) ([putP ⟨#[98]⟩])) := H2_q.out.here hb (Nat.le_refl _)
  have H3_c : Hid (PartsAt w3 w3.heap.size xc ([putP ⟨#[97]⟩, keepP 1])) := h0
  have H3_d : Hid (PartsAt w3 w3.heap.size xd ([keepP 1, putP ⟨#[98]⟩])) := h1
  clear hb h0 h1 rc rd
  clear H3_p
  clear H3_q
  have HE4 : Hid (Below w.heap.size w (w3.alloc (.cells #[.int .i64 2, .int .i64 0, .string ⟨#[97]⟩, .int .i64 1, .int .i64 1, .string ⟨#[]⟩] 35))) := HE3.out.alloc HE3.out.size _
  have H4_a : Hid (PartsAt (w3.alloc (.cells #[.int .i64 2, .int .i64 0, .string ⟨#[97]⟩, .int .i64 1, .int .i64 1, .string ⟨#[]⟩] 35)) (w3.alloc (.cells #[.int .i64 2, .int .i64 0, .string ⟨#[97]⟩, .int .i64 1, .int .i64 1, .string ⟨#[]⟩] 35)).heap.size a (la)) := H3_a.out.here ((Below.refl _ _).alloc (Nat.le_refl _) _) (Nat.le_refl _)
  have H4_b : Hid (PartsAt (w3.alloc (.cells #[.int .i64 2, .int .i64 0, .string ⟨#[97]⟩, .int .i64 1, .int .i64 1, .string ⟨#[]⟩] 35)) (w3.alloc (.cells #[.int .i64 2, .int .i64 0, .string ⟨#[97]⟩, .int .i64 1, .int .i64 1, .string ⟨#[]⟩] 35)).heap.size b (lb)) := H3_b.out.here ((Below.refl _ _).alloc (Nat.le_refl _) _) (Nat.le_refl _)
  have H4_c : Hid (PartsAt (w3.alloc (.cells #[.int .i64 2, .int .i64 0, .string ⟨#[97]⟩, .int .i64 1, .int .i64 1, .string ⟨#[]⟩] 35)) (w3.alloc (.cells #[.int .i64 2, .int .i64 0, .string ⟨#[97]⟩, .int .i64 1, .int .i64 1, .string ⟨#[]⟩] 35)).heap.size xc ([putP ⟨#[97]⟩, keepP 1])) := H3_c.out.here ((Below.refl _ _).alloc (Nat.le_refl _) _) (Nat.le_refl _)
  have H4_d : Hid (PartsAt (w3.alloc (.cells #[.int .i64 2, .int .i64 0, .string ⟨#[97]⟩, .int .i64 1, .int .i64 1, .string ⟨#[]⟩] 35)) (w3.alloc (.cells #[.int .i64 2, .int .i64 0, .string ⟨#[97]⟩, .int .i64 1, .int .i64 1, .string ⟨#[]⟩] 35)).heap.size xd ([keepP 1, putP ⟨#[98]⟩])) := H3_d.out.here ((Below.refl _ _).alloc (Nat.le_refl _) _) (Nat.le_refl _)
  have H4_r : Hid (PartsAt (w3.alloc (.cells #[.int .i64 2, .int .i64 0, .string ⟨#[97]⟩, .int .i64 1, .int .i64 1, .string ⟨#[]⟩] 35)) (w3.alloc (.cells #[.int .i64 2, .int .i64 0, .string ⟨#[97]⟩, .int .i64 1, .int .i64 1, .string ⟨#[]⟩] 35)).heap.size (some ⟨w3.heap.size, 0, none⟩) [putP ⟨#[97]⟩, keepP 1]) := by
    have hh := lit_at w3 [putP ⟨#[97]⟩, keepP 1] (small_bound (by decide)) _ rfl
    try simp only [Deep.nblk_alloc] at hh ⊢
    exact hh
  go_wp2_with fail
  refine (same_n (la := [putP ⟨#[97]⟩, keepP 1]) xc (some ⟨w3.heap.size, 0, none⟩) cc 2 _ H4_c.out H4_r.out 2 (by rfl)).mono ?_
  rintro e w5 ⟨rfl, hb⟩
  have HE5 : Hid (Below w.heap.size w w5) := HE4.out.trans (hb.mono HE4.out.size)
  have H5_a : Hid (PartsAt w5 w5.heap.size a (la)) := H4_a.out.here hb (Nat.le_refl _)
  have H5_b : Hid (PartsAt w5 w5.heap.size b (lb)) := H4_b.out.here hb (Nat.le_refl _)
  have H5_c : Hid (PartsAt w5 w5.heap.size xc ([putP ⟨#[97]⟩, keepP 1])) := H4_c.out.here hb (Nat.le_refl _)
  have H5_d : Hid (PartsAt w5 w5.heap.size xd ([keepP 1, putP ⟨#[98]⟩])) := H4_d.out.here hb (Nat.le_refl _)
  have H5_r : Hid (PartsAt w5 w5.heap.size (some ⟨w3.heap.size, 0, none⟩) ([putP ⟨#[97]⟩, keepP 1])) := H4_r.out.here hb (Nat.le_refl _)
  clear hb
  clear H5_c
  clear H5_r
  have HE6 : Hid (Below w.heap.size w (w5.alloc (.cells #[.int .i64 1, .int .i64 1, .string ⟨#[]⟩, .int .i64 2, .int .i64 0, .string ⟨#[98]⟩] 35))) := HE5.out.alloc HE5.out.size _
  have H6_a : Hid (PartsAt (w5.alloc (.cells #[.int .i64 1, .int .i64 1, .string ⟨#[]⟩, .int .i64 2, .int .i64 0, .string ⟨#[98]⟩] 35)) (w5.alloc (.cells #[.int .i64 1, .int .i64 1, .string ⟨#[]⟩, .int .i64 2, .int .i64 0, .string ⟨#[98]⟩] 35)).heap.size a (la)) := H5_a.out.here ((Below.refl _ _).alloc (Nat.le_refl _) _) (Nat.le_refl _)
  have H6_b : Hid (PartsAt (w5.alloc (.cells #[.int .i64 1, .int .i64 1, .string ⟨#[]⟩, .int .i64 2, .int .i64 0, .string ⟨#[98]⟩] 35)) (w5.alloc (.cells #[.int .i64 1, .int .i64 1, .string ⟨#[]⟩, .int .i64 2, .int .i64 0, .string ⟨#[98]⟩] 35)).heap.size b (lb)) := H5_b.out.here ((Below.refl _ _).alloc (Nat.le_refl _) _) (Nat.le_refl _)
  have H6_d : Hid (PartsAt (w5.alloc (.cells #[.int .i64 1, .int .i64 1, .string ⟨#[]⟩, .int .i64 2, .int .i64 0, .string ⟨#[98]⟩] 35)) (w5.alloc (.cells #[.int .i64 1, .int .i64 1, .string ⟨#[]⟩, .int .i64 2, .int .i64 0, .string ⟨#[98]⟩] 35)).heap.size xd ([keepP 1, putP ⟨#[98]⟩])) := H5_d.out.here ((Below.refl _ _).alloc (Nat.le_refl _) _) (Nat.le_refl _)
  have H6_r : Hid (PartsAt (w5.alloc (.cells #[.int .i64 1, .int .i64 1, .string ⟨#[]⟩, .int .i64 2, .int .i64 0, .string ⟨#[98]⟩] 35)) (w5.alloc (.cells #[.int .i64 1, .int .i64 1, .string ⟨#[]⟩, .int .i64 2, .int .i64 0, .string ⟨#[98]⟩] 35)).heap.size (some ⟨w5.heap.size, 0, none⟩) [keepP 1, putP ⟨#[98]⟩]) := by
    have hh := lit_at w5 [keepP 1, putP ⟨#[98]⟩] (small_bound (by decide)) _ rfl
    try simp only [Deep.nblk_alloc] at hh ⊢
    exact hh
  go_wp2_with fail
  refine (same_n (la := [keepP 1, putP ⟨#[98]⟩]) xd (some ⟨w5.heap.size, 0, none⟩) cd 2 _ H6_d.out H6_r.out 2 (by rfl)).mono ?_
  rintro e w7 ⟨rfl, hb⟩
  have HE7 : Hid (Below w.heap.size w w7) := HE6.out.trans (hb.mono HE6.out.size)
  have H7_a : Hid (PartsAt w7 w7.heap.size a (la)) := H6_a.out.here hb (Nat.le_refl _)
  have H7_b : Hid (PartsAt w7 w7.heap.size b (lb)) := H6_b.out.here hb (Nat.le_refl _)
  have H7_d : Hid (PartsAt w7 w7.heap.size xd ([keepP 1, putP ⟨#[98]⟩])) := H6_d.out.here hb (Nat.le_refl _)
  have H7_r : Hid (PartsAt w7 w7.heap.size (some ⟨w5.heap.size, 0, none⟩) ([keepP 1, putP ⟨#[98]⟩])) := H6_r.out.here hb (Nat.le_refl _)
  clear hb
  clear H7_d
  clear H7_r
  go_wp2_with fail
  refine (MeetOf_any a b (la) (lb) ca cb _ H7_a.out H7_b.out).mono ?_
  rintro e w8 ⟨xe, ce, xf, cf, rfl, h0, re, h1, rf, hb⟩
  have HE8 : Hid (Below w.heap.size w w8) := HE7.out.trans (hb.mono HE7.out.size)
  have H8_a : Hid (PartsAt w8 w8.heap.size a (la)) := H7_a.out.here hb (Nat.le_refl _)
  have H8_b : Hid (PartsAt w8 w8.heap.size b (lb)) := H7_b.out.here hb (Nat.le_refl _)
  have H8_e : Hid (PartsAt w8 w8.heap.size xe (meetL (la) (lb))) := h0
  have H8_f : Hid (PartsAt w8 w8.heap.size xf (meetR (la) (lb))) := h1
  have R_e : Hid (Room xe (meetL (la) (lb)) ce) := re
  have R_f : Hid (Room xf (meetR (la) (lb)) cf) := rf
  clear hb h0 h1 re rf
  by_cases h0 : meetE la lb = 0
  · have r0 : (meetE la lb != 0) = false := by simp [h0]
    obtain ⟨k1, k2, k3⟩ := meet_same h0
    have HZ : Hid (meetE la lb = 0) := h0
    have K3 : Hid (compR la (meetR la lb) = compR lb (meetL la lb)) := k3
    clear h0 k3
    go_wp2_with fail
    refine (CompOf_any a xf (la) (meetR (la) (lb)) ca cf _ H8_a.out H8_f.out k_a).mono ?_
    rintro e w9 ⟨xx, cx, rfl, h0, rx, hb⟩
    have HE9 : Hid (Below w.heap.size w w9) := HE8.out.trans (hb.mono HE8.out.size)
    have H9_a : Hid (PartsAt w9 w9.heap.size a (la)) := H8_a.out.here hb (Nat.le_refl _)
    have H9_b : Hid (PartsAt w9 w9.heap.size b (lb)) := H8_b.out.here hb (Nat.le_refl _)
    have H9_e : Hid (PartsAt w9 w9.heap.size xe (meetL (la) (lb))) := H8_e.out.here hb (Nat.le_refl _)
    have H9_f : Hid (PartsAt w9 w9.heap.size xf (meetR (la) (lb))) := H8_f.out.here hb (Nat.le_refl _)
    have H9_x : Hid (PartsAt w9 w9.heap.size xx (compR (la) (meetR (la) (lb)))) := h0
    have R_x : Hid (Room xx (compR (la) (meetR (la) (lb))) cx) := rx
    clear hb h0 rx
    go_wp2_with fail
    refine (CompOf_any b xe (lb) (meetL (la) (lb)) cb ce _ H9_b.out H9_e.out k_b).mono ?_
    rintro e w10 ⟨xy, cy, rfl, h0, ry, hb⟩
    have HE10 : Hid (Below w.heap.size w w10) := HE9.out.trans (hb.mono HE9.out.size)
    have H10_a : Hid (PartsAt w10 w10.heap.size a (la)) := H9_a.out.here hb (Nat.le_refl _)
    have H10_b : Hid (PartsAt w10 w10.heap.size b (lb)) := H9_b.out.here hb (Nat.le_refl _)
    have H10_e : Hid (PartsAt w10 w10.heap.size xe (meetL (la) (lb))) := H9_e.out.here hb (Nat.le_refl _)
    have H10_f : Hid (PartsAt w10 w10.heap.size xf (meetR (la) (lb))) := H9_f.out.here hb (Nat.le_refl _)
    have H10_x : Hid (PartsAt w10 w10.heap.size xx (compR (la) (meetR (la) (lb)))) := H9_x.out.here hb (Nat.le_refl _)
    have H10_y : Hid (PartsAt w10 w10.heap.size xy (compR (lb) (meetL (la) (lb)))) := h0
    have R_y : Hid (Room xy (compR (lb) (meetL (la) (lb))) cy) := ry
    clear hb h0 ry
    go_wp2_with fail
    refine (same_by K3.out xx xy cx cy _ H10_x.out H10_y.out).mono ?_
    rintro e w11 ⟨rfl, hb⟩
    have HE11 : Hid (Below w.heap.size w w11) := HE10.out.trans (hb.mono HE10.out.size)
    have H11_a : Hid (PartsAt w11 w11.heap.size a (la)) := H10_a.out.here hb (Nat.le_refl _)
    have H11_b : Hid (PartsAt w11 w11.heap.size b (lb)) := H10_b.out.here hb (Nat.le_refl _)
    have H11_e : Hid (PartsAt w11 w11.heap.size xe (meetL (la) (lb))) := H10_e.out.here hb (Nat.le_refl _)
    have H11_f : Hid (PartsAt w11 w11.heap.size xf (meetR (la) (lb))) := H10_f.out.here hb (Nat.le_refl _)
    have H11_x : Hid (PartsAt w11 w11.heap.size xx (compR (la) (meetR (la) (lb)))) := H10_x.out.here hb (Nat.le_refl _)
    have H11_y : Hid (PartsAt w11 w11.heap.size xy (compR (lb) (meetL (la) (lb)))) := H10_y.out.here hb (Nat.le_refl _)
    clear hb
    clear H11_y
    clear H11_e
    go_wp2_with fail
    refine (Do_any xx (compR (la) (meetR (la) (lb))) cx s _ H11_x.out z_s).mono ?_
    rintro e w12 ⟨rfl, hb⟩
    have HE12 : Hid (Below w.heap.size w w12) := HE11.out.trans (hb.mono HE11.out.size)
    have H12_a : Hid (PartsAt w12 w12.heap.size a (la)) := H11_a.out.here hb (Nat.le_refl _)
    have H12_b : Hid (PartsAt w12 w12.heap.size b (lb)) := H11_b.out.here hb (Nat.le_refl _)
    have H12_f : Hid (PartsAt w12 w12.heap.size xf (meetR (la) (lb))) := H11_f.out.here hb (Nat.le_refl _)
    have H12_x : Hid (PartsAt w12 w12.heap.size xx (compR (la) (meetR (la) (lb)))) := H11_x.out.here hb (Nat.le_refl _)
    clear hb
    obtain ⟨t, HT_t⟩ : ∃ t, Hid ((⟨(doT (compR (la) (meetR (la) (lb))) s).toArray⟩ : ByteArray) = t) := ⟨_, rfl⟩
    rw [HT_t.out]
    have HD_t : Hid (t.data.toList = doT (compR (la) (meetR (la) (lb))) s) := by show _ = _; rw [← HT_t.out]
    have z5_t : t.size ≤ 500 := by have h := doT_len (compR (la) (meetR (la) (lb))) s; rw [← HD_t.out] at h; exact h
    go_wp2_with fail
    refine (Do_any a (la) ca s _ H12_a.out z_s).mono ?_
    rintro e w13 ⟨rfl, hb⟩
    have HE13 : Hid (Below w.heap.size w w13) := HE12.out.trans (hb.mono HE12.out.size)
    have H13_a : Hid (PartsAt w13 w13.heap.size a (la)) := H12_a.out.here hb (Nat.le_refl _)
    have H13_b : Hid (PartsAt w13 w13.heap.size b (lb)) := H12_b.out.here hb (Nat.le_refl _)
    have H13_f : Hid (PartsAt w13 w13.heap.size xf (meetR (la) (lb))) := H12_f.out.here hb (Nat.le_refl _)
    have H13_x : Hid (PartsAt w13 w13.heap.size xx (compR (la) (meetR (la) (lb)))) := H12_x.out.here hb (Nat.le_refl _)
    clear hb
    obtain ⟨u, HT_u⟩ : ∃ t, Hid ((⟨(doT (la) s).toArray⟩ : ByteArray) = t) := ⟨_, rfl⟩
    rw [HT_u.out]
    have HD_u : Hid (u.data.toList = doT (la) s) := by show _ = _; rw [← HT_u.out]
    have z5_u : u.size ≤ 500 := by have h := doT_len (la) s; rw [← HD_u.out] at h; exact h
    go_wp2_with fail
    refine (Do_any xf (meetR (la) (lb)) cf u _ H13_f.out (by omega)).mono ?_
    rintro e w14 ⟨rfl, hb⟩
    have HE14 : Hid (Below w.heap.size w w14) := HE13.out.trans (hb.mono HE13.out.size)
    have H14_a : Hid (PartsAt w14 w14.heap.size a (la)) := H13_a.out.here hb (Nat.le_refl _)
    have H14_b : Hid (PartsAt w14 w14.heap.size b (lb)) := H13_b.out.here hb (Nat.le_refl _)
    have H14_f : Hid (PartsAt w14 w14.heap.size xf (meetR (la) (lb))) := H13_f.out.here hb (Nat.le_refl _)
    have H14_x : Hid (PartsAt w14 w14.heap.size xx (compR (la) (meetR (la) (lb)))) := H13_x.out.here hb (Nat.le_refl _)
    clear hb
    obtain ⟨v, HT_v⟩ : ∃ t, Hid ((⟨(doT (meetR (la) (lb)) u).toArray⟩ : ByteArray) = t) := ⟨_, rfl⟩
    rw [HT_v.out]
    have HD_v : Hid (v.data.toList = doT (meetR (la) (lb)) u) := by show _ = _; rw [← HT_v.out]
    have z5_v : v.size ≤ 500 := by have h := doT_len (meetR (la) (lb)) u; rw [← HD_v.out] at h; exact h
    obtain ⟨n1, n2⟩ := meet_do HZ.out HD_u.out
    rw [n1]
    have hself : (fitsE la s.size == fitsE la s.size) = true := by simp
    by_cases h1 : fitsE la s.size = 0
    · obtain ⟨n3, n4⟩ := n2 h1
      have hq : t = v := by rw [← HT_t.out, ← HT_v.out, n4]
      subst hq
      have r1 : (fitsE la s.size != 0) = false := by simp [h1]
      clear n1 n2 n4 h1
      go_wp2_with fail
      go_ret
      exact ⟨rfl, HE14.out⟩
    · have r1 : (fitsE la s.size != 0) = true := by simp [h1]
      clear n1 n2 h1
      go_wp2_with fail
      go_ret
      exact ⟨rfl, HE14.out⟩
  · have r0 : (meetE la lb != 0) = true := by simp [h0]
    have HR : Hid (meetL la lb = [] ∧ meetR la lb = []) := ⟨by rw [meetL, if_neg h0], by rw [meetR, if_neg h0]⟩
    rw [HR.out.1, HR.out.2]
    clear h0
    go_wp2_with fail
    go_ret
    exact ⟨rfl, HE8.out⟩

end Go.Proofs.Ytilcmbophfjjbaa
