/- The law SpotOrders, walked: it answers true. -/
import Derived.Test.YtilcmbophfjjbaaMeetKit
namespace Go.Proofs.Ytilcmbophfjjbaa
open Go.RowKit
set_option linter.unusedSimpArgs false
set_option linter.unusedVariables false

theorem spot_ord {l : List Pt} (h : sizesE l = 0) {r q : Nat} (h1 : r < (inI l).toNat + 1) (h2 : q < (inI l).toNat + 1) (hrq : r ≤ q) :
    (spotE l r = 0 ∧ spotE l q = 0 ∧ spotE l 0 = 0 ∧ spotE l (inI l) = 0) ∧ spotR l r false ≤ spotR l r true ∧ spotR l q false ≤ spotR l q true ∧ spotR l r false ≤ spotR l q false ∧ spotR l r true ≤ spotR l q true ∧ (r = q ∨ spotR l r true ≤ spotR l q false) ∧ spotR l 0 false = 0 ∧ spotR l (inI l) true = outI l := by
  obtain ⟨g, c, i, o, b1, b2⟩ := delta_facts h
  have e1 := spotE_ok (d := l) (at_ := (r : Int)) h (by omega) (by omega)
  have e2 := spotE_ok (d := l) (at_ := (q : Int)) h (by omega) (by omega)
  have e3 := spotE_ok (d := l) (at_ := 0) h (by omega) (by omega)
  have e4 := spotE_ok (d := l) (at_ := inI l) h (by omega) (by omega)
  have f1 : ∀ t, spotR l r t = (spotW (wordL l) r t : Int) := fun t => by rw [spotR, if_pos e1]; rfl
  have f2 : ∀ t, spotR l q t = (spotW (wordL l) q t : Int) := fun t => by rw [spotR, if_pos e2]; rfl
  have f3 : spotR l 0 false = 0 := by rw [spotR, if_pos e3]; simp [spot_zero]
  have f4 : spotR l (inI l) true = outI l := by rw [spotR, if_pos e4, show (inI l).toNat = inW (wordL l) by omega, spot_end, o]
  have l1 := spot_late (wordL l) r
  have l2 := spot_late (wordL l) q
  have l3 : r = q ∨ spotW (wordL l) r true ≤ spotW (wordL l) q false := by
    rcases Nat.lt_or_ge r q with hlt | hge
    · right; exact spot_mono (wordL l) hlt (by omega)
    · left; omega
  rw [f1, f1, f2, f2]
  refine ⟨⟨e1, e2, e3, e4⟩, by omega, by omega, ?_, ?_, ?_, f3, f4⟩
  · rcases l3 with rfl | l3 <;> omega
  · rcases l3 with rfl | l3 <;> omega
  · rcases l3 with l3 | l3
    · left; exact l3
    · right; omega

set_option maxRecDepth 100000 in
set_option maxHeartbeats 8000000 in
theorem SpotOrders_any (a : Option Addr) (la : List Pt) (ca : Nat) (i : Int) (k : Int) (w : World) (h_a : PartsAt w w.heap.size a la) (k_a : la.length ≤ ca)  (w_i : -9223372036854775808 ≤ i ∧ i ≤ 9223372036854775807) (w_k : -9223372036854775808 ≤ k ∧ k ≤ 9223372036854775807) :
    Calls Try.prog 8 #[.slice a la.length ca, .int .i64 i, .int .i64 k] w fun e w' => e = .returned (.bool true) ∧ Below w.heap.size w w' := by
  have HE0 : Hid (Below w.heap.size w w) := Below.refl _ _
  have H0_a : Hid (PartsAt w w.heap.size a la) := h_a
  clear h_a
  go_enter Try.func8, Try.ntmps8
  go_wp2_with fail
  refine (put_any ⟨#[97, 98]⟩ _ (by decide)).mono ?_
  rintro e w1 ⟨rfl, h0, hb⟩
  have HE1 : Hid (Below w.heap.size w w1) := HE0.out.trans (hb.mono HE0.out.size)
  have H1_a : Hid (PartsAt w1 w1.heap.size a (la)) := H0_a.out.here hb (Nat.le_refl _)
  have H1_p : Hid (PartsAt w1 w1.heap.size (some ⟨w.heap.size, 0, none⟩) ([putP ⟨#[97, 98]⟩])) := h0
  clear hb h0
  go_wp2_with fail
  refine (spot_n litS2 (some ⟨w.heap.size, 0, none⟩) 1 _ H1_p.out 1 (by rfl)).mono ?_
  rintro e w2 ⟨rfl, hb⟩
  have HE2 : Hid (Below w.heap.size w w2) := HE1.out.trans (hb.mono HE1.out.size)
  have H2_a : Hid (PartsAt w2 w2.heap.size a (la)) := H1_a.out.here hb (Nat.le_refl _)
  have H2_p : Hid (PartsAt w2 w2.heap.size (some ⟨w.heap.size, 0, none⟩) ([putP ⟨#[97, 98]⟩])) := H1_p.out.here hb (Nat.le_refl _)
  clear hb
  clear H2_p
  go_wp2_with fail
  refine (Sizes_any a (la) ca _ H2_a.out).mono ?_
  rintro e w3 ⟨rfl, hb⟩
  have HE3 : Hid (Below w.heap.size w w3) := HE2.out.trans (hb.mono HE2.out.size)
  have H3_a : Hid (PartsAt w3 w3.heap.size a (la)) := H2_a.out.here hb (Nat.le_refl _)
  clear hb
  by_cases h0 : sizesE la = 0
  · have r0 : (sizesE la != 0) = false := by simp [h0]
    obtain ⟨hsm, e1, e2⟩ := sizes_zero h0
    obtain ⟨g, cn, ii, oo, b1, b2⟩ := delta_facts h0
    obtain ⟨m, hm⟩ : ∃ m : Nat, inI la = (m : Int) := ⟨(inI la).toNat, by omega⟩
    have hm5 : m ≤ 500 := by omega
    have HM : Hid (inI la = (m : Int)) := hm
    have HZ : Hid (sizesE la = 0) := h0
    have HO : Hid (sizesOut la = outI la) := e2
    rw [e1, hm, e2]
    clear h0 hsm e1 e2 g cn ii oo b1 b2 hm
    go_wp2_with fail
    refine (Within_any i (m + 1) _ (by omega) (by omega)).mono ?_
    rintro e w4 ⟨r, rfl, l_r, ew⟩
    subst ew
    go_wp2_with fail
    refine (Within_any k (m + 1) _ (by omega) (by omega)).mono ?_
    rintro e w4 ⟨q, rfl, l_q, ew⟩
    subst ew
    rcases Nat.lt_trichotomy r q with ho | ho | ho
    · have t1 : (r : Int) < (q : Int) := by omega
      have t2 : ¬ (q : Int) < (r : Int) := by omega
      have t3 : ((r : Int) == (q : Int)) = false := by simp; omega
      obtain ⟨⟨s1, s2, s3, s4⟩, s5, s6, s7, s8, s9, s10, s11⟩ := spot_ord HZ.out (r := r) (q := q) (by have := HM.out; omega) (by have := HM.out; omega) (by omega)
      rw [HM.out] at s4 s11
      have u1 : spotR la (r : Int) true ≤ spotR la (q : Int) true := s8
      clear s8
      have u2 : spotR la (r : Int) true ≤ spotR la (q : Int) false := by rcases s9 with h | h <;> omega
      clear s9 ho
      go_wp2_with fail
      refine (SpotOf_any a (la) ca (r : Int) false _ H3_a.out (by omega)).mono ?_
      rintro e w4 ⟨rfl, hb⟩
      have HE4 : Hid (Below w.heap.size w w4) := HE3.out.trans (hb.mono HE3.out.size)
      have H4_a : Hid (PartsAt w4 w4.heap.size a (la)) := H3_a.out.here hb (Nat.le_refl _)
      clear hb
      go_wp2_with fail
      refine (SpotOf_any a (la) ca (r : Int) true _ H4_a.out (by omega)).mono ?_
      rintro e w5 ⟨rfl, hb⟩
      have HE5 : Hid (Below w.heap.size w w5) := HE4.out.trans (hb.mono HE4.out.size)
      have H5_a : Hid (PartsAt w5 w5.heap.size a (la)) := H4_a.out.here hb (Nat.le_refl _)
      clear hb
      go_wp2_with fail
      refine (SpotOf_any a (la) ca (q : Int) false _ H5_a.out (by omega)).mono ?_
      rintro e w6 ⟨rfl, hb⟩
      have HE6 : Hid (Below w.heap.size w w6) := HE5.out.trans (hb.mono HE5.out.size)
      have H6_a : Hid (PartsAt w6 w6.heap.size a (la)) := H5_a.out.here hb (Nat.le_refl _)
      clear hb
      go_wp2_with fail
      refine (SpotOf_any a (la) ca (q : Int) true _ H6_a.out (by omega)).mono ?_
      rintro e w7 ⟨rfl, hb⟩
      have HE7 : Hid (Below w.heap.size w w7) := HE6.out.trans (hb.mono HE6.out.size)
      have H7_a : Hid (PartsAt w7 w7.heap.size a (la)) := H6_a.out.here hb (Nat.le_refl _)
      clear hb
      go_wp2_with fail
      refine (SpotOf_any a (la) ca 0 false _ H7_a.out (by omega)).mono ?_
      rintro e w8 ⟨rfl, hb⟩
      have HE8 : Hid (Below w.heap.size w w8) := HE7.out.trans (hb.mono HE7.out.size)
      have H8_a : Hid (PartsAt w8 w8.heap.size a (la)) := H7_a.out.here hb (Nat.le_refl _)
      clear hb
      go_wp2_with fail
      refine (SpotOf_any a (la) ca (m : Int) true _ H8_a.out (by omega)).mono ?_
      rintro e w9 ⟨rfl, hb⟩
      have HE9 : Hid (Below w.heap.size w w9) := HE8.out.trans (hb.mono HE8.out.size)
      have H9_a : Hid (PartsAt w9 w9.heap.size a (la)) := H8_a.out.here hb (Nat.le_refl _)
      clear hb
      go_wp2_with fail
      go_ret
      exact ⟨rfl, HE9.out⟩
    · subst ho
      obtain ⟨⟨s1, s2, s3, s4⟩, s5, s6, s7, s8, s9, s10, s11⟩ := spot_ord HZ.out (r := r) (q := r) (by have := HM.out; omega) (by have := HM.out; omega) (by omega)
      rw [HM.out] at s4 s11
      have u1 : spotR la (r : Int) true ≤ spotR la (r : Int) true := s8
      clear s8
      clear s9
      go_wp2_with fail
      refine (SpotOf_any a (la) ca (r : Int) false _ H3_a.out (by omega)).mono ?_
      rintro e w10 ⟨rfl, hb⟩
      have HE10 : Hid (Below w.heap.size w w10) := HE3.out.trans (hb.mono HE3.out.size)
      have H10_a : Hid (PartsAt w10 w10.heap.size a (la)) := H3_a.out.here hb (Nat.le_refl _)
      clear hb
      go_wp2_with fail
      refine (SpotOf_any a (la) ca (r : Int) true _ H10_a.out (by omega)).mono ?_
      rintro e w11 ⟨rfl, hb⟩
      have HE11 : Hid (Below w.heap.size w w11) := HE10.out.trans (hb.mono HE10.out.size)
      have H11_a : Hid (PartsAt w11 w11.heap.size a (la)) := H10_a.out.here hb (Nat.le_refl _)
      clear hb
      go_wp2_with fail
      refine (SpotOf_any a (la) ca (r : Int) false _ H11_a.out (by omega)).mono ?_
      rintro e w12 ⟨rfl, hb⟩
      have HE12 : Hid (Below w.heap.size w w12) := HE11.out.trans (hb.mono HE11.out.size)
      have H12_a : Hid (PartsAt w12 w12.heap.size a (la)) := H11_a.out.here hb (Nat.le_refl _)
      clear hb
      go_wp2_with fail
      refine (SpotOf_any a (la) ca (r : Int) true _ H12_a.out (by omega)).mono ?_
      rintro e w13 ⟨rfl, hb⟩
      have HE13 : Hid (Below w.heap.size w w13) := HE12.out.trans (hb.mono HE12.out.size)
      have H13_a : Hid (PartsAt w13 w13.heap.size a (la)) := H12_a.out.here hb (Nat.le_refl _)
      clear hb
      go_wp2_with fail
      refine (SpotOf_any a (la) ca 0 false _ H13_a.out (by omega)).mono ?_
      rintro e w14 ⟨rfl, hb⟩
      have HE14 : Hid (Below w.heap.size w w14) := HE13.out.trans (hb.mono HE13.out.size)
      have H14_a : Hid (PartsAt w14 w14.heap.size a (la)) := H13_a.out.here hb (Nat.le_refl _)
      clear hb
      go_wp2_with fail
      refine (SpotOf_any a (la) ca (m : Int) true _ H14_a.out (by omega)).mono ?_
      rintro e w15 ⟨rfl, hb⟩
      have HE15 : Hid (Below w.heap.size w w15) := HE14.out.trans (hb.mono HE14.out.size)
      have H15_a : Hid (PartsAt w15 w15.heap.size a (la)) := H14_a.out.here hb (Nat.le_refl _)
      clear hb
      go_wp2_with fail
      go_ret
      exact ⟨rfl, HE15.out⟩
    · have t1 : (q : Int) < (r : Int) := by omega
      have t2 : ¬ (r : Int) < (q : Int) := by omega
      have t3 : ((q : Int) == (r : Int)) = false := by simp; omega
      obtain ⟨⟨s1, s2, s3, s4⟩, s5, s6, s7, s8, s9, s10, s11⟩ := spot_ord HZ.out (r := q) (q := r) (by have := HM.out; omega) (by have := HM.out; omega) (by omega)
      rw [HM.out] at s4 s11
      have u1 : spotR la (q : Int) true ≤ spotR la (r : Int) true := s8
      clear s8
      have u2 : spotR la (q : Int) true ≤ spotR la (r : Int) false := by rcases s9 with h | h <;> omega
      clear s9 ho
      go_wp2_with fail
      refine (SpotOf_any a (la) ca (q : Int) false _ H3_a.out (by omega)).mono ?_
      rintro e w16 ⟨rfl, hb⟩
      have HE16 : Hid (Below w.heap.size w w16) := HE3.out.trans (hb.mono HE3.out.size)
      have H16_a : Hid (PartsAt w16 w16.heap.size a (la)) := H3_a.out.here hb (Nat.le_refl _)
      clear hb
      go_wp2_with fail
      refine (SpotOf_any a (la) ca (q : Int) true _ H16_a.out (by omega)).mono ?_
      rintro e w17 ⟨rfl, hb⟩
      have HE17 : Hid (Below w.heap.size w w17) := HE16.out.trans (hb.mono HE16.out.size)
      have H17_a : Hid (PartsAt w17 w17.heap.size a (la)) := H16_a.out.here hb (Nat.le_refl _)
      clear hb
      go_wp2_with fail
      refine (SpotOf_any a (la) ca (r : Int) false _ H17_a.out (by omega)).mono ?_
      rintro e w18 ⟨rfl, hb⟩
      have HE18 : Hid (Below w.heap.size w w18) := HE17.out.trans (hb.mono HE17.out.size)
      have H18_a : Hid (PartsAt w18 w18.heap.size a (la)) := H17_a.out.here hb (Nat.le_refl _)
      clear hb
      go_wp2_with fail
      refine (SpotOf_any a (la) ca (r : Int) true _ H18_a.out (by omega)).mono ?_
      rintro e w19 ⟨rfl, hb⟩
      have HE19 : Hid (Below w.heap.size w w19) := HE18.out.trans (hb.mono HE18.out.size)
      have H19_a : Hid (PartsAt w19 w19.heap.size a (la)) := H18_a.out.here hb (Nat.le_refl _)
      clear hb
      go_wp2_with fail
      refine (SpotOf_any a (la) ca 0 false _ H19_a.out (by omega)).mono ?_
      rintro e w20 ⟨rfl, hb⟩
      have HE20 : Hid (Below w.heap.size w w20) := HE19.out.trans (hb.mono HE19.out.size)
      have H20_a : Hid (PartsAt w20 w20.heap.size a (la)) := H19_a.out.here hb (Nat.le_refl _)
      clear hb
      go_wp2_with fail
      refine (SpotOf_any a (la) ca (m : Int) true _ H20_a.out (by omega)).mono ?_
      rintro e w21 ⟨rfl, hb⟩
      have HE21 : Hid (Below w.heap.size w w21) := HE20.out.trans (hb.mono HE20.out.size)
      have H21_a : Hid (PartsAt w21 w21.heap.size a (la)) := H20_a.out.here hb (Nat.le_refl _)
      clear hb
      go_wp2_with fail
      go_ret
      exact ⟨rfl, HE21.out⟩
  · have r0 : (sizesE la != 0) = true := by simp [h0]
    have HI : Hid (sizesIn la = 0) := by show _ = _; rw [sizesIn, if_neg h0]
    rw [HI.out]
    clear h0
    go_wp2_with fail
    go_ret
    exact ⟨rfl, HE3.out⟩

end Go.Proofs.Ytilcmbophfjjbaa
