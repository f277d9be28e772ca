/- The law SpotTurns, walked: it answers true. -/
import Derived.Test.YtilcmbophfjjbabMeetKit
import Derived.Test.YtilcmbophfjjbabTurned
namespace Go.Proofs.Ytilcmbophfjjbab
open Go.RowKit
set_option linter.unusedSimpArgs false
set_option linter.unusedVariables false

theorem spot_turns {la : List Pt} {s : ByteArray} {r : Nat} (h : fitsE la s.size = 0) (hr : r < s.size) :
    spotE la r = 0 ∧ spotE la ((r : Int) + 1) = 0 ∧ ∃ n m : Nat, n ≤ 500 ∧ spotR la r true = n ∧ spotR la ((r : Int) + 1) false = m ∧ (m = n ∨ m ≠ n ∧ spotE (turnR la s) n = 0 ∧ spotR (turnR la s) n true = r) := by
  obtain ⟨z, hin⟩ := fits_zero h
  obtain ⟨g, c, i, o, b1, b2⟩ := delta_facts z
  have hsl : s.data.toList.length = s.size := Array.length_toList
  have e1 := spotE_ok (d := la) (at_ := (r : Int)) z (by omega) (by omega)
  have e2 := spotE_ok (d := la) (at_ := (r : Int) + 1) z (by omega) (by omega)
  have hnx := spot_next (wordL la) r (by omega)
  have hle := spot_le (wordL la) (k := r) (by omega)
  refine ⟨e1, e2, spotW (wordL la) r true, spotW (wordL la) (r + 1) false, by omega, by rw [spotR, if_pos e1]; rfl, by rw [spotR, if_pos e2]; rfl, ?_⟩
  cases hk : keptW (wordL la) r
  · left; rw [hnx, hk]; rfl
  · right
    rw [hk] at hnx
    simp only [Bool.toNat_true] at hnx
    have ht : turnR la s = turnL la s.data.toList := by rw [turnR, if_pos h]
    obtain ⟨t1, t2, t3, t4⟩ := turn_facts (s := s.data.toList) z (by omega)
    obtain ⟨tg, tc, ti, to_, tb1, tb2⟩ := delta_facts t1
    have hp : ∀ i k, pairsW (wordL (turnL la s.data.toList)) k i = swapP (pairsW (wordL la) i k) := by
      intro i k
      rw [t4.prs k i]
      exact (turn_props (wordL la) s.data.toList (by omega)).2.2.2 i k
    have hb := spot_back hp (n := r) (by omega) hk
    have e3 : spotE (turnR la s) (spotW (wordL la) r true : Nat) = 0 := by rw [ht]; exact spotE_ok t1 (by omega) (by omega)
    refine ⟨by omega, e3, ?_⟩
    rw [spotR, if_pos e3, ht, Int.toNat_natCast, hb]

set_option maxRecDepth 100000 in
set_option maxHeartbeats 8000000 in
theorem SpotTurns_any (a : Option Addr) (la : List Pt) (ca : Nat) (s : ByteArray) (i : Int) (w : World) (h_a : PartsAt w w.heap.size a la) (k_a : la.length ≤ ca) (z_s : s.size ≤ 9223372036854775807)  :
    Calls Try.prog 6 #[.slice a la.length ca, .string s, .int .i64 i] w fun e w' => e = .returned (.bool true) ∧ Below w.heap.size w w' := by
  have HE0 : Hid (Below w.heap.size w w) := Below.refl _ _
  have H0_a : Hid (PartsAt w w.heap.size a la) := h_a
  clear h_a
  go_enter Try.func6, Try.ntmps6
  have HE1 : Hid (Below w.heap.size w (w.alloc (.cells #[.int .i64 3, .int .i64 3, .string ⟨#[]⟩] 27))) := HE0.out.alloc HE0.out.size _
  have H1_a : Hid (PartsAt (w.alloc (.cells #[.int .i64 3, .int .i64 3, .string ⟨#[]⟩] 27)) (w.alloc (.cells #[.int .i64 3, .int .i64 3, .string ⟨#[]⟩] 27)).heap.size a (la)) := H0_a.out.here ((Below.refl _ _).alloc (Nat.le_refl _) _) (Nat.le_refl _)
  have H1_p : Hid (PartsAt (w.alloc (.cells #[.int .i64 3, .int .i64 3, .string ⟨#[]⟩] 27)) (w.alloc (.cells #[.int .i64 3, .int .i64 3, .string ⟨#[]⟩] 27)).heap.size (some ⟨w.heap.size, 0, none⟩) [cutP 3]) := by
    have hh := lit_at w [cutP 3] (small_bound (by decide)) _ rfl
    try simp only [Deep.nblk_alloc] at hh ⊢
    exact hh
  go_wp2_with fail
  refine (spot_n litSc (some ⟨w.heap.size, 0, none⟩) 1 _ H1_p.out 1 (by rfl)).mono ?_
  rintro e w2 ⟨rfl, hb⟩
  have HE2 : Hid (Below w.heap.size w w2) := HE1.out.trans (hb.mono HE1.out.size)
  have H2_a : Hid (PartsAt w2 w2.heap.size a (la)) := H1_a.out.here hb (Nat.le_refl _)
  have H2_p : Hid (PartsAt w2 w2.heap.size (some ⟨w.heap.size, 0, none⟩) ([cutP 3])) := H1_p.out.here hb (Nat.le_refl _)
  clear hb
  clear H2_p
  go_wp2_with fail
  refine (put_any ⟨#[97, 98]⟩ _ (by decide)).mono ?_
  rintro e w3 ⟨rfl, h0, hb⟩
  have HE3 : Hid (Below w.heap.size w w3) := HE2.out.trans (hb.mono HE2.out.size)
  have H3_a : Hid (PartsAt w3 w3.heap.size a (la)) := H2_a.out.here hb (Nat.le_refl _)
  have H3_q : Hid (PartsAt w3 w3.heap.size (some ⟨w2.heap.size, 0, none⟩) ([putP ⟨#[97, 98]⟩])) := h0
  clear hb h0
  go_wp2_with fail
  refine (spot_n litS2 (some ⟨w2.heap.size, 0, none⟩) 1 _ H3_q.out 1 (by rfl)).mono ?_
  rintro e w4 ⟨rfl, hb⟩
  have HE4 : Hid (Below w.heap.size w w4) := HE3.out.trans (hb.mono HE3.out.size)
  have H4_a : Hid (PartsAt w4 w4.heap.size a (la)) := H3_a.out.here hb (Nat.le_refl _)
  have H4_q : Hid (PartsAt w4 w4.heap.size (some ⟨w2.heap.size, 0, none⟩) ([putP ⟨#[97, 98]⟩])) := H3_q.out.here hb (Nat.le_refl _)
  clear hb
  clear H4_q
  go_wp2_with fail
  refine (TurnOf_any a la ca s _ H4_a.out z_s).mono ?_
  rintro e w5 ⟨xt, ct, rfl, h0, rt, hb⟩
  have HE5 : Hid (Below w.heap.size w w5) := HE4.out.trans (hb.mono HE4.out.size)
  have H5_a : Hid (PartsAt w5 w5.heap.size a (la)) := H4_a.out.here hb (Nat.le_refl _)
  have H5_t : Hid (PartsAt w5 w5.heap.size xt (turnR la s)) := h0
  clear hb h0 rt
  by_cases h0 : fitsE la s.size = 0
  · have r0 : (fitsE la s.size != 0) = false := by simp [h0]
    by_cases hs0 : s.size = 0
    · have q1 : s.toList.isEmpty = true := by rw [empty_size]; simp [hs0]
      clear h0 hs0
      go_wp2_with fail
      go_ret
      exact ⟨rfl, HE5.out⟩
    · have q1 : s.toList.isEmpty = false := by rw [empty_size]; simp [hs0]
      have hs5 : s.size ≤ 500 := by
        obtain ⟨z, hin⟩ := fits_zero h0
        obtain ⟨g, c, i, o, b1, b2⟩ := delta_facts z
        omega
      have HF : Hid (fitsE la s.size = 0) := h0
      clear h0
      go_wp2_with fail
      refine (Within_any i s.size _ (by omega) (by omega)).mono ?_
      rintro e w6 ⟨r, rfl, l_r, ew⟩
      subst ew
      obtain ⟨k1, k2, n, m, n5, k3, k4, k6⟩ := spot_turns HF.out l_r
      have K3 : Hid (spotR la r true = (n : Int)) := k3
      have K4 : Hid (spotR la ((r : Int) + 1) false = (m : Int)) := k4
      clear k3 k4
      go_wp2_with fail
      refine (SpotOf_any a (la) ca (r : Int) true _ H5_a.out (by omega)).mono ?_
      rintro e w6 ⟨rfl, hb⟩
      have HE6 : Hid (Below w.heap.size w w6) := HE5.out.trans (hb.mono HE5.out.size)
      have H6_a : Hid (PartsAt w6 w6.heap.size a (la)) := H5_a.out.here hb (Nat.le_refl _)
      have H6_t : Hid (PartsAt w6 w6.heap.size xt (turnR la s)) := H5_t.out.here hb (Nat.le_refl _)
      clear hb
      rw [K3.out]
      go_wp2_with fail
      refine (SpotOf_any a (la) ca ((r : Int) + 1) false _ H6_a.out (by omega)).mono ?_
      rintro e w7 ⟨rfl, hb⟩
      have HE7 : Hid (Below w.heap.size w w7) := HE6.out.trans (hb.mono HE6.out.size)
      have H7_a : Hid (PartsAt w7 w7.heap.size a (la)) := H6_a.out.here hb (Nat.le_refl _)
      have H7_t : Hid (PartsAt w7 w7.heap.size xt (turnR la s)) := H6_t.out.here hb (Nat.le_refl _)
      clear hb
      rw [K4.out]
      rcases k6 with k6 | ⟨k6, k7, k8⟩
      · subst k6
        go_wp2_with fail
        go_ret
        exact ⟨rfl, HE7.out⟩
      · have hne : ((m : Int) == (n : Int)) = false := by simp; omega
        have K8 : Hid (spotR (turnR la s) n true = (r : Int)) := k8
        clear k8 k6
        go_wp2_with fail
        refine (SpotOf_any xt (turnR la s) ct (n : Int) true _ H7_t.out (by omega)).mono ?_
        rintro e w8 ⟨rfl, hb⟩
        have HE8 : Hid (Below w.heap.size w w8) := HE7.out.trans (hb.mono HE7.out.size)
        have H8_a : Hid (PartsAt w8 w8.heap.size a (la)) := H7_a.out.here hb (Nat.le_refl _)
        have H8_t : Hid (PartsAt w8 w8.heap.size xt (turnR la s)) := H7_t.out.here hb (Nat.le_refl _)
        clear hb
        rw [K8.out]
        go_wp2_with fail
        go_ret
        exact ⟨rfl, HE8.out⟩
  · have r0 : (fitsE la s.size != 0) = true := by simp [h0]
    clear h0
    go_wp2_with fail
    go_ret
    exact ⟨rfl, HE5.out⟩

end Go.Proofs.Ytilcmbophfjjbab
