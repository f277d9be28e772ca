/- The law SpotKept, walked: it answers true. -/
import Derived.Test.YtilcmbophfjjbabMeetKit
import Derived.Test.YtilcmbophfjjbabDo
import Derived.Test.YtilcmbophfjjbabDeltaWalk
import Derived.Deep.QuietTactic
import Derived.BigQuiet
namespace Go.Proofs.Ytilcmbophfjjbab
open Go.RowKit
set_option linter.unusedSimpArgs false
set_option linter.unusedVariables false

theorem doT_len (l : List Pt) (s : ByteArray) : (doT l s).length ≤ 500 := by
  unfold doT
  split
  · rename_i h
    obtain ⟨z, i⟩ := fits_zero h
    obtain ⟨g, c, e1, e2, b1, b2⟩ := delta_facts z
    have hl : s.data.toList.length = s.size := Array.length_toList
    rw [doL_word, doW_len _ _ (by omega)]; exact b2
  · simp
theorem ba_at {t : ByteArray} {n : Nat} {c : UInt8} (h : t.data.toList[n]? = some c) {hn : n < t.size} : t[n]'hn = c := by
  obtain ⟨h1, h2⟩ := List.getElem?_eq_some_iff.1 h
  show t.data[n] = c
  simpa using h2
theorem spot_kept {la : List Pt} {s t : ByteArray} {r : Nat} (h : fitsE la s.size = 0) (ht : t.data.toList = doT la s) (hr : r < s.size) :
    spotE la r = 0 ∧ spotE la ((r : Int) + 1) = 0 ∧ ∃ n m : Nat, spotR la r true = n ∧ spotR la ((r : Int) + 1) false = m ∧ m ≤ t.size ∧ (m = n ∨ m = n + 1 ∧ ∃ c : UInt8, t.data.toList[n]? = some c ∧ s.data.toList[r]? = some c) := by
  obtain ⟨z, hin⟩ := fits_zero h
  obtain ⟨g, c, i, o, b1, b2⟩ := delta_facts z
  have hsl : s.data.toList.length = s.size := Array.length_toList
  have htl : t.data.toList.length = t.size := Array.length_toList
  have e1 := spotE_ok (d := la) (at_ := (r : Int)) z (by omega) (by omega)
  have e2 := spotE_ok (d := la) (at_ := (r : Int) + 1) z (by omega) (by omega)
  have hd : t.data.toList = doW (wordL la) s.data.toList := by rw [ht, doT, if_pos h, doL_word]
  have hlen : t.size = outW (wordL la) := by rw [← htl, hd, doW_len _ _ (by omega)]
  have hnx := spot_next (wordL la) r (by omega)
  have hle := spot_le (wordL la) (k := r + 1) (by omega)
  have hlt := spot_late (wordL la) (r + 1)
  refine ⟨e1, e2, spotW (wordL la) r true, spotW (wordL la) (r + 1) false, by rw [spotR, if_pos e1]; rfl, by rw [spotR, if_pos e2]; rfl, by omega, ?_⟩
  cases hk : keptW (wordL la) r
  · left; rw [hnx, hk]; rfl
  · right
    refine ⟨by rw [hnx, hk]; rfl, s.data.toList[r]'(by omega), ?_, List.getElem?_eq_getElem _⟩
    rw [hd, spot_byte (wordL la) s.data.toList r (by omega) (by omega) hk]
    exact List.getElem?_eq_getElem _

set_option maxRecDepth 100000 in
set_option maxHeartbeats 8000000 in
theorem SpotKept_any (a : Option Addr) (la : List Pt) (ca : Nat) (s : ByteArray) (i : Int) (w : World) (h_a : PartsAt w w.heap.size a la) (k_a : la.length ≤ ca) (z_s : s.size ≤ 9223372036854775807)  :
    Calls Try.prog 3 #[.slice a la.length ca, .string s, .int .i64 i] w fun e w' => e = .returned (.bool true) ∧ Below w.heap.size w w' := by
  have HE0 : Hid (Below w.heap.size w w) := Below.refl _ _
  have H0_a : Hid (PartsAt w w.heap.size a la) := h_a
  clear h_a
  go_enter Try.func3, Try.ntmps3
  have HE1 : Hid (Below w.heap.size w (w.alloc (.cells #[.int .i64 2, .int .i64 0, .string ⟨#[97]⟩, .int .i64 1, .int .i64 2, .string ⟨#[]⟩] 27))) := HE0.out.alloc HE0.out.size _
  have H1_a : Hid (PartsAt (w.alloc (.cells #[.int .i64 2, .int .i64 0, .string ⟨#[97]⟩, .int .i64 1, .int .i64 2, .string ⟨#[]⟩] 27)) (w.alloc (.cells #[.int .i64 2, .int .i64 0, .string ⟨#[97]⟩, .int .i64 1, .int .i64 2, .string ⟨#[]⟩] 27)).heap.size a (la)) := H0_a.out.here ((Below.refl _ _).alloc (Nat.le_refl _) _) (Nat.le_refl _)
  have H1_p : Hid (PartsAt (w.alloc (.cells #[.int .i64 2, .int .i64 0, .string ⟨#[97]⟩, .int .i64 1, .int .i64 2, .string ⟨#[]⟩] 27)) (w.alloc (.cells #[.int .i64 2, .int .i64 0, .string ⟨#[97]⟩, .int .i64 1, .int .i64 2, .string ⟨#[]⟩] 27)).heap.size (some ⟨w.heap.size, 0, none⟩) [putP ⟨#[97]⟩, keepP 2]) := by
    have hh := lit_at w [putP ⟨#[97]⟩, keepP 2] (small_bound (by decide)) _ rfl
    try simp only [Deep.nblk_alloc] at hh ⊢
    exact hh
  go_wp2_with fail
  refine (spot_n litSk (some ⟨w.heap.size, 0, none⟩) 2 _ H1_p.out 2 (by rfl)).mono ?_
  rintro e w2 ⟨rfl, hb⟩
  have HE2 : Hid (Below w.heap.size w w2) := HE1.out.trans (hb.mono HE1.out.size)
  have H2_a : Hid (PartsAt w2 w2.heap.size a (la)) := H1_a.out.here hb (Nat.le_refl _)
  have H2_p : Hid (PartsAt w2 w2.heap.size (some ⟨w.heap.size, 0, none⟩) ([putP ⟨#[97]⟩, keepP 2])) := H1_p.out.here hb (Nat.le_refl _)
  clear hb
  clear H2_p
  go_wp2_with fail
  refine (Do_any a (la) ca s _ H2_a.out z_s).mono ?_
  rintro e w3 ⟨rfl, hb⟩
  have HE3 : Hid (Below w.heap.size w w3) := HE2.out.trans (hb.mono HE2.out.size)
  have H3_a : Hid (PartsAt w3 w3.heap.size a (la)) := H2_a.out.here hb (Nat.le_refl _)
  clear hb
  obtain ⟨t, HT_t⟩ : ∃ t, Hid ((⟨(doT (la) s).toArray⟩ : ByteArray) = t) := ⟨_, rfl⟩
  rw [HT_t.out]
  have HD_t : Hid (t.data.toList = doT (la) s) := by show _ = _; rw [← HT_t.out]
  have z5_t : t.size ≤ 500 := by have h := doT_len (la) s; rw [← HD_t.out] at h; exact h
  by_cases h0 : fitsE la s.size = 0
  · have r0 : (fitsE la s.size != 0) = false := by simp [h0]
    by_cases hs0 : s.size = 0
    · have q1 : s.toList.isEmpty = true := by rw [empty_size]; simp [hs0]
      clear h0 hs0
      go_wp2_with fail
      go_ret
      exact ⟨rfl, HE3.out⟩
    · have q1 : s.toList.isEmpty = false := by rw [empty_size]; simp [hs0]
      have hs5 : s.size ≤ 500 := by
        obtain ⟨z, hin⟩ := fits_zero h0
        obtain ⟨g, c, i, o, b1, b2⟩ := delta_facts z
        omega
      have HF : Hid (fitsE la s.size = 0) := h0
      clear h0
      go_wp2_with fail
      refine (Within_any i s.size _ (by omega) (by omega)).mono ?_
      rintro e w4 ⟨r, rfl, l_r, ew⟩
      subst ew
      obtain ⟨k1, k2, n, m, k3, k4, k5, k6⟩ := spot_kept HF.out HD_t.out l_r
      have K3 : Hid (spotR la r true = (n : Int)) := k3
      have K4 : Hid (spotR la ((r : Int) + 1) false = (m : Int)) := k4
      have hnm : n ≤ 500 := by rcases k6 with h | ⟨h, _⟩ <;> omega
      clear k3 k4
      go_wp2_with fail
      refine (SpotOf_any a (la) ca (r : Int) true _ H3_a.out (by omega)).mono ?_
      rintro e w4 ⟨rfl, hb⟩
      have HE4 : Hid (Below w.heap.size w w4) := HE3.out.trans (hb.mono HE3.out.size)
      have H4_a : Hid (PartsAt w4 w4.heap.size a (la)) := H3_a.out.here hb (Nat.le_refl _)
      clear hb
      rw [K3.out]
      go_wp2_with fail
      refine (SpotOf_any a (la) ca ((r : Int) + 1) false _ H4_a.out (by omega)).mono ?_
      rintro e w5 ⟨rfl, hb⟩
      have HE5 : Hid (Below w.heap.size w w5) := HE4.out.trans (hb.mono HE4.out.size)
      have H5_a : Hid (PartsAt w5 w5.heap.size a (la)) := H4_a.out.here hb (Nat.le_refl _)
      clear hb
      rw [K4.out]
      rcases k6 with k6 | ⟨k6, c, k7, k8⟩
      · subst k6
        go_wp2_with fail
        go_quiet (fail)
        go_wp2_with fail
        go_ret
        exact ⟨rfl, below_drewN HE5.out _⟩
      · subst k6
        have K7 : Hid (t.data.toList[n]? = some c ∧ s.data.toList[r]? = some c) := ⟨k7, k8⟩
        have hne : ((n : Int) + 1 == (n : Int)) = false := by simp; omega
        have b1 : (n : Int) < (t.size : Int) := by omega
        have b2 : (r : Int) < (s.size : Int) := by omega
        clear k7 k8
        go_wp2_with fail
        go_quiet (fail)
        go_wp2_with fail
        go_ret
        refine ⟨ret_bool ?_, below_drewN HE5.out _⟩
        rw [ba_at K7.out.1, ba_at K7.out.2]
        simp
  · have r0 : (fitsE la s.size != 0) = true := by simp [h0]
    clear h0
    go_wp2_with fail
    go_ret
    exact ⟨rfl, HE3.out⟩

end Go.Proofs.Ytilcmbophfjjbab
