/- The law DiffWays, walked: it answers true. -/
import Derived.Test.YtbfabahdaacpfaaDiffCostOf
namespace Go.Proofs.Ytbfabahdaacpfaa
open Go.RowKit
set_option linter.unusedSimpArgs false
set_option linter.unusedVariables false

theorem lcs_abc : lcs [97, 98, 99] [97, 99] = 2 := by simp [lcs]
theorem ways_facts {s t u a b : List UInt8} {st ts tu su ss inn : Nat} (h1 : st + 2 * lcs s t = s.length + t.length) (h2 : ts + 2 * lcs t s = t.length + s.length) (h3 : tu + 2 * lcs t u = t.length + u.length) (h4 : su + 2 * lcs s u = s.length + u.length) (h5 : ss + 2 * lcs s s = s.length + s.length)
    (h6 : inn + 2 * lcs (a ++ s ++ b) (a ++ t ++ b) = (a.length + s.length + b.length) + (a.length + t.length + b.length)) : ss = 0 ∧ ts = st ∧ su ≤ st + tu ∧ inn = st ∧ (st = 0 ↔ s = t) := by
  have e1 := lcs_comm s t
  have e2 := lcs_self s
  have e3 := lcs_third s t u
  have e4 := lcs_both a s t b
  have e5 := lcs_leL s t
  have e6 := lcs_leR s t
  rw [e2] at h5
  rw [← e1] at h2
  rw [e4] at h6
  refine ⟨by omega, by omega, by omega, by omega, ?_⟩
  constructor
  · intro h
    exact lcs_full (by omega) (by omega)
  · rintro rfl
    omega
theorem cat_list (a b : ByteArray) : (a ++ b).data.toList = a.data.toList ++ b.data.toList := by simp

set_option maxRecDepth 100000 in
set_option maxHeartbeats 16000000 in
theorem DiffWays_any (s t u a b : ByteArray) (w : World) (hs : s.size ≤ 140737488355328) (ht : t.size ≤ 140737488355328) (hu : u.size ≤ 140737488355328) (ha : a.size ≤ 140737488355328) (hb : b.size ≤ 140737488355328) :
    Calls Try.prog 7 #[.string s, .string t, .string u, .string a, .string b] w fun e w' => e = .returned (.bool true) ∧ Below w.heap.size w w' := by
  go_enter Try.func7, Try.ntmps7
  go_wp2_with fail
  refine (cost_any ⟨#[97, 98, 99]⟩ ⟨#[97, 99]⟩ _ (by decide) (by decide)).mono ?_
  rintro e w1 ⟨c, rfl, hc, hb1⟩
  obtain rfl : c = 1 := by
    have h : lcs (⟨#[97, 98, 99]⟩ : ByteArray).data.toList (⟨#[97, 99]⟩ : ByteArray).data.toList = 2 := lcs_abc
    rw [h] at hc
    have h2 : (⟨#[97, 98, 99]⟩ : ByteArray).size + (⟨#[97, 99]⟩ : ByteArray).size = 5 := rfl
    omega
  have HB1 : Hid (Below w.heap.size w w1) := hb1
  clear hc hb1
  by_cases hok : (s.size + a.size + b.size ≤ 500 ∧ t.size + a.size + b.size ≤ 500) ∧ u.size ≤ 500
  · obtain ⟨⟨k1, k2⟩, k3⟩ := hok
    clear hs ht hu ha hb
    all_goals (
      go_wp2_with fail
      refine (cost_any s t _ (by omega) (by omega)).mono ?_
      rintro e w2 ⟨st, rfl, q1, hb⟩
      have HB2 : Hid (Below w.heap.size w w2) := HB1.out.trans (hb.mono HB1.out.size)
      have Q1 : Hid _ := q1
      have j1 : st ≤ 1000 := by omega
      clear hb q1
      go_wp2_with fail
      refine (cost_any t s _ (by omega) (by omega)).mono ?_
      rintro e w3 ⟨ts, rfl, q2, hb⟩
      have HB3 : Hid (Below w.heap.size w w3) := HB2.out.trans (hb.mono HB2.out.size)
      have Q2 : Hid _ := q2
      clear hb q2
      go_wp2_with fail
      refine (cost_any t u _ (by omega) (by omega)).mono ?_
      rintro e w4 ⟨tu, rfl, q3, hb⟩
      have HB4 : Hid (Below w.heap.size w w4) := HB3.out.trans (hb.mono HB3.out.size)
      have Q3 : Hid _ := q3
      have j3 : tu ≤ 1000 := by omega
      clear hb q3
      go_wp2_with fail
      refine (cost_any s u _ (by omega) (by omega)).mono ?_
      rintro e w5 ⟨su, rfl, q4, hb⟩
      have HB5 : Hid (Below w.heap.size w w5) := HB4.out.trans (hb.mono HB4.out.size)
      have Q4 : Hid _ := q4
      clear hb q4
      go_wp2_with fail
      refine (cost_any s s _ (by omega) (by omega)).mono ?_
      rintro e w6 ⟨ss, rfl, q5, hb⟩
      have HB6 : Hid (Below w.heap.size w w6) := HB5.out.trans (hb.mono HB5.out.size)
      have Q5 : Hid _ := q5
      clear hb q5
      go_wp2_with fail
      refine (cost_any (a ++ s ++ b) (a ++ t ++ b) _ (by simp only [ByteArray.size_append]; omega) (by simp only [ByteArray.size_append]; omega)).mono ?_
      rintro e w7 ⟨inn, rfl, q6, hb⟩
      have HB7 : Hid (Below w.heap.size w w7) := HB6.out.trans (hb.mono HB6.out.size)
      obtain ⟨f1, f2, f3, f4, f5⟩ : ss = 0 ∧ ts = st ∧ su ≤ st + tu ∧ inn = st ∧ (st = 0 ↔ s.data.toList = t.data.toList) := by
        have l : ∀ x : ByteArray, x.size = x.data.toList.length := fun x => Array.length_toList.symm
        have q1 := Q1.out
        have q2 := Q2.out
        have q3 := Q3.out
        have q4 := Q4.out
        have q5 := Q5.out
        simp only [ByteArray.size_append, cat_list] at q6
        rw [l s, l t] at q1
        rw [l s, l t] at q2
        rw [l t, l u] at q3
        rw [l s, l u] at q4
        rw [l s] at q5
        rw [l s, l t, l a, l b] at q6
        exact ways_facts q1 q2 q3 q4 q5 q6
      subst f1 f2 f4
      have f6 : ((inn : Int) == 0) = (s.toList == t.toList) := by
        rw [ByteArray.toList_eq, ByteArray.toList_eq, Bool.eq_iff_iff, beq_iff_eq, beq_iff_eq, ← f5]
        omega
      have F6 : Hid _ := f6
      have f7 : (su : Int) ≤ (inn : Int) + (tu : Int) := by omega
      clear hb q6 f5 f6
      go_wp2_with fail
      go_ret
      refine ⟨?_, HB7.out⟩
      show Ending.returned (.bool (((inn : Int) == 0) == (s.toList == t.toList))) = _
      rw [F6.out]
      simp)
  · go_wp2_with fail
    all_goals first | (exfalso; omega) | (go_ret; exact ⟨rfl, HB1.out⟩)
end Go.Proofs.Ytbfabahdaacpfaa
