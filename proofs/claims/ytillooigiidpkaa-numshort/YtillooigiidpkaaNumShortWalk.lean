/- The law NumShort, walked: it answers true. -/
import Derived.Test.YtillooigiidpkaaNumPut
namespace Go.Proofs.Ytillooigiidpkaa
open Go.RowKit
set_option linter.unusedSimpArgs false
set_option linter.unusedVariables false

theorem num300 : numL 300 = [172, 2] := by
  rw [num_more (by omega), num_small (by omega)]; rfl
theorem Put_300 (w : World) : Calls Try.prog 9 #[.int .i64 300] w fun e w' => e = .returned (.tuple #[.string ⟨#[172, 2]⟩, .int .i64 0]) ∧ Below w.heap.size w w' := by
  have h := Put_ok 300 w (by omega)
  rw [num300] at h
  exact h
theorem Put_gen (n : Int) (w : World) : Calls Try.prog 9 #[.int .i64 n] w fun e w' => ∃ (u : ByteArray) (q : Int), e = .returned (.tuple #[.string u, .int .i64 q]) ∧ Below w.heap.size w w' := by
  by_cases h : n < 0 ∨ 2147483647 < n
  · exact (Put_not n w h).mono (fun e w' ⟨h1, h2⟩ => ⟨_, _, h1, h2 ▸ Below.refl _ _⟩)
  · obtain ⟨m, rfl⟩ : ∃ m : Nat, n = m := ⟨n.toNat, by omega⟩
    exact (Put_ok m w (by omega)).mono (fun e w' ⟨h1, h2⟩ => ⟨_, _, h1, h2⟩)
theorem least_more {j : Nat} (h : ¬ j < 128) : leastN j = leastN (j / 128) + 1 := by
  rw [leastN, if_neg h]
theorem least_one {j : Nat} (h : j < 128) : leastN j = 1 := by
  rw [leastN, if_pos h]

set_option maxRecDepth 20000 in
set_option maxHeartbeats 4000000 in
theorem NumShort_any (a b : Int) (w : World) :
    Calls Try.prog 8 #[.int .i64 a, .int .i64 b] w fun e w' => e = .returned (.bool true) ∧ Below w.heap.size w w' := by
  by_cases h : a < 0 ∨ 2147483647 < a
  · have HP : Hid _ := fun w => Put_not a w h
    clear h
    go_enter Try.func8, Try.ntmps8
    go_wp2_with fail
    refine (Put_300 _).mono ?_
    rintro e w1 ⟨rfl, hb1⟩
    have HB1 : Hid (Below w.heap.size w w1) := hb1
    clear hb1
    go_wp2_with fail
    refine (HP.out _).mono ?_
    rintro e w2 ⟨rfl, e2⟩
    subst e2
    go_wp2_with fail
    refine (Put_gen b _).mono ?_
    rintro e w3 ⟨u, q, rfl, hb3⟩
    have HB3 : Hid (Below w.heap.size w w3) := HB1.out.trans (hb3.mono HB1.out.size)
    clear hb3
    go_wp2_with fail
    go_ret
    exact ⟨rfl, HB3.out⟩
  · obtain ⟨m, rfl⟩ : ∃ m : Nat, a = m := ⟨a.toNat, by omega⟩
    have hm : m ≤ 2147483647 := by omega
    have HP : Hid _ := fun w => Put_ok m w hm
    have h5 := num_five hm
    obtain ⟨t, ht⟩ : ∃ t, numL m = t := ⟨_, rfl⟩
    rw [ht] at HP h5
    have HT : Hid (numL m = t) := ht
    have HTL : Hid (t.length = leastN m) := by show _ = _; rw [← ht]; exact num_least m
    have HM : Hid (m ≤ 2147483647) := hm
    clear h hm ht
    by_cases h : b < 0 ∨ 2147483647 < b
    · have HQ : Hid _ := fun w => Put_not b w h
      clear h
      go_enter Try.func8, Try.ntmps8
      go_wp2_with fail
      refine (Put_300 _).mono ?_
      rintro e w1 ⟨rfl, hb1⟩
      have HB1 : Hid (Below w.heap.size w w1) := hb1
      clear hb1
      go_wp2_with fail
      refine (HP.out _).mono ?_
      rintro e w2 ⟨rfl, hb2⟩
      have HB2 : Hid (Below w.heap.size w w2) := HB1.out.trans (hb2.mono HB1.out.size)
      clear hb2
      go_wp2_with fail
      refine (HQ.out _).mono ?_
      rintro e w3 ⟨rfl, e3⟩
      subst e3
      go_wp2_with fail
      go_ret
      exact ⟨rfl, HB2.out⟩
    · obtain ⟨m2, rfl⟩ : ∃ m2 : Nat, b = m2 := ⟨b.toNat, by omega⟩
      have hm2 : m2 ≤ 2147483647 := by omega
      have HQ : Hid _ := fun w => Put_ok m2 w hm2
      have h52 := num_five hm2
      obtain ⟨t2, ht2⟩ : ∃ t2, numL m2 = t2 := ⟨_, rfl⟩
      rw [ht2] at HQ h52
      have HT2 : Hid (numL m2 = t2) := ht2
      clear h hm2 ht2
      go_enter Try.func8, Try.ntmps8
      go_wp2_with fail
      refine (Put_300 _).mono ?_
      rintro e w1 ⟨rfl, hb1⟩
      have HB1 : Hid (Below w.heap.size w w1) := hb1
      clear hb1
      go_wp2_with fail
      refine (HP.out _).mono ?_
      rintro e w2 ⟨rfl, hb2⟩
      have HB2 : Hid (Below w.heap.size w w2) := HB1.out.trans (hb2.mono HB1.out.size)
      clear hb2
      go_wp2_with fail
      refine (HQ.out _).mono ?_
      rintro e w3 ⟨rfl, hb3⟩
      have HB3 : Hid (Below w.heap.size w w3) := HB2.out.trans (hb3.mono HB2.out.size)
      clear hb3
      go_wp2_with fail
      go_loop [11, 12] (fun x y => ∃ c j : Nat, j ≤ m ∧ x = .int .i64 c ∧ y = .int .i64 j ∧ c + leastN j = t.length + 1) (fun _ y => (intOf y).toNat)
      case atStart => exact ⟨1, m, Nat.le_refl _, rfl, rfl, by rw [HTL.out]; omega⟩
      case round =>
        obtain ⟨c, j, hj, rfl, rfl, hl⟩ := hrel
        have HL : Hid (c + leastN j = t.length + 1) := hl
        have hc : c ≤ 6 := by omega
        have hjm : j ≤ 2147483647 := Nat.le_trans hj HM.out
        clear hl
        by_cases hlt : j < 128
        · have HC : Hid (c = t.length) := by show _ = _; have := HL.out; rw [least_one hlt] at this; omega
          have hc2 := HC.out
          subst hc2
          have hx : (t == t2) = (decide (m = m2)) := by
            rw [← HT.out, ← HT2.out]
            by_cases he : m = m2
            · subst he; simp
            · rw [beq_eq_false_iff_ne.2 (fun h => he (num_inj h)), decide_eq_false he]
          have hy : m ≤ m2 → t.length ≤ t2.length := fun h => by rw [← HT.out, ← HT2.out]; exact num_mono h
          by_cases hg : m2 < m
          · have hx2 : (t == t2) = false := by rw [hx]; exact decide_eq_false (by omega)
            have hx3 : ((m : Int) == (m2 : Int)) = false := by rw [beq_eq_false_iff_ne]; omega
            clear hx hy
            go_wp2_with fail
            go_ret
            exact ⟨rfl, HB3.out⟩
          · have hy2 := hy (by omega)
            clear hy
            go_wp2_with fail
            go_ret
            refine ⟨?_, HB3.out⟩
            show Ending.returned (.bool (decide (m = m2) == ((m : Int) == (m2 : Int)))) = _
            by_cases he : m = m2
            · subst he; simp
            · rw [decide_eq_false he, show ((m : Int) == (m2 : Int)) = false by rw [beq_eq_false_iff_ne]; omega]; rfl
        · have HC : Hid (c + 1 + leastN (j / 128) = t.length + 1) := by show _ = _; have := HL.out; rw [least_more hlt] at this; omega
          go_wp2_with fail
          go_round
          case rel => exact ⟨c + 1, j / 128, by omega, by first | rfl | go_num, by first | rfl | go_num, HC.out⟩
          case measure => simp [intOf]; omega
end Go.Proofs.Ytillooigiidpkaa
