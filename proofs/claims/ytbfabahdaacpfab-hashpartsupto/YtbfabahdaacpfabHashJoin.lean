/- What hash.Join, and the document's own Shift, answer. -/
import Derived.Test.YtbfabahdaacpfabHashOf
namespace Go.Proofs.Ytbfabahdaacpfab
open Go.RowKit
set_option linter.unusedSimpArgs false
set_option linter.unusedVariables false

def powN (n : Nat) : Nat := 257 ^ n % 2147483647
theorem pow_lt (n : Nat) : powN n < 2147483647 := Nat.mod_lt _ (by decide)

theorem isSum_any (a : Int) (w : World) :
    Calls Try.prog 11 #[.int .i64 a] w fun e w' => e = .returned (.bool (decide (0 ≤ a ∧ a < 2147483647))) ∧ w' = w := by
  go_enter Try.func11, Try.ntmps11
  by_cases h1 : 0 ≤ a
  · by_cases h2 : a < 2147483647
    · have e : decide (0 ≤ a ∧ a < 2147483647) = true := by simp [h1, h2]
      rw [e]
      clear e
      go_wp2_with fail
      go_ret
      exact ⟨rfl, rfl⟩
    · have e : decide (0 ≤ a ∧ a < 2147483647) = false := by simp [h1, h2]
      rw [e]
      clear e
      go_wp2_with fail
      go_ret
      exact ⟨rfl, rfl⟩
  · have e : decide (0 ≤ a ∧ a < 2147483647) = false := by simp [h1]
    rw [e]
    clear e
    go_wp2_with fail
    go_ret
    exact ⟨rfl, rfl⟩

theorem mulmod {a b : Nat} (ha : a < 2147483647) (hb : b < 2147483647) : (wrap64 ((a : Int) * (b : Int))).tmod 2147483647 = ((a * b % 2147483647 : Nat) : Int) := by
  have h1 : a * b ≤ 2147483647 * 2147483647 := Nat.mul_le_mul (by omega) (by omega)
  have e : (a : Int) * (b : Int) = ((a * b : Nat) : Int) := by simp
  rw [e, wrap_in (by omega) (by omega)]
  exact tmod_nat _ 2147483647

theorem pow_half (m q n : Nat) : m * q ^ n % 2147483647 = (if n % 2 = 1 then m * q % 2147483647 else m) * (q * q % 2147483647) ^ (n / 2) % 2147483647 := by
  have h : ∀ k, q ^ (2 * k) = (q * q) ^ k := fun k => by rw [Nat.pow_mul, Nat.pow_two]
  split
  · rename_i h1
    have hn : n = 2 * (n / 2) + 1 := by omega
    rw [Nat.mul_mod (m * q % 2147483647), Nat.mod_mod, ← Nat.pow_mod, ← Nat.mul_mod]
    conv => lhs; rw [hn, Nat.pow_succ, h, Nat.mul_comm _ q, ← Nat.mul_assoc]
  · rename_i h1
    have hn : n = 2 * (n / 2) := by omega
    rw [Nat.mul_mod m ((q * q % 2147483647) ^ (n / 2)), ← Nat.pow_mod, ← Nat.mul_mod]
    conv => lhs; rw [hn, h]

set_option maxHeartbeats 1000000 in
theorem power_any (n : Nat) (w : World) (hn : n ≤ 9223372036854775807) :
    Calls Try.prog 12 #[.int .i64 n] w fun e w' => e = .returned (.int .i64 (powN n)) ∧ w' = w := by
  go_enter Try.func12, Try.ntmps12
  go_wp2_with fail
  go_loop [0, 3, 4] (fun i m q => ∃ k m1 q1 : Nat, k ≤ n ∧ m1 < 2147483647 ∧ q1 < 2147483647 ∧ i = .int .i64 k ∧ m = .int .i64 m1 ∧ q = .int .i64 q1 ∧ m1 * q1 ^ k % 2147483647 = 257 ^ n % 2147483647) (fun i _ _ => (intOf i).toNat)
  case atStart => exact ⟨n, 1, 257, Nat.le_refl _, by decide, by decide, rfl, rfl, rfl, by rw [Nat.one_mul]⟩
  case round =>
    obtain ⟨k, m1, q1, hk, hm, hq, rfl, rfl, rfl, hpow⟩ := hrel
    have HP : Hid _ := hpow
    have HH : Hid _ := pow_half m1 q1 k
    clear hpow
    have HM := mulmod hm hq
    have HQ := mulmod hq hq
    have hd : ((k : Int).tdiv 2) = ((k / 2 : Nat) : Int) := by rw [Int.tdiv_eq_ediv_of_nonneg (by omega)]; rfl
    have hr : ((k : Int).tmod 2) = ((k % 2 : Nat) : Int) := tmod_nat k 2
    by_cases hlt : 0 < k
    · by_cases h1 : k % 2 = 1
      · go_wp2_with fail
        go_round
        case rel =>
          refine ⟨k / 2, m1 * q1 % 2147483647, q1 * q1 % 2147483647, by omega, Nat.mod_lt _ (by decide), Nat.mod_lt _ (by decide), ?_, ?_, ?_, ?_⟩
          · first | rfl | (go_simp; done) | (simp [hd, HM, HQ]; done)
          · first | rfl | (go_simp; done) | (simp [hd, HM, HQ]; done)
          · first | rfl | (go_simp; done) | (simp [hd, HM, HQ]; done)
          · rw [← HP.out, HH.out, if_pos h1]
        case measure => simp [intOf]; omega
      · go_wp2_with fail
        go_round
        case rel =>
          refine ⟨k / 2, m1, q1 * q1 % 2147483647, by omega, hm, Nat.mod_lt _ (by decide), ?_, ?_, ?_, ?_⟩
          · first | rfl | (go_simp; done) | (simp [hd, HM, HQ]; done)
          · first | rfl | (go_simp; done) | (simp [hd, HM, HQ]; done)
          · first | rfl | (go_simp; done) | (simp [hd, HM, HQ]; done)
          · rw [← HP.out, HH.out, if_neg h1]
        case measure => simp [intOf]; omega
    · have hk0 : k = 0 := by omega
      subst hk0
      go_wp2_with fail
      go_ret
      refine ⟨?_, rfl⟩
      show Ending.returned (.int .i64 (m1 : Nat)) = _
      rw [powN, ← HP.out, Nat.pow_zero, Nat.mul_one, Nat.mod_eq_of_lt hm]

theorem join_num {a b n : Nat} (ha : a < 2147483647) (hb : b < 2147483647) : (wrap64 (wrap64 ((a : Int) * (powN n : Int)) + (b : Int))).tmod 2147483647 = (joinN a b n : Int) := by
  have hp := pow_lt n
  have h1 : a * powN n ≤ 2147483647 * 2147483647 := Nat.mul_le_mul (by omega) (by omega)
  have e : (a : Int) * (powN n : Int) = ((a * powN n : Nat) : Int) := by simp
  rw [e, wrap_in (x := ((a * powN n : Nat) : Int)) (by omega) (by omega), wrap_in (by omega) (by omega)]
  refine (tmod_nat (a * powN n + b) 2147483647).trans ?_
  rw [joinN, powN, Nat.add_mod, Nat.mul_mod, Nat.mod_mod, ← Nat.mul_mod, ← Nat.add_mod]

def joinOk (a b n : Int) : Bool := decide (0 ≤ a ∧ a < 2147483647) && decide (0 ≤ b ∧ b < 2147483647) && decide (0 ≤ n ∧ n ≤ 2147483647)

set_option maxRecDepth 20000 in
set_option maxHeartbeats 1000000 in
theorem Join_ok (a b n : Nat) (w : World) (ha : a < 2147483647) (hb : b < 2147483647) (hn : n ≤ 2147483647) :
    Calls Try.prog 6 #[.int .i64 a, .int .i64 b, .int .i64 n] w fun e w' => e = .returned (.tuple #[.int .i64 (joinN a b n), .int .i64 0]) ∧ w' = w := by
  have HJ : Hid _ := join_num (n := n) ha hb
  have e1 : decide (0 ≤ (a : Int) ∧ (a : Int) < 2147483647) = true := by simp; omega
  have e2 : decide (0 ≤ (b : Int) ∧ (b : Int) < 2147483647) = true := by simp; omega
  go_enter Try.func6, Try.ntmps6
  go_wp2_with fail
  refine (isSum_any a _).mono ?_
  rintro e w1 ⟨rfl, we⟩
  subst we
  rw [e1]
  clear e1
  go_wp2_with fail
  refine (isSum_any b _).mono ?_
  rintro e w2 ⟨rfl, we⟩
  subst we
  rw [e2]
  clear e2
  go_wp2_with fail
  refine (power_any n _ (by omega)).mono ?_
  rintro e w3 ⟨rfl, we⟩
  subst we
  go_wp2_with fail
  go_ret2
  refine ⟨?_, rfl⟩
  show Ending.returned (.tuple #[.int .i64 ((wrap64 (wrap64 ((a : Int) * (powN n : Int)) + (b : Int))).tmod 2147483647), .int .i64 0]) = _
  rw [HJ.out]

set_option maxHeartbeats 1000000 in
theorem Join_not (a b n : Int) (w : World) (h : joinOk a b n = false) :
    Calls Try.prog 6 #[.int .i64 a, .int .i64 b, .int .i64 n] w fun e w' => e = .returned (.tuple #[.int .i64 0, .int .i64 1]) ∧ w' = w := by
  have HJ : Hid (joinOk a b n = false) := h
  clear h
  go_enter Try.func6, Try.ntmps6
  go_wp2_with fail
  refine (isSum_any a _).mono ?_
  rintro e w1 ⟨rfl, we⟩
  subst we
  cases e1 : decide (0 ≤ a ∧ a < 2147483647)
  · go_wp2_with fail
    go_ret2
    exact ⟨rfl, rfl⟩
  · go_wp2_with fail
    refine (isSum_any b _).mono ?_
    rintro e w2 ⟨rfl, we⟩
    subst we
    cases e2 : decide (0 ≤ b ∧ b < 2147483647)
    · go_wp2_with fail
      go_ret2
      exact ⟨rfl, rfl⟩
    · have e3 : decide (0 ≤ n ∧ n ≤ 2147483647) = false := by
        have h := HJ.out
        simpa [joinOk, e1, e2] using h
      by_cases h4 : n < 0
      · clear e3
        go_wp2_with fail
        go_ret2
        exact ⟨rfl, rfl⟩
      · have h5 : n > 2147483647 := by simp at e3; omega
        clear e3
        go_wp2_with fail
        go_ret2
        exact ⟨rfl, rfl⟩

end Go.Proofs.Ytbfabahdaacpfab
