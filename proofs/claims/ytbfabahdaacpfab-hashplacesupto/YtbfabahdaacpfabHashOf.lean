/- What hash.Of, and the document's own Hash, answer. -/
import Derived.Test.YtbfabahdaacpfabHKit
import Derived.Test.YtbfabahdaacpfabHashL
namespace Go.Proofs.Ytbfabahdaacpfab
open Go.RowKit
set_option linter.unusedSimpArgs false
set_option linter.unusedVariables false

theorem hash_step {l : List UInt8} {k : Nat} {c : UInt8} (h : l[k]? = some c) : hashL (l.take (k + 1)) = (257 * hashL (l.take k) + 1 + c.toNat) % 2147483647 := by
  have h1 : l.take (k + 1) = l.take k ++ [c] := by
    rw [List.take_add_one, h]; rfl
  rw [h1, hashL, hashF_app, hashF_one]
  rfl

theorem wrap_in {x : Int} (h0 : 0 ≤ x) (h1 : x < 9223372036854775808) : wrap64 x = x := IntWalk.wrap64_in _ ⟨by omega, by omega⟩
theorem tmod_nat (a b : Nat) : (a : Int).tmod (b : Int) = ((a % b : Nat) : Int) := by
  rw [Int.tmod_eq_emod_of_nonneg (by omega)]; rfl
theorem hash_numA {h c : Nat} (hh : h < 2147483647) (hc : c < 256) : (wrap64 (wrap64 ((h : Int) * 257 + wrap64 (c : Int)) + 1)).tmod 2147483647 = (((257 * h + 1 + c) % 2147483647 : Nat) : Int) := by
  rw [wrap_in (x := (c : Int)) (by omega) (by omega), wrap_in (x := (h : Int) * 257 + c) (by omega) (by omega), wrap_in (by omega) (by omega), show ((h : Int) * 257 + c + 1) = ((257 * h + 1 + c : Nat) : Int) by omega]
  exact tmod_nat _ 2147483647
set_option maxHeartbeats 1000000 in
theorem HashOf_any (s : ByteArray) (w : World) (hs : s.size ≤ 1000000000000000000) :
    Calls Try.prog 5 #[.string s] w fun e w' => e = .returned (.int .i64 (hashL s.data.toList)) ∧ w' = w := by
  have hl : s.data.toList.length = s.size := Array.length_toList
  go_enter Try.func5, Try.ntmps5
  go_wp2_with fail
  go_loop [3, 7] (fun h i => ∃ k : Nat, k ≤ s.size ∧ i = .int .i64 k ∧ h = .int .i64 (hashL (s.data.toList.take k))) (fun _ i => s.size - (intOf i).toNat)
  case atStart => exact ⟨0, Nat.zero_le _, rfl, rfl⟩
  case round =>
    obtain ⟨k, hk, rfl, rfl⟩ := hrel
    by_cases hlt : k < s.size
    · obtain ⟨c, hc⟩ : ∃ c, s.data.toList[k]? = some c := ⟨s.data.toList[k]'(by omega), List.getElem?_eq_getElem _⟩
      have HS : Hid _ := hash_step hc
      have hb := hash_lt (s.data.toList.take k)
      go_wp2_with fail
      go_round
      case rel =>
        refine ⟨k + 1, by omega, by go_num, ?_⟩
        rw [HS.out, at_byte hc hlt, hash_numA hb (UInt8.toNat_lt c)]
      case measure => simp [intOf]; omega
    · have hkk : k = s.size := by omega
      subst hkk
      go_wp2_with fail
      go_ret
      refine ⟨?_, rfl⟩
      show Ending.returned (.int .i64 (hashL (s.data.toList.take s.size))) = _
      rw [List.take_of_length_le (by omega)]
theorem hash_numB {h c : Nat} (hh : h < 2147483647) (hc : c < 256) : (wrap64 (257 * (h : Int) + 1 + wrap64 (c : Int))).tmod 2147483647 = (((257 * h + 1 + c) % 2147483647 : Nat) : Int) := by
  rw [wrap_in (x := (c : Int)) (by omega) (by omega), wrap_in (by omega) (by omega)]
  exact tmod_nat (257 * h + 1 + c) 2147483647
end Go.Proofs.Ytbfabahdaacpfab
