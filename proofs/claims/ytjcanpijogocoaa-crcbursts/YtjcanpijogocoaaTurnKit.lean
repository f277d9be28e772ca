/- Bits of a word, and of a byte, as the program turns them. -/
import Derived.Test.YtjcanpijogocoaaCrcOf
import Derived.Test.YtjcanpijogocoaaFrameL
import Derived.Test.YtjcanpijogocoaaBytesAt
namespace Go.Proofs.Ytjcanpijogocoaa
open Go.RowKit
set_option linter.unusedSimpArgs false
set_option linter.unusedVariables false

theorem bit_of {t i : Nat} (ht : t < 4294967296) (hi : i < 32) : (bits .and .u32 ((t : Int) / 2 ^ i) 1 == 1) = (BitVec.ofNat 32 t).getLsbD i := by
  have h1 : t / 2 ^ i ≤ t := Nat.div_le_self _ _
  have h2 : (t : Int) / 2 ^ i = ((t / 2 ^ i : Nat) : Int) := by simp
  rw [h2, and_one (by omega), BitVec.getLsbD_ofNat, Nat.testBit_eq_decide_div_mod_eq]
  simp only [hi, decide_true, Bool.true_and]
  generalize t / 2 ^ i = d
  by_cases hd : d % 2 = 1
  · simp [hd]
  · have : d % 2 = 0 := by omega
    simp [this]

theorem xor_pow {c : UInt8} {r : Nat} (h : r < 8) : bits .xor .u8 (c.toNat : Int) (2 ^ min r 8 % 256) = ((c ^^^ UInt8.ofNat (2 ^ r)).toNat : Int) := by
  have hp : 2 ^ r < 256 := by
    have := Nat.pow_lt_pow_right (show 1 < 2 by omega) h
    simpa using this
  have h1 : ((2 : Int) ^ min r 8 % 256) = ((2 ^ r : Nat) : Int) := by
    rw [Nat.min_eq_left (by omega)]
    have : (2 : Int) ^ r = ((2 ^ r : Nat) : Int) := by simp
    rw [this]
    generalize 2 ^ r = z at hp
    omega
  rw [h1, u8_xor_nat _ _ c.toNat_lt hp, UInt8.toNat_xor, UInt8.toNat_ofNat', Nat.mod_eq_of_lt (by simpa using hp)]
theorem ofNat_ne {t : Nat} (h : t ≠ 0) (ht : t < 4294967296) : BitVec.ofNat 32 t ≠ 0#32 := by
  intro e
  have h1 := congrArg BitVec.toNat e
  rw [BitVec.toNat_ofNat, Nat.mod_eq_of_lt (by omega)] at h1
  exact h h1
end Go.Proofs.Ytjcanpijogocoaa
