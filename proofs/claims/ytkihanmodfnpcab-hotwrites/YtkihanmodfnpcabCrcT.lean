/- What a byte does to a check sum, as a table: no program in it. -/
import Derived.Test.YtkihanmodfnpcabCrcL
namespace Go.Proofs.Ytkihanmodfnpcab
set_option linter.unusedSimpArgs false
set_option linter.unusedVariables false

/-- what is at place b of the table -/
def crcT (b : Nat) : BitVec 32 := crcF (BitVec.ofNat 32 b) (List.replicate 8 false)
theorem crcT_xor (a b : Nat) : crcT (a ^^^ b) = crcT a ^^^ crcT b := by
  unfold crcT
  have h := crcF_xor (List.replicate 8 false) (List.replicate 8 false) rfl (BitVec.ofNat 32 a) (BitVec.ofNat 32 b)
  rw [← h, BitVec.ofNat_xor]
  rfl
theorem add_xor : ∀ k, k < 8 → ∀ b, b < 256 → b % (2 * 2 ^ k) = 0 → b + 2 ^ k = b ^^^ 2 ^ k := by decide +kernel
theorem crcT_add {k b : Nat} (hk : k < 8) (hb : b < 256) (h : b % (2 * 2 ^ k) = 0) : crcT (b + 2 ^ k) = crcT b ^^^ crcT (2 ^ k) := by
  rw [add_xor k hk b hb h, crcT_xor]
theorem crcT_zero : crcT 0 = 0#32 := by decide +kernel
/-- a bit goes out -/
def movedV (x : BitVec 32) : BitVec 32 := crcB x false
theorem crcT_top : crcT 128 = movedV 1#32 := by decide +kernel
theorem crcT_half : ∀ k, k < 7 → crcT (2 ^ k) = movedV (crcT (2 ^ (k + 1))) := by decide +kernel
/-- a byte is taken in -/
theorem crc_byte (x : BitVec 32) (c : UInt8) : crcF x (bitsB c) = (x >>> 8) ^^^ crcT ((x.toNat % 256) ^^^ c.toNat) := by
  have hc : (BitVec.ofNat 32 c.toNat).toNat = c.toNat := by
    rw [BitVec.toNat_ofNat]; exact Nat.mod_eq_of_lt (by have := c.toNat_lt; omega)
  have e1 : bitsB c = bitsT (BitVec.ofNat 32 c.toNat) 8 := by
    unfold bitsB bitsT
    refine List.map_congr_left fun k _ => ?_
    show _ = (BitVec.ofNat 32 c.toNat).toNat.testBit k
    rw [hc]
  have z1 : BitVec.ofNat 32 c.toNat >>> 8 = 0#32 := by
    apply BitVec.eq_of_toNat_eq
    rw [BitVec.toNat_ushiftRight, hc, Nat.shiftRight_eq_div_pow]
    have := c.toNat_lt
    simp; omega
  have h1 := crc_shift x (BitVec.ofNat 32 c.toNat) 8
  rw [z1, BitVec.xor_zero, ← e1] at h1
  rw [← h1]
  have h2 := crc_shift 0#32 ((x >>> 8) <<< 8) 8
  have z2 : bitsT ((x >>> 8) <<< 8) 8 = List.replicate 8 false := by
    refine List.ext_getElem? fun m => ?_
    by_cases hm : m < 8
    · rw [List.getElem?_replicate, if_pos hm]; simp [bitsT, hm]
    · rw [List.getElem?_eq_none (by simp [bitsT]; omega), List.getElem?_eq_none (by simp; omega)]
  have z3 : ((x >>> 8) <<< 8) >>> 8 = x >>> 8 := by
    refine BitVec.eq_of_getLsbD_eq fun i hi => ?_
    simp only [BitVec.getLsbD_ushiftRight, BitVec.getLsbD_shiftLeft]
    by_cases h24 : 8 + i < 32
    · have e : 8 + i - 8 = i := by omega
      have e2 : decide (8 + i < 8) = false := by simp
      simp [h24]
    · rw [BitVec.getLsbD_of_ge x (8 + i) (by omega)]
      simp [h24]
  rw [z2, crcF_none, z3, BitVec.zero_xor, BitVec.zero_xor] at h2
  have e3 : x ^^^ BitVec.ofNat 32 c.toNat = ((x >>> 8) <<< 8) ^^^ BitVec.ofNat 32 ((x.toNat % 256) ^^^ c.toNat) := by
    rw [BitVec.ofNat_xor, ← BitVec.xor_assoc]
    congr 1
    refine BitVec.eq_of_getLsbD_eq fun i hi => ?_
    have q : (BitVec.ofNat 32 (x.toNat % 256)).getLsbD i = (decide (i < 8) && x.getLsbD i) := by
      rw [BitVec.getLsbD_ofNat, show (256 : Nat) = 2 ^ 8 by decide, Nat.testBit_mod_two_pow]
      simp [hi, BitVec.getLsbD]
    rw [BitVec.getLsbD_xor, q, BitVec.getLsbD_shiftLeft, BitVec.getLsbD_ushiftRight]
    by_cases h8 : i < 8
    · simp [h8, hi]
    · have e : 8 + (i - 8) = i := by omega
      simp [h8, hi, e]
  have h3 := crcF_xor (List.replicate 8 false) (List.replicate 8 false) rfl ((x >>> 8) <<< 8) (BitVec.ofNat 32 ((x.toNat % 256) ^^^ c.toNat))
  have z4 : List.zipWith (fun a b => a ^^ b) (List.replicate 8 false) (List.replicate 8 false) = List.replicate 8 false := rfl
  rw [z4, ← e3, h2] at h3
  exact h3
/-- the sum, byte by byte -/
def crcS (l : List UInt8) : BitVec 32 := crcF (~~~0#32) (bitsL l)
theorem crcL_S (l : List UInt8) : crcL l = ~~~ crcS l := rfl
theorem crcS_nil : crcS [] = ~~~0#32 := rfl
theorem crcS_snoc (l : List UInt8) (c : UInt8) : crcS (l ++ [c]) = crcF (crcS l) (bitsB c) := by
  unfold crcS
  rw [show bitsL (l ++ [c]) = bitsL l ++ bitsB c by simp [bitsL], crcF_app]
theorem crcS_step {l : List UInt8} {k : Nat} {c : UInt8} (h : l[k]? = some c) : crcS (l.take (k + 1)) = crcF (crcS (l.take k)) (bitsB c) := by
  rw [show l.take (k + 1) = l.take k ++ [c] by rw [List.take_add_one, h]; rfl, crcS_snoc]
/-- the same in numbers -/
theorem crcB_nat (x : BitVec 32) (b : Bool) : (crcB x b).toNat = if (decide (x.toNat % 2 = 1) ^^ b) = true then (x.toNat / 2) ^^^ 2197175160 else x.toNat / 2 := by
  have h0 : x.getLsbD 0 = decide (x.toNat % 2 = 1) := by
    show x.toNat.testBit 0 = _
    rw [Nat.testBit_zero]
  unfold crcB
  rw [h0]
  split <;> simp [BitVec.toNat_ushiftRight, Nat.shiftRight_eq_div_pow]
theorem crc_byte_nat (x : BitVec 32) (c : UInt8) : (crcF x (bitsB c)).toNat = (x.toNat / 256) ^^^ (crcT ((x.toNat % 256) ^^^ c.toNat)).toNat := by
  rw [crc_byte, BitVec.toNat_xor, BitVec.toNat_ushiftRight, Nat.shiftRight_eq_div_pow]
theorem not_nat (x : BitVec 32) : (~~~x).toNat = 4294967295 - x.toNat := by rw [BitVec.toNat_not]
theorem byte_lt (a : Nat) (c : UInt8) : (a % 256) ^^^ c.toNat < 256 := Nat.xor_lt_two_pow (n := 8) (Nat.mod_lt _ (by omega)) c.toNat_lt
/-- where the table's places lie -/
theorem tab_lt : ∀ j, j < 8 → ∀ b, b < 256 → b % (2 * 2 ^ j) = 0 → b + 2 ^ j < 256 ∧ b + 2 * 2 ^ j ≤ 256 := by decide +kernel
theorem tab_between : ∀ j, j < 8 → ∀ b, b < 256 → b % (2 * 2 ^ j) = 0 → ∀ c, c < 256 → c % 2 ^ j = 0 → b ≤ c → c < b + 2 * 2 ^ j → c = b ∨ c = b + 2 ^ j := by
  intro j hj b hb h c hc hm h1 h2
  rcases (by omega : j = 0 ∨ j = 1 ∨ j = 2 ∨ j = 3 ∨ j = 4 ∨ j = 5 ∨ j = 6 ∨ j = 7) with rfl | rfl | rfl | rfl | rfl | rfl | rfl | rfl <;> simp at * <;> omega
def tabC (f : Nat → BitVec 32) : Array Value := ((List.range 256).map (fun b => Value.int .u32 ((f b).toNat : Int))).toArray
theorem tabC_size (f : Nat → BitVec 32) : (tabC f).size = 256 := by simp [tabC]
theorem tabC_at (f : Nat → BitVec 32) {b : Nat} (h : b < 256) : (tabC f)[b]? = some (.int .u32 ((f b).toNat : Int)) := by simp [tabC, h]
theorem tabC_one (f : Nat → BitVec 32) : (tabC f).all (·.oneCell') = true := by
  rw [Array.all_eq_true_iff_forall_mem]
  intro v hv
  simp only [tabC, List.mem_toArray, List.mem_map] at hv
  obtain ⟨b, _, rfl⟩ := hv
  rfl
theorem tabC_set (f : Nat → BitVec 32) {b : Nat} (h : b < 256) (x : BitVec 32) : (tabC f).setIfInBounds b (.int .u32 (x.toNat : Int)) = tabC (fun c => if c = b then x else f c) := by
  apply Array.ext_getElem?
  intro i
  rw [Array.getElem?_setIfInBounds, tabC_size]
  by_cases hi : i < 256
  · rw [tabC_at _ hi, tabC_at _ hi]
    by_cases e : b = i
    · subst e; simp [h]
    · have e' : ¬ i = b := fun q => e q.symm
      simp [e, e']
  · rw [Array.getElem?_eq_none (by rw [tabC_size]; omega), Array.getElem?_eq_none (by rw [tabC_size]; omega)]
    split
    · omega
    · rfl
theorem tabC_ext {f g : Nat → BitVec 32} (h : ∀ b, b < 256 → f b = g b) : tabC f = tabC g := by
  apply Array.ext_getElem?
  intro i
  by_cases hi : i < 256
  · rw [tabC_at _ hi, tabC_at _ hi, h i hi]
  · rw [Array.getElem?_eq_none (by rw [tabC_size]; omega), Array.getElem?_eq_none (by rw [tabC_size]; omega)]
theorem tabC_zero : Array.replicate 256 (Value.int .u32 0) = tabC (fun _ => 0#32) := by
  apply Array.ext_getElem?
  intro i
  by_cases hi : i < 256
  · rw [tabC_at _ hi, Array.getElem?_replicate, if_pos hi]; rfl
  · rw [Array.getElem?_eq_none (by simp; omega), Array.getElem?_eq_none (by rw [tabC_size]; omega)]

end Go.Proofs.Ytkihanmodfnpcab
