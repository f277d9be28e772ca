/- Bits that are turned in a row, byte by byte; bodies with a check sum behind them: no program in it. -/
import Derived.Test.YtkihanmodfnpcabCrcL
namespace Go.Proofs.Ytkihanmodfnpcab
set_option linter.unusedSimpArgs false
set_option linter.unusedVariables false

def bitAt (s : List UInt8) (m : Nat) : Bool := match s[m / 8]? with | some c => c.toNat.testBit (m % 8) | none => false
theorem bitsL_at (s : List UInt8) : ∀ m, m < 8 * s.length → (bitsL s)[m]? = some (bitAt s m) := by
  induction s with
  | nil => intro m h; simp at h
  | cons c s ih =>
    intro m h
    show (bitsB c ++ bitsL s)[m]? = _
    simp only [List.length_cons] at h
    by_cases hm : m < 8
    · rw [List.getElem?_append_left (by rw [bitsB_len]; exact hm)]
      have e1 : m / 8 = 0 := by omega
      have e2 : m % 8 = m := by omega
      simp [bitsB, bitAt, e1, e2, hm]
    · rw [List.getElem?_append_right (by rw [bitsB_len]; omega), bitsB_len, ih (m - 8) (by omega)]
      have e1 : m / 8 = (m - 8) / 8 + 1 := by omega
      have e2 : m % 8 = (m - 8) % 8 := by omega
      simp only [bitAt, e1, List.getElem?_cons_succ, ← e2]
theorem bits_ext {s t : List UInt8} {ds : List Bool} (hl : t.length = s.length) (hd : ds.length = 8 * s.length) (h : ∀ m, m < 8 * s.length → bitAt t m = (bitAt s m ^^ ds[m]?.getD false)) : bitsL t = List.zipWith (fun x y => x ^^ y) (bitsL s) ds := by
  refine List.ext_getElem? fun m => ?_
  by_cases hm : m < 8 * s.length
  · rw [bitsL_at t m (by omega), List.getElem?_zipWith, bitsL_at s m hm, h m hm]
    obtain ⟨d, hd2⟩ : ∃ d, ds[m]? = some d := ⟨ds[m]'(by omega), List.getElem?_eq_getElem _⟩
    rw [hd2]; rfl
  · rw [List.getElem?_eq_none (by rw [bitsL_len]; omega), List.getElem?_eq_none (by simp [bitsL_len]; omega)]
/-- a bit is turned -/
def flipAt (s : List UInt8) (j : Nat) : List UInt8 := s.set (j / 8) ((s[j / 8]?.getD 0) ^^^ UInt8.ofNat (2 ^ (j % 8)))
theorem flip_len (s : List UInt8) (j : Nat) : (flipAt s j).length = s.length := by simp [flipAt]
theorem flip_bit {s : List UInt8} {j : Nat} (hj : j < 8 * s.length) (m : Nat) (hm : m < 8 * s.length) : bitAt (flipAt s j) m = (bitAt s m ^^ decide (m = j)) := by
  obtain ⟨c, hc⟩ : ∃ c, s[j / 8]? = some c := ⟨s[j / 8]'(by omega), List.getElem?_eq_getElem _⟩
  have hp : 2 ^ (j % 8) < 256 := by
    have h8 : j % 8 < 8 := by omega
    have := Nat.pow_lt_pow_right (show 1 < 2 by omega) h8
    simpa using this
  have ht : (c ^^^ UInt8.ofNat (2 ^ (j % 8))).toNat = c.toNat ^^^ 2 ^ (j % 8) := by
    rw [UInt8.toNat_xor, UInt8.toNat_ofNat', Nat.mod_eq_of_lt (by simpa using hp)]
  unfold bitAt flipAt
  rw [hc]
  by_cases he : m / 8 = j / 8
  · rw [he, List.getElem?_set_self (by omega), hc]
    simp only [Option.getD_some, ht, Nat.testBit_xor, Nat.testBit_two_pow]
    congr 1
    by_cases hmj : m = j
    · subst hmj; simp
    · have : j % 8 ≠ m % 8 := by omega
      simp [hmj, this]
  · rw [List.getElem?_set_ne (by omega)]
    have : m ≠ j := fun e => he (by rw [e])
    simp [this]
/-- of 32 bits in a row from p on those that t has -/
def turnR32 (s : List UInt8) (p : Nat) (t : BitVec 32) : Nat → List UInt8
  | 0 => s
  | i + 1 => if t.getLsbD i = true then flipAt (turnR32 s p t i) (p + i) else turnR32 s p t i
theorem turned_len (s : List UInt8) (p : Nat) (t : BitVec 32) (i : Nat) : (turnR32 s p t i).length = s.length := by
  induction i with
  | zero => rfl
  | succ i ih => rw [turnR32]; split <;> simp [flip_len, ih]
theorem turned_bit {s : List UInt8} {p : Nat} (hp : p + 32 ≤ 8 * s.length) (t : BitVec 32) : ∀ i, i ≤ 32 → ∀ m, m < 8 * s.length → bitAt (turnR32 s p t i) m = (bitAt s m ^^ (decide (p ≤ m ∧ m < p + i) && t.getLsbD (m - p))) := by
  intro i
  induction i with
  | zero =>
    intro _ m _
    have e : decide (p ≤ m ∧ m < p + 0) = false := by rw [decide_eq_false_iff_not]; omega
    rw [e]; simp [turnR32]
  | succ i ih =>
    intro hi m hm
    have ih := ih (by omega) m hm
    rw [turnR32]
    by_cases hb : t.getLsbD i = true
    · rw [if_pos hb, flip_bit (by rw [turned_len]; omega) m (by rw [turned_len]; exact hm), ih]
      by_cases hmi : m = p + i
      · subst hmi
        have e1 : decide (p ≤ p + i ∧ p + i < p + i) = false := by simp
        have e2 : decide (p ≤ p + i ∧ p + i < p + (i + 1)) = true := by simp
        rw [e1, e2, show p + i - p = i by omega, hb]; simp
      · have e : decide (p ≤ m ∧ m < p + (i + 1)) = decide (p ≤ m ∧ m < p + i) := by
          rw [decide_eq_decide]; omega
        rw [e]; simp [hmi]
    · rw [if_neg hb, ih]
      have hb' : t.getLsbD i = false := by simpa using hb
      by_cases hmi : m = p + i
      · subst hmi
        rw [show p + i - p = i by omega, hb']; simp
      · have e : decide (p ≤ m ∧ m < p + (i + 1)) = decide (p ≤ m ∧ m < p + i) := by
          rw [decide_eq_decide]; omega
        rw [e]
theorem turned_bits {s : List UInt8} {p : Nat} (hp : p + 32 ≤ 8 * s.length) (t : BitVec 32) : bitsL (turnR32 s p t 32) = List.zipWith (fun x y => x ^^ y) (bitsL s) (List.replicate p false ++ bitsT t 32 ++ List.replicate (8 * s.length - p - 32) false) := by
  have hlb : (bitsT t 32).length = 32 := by simp [bitsT]
  refine bits_ext (turned_len s p t 32) (by simp only [List.length_append, List.length_replicate, hlb]; omega) fun m hm => ?_
  rw [turned_bit hp t 32 (Nat.le_refl _) m hm]
  congr 1
  by_cases h1 : m < p
  · rw [List.append_assoc, List.getElem?_append_left (by simp; exact h1), List.getElem?_replicate, if_pos h1]
    have : decide (p ≤ m ∧ m < p + 32) = false := by rw [decide_eq_false_iff_not]; omega
    rw [this]; rfl
  · by_cases h2 : m < p + 32
    · rw [List.append_assoc, List.getElem?_append_right (by simp; omega), List.length_replicate, List.getElem?_append_left (by rw [hlb]; omega)]
      have e1 : decide (p ≤ m ∧ m < p + 32) = true := by rw [decide_eq_true_eq]; omega
      have e2 : m - p < 32 := by omega
      rw [e1]
      simp [bitsT, e2]
    · rw [List.getElem?_append_right (by simp only [List.length_append, List.length_replicate, hlb]; omega), List.getElem?_replicate]
      have : decide (p ≤ m ∧ m < p + 32) = false := by rw [decide_eq_false_iff_not]; omega
      rw [this]
      split <;> rfl
theorem turned_told {s : List UInt8} {p : Nat} (hp : p + 32 ≤ 8 * s.length) {t : BitVec 32} (ht : t ≠ 0#32) : crcL (turnR32 s p t 32) ≠ crcL s := crc_bursts ht hp (turned_bits hp t)

/-- a sum as four bytes, the lowest first -/
def sumB (c : BitVec 32) : List UInt8 := [UInt8.ofNat c.toNat, UInt8.ofNat (c.toNat / 256), UInt8.ofNat (c.toNat / 65536), UInt8.ofNat (c.toNat / 16777216)]
theorem bits_sum (c : BitVec 32) : bitsL (sumB c) = bitsT c 32 := by
  refine List.ext_getElem? fun m => ?_
  by_cases hm : m < 32
  · rw [bitsL_at (sumB c) m (by simp [sumB]; omega)]
    have h1 : (bitsT c 32)[m]? = some (c.getLsbD m) := by simp [bitsT, hm]
    rw [h1]
    congr 1
    have key : ∀ i, i < 4 → (sumB c)[i]? = some (UInt8.ofNat (c.toNat / 2 ^ (8 * i))) := by
      intro i hi
      rcases (by omega : i = 0 ∨ i = 1 ∨ i = 2 ∨ i = 3) with rfl | rfl | rfl | rfl <;> simp [sumB]
    unfold bitAt
    rw [key (m / 8) (by omega)]
    simp only [UInt8.toNat_ofNat']
    have h8 : m % 8 < 8 := by omega
    rw [Nat.testBit_mod_two_pow]
    simp only [h8, decide_true, Bool.true_and, Nat.testBit_div_two_pow]
    rw [show m % 8 + 8 * (m / 8) = m by omega]
    rfl
  · rw [List.getElem?_eq_none (by rw [bitsL_len]; simp [sumB]; omega), List.getElem?_eq_none (by simp [bitsT]; omega)]
theorem bitsL_app (a b : List UInt8) : bitsL (a ++ b) = bitsL a ++ bitsL b := by simp [bitsL]
theorem shift_all (t : BitVec 32) : t >>> 32 = 0#32 := by
  refine BitVec.eq_of_getLsbD_eq fun i hi => ?_
  rw [BitVec.getLsbD_ushiftRight]
  simp [BitVec.getLsbD_of_ge]
/-- zeros part what is unlike -/
theorem zeros_inj {x y : BitVec 32} (n : Nat) (h : crcF x (List.replicate n false) = crcF y (List.replicate n false)) : x = y := by
  have h1 := crcF_xor (List.replicate n false) (List.replicate n false) rfl x y
  have h2 : List.zipWith (fun a b => a ^^ b) (List.replicate n false) (List.replicate n false) = List.replicate n false := by simp
  rw [h2, h, BitVec.xor_self] at h1
  have h3 := crcF_zeros n h1
  have h4 := congrArg (fun v => v ^^^ y) h3
  simpa [BitVec.xor_assoc] using h4
/-- a text with its sum behind it comes to one and the same state, and no other does -/
theorem sum_state (m : List UInt8) (c : BitVec 32) : crcF (~~~0#32) (bitsL (m ++ sumB c)) = crcF (~~~0#32) (List.replicate 32 false) ↔ c = crcL m := by
  rw [bitsL_app, crcF_app, bits_sum]
  have h := crc_shift (crcF (~~~0#32) (bitsL m)) c 32
  rw [shift_all, BitVec.xor_zero] at h
  rw [← h]
  constructor
  · intro e
    have e1 := zeros_inj 32 e
    unfold crcL
    have e2 := congrArg (fun v => crcF (~~~0#32) (bitsL m) ^^^ v) e1
    simp only [← BitVec.xor_assoc, BitVec.xor_self, BitVec.zero_xor] at e2
    rw [e2]
    generalize crcF (~~~0#32) (bitsL m) = X
    refine BitVec.eq_of_getLsbD_eq fun i hi => ?_
    rw [BitVec.getLsbD_xor, BitVec.getLsbD_not, BitVec.getLsbD_not, BitVec.getLsbD_zero]
    simp [hi]
  · intro e
    subst e
    congr 1
    unfold crcL
    generalize crcF (~~~0#32) (bitsL m) = X
    refine BitVec.eq_of_getLsbD_eq fun i hi => ?_
    rw [BitVec.getLsbD_xor, BitVec.getLsbD_not, BitVec.getLsbD_not, BitVec.getLsbD_zero]
    simp only [hi, decide_true, Bool.true_and]
    cases X.getLsbD i <;> rfl
theorem sumB_len (c : BitVec 32) : (sumB c).length = 4 := rfl
theorem sum_bytes (b : List UInt8) (h : b.length = 4) : ∃ c : BitVec 32, b = sumB c := by
  match b, h with
  | [b0, b1, b2, b3], _ =>
    refine ⟨BitVec.ofNat 32 (b0.toNat + 256 * b1.toNat + 65536 * b2.toNat + 16777216 * b3.toNat), ?_⟩
    have h0 := b0.toNat_lt
    have h1 := b1.toNat_lt
    have h2 := b2.toNat_lt
    have h3 := b3.toNat_lt
    have e : (BitVec.ofNat 32 (b0.toNat + 256 * b1.toNat + 65536 * b2.toNat + 16777216 * b3.toNat)).toNat = b0.toNat + 256 * b1.toNat + 65536 * b2.toNat + 16777216 * b3.toNat := by
      rw [BitVec.toNat_ofNat]; apply Nat.mod_eq_of_lt; omega
    unfold sumB
    rw [e]
    have k : ∀ (u : UInt8) (n : Nat), n % 256 = u.toNat → UInt8.ofNat n = u := by
      intro u n hn
      apply UInt8.toNat_inj.1
      rw [UInt8.toNat_ofNat']; simpa using hn
    rw [k b0 _ (by omega), k b1 _ (by omega), k b2 _ (by omega), k b3 _ (by omega)]
/-- of a text with its sum behind it, of which bits are turned within 32 in a row, the sum is another -/
theorem sum_told {m m' b' : List UInt8} {p : Nat} {t : BitVec 32} (hp : p + 32 ≤ 8 * (m.length + 4)) (ht : t ≠ 0#32) (hl : m'.length = m.length) (h : m' ++ b' = turnR32 (m ++ sumB (crcL m)) p t 32) : b' ≠ sumB (crcL m') := by
  intro e
  have hL : (m ++ sumB (crcL m)).length = m.length + 4 := by simp [sumB]
  have h1 := crc_told (~~~0#32) (bitsL (m ++ sumB (crcL m))) p (8 * (m.length + 4) - p - 32) ht (by rw [bitsL_len, hL]; omega)
  have h2 := turned_bits (s := m ++ sumB (crcL m)) (p := p) (by rw [hL]; exact hp) t
  rw [hL] at h2
  rw [← h2, ← h, e] at h1
  exact h1 (((sum_state m' (crcL m')).2 rfl).trans ((sum_state m (crcL m)).2 rfl).symm)

end Go.Proofs.Ytkihanmodfnpcab
