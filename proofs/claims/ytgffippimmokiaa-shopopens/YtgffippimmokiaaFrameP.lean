/- Check sums, bit by bit: what is turned within 32 bits in a row is told; three taken together: no program in it. -/
import Derived.Test.YtgffippimmokiaaPtOwn
namespace Go.Proofs.Ytgffippimmokiaa
set_option linter.unusedSimpArgs false
set_option linter.unusedVariables false

abbrev crcP : BitVec 32 := 0x82f63b78#32
/-- a bit is taken in -/
def crcB (x : BitVec 32) (b : Bool) : BitVec 32 := (x >>> 1) ^^^ (if (x.getLsbD 0 ^^ b) = true then crcP else 0#32)
def crcF (x : BitVec 32) (bs : List Bool) : BitVec 32 := bs.foldl crcB x
theorem crcF_app (x : BitVec 32) (a b : List Bool) : crcF x (a ++ b) = crcF (crcF x a) b := by simp [crcF]
theorem crcF_one (x : BitVec 32) (b : Bool) : crcF x [b] = crcB x b := rfl
theorem crcB_xor (x y : BitVec 32) (b c : Bool) : crcB (x ^^^ y) (b ^^ c) = crcB x b ^^^ crcB y c := by
  unfold crcB
  rw [BitVec.ushiftRight_xor_distrib, BitVec.getLsbD_xor]
  have h : ∀ u v : BitVec 32, ∀ p q : Bool, (u ^^^ v) ^^^ (if (p ^^ q) = true then crcP else 0#32) = (u ^^^ if p = true then crcP else 0#32) ^^^ (v ^^^ if q = true then crcP else 0#32) := by
    intro u v p q
    have e1 : (u ^^^ crcP) ^^^ (v ^^^ crcP) = u ^^^ v := by
      rw [BitVec.xor_assoc, ← BitVec.xor_assoc crcP, BitVec.xor_comm crcP, BitVec.xor_assoc v, BitVec.xor_self]; simp
    cases p <;> cases q <;> simp [BitVec.xor_assoc]
    · rw [BitVec.xor_comm v]
    · rw [BitVec.xor_comm v, ← BitVec.xor_assoc, BitVec.xor_self, BitVec.zero_xor]
  have h2 := h (x >>> 1) (y >>> 1) (x.getLsbD 0 ^^ b) (y.getLsbD 0 ^^ c)
  rw [← h2]
  congr 2
  cases x.getLsbD 0 <;> cases y.getLsbD 0 <;> cases b <;> cases c <;> rfl
theorem crcF_xor (us vs : List Bool) (h : us.length = vs.length) : ∀ x y : BitVec 32, crcF (x ^^^ y) (List.zipWith (fun a b => a ^^ b) us vs) = crcF x us ^^^ crcF y vs := by
  induction us generalizing vs with
  | nil =>
    have : vs = [] := List.length_eq_zero_iff.1 (by simpa using h.symm)
    subst this
    intro x y; rfl
  | cons a us ih =>
    cases vs with
    | nil => simp at h
    | cons b vs =>
      intro x y
      show crcF (crcB (x ^^^ y) (a ^^ b)) _ = crcF (crcB x a) us ^^^ crcF (crcB y b) vs
      rw [crcB_xor]
      exact ih vs (by simpa using h) _ _
theorem crcB_zero {x : BitVec 32} (h : crcB x false = 0#32) : x = 0#32 := by
  unfold crcB at h
  have h0 : x.getLsbD 0 = false := by
    cases hb : x.getLsbD 0
    · rfl
    · rw [hb] at h
      have h1 := congrArg (fun v => v.getLsbD 31) h
      simp only [Bool.xor_false, if_true, BitVec.getLsbD_xor, BitVec.getLsbD_ushiftRight] at h1
      have h2 : x.getLsbD (1 + 31) = false := BitVec.getLsbD_of_ge _ _ (by omega)
      rw [h2] at h1
      revert h1
      decide
  rw [h0] at h
  simp only [Bool.xor_false, Bool.false_eq_true, if_false, BitVec.xor_zero] at h
  refine BitVec.eq_of_getLsbD_eq fun i hi => ?_
  cases i with
  | zero => simpa using h0
  | succ i =>
    have h1 := congrArg (fun v => v.getLsbD i) h
    simp only [BitVec.getLsbD_ushiftRight] at h1
    rw [show i + 1 = 1 + i by omega, h1]; simp
theorem crcF_zeros (n : Nat) {x : BitVec 32} (h : crcF x (List.replicate n false) = 0#32) : x = 0#32 := by
  induction n generalizing x with
  | zero => exact h
  | succ n ih => exact crcB_zero (ih h)
theorem crcF_none (n : Nat) : crcF 0#32 (List.replicate n false) = 0#32 := by
  induction n with
  | zero => rfl
  | succ n ih =>
    have : crcB 0#32 false = 0#32 := by decide
    show crcF (crcB 0#32 false) (List.replicate n false) = 0#32
    rw [this, ih]
/-- the first k bits of t, the lowest first -/
def bitsT (t : BitVec 32) (k : Nat) : List Bool := (List.range k).map t.getLsbD
theorem bitsT_succ (t : BitVec 32) (k : Nat) : bitsT t (k + 1) = bitsT t k ++ [t.getLsbD k] := by simp [bitsT, List.range_succ]
theorem crc_shift (x t : BitVec 32) (k : Nat) : crcF (x ^^^ t) (List.replicate k false) = crcF x (bitsT t k) ^^^ (t >>> k) := by
  induction k with
  | zero => simp [crcF, bitsT]
  | succ k ih =>
    rw [List.replicate_succ', crcF_app, crcF_one, ih, bitsT_succ, crcF_app, crcF_one]
    have h := crcB_xor (crcF x (bitsT t k)) (t >>> k) (t.getLsbD k) (t.getLsbD k)
    rw [Bool.xor_self] at h
    rw [h]
    congr 1
    unfold crcB
    have e : (t >>> k).getLsbD 0 = t.getLsbD k := by rw [BitVec.getLsbD_ushiftRight, Nat.add_zero]
    rw [e, Bool.xor_self]
    simp [BitVec.shiftRight_add]
/-- 32 bits of which one is turned are told -/
theorem crc_burst {t : BitVec 32} (ht : t ≠ 0#32) : crcF 0#32 (bitsT t 32) ≠ 0#32 := by
  intro h
  have h1 := crc_shift 0#32 t 32
  rw [h] at h1
  have h2 : t >>> 32 = 0#32 := by
    refine BitVec.eq_of_getLsbD_eq fun i hi => ?_
    rw [BitVec.getLsbD_ushiftRight]
    simp [BitVec.getLsbD_of_ge]
  rw [h2] at h1
  simp only [BitVec.zero_xor, BitVec.xor_zero] at h1
  exact ht (crcF_zeros 32 h1)
theorem crc_told (x : BitVec 32) (bs : List Bool) (p q : Nat) {t : BitVec 32} (ht : t ≠ 0#32) (h : bs.length = p + 32 + q) :
    crcF x (List.zipWith (fun a b => a ^^ b) bs (List.replicate p false ++ bitsT t 32 ++ List.replicate q false)) ≠ crcF x bs := by
  intro e
  have hl : bs.length = (List.replicate p false ++ bitsT t 32 ++ List.replicate q false).length := by simp only [List.length_append, List.length_replicate, bitsT, List.length_map, List.length_range]; omega
  have h1 := crcF_xor bs _ hl x 0#32
  rw [BitVec.xor_zero, e, crcF_app, crcF_app, crcF_none] at h1
  have h2 : crcF (crcF 0#32 (bitsT t 32)) (List.replicate q false) = 0#32 := by
    have h3 := congrArg (fun v => crcF x bs ^^^ v) h1
    simp only [← BitVec.xor_assoc, BitVec.xor_self, BitVec.zero_xor] at h3
    exact h3.symm
  exact crc_burst ht (crcF_zeros q h2)

/-- the bits of a text, each byte's lowest first -/
def bitsB (c : UInt8) : List Bool := (List.range 8).map (fun k => c.toNat.testBit k)
def bitsL (s : List UInt8) : List Bool := s.flatMap bitsB
def crcL (s : List UInt8) : BitVec 32 := ~~~ crcF (~~~0#32) (bitsL s)
theorem bitsB_len (c : UInt8) : (bitsB c).length = 8 := by simp [bitsB]
theorem bitsL_len (s : List UInt8) : (bitsL s).length = 8 * s.length := by
  induction s with
  | nil => rfl
  | cons c s ih =>
    show (bitsB c ++ bitsL s).length = _
    rw [List.length_append, bitsB_len, ih, List.length_cons]; omega
theorem bitsB_xor (a b : UInt8) : bitsB (a ^^^ b) = List.zipWith (fun x y => x ^^ y) (bitsB a) (bitsB b) := by
  simp only [bitsB, UInt8.toNat_xor, Nat.testBit_xor]
  rfl
theorem zip_app {a b c d : List Bool} (h : a.length = c.length) : List.zipWith (fun x y => x ^^ y) (a ++ b) (c ++ d) = List.zipWith (fun x y => x ^^ y) a c ++ List.zipWith (fun x y => x ^^ y) b d := List.zipWith_append h
theorem bitsL_xor (s t : List UInt8) (h : s.length = t.length) : bitsL (List.zipWith (fun a b => a ^^^ b) s t) = List.zipWith (fun x y => x ^^ y) (bitsL s) (bitsL t) := by
  induction s generalizing t with
  | nil => rfl
  | cons a s ih =>
    cases t with
    | nil => simp at h
    | cons b t =>
      show bitsB (a ^^^ b) ++ bitsL (List.zipWith (fun a b => a ^^^ b) s t) = List.zipWith (fun x y => x ^^ y) (bitsB a ++ bitsL s) (bitsB b ++ bitsL t)
      rw [zip_app (by rw [bitsB_len, bitsB_len]), ih t (by simpa using h), bitsB_xor]
/-- three taken together -/
theorem crc_three (a b c : List UInt8) (h1 : a.length = b.length) (h2 : a.length = c.length) :
    crcL (List.zipWith (fun x y => x ^^^ y) (List.zipWith (fun x y => x ^^^ y) a b) c) = crcL a ^^^ crcL b ^^^ crcL c := by
  have hl : (List.zipWith (fun x y => x ^^^ y) a b).length = a.length := by simp [h1]
  have l1 := bitsL_len a
  have l2 := bitsL_len b
  have l3 := bitsL_len c
  unfold crcL
  rw [bitsL_xor _ _ (by omega), bitsL_xor _ _ h1]
  have e1 := crcF_xor (List.zipWith (fun x y => x ^^ y) (bitsL a) (bitsL b)) (bitsL c) (by simp; omega) ((~~~0#32) ^^^ (~~~0#32)) (~~~0#32)
  have e2 := crcF_xor (bitsL a) (bitsL b) (by omega) (~~~0#32) (~~~0#32)
  have e0 : (~~~0#32) ^^^ (~~~0#32) ^^^ (~~~0#32) = (~~~0#32 : BitVec 32) := by decide
  rw [e0, e2] at e1
  rw [e1]
  refine BitVec.eq_of_getLsbD_eq fun i hi => ?_
  simp only [BitVec.getLsbD_not, BitVec.getLsbD_xor, hi, decide_true, Bool.true_and]
  cases (crcF (~~~0#32) (bitsL a)).getLsbD i <;> cases (crcF (~~~0#32) (bitsL b)).getLsbD i <;> cases (crcF (~~~0#32) (bitsL c)).getLsbD i <;> rfl
/-- what is turned within 32 bits in a row is told -/
theorem crc_bursts {s b : List UInt8} {p : Nat} {t : BitVec 32} (ht : t ≠ 0#32) (hp : p + 32 ≤ 8 * s.length) (hb : bitsL b = List.zipWith (fun x y => x ^^ y) (bitsL s) (List.replicate p false ++ bitsT t 32 ++ List.replicate (8 * s.length - p - 32) false)) : crcL b ≠ crcL s := by
  intro e
  have h := crc_told (~~~0#32) (bitsL s) p (8 * s.length - p - 32) ht (by rw [bitsL_len]; omega)
  rw [← hb] at h
  unfold crcL at e
  exact h (by have := congrArg (fun v => ~~~v) e; simpa using this)

end Go.Proofs.Ytgffippimmokiaa

/- Bits that are turned in a row, byte by byte; bodies with a check sum behind them: no program in it. -/
namespace Go.Proofs.Ytgffippimmokiaa
set_option linter.unusedSimpArgs false
set_option linter.unusedVariables false

def bitAt (s : List UInt8) (m : Nat) : Bool := match s[m / 8]? with | some c => c.toNat.testBit (m % 8) | none => false
theorem bitsL_at (s : List UInt8) : ∀ m, m < 8 * s.length → (bitsL s)[m]? = some (bitAt s m) := by
  induction s with
  | nil => intro m h; simp at h
  | cons c s ih =>
    intro m h
    show (bitsB c ++ bitsL s)[m]? = _
    simp only [List.length_cons] at h
    by_cases hm : m < 8
    · rw [List.getElem?_append_left (by rw [bitsB_len]; exact hm)]
      have e1 : m / 8 = 0 := by omega
      have e2 : m % 8 = m := by omega
      simp [bitsB, bitAt, e1, e2, hm]
    · rw [List.getElem?_append_right (by rw [bitsB_len]; omega), bitsB_len, ih (m - 8) (by omega)]
      have e1 : m / 8 = (m - 8) / 8 + 1 := by omega
      have e2 : m % 8 = (m - 8) % 8 := by omega
      simp only [bitAt, e1, List.getElem?_cons_succ, ← e2]
theorem bits_ext {s t : List UInt8} {ds : List Bool} (hl : t.length = s.length) (hd : ds.length = 8 * s.length) (h : ∀ m, m < 8 * s.length → bitAt t m = (bitAt s m ^^ ds[m]?.getD false)) : bitsL t = List.zipWith (fun x y => x ^^ y) (bitsL s) ds := by
  refine List.ext_getElem? fun m => ?_
  by_cases hm : m < 8 * s.length
  · rw [bitsL_at t m (by omega), List.getElem?_zipWith, bitsL_at s m hm, h m hm]
    obtain ⟨d, hd2⟩ : ∃ d, ds[m]? = some d := ⟨ds[m]'(by omega), List.getElem?_eq_getElem _⟩
    rw [hd2]; rfl
  · rw [List.getElem?_eq_none (by rw [bitsL_len]; omega), List.getElem?_eq_none (by simp [bitsL_len]; omega)]
/-- a bit is turned -/
def flipAt (s : List UInt8) (j : Nat) : List UInt8 := s.set (j / 8) ((s[j / 8]?.getD 0) ^^^ UInt8.ofNat (2 ^ (j % 8)))
theorem flip_len (s : List UInt8) (j : Nat) : (flipAt s j).length = s.length := by simp [flipAt]
theorem flip_bit {s : List UInt8} {j : Nat} (hj : j < 8 * s.length) (m : Nat) (hm : m < 8 * s.length) : bitAt (flipAt s j) m = (bitAt s m ^^ decide (m = j)) := by
  obtain ⟨c, hc⟩ : ∃ c, s[j / 8]? = some c := ⟨s[j / 8]'(by omega), List.getElem?_eq_getElem _⟩
  have hp : 2 ^ (j % 8) < 256 := by
    have h8 : j % 8 < 8 := by omega
    have := Nat.pow_lt_pow_right (show 1 < 2 by omega) h8
    simpa using this
  have ht : (c ^^^ UInt8.ofNat (2 ^ (j % 8))).toNat = c.toNat ^^^ 2 ^ (j % 8) := by
    rw [UInt8.toNat_xor, UInt8.toNat_ofNat', Nat.mod_eq_of_lt (by simpa using hp)]
  unfold bitAt flipAt
  rw [hc]
  by_cases he : m / 8 = j / 8
  · rw [he, List.getElem?_set_self (by omega), hc]
    simp only [Option.getD_some, ht, Nat.testBit_xor, Nat.testBit_two_pow]
    congr 1
    by_cases hmj : m = j
    · subst hmj; simp
    · have : j % 8 ≠ m % 8 := by omega
      simp [hmj, this]
  · rw [List.getElem?_set_ne (by omega)]
    have : m ≠ j := fun e => he (by rw [e])
    simp [this]
/-- of 32 bits in a row from p on those that t has -/
def turnR32 (s : List UInt8) (p : Nat) (t : BitVec 32) : Nat → List UInt8
  | 0 => s
  | i + 1 => if t.getLsbD i = true then flipAt (turnR32 s p t i) (p + i) else turnR32 s p t i
theorem turned_len (s : List UInt8) (p : Nat) (t : BitVec 32) (i : Nat) : (turnR32 s p t i).length = s.length := by
  induction i with
  | zero => rfl
  | succ i ih => rw [turnR32]; split <;> simp [flip_len, ih]
theorem turned_bit {s : List UInt8} {p : Nat} (hp : p + 32 ≤ 8 * s.length) (t : BitVec 32) : ∀ i, i ≤ 32 → ∀ m, m < 8 * s.length → bitAt (turnR32 s p t i) m = (bitAt s m ^^ (decide (p ≤ m ∧ m < p + i) && t.getLsbD (m - p))) := by
  intro i
  induction i with
  | zero =>
    intro _ m _
    have e : decide (p ≤ m ∧ m < p + 0) = false := by rw [decide_eq_false_iff_not]; omega
    rw [e]; simp [turnR32]
  | succ i ih =>
    intro hi m hm
    have ih := ih (by omega) m hm
    rw [turnR32]
    by_cases hb : t.getLsbD i = true
    · rw [if_pos hb, flip_bit (by rw [turned_len]; omega) m (by rw [turned_len]; exact hm), ih]
      by_cases hmi : m = p + i
      · subst hmi
        have e1 : decide (p ≤ p + i ∧ p + i < p + i) = false := by simp
        have e2 : decide (p ≤ p + i ∧ p + i < p + (i + 1)) = true := by simp
        rw [e1, e2, show p + i - p = i by omega, hb]; simp
      · have e : decide (p ≤ m ∧ m < p + (i + 1)) = decide (p ≤ m ∧ m < p + i) := by
          rw [decide_eq_decide]; omega
        rw [e]; simp [hmi]
    · rw [if_neg hb, ih]
      have hb' : t.getLsbD i = false := by simpa using hb
      by_cases hmi : m = p + i
      · subst hmi
        rw [show p + i - p = i by omega, hb']; simp
      · have e : decide (p ≤ m ∧ m < p + (i + 1)) = decide (p ≤ m ∧ m < p + i) := by
          rw [decide_eq_decide]; omega
        rw [e]
theorem turned_bits {s : List UInt8} {p : Nat} (hp : p + 32 ≤ 8 * s.length) (t : BitVec 32) : bitsL (turnR32 s p t 32) = List.zipWith (fun x y => x ^^ y) (bitsL s) (List.replicate p false ++ bitsT t 32 ++ List.replicate (8 * s.length - p - 32) false) := by
  have hlb : (bitsT t 32).length = 32 := by simp [bitsT]
  refine bits_ext (turned_len s p t 32) (by simp only [List.length_append, List.length_replicate, hlb]; omega) fun m hm => ?_
  rw [turned_bit hp t 32 (Nat.le_refl _) m hm]
  congr 1
  by_cases h1 : m < p
  · rw [List.append_assoc, List.getElem?_append_left (by simp; exact h1), List.getElem?_replicate, if_pos h1]
    have : decide (p ≤ m ∧ m < p + 32) = false := by rw [decide_eq_false_iff_not]; omega
    rw [this]; rfl
  · by_cases h2 : m < p + 32
    · rw [List.append_assoc, List.getElem?_append_right (by simp; omega), List.length_replicate, List.getElem?_append_left (by rw [hlb]; omega)]
      have e1 : decide (p ≤ m ∧ m < p + 32) = true := by rw [decide_eq_true_eq]; omega
      have e2 : m - p < 32 := by omega
      rw [e1]
      simp [bitsT, e2]
    · rw [List.getElem?_append_right (by simp only [List.length_append, List.length_replicate, hlb]; omega), List.getElem?_replicate]
      have : decide (p ≤ m ∧ m < p + 32) = false := by rw [decide_eq_false_iff_not]; omega
      rw [this]
      split <;> rfl
theorem turned_told {s : List UInt8} {p : Nat} (hp : p + 32 ≤ 8 * s.length) {t : BitVec 32} (ht : t ≠ 0#32) : crcL (turnR32 s p t 32) ≠ crcL s := crc_bursts ht hp (turned_bits hp t)

/-- a sum as four bytes, the lowest first -/
def sumB (c : BitVec 32) : List UInt8 := [UInt8.ofNat c.toNat, UInt8.ofNat (c.toNat / 256), UInt8.ofNat (c.toNat / 65536), UInt8.ofNat (c.toNat / 16777216)]
theorem bits_sum (c : BitVec 32) : bitsL (sumB c) = bitsT c 32 := by
  refine List.ext_getElem? fun m => ?_
  by_cases hm : m < 32
  · rw [bitsL_at (sumB c) m (by simp [sumB]; omega)]
    have h1 : (bitsT c 32)[m]? = some (c.getLsbD m) := by simp [bitsT, hm]
    rw [h1]
    congr 1
    have key : ∀ i, i < 4 → (sumB c)[i]? = some (UInt8.ofNat (c.toNat / 2 ^ (8 * i))) := by
      intro i hi
      rcases (by omega : i = 0 ∨ i = 1 ∨ i = 2 ∨ i = 3) with rfl | rfl | rfl | rfl <;> simp [sumB]
    unfold bitAt
    rw [key (m / 8) (by omega)]
    simp only [UInt8.toNat_ofNat']
    have h8 : m % 8 < 8 := by omega
    rw [Nat.testBit_mod_two_pow]
    simp only [h8, decide_true, Bool.true_and, Nat.testBit_div_two_pow]
    rw [show m % 8 + 8 * (m / 8) = m by omega]
    rfl
  · rw [List.getElem?_eq_none (by rw [bitsL_len]; simp [sumB]; omega), List.getElem?_eq_none (by simp [bitsT]; omega)]
theorem bitsL_app (a b : List UInt8) : bitsL (a ++ b) = bitsL a ++ bitsL b := by simp [bitsL]
theorem shift_all (t : BitVec 32) : t >>> 32 = 0#32 := by
  refine BitVec.eq_of_getLsbD_eq fun i hi => ?_
  rw [BitVec.getLsbD_ushiftRight]
  simp [BitVec.getLsbD_of_ge]
/-- zeros part what is unlike -/
theorem zeros_inj {x y : BitVec 32} (n : Nat) (h : crcF x (List.replicate n false) = crcF y (List.replicate n false)) : x = y := by
  have h1 := crcF_xor (List.replicate n false) (List.replicate n false) rfl x y
  have h2 : List.zipWith (fun a b => a ^^ b) (List.replicate n false) (List.replicate n false) = List.replicate n false := by simp
  rw [h2, h, BitVec.xor_self] at h1
  have h3 := crcF_zeros n h1
  have h4 := congrArg (fun v => v ^^^ y) h3
  simpa [BitVec.xor_assoc] using h4
/-- a text with its sum behind it comes to one and the same state, and no other does -/
theorem sum_state (m : List UInt8) (c : BitVec 32) : crcF (~~~0#32) (bitsL (m ++ sumB c)) = crcF (~~~0#32) (List.replicate 32 false) ↔ c = crcL m := by
  rw [bitsL_app, crcF_app, bits_sum]
  have h := crc_shift (crcF (~~~0#32) (bitsL m)) c 32
  rw [shift_all, BitVec.xor_zero] at h
  rw [← h]
  constructor
  · intro e
    have e1 := zeros_inj 32 e
    unfold crcL
    have e2 := congrArg (fun v => crcF (~~~0#32) (bitsL m) ^^^ v) e1
    simp only [← BitVec.xor_assoc, BitVec.xor_self, BitVec.zero_xor] at e2
    rw [e2]
    generalize crcF (~~~0#32) (bitsL m) = X
    refine BitVec.eq_of_getLsbD_eq fun i hi => ?_
    rw [BitVec.getLsbD_xor, BitVec.getLsbD_not, BitVec.getLsbD_not, BitVec.getLsbD_zero]
    simp [hi]
  · intro e
    subst e
    congr 1
    unfold crcL
    generalize crcF (~~~0#32) (bitsL m) = X
    refine BitVec.eq_of_getLsbD_eq fun i hi => ?_
    rw [BitVec.getLsbD_xor, BitVec.getLsbD_not, BitVec.getLsbD_not, BitVec.getLsbD_zero]
    simp only [hi, decide_true, Bool.true_and]
    cases X.getLsbD i <;> rfl
theorem sumB_len (c : BitVec 32) : (sumB c).length = 4 := rfl
theorem sum_bytes (b : List UInt8) (h : b.length = 4) : ∃ c : BitVec 32, b = sumB c := by
  match b, h with
  | [b0, b1, b2, b3], _ =>
    refine ⟨BitVec.ofNat 32 (b0.toNat + 256 * b1.toNat + 65536 * b2.toNat + 16777216 * b3.toNat), ?_⟩
    have h0 := b0.toNat_lt
    have h1 := b1.toNat_lt
    have h2 := b2.toNat_lt
    have h3 := b3.toNat_lt
    have e : (BitVec.ofNat 32 (b0.toNat + 256 * b1.toNat + 65536 * b2.toNat + 16777216 * b3.toNat)).toNat = b0.toNat + 256 * b1.toNat + 65536 * b2.toNat + 16777216 * b3.toNat := by
      rw [BitVec.toNat_ofNat]; apply Nat.mod_eq_of_lt; omega
    unfold sumB
    rw [e]
    have k : ∀ (u : UInt8) (n : Nat), n % 256 = u.toNat → UInt8.ofNat n = u := by
      intro u n hn
      apply UInt8.toNat_inj.1
      rw [UInt8.toNat_ofNat']; simpa using hn
    rw [k b0 _ (by omega), k b1 _ (by omega), k b2 _ (by omega), k b3 _ (by omega)]
/-- of a text with its sum behind it, of which bits are turned within 32 in a row, the sum is another -/
theorem sum_told {m m' b' : List UInt8} {p : Nat} {t : BitVec 32} (hp : p + 32 ≤ 8 * (m.length + 4)) (ht : t ≠ 0#32) (hl : m'.length = m.length) (h : m' ++ b' = turnR32 (m ++ sumB (crcL m)) p t 32) : b' ≠ sumB (crcL m') := by
  intro e
  have hL : (m ++ sumB (crcL m)).length = m.length + 4 := by simp [sumB]
  have h1 := crc_told (~~~0#32) (bitsL (m ++ sumB (crcL m))) p (8 * (m.length + 4) - p - 32) ht (by rw [bitsL_len, hL]; omega)
  have h2 := turned_bits (s := m ++ sumB (crcL m)) (p := p) (by rw [hL]; exact hp) t
  rw [hL] at h2
  rw [← h2, ← h, e] at h1
  exact h1 (((sum_state m' (crcL m')).2 rfl).trans ((sum_state m (crcL m)).2 rfl).symm)

end Go.Proofs.Ytgffippimmokiaa

/- Frames as bytes, put and got: no program in it. -/
namespace Go.Proofs.Ytgffippimmokiaa
set_option linter.unusedSimpArgs false
set_option linter.unusedVariables false

/-- what stands ahead of a frame's sum -/
def headL (k : Nat) (b : List UInt8) : List UInt8 := UInt8.ofNat k :: UInt8.ofNat (b.length / 256) :: UInt8.ofNat b.length :: b
def frameL (k : Nat) (b : List UInt8) : List UInt8 := headL k b ++ sumB (crcL (headL k b))
theorem headL_len (k : Nat) (b : List UInt8) : (headL k b).length = b.length + 3 := by simp [headL]
theorem frameL_len (k : Nat) (b : List UInt8) : (frameL k b).length = b.length + 7 := by rw [frameL, List.length_append, headL_len, sumB_len]
/-- what Put answers -/
def putE (k : Int) (b : List UInt8) : Int := if k < 1 ∨ 255 < k then 1 else if 4000 < b.length then 2 else 0
def putT (k : Int) (b : List UInt8) : List UInt8 := if putE k b = 0 then frameL k.toNat b else []
theorem putE_ok {k : Int} {b : List UInt8} (h : putE k b = 0) : 1 ≤ k ∧ k ≤ 255 ∧ b.length ≤ 4000 := by
  unfold putE at h
  split at h
  · simp at h
  · split at h
    · simp at h
    · omega
theorem putE_of {k : Int} {b : List UInt8} (h1 : 1 ≤ k) (h2 : k ≤ 255) (h3 : b.length ≤ 4000) : putE k b = 0 := by
  unfold putE
  rw [if_neg (by omega), if_neg (by omega)]
/-- what is at the beginning of some bytes -/
def kindN (l : List UInt8) : Nat := (l[0]?.getD 0).toNat
def bodyN (l : List UInt8) : Nat := 256 * (l[1]?.getD 0).toNat + (l[2]?.getD 0).toNat
/-- what Get answers -/
def gotE (l : List UInt8) : Int :=
  if l.length < 7 then 5
  else if kindN l = 0 ∨ 4000 < bodyN l then 3
  else if l.length < bodyN l + 7 then 5
  else if sumB (crcL (l.take (bodyN l + 3))) = (l.drop (bodyN l + 3)).take 4 then 0 else 6
def gotK (l : List UInt8) : Nat := if gotE l = 0 then kindN l else 0
def gotB (l : List UInt8) : List UInt8 := if gotE l = 0 then (l.drop 3).take (bodyN l) else []
def gotN (l : List UInt8) : Nat := if gotE l = 0 then bodyN l + 7 else 0
theorem got_ok {l : List UInt8} (h : gotE l = 0) : 7 ≤ l.length ∧ kindN l ≠ 0 ∧ bodyN l ≤ 4000 ∧ bodyN l + 7 ≤ l.length ∧ sumB (crcL (l.take (bodyN l + 3))) = (l.drop (bodyN l + 3)).take 4 := by
  unfold gotE at h
  split at h
  · simp at h
  · split at h
    · simp at h
    · split at h
      · simp at h
      · split at h
        · rename_i h1 h2 h3 h4
          exact ⟨by omega, by omega, by omega, by omega, h4⟩
        · simp at h
theorem got_bad {l : List UInt8} (h : gotE l ≠ 0) : gotK l = 0 ∧ gotB l = [] ∧ gotN l = 0 := by
  unfold gotK gotB gotN
  rw [if_neg h, if_neg h, if_neg h]
  exact ⟨rfl, rfl, rfl⟩
theorem got_good {l : List UInt8} (h : gotE l = 0) : gotK l = kindN l ∧ gotB l = (l.drop 3).take (bodyN l) ∧ gotN l = bodyN l + 7 := by
  unfold gotK gotB gotN
  rw [if_pos h, if_pos h, if_pos h]
  exact ⟨rfl, rfl, rfl⟩
theorem kind_lt (l : List UInt8) : kindN l < 256 := (l[0]?.getD 0).toNat_lt
theorem body_lt (l : List UInt8) : bodyN l < 65536 := by
  have h1 := (l[1]?.getD 0).toNat_lt
  have h2 := (l[2]?.getD 0).toNat_lt
  unfold bodyN
  omega
/-- two numbers out of three bytes -/
theorem head_kind {k : Nat} (hk : k < 256) (b r : List UInt8) : kindN (headL k b ++ r) = k := by
  show (UInt8.ofNat k).toNat = k
  rw [UInt8.toNat_ofNat']
  exact Nat.mod_eq_of_lt hk
theorem head_body (k : Nat) {b : List UInt8} (hb : b.length < 65536) (r : List UInt8) : bodyN (headL k b ++ r) = b.length := by
  show 256 * (UInt8.ofNat (b.length / 256)).toNat + (UInt8.ofNat b.length).toNat = b.length
  rw [UInt8.toNat_ofNat', UInt8.toNat_ofNat']
  simp
  omega
/-- a frame is got as it was, whatever stands behind -/
theorem got_frame {k : Nat} {b : List UInt8} (h1 : 1 ≤ k) (h2 : k ≤ 255) (h3 : b.length ≤ 4000) (r : List UInt8) :
    gotE (frameL k b ++ r) = 0 ∧ gotK (frameL k b ++ r) = k ∧ gotB (frameL k b ++ r) = b ∧ gotN (frameL k b ++ r) = (frameL k b).length := by
  have e : frameL k b ++ r = headL k b ++ (sumB (crcL (headL k b)) ++ r) := by rw [frameL, List.append_assoc]
  have hl : (headL k b).length = b.length + 3 := headL_len k b
  have hK : kindN (frameL k b ++ r) = k := by rw [e]; exact head_kind (by omega) b _
  have hB : bodyN (frameL k b ++ r) = b.length := by rw [e]; exact head_body k (by omega) _
  have hL : (frameL k b ++ r).length = b.length + 7 + r.length := by rw [List.length_append, frameL_len]
  have hE : gotE (frameL k b ++ r) = 0 := by
    unfold gotE
    rw [hK, hB, hL, if_neg (by omega), if_neg (by omega), if_neg (by omega), if_pos]
    rw [e, ← hl, List.take_left, List.drop_left, List.take_append_of_le_length (by rw [sumB_len]; omega), List.take_of_length_le (by rw [sumB_len]; omega)]
  obtain ⟨g1, g2, g3⟩ := got_good hE
  refine ⟨hE, g1.trans hK, ?_, ?_⟩
  · rw [g2, hB, e]
    show List.take b.length (b ++ _) = b
    rw [List.take_left]
  · rw [g3, hB, frameL_len]
/-- cut short it is told -/
theorem got_cut {k : Nat} {b : List UInt8} (h1 : 1 ≤ k) (h2 : k ≤ 255) (h3 : b.length ≤ 4000) {r : Nat} (hr : r < (frameL k b).length) : gotE ((frameL k b).take r) = 5 := by
  have hl : ((frameL k b).take r).length = r := by rw [List.length_take]; omega
  rw [frameL_len] at hr
  unfold gotE
  rw [hl]
  by_cases h7 : r < 7
  · rw [if_pos h7]
  · obtain ⟨q, rfl⟩ : ∃ q, r = 3 + q := ⟨r - 3, by omega⟩
    have e : (frameL k b).take (3 + q) = UInt8.ofNat k :: UInt8.ofNat (b.length / 256) :: UInt8.ofNat b.length :: ((b ++ sumB (crcL (headL k b))).take q) := by
      rw [Nat.add_comm]; rfl
    have hK : kindN ((frameL k b).take (3 + q)) = k := by
      rw [e]
      show (UInt8.ofNat k).toNat = k
      rw [UInt8.toNat_ofNat']; exact Nat.mod_eq_of_lt (by omega)
    have hB : bodyN ((frameL k b).take (3 + q)) = b.length := by
      rw [e]
      show 256 * (UInt8.ofNat (b.length / 256)).toNat + (UInt8.ofNat b.length).toNat = b.length
      rw [UInt8.toNat_ofNat', UInt8.toNat_ofNat']
      simp
      omega
    rw [hK, hB, if_neg h7, if_neg (by omega), if_pos (by omega)]
theorem head_take {l : List UInt8} (h4 : bodyN l + 7 ≤ l.length) : headL (kindN l) ((l.drop 3).take (bodyN l)) = l.take (bodyN l + 3) := by
  have hbl : ((l.drop 3).take (bodyN l)).length = bodyN l := by rw [List.length_take, List.length_drop]; omega
  have h1 : 7 ≤ l.length := by omega
  match l, h1 with
  | a :: b :: c :: r, _ =>
    have hb8 := b.toNat_lt
    have hc8 := c.toNat_lt
    unfold headL
    rw [hbl]
    have e1 : UInt8.ofNat (kindN (a :: b :: c :: r)) = a := by
      show UInt8.ofNat a.toNat = a
      simp
    have e2 : UInt8.ofNat (bodyN (a :: b :: c :: r) / 256) = b := by
      apply UInt8.toNat_inj.1
      rw [UInt8.toNat_ofNat']
      show (256 * b.toNat + c.toNat) / 256 % 2 ^ 8 = b.toNat
      omega
    have e3 : UInt8.ofNat (bodyN (a :: b :: c :: r)) = c := by
      apply UInt8.toNat_inj.1
      rw [UInt8.toNat_ofNat']
      show (256 * b.toNat + c.toNat) % 2 ^ 8 = c.toNat
      omega
    rw [e1, e2, e3]
    rfl
/-- the other road: a frame is put of what is there, and held against it -/
theorem frame_take {l : List UInt8} (h4 : bodyN l + 7 ≤ l.length) : frameL (kindN l) ((l.drop 3).take (bodyN l)) = l.take (bodyN l + 7) ↔ sumB (crcL (l.take (bodyN l + 3))) = (l.drop (bodyN l + 3)).take 4 := by
  rw [frameL, head_take h4, show bodyN l + 7 = (bodyN l + 3) + 4 by omega, List.take_add (l := l) (i := bodyN l + 3) (j := 4)]
  exact ⟨fun h => List.append_cancel_left h, fun h => by rw [h]⟩
/-- what is got is put as it was -/
theorem got_put {l : List UInt8} (h : gotE l = 0) : 1 ≤ gotK l ∧ gotK l ≤ 255 ∧ (gotB l).length ≤ 4000 ∧ gotN l ≤ l.length ∧ 7 ≤ gotN l ∧ frameL (gotK l) (gotB l) = l.take (gotN l) := by
  obtain ⟨h1, h2, h3, h4, h5⟩ := got_ok h
  obtain ⟨g1, g2, g3⟩ := got_good h
  have hk := kind_lt l
  have hbl : ((l.drop 3).take (bodyN l)).length = bodyN l := by rw [List.length_take, List.length_drop]; omega
  rw [g1, g2, g3]
  refine ⟨by omega, by omega, by omega, h4, by omega, ?_⟩
  have hh := head_take h4
  rw [frameL, hh, h5, show bodyN l + 7 = (bodyN l + 3) + 4 by omega, List.take_add (l := l) (i := bodyN l + 3) (j := 4)]
/-- the first bytes stay where no bit of theirs is turned -/
theorem turned_first {s : List UInt8} {p : Nat} (hp : p + 32 ≤ 8 * s.length) (t : BitVec 32) {j : Nat} (hj : 8 * j + 8 ≤ p) : (turnR32 s p t 32)[j]? = s[j]? := by
  have key : ∀ i, i ≤ 32 → (turnR32 s p t i)[j]? = s[j]? := by
    intro i
    induction i with
    | zero => intro _; rfl
    | succ i ih =>
      intro hi
      rw [turnR32]
      split
      · rw [flipAt, List.getElem?_set_ne (by omega)]
        exact ih (by omega)
      · exact ih (by omega)
  exact key 32 (Nat.le_refl _)
/-- bits that are turned behind the length are told -/
theorem got_turned {k : Nat} {b : List UInt8} (h1 : 1 ≤ k) (h2 : k ≤ 255) (h3 : b.length ≤ 4000) {p : Nat} (hp0 : 24 ≤ p) (hp : p + 32 ≤ 8 * (frameL k b).length) {t : BitVec 32} (ht : t ≠ 0#32) : gotE (turnR32 (frameL k b) p t 32) = 6 := by
  have hl : (turnR32 (frameL k b) p t 32).length = b.length + 7 := by rw [turned_len, frameL_len]
  have e := got_frame h1 h2 h3 []
  have hK : kindN (turnR32 (frameL k b) p t 32) = k := by
    unfold kindN
    rw [turned_first hp t (by omega)]
    have := head_kind (k := k) (by omega) b (sumB (crcL (headL k b)))
    exact this
  have hB : bodyN (turnR32 (frameL k b) p t 32) = b.length := by
    unfold bodyN
    rw [turned_first hp t (by omega), turned_first hp t (by omega)]
    have := head_body k (b := b) (by omega) (sumB (crcL (headL k b)))
    exact this
  unfold gotE
  rw [hK, hB, hl, if_neg (by omega), if_neg (by omega), if_neg (by omega), if_neg]
  intro hs
  have hd : ((turnR32 (frameL k b) p t 32).drop (b.length + 3)).take 4 = (turnR32 (frameL k b) p t 32).drop (b.length + 3) := List.take_of_length_le (by rw [List.length_drop, hl]; omega)
  rw [hd] at hs
  rw [frameL_len] at hp
  have hm := headL_len k b
  exact sum_told (m := headL k b) (p := p) (t := t) (m' := (turnR32 (frameL k b) p t 32).take (b.length + 3)) (b' := (turnR32 (frameL k b) p t 32).drop (b.length + 3)) (by rw [hm]; omega) ht (by rw [List.length_take, hl, hm]; omega) (List.take_append_drop _ _) hs.symm
end Go.Proofs.Ytgffippimmokiaa

/- Frames one behind the other: no program in it. -/
namespace Go.Proofs.Ytgffippimmokiaa
set_option linter.unusedSimpArgs false
set_option linter.unusedVariables false

/-- a frame: its kind and its body -/
structure Fr where
  k : Int
  t : List UInt8
/-- the frames at the beginning of some bytes, so many at most, and how many bytes they have -/
def scanN : Nat → List UInt8 → List Fr × Nat
  | 0, _ => ([], 0)
  | n + 1, l => if gotE l = 0 then (⟨(gotK l : Int), gotB l⟩ :: (scanN n (l.drop (gotN l))).1, gotN l + (scanN n (l.drop (gotN l))).2) else ([], 0)
def scanL (l : List UInt8) : List Fr × Nat := scanN l.length l
theorem scanN_more : ∀ (n : Nat) (l : List UInt8), l.length ≤ n → ∀ m, l.length ≤ m → scanN n l = scanN m l := by
  intro n
  induction n with
  | zero =>
    intro l hl m hm
    have hnil : l = [] := List.length_eq_zero_iff.1 (by omega)
    subst hnil
    cases m with
    | zero => rfl
    | succ m => rfl
  | succ n ih =>
    intro l hl m hm
    cases m with
    | zero =>
      have hnil : l = [] := List.length_eq_zero_iff.1 (by omega)
      subst hnil
      rfl
    | succ m =>
      rw [scanN, scanN]
      by_cases h : gotE l = 0
      · obtain ⟨_, _, _, h4, h5, _⟩ := got_put h
        have hd : (l.drop (gotN l)).length = l.length - gotN l := List.length_drop
        rw [if_pos h, if_pos h, ih (l.drop (gotN l)) (by omega) m (by omega)]
      · rw [if_neg h, if_neg h]
theorem scans_good {l : List UInt8} (h : gotE l = 0) : scanL l = (⟨(gotK l : Int), gotB l⟩ :: (scanL (l.drop (gotN l))).1, gotN l + (scanL (l.drop (gotN l))).2) := by
  obtain ⟨_, _, _, h4, h5, _⟩ := got_put h
  have hd : (l.drop (gotN l)).length = l.length - gotN l := List.length_drop
  unfold scanL
  obtain ⟨n, hn⟩ : ∃ n, l.length = n + 1 := ⟨l.length - 1, by omega⟩
  rw [hn, scanN, if_pos h, scanN_more n (l.drop (gotN l)) (by omega) (l.drop (gotN l)).length (Nat.le_refl _)]
theorem scans_bad {l : List UInt8} (h : gotE l ≠ 0) : scanL l = ([], 0) := by
  unfold scanL
  cases hn : l.length with
  | zero => rfl
  | succ n => rw [scanN, if_neg h]
theorem scan_le : ∀ (n : Nat) (l : List UInt8), l.length ≤ n → (scanL l).2 ≤ l.length ∧ 7 * (scanL l).1.length ≤ (scanL l).2 := by
  intro n
  induction n with
  | zero =>
    intro l hl
    have hnil : l = [] := List.length_eq_zero_iff.1 (by omega)
    subst hnil
    exact ⟨Nat.le_refl _, Nat.le_refl _⟩
  | succ n ih =>
    intro l hl
    by_cases h : gotE l = 0
    · obtain ⟨_, _, _, h4, h5, _⟩ := got_put h
      have hd : (l.drop (gotN l)).length = l.length - gotN l := List.length_drop
      obtain ⟨i1, i2⟩ := ih (l.drop (gotN l)) (by omega)
      rw [scans_good h]
      simp only [List.length_cons]
      omega
    · rw [scans_bad h]
      exact ⟨Nat.zero_le _, Nat.le_refl _⟩
/-- a frame, and frames behind it -/
theorem scan_frame {k : Nat} {b : List UInt8} (h1 : 1 ≤ k) (h2 : k ≤ 255) (h3 : b.length ≤ 4000) (r : List UInt8) : scanL (frameL k b ++ r) = (⟨(k : Int), b⟩ :: (scanL r).1, (frameL k b).length + (scanL r).2) := by
  obtain ⟨e, eK, eB, eN⟩ := got_frame h1 h2 h3 r
  rw [scans_good e, eK, eB, eN, List.drop_left]
/-- frames that may be put, one behind the other; what is no frame stands behind them -/
def frOk (f : Fr) : Bool := decide (putE f.k f.t = 0)
def rowL (l : List Fr) : List UInt8 := l.flatMap (fun f => frameL f.k.toNat f.t)
theorem scan_row {r : List UInt8} (hr : gotE r ≠ 0) : ∀ l : List Fr, (∀ f ∈ l, frOk f = true) → scanL (rowL l ++ r) = (l, (rowL l).length) := by
  intro l
  induction l with
  | nil => intro _; exact scans_bad hr
  | cons f l ih =>
    intro h
    have hf : putE f.k f.t = 0 := by simpa [frOk] using h f (by simp)
    obtain ⟨h1, h2, h3⟩ := putE_ok hf
    have e : rowL (f :: l) ++ r = frameL f.k.toNat f.t ++ (rowL l ++ r) := by simp [rowL, List.append_assoc]
    have e2 : rowL (f :: l) = frameL f.k.toNat f.t ++ rowL l := by simp [rowL]
    rw [e, scan_frame (by omega) (by omega) h3, ih (fun g hg => h g (by simp [hg])), e2, List.length_append]
    have e3 : ((f.k.toNat : Nat) : Int) = f.k := by omega
    simp [e3]
theorem got_nil : gotE [] = 5 := rfl
end Go.Proofs.Ytgffippimmokiaa
