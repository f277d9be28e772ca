/- Check sums, bit by bit: what is turned within 32 bits in a row is told; three taken together: no program in it. -/
import Derived.Test.YtkihanmodfnpcabPtOwn
namespace Go.Proofs.Ytkihanmodfnpcab
set_option linter.unusedSimpArgs false
set_option linter.unusedVariables false

abbrev crcP : BitVec 32 := 0x82f63b78#32
/-- a bit is taken in -/
def crcB (x : BitVec 32) (b : Bool) : BitVec 32 := (x >>> 1) ^^^ (if (x.getLsbD 0 ^^ b) = true then crcP else 0#32)
def crcF (x : BitVec 32) (bs : List Bool) : BitVec 32 := bs.foldl crcB x
theorem crcF_app (x : BitVec 32) (a b : List Bool) : crcF x (a ++ b) = crcF (crcF x a) b := by simp [crcF]
theorem crcF_one (x : BitVec 32) (b : Bool) : crcF x [b] = crcB x b := rfl
theorem crcB_xor (x y : BitVec 32) (b c : Bool) : crcB (x ^^^ y) (b ^^ c) = crcB x b ^^^ crcB y c := by
  unfold crcB
  rw [BitVec.ushiftRight_xor_distrib, BitVec.getLsbD_xor]
  have h : ∀ u v : BitVec 32, ∀ p q : Bool, (u ^^^ v) ^^^ (if (p ^^ q) = true then crcP else 0#32) = (u ^^^ if p = true then crcP else 0#32) ^^^ (v ^^^ if q = true then crcP else 0#32) := by
    intro u v p q
    have e1 : (u ^^^ crcP) ^^^ (v ^^^ crcP) = u ^^^ v := by
      rw [BitVec.xor_assoc, ← BitVec.xor_assoc crcP, BitVec.xor_comm crcP, BitVec.xor_assoc v, BitVec.xor_self]; simp
    cases p <;> cases q <;> simp [BitVec.xor_assoc]
    · rw [BitVec.xor_comm v]
    · rw [BitVec.xor_comm v, ← BitVec.xor_assoc, BitVec.xor_self, BitVec.zero_xor]
  have h2 := h (x >>> 1) (y >>> 1) (x.getLsbD 0 ^^ b) (y.getLsbD 0 ^^ c)
  rw [← h2]
  congr 2
  cases x.getLsbD 0 <;> cases y.getLsbD 0 <;> cases b <;> cases c <;> rfl
theorem crcF_xor (us vs : List Bool) (h : us.length = vs.length) : ∀ x y : BitVec 32, crcF (x ^^^ y) (List.zipWith (fun a b => a ^^ b) us vs) = crcF x us ^^^ crcF y vs := by
  induction us generalizing vs with
  | nil =>
    have : vs = [] := List.length_eq_zero_iff.1 (by simpa using h.symm)
    subst this
    intro x y; rfl
  | cons a us ih =>
    cases vs with
    | nil => simp at h
    | cons b vs =>
      intro x y
      show crcF (crcB (x ^^^ y) (a ^^ b)) _ = crcF (crcB x a) us ^^^ crcF (crcB y b) vs
      rw [crcB_xor]
      exact ih vs (by simpa using h) _ _
theorem crcB_zero {x : BitVec 32} (h : crcB x false = 0#32) : x = 0#32 := by
  unfold crcB at h
  have h0 : x.getLsbD 0 = false := by
    cases hb : x.getLsbD 0
    · rfl
    · rw [hb] at h
      have h1 := congrArg (fun v => v.getLsbD 31) h
      simp only [Bool.xor_false, if_true, BitVec.getLsbD_xor, BitVec.getLsbD_ushiftRight] at h1
      have h2 : x.getLsbD (1 + 31) = false := BitVec.getLsbD_of_ge _ _ (by omega)
      rw [h2] at h1
      revert h1
      decide
  rw [h0] at h
  simp only [Bool.xor_false, Bool.false_eq_true, if_false, BitVec.xor_zero] at h
  refine BitVec.eq_of_getLsbD_eq fun i hi => ?_
  cases i with
  | zero => simpa using h0
  | succ i =>
    have h1 := congrArg (fun v => v.getLsbD i) h
    simp only [BitVec.getLsbD_ushiftRight] at h1
    rw [show i + 1 = 1 + i by omega, h1]; simp
theorem crcF_zeros (n : Nat) {x : BitVec 32} (h : crcF x (List.replicate n false) = 0#32) : x = 0#32 := by
  induction n generalizing x with
  | zero => exact h
  | succ n ih => exact crcB_zero (ih h)
theorem crcF_none (n : Nat) : crcF 0#32 (List.replicate n false) = 0#32 := by
  induction n with
  | zero => rfl
  | succ n ih =>
    have : crcB 0#32 false = 0#32 := by decide
    show crcF (crcB 0#32 false) (List.replicate n false) = 0#32
    rw [this, ih]
/-- the first k bits of t, the lowest first -/
def bitsT (t : BitVec 32) (k : Nat) : List Bool := (List.range k).map t.getLsbD
theorem bitsT_succ (t : BitVec 32) (k : Nat) : bitsT t (k + 1) = bitsT t k ++ [t.getLsbD k] := by simp [bitsT, List.range_succ]
theorem crc_shift (x t : BitVec 32) (k : Nat) : crcF (x ^^^ t) (List.replicate k false) = crcF x (bitsT t k) ^^^ (t >>> k) := by
  induction k with
  | zero => simp [crcF, bitsT]
  | succ k ih =>
    rw [List.replicate_succ', crcF_app, crcF_one, ih, bitsT_succ, crcF_app, crcF_one]
    have h := crcB_xor (crcF x (bitsT t k)) (t >>> k) (t.getLsbD k) (t.getLsbD k)
    rw [Bool.xor_self] at h
    rw [h]
    congr 1
    unfold crcB
    have e : (t >>> k).getLsbD 0 = t.getLsbD k := by rw [BitVec.getLsbD_ushiftRight, Nat.add_zero]
    rw [e, Bool.xor_self]
    simp [BitVec.shiftRight_add]
/-- 32 bits of which one is turned are told -/
theorem crc_burst {t : BitVec 32} (ht : t ≠ 0#32) : crcF 0#32 (bitsT t 32) ≠ 0#32 := by
  intro h
  have h1 := crc_shift 0#32 t 32
  rw [h] at h1
  have h2 : t >>> 32 = 0#32 := by
    refine BitVec.eq_of_getLsbD_eq fun i hi => ?_
    rw [BitVec.getLsbD_ushiftRight]
    simp [BitVec.getLsbD_of_ge]
  rw [h2] at h1
  simp only [BitVec.zero_xor, BitVec.xor_zero] at h1
  exact ht (crcF_zeros 32 h1)
theorem crc_told (x : BitVec 32) (bs : List Bool) (p q : Nat) {t : BitVec 32} (ht : t ≠ 0#32) (h : bs.length = p + 32 + q) :
    crcF x (List.zipWith (fun a b => a ^^ b) bs (List.replicate p false ++ bitsT t 32 ++ List.replicate q false)) ≠ crcF x bs := by
  intro e
  have hl : bs.length = (List.replicate p false ++ bitsT t 32 ++ List.replicate q false).length := by simp only [List.length_append, List.length_replicate, bitsT, List.length_map, List.length_range]; omega
  have h1 := crcF_xor bs _ hl x 0#32
  rw [BitVec.xor_zero, e, crcF_app, crcF_app, crcF_none] at h1
  have h2 : crcF (crcF 0#32 (bitsT t 32)) (List.replicate q false) = 0#32 := by
    have h3 := congrArg (fun v => crcF x bs ^^^ v) h1
    simp only [← BitVec.xor_assoc, BitVec.xor_self, BitVec.zero_xor] at h3
    exact h3.symm
  exact crc_burst ht (crcF_zeros q h2)

/-- the bits of a text, each byte's lowest first -/
def bitsB (c : UInt8) : List Bool := (List.range 8).map (fun k => c.toNat.testBit k)
def bitsL (s : List UInt8) : List Bool := s.flatMap bitsB
def crcL (s : List UInt8) : BitVec 32 := ~~~ crcF (~~~0#32) (bitsL s)
theorem bitsB_len (c : UInt8) : (bitsB c).length = 8 := by simp [bitsB]
theorem bitsL_len (s : List UInt8) : (bitsL s).length = 8 * s.length := by
  induction s with
  | nil => rfl
  | cons c s ih =>
    show (bitsB c ++ bitsL s).length = _
    rw [List.length_append, bitsB_len, ih, List.length_cons]; omega
theorem bitsB_xor (a b : UInt8) : bitsB (a ^^^ b) = List.zipWith (fun x y => x ^^ y) (bitsB a) (bitsB b) := by
  simp only [bitsB, UInt8.toNat_xor, Nat.testBit_xor]
  rfl
theorem zip_app {a b c d : List Bool} (h : a.length = c.length) : List.zipWith (fun x y => x ^^ y) (a ++ b) (c ++ d) = List.zipWith (fun x y => x ^^ y) a c ++ List.zipWith (fun x y => x ^^ y) b d := List.zipWith_append h
theorem bitsL_xor (s t : List UInt8) (h : s.length = t.length) : bitsL (List.zipWith (fun a b => a ^^^ b) s t) = List.zipWith (fun x y => x ^^ y) (bitsL s) (bitsL t) := by
  induction s generalizing t with
  | nil => rfl
  | cons a s ih =>
    cases t with
    | nil => simp at h
    | cons b t =>
      show bitsB (a ^^^ b) ++ bitsL (List.zipWith (fun a b => a ^^^ b) s t) = List.zipWith (fun x y => x ^^ y) (bitsB a ++ bitsL s) (bitsB b ++ bitsL t)
      rw [zip_app (by rw [bitsB_len, bitsB_len]), ih t (by simpa using h), bitsB_xor]
/-- three taken together -/
theorem crc_three (a b c : List UInt8) (h1 : a.length = b.length) (h2 : a.length = c.length) :
    crcL (List.zipWith (fun x y => x ^^^ y) (List.zipWith (fun x y => x ^^^ y) a b) c) = crcL a ^^^ crcL b ^^^ crcL c := by
  have hl : (List.zipWith (fun x y => x ^^^ y) a b).length = a.length := by simp [h1]
  have l1 := bitsL_len a
  have l2 := bitsL_len b
  have l3 := bitsL_len c
  unfold crcL
  rw [bitsL_xor _ _ (by omega), bitsL_xor _ _ h1]
  have e1 := crcF_xor (List.zipWith (fun x y => x ^^ y) (bitsL a) (bitsL b)) (bitsL c) (by simp; omega) ((~~~0#32) ^^^ (~~~0#32)) (~~~0#32)
  have e2 := crcF_xor (bitsL a) (bitsL b) (by omega) (~~~0#32) (~~~0#32)
  have e0 : (~~~0#32) ^^^ (~~~0#32) ^^^ (~~~0#32) = (~~~0#32 : BitVec 32) := by decide
  rw [e0, e2] at e1
  rw [e1]
  refine BitVec.eq_of_getLsbD_eq fun i hi => ?_
  simp only [BitVec.getLsbD_not, BitVec.getLsbD_xor, hi, decide_true, Bool.true_and]
  cases (crcF (~~~0#32) (bitsL a)).getLsbD i <;> cases (crcF (~~~0#32) (bitsL b)).getLsbD i <;> cases (crcF (~~~0#32) (bitsL c)).getLsbD i <;> rfl
/-- what is turned within 32 bits in a row is told -/
theorem crc_bursts {s b : List UInt8} {p : Nat} {t : BitVec 32} (ht : t ≠ 0#32) (hp : p + 32 ≤ 8 * s.length) (hb : bitsL b = List.zipWith (fun x y => x ^^ y) (bitsL s) (List.replicate p false ++ bitsT t 32 ++ List.replicate (8 * s.length - p - 32) false)) : crcL b ≠ crcL s := by
  intro e
  have h := crc_told (~~~0#32) (bitsL s) p (8 * s.length - p - 32) ht (by rw [bitsL_len]; omega)
  rw [← hb] at h
  unfold crcL at e
  exact h (by have := congrArg (fun v => ~~~v) e; simpa using this)

end Go.Proofs.Ytkihanmodfnpcab
