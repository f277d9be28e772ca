/- What a byte does to a check sum, as a table: no program in it. -/
import Derived.Test.YtgffippimmokiaaFrameP
import Derived.Laws.BitsAllLaws
import Derived.Laws.Unary
import Derived.Deep.WholeRow
import Derived.Laws.CopyOwn
namespace Go.Proofs.Ytgffippimmokiaa
set_option linter.unusedSimpArgs false
set_option linter.unusedVariables false

/-- what is at place b of the table -/
def crcT (b : Nat) : BitVec 32 := crcF (BitVec.ofNat 32 b) (List.replicate 8 false)
theorem crcT_xor (a b : Nat) : crcT (a ^^^ b) = crcT a ^^^ crcT b := by
  unfold crcT
  have h := crcF_xor (List.replicate 8 false) (List.replicate 8 false) rfl (BitVec.ofNat 32 a) (BitVec.ofNat 32 b)
  rw [← h, BitVec.ofNat_xor]
  rfl
theorem add_xor : ∀ k, k < 8 → ∀ b, b < 256 → b % (2 * 2 ^ k) = 0 → b + 2 ^ k = b ^^^ 2 ^ k := by decide +kernel
theorem crcT_add {k b : Nat} (hk : k < 8) (hb : b < 256) (h : b % (2 * 2 ^ k) = 0) : crcT (b + 2 ^ k) = crcT b ^^^ crcT (2 ^ k) := by
  rw [add_xor k hk b hb h, crcT_xor]
theorem crcT_zero : crcT 0 = 0#32 := by decide +kernel
/-- a bit goes out -/
def movedV (x : BitVec 32) : BitVec 32 := crcB x false
theorem crcT_top : crcT 128 = movedV 1#32 := by decide +kernel
theorem crcT_half : ∀ k, k < 7 → crcT (2 ^ k) = movedV (crcT (2 ^ (k + 1))) := by decide +kernel
/-- a byte is taken in -/
theorem crc_byte (x : BitVec 32) (c : UInt8) : crcF x (bitsB c) = (x >>> 8) ^^^ crcT ((x.toNat % 256) ^^^ c.toNat) := by
  have hc : (BitVec.ofNat 32 c.toNat).toNat = c.toNat := by
    rw [BitVec.toNat_ofNat]; exact Nat.mod_eq_of_lt (by have := c.toNat_lt; omega)
  have e1 : bitsB c = bitsT (BitVec.ofNat 32 c.toNat) 8 := by
    unfold bitsB bitsT
    refine List.map_congr_left fun k _ => ?_
    show _ = (BitVec.ofNat 32 c.toNat).toNat.testBit k
    rw [hc]
  have z1 : BitVec.ofNat 32 c.toNat >>> 8 = 0#32 := by
    apply BitVec.eq_of_toNat_eq
    rw [BitVec.toNat_ushiftRight, hc, Nat.shiftRight_eq_div_pow]
    have := c.toNat_lt
    simp; omega
  have h1 := crc_shift x (BitVec.ofNat 32 c.toNat) 8
  rw [z1, BitVec.xor_zero, ← e1] at h1
  rw [← h1]
  have h2 := crc_shift 0#32 ((x >>> 8) <<< 8) 8
  have z2 : bitsT ((x >>> 8) <<< 8) 8 = List.replicate 8 false := by
    refine List.ext_getElem? fun m => ?_
    by_cases hm : m < 8
    · rw [List.getElem?_replicate, if_pos hm]; simp [bitsT, hm]
    · rw [List.getElem?_eq_none (by simp [bitsT]; omega), List.getElem?_eq_none (by simp; omega)]
  have z3 : ((x >>> 8) <<< 8) >>> 8 = x >>> 8 := by
    refine BitVec.eq_of_getLsbD_eq fun i hi => ?_
    simp only [BitVec.getLsbD_ushiftRight, BitVec.getLsbD_shiftLeft]
    by_cases h24 : 8 + i < 32
    · have e : 8 + i - 8 = i := by omega
      have e2 : decide (8 + i < 8) = false := by simp
      simp [h24]
    · rw [BitVec.getLsbD_of_ge x (8 + i) (by omega)]
      simp [h24]
  rw [z2, crcF_none, z3, BitVec.zero_xor, BitVec.zero_xor] at h2
  have e3 : x ^^^ BitVec.ofNat 32 c.toNat = ((x >>> 8) <<< 8) ^^^ BitVec.ofNat 32 ((x.toNat % 256) ^^^ c.toNat) := by
    rw [BitVec.ofNat_xor, ← BitVec.xor_assoc]
    congr 1
    refine BitVec.eq_of_getLsbD_eq fun i hi => ?_
    have q : (BitVec.ofNat 32 (x.toNat % 256)).getLsbD i = (decide (i < 8) && x.getLsbD i) := by
      rw [BitVec.getLsbD_ofNat, show (256 : Nat) = 2 ^ 8 by decide, Nat.testBit_mod_two_pow]
      simp [hi, BitVec.getLsbD]
    rw [BitVec.getLsbD_xor, q, BitVec.getLsbD_shiftLeft, BitVec.getLsbD_ushiftRight]
    by_cases h8 : i < 8
    · simp [h8, hi]
    · have e : 8 + (i - 8) = i := by omega
      simp [h8, hi, e]
  have h3 := crcF_xor (List.replicate 8 false) (List.replicate 8 false) rfl ((x >>> 8) <<< 8) (BitVec.ofNat 32 ((x.toNat % 256) ^^^ c.toNat))
  have z4 : List.zipWith (fun a b => a ^^ b) (List.replicate 8 false) (List.replicate 8 false) = List.replicate 8 false := rfl
  rw [z4, ← e3, h2] at h3
  exact h3
/-- the sum, byte by byte -/
def crcS (l : List UInt8) : BitVec 32 := crcF (~~~0#32) (bitsL l)
theorem crcL_S (l : List UInt8) : crcL l = ~~~ crcS l := rfl
theorem crcS_nil : crcS [] = ~~~0#32 := rfl
theorem crcS_snoc (l : List UInt8) (c : UInt8) : crcS (l ++ [c]) = crcF (crcS l) (bitsB c) := by
  unfold crcS
  rw [show bitsL (l ++ [c]) = bitsL l ++ bitsB c by simp [bitsL], crcF_app]
theorem crcS_step {l : List UInt8} {k : Nat} {c : UInt8} (h : l[k]? = some c) : crcS (l.take (k + 1)) = crcF (crcS (l.take k)) (bitsB c) := by
  rw [show l.take (k + 1) = l.take k ++ [c] by rw [List.take_add_one, h]; rfl, crcS_snoc]
/-- the same in numbers -/
theorem crcB_nat (x : BitVec 32) (b : Bool) : (crcB x b).toNat = if (decide (x.toNat % 2 = 1) ^^ b) = true then (x.toNat / 2) ^^^ 2197175160 else x.toNat / 2 := by
  have h0 : x.getLsbD 0 = decide (x.toNat % 2 = 1) := by
    show x.toNat.testBit 0 = _
    rw [Nat.testBit_zero]
  unfold crcB
  rw [h0]
  split <;> simp [BitVec.toNat_ushiftRight, Nat.shiftRight_eq_div_pow]
theorem crc_byte_nat (x : BitVec 32) (c : UInt8) : (crcF x (bitsB c)).toNat = (x.toNat / 256) ^^^ (crcT ((x.toNat % 256) ^^^ c.toNat)).toNat := by
  rw [crc_byte, BitVec.toNat_xor, BitVec.toNat_ushiftRight, Nat.shiftRight_eq_div_pow]
theorem not_nat (x : BitVec 32) : (~~~x).toNat = 4294967295 - x.toNat := by rw [BitVec.toNat_not]
theorem byte_lt (a : Nat) (c : UInt8) : (a % 256) ^^^ c.toNat < 256 := Nat.xor_lt_two_pow (n := 8) (Nat.mod_lt _ (by omega)) c.toNat_lt
/-- where the table's places lie -/
theorem tab_lt : ∀ j, j < 8 → ∀ b, b < 256 → b % (2 * 2 ^ j) = 0 → b + 2 ^ j < 256 ∧ b + 2 * 2 ^ j ≤ 256 := by decide +kernel
theorem tab_between : ∀ j, j < 8 → ∀ b, b < 256 → b % (2 * 2 ^ j) = 0 → ∀ c, c < 256 → c % 2 ^ j = 0 → b ≤ c → c < b + 2 * 2 ^ j → c = b ∨ c = b + 2 ^ j := by
  intro j hj b hb h c hc hm h1 h2
  rcases (by omega : j = 0 ∨ j = 1 ∨ j = 2 ∨ j = 3 ∨ j = 4 ∨ j = 5 ∨ j = 6 ∨ j = 7) with rfl | rfl | rfl | rfl | rfl | rfl | rfl | rfl <;> simp at * <;> omega
def tabC (f : Nat → BitVec 32) : Array Value := ((List.range 256).map (fun b => Value.int .u32 ((f b).toNat : Int))).toArray
theorem tabC_size (f : Nat → BitVec 32) : (tabC f).size = 256 := by simp [tabC]
theorem tabC_at (f : Nat → BitVec 32) {b : Nat} (h : b < 256) : (tabC f)[b]? = some (.int .u32 ((f b).toNat : Int)) := by simp [tabC, h]
theorem tabC_one (f : Nat → BitVec 32) : (tabC f).all (·.oneCell') = true := by
  rw [Array.all_eq_true_iff_forall_mem]
  intro v hv
  simp only [tabC, List.mem_toArray, List.mem_map] at hv
  obtain ⟨b, _, rfl⟩ := hv
  rfl
theorem tabC_set (f : Nat → BitVec 32) {b : Nat} (h : b < 256) (x : BitVec 32) : (tabC f).setIfInBounds b (.int .u32 (x.toNat : Int)) = tabC (fun c => if c = b then x else f c) := by
  apply Array.ext_getElem?
  intro i
  rw [Array.getElem?_setIfInBounds, tabC_size]
  by_cases hi : i < 256
  · rw [tabC_at _ hi, tabC_at _ hi]
    by_cases e : b = i
    · subst e; simp [h]
    · have e' : ¬ i = b := fun q => e q.symm
      simp [e, e']
  · rw [Array.getElem?_eq_none (by rw [tabC_size]; omega), Array.getElem?_eq_none (by rw [tabC_size]; omega)]
    split
    · omega
    · rfl
theorem tabC_ext {f g : Nat → BitVec 32} (h : ∀ b, b < 256 → f b = g b) : tabC f = tabC g := by
  apply Array.ext_getElem?
  intro i
  by_cases hi : i < 256
  · rw [tabC_at _ hi, tabC_at _ hi, h i hi]
  · rw [Array.getElem?_eq_none (by rw [tabC_size]; omega), Array.getElem?_eq_none (by rw [tabC_size]; omega)]
theorem tabC_zero : Array.replicate 256 (Value.int .u32 0) = tabC (fun _ => 0#32) := by
  apply Array.ext_getElem?
  intro i
  by_cases hi : i < 256
  · rw [tabC_at _ hi, Array.getElem?_replicate, if_pos hi]; rfl
  · rw [Array.getElem?_eq_none (by simp; omega), Array.getElem?_eq_none (by rw [tabC_size]; omega)]

end Go.Proofs.Ytgffippimmokiaa

/- What crc.table answers. -/
namespace Go.Proofs.Ytgffippimmokiaa
open Go.RowKit
set_option linter.unusedSimpArgs false
set_option linter.unusedVariables false

theorem xor_lt32 {a b : Nat} (ha : a < 4294967296) (hb : b < 4294967296) : a ^^^ b < 4294967296 := Nat.xor_lt_two_pow (n := 32) ha hb
theorem and_one {n : Nat} (h : n < 4294967296) : bits .and .u32 (n : Int) 1 = ((n % 2 : Nat) : Int) := by
  have := u32_and_nat n 1 h (by omega)
  rw [nat_mask1] at this
  exact this
theorem xor_pat {n : Nat} (h : n < 4294967296) : bits .xor .u32 ((n : Int) / 2) 2197175160 = ((n / 2 ^^^ 2197175160 : Nat) : Int) := u32_xor_nat (n / 2) 2197175160 (by omega) (by omega)

set_option maxRecDepth 20000 in
set_option maxHeartbeats 400000 in
theorem moved_any (x : BitVec 32) (w : World) :
    Calls Try.prog 148 #[.int .u32 (x.toNat : Int)] w fun e w' => e = .returned (.int .u32 ((movedV x).toNat : Int)) ∧ w' = w := by
  have hN := crcB_nat x false
  rw [Bool.xor_false] at hN
  change (movedV x).toNat = _ at hN
  obtain ⟨n, hn⟩ : ∃ n, x.toNat = n := ⟨_, rfl⟩
  have hl : n < 4294967296 := by rw [← hn]; exact x.isLt
  obtain ⟨m, hm⟩ : ∃ m, (movedV x).toNat = m := ⟨_, rfl⟩
  rw [hn, hm] at hN
  rw [hn, hm]
  have ha := and_one hl
  have HX : Hid _ := xor_pat hl
  clear hn hm
  by_cases h1 : n % 2 = 1
  · have ha1 : (bits BinOp.and IntKind.u32 (n : Int) 1 == 1) = true := by rw [ha, h1]; rfl
    rw [if_pos (by simpa using h1)] at hN
    have HN : Hid _ := hN
    clear hN ha h1
    go_enter Try.func148, Try.ntmps148
    go_wp2_with fail
    go_ret
    refine ⟨?_, rfl⟩
    rw [HN.out, ← HX.out]
    rfl
  · have ha1 : (bits BinOp.and IntKind.u32 (n : Int) 1 == 1) = false := by
      rw [ha, beq_eq_false_iff_ne]; omega
    rw [if_neg (by simpa using h1)] at hN
    have HN : Hid _ := hN
    clear hN ha h1
    go_enter Try.func148, Try.ntmps148
    go_wp2_with fail
    go_ret
    refine ⟨?_, rfl⟩
    rw [HN.out]
    rfl

theorem infoTab : (Try.prog.info? 209).map (fun i => (i.zero, i.size)) = some (some (.agg (Array.replicate 256 (.int .u32 0))), 256) := by kernel_rfl
/-- the bit, and the sum, when k bits are still to come -/
def tabBit (k : Nat) : Nat := 2 ^ k / 2
def tabSum (k : Nat) : BitVec 32 := if k = 8 then 1#32 else crcT (2 ^ k)
theorem tab_sum : ∀ j, j < 8 → movedV (tabSum (j + 1)) = crcT (2 ^ j) := by decide +kernel
theorem tab_bit (j : Nat) : tabBit (j + 1) = 2 ^ j := by unfold tabBit; rw [Nat.pow_succ]; omega
theorem pow_le {j : Nat} (h : j < 8) : 0 < 2 ^ j ∧ 2 ^ j ≤ 128 := ⟨Nat.two_pow_pos j, by have := Nat.pow_le_pow_right (n := 2) (by omega) (show j ≤ 7 by omega); simpa using this⟩
/-- one more of the table is made -/
theorem tab_step {j b : Nat} {g : Nat → BitVec 32} (hj : j < 8) (hb : b < 256) (hm : b % (2 * 2 ^ j) = 0) (h1 : ∀ c, c < 256 → c % (2 * 2 ^ j) = 0 → g c = crcT c) (h2 : ∀ c, c < 256 → c < b → c % 2 ^ j = 0 → g c = crcT c) :
    (∀ c, c < 256 → c % (2 * 2 ^ j) = 0 → (fun c => if c = b + 2 ^ j then g b ^^^ crcT (2 ^ j) else g c) c = crcT c) ∧ (∀ c, c < 256 → c < b + 2 * 2 ^ j → c % 2 ^ j = 0 → (fun c => if c = b + 2 ^ j then g b ^^^ crcT (2 ^ j) else g c) c = crcT c) := by
  have key : ∀ c, c < 256 → (c % (2 * 2 ^ j) = 0 ∨ (c < b + 2 * 2 ^ j ∧ c % 2 ^ j = 0)) → (fun c => if c = b + 2 ^ j then g b ^^^ crcT (2 ^ j) else g c) c = crcT c := by
    intro c hc h
    show (if c = b + 2 ^ j then g b ^^^ crcT (2 ^ j) else g c) = crcT c
    by_cases e : c = b + 2 ^ j
    · rw [if_pos e, e, crcT_add hj hb hm, h1 b hb hm]
    · rw [if_neg e]
      rcases h with h | ⟨h3, h4⟩
      · exact h1 c hc h
      · by_cases hl : c < b
        · exact h2 c hc hl h4
        · rcases tab_between j hj b hb hm c hc h4 (by omega) h3 with rfl | h5
          · exact h1 c hc hm
          · exact absurd h5 e
  exact ⟨fun c hc h => key c hc (.inl h), fun c hc h3 h4 => key c hc (.inr ⟨h3, h4⟩)⟩

set_option maxRecDepth 20000 in
set_option maxHeartbeats 1000000 in
theorem table_any (w : World) :
    Calls Try.prog 146 #[] w fun e w' => e = .returned (.agg (tabC crcT)) ∧ Below w.heap.size w w' := by
  have hv := (zero_of_info infoTab).1
  rw [tabC_zero] at hv
  go_enter Try.func146, Try.ntmps146
  go_wp2_with fail
  go_loopw [2, 3] (fun sum bit wr => ∃ (k : Nat) (f : Nat → BitVec 32), k ≤ 8 ∧ bit = .int .i64 (tabBit k : Nat) ∧ sum = .int .u32 ((tabSum k).toNat : Nat) ∧ wr = (w.alloc (.cells (tabC fun _ => 0#32) 209)).alloc (.cells (tabC f) 209) ∧ ∀ b, b < 256 → b % 2 ^ k = 0 → f b = crcT b) (fun _ bit _ => (intOf bit).toNat)
  case atStart =>
    refine ⟨8, fun _ => 0#32, Nat.le_refl _, rfl, rfl, rfl, fun b hb h => ?_⟩
    have : b = 0 := by omega
    subst this
    exact crcT_zero.symm
  case round =>
    rename World => wr
    obtain ⟨k, f, hk, rfl, rfl, rfl, hf⟩ := hrel
    have HF : Hid _ := hf
    clear hf
    cases k with
    | zero =>
      rw [show ((tabBit 0 : Nat) : Int) = 0 from rfl]
      have hft : tabC f = tabC crcT := tabC_ext fun b hb => HF.out b hb (by omega)
      rw [hft]
      clear hft HF
      have hi : (Try.prog.info? 209).map (·.size) = some (tabC crcT).size := by rw [tabC_size]; exact (zero_of_info infoTab).2
      have HI : Hid _ := hi
      clear hi
      have hg : ((w.alloc (.cells (tabC fun _ => 0#32) 209)).alloc (.cells (tabC crcT) 209)).heap[w.heap.size + 1]? = some (.cells (tabC crcT) 209 (0, 0)) := by
        have h := heap_alloc_last (w.alloc (.cells (tabC fun _ => 0#32) 209)) (.cells (tabC crcT) 209)
        rw [show (w.alloc (.cells (tabC fun _ => 0#32) 209)).heap.size = w.heap.size + 1 from Deep.nblk_alloc _ _] at h
        exact h
      have hg0 : ((w.alloc (.cells (tabC fun _ => 0#32) 209)).alloc (.cells (tabC crcT) 209)).heap[w.heap.size]? = some (.cells (tabC fun _ => 0#32) 209 (0, 0)) := by
        rw [Deep.blk_alloc_lt _ _ _ (by rw [Deep.nblk_alloc]; omega)]
        exact heap_alloc_last w _
      have HBL : Hid (Below w.heap.size w ((w.alloc (.cells (tabC fun _ => 0#32) 209)).alloc (.cells (tabC crcT) 209))) := ((Below.refl _ w).alloc (Nat.le_refl _) _).alloc (by simp) _
      generalize (w.alloc (.cells (tabC fun _ => 0#32) 209)).alloc (.cells (tabC crcT) 209) = W2 at hg hg0 HBL ⊢
      have HG : Hid _ := hg
      have HSC : Hid ((storeCells ⟨w.heap.size, 0, none⟩ (tabC crcT).toList 0).run Try.prog W2 = .ok () (W2.setRow w.heap.size (tabC crcT))) := by
        have h := run_storeCells_from (P := Try.prog) w.heap.size 209 (tabC crcT).toList 0 _ W2 hg0 (by simp [tabC_size]) (fun v hv => (Array.all_eq_true_iff_forall_mem.1 (tabC_one crcT)) v (by simpa using hv))
        show _ = _
        simpa using h
      have HLD : Hid _ := setRow_heap W2 w.heap.size _ (tabC crcT) _ _ hg0
      clear hg hg0
      have hts := tabC_size crcT
      go_wp2_with fail
      refine wp_load_row 209 (.tmp 1) rfl (w.heap.size + 1) rfl 209 (tabC crcT) (0, 0) _ HG.out Try.underlying209 rfl HI.out ?_
      go_wp2_with fail
      have hsc := HSC.out
      simp only [hsc, Result.andThen]
      rw [Oper.upon_skip]
      clear hsc
      go_wp2_with fail
      refine bodyPost_ret (v := .agg (tabC crcT)) ?_ rfl ⟨rfl, below_setRow HBL.out (Nat.le_refl _) _⟩
      exact results_cell_row (p := 0) (ty := 209) rfl _ _ w.heap.size 209 (tabC crcT) (0, 0) _ rfl HLD.out Try.underlying209 rfl HI.out
    | succ j =>
      have hj : j < 8 := by omega
      have HJ : Hid (j < 8) := hj
      rw [tab_bit]
      obtain ⟨p0, p1⟩ := pow_le hj
      have HM : Hid _ := fun w => moved_any (tabSum (j + 1)) w
      rw [tab_sum j hj] at HM
      obtain ⟨p, hp⟩ : ∃ p, 2 ^ j = p := ⟨_, rfl⟩
      obtain ⟨n0, hn0⟩ : ∃ n, (tabSum (j + 1)).toNat = n := ⟨_, rfl⟩
      obtain ⟨n1, hn1⟩ : ∃ n, (crcT (2 ^ j)).toNat = n := ⟨_, rfl⟩
      rw [hn0, hn1] at HM
      rw [hn0, hp]
      rw [hp] at p0 p1
      have HP : Hid (2 ^ j = p) := hp
      have HN1 : Hid ((crcT (2 ^ j)).toNat = n1) := hn1
      clear hp hn0 hn1 hj hk
      go_wp2_with fail
      refine (HM.out _).mono ?_
      rintro e w1 ⟨rfl, e1⟩
      subst e1
      go_wp2_with fail
      go_loopw [4] (fun bv wr => ∃ (b : Nat) (g : Nat → BitVec 32), b ≤ 256 ∧ bv = .int .i64 b ∧ b % (2 * 2 ^ j) = 0 ∧ wr = (w.alloc (.cells (tabC fun _ => 0#32) 209)).alloc (.cells (tabC g) 209) ∧ (∀ c, c < 256 → c % (2 * 2 ^ j) = 0 → g c = crcT c) ∧ (∀ c, c < 256 → c < b → c % 2 ^ j = 0 → g c = crcT c)) (fun bv _ => 256 - (intOf bv).toNat)
      case atStart => exact ⟨0, f, by omega, rfl, by simp, rfl, fun c hc h => HF.out c hc (by rw [Nat.pow_succ, Nat.mul_comm]; exact h), fun c _ h => by omega⟩
      case round =>
        rename World => wq
        obtain ⟨b, g, hb, rfl, hm, rfl, h1, h2⟩ := hrel
        by_cases hlt : b < 256
        · have HST : Hid _ := tab_step HJ.out hlt hm h1 h2
          obtain ⟨q1, q2⟩ := tab_lt j HJ.out b hlt hm
          have HMN : Hid ((b + 2 * 2 ^ j) % (2 * 2 ^ j) = 0) := by show _ = _; rw [Nat.add_mod_right]; exact hm
          have hgb : Hid _ := tabC_at g hlt
          have HSET : Hid _ := tabC_set g q1 (g b ^^^ crcT (2 ^ j))
          rw [BitVec.toNat_xor, HN1.out] at HSET
          obtain ⟨n2, hn2⟩ : ∃ n, (g b).toNat = n := ⟨_, rfl⟩
          have hl2 : n2 < 4294967296 := by rw [← hn2]; exact (g b).isLt
          have hl1 : n1 < 4294967296 := by rw [← HN1.out]; exact (crcT (2 ^ j)).isLt
          rw [hn2] at hgb HSET
          have hcell := hgb.out
          have hxor := u32_xor_nat n2 n1 hl2 hl1
          have HP2 : Hid _ := HP.out
          rw [HP.out] at q1 q2 HSET HMN
          have hcell2 := tabC_at g q1
          obtain ⟨n3, hn3⟩ : ∃ n, (g (b + p)).toNat = n := ⟨_, rfl⟩
          rw [hn3] at hcell2
          clear hm h1 h2 hn2 hgb hn3
          go_wp2_with fail
          go_roundw
          case rel =>
            refine ⟨b + 2 * p, fun c => if c = b + p then g b ^^^ crcT p else g c, q2, by go_num, ?_, ?_, ?_, ?_⟩
            · rw [HP.out]; exact HMN.out
            · rw [← HSET.out]
            · have h := HST.out.1
              rw [HP.out] at h
              rw [HP.out]; exact h
            · have h := HST.out.2
              rw [HP.out] at h
              rw [HP.out]; exact h
          case measure => simp [intOf]; omega
        · have hbb : b = 256 := by omega
          subst hbb
          have HG : Hid _ := h2
          clear hm h1 h2
          go_wp2_with fail
          go_roundw
          case rel => exact ⟨j, g, by have := HJ.out; omega, by rw [tabBit, HP.out]; congr 1, by rw [tabSum, if_neg (by have := HJ.out; omega), HN1.out], rfl, fun c hc h => HG.out c hc hc h⟩
          case measure => simp [intOf]; omega
end Go.Proofs.Ytgffippimmokiaa

/- What crc.Of answers. -/
namespace Go.Proofs.Ytgffippimmokiaa
open Go.RowKit
set_option linter.unusedSimpArgs false
set_option linter.unusedVariables false

theorem not_val (x : BitVec 32) : ((~~~x).toNat : Int) = 4294967295 - (x.toNat : Int) := by
  rw [not_nat]; have := x.isLt; omega
theorem wrap_byte (n : Nat) : IntKind.u8.wrap (n : Int) = ((n % 256 : Nat) : Int) := by rw [IntKind.wrap_u8]; omega
theorem xor_max {n : Nat} (h : n < 2 ^ 32) : bits .xor .u32 IntKind.u32.max (n : Int) = 4294967295 - (n : Int) := by
  have h1 : bits .xor .u32 IntKind.u32.max (n : Int) = ((4294967295 ^^^ n : Nat) : Int) := u32_xor_nat 4294967295 n (by omega) (by omega)
  have h2 := not_val (BitVec.ofNat 32 n)
  have h3 : ~~~(BitVec.ofNat 32 n) = BitVec.allOnes 32 ^^^ BitVec.ofNat 32 n := by rw [BitVec.allOnes_xor]
  have h4 : (BitVec.ofNat 32 n).toNat = n := by rw [BitVec.toNat_ofNat]; exact Nat.mod_eq_of_lt h
  rw [h3, BitVec.toNat_xor, h4] at h2
  rw [h1, ← h2]
  rfl
set_option maxRecDepth 20000 in
set_option maxHeartbeats 1000000 in
theorem CrcOf_any (s : ByteArray) (w : World) (hs : s.size ≤ 9223372036854775807) :
    Calls Try.prog 139 #[.string s] w fun e w' => e = .returned (.int .u32 ((crcL s.data.toList).toNat : Int)) ∧ Below w.heap.size w w' := by
  have hv := (zero_of_info infoTab).1
  have hl : s.data.toList.length = s.size := Array.length_toList
  go_enter Try.func139, Try.ntmps139
  go_wp2_with fail
  refine (table_any _).mono ?_
  rintro e w1 ⟨rfl, hb1⟩
  have HB1 : Hid (Below w.heap.size w w1) := hb1
  have hz1 := hb1.size
  clear hb1
  have hts := tabC_size crcT
  go_wp2_with fail
  have hsc := run_storeCells_new (P := Try.prog) w1 209 (Array.replicate 256 (.int .u32 0)) (tabC crcT) (by rw [tabC_size]; exact (zero_of_info infoTab).2) (by rw [tabC_size, Array.size_replicate]) (tabC_one _)
  simp only [hsc, Result.andThen]
  rw [Oper.upon_skip]
  clear hsc hv hts
  go_wp2_with fail
  go_loop [4, 9] (fun h i => ∃ k : Nat, k ≤ s.size ∧ i = .int .i64 k ∧ h = .int .u32 ((crcS (s.data.toList.take k)).toNat : Nat)) (fun _ i => s.size - (intOf i).toNat)
  case atStart => exact ⟨0, Nat.zero_le _, rfl, rfl⟩
  case round =>
    obtain ⟨k, hk, rfl, rfl⟩ := hrel
    by_cases hlt : k < s.size
    · obtain ⟨c, hc⟩ : ∃ c, s.data.toList[k]? = some c := ⟨s.data.toList[k]'(by omega), List.getElem?_eq_getElem _⟩
      have hat := at_byte hc hlt
      have hst := crcS_step hc
      obtain ⟨x, hx⟩ : ∃ x, crcS (s.data.toList.take k) = x := ⟨_, rfl⟩
      rw [hx] at hst ⊢
      have hn := crc_byte_nat x c
      have hbl := byte_lt x.toNat c
      have hcl := c.toNat_lt
      have hxl := x.isLt
      obtain ⟨n, hn0⟩ : ∃ n, x.toNat = n := ⟨_, rfl⟩
      rw [hn0] at hn hbl hxl ⊢
      obtain ⟨q, hq⟩ : ∃ q, (n % 256) ^^^ c.toNat = q := ⟨_, rfl⟩
      rw [hq] at hn hbl
      have hu8 : bits .xor .u8 ((n : Int) % 256) (c.toNat : Int) = (q : Int) := by rw [show (n : Int) % 256 = ((n % 256 : Nat) : Int) by omega, u8_xor_nat _ _ (Nat.mod_lt _ (by omega)) hcl, hq]
      have hcell := tabC_at crcT hbl
      obtain ⟨t, ht⟩ : ∃ t, (crcT q).toNat = t := ⟨_, rfl⟩
      have htl : t < 4294967296 := by rw [← ht]; exact (crcT q).isLt
      rw [ht] at hcell hn
      obtain ⟨r, hr⟩ : ∃ r, (n / 256) ^^^ t = r := ⟨_, rfl⟩
      have hu32 : bits .xor .u32 ((n : Int) / 256) (t : Int) = (r : Int) := by rw [show (n : Int) / 256 = ((n / 256 : Nat) : Int) by omega, u32_xor_nat _ _ (by omega) htl, hr]
      rw [hr] at hn
      have HST : Hid _ := hst
      have HN : Hid _ := hn
      clear hc hst hx hn hn0 hq ht hr
      go_wp2_with fail
      go_round
      case rel =>
        refine ⟨k + 1, by omega, by go_num, ?_⟩
        rw [HST.out, HN.out]
      case measure => simp [intOf]; omega
    · have hkk : k = s.size := by omega
      subst hkk
      rw [List.take_of_length_le (by omega)]
      have hx := (crcS s.data.toList).isLt
      have HX : Hid _ := not_val (crcS s.data.toList)
      rw [← crcL_S] at HX
      obtain ⟨n, hn0⟩ : ∃ n, (crcS s.data.toList).toNat = n := ⟨_, rfl⟩
      rw [hn0] at HX hx ⊢
      clear hn0
      have hmx : bits .xor .u32 IntKind.u32.max (n : Int) = 4294967295 - (n : Int) := xor_max hx
      go_wp2_with fail
      go_ret
      refine ⟨?_, HB1.out.alloc hz1 _⟩
      rw [HX.out]; rfl
end Go.Proofs.Ytgffippimmokiaa

/- What the document's own Crc answers. -/
namespace Go.Proofs.Ytgffippimmokiaa
open Go.RowKit
set_option linter.unusedSimpArgs false
set_option linter.unusedVariables false

theorem bits_take (x : BitVec 32) (c : UInt8) {k : Nat} (hk : k < 8) : crcF x ((bitsB c).take (k + 1)) = crcB (crcF x ((bitsB c).take k)) (c.toNat.testBit k) := by
  have h : (bitsB c)[k]? = some (c.toNat.testBit k) := by simp [bitsB, hk]
  rw [List.take_add_one, h]
  show crcF x (_ ++ [c.toNat.testBit k]) = _
  rw [crcF_app, crcF_one]
theorem bits_all (x : BitVec 32) (c : UInt8) : crcF x ((bitsB c).take 8) = crcF x (bitsB c) := by rw [List.take_of_length_le (by rw [bitsB_len]; omega)]
theorem xor_odd {n d : Nat} (hn : n < 4294967296) (hd : d < 4294967296) (b : Bool) (hb : b = decide (d % 2 = 1)) : (bits .and .u32 (bits .xor .u32 (n : Int) (d : Int)) 1 == 1) = (decide (n % 2 = 1) ^^ b) := by
  rw [u32_xor_nat n d hn hd, and_one (xor_lt32 hn hd), hb]
  have h : (n ^^^ d) % 2 = if decide (n % 2 = 1) ^^ decide (d % 2 = 1) then 1 else 0 := by
    have h0 := Nat.testBit_xor n d 0
    rw [Nat.testBit_zero, Nat.testBit_zero, Nat.testBit_zero] at h0
    rw [← h0]
    by_cases q : (n ^^^ d) % 2 = 1
    · simp [q]
    · simp [q]; omega
  rw [h]
  cases decide (n % 2 = 1) ^^ decide (d % 2 = 1) <;> rfl

theorem bit_form {n j : Nat} {c : UInt8} (hn : n < 4294967296) : (bits .and .u32 (bits .xor .u32 (n : Int) ((c.toNat : Int) / 2 ^ j % 4294967296)) 1 == 1) = (decide (n % 2 = 1) ^^ c.toNat.testBit j) := by
  have hc := c.toNat_lt
  have h1 : c.toNat / 2 ^ j ≤ c.toNat := Nat.div_le_self _ _
  have h2 : (c.toNat : Int) / 2 ^ j % 4294967296 = ((c.toNat / 2 ^ j : Nat) : Int) := by
    have h3 : (c.toNat : Int) / 2 ^ j = ((c.toNat / 2 ^ j : Nat) : Int) := by simp
    rw [h3]
    generalize c.toNat / 2 ^ j = d at h1
    omega
  rw [h2]
  exact xor_odd hn (by omega) _ Nat.testBit_eq_decide_div_mod_eq
set_option maxRecDepth 20000 in
set_option maxHeartbeats 1000000 in
theorem RCrc_any (s : ByteArray) (w : World) (hs : s.size ≤ 9223372036854775807) :
    Calls Try.prog 145 #[.string s] w fun e w' => e = .returned (.int .u32 ((crcL s.data.toList).toNat : Int)) ∧ w' = w := by
  have hl : s.data.toList.length = s.size := Array.length_toList
  go_enter Try.func145, Try.ntmps145
  go_wp2_with fail
  go_loop [3, 9] (fun h i => ∃ k : Nat, k ≤ s.size ∧ i = .int .i64 k ∧ h = .int .u32 ((crcS (s.data.toList.take k)).toNat : Nat)) (fun _ i => s.size - (intOf i).toNat)
  case atStart => exact ⟨0, Nat.zero_le _, rfl, rfl⟩
  case round =>
    obtain ⟨k, hk, rfl, rfl⟩ := hrel
    by_cases hlt : k < s.size
    · obtain ⟨c, hc⟩ : ∃ c, s.data.toList[k]? = some c := ⟨s.data.toList[k]'(by omega), List.getElem?_eq_getElem _⟩
      have hat := at_byte hc hlt
      have hst := crcS_step hc
      obtain ⟨x, hx⟩ : ∃ x, crcS (s.data.toList.take k) = x := ⟨_, rfl⟩
      rw [hx] at hst ⊢
      rw [← bits_all] at hst
      have HST : Hid _ := hst
      have hcl := c.toNat_lt
      clear hc hst hx
      go_wp2_with fail
      go_loop [3, 12] (fun h i => ∃ j : Nat, j ≤ 8 ∧ i = .int .i64 j ∧ h = .int .u32 ((crcF x ((bitsB c).take j)).toNat : Nat)) (fun _ i => 8 - (intOf i).toNat)
      case atStart => exact ⟨0, Nat.zero_le _, rfl, rfl⟩
      case round =>
        obtain ⟨j, hj, rfl, rfl⟩ := hrel
        by_cases hlt8 : j < 8
        · have hst := bits_take x c hlt8
          obtain ⟨y, hy⟩ : ∃ y, crcF x ((bitsB c).take j) = y := ⟨_, rfl⟩
          rw [hy] at hst ⊢
          have hn := crcB_nat y (c.toNat.testBit j)
          have hyl := y.isLt
          obtain ⟨n, hn0⟩ : ∃ n, y.toNat = n := ⟨_, rfl⟩
          rw [hn0] at hn hyl ⊢
          have HX : Hid _ := xor_pat (n := n) (by omega)
          have hbit := bit_form (n := n) (c := c) (j := j) (by omega)
          have HST2 : Hid _ := hst
          clear hst hn0 hy
          cases hb : (decide (n % 2 = 1) ^^ c.toNat.testBit j) with
          | false =>
            rw [hb] at hbit hn
            have HN : Hid _ := hn
            clear hn hb
            go_wp2_with fail
            go_round
            case rel =>
              refine ⟨j + 1, by omega, by go_num, ?_⟩
              rw [HST2.out, HN.out]; rfl
            case measure => simp [intOf]; omega
          | true =>
            rw [hb] at hbit hn
            have HN : Hid _ := hn
            clear hn hb
            go_wp2_with fail
            go_round
            case rel =>
              refine ⟨j + 1, by omega, by go_num, ?_⟩
              rw [HST2.out, HN.out, HX.out]; rfl
            case measure => simp [intOf]; omega
        · have hj8 : j = 8 := by omega
          subst hj8
          rw [← HST.out]
          go_wp2_with fail
          go_round
          case rel => exact ⟨k + 1, by omega, by go_num, rfl⟩
          case measure => simp [intOf]; omega
    · have hkk : k = s.size := by omega
      subst hkk
      rw [List.take_of_length_le (by omega)]
      have hx := (crcS s.data.toList).isLt
      have HX : Hid _ := not_val (crcS s.data.toList)
      rw [← crcL_S] at HX
      obtain ⟨n, hn0⟩ : ∃ n, (crcS s.data.toList).toNat = n := ⟨_, rfl⟩
      rw [hn0] at HX hx ⊢
      clear hn0
      have hmx : bits .xor .u32 IntKind.u32.max (n : Int) = 4294967295 - (n : Int) := xor_max hx
      go_wp2_with fail
      go_ret
      refine ⟨?_, rfl⟩
      rw [HX.out]; rfl
end Go.Proofs.Ytgffippimmokiaa
