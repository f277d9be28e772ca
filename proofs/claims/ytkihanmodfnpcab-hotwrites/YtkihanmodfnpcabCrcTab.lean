/- What crc.table answers. -/
import Derived.Test.YtkihanmodfnpcabCrcT
import Derived.Laws.BitsAllLaws
import Derived.Laws.Unary
import Derived.Deep.WholeRow
import Derived.Laws.CopyOwn
namespace Go.Proofs.Ytkihanmodfnpcab
open Go.RowKit
set_option linter.unusedSimpArgs false
set_option linter.unusedVariables false

theorem xor_lt32 {a b : Nat} (ha : a < 4294967296) (hb : b < 4294967296) : a ^^^ b < 4294967296 := Nat.xor_lt_two_pow (n := 32) ha hb
theorem and_one {n : Nat} (h : n < 4294967296) : bits .and .u32 (n : Int) 1 = ((n % 2 : Nat) : Int) := by
  have := u32_and_nat n 1 h (by omega)
  rw [nat_mask1] at this
  exact this
theorem xor_pat {n : Nat} (h : n < 4294967296) : bits .xor .u32 ((n : Int) / 2) 2197175160 = ((n / 2 ^^^ 2197175160 : Nat) : Int) := u32_xor_nat (n / 2) 2197175160 (by omega) (by omega)

set_option maxRecDepth 20000 in
set_option maxHeartbeats 400000 in
theorem moved_any (x : BitVec 32) (w : World) :
    Calls Try.prog 115 #[.int .u32 (x.toNat : Int)] w fun e w' => e = .returned (.int .u32 ((movedV x).toNat : Int)) ∧ w' = w := by
  have hN := crcB_nat x false
  rw [Bool.xor_false] at hN
  change (movedV x).toNat = _ at hN
  obtain ⟨n, hn⟩ : ∃ n, x.toNat = n := ⟨_, rfl⟩
  have hl : n < 4294967296 := by rw [← hn]; exact x.isLt
  obtain ⟨m, hm⟩ : ∃ m, (movedV x).toNat = m := ⟨_, rfl⟩
  rw [hn, hm] at hN
  rw [hn, hm]
  have ha := and_one hl
  have HX : Hid _ := xor_pat hl
  clear hn hm
  by_cases h1 : n % 2 = 1
  · have ha1 : (bits BinOp.and IntKind.u32 (n : Int) 1 == 1) = true := by rw [ha, h1]; rfl
    rw [if_pos (by simpa using h1)] at hN
    have HN : Hid _ := hN
    clear hN ha h1
    go_enter Try.func115, Try.ntmps115
    go_wp2_with fail
    go_ret
    refine ⟨?_, rfl⟩
    rw [HN.out, ← HX.out]
    rfl
  · have ha1 : (bits BinOp.and IntKind.u32 (n : Int) 1 == 1) = false := by
      rw [ha, beq_eq_false_iff_ne]; omega
    rw [if_neg (by simpa using h1)] at hN
    have HN : Hid _ := hN
    clear hN ha h1
    go_enter Try.func115, Try.ntmps115
    go_wp2_with fail
    go_ret
    refine ⟨?_, rfl⟩
    rw [HN.out]
    rfl

theorem infoTab : (Try.prog.info? 158).map (fun i => (i.zero, i.size)) = some (some (.agg (Array.replicate 256 (.int .u32 0))), 256) := by kernel_rfl
/-- the bit, and the sum, when k bits are still to come -/
def tabBit (k : Nat) : Nat := 2 ^ k / 2
def tabSum (k : Nat) : BitVec 32 := if k = 8 then 1#32 else crcT (2 ^ k)
theorem tab_sum : ∀ j, j < 8 → movedV (tabSum (j + 1)) = crcT (2 ^ j) := by decide +kernel
theorem tab_bit (j : Nat) : tabBit (j + 1) = 2 ^ j := by unfold tabBit; rw [Nat.pow_succ]; omega
theorem pow_le {j : Nat} (h : j < 8) : 0 < 2 ^ j ∧ 2 ^ j ≤ 128 := ⟨Nat.two_pow_pos j, by have := Nat.pow_le_pow_right (n := 2) (by omega) (show j ≤ 7 by omega); simpa using this⟩
/-- one more of the table is made -/
theorem tab_step {j b : Nat} {g : Nat → BitVec 32} (hj : j < 8) (hb : b < 256) (hm : b % (2 * 2 ^ j) = 0) (h1 : ∀ c, c < 256 → c % (2 * 2 ^ j) = 0 → g c = crcT c) (h2 : ∀ c, c < 256 → c < b → c % 2 ^ j = 0 → g c = crcT c) :
    (∀ c, c < 256 → c % (2 * 2 ^ j) = 0 → (fun c => if c = b + 2 ^ j then g b ^^^ crcT (2 ^ j) else g c) c = crcT c) ∧ (∀ c, c < 256 → c < b + 2 * 2 ^ j → c % 2 ^ j = 0 → (fun c => if c = b + 2 ^ j then g b ^^^ crcT (2 ^ j) else g c) c = crcT c) := by
  have key : ∀ c, c < 256 → (c % (2 * 2 ^ j) = 0 ∨ (c < b + 2 * 2 ^ j ∧ c % 2 ^ j = 0)) → (fun c => if c = b + 2 ^ j then g b ^^^ crcT (2 ^ j) else g c) c = crcT c := by
    intro c hc h
    show (if c = b + 2 ^ j then g b ^^^ crcT (2 ^ j) else g c) = crcT c
    by_cases e : c = b + 2 ^ j
    · rw [if_pos e, e, crcT_add hj hb hm, h1 b hb hm]
    · rw [if_neg e]
      rcases h with h | ⟨h3, h4⟩
      · exact h1 c hc h
      · by_cases hl : c < b
        · exact h2 c hc hl h4
        · rcases tab_between j hj b hb hm c hc h4 (by omega) h3 with rfl | h5
          · exact h1 c hc hm
          · exact absurd h5 e
  exact ⟨fun c hc h => key c hc (.inl h), fun c hc h3 h4 => key c hc (.inr ⟨h3, h4⟩)⟩

set_option maxRecDepth 20000 in
set_option maxHeartbeats 1000000 in
theorem table_any (w : World) :
    Calls Try.prog 112 #[] w fun e w' => e = .returned (.agg (tabC crcT)) ∧ Below w.heap.size w w' := by
  have hv := (zero_of_info infoTab).1
  rw [tabC_zero] at hv
  go_enter Try.func112, Try.ntmps112
  go_wp2_with fail
  go_loopw [2, 3] (fun sum bit wr => ∃ (k : Nat) (f : Nat → BitVec 32), k ≤ 8 ∧ bit = .int .i64 (tabBit k : Nat) ∧ sum = .int .u32 ((tabSum k).toNat : Nat) ∧ wr = (w.alloc (.cells (tabC fun _ => 0#32) 158)).alloc (.cells (tabC f) 158) ∧ ∀ b, b < 256 → b % 2 ^ k = 0 → f b = crcT b) (fun _ bit _ => (intOf bit).toNat)
  case atStart =>
    refine ⟨8, fun _ => 0#32, Nat.le_refl _, rfl, rfl, rfl, fun b hb h => ?_⟩
    have : b = 0 := by omega
    subst this
    exact crcT_zero.symm
  case round =>
    rename World => wr
    obtain ⟨k, f, hk, rfl, rfl, rfl, hf⟩ := hrel
    have HF : Hid _ := hf
    clear hf
    cases k with
    | zero =>
      rw [show ((tabBit 0 : Nat) : Int) = 0 from rfl]
      have hft : tabC f = tabC crcT := tabC_ext fun b hb => HF.out b hb (by omega)
      rw [hft]
      clear hft HF
      have hi : (Try.prog.info? 158).map (·.size) = some (tabC crcT).size := by rw [tabC_size]; exact (zero_of_info infoTab).2
      have HI : Hid _ := hi
      clear hi
      have hg : ((w.alloc (.cells (tabC fun _ => 0#32) 158)).alloc (.cells (tabC crcT) 158)).heap[w.heap.size + 1]? = some (.cells (tabC crcT) 158 (0, 0)) := by
        have h := heap_alloc_last (w.alloc (.cells (tabC fun _ => 0#32) 158)) (.cells (tabC crcT) 158)
        rw [show (w.alloc (.cells (tabC fun _ => 0#32) 158)).heap.size = w.heap.size + 1 from Deep.nblk_alloc _ _] at h
        exact h
      have hg0 : ((w.alloc (.cells (tabC fun _ => 0#32) 158)).alloc (.cells (tabC crcT) 158)).heap[w.heap.size]? = some (.cells (tabC fun _ => 0#32) 158 (0, 0)) := by
        rw [Deep.blk_alloc_lt _ _ _ (by rw [Deep.nblk_alloc]; omega)]
        exact heap_alloc_last w _
      have HBL : Hid (Below w.heap.size w ((w.alloc (.cells (tabC fun _ => 0#32) 158)).alloc (.cells (tabC crcT) 158))) := ((Below.refl _ w).alloc (Nat.le_refl _) _).alloc (by simp) _
      generalize (w.alloc (.cells (tabC fun _ => 0#32) 158)).alloc (.cells (tabC crcT) 158) = W2 at hg hg0 HBL ⊢
      have HG : Hid _ := hg
      have HSC : Hid ((storeCells ⟨w.heap.size, 0, none⟩ (tabC crcT).toList 0).run Try.prog W2 = .ok () (W2.setRow w.heap.size (tabC crcT))) := by
        have h := run_storeCells_from (P := Try.prog) w.heap.size 158 (tabC crcT).toList 0 _ W2 hg0 (by simp [tabC_size]) (fun v hv => (Array.all_eq_true_iff_forall_mem.1 (tabC_one crcT)) v (by simpa using hv))
        show _ = _
        simpa using h
      have HLD : Hid _ := setRow_heap W2 w.heap.size _ (tabC crcT) _ _ hg0
      clear hg hg0
      have hts := tabC_size crcT
      go_wp2_with fail
      refine wp_load_row 158 (.tmp 1) rfl (w.heap.size + 1) rfl 158 (tabC crcT) (0, 0) _ HG.out Try.underlying158 rfl HI.out ?_
      go_wp2_with fail
      have hsc := HSC.out
      simp only [hsc, Result.andThen]
      rw [Oper.upon_skip]
      clear hsc
      go_wp2_with fail
      refine bodyPost_ret (v := .agg (tabC crcT)) ?_ rfl ⟨rfl, below_setRow HBL.out (Nat.le_refl _) _⟩
      exact results_cell_row (p := 0) (ty := 158) rfl _ _ w.heap.size 158 (tabC crcT) (0, 0) _ rfl HLD.out Try.underlying158 rfl HI.out
    | succ j =>
      have hj : j < 8 := by omega
      have HJ : Hid (j < 8) := hj
      rw [tab_bit]
      obtain ⟨p0, p1⟩ := pow_le hj
      have HM : Hid _ := fun w => moved_any (tabSum (j + 1)) w
      rw [tab_sum j hj] at HM
      obtain ⟨p, hp⟩ : ∃ p, 2 ^ j = p := ⟨_, rfl⟩
      obtain ⟨n0, hn0⟩ : ∃ n, (tabSum (j + 1)).toNat = n := ⟨_, rfl⟩
      obtain ⟨n1, hn1⟩ : ∃ n, (crcT (2 ^ j)).toNat = n := ⟨_, rfl⟩
      rw [hn0, hn1] at HM
      rw [hn0, hp]
      rw [hp] at p0 p1
      have HP : Hid (2 ^ j = p) := hp
      have HN1 : Hid ((crcT (2 ^ j)).toNat = n1) := hn1
      clear hp hn0 hn1 hj hk
      go_wp2_with fail
      refine (HM.out _).mono ?_
      rintro e w1 ⟨rfl, e1⟩
      subst e1
      go_wp2_with fail
      go_loopw [4] (fun bv wr => ∃ (b : Nat) (g : Nat → BitVec 32), b ≤ 256 ∧ bv = .int .i64 b ∧ b % (2 * 2 ^ j) = 0 ∧ wr = (w.alloc (.cells (tabC fun _ => 0#32) 158)).alloc (.cells (tabC g) 158) ∧ (∀ c, c < 256 → c % (2 * 2 ^ j) = 0 → g c = crcT c) ∧ (∀ c, c < 256 → c < b → c % 2 ^ j = 0 → g c = crcT c)) (fun bv _ => 256 - (intOf bv).toNat)
      case atStart => exact ⟨0, f, by omega, rfl, by simp, rfl, fun c hc h => HF.out c hc (by rw [Nat.pow_succ, Nat.mul_comm]; exact h), fun c _ h => by omega⟩
      case round =>
        rename World => wq
        obtain ⟨b, g, hb, rfl, hm, rfl, h1, h2⟩ := hrel
        by_cases hlt : b < 256
        · have HST : Hid _ := tab_step HJ.out hlt hm h1 h2
          obtain ⟨q1, q2⟩ := tab_lt j HJ.out b hlt hm
          have HMN : Hid ((b + 2 * 2 ^ j) % (2 * 2 ^ j) = 0) := by show _ = _; rw [Nat.add_mod_right]; exact hm
          have hgb : Hid _ := tabC_at g hlt
          have HSET : Hid _ := tabC_set g q1 (g b ^^^ crcT (2 ^ j))
          rw [BitVec.toNat_xor, HN1.out] at HSET
          obtain ⟨n2, hn2⟩ : ∃ n, (g b).toNat = n := ⟨_, rfl⟩
          have hl2 : n2 < 4294967296 := by rw [← hn2]; exact (g b).isLt
          have hl1 : n1 < 4294967296 := by rw [← HN1.out]; exact (crcT (2 ^ j)).isLt
          rw [hn2] at hgb HSET
          have hcell := hgb.out
          have hxor := u32_xor_nat n2 n1 hl2 hl1
          have HP2 : Hid _ := HP.out
          rw [HP.out] at q1 q2 HSET HMN
          have hcell2 := tabC_at g q1
          obtain ⟨n3, hn3⟩ : ∃ n, (g (b + p)).toNat = n := ⟨_, rfl⟩
          rw [hn3] at hcell2
          clear hm h1 h2 hn2 hgb hn3
          go_wp2_with fail
          go_roundw
          case rel =>
            refine ⟨b + 2 * p, fun c => if c = b + p then g b ^^^ crcT p else g c, q2, by go_num, ?_, ?_, ?_, ?_⟩
            · rw [HP.out]; exact HMN.out
            · rw [← HSET.out]
            · have h := HST.out.1
              rw [HP.out] at h
              rw [HP.out]; exact h
            · have h := HST.out.2
              rw [HP.out] at h
              rw [HP.out]; exact h
          case measure => simp [intOf]; omega
        · have hbb : b = 256 := by omega
          subst hbb
          have HG : Hid _ := h2
          clear hm h1 h2
          go_wp2_with fail
          go_roundw
          case rel => exact ⟨j, g, by have := HJ.out; omega, by rw [tabBit, HP.out]; congr 1, by rw [tabSum, if_neg (by have := HJ.out; omega), HN1.out], rfl, fun c hc h => HG.out c hc hc h⟩
          case measure => simp [intOf]; omega
end Go.Proofs.Ytkihanmodfnpcab
