/- What the document's own Crc answers. -/
import Derived.Test.YtkihanmodfnpcabCrcOf
namespace Go.Proofs.Ytkihanmodfnpcab
open Go.RowKit
set_option linter.unusedSimpArgs false
set_option linter.unusedVariables false

theorem bits_take (x : BitVec 32) (c : UInt8) {k : Nat} (hk : k < 8) : crcF x ((bitsB c).take (k + 1)) = crcB (crcF x ((bitsB c).take k)) (c.toNat.testBit k) := by
  have h : (bitsB c)[k]? = some (c.toNat.testBit k) := by simp [bitsB, hk]
  rw [List.take_add_one, h]
  show crcF x (_ ++ [c.toNat.testBit k]) = _
  rw [crcF_app, crcF_one]
theorem bits_all (x : BitVec 32) (c : UInt8) : crcF x ((bitsB c).take 8) = crcF x (bitsB c) := by rw [List.take_of_length_le (by rw [bitsB_len]; omega)]
theorem xor_odd {n d : Nat} (hn : n < 4294967296) (hd : d < 4294967296) (b : Bool) (hb : b = decide (d % 2 = 1)) : (bits .and .u32 (bits .xor .u32 (n : Int) (d : Int)) 1 == 1) = (decide (n % 2 = 1) ^^ b) := by
  rw [u32_xor_nat n d hn hd, and_one (xor_lt32 hn hd), hb]
  have h : (n ^^^ d) % 2 = if decide (n % 2 = 1) ^^ decide (d % 2 = 1) then 1 else 0 := by
    have h0 := Nat.testBit_xor n d 0
    rw [Nat.testBit_zero, Nat.testBit_zero, Nat.testBit_zero] at h0
    rw [← h0]
    by_cases q : (n ^^^ d) % 2 = 1
    · simp [q]
    · simp [q]; omega
  rw [h]
  cases decide (n % 2 = 1) ^^ decide (d % 2 = 1) <;> rfl

theorem bit_form {n j : Nat} {c : UInt8} (hn : n < 4294967296) : (bits .and .u32 (bits .xor .u32 (n : Int) ((c.toNat : Int) / 2 ^ j % 4294967296)) 1 == 1) = (decide (n % 2 = 1) ^^ c.toNat.testBit j) := by
  have hc := c.toNat_lt
  have h1 : c.toNat / 2 ^ j ≤ c.toNat := Nat.div_le_self _ _
  have h2 : (c.toNat : Int) / 2 ^ j % 4294967296 = ((c.toNat / 2 ^ j : Nat) : Int) := by
    have h3 : (c.toNat : Int) / 2 ^ j = ((c.toNat / 2 ^ j : Nat) : Int) := by simp
    rw [h3]
    generalize c.toNat / 2 ^ j = d at h1
    omega
  rw [h2]
  exact xor_odd hn (by omega) _ Nat.testBit_eq_decide_div_mod_eq
set_option maxRecDepth 20000 in
set_option maxHeartbeats 1000000 in
theorem RCrc_any (s : ByteArray) (w : World) (hs : s.size ≤ 9223372036854775807) :
    Calls Try.prog 63 #[.string s] w fun e w' => e = .returned (.int .u32 ((crcL s.data.toList).toNat : Int)) ∧ w' = w := by
  have hl : s.data.toList.length = s.size := Array.length_toList
  go_enter Try.func63, Try.ntmps63
  go_wp2_with fail
  go_loop [3, 9] (fun h i => ∃ k : Nat, k ≤ s.size ∧ i = .int .i64 k ∧ h = .int .u32 ((crcS (s.data.toList.take k)).toNat : Nat)) (fun _ i => s.size - (intOf i).toNat)
  case atStart => exact ⟨0, Nat.zero_le _, rfl, rfl⟩
  case round =>
    obtain ⟨k, hk, rfl, rfl⟩ := hrel
    by_cases hlt : k < s.size
    · obtain ⟨c, hc⟩ : ∃ c, s.data.toList[k]? = some c := ⟨s.data.toList[k]'(by omega), List.getElem?_eq_getElem _⟩
      have hat := at_byte hc hlt
      have hst := crcS_step hc
      obtain ⟨x, hx⟩ : ∃ x, crcS (s.data.toList.take k) = x := ⟨_, rfl⟩
      rw [hx] at hst ⊢
      rw [← bits_all] at hst
      have HST : Hid _ := hst
      have hcl := c.toNat_lt
      clear hc hst hx
      go_wp2_with fail
      go_loop [3, 12] (fun h i => ∃ j : Nat, j ≤ 8 ∧ i = .int .i64 j ∧ h = .int .u32 ((crcF x ((bitsB c).take j)).toNat : Nat)) (fun _ i => 8 - (intOf i).toNat)
      case atStart => exact ⟨0, Nat.zero_le _, rfl, rfl⟩
      case round =>
        obtain ⟨j, hj, rfl, rfl⟩ := hrel
        by_cases hlt8 : j < 8
        · have hst := bits_take x c hlt8
          obtain ⟨y, hy⟩ : ∃ y, crcF x ((bitsB c).take j) = y := ⟨_, rfl⟩
          rw [hy] at hst ⊢
          have hn := crcB_nat y (c.toNat.testBit j)
          have hyl := y.isLt
          obtain ⟨n, hn0⟩ : ∃ n, y.toNat = n := ⟨_, rfl⟩
          rw [hn0] at hn hyl ⊢
          have HX : Hid _ := xor_pat (n := n) (by omega)
          have hbit := bit_form (n := n) (c := c) (j := j) (by omega)
          have HST2 : Hid _ := hst
          clear hst hn0 hy
          cases hb : (decide (n % 2 = 1) ^^ c.toNat.testBit j) with
          | false =>
            rw [hb] at hbit hn
            have HN : Hid _ := hn
            clear hn hb
            go_wp2_with fail
            go_round
            case rel =>
              refine ⟨j + 1, by omega, by go_num, ?_⟩
              rw [HST2.out, HN.out]; rfl
            case measure => simp [intOf]; omega
          | true =>
            rw [hb] at hbit hn
            have HN : Hid _ := hn
            clear hn hb
            go_wp2_with fail
            go_round
            case rel =>
              refine ⟨j + 1, by omega, by go_num, ?_⟩
              rw [HST2.out, HN.out, HX.out]; rfl
            case measure => simp [intOf]; omega
        · have hj8 : j = 8 := by omega
          subst hj8
          rw [← HST.out]
          go_wp2_with fail
          go_round
          case rel => exact ⟨k + 1, by omega, by go_num, rfl⟩
          case measure => simp [intOf]; omega
    · have hkk : k = s.size := by omega
      subst hkk
      rw [List.take_of_length_le (by omega)]
      have hx := (crcS s.data.toList).isLt
      have HX : Hid _ := not_val (crcS s.data.toList)
      rw [← crcL_S] at HX
      obtain ⟨n, hn0⟩ : ∃ n, (crcS s.data.toList).toNat = n := ⟨_, rfl⟩
      rw [hn0] at HX hx ⊢
      clear hn0
      have hmx : bits .xor .u32 IntKind.u32.max (n : Int) = 4294967295 - (n : Int) := xor_max hx
      go_wp2_with fail
      go_ret
      refine ⟨?_, rfl⟩
      rw [HX.out]; rfl
end Go.Proofs.Ytkihanmodfnpcab
