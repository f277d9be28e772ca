/- What crc.Of answers. -/
import Derived.Test.YtkihanmodfnpcabCrcTab
namespace Go.Proofs.Ytkihanmodfnpcab
open Go.RowKit
set_option linter.unusedSimpArgs false
set_option linter.unusedVariables false

theorem not_val (x : BitVec 32) : ((~~~x).toNat : Int) = 4294967295 - (x.toNat : Int) := by
  rw [not_nat]; have := x.isLt; omega
theorem wrap_byte (n : Nat) : IntKind.u8.wrap (n : Int) = ((n % 256 : Nat) : Int) := by rw [IntKind.wrap_u8]; omega
theorem xor_max {n : Nat} (h : n < 2 ^ 32) : bits .xor .u32 IntKind.u32.max (n : Int) = 4294967295 - (n : Int) := by
  have h1 : bits .xor .u32 IntKind.u32.max (n : Int) = ((4294967295 ^^^ n : Nat) : Int) := u32_xor_nat 4294967295 n (by omega) (by omega)
  have h2 := not_val (BitVec.ofNat 32 n)
  have h3 : ~~~(BitVec.ofNat 32 n) = BitVec.allOnes 32 ^^^ BitVec.ofNat 32 n := by rw [BitVec.allOnes_xor]
  have h4 : (BitVec.ofNat 32 n).toNat = n := by rw [BitVec.toNat_ofNat]; exact Nat.mod_eq_of_lt h
  rw [h3, BitVec.toNat_xor, h4] at h2
  rw [h1, ← h2]
  rfl
set_option maxRecDepth 20000 in
set_option maxHeartbeats 1000000 in
theorem CrcOf_any (s : ByteArray) (w : World) (hs : s.size ≤ 9223372036854775807) :
    Calls Try.prog 93 #[.string s] w fun e w' => e = .returned (.int .u32 ((crcL s.data.toList).toNat : Int)) ∧ Below w.heap.size w w' := by
  have hv := (zero_of_info infoTab).1
  have hl : s.data.toList.length = s.size := Array.length_toList
  go_enter Try.func93, Try.ntmps93
  go_wp2_with fail
  refine (table_any _).mono ?_
  rintro e w1 ⟨rfl, hb1⟩
  have HB1 : Hid (Below w.heap.size w w1) := hb1
  have hz1 := hb1.size
  clear hb1
  have hts := tabC_size crcT
  go_wp2_with fail
  have hsc := run_storeCells_new (P := Try.prog) w1 158 (Array.replicate 256 (.int .u32 0)) (tabC crcT) (by rw [tabC_size]; exact (zero_of_info infoTab).2) (by rw [tabC_size, Array.size_replicate]) (tabC_one _)
  simp only [hsc, Result.andThen]
  rw [Oper.upon_skip]
  clear hsc hv hts
  go_wp2_with fail
  go_loop [4, 9] (fun h i => ∃ k : Nat, k ≤ s.size ∧ i = .int .i64 k ∧ h = .int .u32 ((crcS (s.data.toList.take k)).toNat : Nat)) (fun _ i => s.size - (intOf i).toNat)
  case atStart => exact ⟨0, Nat.zero_le _, rfl, rfl⟩
  case round =>
    obtain ⟨k, hk, rfl, rfl⟩ := hrel
    by_cases hlt : k < s.size
    · obtain ⟨c, hc⟩ : ∃ c, s.data.toList[k]? = some c := ⟨s.data.toList[k]'(by omega), List.getElem?_eq_getElem _⟩
      have hat := at_byte hc hlt
      have hst := crcS_step hc
      obtain ⟨x, hx⟩ : ∃ x, crcS (s.data.toList.take k) = x := ⟨_, rfl⟩
      rw [hx] at hst ⊢
      have hn := crc_byte_nat x c
      have hbl := byte_lt x.toNat c
      have hcl := c.toNat_lt
      have hxl := x.isLt
      obtain ⟨n, hn0⟩ : ∃ n, x.toNat = n := ⟨_, rfl⟩
      rw [hn0] at hn hbl hxl ⊢
      obtain ⟨q, hq⟩ : ∃ q, (n % 256) ^^^ c.toNat = q := ⟨_, rfl⟩
      rw [hq] at hn hbl
      have hu8 : bits .xor .u8 ((n : Int) % 256) (c.toNat : Int) = (q : Int) := by rw [show (n : Int) % 256 = ((n % 256 : Nat) : Int) by omega, u8_xor_nat _ _ (Nat.mod_lt _ (by omega)) hcl, hq]
      have hcell := tabC_at crcT hbl
      obtain ⟨t, ht⟩ : ∃ t, (crcT q).toNat = t := ⟨_, rfl⟩
      have htl : t < 4294967296 := by rw [← ht]; exact (crcT q).isLt
      rw [ht] at hcell hn
      obtain ⟨r, hr⟩ : ∃ r, (n / 256) ^^^ t = r := ⟨_, rfl⟩
      have hu32 : bits .xor .u32 ((n : Int) / 256) (t : Int) = (r : Int) := by rw [show (n : Int) / 256 = ((n / 256 : Nat) : Int) by omega, u32_xor_nat _ _ (by omega) htl, hr]
      rw [hr] at hn
      have HST : Hid _ := hst
      have HN : Hid _ := hn
      clear hc hst hx hn hn0 hq ht hr
      go_wp2_with fail
      go_round
      case rel =>
        refine ⟨k + 1, by omega, by go_num, ?_⟩
        rw [HST.out, HN.out]
      case measure => simp [intOf]; omega
    · have hkk : k = s.size := by omega
      subst hkk
      rw [List.take_of_length_le (by omega)]
      have hx := (crcS s.data.toList).isLt
      have HX : Hid _ := not_val (crcS s.data.toList)
      rw [← crcL_S] at HX
      obtain ⟨n, hn0⟩ : ∃ n, (crcS s.data.toList).toNat = n := ⟨_, rfl⟩
      rw [hn0] at HX hx ⊢
      clear hn0
      have hmx : bits .xor .u32 IntKind.u32.max (n : Int) = 4294967295 - (n : Int) := xor_max hx
      go_wp2_with fail
      go_ret
      refine ⟨?_, HB1.out.alloc hz1 _⟩
      rw [HX.out]; rfl
end Go.Proofs.Ytkihanmodfnpcab
