/- What num.Get answers. -/
import Derived.Test.YtillooigiidpkaaHKit
import Derived.Test.YtillooigiidpkaaNumGetL
namespace Go.Proofs.Ytillooigiidpkaa
open Go.RowKit
set_option linter.unusedSimpArgs false
set_option linter.unusedVariables false

/-- one byte more, at place k -/
theorem get_add {s : List UInt8} {k : Nat} {c : UInt8} (h : s[k]? = some c) (p : Nat) (hp : p = 128 ^ k) : valL (s.take (k + 1)) = valL (s.take k) + p * (c.toNat % 128) := by
  have hk := (List.getElem?_eq_some_iff.1 h).1
  rw [take_snoc8 h, val_snoc, hp, show (s.take k).length = k by simp; omega]
theorem val_bound {s : List UInt8} {k : Nat} (hk : k ≤ 5) : valL (s.take k) < 34359738368 := by
  have h1 := val_lt (s.take k)
  have h2 : 128 ^ (s.take k).length ≤ 128 ^ 5 := Nat.pow_le_pow_right (by omega) (by simp; omega)
  have h3 : (128 : Nat) ^ 5 = 34359738368 := by decide
  omega

theorem get_shift {k x : Nat} (hk : k ≤ 4) (hx : x < 128) : wrap64 ((x : Int) * 2 ^ (7 * k)) = ((128 ^ k * x : Nat) : Int) ∧ 128 ^ k * x < 34359738368 := by
  have h3 : 128 ^ k ≤ 268435456 := by
    have h2 : (128 : Nat) ^ k ≤ 128 ^ 4 := Nat.pow_le_pow_right (by omega) hk
    have h3 : (128 : Nat) ^ 4 = 268435456 := by decide
    omega
  have h4 : 128 ^ k * x < 34359738368 := by
    have := Nat.mul_le_mul h3 (show x ≤ 127 by omega)
    omega
  refine ⟨?_, h4⟩
  have h6 : (x : Int) * 2 ^ (7 * k) = ((128 ^ k * x : Nat) : Int) := by
    rw [Int.pow_mul, show ((2 : Int) ^ 7) = ((128 : Nat) : Int) by decide, ← Int.natCast_pow, Int.mul_comm]
    exact (Int.natCast_mul _ _).symm
  rw [h6, IntWalk.wrap64_in _ ⟨by omega, by omega⟩]

set_option maxRecDepth 20000 in
set_option maxHeartbeats 2000000 in
theorem Get_any (s : ByteArray) (w : World) (hs : s.size ≤ 9223372036854775807) :
    Calls Try.prog 11 #[.string s] w fun e w' => e = .returned (.tuple #[.int .i64 (getN s.data.toList), .int .i64 (getK s.data.toList), .int .i64 (getE s.data.toList)]) ∧ w' = w := by
  have hl : s.data.toList.length = s.size := Array.length_toList
  obtain ⟨l, hll⟩ : ∃ l, s.data.toList = l := ⟨_, rfl⟩
  obtain ⟨q, hq⟩ : ∃ q, min s.size 5 = q := ⟨_, rfl⟩
  have hqm : (Builtin.min_ #[3, 3] 3 #[.int .i64 s.size, .int .i64 5]).run Try.prog w = .ok (.int .i64 (q : Int)) w := by
    rw [run_min_int2]
    congr 2
    split <;> omega
  go_enter Try.func11, Try.ntmps11
  go_wp2_with fail
  go_loop [5, 10] (fun x i => ∃ k : Nat, k ≤ q ∧ i = .int .i64 k ∧ x = .int .i64 (valL (l.take k) : Nat) ∧ ∀ x ∈ l.take k, bigB x = true) (fun _ i => q - (intOf i).toNat)
  case atStart => exact ⟨0, Nat.zero_le _, rfl, rfl, by simp⟩
  case round =>
    obtain ⟨k, hk, rfl, rfl, ha⟩ := hrel
    have hv := val_bound (s := l) (k := k) (by omega)
    obtain ⟨v, hvv⟩ : ∃ v, valL (l.take k) = v := ⟨_, rfl⟩
    rw [hvv] at hv ⊢
    by_cases hlt : k < q
    · obtain ⟨c, hc⟩ : ∃ c, s.data.toList[k]? = some c := ⟨s.data.toList[k]'(by omega), List.getElem?_eq_getElem _⟩
      have hks : k < s.size := by omega
      have hat := at_byte hc hks
      have hcl := UInt8.toNat_lt c
      have hk4 : k ≤ 4 := by omega
      obtain ⟨hsh, hxb⟩ := get_shift (k := k) (x := c.toNat % 128) hk4 (Nat.mod_lt _ (by omega))
      have hcm : ((c.toNat % 128 : Nat) : Int) = (c.toNat : Int) % 128 := by omega
      rw [hcm] at hsh
      have HV : Hid (valL (l.take (k + 1)) = v + 128 ^ k * (c.toNat % 128)) := by show _ = _; rw [← hvv]; exact get_add (hll ▸ hc) _ rfl
      obtain ⟨y, hy⟩ : ∃ y, 128 ^ k * (c.toNat % 128) = y := ⟨_, rfl⟩
      rw [hy] at hsh hxb
      have HY : Hid _ := hy
      have HH : Hid _ := hvv
      have HA : Hid _ := ha
      have HC : Hid (l[k]? = some c) := hll ▸ hc
      have HL : Hid (s.data.toList = l) := hll
      have HI : Hid (k < 5) := by show _ < _; omega
      clear hvv ha hc hq hl hll hcm hy
      by_cases hbig : 128 ≤ c.toNat
      · go_wp2_with fail
        go_round
        case rel =>
          refine ⟨k + 1, by omega, by go_num, ?_, all_snoc HC.out HA.out (by simpa [bigB] using hbig)⟩
          rw [HV.out, HY.out]; first | rfl | simp
        case measure => simp [intOf]; omega
      · have HG : Hid _ := get_stop HC.out HI.out HA.out (by simpa [bigB] using hbig)
        by_cases hz : 0 < k ∧ c.toNat = 0
        · have hE := HG.out.1 (.inl hz)
          obtain ⟨g1, g2⟩ := get_bad (s := l) (by omega)
          have HE : Hid (getE l = 3 ∧ getN l = 0 ∧ getK l = 0) := ⟨hE, g1, g2⟩
          obtain ⟨hz1, hz2⟩ := hz
          clear hE g1 g2 hbig
          go_wp2_with fail
          go_ret3
          exact ⟨by rw [HL.out, HE.out.1, HE.out.2.1, HE.out.2.2]; rfl, rfl⟩
        · by_cases hgt : 2147483647 < v + y
          · have hE := HG.out.1 (.inr (by rw [HV.out, HY.out]; exact hgt))
            obtain ⟨g1, g2⟩ := get_bad (s := l) (by omega)
            have HE : Hid (getE l = 3 ∧ getN l = 0 ∧ getK l = 0) := ⟨hE, g1, g2⟩
            clear hE g1 g2
            by_cases hk0 : 0 < k
            · have hc1 : ¬ c.toNat = 0 := fun h => hz ⟨hk0, h⟩
              have hc0 : ((c.toNat : Int) == 0) = false := by rw [beq_eq_false_iff_ne]; omega
              clear hc1
              clear hz
              go_wp2_with fail
              go_ret3
              exact ⟨by rw [HL.out, HE.out.1, HE.out.2.1, HE.out.2.2]; rfl, rfl⟩
            · clear hz
              go_wp2_with fail
              go_ret3
              exact ⟨by rw [HL.out, HE.out.1, HE.out.2.1, HE.out.2.2]; rfl, rfl⟩
          · have hE := HG.out.2 (by rw [HV.out, HY.out]; omega)
            rw [HV.out, HY.out] at hE
            have HE : Hid (getE l = 0 ∧ getN l = v + y ∧ getK l = k + 1) := hE
            clear hE
            by_cases hk0 : 0 < k
            · have hc1 : ¬ c.toNat = 0 := fun h => hz ⟨hk0, h⟩
              have hc0 : ((c.toNat : Int) == 0) = false := by rw [beq_eq_false_iff_ne]; omega
              clear hc1
              clear hz
              go_wp2_with fail
              go_ret3
              exact ⟨by rw [HL.out, HE.out.1, HE.out.2.1, HE.out.2.2]; simp, rfl⟩
            · clear hz
              go_wp2_with fail
              go_ret3
              exact ⟨by rw [HL.out, HE.out.1, HE.out.2.1, HE.out.2.2]; simp, rfl⟩
    · have hkq : k = q := by omega
      by_cases h5 : 5 ≤ s.size
      · have hE : getE l = 3 := get_long (by rw [← hll, hl]; exact h5) (by rw [show 5 = k by omega]; exact ha)
        obtain ⟨g1, g2⟩ := get_bad (s := l) (by omega)
        have HE : Hid (getE l = 3 ∧ getN l = 0 ∧ getK l = 0) := ⟨hE, g1, g2⟩
        have HL : Hid (s.data.toList = l) := hll
        clear hE g1 g2 hq ha hvv hll hl
        go_wp2_with fail
        go_ret3
        exact ⟨by rw [HL.out, HE.out.1, HE.out.2.1, HE.out.2.2]; rfl, rfl⟩
      · have hE : getE l = 5 := get_short (by rw [← hll, hl]; omega) (by rw [show l.length = k by rw [← hll, hl]; omega]; exact ha)
        obtain ⟨g1, g2⟩ := get_bad (s := l) (by omega)
        have HE : Hid (getE l = 5 ∧ getN l = 0 ∧ getK l = 0) := ⟨hE, g1, g2⟩
        have HL : Hid (s.data.toList = l) := hll
        clear hE g1 g2 hq ha hvv hll hl
        go_wp2_with fail
        go_ret3
        exact ⟨by rw [HL.out, HE.out.1, HE.out.2.1, HE.out.2.2]; rfl, rfl⟩
end Go.Proofs.Ytillooigiidpkaa
