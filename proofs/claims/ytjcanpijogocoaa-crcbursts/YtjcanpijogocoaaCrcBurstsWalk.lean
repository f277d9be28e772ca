/- The law CrcBursts, walked: it answers true. -/
import Derived.Test.YtjcanpijogocoaaTurnKit
import Derived.Test.YtjcanpijogocoaaNumWithin
import Derived.Deep.RegionHeld3
namespace Go.Proofs.Ytjcanpijogocoaa
open Go.RowKit
set_option linter.unusedSimpArgs false
set_option linter.unusedVariables false

theorem crc_empty : (crcL []).toNat = 0 := by decide +kernel
theorem crc_ab : (crcL [97]).toNat ≠ (crcL [98]).toNat := by decide +kernel
set_option maxRecDepth 100000 in
set_option maxHeartbeats 4000000 in
theorem CrcBursts_any (s : ByteArray) (at0 : Int) (t : Nat) (w : World) (hs : s.size ≤ 140737488355328) (ht : t < 4294967296) :
    Calls Try.prog 6 #[.string s, .int .i64 at0, .int .u32 t] w fun e w' => e = .returned (.bool true) ∧ Below w.heap.size w w' := by
  have H1 : Hid _ := fun w => CrcOf_any ⟨#[]⟩ w (by decide)
  have H2 : Hid _ := fun w => CrcOf_any ⟨#[97]⟩ w (by decide)
  have H3 : Hid _ := fun w => CrcOf_any ⟨#[98]⟩ w (by decide)
  rw [crc_empty] at H1
  have hab := crc_ab
  obtain ⟨ca, hca⟩ : ∃ n, (crcL [97]).toNat = n := ⟨_, rfl⟩
  obtain ⟨cb, hcb⟩ : ∃ n, (crcL [98]).toNat = n := ⟨_, rfl⟩
  rw [hca, hcb] at hab
  rw [hca] at H2
  rw [hcb] at H3
  have hab' : ((ca : Int) == (cb : Int)) = false := by rw [beq_eq_false_iff_ne]; omega
  clear hab hca hcb
  have hl : s.data.toList.length = s.size := Array.length_toList
  go_enter Try.func6, Try.ntmps6
  go_wp2_with fail
  refine (H1.out _).mono ?_
  rintro e w1 ⟨rfl, hb1⟩
  have HB1 : Hid (Below w.heap.size w w1) := hb1
  clear hb1
  go_wp2_with fail
  refine (H2.out _).mono ?_
  rintro e w2 ⟨rfl, hb2⟩
  have HB2 : Hid (Below w.heap.size w w2) := HB1.out.trans (hb2.mono HB1.out.size)
  clear hb2
  go_wp2_with fail
  refine (H3.out _).mono ?_
  rintro e w3 ⟨rfl, hb3⟩
  have HB3 : Hid (Below w.heap.size w w3) := HB2.out.trans (hb3.mono HB2.out.size)
  clear hb3
  by_cases h0 : t = 0
  · subst h0
    rw [show (((0 : Nat) : Int)) = 0 from rfl]
    go_wp2_with fail
    go_ret
    exact ⟨rfl, HB3.out⟩
  · have h0' : ((t : Int) == 0) = false := by rw [beq_eq_false_iff_ne]; omega
    by_cases h4 : s.size < 4
    · go_wp2_with fail
      go_ret
      exact ⟨rfl, HB3.out⟩
    · have h4' : ¬ (s.size : Int) < 4 := by omega
      obtain ⟨m, hm⟩ : ∃ m : Nat, 8 * s.size - 31 = m := ⟨_, rfl⟩
      have hm' : 8 * (s.size : Int) - 31 = (m : Int) := by omega
      have HW : Hid _ := fun w => Within3_any at0 m w (by omega) (by omega)
      have hz3 := HB3.out.size
      go_wp2_with fail
      refine (HW.out _).mono ?_
      rintro e w4 ⟨p, rfl, hp, e4⟩
      subst e4
      have hcv := run_bytes_of_string (P := Try.prog) w4 9 38 5 s Try.underlying9 Try.underlying38 Try.underlying5
      have hR := bytes_of w4 s (grownCap w4 s.size 0 5)
      have HB4 : Hid (Below w.heap.size w (w4.drew.alloc (.cells (bytesRow s (grownCap w4 s.size 0 5)) 5 ((bytesRow s (grownCap w4 s.size 0 5)).size, (bytesRow s (grownCap w4 s.size 0 5)).size + 1)))) := HB3.out.drew.alloc hz3 _
      generalize w4.drew.alloc (.cells (bytesRow s (grownCap w4 s.size 0 5)) 5 ((bytesRow s (grownCap w4 s.size 0 5)).size, (bytesRow s (grownCap w4 s.size 0 5)).size + 1)) = W4 at hcv hR HB4
      generalize grownCap w4 s.size 0 5 = cp at hcv hR
      have HR : Hid (BytesAt W4 w4.heap.size s.data.toList) := hR
      have HHS : Hid (w.heap.size ≤ w4.heap.size) := hz3
      obtain ⟨g, hg⟩ : ∃ g, w4.heap.size = g := ⟨_, rfl⟩
      rw [hg] at hcv HR HHS
      have hpm : p + 32 ≤ 8 * s.size := by omega
      have HTN : Hid (t ≠ 0) := h0
      clear hR hg hm hm' h0 h0' hab' HW H1 H2 H3 HB1 HB2 h4 hp hz3
      go_wp2_with fail
      clear hcv h4'
      go_loopw [31] (fun i wr => ∃ k : Nat, k ≤ 32 ∧ i = .int .i64 k ∧ BytesAt wr g (turnR32 s.data.toList p (BitVec.ofNat 32 t) k) ∧ Below w.heap.size w wr) (fun i _ => 32 - (intOf i).toNat)
      case atStart => exact ⟨0, by omega, rfl, HR.out, HB4.out⟩
      case round =>
        rename World => wr
        obtain ⟨k, hk, rfl, hby, hbe⟩ := hrel
        have HBE : Hid (Below w.heap.size w wr) := hbe
        have hlen : (turnR32 s.data.toList p (BitVec.ofNat 32 t) k).length = s.size := by rw [turned_len, hl]
        by_cases hlt : k < 32
        · have hbit := bit_of ht hlt
          obtain ⟨l, hll⟩ : ∃ l, turnR32 s.data.toList p (BitVec.ofNat 32 t) k = l := ⟨_, rfl⟩
          have HST : Hid (turnR32 s.data.toList p (BitVec.ofNat 32 t) (k + 1) = if (BitVec.ofNat 32 t).getLsbD k = true then flipAt l (p + k) else l) := by show _ = _; rw [turnR32, hll]
          rw [hll] at hby hlen
          have HBY : Hid (BytesAt wr g l) := hby
          cases hb : (BitVec.ofNat 32 t).getLsbD k with
          | false =>
            rw [hb] at hbit HST
            clear hb hll hby hbe
            go_wp2_with fail
            go_roundw
            case rel => exact ⟨k + 1, by omega, by go_num, by rw [HST.out]; exact HBY.out, HBE.out⟩
            case measure => simp [intOf]; omega
          | true =>
            rw [hb] at hbit HST
            obtain ⟨j, hj⟩ : ∃ j, (p + k) / 8 = j := ⟨_, rfl⟩
            obtain ⟨r, hr⟩ : ∃ r, (p + k) % 8 = r := ⟨_, rfl⟩
            obtain ⟨c, hc⟩ : ∃ c, l[j]? = some c := ⟨l[j]'(by omega), List.getElem?_eq_getElem _⟩
            have hcell := hby.cellOf hc
            have hfz := hby.loose (j := j) (by omega)
            have hgl := hby.here
            obtain ⟨q, hq⟩ : ∃ q, p + k = q := ⟨_, rfl⟩
            rw [hq] at hj hr
            have w1' : IntKind.i64.wrap ((p : Int) + (k : Int)) = (q : Int) := by rw [IntWalk.i64_in _ ⟨by omega, by omega⟩]; omega
            have w2' : IntKind.i64.wrap ((q : Int) / 8) = (j : Int) := by rw [IntWalk.i64_in _ ⟨by omega, by omega⟩]; omega
            have w3' : (q : Int).tmod 8 = (r : Int) := by rw [Int.tmod_eq_emod_of_nonneg (by omega)]; omega
            have j0 : (0 : Int) ≤ (j : Int) := by omega
            have j1 : (j : Int) < (s.size : Int) := by omega
            have r0 : (0 : Int) ≤ (r : Int) := by omega
            have HFL : Hid (flipAt l (p + k) = l.set j (c ^^^ UInt8.ofNat (2 ^ r))) := by
              show _ = _
              unfold flipAt
              rw [hq, hj, hr, hc]; rfl
            have hxr := xor_pow (c := c) (r := r) (by omega)
            obtain ⟨d, hd⟩ : ∃ d, c ^^^ UInt8.ofNat (2 ^ r) = d := ⟨_, rfl⟩
            rw [hd] at HFL hxr
            clear hb hll hby hbe hc hj hr hq hd
            go_wp2_with fail
            go_region
            go_wp2_with fail
            go_roundw
            case rel =>
              refine ⟨k + 1, by omega, by go_num, ?_, ?_⟩
              · have h := HST.out
                rw [if_pos trivial] at h
                rw [h, HFL.out]
                exact (HBY.out.put j d).drew
              · exact (HBE.out.setCell HHS.out _).drew
            case measure => simp [intOf]; omega
        · have hk32 : k = 32 := by omega
          subst hk32
          have htold := turned_told (s := s.data.toList) (p := p) (by rw [hl]; exact hpm) (t := BitVec.ofNat 32 t) (ofNat_ne HTN.out ht)
          obtain ⟨l, hll⟩ : ∃ l, turnR32 s.data.toList p (BitVec.ofNat 32 t) 32 = l := ⟨_, rfl⟩
          rw [hll] at htold hby hlen
          have htx := hby.text cp
          rw [hlen] at htx
          have H1 : Hid _ := fun w => CrcOf_any ⟨l.toArray⟩ w (by show l.toArray.size ≤ _; simp; omega)
          have H2 : Hid _ := fun w => CrcOf_any s w (by omega)
          obtain ⟨n1, hn1⟩ : ∃ n, (crcL l).toNat = n := ⟨_, rfl⟩
          obtain ⟨n2, hn2⟩ : ∃ n, (crcL s.data.toList).toNat = n := ⟨_, rfl⟩
          change Hid (∀ w, Calls Try.prog 9 #[.string ⟨l.toArray⟩] w fun e w' => e = .returned (.int .u32 ((crcL l).toNat : Int)) ∧ Below w.heap.size w w') at H1
          rw [hn1] at H1
          rw [hn2] at H2
          have hne : ((n1 : Int) != (n2 : Int)) = true := by
            rw [bne_iff_ne]; intro h
            exact htold (BitVec.eq_of_toNat_eq (by omega))
          clear hll htold hby hbe hlt hn1 hn2
          go_wp2_with fail
          refine (H1.out _).mono ?_
          rintro e w5 ⟨rfl, hb5⟩
          have HB5 : Hid (Below w.heap.size w w5) := HBE.out.trans (hb5.mono HBE.out.size)
          clear hb5
          go_wp2_with fail
          refine (H2.out _).mono ?_
          rintro e w6 ⟨rfl, hb6⟩
          have HB6 : Hid (Below w.heap.size w w6) := HB5.out.trans (hb6.mono HB5.out.size)
          clear hb6
          go_wp2_with fail
          go_ret
          exact ⟨rfl, HB6.out⟩
end Go.Proofs.Ytjcanpijogocoaa
