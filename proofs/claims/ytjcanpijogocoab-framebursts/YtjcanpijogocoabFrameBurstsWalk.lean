/- The law FrameBursts, walked: it answers true. -/
import Derived.Test.YtjcanpijogocoabTurnKit
import Derived.Test.YtjcanpijogocoabFrameKit
import Derived.Test.YtjcanpijogocoabNumWithin
import Derived.Deep.RegionHeld3
namespace Go.Proofs.Ytjcanpijogocoab
open Go.RowKit
set_option linter.unusedSimpArgs false
set_option linter.unusedVariables false

theorem got_seven : gotE [3, 0, 0, 0, 0, 0, 0] = 6 ∧ gotK [3, 0, 0, 0, 0, 0, 0] = 0 ∧ gotB [3, 0, 0, 0, 0, 0, 0] = [] ∧ gotN [3, 0, 0, 0, 0, 0, 0] = 0 := by decide +kernel
set_option maxRecDepth 100000 in
set_option maxHeartbeats 4000000 in
theorem FrameBursts_any (kd : Int) (bd : ByteArray) (at0 : Int) (t : Nat) (w : World) (hbd : bd.size ≤ 9223372036854775807) (ht : t < 4294967296) :
    Calls Try.prog 3 #[.agg #[.int .i64 kd, .string bd], .int .i64 at0, .int .u32 t] w fun e w' => e = .returned (.bool true) ∧ Below w.heap.size w w' := by
  have H0 : Hid _ := fun w => FGet_any ⟨#[3, 0, 0, 0, 0, 0, 0]⟩ w (by decide)
  change Hid (∀ w, Calls Try.prog 6 #[.string ⟨#[3, 0, 0, 0, 0, 0, 0]⟩] w fun e w' => e = .returned (.tuple #[frV (gotK [3, 0, 0, 0, 0, 0, 0]) (gotB [3, 0, 0, 0, 0, 0, 0]), .int .i64 (gotN [3, 0, 0, 0, 0, 0, 0]), .int .i64 (gotE [3, 0, 0, 0, 0, 0, 0])]) ∧ Below w.heap.size w w') at H0
  rw [got_seven.1, got_seven.2.1, got_seven.2.2.1, got_seven.2.2.2] at H0
  unfold frV at H0
  have H1 : Hid _ := fun w => FPut_any kd bd w hbd
  have hbl : bd.data.toList.length = bd.size := Array.length_toList
  go_enter Try.func3, Try.ntmps3
  go_wp2_with fail
  refine (H0.out _).mono ?_
  rintro e w1 ⟨rfl, hb1⟩
  have HB1 : Hid (Below w.heap.size w w1) := ((Below.refl _ w).alloc (Nat.le_refl _) _).trans (hb1.mono (by simp))
  obtain ⟨p0, p1, p2⟩ := (fbox_here w kd bd).below hb1
  have hz1 := HB1.out.size
  clear hb1
  by_cases hE : putE kd bd.data.toList = 0
  · obtain ⟨k1, k2, k3⟩ := putE_ok hE
    have hT : putT kd bd.data.toList = frameL kd.toNat bd.data.toList := by rw [putT, hE]; rfl
    rw [hE, hT] at H1
    have hfl := frameL_len kd.toNat bd.data.toList
    have HGT : Hid (∀ p, 24 ≤ p → p + 32 ≤ 8 * (frameL kd.toNat bd.data.toList).length → t ≠ 0 → gotE (turnR32 (frameL kd.toNat bd.data.toList) p (BitVec.ofNat 32 t) 32) = 6) := fun p h1 h2 h3 => got_turned (by omega) (by omega) k3 h1 h2 (ofNat_ne h3 ht)
    obtain ⟨u, hu⟩ : ∃ u, frameL kd.toNat bd.data.toList = u := ⟨_, rfl⟩
    rw [hu] at H1 hfl HGT
    have hul : u.length ≤ 4007 := by omega
    have hul7 : 7 ≤ u.length := by omega
    clear hu hfl hT hE k1 k2 k3 hbl
    go_wp2_with fail
    refine (H1.out _).mono ?_
    rintro e w2 ⟨rfl, hb2⟩
    have HB2 : Hid (Below w.heap.size w w2) := (HB1.out.alloc hz1 _).trans (hb2.mono (by simp; omega))
    have hz2 := HB2.out.size
    clear hb2 p0 p1 p2
    by_cases h0 : t = 0
    · subst h0
      rw [show (((0 : Nat) : Int)) = 0 from rfl]
      go_wp2_with fail
      go_ret
      exact ⟨rfl, HB2.out⟩
    · have h0' : ((t : Int) == 0) = false := by rw [beq_eq_false_iff_ne]; omega
      obtain ⟨m, hm⟩ : ∃ m : Nat, 8 * (u.length - 3) - 31 = m := ⟨_, rfl⟩
      have hm' : 8 * ((u.length : Int) - 3) - 31 = (m : Int) := by omega
      have HW : Hid _ := fun w => Within3_any at0 m w (by omega) (by omega)
      go_wp2_with fail
      refine (HW.out _).mono ?_
      rintro e w4 ⟨r0, rfl, hp, e4⟩
      subst e4
      obtain ⟨p, hpr⟩ : ∃ p : Nat, 24 + r0 = p := ⟨_, rfl⟩
      have hpr' : (24 : Int) + (r0 : Int) = (p : Int) := by omega
      have hcv := run_bytes_of_string (P := Try.prog) w4 9 31 5 ⟨u.toArray⟩ Try.underlying9 Try.underlying31 Try.underlying5
      have hR := bytes_of w4 ⟨u.toArray⟩ (grownCap w4 (⟨u.toArray⟩ : ByteArray).size 0 5)
      have HB4 : Hid (Below w.heap.size w (w4.drew.alloc (.cells (bytesRow ⟨u.toArray⟩ (grownCap w4 (⟨u.toArray⟩ : ByteArray).size 0 5)) 5 ((bytesRow ⟨u.toArray⟩ (grownCap w4 (⟨u.toArray⟩ : ByteArray).size 0 5)).size, (bytesRow ⟨u.toArray⟩ (grownCap w4 (⟨u.toArray⟩ : ByteArray).size 0 5)).size + 1)))) := HB2.out.drew.alloc hz2 _
      generalize w4.drew.alloc (.cells (bytesRow ⟨u.toArray⟩ (grownCap w4 (⟨u.toArray⟩ : ByteArray).size 0 5)) 5 ((bytesRow ⟨u.toArray⟩ (grownCap w4 (⟨u.toArray⟩ : ByteArray).size 0 5)).size, (bytesRow ⟨u.toArray⟩ (grownCap w4 (⟨u.toArray⟩ : ByteArray).size 0 5)).size + 1)) = W4 at hcv hR HB4
      generalize grownCap w4 (⟨u.toArray⟩ : ByteArray).size 0 5 = cp at hcv hR
      rw [show (⟨u.toArray⟩ : ByteArray).size = u.length by show u.toArray.size = _; simp] at hcv
      have HR : Hid (BytesAt W4 w4.heap.size u) := hR
      have HHS : Hid (w.heap.size ≤ w4.heap.size) := hz2
      obtain ⟨g, hg⟩ : ∃ g, w4.heap.size = g := ⟨_, rfl⟩
      rw [hg] at hcv HR HHS
      have hpm : p + 32 ≤ 8 * u.length := by omega
      have HTN : Hid (t ≠ 0) := h0
      have HGE : Hid _ := HGT.out p (by omega) hpm h0
      clear hR hg hm hm' h0 h0' HW H0 H1 HB1 hp hz2 hpr
      go_wp2_with fail
      clear hcv hpr'
      go_loopw [48] (fun i wr => ∃ k : Nat, k ≤ 32 ∧ i = .int .i64 k ∧ BytesAt wr g (turnR32 u p (BitVec.ofNat 32 t) k) ∧ Below w.heap.size w wr) (fun i _ => 32 - (intOf i).toNat)
      case atStart => exact ⟨0, by omega, rfl, HR.out, HB4.out⟩
      case round =>
        rename World => wr
        obtain ⟨k, hk, rfl, hby, hbe⟩ := hrel
        have HBE : Hid (Below w.heap.size w wr) := hbe
        have hlen : (turnR32 u p (BitVec.ofNat 32 t) k).length = u.length := by rw [turned_len]
        by_cases hlt : k < 32
        · have hbit := bit_of ht hlt
          obtain ⟨l, hll⟩ : ∃ l, turnR32 u p (BitVec.ofNat 32 t) k = l := ⟨_, rfl⟩
          have HST : Hid (turnR32 u p (BitVec.ofNat 32 t) (k + 1) = if (BitVec.ofNat 32 t).getLsbD k = true then flipAt l (p + k) else l) := by show _ = _; rw [turnR32, hll]
          rw [hll] at hby hlen
          have HBY : Hid (BytesAt wr g l) := hby
          cases hb : (BitVec.ofNat 32 t).getLsbD k with
          | false =>
            rw [hb] at hbit HST
            clear hb hll hby hbe
            go_wp2_with fail
            go_roundw
            case rel => exact ⟨k + 1, by omega, by go_num, by rw [HST.out]; exact HBY.out, HBE.out⟩
            case measure => simp [intOf]; omega
          | true =>
            rw [hb] at hbit HST
            obtain ⟨j, hj⟩ : ∃ j, (p + k) / 8 = j := ⟨_, rfl⟩
            obtain ⟨r, hr⟩ : ∃ r, (p + k) % 8 = r := ⟨_, rfl⟩
            obtain ⟨c, hc⟩ : ∃ c, l[j]? = some c := ⟨l[j]'(by omega), List.getElem?_eq_getElem _⟩
            have hcell := hby.cellOf hc
            have hfz := hby.loose (j := j) (by omega)
            have hgl := hby.here
            obtain ⟨q, hq⟩ : ∃ q, p + k = q := ⟨_, rfl⟩
            rw [hq] at hj hr
            have w1' : IntKind.i64.wrap ((p : Int) + (k : Int)) = (q : Int) := by rw [IntWalk.i64_in _ ⟨by omega, by omega⟩]; omega
            have w2' : IntKind.i64.wrap ((q : Int) / 8) = (j : Int) := by rw [IntWalk.i64_in _ ⟨by omega, by omega⟩]; omega
            have w3' : (q : Int).tmod 8 = (r : Int) := by rw [Int.tmod_eq_emod_of_nonneg (by omega)]; omega
            have j0 : (0 : Int) ≤ (j : Int) := by omega
            have j1 : (j : Int) < (u.length : Int) := by omega
            have r0 : (0 : Int) ≤ (r : Int) := by omega
            have HFL : Hid (flipAt l (p + k) = l.set j (c ^^^ UInt8.ofNat (2 ^ r))) := by
              show _ = _
              unfold flipAt
              rw [hq, hj, hr, hc]; rfl
            have hxr := xor_pow (c := c) (r := r) (by omega)
            obtain ⟨d, hd⟩ : ∃ d, c ^^^ UInt8.ofNat (2 ^ r) = d := ⟨_, rfl⟩
            rw [hd] at HFL hxr
            clear hb hll hby hbe hc hj hr hq hd
            go_wp2_with fail
            go_region
            go_wp2_with fail
            go_roundw
            case rel =>
              refine ⟨k + 1, by omega, by go_num, ?_, ?_⟩
              · have h := HST.out
                rw [if_pos trivial] at h
                rw [h, HFL.out]
                exact (HBY.out.put j d).drew
              · exact (HBE.out.setCell HHS.out _).drew
            case measure => simp [intOf]; omega
        · have hk32 : k = 32 := by omega
          subst hk32
          obtain ⟨l, hll⟩ : ∃ l, turnR32 u p (BitVec.ofNat 32 t) 32 = l := ⟨_, rfl⟩
          rw [hll] at hby hlen HGE
          have htx := hby.text cp
          rw [hlen] at htx
          have H1 : Hid _ := fun w => FGet_any ⟨l.toArray⟩ w (by show l.toArray.size ≤ _; simp; omega)
          change Hid (∀ w, Calls Try.prog 6 #[.string ⟨l.toArray⟩] w fun e w' => e = .returned (.tuple #[frV (gotK l) (gotB l), .int .i64 (gotN l), .int .i64 (gotE l)]) ∧ Below w.heap.size w w') at H1
          obtain ⟨g1, g2, g3⟩ := got_bad (l := l) (by rw [HGE.out]; decide)
          rw [HGE.out, g1, g2, g3] at H1
          unfold frV at H1
          clear hll hby hbe hlt g1 g2 g3
          go_wp2_with fail
          refine (H1.out _).mono ?_
          rintro e w5 ⟨rfl, hb5⟩
          have HB5 : Hid (Below w.heap.size w w5) := HBE.out.trans (hb5.mono HBE.out.size)
          clear hb5
          go_wp2_with fail
          go_ret
          exact ⟨rfl, HB5.out⟩
  · have hT : putT kd bd.data.toList = [] := by rw [putT, if_neg hE]
    rw [hT] at H1
    obtain ⟨e0, he0⟩ : ∃ x, putE kd bd.data.toList = x := ⟨_, rfl⟩
    rw [he0] at H1 hE
    have he' : (e0 != 0) = true := by simp [hE]
    have he2 : (e0 == 0) = false := by simp [hE]
    clear he0 hE hT hbl
    go_wp2_with fail
    refine (H1.out _).mono ?_
    rintro e w2 ⟨rfl, hb2⟩
    have HB2 : Hid (Below w.heap.size w w2) := (HB1.out.alloc hz1 _).trans (hb2.mono (by simp; omega))
    clear hb2 p0 p1 p2
    go_wp2_with fail
    go_ret
    exact ⟨rfl, HB2.out⟩
end Go.Proofs.Ytjcanpijogocoab
