/- The law KeepEach, walked: it answers true. -/
import Derived.Test.YtinhidddfpjjkaaKeepKit
import Derived.Test.YtinhidddfpjjkaaRPol
import Derived.Deep.RegionHeld3
namespace Go.Proofs.Ytinhidddfpjjkaa
open Go.RowKit
set_option linter.unusedSimpArgs false
set_option linter.unusedVariables false

theorem each_lit (g : Nat) (w : World) (hv : IzAt w w.heap.size (some ⟨g, 0, none⟩) [1, 9] 2) : Calls Try.prog 9 #[.agg #[.int .i64 1, .int .i64 0, .slice (some ⟨g, 0, none⟩) 2 2], .int .i64 3] w fun e w' => ∃ ao co, e = .returned (.tuple #[.slice ao 2 co, .int .i64 0]) ∧ NatsAt w' w'.heap.size ao [1, 3] co ∧ Below w.heap.size w w' := by
  have h := KOf_ok (last := 1) (every := 0) (some ⟨g, 0, none⟩) (pins := [1, 9]) 2 (hd := 3) (by decide) (by decide) w hv
  rw [show keptL 1 0 [1, 9] 3 = [1, 3] by decide] at h
  exact h
theorem min_int (ts : Array TypeId) (t : TypeId) (a b m : Int) (h : m = min a b) (w : World) : (Builtin.min_ ts t #[.int .i64 a, .int .i64 b]).run Try.prog w = .ok (.int .i64 m) w := by
  subst h
  by_cases h : a < b
  · have h2 : ¬ b < a := by omega
    simp [Builtin.min_, Builtin.min2, h, h2]; omega
  · by_cases h2 : b < a
    · simp [Builtin.min_, Builtin.min2, h, h2]; omega
    · simp [Builtin.min_, Builtin.min2, h, h2]; omega
theorem KCo_yesB (a : Option Addr) (x : List Nat) (c r : Nat) (w : World) (hv : NatsAt w w.heap.size a x c) (hr : r ∈ x) :
    Calls Try.prog 16 #[.slice a x.length c, .int .i64 (r : Int)] w fun e w' => e = .returned (.bool true) ∧ Below w.heap.size w w' :=
  (KCo_yes a x c r w hv hr).mono fun e w' ⟨h1, h2⟩ => ⟨h1, by rw [h2]; exact Below.refl _ _⟩
set_option maxHeartbeats 8000000 in
theorem KeepEach_any (last every : Int) (a : Option Addr) (pins : List Int) (c : Nat) (head kq : Int) (w : World) (hv : IzAt w w.heap.size a pins c) :
    Calls Try.prog 6 #[polV last every a pins.length c, .int .i64 head, .int .i64 kq] w fun e w' => e = .returned (.bool true) ∧ Below w.heap.size w w' := by
  obtain ⟨w0, hw0⟩ : ∃ w0, w0 = w.alloc (.cells #[.int .i64 last, .int .i64 every, .slice a pins.length c] 24) := ⟨_, rfl⟩
  have HB0 : Hid (Below w.heap.size w w0) := by subst hw0; exact (Below.refl _ _).alloc (Nat.le_refl _) _
  have HV : Hid (IzAt w w.heap.size a pins c) := hv
  have HX0 : Hid (PBox w0 w.heap.size last every (.slice a pins.length c)) := by subst hw0; exact pbox_new _ _ _ _
  have HI0 : Hid (IzAt (w0.alloc (.cells #[.int .i64 1, .int .i64 9] 3)) (w0.alloc (.cells #[.int .i64 1, .int .i64 9] 3)).heap.size (some ⟨w.heap.size + 1, 0, none⟩) [1, 9] 2) := by
    have h := ints_lit w0 [1, 9] (by decide)
    rw [show w0.heap.size = w.heap.size + 1 by subst hw0; exact Deep.nblk_alloc _ _] at h
    rw [show (w0.alloc (.cells #[.int .i64 1, .int .i64 9] 3)).heap.size = w.heap.size + 1 + 1 by rw [show (w0.alloc (.cells #[.int .i64 1, .int .i64 9] 3)).heap.size = w0.heap.size + 1 from Deep.nblk_alloc _ _]; subst hw0; rw [Deep.nblk_alloc]]
    exact h
  have hba : Below w0.heap.size w0 (w0.alloc (.cells #[.int .i64 1, .int .i64 9] 3)) := (Below.refl _ _).alloc (Nat.le_refl _) _
  have HBa : Hid (Below w.heap.size w (w0.alloc (.cells #[.int .i64 1, .int .i64 9] 3))) := HB0.out.trans (hba.mono HB0.out.size)
  have HXa : Hid (PBox (w0.alloc (.cells #[.int .i64 1, .int .i64 9] 3)) w.heap.size last every (.slice a pins.length c)) := HX0.out.below hba
  clear hv hba
  subst hw0
  go_enter Try.func6, Try.ntmps6
  go_wp2_with fail
  refine (each_lit (w.heap.size + 1) _ HI0.out).mono ?_
  rintro e w1 ⟨ao, co, rfl, hn1, hb1⟩
  have HB1 : Hid (Below w.heap.size w w1) := HBa.out.trans (hb1.mono HBa.out.size)
  have HX1 : Hid (PBox w1 w.heap.size last every (.slice a pins.length c)) := HXa.out.below hb1
  have hbl : Below w1.heap.size w1 (w1.alloc (.cells #[.int .i64 1, .int .i64 3] 3)) := (Below.refl _ _).alloc (Nat.le_refl _) _
  have HN1 : Hid (NatsAt (w1.alloc (.cells #[.int .i64 1, .int .i64 3] 3)) (w1.alloc (.cells #[.int .i64 1, .int .i64 3] 3)).heap.size ao [1, 3] co) := hn1.here hbl (Nat.le_refl _)
  have HL1 : Hid (NatsAt (w1.alloc (.cells #[.int .i64 1, .int .i64 3] 3)) (w1.alloc (.cells #[.int .i64 1, .int .i64 3] 3)).heap.size (some ⟨w1.heap.size, 0, none⟩) [1, 3] 2) := by
    rw [show (w1.alloc (.cells #[.int .i64 1, .int .i64 3] 3)).heap.size = w1.heap.size + 1 from Deep.nblk_alloc _ _]
    exact nats_lit w1 [1, 3] (by decide)
  have HBl : Hid (Below w.heap.size w (w1.alloc (.cells #[.int .i64 1, .int .i64 3] 3))) := HB1.out.trans (hbl.mono HB1.out.size)
  have HXl : Hid (PBox (w1.alloc (.cells #[.int .i64 1, .int .i64 3] 3)) w.heap.size last every (.slice a pins.length c)) := HX1.out.below hbl
  clear hb1 hn1 hbl HI0 HBa HXa
  go_wp2_with fail
  refine (EqNats_yes ao (some ⟨w1.heap.size, 0, none⟩) [1, 3] co 2 _ HN1.out HL1.out).mono ?_
  rintro e w2 ⟨rfl, hb2⟩
  have HB2 : Hid (Below w.heap.size w w2) := HBl.out.trans (hb2.mono HBl.out.size)
  have HX2 : Hid (PBox w2 w.heap.size last every (.slice a pins.length c)) := HXl.out.below hb2
  clear hb2 HN1 HL1 HBl HXl
  obtain ⟨x0, x1, x2, x3⟩ := HX2.out
  by_cases hE : keepE last every pins head = 0
  · obtain ⟨hz, hh0, hh1⟩ := keepE_zero hE
    obtain ⟨hd, rfl⟩ : ∃ hd : Nat, head = (hd : Int) := ⟨head.toNat, by omega⟩
    have hh : hd ≤ 640 := by omega
    obtain ⟨hl0, hE0, hl1, hE1, hpl, hpn⟩ := pol_zero hz
    have HOf : Hid _ := fun w hv => KOf_ok (last := last) (every := every) a (pins := pins) c (hd := hd) hz hh w hv
    have hmost := kept_most (pins := pins) (head := hd) hl0 hE0
    have HMem : Hid (∀ r : Nat, r ≤ hd → ((hd : Int) - r < last ∨ (0 < every ∧ (r : Int) % every = 0) ∨ (r : Int) ∈ pins) → r ∈ keptL last every pins hd) := fun r h1 h2 => kept_mem.2 ⟨h1, keptB_yes h2⟩
    have HPn : Hid (∀ r ∈ pins, 0 ≤ r ∧ r ≤ 2147483647) := hpn
    have hlen : (keptL last every pins hd).length ≤ hd + 1 := keptN_len last every pins hd (hd + 1)
    have hpos : 1 ≤ (keptL last every pins hd).length := List.length_pos_of_mem (HMem.out hd (Nat.le_refl _) (.inl (by omega)))
    obtain ⟨K, hK⟩ : ∃ K, keptL last every pins hd = K := ⟨_, rfl⟩
    rw [hK] at HOf HMem hmost hlen hpos
    obtain ⟨mn, hmn⟩ : ∃ mn : Int, mn = min last ((hd : Int) + 1) := ⟨_, rfl⟩
    have hmr := fun ts t w => min_int ts t last ((hd : Int) + 1) mn hmn w
    have hmn1 : 1 ≤ mn := by omega
    have hmn2 : mn ≤ (hd : Int) + 1 := by omega
    have hmn3 : mn ≤ last := by omega
    rw [← hmn] at hmost
    obtain ⟨lo, hlo⟩ : ∃ lo : Nat, (hd : Int) - mn + 1 = (lo : Int) := ⟨((hd : Int) - mn + 1).toNat, by omega⟩
    have hmx : ∀ ts t (w : World), (Builtin.max_ ts t #[.int .i64 0, .int .i64 (lo : Int)]).run Try.prog w = .ok (.int .i64 (lo : Int)) w := fun ts t w => by
      have h := max_two ts t 0 (lo : Int) w
      rwa [show max (0 : Int) (lo : Int) = (lo : Int) by omega] at h
    have HLO : Hid (lo ≤ hd + 1 ∧ ∀ r : Nat, lo ≤ r → (hd : Int) - r < last) := ⟨by omega, fun r hr => by omega⟩
    have HLen : Hid (K.length ≤ hd + 1 ∧ 1 ≤ K.length) := ⟨hlen, hpos⟩
    have HMost : Hid ((K.length : Int) ≤ mn + pins.length + (if 0 < every then (hd : Int) / every + 1 else 0)) := hmost
    have hp16 : (pins.length : Int) ≤ 16 := by omega
    have hKi : (1 : Int) ≤ (K.length : Int) := by omega
    clear hE hz hh0 hh1 hK hmost hlen hpos hmn hmn3 hpn
    go_wp2_with fail
    refine (HOf.out _ (HV.out.here HB2.out (Nat.le_refl _))).mono ?_
    rintro e w4 ⟨aa, ca, rfl, hn4, hb4⟩
    have HB4 : Hid (Below w.heap.size w w4) := HB2.out.trans (hb4.mono HB2.out.size)
    have HX4 : Hid (PBox w4 w.heap.size last every (.slice a pins.length c)) := HX2.out.below hb4
    have HN4 : Hid (NatsAt w4 w4.heap.size aa K ca) := hn4
    have HV4 : Hid (IzAt w4 w4.heap.size a pins c) := HV.out.here HB4.out (Nat.le_refl _)
    clear hb4 hn4 x0 x1 x2 x3
    obtain ⟨x0, x1, x2, x3⟩ := HX4.out
    by_cases hev : 0 < every
    · obtain ⟨qn, hqn⟩ : ∃ qn : Nat, (hd : Int) / every = (qn : Int) := ⟨((hd : Int) / every).toNat, by have := Int.ediv_nonneg (a := (hd : Int)) (b := every) (by omega) (by omega); omega⟩
      have hqt : (hd : Int).tdiv every = (qn : Int) := by rw [Int.tdiv_eq_ediv_of_nonneg (by omega)]; exact hqn
      have hq6 : (qn : Int) ≤ hd := by rw [← hqn]; exact Int.ediv_le_self _ (by omega)
      have h0 : (every == 0) = false := by simp; omega
      have h0' : every ≠ 0 := by omega
      have t1 : IntKind.i64.wrap (qn : Int) = (qn : Int) := IntWalk.i64_in _ ⟨by omega, by omega⟩
      have t2 : IntKind.i64.wrap ((qn : Int) + 1) = (qn : Int) + 1 := IntWalk.i64_in _ ⟨by omega, by omega⟩
      have HQ : Hid ((K.length : Int) ≤ mn + pins.length + ((qn : Int) + 1)) := by
        have h := HMost.out
        rw [if_pos hev, hqn] at h
        exact h
      have HKK : Hid (∀ r : Nat, r < qn + 1 → ∃ kk : Nat, (r : Int) * every = (kk : Int) ∧ kk ≤ hd ∧ kk ∈ K) := by
        intro r hr
        have h1 : (r : Int) * every ≤ (qn : Int) * every := Int.mul_le_mul_of_nonneg_right (by omega) (by omega)
        have h2 : (qn : Int) * every ≤ hd := by rw [← hqn]; exact Int.ediv_mul_le _ (by omega)
        have h3 : 0 ≤ (r : Int) * every := Int.mul_nonneg (by omega) (by omega)
        obtain ⟨kk, hkk⟩ : ∃ kk : Nat, (r : Int) * every = (kk : Int) := ⟨((r : Int) * every).toNat, by omega⟩
        refine ⟨kk, hkk, by omega, HMem.out kk (by omega) (.inr (.inl ⟨hev, ?_⟩))⟩
        rw [← hkk]; exact Int.mul_emod_left _ _
      have HW : Hid (∀ w : World, Calls Try.prog 15 #[.int .i64 kq, .int .i64 ((qn : Int) + 1)] w fun e w' => ∃ r : Nat, e = .returned (.int .i64 r) ∧ r < qn + 1 ∧ w' = w) := fun w => by
        have h := Within3_any kq (qn + 1) w (by omega) (by omega)
        rwa [show ((qn + 1 : Nat) : Int) = (qn : Int) + 1 by omega] at h
      clear HMost hqn
      go_wp2_with fail
      go_region_held3 (fun w' => w'.cell? ⟨w.heap.size, 1, none⟩ = some (.int .i64 every)) (first | assumption | go_keep) (first | (go_at_call 15; refine (HW.out _).mono ?_; rintro e wz ⟨r, rfl, hr, hwz⟩; subst hwz))
      obtain ⟨kk, hkk, hkh, hkm⟩ := HKK.out r hr
      rw [hkk, IntWalk.i64_in (kk : Int) ⟨by omega, by omega⟩]
      have HKM : Hid (kk ∈ K) := hkm
      clear hkk hkh hkm hr HKK HW
      go_wp2_with fail
      refine (KCo_yesB aa K ca kk _ (by first | exact HN4.out | exact HN4.out.here (Below.refl _ _).drew (Nat.le_refl _) | exact HN4.out.here (below_drewN (Below.refl _ _) _) (Nat.le_refl _)) HKM.out).mono ?_
      rintro e w5 ⟨rfl, hb5⟩
      have HBd : Hid (Below w4.heap.size w4 w5) := by first | exact ((Below.refl _ w4).drew).trans hb5 | exact (below_drewN (Below.refl _ w4) _).trans hb5 | exact hb5
      clear hb5 x0 x1 x2 x3
      obtain ⟨x0, x1, x2, x3⟩ := HX4.out.below HBd.out
      go_wp2_with fail
      go_loopw [76] (fun i wr => ∃ k : Nat, k ≤ pins.length ∧ i = .int .i64 k ∧ NatsAt wr wr.heap.size aa K ca ∧ IzAt wr wr.heap.size a pins c ∧ PBox wr w.heap.size last every (.slice a pins.length c) ∧ Below w.heap.size w wr) (fun i _ => pins.length - (intOf i).toNat)
      case atStart => exact ⟨0, Nat.zero_le _, rfl, HN4.out.here HBd.out (Nat.le_refl _), HV4.out.here HBd.out (Nat.le_refl _), HX4.out.below HBd.out, HB4.out.trans (HBd.out.mono HB4.out.size)⟩
      case round =>
        rename World => wr
        obtain ⟨k, hk, rfl, hn, hi, hx, hb⟩ := hrel
        have HNr : Hid (NatsAt wr wr.heap.size aa K ca) := hn
        have HIr : Hid (IzAt wr wr.heap.size a pins c) := hi
        have HXr : Hid (PBox wr w.heap.size last every (.slice a pins.length c)) := hx
        have HBr : Hid (Below w.heap.size w wr) := hb
        clear hn hi hx hb
        by_cases hlt : k < pins.length
        · obtain ⟨q, hq⟩ : ∃ q, pins[k]? = some q := ⟨pins[k], List.getElem?_eq_getElem hlt⟩
          have hki : (k : Int) < (pins.length : Int) := by omega
          have hqm := List.mem_of_getElem? hq
          obtain ⟨rn, rfl⟩ : ∃ rn : Nat, q = (rn : Int) := ⟨q.toNat, by have := HPn.out q hqm; omega⟩
          obtain ⟨g, og, e1, hg, y1⟩ := HIr.out.mem hq
          have HQM : Hid ((rn : Int) ∈ pins) := hqm
          subst e1
          clear hq hqm
          by_cases hrh : rn ≤ hd
          · have hri : (rn : Int) ≤ (hd : Int) := by omega
            have HMe : Hid (rn ∈ K) := HMem.out rn hrh (.inr (.inr HQM.out))
            go_wp2_with fail
            refine (KCo_yes aa K ca rn _ HNr.out HMe.out).mono ?_
            rintro e w8 ⟨rfl, we⟩
            subst we
            go_wp2_with fail
            go_roundw
            case rel => exact ⟨k + 1, by omega, by go_num, HNr.out, HIr.out, HXr.out, HBr.out⟩
            case measure => simp [intOf]; omega
          · have hri : ¬ (rn : Int) ≤ (hd : Int) := by omega
            go_wp2_with fail
            go_roundw
            case rel => exact ⟨k + 1, by omega, by go_num, HNr.out, HIr.out, HXr.out, HBr.out⟩
            case measure => simp [intOf]; omega
        · have hki : ¬ (k : Int) < (pins.length : Int) := by omega
          obtain ⟨x0, x1, x2, x3⟩ := HXr.out
          go_wp2_with fail
          go_loopw [14] (fun i wr2 => ∃ k : Nat, lo ≤ k ∧ k ≤ hd + 1 ∧ i = .int .i64 k ∧ wr2 = wr) (fun i _ => hd + 1 - (intOf i).toNat)
          case atStart => exact ⟨lo, Nat.le_refl _, HLO.out.1, rfl, rfl⟩
          case round =>
            rename World => wr2
            obtain ⟨k2, hk2, hk3, rfl, hwr⟩ := hrel
            subst hwr
            clear x0 x1 x2 x3
            by_cases hlt2 : k2 ≤ hd
            · have hri : (k2 : Int) ≤ (hd : Int) := by omega
              have HMe : Hid (k2 ∈ K) := HMem.out k2 hlt2 (.inl (HLO.out.2 k2 hk2))
              go_wp2_with fail
              refine (KCo_yes aa K ca k2 _ HNr.out HMe.out).mono ?_
              rintro e w8 ⟨rfl, we⟩
              subst we
              go_wp2_with fail
              go_roundw
              case rel => exact ⟨k2 + 1, by omega, by omega, by go_num, by first | rfl | trivial⟩
              case measure => simp [intOf]; omega
            · have hri : ¬ (k2 : Int) ≤ (hd : Int) := by omega
              have hmost := HQ.out
              go_wp2_with fail
              go_ret
              exact ⟨by first | rfl | simp, HBr.out⟩
    · have HQ : Hid ((K.length : Int) ≤ mn + pins.length) := by
        have h := HMost.out
        rw [if_neg hev] at h
        show _ ≤ _
        omega
      clear HMost
      go_wp2_with fail
      go_loopw [76] (fun i wr => ∃ k : Nat, k ≤ pins.length ∧ i = .int .i64 k ∧ NatsAt wr wr.heap.size aa K ca ∧ IzAt wr wr.heap.size a pins c ∧ PBox wr w.heap.size last every (.slice a pins.length c) ∧ Below w.heap.size w wr) (fun i _ => pins.length - (intOf i).toNat)
      case atStart => exact ⟨0, Nat.zero_le _, rfl, HN4.out, HV4.out, HX4.out, HB4.out⟩
      case round =>
        rename World => wr
        obtain ⟨k, hk, rfl, hn, hi, hx, hb⟩ := hrel
        have HNr : Hid (NatsAt wr wr.heap.size aa K ca) := hn
        have HIr : Hid (IzAt wr wr.heap.size a pins c) := hi
        have HXr : Hid (PBox wr w.heap.size last every (.slice a pins.length c)) := hx
        have HBr : Hid (Below w.heap.size w wr) := hb
        clear hn hi hx hb
        by_cases hlt : k < pins.length
        · obtain ⟨q, hq⟩ : ∃ q, pins[k]? = some q := ⟨pins[k], List.getElem?_eq_getElem hlt⟩
          have hki : (k : Int) < (pins.length : Int) := by omega
          have hqm := List.mem_of_getElem? hq
          obtain ⟨rn, rfl⟩ : ∃ rn : Nat, q = (rn : Int) := ⟨q.toNat, by have := HPn.out q hqm; omega⟩
          obtain ⟨g, og, e1, hg, y1⟩ := HIr.out.mem hq
          have HQM : Hid ((rn : Int) ∈ pins) := hqm
          subst e1
          clear hq hqm
          by_cases hrh : rn ≤ hd
          · have hri : (rn : Int) ≤ (hd : Int) := by omega
            have HMe : Hid (rn ∈ K) := HMem.out rn hrh (.inr (.inr HQM.out))
            go_wp2_with fail
            refine (KCo_yes aa K ca rn _ HNr.out HMe.out).mono ?_
            rintro e w8 ⟨rfl, we⟩
            subst we
            go_wp2_with fail
            go_roundw
            case rel => exact ⟨k + 1, by omega, by go_num, HNr.out, HIr.out, HXr.out, HBr.out⟩
            case measure => simp [intOf]; omega
          · have hri : ¬ (rn : Int) ≤ (hd : Int) := by omega
            go_wp2_with fail
            go_roundw
            case rel => exact ⟨k + 1, by omega, by go_num, HNr.out, HIr.out, HXr.out, HBr.out⟩
            case measure => simp [intOf]; omega
        · have hki : ¬ (k : Int) < (pins.length : Int) := by omega
          obtain ⟨x0, x1, x2, x3⟩ := HXr.out
          go_wp2_with fail
          go_loopw [14] (fun i wr2 => ∃ k : Nat, lo ≤ k ∧ k ≤ hd + 1 ∧ i = .int .i64 k ∧ wr2 = wr) (fun i _ => hd + 1 - (intOf i).toNat)
          case atStart => exact ⟨lo, Nat.le_refl _, HLO.out.1, rfl, rfl⟩
          case round =>
            rename World => wr2
            obtain ⟨k2, hk2, hk3, rfl, hwr⟩ := hrel
            subst hwr
            clear x0 x1 x2 x3
            by_cases hlt2 : k2 ≤ hd
            · have hri : (k2 : Int) ≤ (hd : Int) := by omega
              have HMe : Hid (k2 ∈ K) := HMem.out k2 hlt2 (.inl (HLO.out.2 k2 hk2))
              go_wp2_with fail
              refine (KCo_yes aa K ca k2 _ HNr.out HMe.out).mono ?_
              rintro e w8 ⟨rfl, we⟩
              subst we
              go_wp2_with fail
              go_roundw
              case rel => exact ⟨k2 + 1, by omega, by omega, by go_num, by first | rfl | trivial⟩
              case measure => simp [intOf]; omega
            · have hri : ¬ (k2 : Int) ≤ (hd : Int) := by omega
              have hmost := HQ.out
              go_wp2_with fail
              go_ret
              exact ⟨by first | rfl | simp, HBr.out⟩
  · obtain ⟨E, hEE⟩ : ∃ E, keepE last every pins head = E := ⟨_, rfl⟩
    rw [hEE] at hE
    have HA : Hid _ := fun w hv => KOf_not (last := last) (every := every) a (pins := pins) c (head := head) hEE hE w hv
    have hz' : (E != 0) = true := by simp [hE]
    clear hEE hE
    go_wp2_with fail
    refine (HA.out _ (HV.out.here HB2.out (Nat.le_refl _))).mono ?_
    rintro e w4 ⟨aa, ca, rfl, hb4⟩
    have HB4 : Hid (Below w.heap.size w w4) := HB2.out.trans (hb4.mono HB2.out.size)
    clear hb4 x0 x1 x2 x3
    go_wp2_with fail
    go_ret
    exact ⟨by first | rfl | simp, HB4.out⟩
end Go.Proofs.Ytinhidddfpjjkaa
