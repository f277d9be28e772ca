/- What package spot's Of answers. -/
import Derived.Test.YtilcmbophfjjbaaPlW
import Derived.Test.YtilcmbophfjjbaaSizes
namespace Go.Proofs.Ytilcmbophfjjbaa
open Go.RowKit
set_option linter.unusedSimpArgs false
set_option linter.unusedVariables false

theorem min_max (n m : Int) : (if 0 < (if m < n then m else n) then (if m < n then m else n) else 0) = max 0 (min n m) := by
  by_cases h : m < n
  · simp only [h, if_true]; split <;> omega
  · simp only [h, if_false]; split <;> omega
set_option maxHeartbeats 2000000 in
theorem ahead_any (a : Option Addr) (l : List Pt) (cap : Nat) (at_ : Int) (late : Bool) (w : World) (hp : PartsAt w w.heap.size a l) (hs : Small l) (h0 : 0 ≤ at_) (h1 : at_ ≤ 500) :
    Calls Try.prog 31 #[.slice a l.length cap, .int .i64 at_, .bool late] w fun e w' => e = .returned (.int .i64 (spotI l at_ late)) ∧ Below w.heap.size w w' := by
  have hl := hs.1
  have HP : Hid (PartsAt w w.heap.size a l) := hp
  have HS : Hid (Small l) := hs
  clear hp hs
  go_enter Try.func31, Try.ntmps31
  go_wp2
  go_loopw [7, 8, 13] (fun n pl i wr => ∃ (k : Nat) (told : Int), k ≤ l.length ∧ i = .int .i64 k ∧ n = .int .i64 told ∧ pl = .int .i64 (inI (l.take k)) ∧ told + spotI (l.drop k) (at_ - inI (l.take k)) late = spotI l at_ late ∧ 0 ≤ told ∧ told ≤ 500 * k ∧ Below w.heap.size w wr) (fun _ _ i _ => l.length - (intOf i).toNat)
  case atStart => exact ⟨0, 0, Nat.zero_le _, rfl, rfl, rfl, by simp [inI], by omega, by omega, Below.refl _ _⟩
  case round =>
    obtain ⟨k, told, hk, rfl, rfl, rfl, htot, ht0, ht1, hb⟩ := hrel
    by_cases hlt : k < l.length
    · obtain ⟨p, hpk⟩ : ∃ p, l[k]? = some p := ⟨l[k], List.getElem?_eq_getElem hlt⟩
      have Hsn : Hid _ := inI_snoc hpk
      have hbd := inI_bd (HS.out.take k).2
      have hpb := HS.out.2 p (List.mem_of_getElem? hpk)
      have htl : (l.take k).length ≤ 1600 := (HS.out.take k).1
      obtain ⟨hpb1, hpb2, hpb3⟩ := hpb
      obtain ⟨b, off, rfl, hblt, c1, c2, c3⟩ := (HP.out.below hb (Nat.le_refl _)).mem hpk
      rw [drop_cons hpk, spotI] at htot
      have hAB := spotA_bd ⟨hpb1, hpb2, hpb3⟩ (at_ - inI (l.take k)) late
      have HT : Hid (told + (spotA p (at_ - inI (l.take k)) late + spotI (l.drop (k + 1)) (at_ - inI (l.take k) - p.n) late) = spotI l at_ late) := htot
      have HAB : Hid (0 ≤ spotA p (at_ - inI (l.take k)) late ∧ spotA p (at_ - inI (l.take k)) late ≤ 500) := hAB
      have HB : Hid (Below w.heap.size w wr) := hb
      have hz := hb.size
      have HE : Hid (at_ - inI (l.take (k + 1)) = at_ - inI (l.take k) - p.n) := by show _ = _; rw [Hsn.out]; omega
      obtain ⟨pl, hpl⟩ : ∃ pl, inI (l.take k) = pl := ⟨_, rfl⟩
      rw [hpl] at HT HAB HE Hsn hbd
      rw [hpl]
      clear hpk hb htot hAB hpl
      by_cases q1 : p.k = 1
      · have e1 : (p.k == 1) = true := by simp [q1]
        have HA : Hid (spotA p (at_ - pl) late = max 0 (min p.n (at_ - pl))) := by show _ = _; rw [spotA, if_pos q1]
        clear q1
        go_wp2
        go_roundw
        case rel =>
          refine ⟨k + 1, told + spotA p (at_ - pl) late, by omega, by go_num, by rw [HA.out, ← min_max], by rw [Hsn.out], ?_, ?_, ?_, HB.out.alloc hz _⟩
          · rw [HE.out]; have := HT.out; omega
          · have := HAB.out; omega
          · have := HAB.out; omega
        case measure => simp [intOf]; omega
      · have e1 : (p.k == 1) = false := by simp [q1]
        by_cases q2 : p.k = 2
        · have e2 : (p.k == 2) = true := by simp [q2]
          have HA : Hid (spotA p (at_ - pl) late = if 0 < at_ - pl ∨ late = true ∧ at_ - pl = 0 then (p.t.size : Int) else 0) := by show _ = _; rw [spotA, if_neg q1, if_pos q2]
          clear q1 q2
          by_cases hc : pl < at_
          · go_wp2
            go_roundw
            case rel =>
              refine ⟨k + 1, told + spotA p (at_ - pl) late, by omega, by go_num, by rw [HA.out, if_pos (by omega)], by rw [Hsn.out], ?_, ?_, ?_, HB.out.alloc hz _⟩
              · rw [HE.out]; have := HT.out; omega
              · have := HAB.out; omega
              · have := HAB.out; omega
            case measure => simp [intOf]; omega
          · have hc1 : decide (pl < at_) = false := by simp; omega
            cases late with
            | false =>
              go_wp2
              go_roundw
              case rel =>
                refine ⟨k + 1, told + spotA p (at_ - pl) false, by omega, by go_num, by rw [HA.out, if_neg (by simp; omega)]; simp, by rw [Hsn.out], ?_, ?_, ?_, HB.out.alloc hz _⟩
                · rw [HE.out]; have := HT.out; omega
                · have := HAB.out; omega
                · have := HAB.out; omega
              case measure => simp [intOf]; omega
            | true =>
              by_cases hd : pl = at_
              · have e3 : (pl == at_) = true := by simp [hd]
                have HD : Hid (pl = at_) := hd
                clear hd
                go_wp2
                go_roundw
                case rel =>
                  refine ⟨k + 1, told + spotA p (at_ - pl) true, by omega, by go_num, by rw [HA.out, if_pos (Or.inr ⟨rfl, by have := HD.out; omega⟩)], by rw [Hsn.out], ?_, ?_, ?_, HB.out.alloc hz _⟩
                  · rw [HE.out]; have := HT.out; omega
                  · have := HAB.out; omega
                  · have := HAB.out; omega
                case measure => simp [intOf]; omega
              · have e3 : (pl == at_) = false := by simp [hd]
                go_wp2
                go_roundw
                case rel =>
                  refine ⟨k + 1, told + spotA p (at_ - pl) true, by omega, by go_num, by rw [HA.out, if_neg (by omega)]; simp, by rw [Hsn.out], ?_, ?_, ?_, HB.out.alloc hz _⟩
                  · rw [HE.out]; have := HT.out; omega
                  · have := HAB.out; omega
                  · have := HAB.out; omega
                case measure => simp [intOf]; omega
        · have e2 : (p.k == 2) = false := by simp [q2]
          have HA : Hid (spotA p (at_ - pl) late = 0) := by show _ = _; rw [spotA, if_neg q1, if_neg q2]
          clear q1 q2
          go_wp2
          go_roundw
          case rel =>
            refine ⟨k + 1, told + spotA p (at_ - pl) late, by omega, by go_num, by rw [HA.out]; simp, by rw [Hsn.out], ?_, ?_, ?_, HB.out.alloc hz _⟩
            · rw [HE.out]; have := HT.out; omega
            · have := HAB.out; omega
            · have := HAB.out; omega
          case measure => simp [intOf]; omega
    · have hdr : l.drop k = [] := List.drop_eq_nil_of_le (by omega)
      rw [hdr] at htot
      have HT : Hid (told = spotI l at_ late) := by show _ = _; simpa [spotI] using htot
      clear htot hdr
      go_wp2
      go_ret
      exact ⟨ret_int HT.out, hb⟩

set_option maxHeartbeats 1000000 in
theorem SpotOf_any (a : Option Addr) (l : List Pt) (cap : Nat) (at_ : Int) (late : Bool) (w : World) (hp : PartsAt w w.heap.size a l) (hi : -9223372036854775808 ≤ at_ ∧ at_ ≤ 9223372036854775807) :
    Calls Try.prog 12 #[.slice a l.length cap, .int .i64 at_, .bool late] w fun e w' => e = .returned (.tuple #[.int .i64 (spotR l at_ late), .int .i64 (spotE l at_)]) ∧ Below w.heap.size w w' := by
  have HP : Hid (PartsAt w w.heap.size a l) := hp
  clear hp
  go_enter Try.func12, Try.ntmps12
  go_wp2_with fail
  refine (Sizes_any a l cap _ HP.out).mono ?_
  rintro e w1 ⟨rfl, hb1⟩
  have HE1 : Hid (Below w.heap.size w w1) := hb1
  have HP1 : Hid (PartsAt w1 w1.heap.size a l) := HP.out.here hb1 (Nat.le_refl _)
  clear hb1
  by_cases h0 : sizesE l = 0
  · have r0 : (sizesE l != 0) = false := by simp [h0]
    obtain ⟨hsm, e1, e2⟩ := sizes_zero h0
    obtain ⟨g, c, i, o, b1, b2⟩ := delta_facts h0
    have HSM : Hid (Small l) := hsm
    have hin : 0 ≤ inI l ∧ inI l ≤ 500 := by omega
    rw [e1]
    by_cases ha : 0 ≤ at_ ∧ at_ ≤ inI l
    · have HR : Hid (spotR l at_ late = spotI l at_ late ∧ spotE l at_ = 0) := by
        refine ⟨?_, spotE_ok h0 ha.1 ha.2⟩
        rw [spotR_ok h0 ha.1 ha.2, ← spotI_word g, show ((at_.toNat : Nat) : Int) = at_ by omega]
      have ha1 := ha.1
      have ha2 := ha.2
      have d1 : decide (at_ < 0) = false := by simp; omega
      have d2 : decide (at_ > inI l) = false := by simp; omega
      have d3 : decide (inI l < at_) = false := by simp; omega
      have a5 : at_ ≤ 500 := by omega
      clear h0 hsm e1 e2 g c i o b1 b2 ha
      go_wp2_with fail
      refine (ahead_any a l cap at_ late _ HP1.out HSM.out ha1 a5).mono ?_
      rintro e w2 ⟨rfl, hb2⟩
      have HE2 : Hid (Below w.heap.size w w2) := HE1.out.trans (hb2.mono HE1.out.size)
      clear hb2
      go_wp2_with fail
      go_ret2
      rw [HR.out.1, HR.out.2]
      exact ⟨rfl, HE2.out⟩
    · have HR : Hid (spotR l at_ late = 0 ∧ spotE l at_ = 1) := by
        have h1 : spotE l at_ = 1 := by rw [spotE, if_pos h0, if_pos (by omega)]
        exact ⟨by rw [spotR, if_neg (by omega)], h1⟩
      clear h0 hsm e1 e2 g c i o b1 b2
      by_cases hn : at_ < 0
      · have d1 : decide (at_ < 0) = true := by simp; omega
        clear ha
        go_wp2_with fail
        go_ret2
        rw [HR.out.1, HR.out.2]
        exact ⟨rfl, HE1.out⟩
      · have d1 : decide (at_ < 0) = false := by simp; omega
        have d2 : decide (at_ > inI l) = true := by simp; omega
        have d3 : decide (inI l < at_) = true := by simp; omega
        clear ha
        go_wp2_with fail
        go_ret2
        rw [HR.out.1, HR.out.2]
        exact ⟨rfl, HE1.out⟩
  · have r0 : (sizesE l != 0) = true := by simp [h0]
    have HR : Hid (spotR l at_ late = 0 ∧ spotE l at_ = sizesE l) := by
      have h1 : spotE l at_ = sizesE l := by rw [spotE, if_neg h0]
      exact ⟨by rw [spotR, if_neg (by omega)], h1⟩
    clear h0
    go_wp2_with fail
    go_ret2
    rw [HR.out.1, HR.out.2]
    exact ⟨rfl, HE1.out⟩

end Go.Proofs.Ytilcmbophfjjbaa
