/- What the document's own Unnum answers. -/
import Derived.Test.YtillooigiidpkaaRNum
import Derived.Test.YtillooigiidpkaaNumGet
import Derived.BigQuiet
import Derived.Deep.RegionHeld3
namespace Go.Proofs.Ytillooigiidpkaa
open Go.RowKit
set_option linter.unusedSimpArgs false
set_option linter.unusedVariables false

theorem val_drop {l : List UInt8} {j : Nat} {c : UInt8} (h : l[j]? = some c) : valL (l.drop j) = valL (l.drop (j + 1)) * 128 + c.toNat % 128 := by
  rw [drop_cons8 h, valL]; omega
theorem val_drop_lt {l : List UInt8} (hl : l.length ≤ 5) (j : Nat) : valL (l.drop j) < 34359738368 := by
  have h1 := val_lt (l.drop j)
  have h2 : 128 ^ (l.drop j).length ≤ 128 ^ 5 := Nat.pow_le_pow_right (by omega) (by simp; omega)
  have h3 : (128 : Nat) ^ 5 = 34359738368 := by decide
  omega
theorem take_text (s : ByteArray) (k : Nat) : (s.extract 0 k).data.toList = s.data.toList.take k := by
  rw [Lib.extract_data]; simp
theorem text_ne {t : List UInt8} {s : ByteArray} : ((⟨t.toArray⟩ : ByteArray) = s) ↔ t = s.data.toList := by
  constructor
  · intro h; subst h; rfl
  · intro h; subst h; exact str_eq s

set_option maxRecDepth 20000 in
set_option maxHeartbeats 4000000 in
theorem RUnnum_any (s : ByteArray) (w : World) (hs : s.size ≤ 9223372036854775807) :
    Calls Try.prog 12 #[.string s] w fun e w' => e = .returned (.tuple #[.int .i64 (getN s.data.toList), .int .i64 (getK s.data.toList), .int .i64 (getE s.data.toList)]) ∧ Below w.heap.size w w' := by
  obtain ⟨l, hll⟩ : ∃ l, s.data.toList = l := ⟨_, rfl⟩
  have hl : l.length = s.size := by rw [← hll]; exact Array.length_toList
  have HLL : Hid (s.data.toList = l) := hll
  have HL : Hid (l.length = s.size) := hl
  rw [hll]
  go_enter Try.func12, Try.ntmps12
  go_wp2_with fail
  clear hll hl
  go_loop [5] (fun i => ∃ k : Nat, k ≤ s.size ∧ i = .int .i64 k ∧ ∀ x ∈ l.take k, bigB x = true) (fun i => s.size - (intOf i).toNat)
  case atStart => exact ⟨0, Nat.zero_le _, rfl, by simp⟩
  case round =>
    obtain ⟨k, hk, rfl, ha⟩ := hrel
    have HA : Hid _ := ha
    clear ha
    by_cases hlt : k < s.size
    · obtain ⟨c, hc⟩ : ∃ c, s.data.toList[k]? = some c := ⟨s.data.toList[k]'(by rw [HLL.out, HL.out]; exact hlt), List.getElem?_eq_getElem _⟩
      have hat := at_byte hc hlt
      have hcl := UInt8.toNat_lt c
      have HC : Hid (l[k]? = some c) := by show _ = _; rw [← HLL.out]; exact hc
      clear hc
      by_cases hbig : 128 ≤ c.toNat
      · go_wp2_with fail
        go_round
        case rel => exact ⟨k + 1, by omega, by go_num, all_snoc HC.out HA.out (by simpa [bigB] using hbig)⟩
        case measure => simp [intOf]; omega
      · have HR : Hid (runN l = k) := run_here HC.out HA.out (by simpa [bigB] using hbig)
        by_cases h5 : 5 ≤ k
        · have hE : getE l = 3 := by rw [getE, HR.out, if_pos h5]
          obtain ⟨g1, g2⟩ := get_bad (s := l) (by omega)
          have HE : Hid (getE l = 3 ∧ getN l = 0 ∧ getK l = 0) := ⟨hE, g1, g2⟩
          clear hE g1 g2
          go_wp2_with fail
          go_ret3
          exact ⟨by rw [HE.out.1, HE.out.2.1, HE.out.2.2]; rfl, Below.refl _ _⟩
        · have hne : ((k : Int) == (s.size : Int)) = false := by rw [beq_eq_false_iff_ne]; omega
          have HT : Hid ((l.take (k + 1)).length = k + 1) := by show _ = _; rw [List.length_take, HL.out]; omega
          go_wp2_with fail
          go_loop [6, 7] (fun n i => ∃ j : Nat, j ≤ k + 1 ∧ i = .int .i64 ((j : Int) - 1) ∧ n = .int .i64 (valL ((l.take (k + 1)).drop j) : Nat)) (fun _ i => (intOf i + 1).toNat)
          case atStart => exact ⟨k + 1, Nat.le_refl _, by congr 1; omega, by rw [List.drop_of_length_le (by rw [HT.out]; exact Nat.le_refl _)]; rfl⟩
          case round =>
            obtain ⟨j, hj, rfl, rfl⟩ := hrel
            obtain ⟨v, hv⟩ : ∃ v, valL ((l.take (k + 1)).drop j) = v := ⟨_, rfl⟩
            have hvb : v < 34359738368 := by rw [← hv]; exact val_drop_lt (by rw [HT.out]; omega) j
            have HV : Hid _ := hv
            rw [hv]
            clear hv
            cases j with
            | zero =>
              have HV0 : Hid (valL (l.take (k + 1)) = v) := by have := HV.out; rwa [List.drop_zero] at this
              have HE0 : Hid (getE l = if v ≤ 2147483647 ∧ numL v = l.take (k + 1) then 0 else 3) := by
                show _ = _
                rw [getE, HR.out, if_neg h5, if_neg (by rw [HL.out]; omega), HV0.out]
              rw [show (((0 : Nat) : Int) - 1) = -1 by omega]
              by_cases hgt : 2147483647 < v
              · have hE : getE l = 3 := by rw [HE0.out, if_neg (by omega)]
                obtain ⟨g1, g2⟩ := get_bad (s := l) (by omega)
                have HE : Hid (getE l = 3 ∧ getN l = 0 ∧ getK l = 0) := ⟨hE, g1, g2⟩
                clear hE g1 g2
                have hgd : decide ((2147483647 : Int) < (v : Int)) = true := by rw [decide_eq_true_iff]; omega
                go_wp2_with fail
                go_quiet (fail)
                go_wp2_with fail
                go_ret3
                exact ⟨by rw [HE.out.1, HE.out.2.1, HE.out.2.2]; rfl, below_drewN (Below.refl _ _) _⟩
              · have hgd : decide ((2147483647 : Int) < (v : Int)) = false := by rw [decide_eq_false_iff_not]; omega
                have wk : IntKind.i64.wrap ((k : Int) + 1) = (k : Int) + 1 := IntWalk.i64_in _ ⟨by omega, by omega⟩
                have k0 : (0 : Int) ≤ (k : Int) + 1 := by omega
                have k1 : (k : Int) + 1 ≤ (s.size : Int) := by omega
                have hRN : Hid _ := fun w => RNum_any v w (by omega)
                obtain ⟨t, ht⟩ : ∃ t, numL v = t := ⟨_, rfl⟩
                rw [ht] at hRN HE0
                clear ht
                go_wp2_with fail
                go_region_held3 (fun _ => True) (trivial) (first | (go_at_call 10; refine (hRN.out _).mono ?_; rintro e w2 ⟨rfl, hb2⟩))
                all_goals
                  have HB2 : Hid (Below w.heap.size w w2) := ((Below.refl _ w).drew).trans hb2
                  clear hb2
                  by_cases heq : t = l.take (k + 1)
                  · have hx : (t == (s.extract 0 (k + 1)).toList) = true := by rw [ByteArray.toList_eq, take_text, HLL.out, heq]; exact beq_self_eq_true _
                    have hE : getE l = 0 := by rw [HE0.out, if_pos ⟨by omega, heq⟩]
                    obtain ⟨g1, g2⟩ := get_good hE
                    rw [HR.out, HV0.out] at g1
                    rw [HR.out] at g2
                    have HE : Hid (getE l = 0 ∧ getN l = v ∧ getK l = k + 1) := ⟨hE, g1, g2⟩
                    clear hE g1 g2 heq
                    try simp only [hx, Bool.not_true, Bool.not_false]
                    clear hx
                    go_wp2_with fail
                    go_ret3
                    exact ⟨by rw [HE.out.1, HE.out.2.1, HE.out.2.2]; first | rfl | simp, HB2.out⟩
                  · have hx : (t == (s.extract 0 (k + 1)).toList) = false := by rw [ByteArray.toList_eq, take_text, HLL.out]; exact beq_eq_false_iff_ne.2 heq
                    have hE : getE l = 3 := by rw [HE0.out, if_neg (fun h => heq h.2)]
                    obtain ⟨g1, g2⟩ := get_bad (s := l) (by omega)
                    have HE : Hid (getE l = 3 ∧ getN l = 0 ∧ getK l = 0) := ⟨hE, g1, g2⟩
                    clear hE g1 g2 heq
                    try simp only [hx, Bool.not_true, Bool.not_false]
                    clear hx
                    go_wp2_with fail
                    go_ret3
                    exact ⟨by rw [HE.out.1, HE.out.2.1, HE.out.2.2]; rfl, HB2.out⟩
            | succ j =>
              obtain ⟨d, hd⟩ : ∃ d, s.data.toList[j]? = some d := ⟨s.data.toList[j]'(by rw [HLL.out, HL.out]; omega), List.getElem?_eq_getElem _⟩
              have hjs : j < s.size := by omega
              have hat2 := at_byte hd hjs
              have hdl := UInt8.toNat_lt d
              have HD : Hid ((l.take (k + 1))[j]? = some d) := by
                show _ = _
                rw [List.getElem?_take_of_lt (by omega), ← HLL.out]; exact hd
              clear hd
              rw [show (((j + 1 : Nat) : Int) - 1) = (j : Int) by omega]
              go_wp2_with fail
              go_round
              case rel =>
                refine ⟨j, by omega, by first | rfl | go_num, ?_⟩
                rw [val_drop HD.out, HV.out]
                first | rfl | (congr 1; omega)
              case measure => simp [intOf] <;> omega
    · have hkk : k = s.size := by omega
      have HR : Hid (runN l = k ∧ l.length = k) := by
        have h1 : l.take k = l := List.take_of_length_le (by rw [HL.out]; omega)
        have h2 := HA.out
        rw [h1] at h2
        exact ⟨by rw [run_all h2, HL.out, hkk], by rw [HL.out, hkk]⟩
      by_cases h5 : 5 ≤ k
      · have hE : getE l = 3 := by rw [getE, HR.out.1, if_pos h5]
        obtain ⟨g1, g2⟩ := get_bad (s := l) (by omega)
        have HE : Hid (getE l = 3 ∧ getN l = 0 ∧ getK l = 0) := ⟨hE, g1, g2⟩
        clear hE g1 g2
        go_wp2_with fail
        go_ret3
        exact ⟨by rw [HE.out.1, HE.out.2.1, HE.out.2.2]; rfl, Below.refl _ _⟩
      · have hE : getE l = 5 := by rw [getE, HR.out.1, if_neg h5, if_pos HR.out.2.symm]
        obtain ⟨g1, g2⟩ := get_bad (s := l) (by omega)
        have HE : Hid (getE l = 5 ∧ getN l = 0 ∧ getK l = 0) := ⟨hE, g1, g2⟩
        clear hE g1 g2
        go_wp2_with fail
        go_ret3
        exact ⟨by rw [HE.out.1, HE.out.2.1, HE.out.2.2]; rfl, Below.refl _ _⟩

end Go.Proofs.Ytillooigiidpkaa
