/- What slices.Contains of a row of ints answers where it has the int, and Within. -/
import Derived.Test.YtbfabahdaacpfabFinds
namespace Go.Proofs.Ytbfabahdaacpfab
open Go.RowKit
set_option linter.unusedSimpArgs false
set_option linter.unusedVariables false

set_option maxHeartbeats 1000000 in
theorem Ix_yes (B : Nat) (v : Value) (l : List Nat) (x : Nat) (w : World) (hv : Ints w B v l) (hl : l.length ≤ 9223372036854775806) (hx : x ∈ l) :
    Calls Try.prog 15 #[v, .int .i64 x] w fun e w' => ∃ r : Nat, e = .returned (.int .i64 r) ∧ w' = w := by
  obtain ⟨ao, ca, rfl⟩ := slice_form hv
  have HV : Hid (Ints w B (.slice ao l.length ca) l) := hv
  have HX : Hid (x ∈ l) := hx
  clear hv hx
  go_enter Try.func15, Try.ntmps15
  go_wp2_with fail
  go_loopw [8] (fun i wr => ∃ k : Nat, k ≤ l.length ∧ i = .int .i64 k ∧ x ∉ l.take k ∧ wr = w) (fun i _ => l.length - (intOf i).toNat)
  case atStart => exact ⟨0, Nat.zero_le _, rfl, by simp, rfl⟩
  case round =>
    obtain ⟨k, hk, rfl, hn, rfl⟩ := hrel
    by_cases hlt : k < l.length
    · obtain ⟨y, hy⟩ : ∃ y, l[k]? = some y := ⟨l[k], List.getElem?_eq_getElem hlt⟩
      obtain ⟨g, cg, hg, y1, hgw⟩ := Ints.cellOf HV.out hy
      simp only [Value.slice.injEq, true_and] at hg
      obtain ⟨rfl, rfl⟩ := hg
      have HY : Hid (l[k]? = some y ∧ x ∉ l.take k) := ⟨hy, hn⟩
      clear hy hn
      by_cases hx : x = y
      · have e1 : ((x : Int) == (y : Int)) = true := by simp [hx]
        clear hx
        go_wp2_with fail
        go_ret
        exact ⟨k, rfl, rfl⟩
      · have e1 : ((x : Int) == (y : Int)) = false := by simp; omega
        have HN : Hid (¬ x = y) := hx
        clear hx
        go_wp2_with fail
        go_roundw
        case rel =>
          refine ⟨k + 1, by omega, by go_num, ?_, by first | rfl | trivial⟩
          obtain ⟨hi, e⟩ := List.getElem?_eq_some_iff.1 HY.out.1
          rw [List.take_succ_eq_append_getElem hi, e, List.mem_append]
          rintro (h | h)
          · exact HY.out.2 h
          · exact HN.out (by simpa using h)
        case measure => simp [intOf]; omega
    · rw [List.take_of_length_le (by omega)] at hn
      exact absurd HX.out hn
set_option maxHeartbeats 400000 in
theorem Co_yes (B : Nat) (v : Value) (l : List Nat) (x : Nat) (w : World) (hv : Ints w B v l) (hl : l.length ≤ 9223372036854775806) (hx : x ∈ l) :
    Calls Try.prog 10 #[v, .int .i64 x] w fun e w' => e = .returned (.bool true) ∧ w' = w := by
  have HV : Hid (Ints w B v l) := hv
  have HX : Hid (x ∈ l) := hx
  clear hv hx
  go_enter Try.func10, Try.ntmps10
  go_wp2_with fail
  refine (Ix_yes B v l x _ HV.out hl HX.out).mono ?_
  rintro e w1 ⟨r, rfl, we⟩
  subst we
  have h0 : (0 : Int) ≤ (r : Int) := by omega
  go_wp2_with fail
  go_ret
  refine ⟨?_, rfl⟩
  first | rfl | (congr 2; simp)
set_option maxHeartbeats 1000000 in
theorem Within2_any (k : Int) (m : Nat) (w : World) (hm : 0 < m) (h5 : m ≤ 9223372036854775807) :
    Calls Try.prog 9 #[.int .i64 k, .int .i64 m] w fun e w' => ∃ r : Nat, e = .returned (.int .i64 r) ∧ r < m ∧ w' = w := by
  go_enter Try.func9, Try.ntmps9
  have hx0 : 0 ≤ (IntKind.u64.wrap k).tmod (m : Int) := Int.tmod_nonneg _ (by rw [IntKind.wrap_u64]; omega)
  have hx1 : (IntKind.u64.wrap k).tmod (m : Int) < m := Int.tmod_lt_of_pos _ (by omega)
  have hx2 : wrap64 ((IntKind.u64.wrap k).tmod (m : Int)) = (IntKind.u64.wrap k).tmod (m : Int) := IntWalk.wrap64_in _ ⟨by omega, by omega⟩
  have HX : Hid (0 ≤ (IntKind.u64.wrap k).tmod (m : Int) ∧ (IntKind.u64.wrap k).tmod (m : Int) < m ∧ wrap64 ((IntKind.u64.wrap k).tmod (m : Int)) = (IntKind.u64.wrap k).tmod (m : Int)) := ⟨hx0, hx1, hx2⟩
  clear hx0 hx1 hx2
  go_wp2
  go_ret
  obtain ⟨h0, h1, h2⟩ := HX.out
  exact ⟨((IntKind.u64.wrap k).tmod (m : Int)).toNat, congrArg (fun z => Ending.returned (.int .i64 z)) (by rw [h2]; omega), by omega, rfl⟩
end Go.Proofs.Ytbfabahdaacpfab
