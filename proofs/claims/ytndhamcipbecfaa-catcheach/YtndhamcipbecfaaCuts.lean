/- What the laws' cuts answers. -/
import Derived.Test.YtndhamcipbecfaaMeetKit
namespace Go.Proofs.Ytndhamcipbecfaa
open Go.RowKit
set_option linter.unusedSimpArgs false
set_option linter.unusedVariables false

def cutsB (l : List Pt) : Bool := l.any (fun p => p.k == 3)
theorem cuts_no {l : List Pt} (h : cutsB l = false) : ∀ p ∈ l, p.k ≠ 3 := by
  intro p hp e
  have : cutsB l = true := by rw [cutsB, List.any_eq_true]; exact ⟨p, hp, by simp [e]⟩
  rw [h] at this; cases this
set_option maxHeartbeats 400000 in
theorem cuts1_any (k n : Int) (t : ByteArray) (w : World) :
    Calls Try.prog 49 #[.agg #[.int .i64 k, .int .i64 n, .string t]] w fun e w' => e = .returned (.bool (k == 3)) ∧ w' = w.alloc (.cells #[.int .i64 k, .int .i64 n, .string t] 43) := by
  go_enter Try.func49, Try.ntmps49
  go_wp2
  go_ret
  exact ⟨rfl, rfl⟩
set_option maxHeartbeats 1000000 in
theorem cutsIx_any (a : Option Addr) (l : List Pt) (cap : Nat) (w : World) (hp : PartsAt w w.heap.size a l) :
    Calls Try.prog 71 #[.slice a l.length cap, .func (.func 49) #[] #[]] w fun e w' => ∃ r : Int, e = .returned (.int .i64 r) ∧ (0 ≤ r ↔ cutsB l = true) ∧ Below w.heap.size w w' := by
  have hl := hp.1
  have HP : Hid (PartsAt w w.heap.size a l) := hp
  clear hp
  go_enter Try.func71, Try.ntmps71
  go_wp2_with fail
  go_loopw [8] (fun i wr => ∃ k : Nat, k ≤ l.length ∧ i = .int .i64 k ∧ cutsB (l.take k) = false ∧ Below w.heap.size w wr) (fun i _ => l.length - (intOf i).toNat)
  case atStart => exact ⟨0, Nat.zero_le _, rfl, rfl, Below.refl _ _⟩
  case round =>
    obtain ⟨k, hk, rfl, hc, hb⟩ := hrel
    have hz := hb.size
    by_cases hlt : k < l.length
    · obtain ⟨p, hpk⟩ : ∃ p, l[k]? = some p := ⟨l[k], List.getElem?_eq_getElem hlt⟩
      obtain ⟨b, off, rfl, hblt, c1, c2, c3⟩ := (HP.out.below hb (Nat.le_refl _)).mem hpk
      have HB : Hid (Below w.heap.size w wr) := hb
      have HS : Hid (cutsB (l.take (k + 1)) = (cutsB (l.take k) || (p.k == 3))) := by
        show _ = _
        rw [take_snoc hpk]; simp [cutsB]
      have HC : Hid (cutsB (l.take k) = false) := hc
      have HM : Hid (p ∈ l) := List.mem_of_getElem? hpk
      clear hb hpk hc
      go_wp2_with fail
      refine (cuts1_any p.k p.n p.t _).mono ?_
      rintro e w1 ⟨rfl, rfl⟩
      by_cases h3 : p.k = 3
      · have e3 : (p.k == 3) = true := by simp [h3]
        have HT : Hid (cutsB l = true) := by show _ = _; rw [cutsB, List.any_eq_true]; exact ⟨p, HM.out, by simp [h3]⟩
        clear h3
        go_wp2_with fail
        go_ret
        exact ⟨k, rfl, ⟨fun _ => HT.out, fun _ => by omega⟩, HB.out.alloc hz _⟩
      · have e3 : (p.k == 3) = false := by simp [h3]
        clear h3
        go_wp2_with fail
        go_roundw
        case rel => exact ⟨k + 1, by omega, by go_num, by rw [HS.out, HC.out, e3]; rfl, HB.out.alloc hz _⟩
        case measure => simp [intOf]; omega
    · have HC : Hid (cutsB l = false) := by
        have h := hc
        rw [List.take_of_length_le (by omega)] at h
        exact h
      clear hc
      go_wp2_with fail
      go_ret
      exact ⟨-1, rfl, ⟨fun h => by omega, fun h => by rw [HC.out] at h; cases h⟩, hb⟩
set_option maxHeartbeats 400000 in
theorem cutsCo_any (a : Option Addr) (l : List Pt) (cap : Nat) (w : World) (hp : PartsAt w w.heap.size a l) :
    Calls Try.prog 48 #[.slice a l.length cap, .func (.func 49) #[] #[]] w fun e w' => e = .returned (.bool (cutsB l)) ∧ Below w.heap.size w w' := by
  have HP : Hid (PartsAt w w.heap.size a l) := hp
  clear hp
  go_enter Try.func48, Try.ntmps48
  go_wp2_with fail
  refine (cutsIx_any a l cap _ HP.out).mono ?_
  rintro e w1 ⟨r, rfl, hr, hb⟩
  have HR : Hid (decide (0 ≤ r) = cutsB l) := by
    show _ = _
    cases hc : cutsB l
    · simp only [decide_eq_false_iff_not]; intro h; rw [hr.1 h] at hc; cases hc
    · simp only [decide_eq_true_eq]; exact hr.2 hc
  have HB : Hid (Below w.heap.size w w1) := hb
  clear hr hb
  go_wp2_with fail
  go_ret
  exact ⟨ret_bool HR.out, HB.out⟩
set_option maxHeartbeats 400000 in
theorem cuts_any (a : Option Addr) (l : List Pt) (cap : Nat) (w : World) (hp : PartsAt w w.heap.size a l) :
    Calls Try.prog 23 #[.slice a l.length cap] w fun e w' => e = .returned (.bool (cutsB l)) ∧ Below w.heap.size w w' := by
  have HP : Hid (PartsAt w w.heap.size a l) := hp
  clear hp
  go_enter Try.func23, Try.ntmps23
  go_wp2_with fail
  refine (cutsCo_any a l cap _ HP.out).mono ?_
  rintro e w1 ⟨rfl, hb⟩
  have HB : Hid (Below w.heap.size w w1) := hb
  clear hb
  go_wp2_with fail
  go_ret
  exact ⟨rfl, HB.out⟩

end Go.Proofs.Ytndhamcipbecfaa
