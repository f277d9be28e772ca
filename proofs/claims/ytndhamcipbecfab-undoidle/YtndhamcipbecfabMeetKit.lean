/- What the laws on two deltas of one text and on places ask, in the form in which the walks meet it. -/
import Derived.Test.YtndhamcipbecfabLawKit
import Derived.Test.YtndhamcipbecfabMeetOf
namespace Go.Proofs.Ytndhamcipbecfab
open Go.RowKit
set_option linter.unusedSimpArgs false
set_option linter.unusedVariables false

theorem meet_n {la lb x y : List Pt} (h : meetE la lb = 0 ∧ meetL la lb = x ∧ meetR la lb = y) (a b : Option Addr) (ca cb : Nat) (w : World) (ha : PartsAt w w.heap.size a la) (hb : PartsAt w w.heap.size b lb) (n m k l : Nat) (hn : la.length = n) (hm : lb.length = m) (hk : x.length = k) (hl : y.length = l) :
    Calls Try.prog 25 #[.slice a n ca, .slice b m cb] w fun e w' => ∃ x' cx y' cy, e = .returned (.tuple #[.slice x' k cx, .slice y' l cy, .int .i64 0]) ∧ PartsAt w' w'.heap.size x' x ∧ Room x' x cx ∧ PartsAt w' w'.heap.size y' y ∧ Room y' y cy ∧ Below w.heap.size w w' := by
  subst hn hm hk hl
  have h1 := MeetOf_any a b la lb ca cb w ha hb
  rw [h.1, h.2.1, h.2.2] at h1
  exact h1
theorem same_n {la : List Pt} (a b : Option Addr) (ca cb : Nat) (w : World) (ha : PartsAt w w.heap.size a la) (hb : PartsAt w w.heap.size b la) (n : Nat) (hn : la.length = n) :
    Calls Try.prog 7 #[.slice a n ca, .slice b n cb] w fun e w' => e = .returned (.bool true) ∧ Below w.heap.size w w' := by
  subst hn
  exact Same_yes a b la ca cb w ha hb
theorem same_by {la lb : List Pt} (h : la = lb) (a b : Option Addr) (ca cb : Nat) (w : World) (ha : PartsAt w w.heap.size a la) (hb : PartsAt w w.heap.size b lb) :
    Calls Try.prog 7 #[.slice a la.length ca, .slice b lb.length cb] w fun e w' => e = .returned (.bool true) ∧ Below w.heap.size w w' := by
  subst h
  exact Same_yes a b la ca cb w ha hb
set_option maxHeartbeats 400000 in
theorem Within_any (k : Int) (m : Nat) (w : World) (hm : 0 < m) (h5 : m ≤ 9223372036854775807) :
    Calls Try.prog 15 #[.int .i64 k, .int .i64 m] w fun e w' => ∃ r : Nat, e = .returned (.int .i64 r) ∧ r < m ∧ w' = w := by
  go_enter Try.func15, Try.ntmps15
  have hx0 : 0 ≤ (IntKind.u64.wrap k).tmod (m : Int) := Int.tmod_nonneg _ (by rw [IntKind.wrap_u64]; omega)
  have hx1 : (IntKind.u64.wrap k).tmod (m : Int) < m := Int.tmod_lt_of_pos _ (by omega)
  have hx2 : wrap64 ((IntKind.u64.wrap k).tmod (m : Int)) = (IntKind.u64.wrap k).tmod (m : Int) := IntWalk.wrap64_in _ ⟨by omega, by omega⟩
  have HX : Hid (0 ≤ (IntKind.u64.wrap k).tmod (m : Int) ∧ (IntKind.u64.wrap k).tmod (m : Int) < m ∧ wrap64 ((IntKind.u64.wrap k).tmod (m : Int)) = (IntKind.u64.wrap k).tmod (m : Int)) := ⟨hx0, hx1, hx2⟩
  clear hx0 hx1 hx2
  go_wp2
  go_ret
  obtain ⟨h0, h1, h2⟩ := HX.out
  exact ⟨((IntKind.u64.wrap k).tmod (m : Int)).toNat, ret_int (by rw [h2]; omega), by omega, rfl⟩

theorem litMab : meetE [putP ⟨#[97]⟩] [putP ⟨#[98]⟩] = 0 ∧ meetL [putP ⟨#[97]⟩] [putP ⟨#[98]⟩] = [putP ⟨#[97]⟩, keepP 1] ∧ meetR [putP ⟨#[97]⟩] [putP ⟨#[98]⟩] = [keepP 1, putP ⟨#[98]⟩] :=
  meet_lit (by decide) (by decide) (by decide) (by decide) (Mt.pa 97 (Mt.pb 98 trivial Mt.nil))
theorem litMcc : meetE [cutP 2] [keepP 1, cutP 1] = 0 ∧ meetL [cutP 2] [keepP 1, cutP 1] = [cutP 1] ∧ meetR [cutP 2] [keepP 1, cutP 1] = [] :=
  meet_lit (by decide) (by decide) (by decide) (by decide) (Mt.xk (Mt.xx Mt.nil))
theorem all_zeroM : allL 0 = [] := by simp [allL]
theorem all_oneM : allL 1 = [keepP 1] := by simp [allL, keepP]
theorem litMa0 : meetE [putP ⟨#[97]⟩] (allL 0) = 0 ∧ meetL [putP ⟨#[97]⟩] (allL 0) = [putP ⟨#[97]⟩] ∧ meetR [putP ⟨#[97]⟩] (allL 0) = allL 1 := by
  rw [all_zeroM, all_oneM]
  exact meet_lit (by decide) (by decide) (by decide) (by decide) (Mt.pa 97 Mt.nil)
end Go.Proofs.Ytndhamcipbecfab
