/- What the document's own Cost answers. -/
import Derived.Test.YtbfabahdaacpfaaLcs
import Derived.Test.YtbfabahdaacpfaaSums
namespace Go.Proofs.Ytbfabahdaacpfaa
open Go.RowKit
set_option linter.unusedSimpArgs false
set_option linter.unusedVariables false

theorem costI_snoc {l : List Pt} {k : Nat} {p : Pt} (h : l[k]? = some p) : costI (l.take (k + 1)) = costI (l.take k) + (if p.k = 1 then 0 else p.n.toNat + p.t.size) := by
  obtain ⟨h1, rfl⟩ := List.getElem?_eq_some_iff.1 h
  rw [List.take_succ_eq_append_getElem h1, costI_app]
  simp [costI]
theorem costI_bd {l : List Pt} (h : ∀ p ∈ l, 0 ≤ p.n ∧ p.n ≤ 500 ∧ p.t.size ≤ 500) : costI l ≤ 1000 * l.length := by
  induction l with
  | nil => simp [costI]
  | cons p r ih =>
    have h1 := h p (by simp)
    have h2 := ih (fun q hq => h q (List.mem_cons_of_mem _ hq))
    simp only [costI, List.length_cons]
    split <;> omega

set_option maxHeartbeats 1000000 in
theorem Cost_any (a : Option Addr) (l : List Pt) (cap : Nat) (w : World) (hp : PartsAt w w.heap.size a l) (hs : Small l) :
    Calls Try.prog 11 #[.slice a l.length cap] w fun e w' => e = .returned (.int .i64 (costI l)) ∧ Below w.heap.size w w' := by
  have hl := hs.1
  have HP : Hid (PartsAt w w.heap.size a l) := hp
  have HS : Hid (Small l) := hs
  clear hp hs
  go_enter Try.func11, Try.ntmps11
  go_wp2_with fail
  go_loopw [3, 8] (fun n i wr => ∃ k : Nat, k ≤ l.length ∧ i = .int .i64 k ∧ n = .int .i64 (costI (l.take k)) ∧ Below w.heap.size w wr) (fun _ i _ => l.length - (intOf i).toNat)
  case atStart => exact ⟨0, Nat.zero_le _, rfl, rfl, Below.refl _ _⟩
  case round =>
    obtain ⟨k, hk, rfl, rfl, hb⟩ := hrel
    have HB : Hid _ := hb
    by_cases hlt : k < l.length
    · obtain ⟨p, hpk⟩ : ∃ p, l[k]? = some p := ⟨l[k], List.getElem?_eq_getElem hlt⟩
      have Hsn : Hid _ := costI_snoc hpk
      have hbd := costI_bd (l := l.take k) (fun q hq => HS.out.2 q (List.mem_of_mem_take hq))
      rw [List.length_take] at hbd
      have hpb := HS.out.2 p (List.mem_of_getElem? hpk)
      obtain ⟨b, off, rfl, hblt, c1, c2, c3⟩ := (HP.out.below hb (Nat.le_refl _)).mem hpk
      have hz := hb.size
      clear hpk hb
      by_cases hk1 : p.k = 1
      · have e1 : (p.k != 1) = false := by simp [hk1]
        have HK : Hid (p.k = 1) := hk1
        clear hk1
        go_wp2_with fail
        go_roundw
        case rel => exact ⟨k + 1, by omega, by go_num, by rw [Hsn.out, if_pos HK.out]; rfl, HB.out.alloc hz _⟩
        case measure => simp [intOf]; omega
      · have e1 : (p.k != 1) = true := by simp [hk1]
        have HK : Hid (¬ p.k = 1) := hk1
        clear hk1
        go_wp2_with fail
        go_roundw
        case rel =>
          refine ⟨k + 1, by omega, by go_num, ?_, HB.out.alloc hz _⟩
          rw [Hsn.out, if_neg HK.out]
          congr 1
          omega
        case measure => simp [intOf]; omega
    · clear hb
      go_wp2_with fail
      go_ret
      refine ⟨?_, HB.out⟩
      show Ending.returned (.int .i64 (costI (l.take k) : Nat)) = _
      rw [List.take_of_length_le (by omega)]
end Go.Proofs.Ytbfabahdaacpfaa
