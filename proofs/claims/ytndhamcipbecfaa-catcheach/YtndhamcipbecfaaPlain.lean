/- What the laws' plain answers: does none but the first revision cut anything? -/
import Derived.Test.YtndhamcipbecfaaCuts
import Derived.Test.YtndhamcipbecfaaRevOne
namespace Go.Proofs.Ytndhamcipbecfaa
open Go.RowKit
set_option linter.unusedSimpArgs false
set_option linter.unusedVariables false

def anyCuts (l : List Rv) : Bool := l.any (fun r => cutsB r.d)
def plainB (l : List Rv) : Bool := !anyCuts (l.drop 1)
theorem plain_no {l : List Rv} (h : plainB l = true) : ∀ r ∈ l.drop 1, ∀ p ∈ r.d, p.k ≠ 3 := by
  intro r hr
  refine cuts_no ?_
  cases hc : cutsB r.d
  · rfl
  · have : anyCuts (l.drop 1) = true := by rw [anyCuts, List.any_eq_true]; exact ⟨r, hr, hc⟩
    rw [plainB, this] at h; cases h
set_option maxHeartbeats 400000 in
theorem plain1_any (r : Rv) (a : Option Addr) (c : Nat) (w : World) (hp : PartsAt w w.heap.size a r.d) :
    Calls Try.prog 47 #[.agg #[.int .i64 r.who, .int .i64 r.seq, .slice a r.d.length c]] w fun e w' => e = .returned (.bool (cutsB r.d)) ∧ Below w.heap.size w w' := by
  have HB0 : Hid (Below w.heap.size w (w.alloc (.cells #[.int .i64 r.who, .int .i64 r.seq, .slice a r.d.length c] 40))) := (Below.refl _ w).alloc (Nat.le_refl _) _
  have HP : Hid (PartsAt w w.heap.size a r.d) := hp
  clear hp
  go_enter Try.func47, Try.ntmps47
  go_wp2_with fail
  refine (cuts_any a r.d c _ (HP.out.here HB0.out (Nat.le_refl _))).mono ?_
  rintro e w1 ⟨rfl, hb⟩
  have HB : Hid (Below w.heap.size w w1) := HB0.out.trans (hb.mono HB0.out.size)
  clear hb
  go_wp2_with fail
  go_ret
  exact ⟨rfl, HB.out⟩
set_option maxHeartbeats 1000000 in
theorem plainIx_any (a : Option Addr) (l : List Rv) (cap : Nat) (w : World) (hl : RevsAt w w.heap.size a l) :
    Calls Try.prog 70 #[.slice a l.length cap, .func (.func 47) #[] #[]] w fun e w' => ∃ r : Int, e = .returned (.int .i64 r) ∧ (0 ≤ r ↔ anyCuts l = true) ∧ Below w.heap.size w w' := by
  have hll := hl.1
  have HL : Hid (RevsAt w w.heap.size a l) := hl
  clear hl
  go_enter Try.func70, Try.ntmps70
  go_wp2_with fail
  go_loopw [8] (fun i wr => ∃ k : Nat, k ≤ l.length ∧ i = .int .i64 k ∧ anyCuts (l.take k) = false ∧ Below w.heap.size w wr) (fun i _ => l.length - (intOf i).toNat)
  case atStart => exact ⟨0, Nat.zero_le _, rfl, rfl, Below.refl _ _⟩
  case round =>
    obtain ⟨k, hk, rfl, hc, hb⟩ := hrel
    have hz := hb.size
    by_cases hlt : k < l.length
    · obtain ⟨r, hrk⟩ : ∃ r, l[k]? = some r := ⟨l[k], List.getElem?_eq_getElem hlt⟩
      have hki : (k : Int) < (l.length : Int) := by omega
      obtain ⟨b, off, ai, ci, e2, hblt, c1, c2, c3, hpd, hrm⟩ := (HL.out.below hb (Nat.le_refl _)).mem hrk
      subst e2
      have hbw : b < wr.heap.size := by omega
      have HB : Hid (Below w.heap.size w wr) := hb
      have HPD : Hid (PartsAt wr wr.heap.size ai r.d) := hpd.here (Below.refl _ _) hz
      have HS : Hid (anyCuts (l.take (k + 1)) = (anyCuts (l.take k) || cutsB r.d)) := by
        show _ = _
        have ht : l.take (k + 1) = l.take k ++ [r] := by rw [List.take_add_one, hrk]; rfl
        rw [ht]; simp [anyCuts]
      have HC : Hid (anyCuts (l.take k) = false) := hc
      have HM : Hid (r ∈ l) := List.mem_of_getElem? hrk
      clear hb hrk hc hpd hrm
      go_wp2_with fail
      refine (plain1_any r ai ci _ HPD.out).mono ?_
      rintro e w1 ⟨rfl, hb1⟩
      have HB1 : Hid (Below w.heap.size w w1) := HB.out.trans (hb1.mono hz)
      clear hb1
      cases e3 : cutsB r.d
      · go_wp2_with fail
        go_roundw
        case rel => exact ⟨k + 1, by omega, by go_num, by rw [HS.out, HC.out, e3]; rfl, HB1.out⟩
        case measure => simp [intOf]; omega
      · have HT : Hid (anyCuts l = true) := by show _ = _; rw [anyCuts, List.any_eq_true]; exact ⟨r, HM.out, e3⟩
        go_wp2_with fail
        go_ret
        exact ⟨k, rfl, ⟨fun _ => HT.out, fun _ => by omega⟩, HB1.out⟩
    · have hki : ¬ (k : Int) < (l.length : Int) := by omega
      have HC : Hid (anyCuts l = false) := by
        have h := hc
        rw [List.take_of_length_le (by omega)] at h
        exact h
      have HB : Hid (Below w.heap.size w wr) := hb
      clear hc hb
      go_wp2_with fail
      go_ret
      exact ⟨-1, rfl, ⟨fun h => by omega, fun h => by rw [HC.out] at h; cases h⟩, HB.out⟩
set_option maxHeartbeats 400000 in
theorem plainCo_any (a : Option Addr) (l : List Rv) (cap : Nat) (w : World) (hl : RevsAt w w.heap.size a l) :
    Calls Try.prog 46 #[.slice a l.length cap, .func (.func 47) #[] #[]] w fun e w' => e = .returned (.bool (anyCuts l)) ∧ Below w.heap.size w w' := by
  have HL : Hid (RevsAt w w.heap.size a l) := hl
  clear hl
  go_enter Try.func46, Try.ntmps46
  go_wp2_with fail
  refine (plainIx_any a l cap _ HL.out).mono ?_
  rintro e w1 ⟨r, rfl, hr, hb⟩
  have HR : Hid (decide (0 ≤ r) = anyCuts l) := by
    show _ = _
    cases hc : anyCuts l
    · simp only [decide_eq_false_iff_not]; intro h; rw [hr.1 h] at hc; cases hc
    · simp only [decide_eq_true_eq]; exact hr.2 hc
  have HB : Hid (Below w.heap.size w w1) := hb
  clear hr hb
  go_wp2_with fail
  go_ret
  exact ⟨ret_bool HR.out, HB.out⟩
set_option maxHeartbeats 1000000 in
theorem plain_any (a : Option Addr) (l : List Rv) (cap : Nat) (w : World) (hl : RevsAt w w.heap.size a l) (hc : l.length ≤ cap) :
    Calls Try.prog 22 #[.slice a l.length cap] w fun e w' => e = .returned (.bool (plainB l)) ∧ Below w.heap.size w w' := by
  have hll := hl.1
  by_cases h0 : l.length = 0
  · have HE : Hid (plainB l = true) := by
      show _ = _
      rw [plainB, List.drop_eq_nil_of_le (by omega)]; rfl
    have q1 : ((l.length : Int) == 0) = true := by rw [beq_iff_eq]; omega
    rw [HE.out]
    clear h0 hl
    go_enter Try.func22, Try.ntmps22
    go_wp2_with fail
    go_ret
    exact ⟨rfl, Below.refl _ _⟩
  · obtain ⟨l2, a2, hl2, hlen, hc2, hr2, hrun⟩ := run_from hl hc (show 1 ≤ l.length by omega)
    have hrun1 : ∀ w' : World, (Instr.slice 22 (.slice a l.length cap) (some (.int .i64 1)) none none).run Try.prog w' = .ok (.slice a2 l2.length (cap - 1)) w' := hrun
    have HE : Hid (plainB l = !anyCuts l2) := by show _ = _; rw [plainB, hl2]
    rw [HE.out]
    have q1 : ((l.length : Int) == 0) = false := by rw [beq_eq_false_iff_ne]; omega
    have HR : Hid (RevsAt w w.heap.size a2 l2) := hr2
    have HCo : Hid _ := fun w hh => plainCo_any a2 l2 (cap - 1) w hh
    obtain ⟨B, hB⟩ : ∃ B, anyCuts l2 = B := ⟨_, rfl⟩
    rw [hB] at HCo ⊢
    clear h0 hl hl2 hlen hc2 hr2 hrun hB
    go_enter Try.func22, Try.ntmps22
    go_wp2_with fail
    refine (HCo.out _ HR.out).mono ?_
    rintro e w1 ⟨rfl, hb⟩
    have HB : Hid (Below w.heap.size w w1) := hb
    clear hb
    go_wp2_with fail
    go_ret
    exact ⟨rfl, HB.out⟩
end Go.Proofs.Ytndhamcipbecfaa
