/- What package part's Sizes and Check answer. -/
import Derived.Test.YtjfeaedjifpahaaCheckParts
namespace Go.Proofs.Ytjfeaedjifpahaa
open Go.RowKit
set_option linter.unusedSimpArgs false
set_option linter.unusedVariables false

/-- the error of Sizes, and what it tells -/
def sizesE (l : List Pt) : Int := if partsE l = 0 then (if 500 < sumIn l ∨ 500 < sumOut l then 2 else 0) else partsE l
def sizesIn (l : List Pt) : Int := if sizesE l = 0 then sumIn l else 0
def sizesOut (l : List Pt) : Int := if sizesE l = 0 then sumOut l else 0

theorem step_small {a : Int} {p : Pt} (h : stepE a p = 0) : 0 ≤ p.n ∧ p.n ≤ 500 ∧ p.t.size ≤ 500 := by
  unfold stepE at h
  split at h
  · rename_i h1
    simp only [Bool.and_eq_true, decide_eq_true_eq] at h1
    obtain ⟨⟨h1, h2⟩, h3⟩ := h1
    unfold formedB at h1
    split at h
    · omega
    · rename_i h5
      unfold widthI at h5
      split at h1 <;> simp only [Bool.and_eq_true, decide_eq_true_eq] at h1 <;> split at h5 <;> omega
  · omega
theorem scan_small {a : Int} {l : List Pt} (h : scanE a l = 0) : ∀ p ∈ l, 0 ≤ p.n ∧ p.n ≤ 500 ∧ p.t.size ≤ 500 := by
  induction l generalizing a with
  | nil => simp
  | cons q r ih =>
    unfold scanE at h
    split at h
    · rename_i h1
      intro p hp
      rcases List.mem_cons.1 hp with rfl | hp
      · exact step_small h1
      · exact ih h p hp
    · contradiction
theorem parts_small {l : List Pt} (h : partsE l = 0) : Small l := by
  unfold partsE at h
  split at h
  · omega
  · exact ⟨by omega, scan_small h⟩

set_option maxHeartbeats 1000000 in
theorem Sizes_any (a : Option Addr) (l : List Pt) (cap : Nat) (w : World) (hp : PartsAt w w.heap.size a l) :
    Calls Try.prog 42 #[.slice a l.length cap] w fun e w' => e = .returned (.tuple #[.int .i64 (sizesIn l), .int .i64 (sizesOut l), .int .i64 (sizesE l)]) ∧ Below w.heap.size w w' := by
  have HP : Hid (PartsAt w w.heap.size a l) := hp
  clear hp
  go_enter Try.func42, Try.ntmps42
  go_wp2_with fail
  refine (checkParts_any a l cap _ HP.out).mono ?_
  rintro e w1 ⟨rfl, hb1⟩
  by_cases h0 : partsE l = 0
  · have hs := parts_small h0
    have h0' : (partsE l != 0) = false := by simp [h0]
    have HP1 : Hid (PartsAt w1 w1.heap.size a l) := HP.out.here hb1 (Nat.le_refl _)
    have HS : Hid (Small l) := hs
    have H0 : Hid _ := h0
    have HB1 : Hid (Below w.heap.size w w1) := hb1
    have b1 := sumIn_bd hs.2
    have b2 := sumOut_bd hs.2
    have hl := hs.1
    have HSE : Hid (sizesE l = if 500 < sumIn l ∨ 500 < sumOut l then 2 else 0) := by show sizesE l = _; simp [sizesE, h0]
    clear hs h0 hb1
    go_wp2_with fail
    refine (sums_any a l cap _ HP1.out HS.out).mono ?_
    rintro e w2 ⟨rfl, hb2⟩
    have HB2 : Hid (Below w.heap.size w w2) := HB1.out.trans (hb2.mono HB1.out.size)
    clear hb2
    by_cases hi : 500 < sumIn l
    · have HE : Hid (sizesE l = 2) := by show _ = _; rw [HSE.out]; simp [hi]
      go_wp2_with fail
      go_ret3
      exact ⟨by simp [sizesIn, sizesOut, HE.out], HB2.out⟩
    · by_cases ho : 500 < sumOut l
      · have HE : Hid (sizesE l = 2) := by show _ = _; rw [HSE.out]; simp [ho]
        go_wp2_with fail
        go_ret3
        exact ⟨by simp [sizesIn, sizesOut, HE.out], HB2.out⟩
      · have HE : Hid (sizesE l = 0) := by show _ = _; rw [HSE.out]; simp [hi, ho]
        go_wp2_with fail
        go_ret3
        exact ⟨by simp [sizesIn, sizesOut, HE.out], HB2.out⟩
  · have h0' : (partsE l != 0) = true := by simp [h0]
    have HE : Hid (sizesE l = partsE l ∧ partsE l ≠ 0) := ⟨by simp [sizesE, h0], h0⟩
    clear h0
    go_wp2_with fail
    go_ret3
    exact ⟨by simp [sizesIn, sizesOut, HE.out], hb1⟩

set_option maxHeartbeats 400000 in
theorem Check_any (a : Option Addr) (l : List Pt) (cap : Nat) (w : World) (hp : PartsAt w w.heap.size a l) :
    Calls Try.prog 25 #[.slice a l.length cap] w fun e w' => e = .returned (.int .i64 (sizesE l)) ∧ Below w.heap.size w w' := by
  have HP : Hid (PartsAt w w.heap.size a l) := hp
  clear hp
  go_enter Try.func25, Try.ntmps25
  go_wp2_with fail
  refine (Sizes_any a l cap _ HP.out).mono ?_
  rintro e w1 ⟨rfl, hb1⟩
  go_wp2_with fail
  go_ret
  exact ⟨rfl, hb1⟩

end Go.Proofs.Ytjfeaedjifpahaa
