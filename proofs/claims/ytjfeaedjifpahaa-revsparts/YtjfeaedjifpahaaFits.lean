/- What Fits answers, in package apply and on the document's road, and what a delta does to a text, as a function on lists of bytes. -/
import Derived.Test.YtjfeaedjifpahaaPartChecksWalk
namespace Go.Proofs.Ytjfeaedjifpahaa
open Go.RowKit
set_option linter.unusedSimpArgs false
set_option linter.unusedVariables false

def fitsE (l : List Pt) (n : Int) : Int := if sizesE l = 0 then (if inI l = n then 0 else 4) else sizesE l

theorem fits_zero {l : List Pt} {n : Int} (h : fitsE l n = 0) : sizesE l = 0 ∧ inI l = n := by
  unfold fitsE at h
  split at h
  · rename_i h0
    split at h
    · exact ⟨h0, by assumption⟩
    · omega
  · contradiction

/-- what a delta makes of a text -/
def doL : List Pt → List UInt8 → List UInt8
  | [], _ => []
  | p :: r, s => if p.k = 1 then s.take p.n.toNat ++ doL r (s.drop p.n.toNat) else if p.k = 2 then p.t.data.toList ++ doL r s else doL r (s.drop p.n.toNat)

def Right (l : List Pt) : Prop := ∀ p ∈ l, (p.k = 1 ∨ p.k = 2 ∨ p.k = 3) ∧ (p.k = 2 → p.n = 0) ∧ (p.k ≠ 2 → p.t.size = 0 ∧ 0 < p.n) ∧ (p.k = 2 → p.t.size ≠ 0)

theorem scan_right {a : Int} {l : List Pt} (h : scanE a l = 0) : Right l := by
  induction l generalizing a with
  | nil => simp [Right]
  | cons q r ih =>
    unfold scanE at h
    split at h
    · rename_i h1
      intro p hp
      rcases List.mem_cons.1 hp with rfl | hp
      · unfold stepE at h1
        split at h1
        · rename_i h2
          simp only [Bool.and_eq_true, decide_eq_true_eq] at h2
          obtain ⟨⟨h2, h3⟩, h4⟩ := h2
          unfold formedB at h2
          unfold widthI at h3
          split at h2 <;> simp only [Bool.and_eq_true, decide_eq_true_eq] at h2 <;> split at h3 <;> omega
        · omega
      · exact ih h p hp
    · contradiction
theorem sizes_right {l : List Pt} (h : sizesE l = 0) : Right l := by
  have h0 : partsE l = 0 := by
    unfold sizesE at h
    split at h
    · assumption
    · contradiction
  unfold partsE at h0
  split at h0
  · omega
  · exact scan_right h0

set_option maxHeartbeats 400000 in
theorem Fits_any (a : Option Addr) (l : List Pt) (cap : Nat) (n : Int) (w : World) (hp : PartsAt w w.heap.size a l) :
    Calls Try.prog 28 #[.slice a l.length cap, .int .i64 n] w fun e w' => e = .returned (.int .i64 (fitsE l n)) ∧ Below w.heap.size w w' := by
  have HP : Hid (PartsAt w w.heap.size a l) := hp
  clear hp
  go_enter Try.func28, Try.ntmps28
  go_wp2_with fail
  refine (Sizes_any a l cap _ HP.out).mono ?_
  rintro e w1 ⟨rfl, hb1⟩
  by_cases h0 : sizesE l = 0
  · have e1 := (sizes_zero h0).2.1
    have h0' : (sizesE l != 0) = false := by simp [h0]
    by_cases hn : inI l = n
    · have hn' : (sizesIn l != n) = false := by simp [e1, hn]
      have HF : Hid (fitsE l n = 0) := by show _ = _; simp [fitsE, h0, hn]
      clear h0 e1 hn
      go_wp2_with fail
      go_ret
      exact ⟨ret_int HF.out.symm, hb1⟩
    · have hn' : (sizesIn l != n) = true := by simp [e1, hn]
      have HF : Hid (fitsE l n = 4) := by show _ = _; simp [fitsE, h0, hn]
      clear h0 e1 hn
      go_wp2_with fail
      go_ret
      exact ⟨ret_int HF.out.symm, hb1⟩
  · have h0' : (sizesE l != 0) = true := by simp [h0]
    have HF : Hid (fitsE l n = sizesE l) := by show _ = _; simp [fitsE, h0]
    clear h0
    go_wp2_with fail
    go_ret
    exact ⟨ret_int HF.out.symm, hb1⟩

set_option maxHeartbeats 400000 in
theorem RFits_any (a : Option Addr) (l : List Pt) (cap : Nat) (n : Int) (w : World) (hp : PartsAt w w.heap.size a l) :
    Calls Try.prog 49 #[.slice a l.length cap, .int .i64 n] w fun e w' => e = .returned (.int .i64 (fitsE l n)) ∧ Below w.heap.size w w' := by
  have HP : Hid (PartsAt w w.heap.size a l) := hp
  clear hp
  go_enter Try.func49, Try.ntmps49
  go_wp2_with fail
  refine (Delta_any a l cap _ HP.out).mono ?_
  rintro e w1 ⟨rfl, hb1⟩
  by_cases h0 : sizesE l = 0
  · have HS : Hid (Small l) := (sizes_zero h0).1
    have h0' : (sizesE l != 0) = false := by simp [h0]
    have HP1 : Hid (PartsAt w1 w1.heap.size a l) := HP.out.here hb1 (Nat.le_refl _)
    have HB1 : Hid (Below w.heap.size w w1) := hb1
    have HF : Hid (fitsE l n = if inI l = n then 0 else 4) := by show _ = _; simp [fitsE, h0]
    clear h0 hb1
    go_wp2_with fail
    refine (In_any a l cap _ HP1.out HS.out).mono ?_
    rintro e w2 ⟨rfl, hb2⟩
    have HB2 : Hid (Below w.heap.size w w2) := HB1.out.trans (hb2.mono HB1.out.size)
    clear hb2
    by_cases hn : inI l = n
    · have hn' : (inI l != n) = false := by simp [hn]
      have HN : Hid _ := hn
      clear hn
      go_wp2_with fail
      go_ret
      exact ⟨ret_int (by rw [HF.out, if_pos HN.out]), HB2.out⟩
    · have hn' : (inI l != n) = true := by simp [hn]
      have HN : Hid _ := hn
      clear hn
      go_wp2_with fail
      go_ret
      exact ⟨ret_int (by rw [HF.out, if_neg HN.out]), HB2.out⟩
  · have h0' : (sizesE l != 0) = true := by simp [h0]
    have HF : Hid (fitsE l n = sizesE l) := by show _ = _; simp [fitsE, h0]
    clear h0
    go_wp2_with fail
    go_ret
    exact ⟨ret_int HF.out.symm, hb1⟩

end Go.Proofs.Ytjfeaedjifpahaa
