/- What the document's own road, Delta, answers: the same as package part's Check. -/
import Derived.Test.YtgffippimmokiaaPure
import Derived.Deep.QuietTactic
import Derived.BigQuiet
namespace Go.Proofs.Ytgffippimmokiaa
open Go.RowKit
set_option linter.unusedSimpArgs false
set_option linter.unusedVariables false

/-- what the document's road says of a part behind one of kind a: at the first place only what is wrong with itself -/
def clashB (a k : Int) : Bool := decide (a = k) || (decide (a = 3) && decide (k = 2))
theorem step_right {a : Int} {p : Pt} (h : clashB a p.k = false) : stepE a p = rightE p.k p.n p.t := by
  simp only [clashB, Bool.or_eq_false_iff, Bool.and_eq_false_iff, decide_eq_false_iff_not] at h
  have hf : followB a p.k = true := by
    simp only [followB, Bool.and_eq_true, decide_eq_true_eq, Bool.not_eq_true', Bool.and_eq_false_iff, decide_eq_false_iff_not]
    exact ⟨fun e => h.1 e.symm, h.2⟩
  unfold stepE rightE
  simp only [hf, Bool.and_true, Bool.and_eq_true, decide_eq_true_eq, formedB, widthI]
  by_cases h2 : p.k = 2
  · simp only [h2]
    by_cases hn : p.n = 0 <;> by_cases ht : p.t.size = 0 <;> simp [hn, ht] <;> (try omega)
  · by_cases h13 : p.k = 1 ∨ p.k = 3
    · simp only [h2, h13]
      by_cases hn : 0 < p.n
      · have : 0 ≤ p.n := by omega
        have : ¬ p.n = 0 := by omega
        by_cases ht : p.t.size = 0 <;> simp [*] <;> (try omega)
      · by_cases hz : p.n = 0
        · simp [hz]
        · have : ¬ 0 ≤ p.n := by omega
          simp [this, hn]
    · simp [h2, h13]
theorem step_clash {a : Int} {p : Pt} (h : clashB a p.k = true) : stepE a p = 3 := by
  apply step_behind
  simp only [clashB, Bool.or_eq_true, Bool.and_eq_true, decide_eq_true_eq] at h
  simp only [followB, Bool.and_eq_false_iff, decide_eq_false_iff_not, Bool.not_eq_false', Bool.and_eq_true, decide_eq_true_eq]
  rcases h with h | h
  · left; simp [h]
  · right; exact h
theorem step_first {p : Pt} : stepE 0 p = rightE p.k p.n p.t := by
  by_cases h : p.k = 0
  · have h1 : stepE 0 p = 3 := step_unformed (by simp [formedB, h])
    rw [h1]; simp [rightE, h]
  · apply step_right
    simp [clashB]; omega

theorem right_in {l : List Pt} {a : Int} (h : scanE a l = 0) : sumIn l = inI l ∧ sumOut l = outI l := by
  induction l generalizing a with
  | nil => simp [sumIn, sumOut, inI, outI]
  | cons q r ih =>
    unfold scanE at h
    split at h
    · rename_i h1
      obtain ⟨e1, e2⟩ := ih h
      unfold stepE at h1
      split at h1
      · rename_i h2
        simp only [Bool.and_eq_true, decide_eq_true_eq] at h2
        obtain ⟨⟨h2, h3⟩, h4⟩ := h2
        unfold formedB at h2
        simp only [sumIn, sumOut, inI, outI, e1, e2, widthI]
        split at h2 <;> simp only [Bool.and_eq_true, decide_eq_true_eq] at h2
        · rename_i h5
          rcases h5 with h5 | h5 <;> simp [h5, h2]
        · simp [h2]
      · omega
    · contradiction
theorem delta_sizes (l : List Pt) : deltaE l = sizesE l := by
  unfold deltaE sizesE partsE
  split
  · simp
  · split
    · rename_i h
      obtain ⟨e1, e2⟩ := right_in h
      simp [e1, e2]
    · rfl

end Go.Proofs.Ytgffippimmokiaa

/- The walk of the document's own Delta. -/
namespace Go.Proofs.Ytgffippimmokiaa
open Go.RowKit
set_option linter.unusedSimpArgs false
set_option linter.unusedVariables false

theorem ahead_succ {l : List Pt} {i : Nat} {p : Pt} (h : l[i]? = some p) : aheadI l (i + 1) = p.k := by simp [aheadI, h]

set_option maxHeartbeats 1000000 in
theorem Delta_any (a : Option Addr) (l : List Pt) (cap : Nat) (w : World) (hp : PartsAt w w.heap.size a l) :
    Calls Try.prog 111 #[.slice a l.length cap] w fun e w' => e = .returned (.int .i64 (sizesE l)) ∧ Below w.heap.size w w' := by
  have hl := hp.1
  have HD : Hid (deltaE l = sizesE l) := delta_sizes l
  by_cases hbig : 1600 < l.length
  · have Hpe : Hid (2 = sizesE l) := by show 2 = sizesE l; rw [← HD.out]; simp [deltaE, hbig]
    go_enter Try.func111, Try.ntmps111
    go_wp2
    go_ret
    exact ⟨ret_int Hpe.out, Below.refl _ _⟩
  · have HDE : Hid (sizesE l = if scanE 0 l = 0 then (if 500 < inI l ∨ 500 < outI l then 2 else 0) else scanE 0 l) := by show sizesE l = _; rw [← HD.out]; simp [deltaE, hbig]
    have HP0 : Hid (PartsAt w w.heap.size a l) := hp
    clear HD
    go_enter Try.func111, Try.ntmps111
    go_wp2
    go_loopw [11] (fun i wr => ∃ k : Nat, k ≤ l.length ∧ i = .int .i64 k ∧ scanE (aheadI l k) (l.drop k) = scanE 0 l ∧ Below w.heap.size w wr) (fun i _ => l.length - (intOf i).toNat)
    case atStart => exact ⟨0, Nat.zero_le _, rfl, rfl, Below.refl _ _⟩
    case round =>
      obtain ⟨k, hk, rfl, hsc, hb⟩ := hrel
      by_cases hlt : k < l.length
      · obtain ⟨p, hpk⟩ : ∃ p, l[k]? = some p := ⟨l[k], List.getElem?_eq_getElem hlt⟩
        have hpb := hp.2.2.1 p (List.mem_of_getElem? hpk)
        obtain ⟨hpb1, hpb2, hpb3, hpb4, hpb5⟩ := hpb
        have Hstop : Hid _ := scan_stop hpk hsc
        have Hon : Hid _ := scan_on hpk hsc
        have Hah : Hid _ := ahead_succ hpk
        have hpw := hp.below hb (Nat.le_refl _)
        obtain ⟨b, off, rfl, hblt, c1, c2, c3⟩ := hpw.mem hpk
        have HB : Hid _ := hb
        have hz := hb.size
        by_cases hk0 : k = 0
        · have hg : decide (0 < k) = false := by simp; omega
          have HR : Hid (stepE (aheadI l k) p = rightE p.k p.n p.t) := by rw [hk0]; exact step_first
          clear hp hpk hb hsc hpw hk0
          go_wp2_with fail
          go_quiet (fail)
          go_wp2_with fail
          refine (right_any p.k p.n p.t _ (by omega)).mono ?_
          rintro e w1 ⟨rfl, hb1⟩
          have HB1 : Hid (Below w.heap.size w w1) := (below_drewN (HB.out.alloc hz _) _).trans (hb1.mono (by simp; omega))
          clear hb1
          by_cases hr : rightE p.k p.n p.t = 0
          · have hr' : (rightE p.k p.n p.t != 0) = false := by simp [hr]
            have HR0 : Hid (rightE p.k p.n p.t = 0) := hr
            clear hr
            go_wp2_with fail
            go_roundw
            case rel => exact ⟨k + 1, by omega, by go_num, by rw [Hah.out]; exact Hon.out (HR.out.trans HR0.out), HB1.out⟩
            case measure => simp [intOf]; omega
          · have hr' : (rightE p.k p.n p.t != 0) = true := by simp [hr]
            have HR0 : Hid (rightE p.k p.n p.t ≠ 0) := hr
            clear hr
            go_wp2_with fail
            go_ret
            exact ⟨ret_int (by
              have h1 := Hstop.out (by rw [HR.out]; exact HR0.out)
              rw [HR.out] at h1
              rw [HDE.out, ← h1, if_neg HR0.out]), HB1.out⟩
        · have hg : (0 : Int) < (k : Int) := by omega
          obtain ⟨j, rfl⟩ : ∃ j, k = j + 1 := ⟨k - 1, by omega⟩
          obtain ⟨q, hqk⟩ : ∃ q, l[j]? = some q := ⟨l[j], List.getElem?_eq_getElem (by omega)⟩
          have hwj : IntKind.i64.wrap (j : Int) = j := IntWalk.i64_in _ (by omega)
          have hjl : (j : Int) < (l.length : Int) := by omega
          have Hq : Hid (aheadI l (j + 1) = q.k) := ahead_succ hqk
          obtain ⟨b', off', heq, hblt', d1, d2, d3⟩ := hpw.mem hqk
          simp only [Option.some.injEq, Addr.mk.injEq, and_true] at heq
          obtain ⟨rfl, rfl⟩ := heq
          have hbw : b < wr.heap.size := by omega
          have hbn : ¬ b = wr.heap.size := by omega
          clear hp hpk hb hsc hpw hqk
          cases hc1 : (q.k == p.k)
          · cases hc2 : (q.k == 3)
            · have HR : Hid (stepE (aheadI l (j + 1)) p = rightE p.k p.n p.t) := by
                rw [Hq.out]; apply step_right; simp only [beq_eq_false_iff_ne] at hc1 hc2; simp [clashB, hc1, hc2]
              go_wp2_with fail
              go_quiet (fail)
              go_wp2_with fail
              refine (right_any p.k p.n p.t _ (by omega)).mono ?_
              rintro e w1 ⟨rfl, hb1⟩
              have HB1 : Hid (Below w.heap.size w w1) := (below_drewN (HB.out.alloc hz _) _).trans (hb1.mono (by simp; omega))
              clear hb1
              by_cases hr : rightE p.k p.n p.t = 0
              · have hr' : (rightE p.k p.n p.t != 0) = false := by simp [hr]
                have HR0 : Hid (rightE p.k p.n p.t = 0) := hr
                clear hr
                go_wp2_with fail
                go_roundw
                case rel => exact ⟨(j + 1) + 1, by omega, by go_num, by rw [Hah.out]; exact Hon.out (HR.out.trans HR0.out), HB1.out⟩
                case measure => simp [intOf]; omega
              · have hr' : (rightE p.k p.n p.t != 0) = true := by simp [hr]
                have HR0 : Hid (rightE p.k p.n p.t ≠ 0) := hr
                clear hr
                go_wp2_with fail
                go_ret
                exact ⟨ret_int (by
                  have h1 := Hstop.out (by rw [HR.out]; exact HR0.out)
                  rw [HR.out] at h1
                  rw [HDE.out, ← h1, if_neg HR0.out]), HB1.out⟩
            · cases hc3 : (p.k == 2)
              · have HR : Hid (stepE (aheadI l (j + 1)) p = rightE p.k p.n p.t) := by
                  rw [Hq.out]; apply step_right; simp only [beq_eq_false_iff_ne] at hc1 hc3; simp [clashB, hc1, hc3]
                go_wp2_with fail
                go_quiet (fail)
                go_wp2_with fail
                refine (right_any p.k p.n p.t _ (by omega)).mono ?_
                rintro e w1 ⟨rfl, hb1⟩
                have HB1 : Hid (Below w.heap.size w w1) := (below_drewN (HB.out.alloc hz _) _).trans (hb1.mono (by simp; omega))
                clear hb1
                by_cases hr : rightE p.k p.n p.t = 0
                · have hr' : (rightE p.k p.n p.t != 0) = false := by simp [hr]
                  have HR0 : Hid (rightE p.k p.n p.t = 0) := hr
                  clear hr
                  go_wp2_with fail
                  go_roundw
                  case rel => exact ⟨(j + 1) + 1, by omega, by go_num, by rw [Hah.out]; exact Hon.out (HR.out.trans HR0.out), HB1.out⟩
                  case measure => simp [intOf]; omega
                · have hr' : (rightE p.k p.n p.t != 0) = true := by simp [hr]
                  have HR0 : Hid (rightE p.k p.n p.t ≠ 0) := hr
                  clear hr
                  go_wp2_with fail
                  go_ret
                  exact ⟨ret_int (by
                    have h1 := Hstop.out (by rw [HR.out]; exact HR0.out)
                    rw [HR.out] at h1
                    rw [HDE.out, ← h1, if_neg HR0.out]), HB1.out⟩
              · have HR : Hid (stepE (aheadI l (j + 1)) p = 3) := by
                  rw [Hq.out]; apply step_clash; simp only [beq_iff_eq] at hc2 hc3; simp [clashB, hc2, hc3]
                go_wp2_with fail
                go_quiet (fail)
                go_wp2_with fail
                go_ret
                exact ⟨ret_int (by
                  have h1 := Hstop.out (by rw [HR.out]; omega)
                  rw [HR.out] at h1
                  rw [HDE.out, ← h1, if_neg (by omega)]), below_drewN (HB.out.alloc hz _) _⟩
          · have HR : Hid (stepE (aheadI l (j + 1)) p = 3) := by
              rw [Hq.out]; apply step_clash; simp only [beq_iff_eq] at hc1; simp [clashB, hc1]
            go_wp2_with fail
            go_quiet (fail)
            go_wp2_with fail
            go_ret
            exact ⟨ret_int (by
              have h1 := Hstop.out (by rw [HR.out]; omega)
              rw [HR.out] at h1
              rw [HDE.out, ← h1, if_neg (by omega)]), below_drewN (HB.out.alloc hz _) _⟩
      · have hnil : l.drop k = [] := List.drop_eq_nil_of_le (by omega)
        rw [hnil] at hsc
        have hsc' : scanE 0 l = 0 := hsc.symm
        have hsm : Small l := ⟨by omega, scan_small hsc'⟩
        have HSM : Hid (Small l) := hsm
        have b1 := inI_bd hsm.2
        have b2 := outI_bd hsm.2
        have HDE2 : Hid (sizesE l = if 500 < inI l ∨ 500 < outI l then 2 else 0) := by show _ = _; rw [HDE.out, if_pos hsc']
        have HPr : Hid (PartsAt wr wr.heap.size a l) := HP0.out.here hb (Nat.le_refl _)
        have HB : Hid (Below w.heap.size w wr) := hb
        clear hsc hsc' hnil hsm hp hb
        go_wp2_with fail
        refine (In_any a l cap _ HPr.out HSM.out).mono ?_
        rintro e w1 ⟨rfl, hb1⟩
        have HB1 : Hid (Below w.heap.size w w1) := HB.out.trans (hb1.mono HB.out.size)
        have HP1 : Hid (PartsAt w1 w1.heap.size a l) := HPr.out.here hb1 (Nat.le_refl _)
        clear hb1
        by_cases hi : 500 < inI l
        · go_wp2_with fail
          go_ret
          exact ⟨ret_int (by rw [HDE2.out, if_pos (Or.inl hi)]), HB1.out⟩
        · go_wp2_with fail
          refine (Out_any a l cap _ HP1.out HSM.out).mono ?_
          rintro e w2 ⟨rfl, hb2⟩
          have HB2 : Hid (Below w.heap.size w w2) := HB1.out.trans (hb2.mono HB1.out.size)
          clear hb2
          by_cases ho : 500 < outI l
          · go_wp2_with fail
            go_ret
            exact ⟨ret_int (by rw [HDE2.out, if_pos (Or.inr ho)]), HB2.out⟩
          · go_wp2_with fail
            go_ret
            exact ⟨ret_int (by rw [HDE2.out, if_neg (by omega)]), HB2.out⟩

end Go.Proofs.Ytgffippimmokiaa

/- The law PartChecks, walked: it answers true. -/
namespace Go.Proofs.Ytgffippimmokiaa
open Go.RowKit
set_option linter.unusedSimpArgs false
set_option linter.unusedVariables false

theorem sizes_zero {l : List Pt} (h : sizesE l = 0) : Small l ∧ sizesIn l = inI l ∧ sizesOut l = outI l := by
  have h0 : partsE l = 0 := by
    unfold sizesE at h
    split at h
    · assumption
    · contradiction
  have hs : scanE 0 l = 0 := by
    unfold partsE at h0
    split at h0
    · omega
    · exact h0
  obtain ⟨e1, e2⟩ := right_in hs
  exact ⟨parts_small h0, by simp [sizesIn, h, e1], by simp [sizesOut, h, e2]⟩


end Go.Proofs.Ytgffippimmokiaa

/- What Fits answers, in package apply and on the document's road, and what a delta does to a text, as a function on lists of bytes. -/
namespace Go.Proofs.Ytgffippimmokiaa
open Go.RowKit
set_option linter.unusedSimpArgs false
set_option linter.unusedVariables false

def fitsE (l : List Pt) (n : Int) : Int := if sizesE l = 0 then (if inI l = n then 0 else 4) else sizesE l

theorem fits_zero {l : List Pt} {n : Int} (h : fitsE l n = 0) : sizesE l = 0 ∧ inI l = n := by
  unfold fitsE at h
  split at h
  · rename_i h0
    split at h
    · exact ⟨h0, by assumption⟩
    · omega
  · contradiction

/-- what a delta makes of a text -/
def doL : List Pt → List UInt8 → List UInt8
  | [], _ => []
  | p :: r, s => if p.k = 1 then s.take p.n.toNat ++ doL r (s.drop p.n.toNat) else if p.k = 2 then p.t.data.toList ++ doL r s else doL r (s.drop p.n.toNat)

def Right (l : List Pt) : Prop := ∀ p ∈ l, (p.k = 1 ∨ p.k = 2 ∨ p.k = 3) ∧ (p.k = 2 → p.n = 0) ∧ (p.k ≠ 2 → p.t.size = 0 ∧ 0 < p.n) ∧ (p.k = 2 → p.t.size ≠ 0)

theorem scan_right {a : Int} {l : List Pt} (h : scanE a l = 0) : Right l := by
  induction l generalizing a with
  | nil => simp [Right]
  | cons q r ih =>
    unfold scanE at h
    split at h
    · rename_i h1
      intro p hp
      rcases List.mem_cons.1 hp with rfl | hp
      · unfold stepE at h1
        split at h1
        · rename_i h2
          simp only [Bool.and_eq_true, decide_eq_true_eq] at h2
          obtain ⟨⟨h2, h3⟩, h4⟩ := h2
          unfold formedB at h2
          unfold widthI at h3
          split at h2 <;> simp only [Bool.and_eq_true, decide_eq_true_eq] at h2 <;> split at h3 <;> omega
        · omega
      · exact ih h p hp
    · contradiction
theorem sizes_right {l : List Pt} (h : sizesE l = 0) : Right l := by
  have h0 : partsE l = 0 := by
    unfold sizesE at h
    split at h
    · assumption
    · contradiction
  unfold partsE at h0
  split at h0
  · omega
  · exact scan_right h0

set_option maxHeartbeats 400000 in
theorem Fits_any (a : Option Addr) (l : List Pt) (cap : Nat) (n : Int) (w : World) (hp : PartsAt w w.heap.size a l) :
    Calls Try.prog 77 #[.slice a l.length cap, .int .i64 n] w fun e w' => e = .returned (.int .i64 (fitsE l n)) ∧ Below w.heap.size w w' := by
  have HP : Hid (PartsAt w w.heap.size a l) := hp
  clear hp
  go_enter Try.func77, Try.ntmps77
  go_wp2_with fail
  refine (Sizes_any a l cap _ HP.out).mono ?_
  rintro e w1 ⟨rfl, hb1⟩
  by_cases h0 : sizesE l = 0
  · have e1 := (sizes_zero h0).2.1
    have h0' : (sizesE l != 0) = false := by simp [h0]
    by_cases hn : inI l = n
    · have hn' : (sizesIn l != n) = false := by simp [e1, hn]
      have HF : Hid (fitsE l n = 0) := by show _ = _; simp [fitsE, h0, hn]
      clear h0 e1 hn
      go_wp2_with fail
      go_ret
      exact ⟨ret_int HF.out.symm, hb1⟩
    · have hn' : (sizesIn l != n) = true := by simp [e1, hn]
      have HF : Hid (fitsE l n = 4) := by show _ = _; simp [fitsE, h0, hn]
      clear h0 e1 hn
      go_wp2_with fail
      go_ret
      exact ⟨ret_int HF.out.symm, hb1⟩
  · have h0' : (sizesE l != 0) = true := by simp [h0]
    have HF : Hid (fitsE l n = sizesE l) := by show _ = _; simp [fitsE, h0]
    clear h0
    go_wp2_with fail
    go_ret
    exact ⟨ret_int HF.out.symm, hb1⟩

set_option maxHeartbeats 400000 in
theorem RFits_any (a : Option Addr) (l : List Pt) (cap : Nat) (n : Int) (w : World) (hp : PartsAt w w.heap.size a l) :
    Calls Try.prog 113 #[.slice a l.length cap, .int .i64 n] w fun e w' => e = .returned (.int .i64 (fitsE l n)) ∧ Below w.heap.size w w' := by
  have HP : Hid (PartsAt w w.heap.size a l) := hp
  clear hp
  go_enter Try.func113, Try.ntmps113
  go_wp2_with fail
  refine (Delta_any a l cap _ HP.out).mono ?_
  rintro e w1 ⟨rfl, hb1⟩
  by_cases h0 : sizesE l = 0
  · have HS : Hid (Small l) := (sizes_zero h0).1
    have h0' : (sizesE l != 0) = false := by simp [h0]
    have HP1 : Hid (PartsAt w1 w1.heap.size a l) := HP.out.here hb1 (Nat.le_refl _)
    have HB1 : Hid (Below w.heap.size w w1) := hb1
    have HF : Hid (fitsE l n = if inI l = n then 0 else 4) := by show _ = _; simp [fitsE, h0]
    clear h0 hb1
    go_wp2_with fail
    refine (In_any a l cap _ HP1.out HS.out).mono ?_
    rintro e w2 ⟨rfl, hb2⟩
    have HB2 : Hid (Below w.heap.size w w2) := HB1.out.trans (hb2.mono HB1.out.size)
    clear hb2
    by_cases hn : inI l = n
    · have hn' : (inI l != n) = false := by simp [hn]
      have HN : Hid _ := hn
      clear hn
      go_wp2_with fail
      go_ret
      exact ⟨ret_int (by rw [HF.out, if_pos HN.out]), HB2.out⟩
    · have hn' : (inI l != n) = true := by simp [hn]
      have HN : Hid _ := hn
      clear hn
      go_wp2_with fail
      go_ret
      exact ⟨ret_int (by rw [HF.out, if_neg HN.out]), HB2.out⟩
  · have h0' : (sizesE l != 0) = true := by simp [h0]
    have HF : Hid (fitsE l n = sizesE l) := by show _ = _; simp [fitsE, h0]
    clear h0
    go_wp2_with fail
    go_ret
    exact ⟨ret_int HF.out.symm, hb1⟩

end Go.Proofs.Ytgffippimmokiaa
