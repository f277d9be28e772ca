/- What checkLoose and the document's own look at loose parts answer; and Norm. -/
import Derived.Test.YtkihanmodfnpcaaGatherWalk
import Derived.Test.YtkihanmodfnpcaaPure
namespace Go.Proofs.Ytkihanmodfnpcaa
open Go.RowKit
set_option linter.unusedSimpArgs false
set_option linter.unusedVariables false

def looseP (p : Pt) : Int := if formedB p.k p.n p.t = true then (if 500 < widthI p.k p.n p.t then 2 else 0) else 3
def looseS : List Pt → Int
  | [] => 0
  | p :: r => if looseP p = 0 then looseS r else looseP p
def looseE (l : List Pt) : Int := if 1600 < l.length then 2 else looseS l

theorem loose_stop {l : List Pt} {i : Nat} {p : Pt} {R : Int} (h : l[i]? = some p) (hR : looseS (l.drop i) = R) (he : looseP p ≠ 0) : looseP p = R := by
  rw [drop_cons h] at hR
  simpa [looseS, he] using hR
theorem loose_on {l : List Pt} {i : Nat} {p : Pt} {R : Int} (h : l[i]? = some p) (hR : looseS (l.drop i) = R) (he : looseP p = 0) : looseS (l.drop (i + 1)) = R := by
  rw [drop_cons h] at hR
  simpa [looseS, he] using hR

theorem loose_part {p : Pt} (h : looseP p = 0) : (p.k = 1 ∨ p.k = 2 ∨ p.k = 3) ∧ 0 ≤ p.n ∧ p.n ≤ 500 ∧ p.t.size ≤ 500 ∧ (p.k = 2 → p.n = 0) ∧ (p.k ≠ 2 → p.t.size = 0) := by
  unfold looseP at h
  split at h
  · rename_i h1
    split at h
    · omega
    · rename_i h2
      unfold formedB at h1
      unfold widthI at h2
      split at h1 <;> simp only [Bool.and_eq_true, decide_eq_true_eq] at h1 <;> split at h2 <;> omega
  · omega
theorem loose_all {l : List Pt} (h : looseS l = 0) : ∀ p ∈ l, (p.k = 1 ∨ p.k = 2 ∨ p.k = 3) ∧ 0 ≤ p.n ∧ p.n ≤ 500 ∧ p.t.size ≤ 500 ∧ (p.k = 2 → p.n = 0) ∧ (p.k ≠ 2 → p.t.size = 0) := by
  induction l with
  | nil => simp
  | cons q r ih =>
    unfold looseS at h
    split at h
    · intro p hp
      rcases List.mem_cons.1 hp with rfl | hp
      · exact loose_part (by assumption)
      · exact ih h p hp
    · contradiction
theorem loose_small {l : List Pt} (h : looseE l = 0) : Small l ∧ ∀ p ∈ l, (p.k = 1 ∨ p.k = 2 ∨ p.k = 3) ∧ (p.k = 2 → p.n = 0) := by
  unfold looseE at h
  split at h
  · omega
  · have h1 := loose_all h
    exact ⟨⟨by omega, fun p hp => ⟨(h1 p hp).2.1, (h1 p hp).2.2.1, (h1 p hp).2.2.2.1⟩⟩, fun p hp => ⟨(h1 p hp).1, (h1 p hp).2.2.2.2.1⟩⟩

set_option maxHeartbeats 1000000 in
theorem checkLoose_any (a : Option Addr) (l : List Pt) (cap : Nat) (w : World) (hp : PartsAt w w.heap.size a l) :
    Calls Try.prog 53 #[.slice a l.length cap] w fun e w' => e = .returned (.int .i64 (looseE l)) ∧ Below w.heap.size w w' := by
  have hl := hp.1
  by_cases hbig : 1600 < l.length
  · have Hpe : Hid (2 = looseE l) := by show 2 = looseE l; simp [looseE, hbig]
    go_enter Try.func53, Try.ntmps53
    go_wp2
    go_ret
    exact ⟨ret_int Hpe.out, Below.refl _ _⟩
  · have Hpe : Hid (looseS l = looseE l) := by show looseS l = looseE l; simp [looseE, hbig]
    go_enter Try.func53, Try.ntmps53
    go_wp2
    go_loopw [10] (fun i wr => ∃ k : Nat, k ≤ l.length ∧ i = .int .i64 k ∧ looseS (l.drop k) = looseS l ∧ Below w.heap.size w wr) (fun i _ => l.length - (intOf i).toNat)
    case atStart => exact ⟨0, Nat.zero_le _, rfl, rfl, Below.refl _ _⟩
    case round =>
      obtain ⟨k, hk, rfl, hsc, hb⟩ := hrel
      by_cases hlt : k < l.length
      · obtain ⟨p, hpk⟩ : ∃ p, l[k]? = some p := ⟨l[k], List.getElem?_eq_getElem hlt⟩
        obtain ⟨hpb1, hpb2, hpb3, hpb4, hpb5⟩ := hp.2.2.1 p (List.mem_of_getElem? hpk)
        have Hstop : Hid _ := loose_stop hpk hsc
        have Hon : Hid _ := loose_on hpk hsc
        obtain ⟨b, off, rfl, hblt, c1, c2, c3⟩ := (hp.below hb (Nat.le_refl _)).mem hpk
        have HB : Hid _ := hb
        have hz := hb.size
        clear hp hpk hb hsc
        go_wp2_with fail
        refine (formed_any p.k p.n p.t _).mono ?_
        rintro e w1 ⟨rfl, hb1⟩
        obtain ⟨hc, hf⟩ := bcell hb1
        have hz1 : wr.heap.size + 1 ≤ w1.heap.size := by have := hb1.size; simpa using this
        have HB1 : Hid (Below w.heap.size w w1) := (HB.out.alloc hz _).trans (hb1.mono (by simp; omega))
        clear hb1
        cases hfm : formedB p.k p.n p.t
        · have HE : Hid (looseP p = 3) := by show _ = _; simp [looseP, hfm]
          go_wp2_with fail
          go_ret
          exact ⟨ret_int (by rw [← Hpe.out, ← Hstop.out (by rw [HE.out]; omega), HE.out]), HB1.out⟩
        · have HE : Hid (looseP p = if 500 < widthI p.k p.n p.t then 2 else 0) := by show _ = _; simp [looseP, hfm]
          go_wp2_with fail
          refine (width_any p.k p.n p.t _ (by omega)).mono ?_
          rintro e w2 ⟨rfl, hb2⟩
          have HB2 : Hid (Below w.heap.size w w2) := HB1.out.trans (hb2.mono (by omega))
          clear hb2
          by_cases hg : 500 < widthI p.k p.n p.t
          · go_wp2_with fail
            go_ret
            exact ⟨ret_int (by rw [← Hpe.out, ← Hstop.out (by rw [HE.out, if_pos hg]; omega), HE.out, if_pos hg]), HB2.out⟩
          · go_wp2_with fail
            go_roundw
            case rel => exact ⟨k + 1, by omega, by go_num, Hon.out (by rw [HE.out, if_neg (by omega)]), HB2.out⟩
            case measure => simp [intOf]; omega
      · have hnil : l.drop k = [] := List.drop_eq_nil_of_le (by omega)
        rw [hnil] at hsc
        have Hsc : Hid _ := hsc
        clear hsc hnil
        go_wp2
        go_ret
        exact ⟨ret_int (by rw [← Hpe.out, ← Hsc.out]; rfl), hb⟩

/-- the answer of Norm: the error, and the delta -/
def normE (l : List Pt) : Int := if looseE l = 0 then (if sizesE (gatherL l) = 0 then 0 else 2) else looseE l
def normL (l : List Pt) : List Pt := if normE l = 0 then gatherL l else []

theorem gather_bound {l : List Pt} (h : Small l) : Bound (gatherL l) ∧ (gatherL l).length ≤ 5000 := by
  have hb := gAll_B h.2
  have h1 := settle_pts hb.pts hb.tx hb.ct
  have h2 := settle_len (gAll l).sl (gAll l).tx (gAll l).ct
  have h3 := hb.len
  have h4 := h.1
  refine ⟨⟨?_, fun p hp => ?_⟩, ?_⟩
  · unfold gatherL; omega
  · obtain ⟨q1, q2, q3, q4⟩ := h1 p hp
    exact ⟨by omega, by omega, by omega, by omega, by omega⟩
  · unfold gatherL; omega

set_option maxHeartbeats 1000000 in
theorem Norm_any (a : Option Addr) (l : List Pt) (cap : Nat) (w : World) (hp : PartsAt w w.heap.size a l) :
    Calls Try.prog 41 #[.slice a l.length cap] w fun e w' => ∃ a' c', e = .returned (.tuple #[.slice a' (normL l).length c', .int .i64 (normE l)]) ∧ PartsAt w' w'.heap.size a' (normL l) ∧ Below w.heap.size w w' := by
  have HP : Hid (PartsAt w w.heap.size a l) := hp
  clear hp
  go_enter Try.func41, Try.ntmps41
  go_wp2_with fail
  refine (checkLoose_any a l cap _ HP.out).mono ?_
  rintro e w1 ⟨rfl, hb1⟩
  have HP1 : Hid (PartsAt w1 w1.heap.size a l) := HP.out.here hb1 (Nat.le_refl _)
  by_cases h0 : looseE l = 0
  · obtain ⟨hsm, hkd⟩ := loose_small h0
    have h0' : (looseE l != 0) = false := by simp [h0]
    have HE : Hid (normE l = if sizesE (gatherL l) = 0 then 0 else 2) := by show _ = _; simp [normE, h0]
    have HSM : Hid (Small l) := hsm
    have HKD : Hid (∀ p ∈ l, p.k = 1 ∨ p.k = 2 ∨ p.k = 3) := fun p hp => (hkd p hp).1
    have HGB : Hid (Bound (gatherL l)) := (gather_bound hsm).1
    have HB1 : Hid (Below w.heap.size w w1) := hb1
    clear h0 hsm hkd hb1
    go_wp2_with fail
    refine (gather_any a l cap _ HP1.out HSM.out HKD.out).mono ?_
    rintro e w2 ⟨sv, rfl, hown, hb2⟩
    obtain ⟨a2, c2, rfl, hp2⟩ := parts_own hown HGB.out
    have HP2 : Hid (PartsAt w2 w2.heap.size a2 (gatherL l)) := hp2
    have HB2 : Hid (Below w.heap.size w w2) := HB1.out.trans (hb2.mono HB1.out.size)
    clear hown hp2 hb2
    go_wp2_with fail
    refine (Check_any a2 (gatherL l) c2 _ HP2.out).mono ?_
    rintro e w3 ⟨rfl, hb3⟩
    have HP3 : Hid (PartsAt w3 w3.heap.size a2 (gatherL l)) := HP2.out.here hb3 (Nat.le_refl _)
    have HB3 : Hid (Below w.heap.size w w3) := HB2.out.trans (hb3.mono HB2.out.size)
    clear hb3
    by_cases hz : sizesE (gatherL l) = 0
    · have hz' : (sizesE (gatherL l) != 0) = false := by simp [hz]
      have HN : Hid (normE l = 0 ∧ normL l = gatherL l) := by
        have h1 : normE l = 0 := by rw [HE.out, if_pos hz]
        exact ⟨h1, by simp [normL, h1]⟩
      clear hz
      go_wp2_with fail
      go_ret2
      exact ⟨a2, c2, by rw [HN.out.1, HN.out.2]; rfl, by rw [HN.out.2]; exact HP3.out, HB3.out⟩
    · have hz' : (sizesE (gatherL l) != 0) = true := by simp [hz]
      have HN : Hid (normE l = 2 ∧ normL l = []) := by
        have h1 : normE l = 2 := by rw [HE.out, if_neg hz]
        exact ⟨h1, by simp [normL, h1]⟩
      clear hz
      go_wp2_with fail
      go_ret2
      exact ⟨none, 0, by rw [HN.out.1, HN.out.2]; rfl, by rw [HN.out.2]; exact ⟨by simp, Nat.le_refl _, by simp, by simp⟩, HB3.out⟩
  · have h0' : (looseE l != 0) = true := by simp [h0]
    have HN : Hid (normE l = looseE l ∧ normL l = []) := by
      have h1 : normE l = looseE l := by simp [normE, h0]
      exact ⟨h1, by simp [normL, h1, h0]⟩
    have HB1 : Hid (Below w.heap.size w w1) := hb1
    clear h0 hb1
    go_wp2_with fail
    go_ret2
    exact ⟨none, 0, by rw [HN.out.1, HN.out.2]; rfl, by rw [HN.out.2]; exact ⟨by simp, Nat.le_refl _, by simp, by simp⟩, HB1.out⟩

end Go.Proofs.Ytkihanmodfnpcaa
