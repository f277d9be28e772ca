/- What the document's RevFrame answers; Done, and the document's. -/
import Derived.Test.YtkihanmodfnpcabHotPut
import Derived.Test.YtkihanmodfnpcabRFrame
import Derived.Test.YtkihanmodfnpcabRCode
import Derived.Deep.RegionHeld3
namespace Go.Proofs.Ytkihanmodfnpcab
open Go.RowKit
set_option linter.unusedSimpArgs false
set_option linter.unusedVariables false

theorem rbox_cells {w w' : World} {g : Nat} {r : Rv} {a : Option Addr} {c : Nat} (h : RBox w g r a c) (hb : Below w.heap.size w w') :
    w'.cell? ⟨g, 0, none⟩ = some (.int .i64 r.who) ∧ w'.cell? ⟨g, 1, none⟩ = some (.int .i64 r.seq) ∧ w'.cell? ⟨g, 2, none⟩ = some (.slice a r.d.length c) := by
  obtain ⟨h0, h1, h2, _⟩ := h.below hb
  exact ⟨h0, h1, h2⟩
theorem went_drew {w w' : World} (hb : Below w.drew.heap.size w.drew w') : Hid (Below w.heap.size w w') := ((Below.refl w.heap.size w).drew).trans hb
theorem went_on {w w1 w2 : World} (h : Hid (Below w.heap.size w w1)) (hb : Below w1.heap.size w1 w2) : Hid (Below w.heap.size w w2) := h.out.trans (hb.mono h.out.size)
theorem cat_three (a b c : List UInt8) : (⟨a.toArray⟩ ++ ⟨b.toArray⟩ ++ ⟨c.toArray⟩ : ByteArray) = ⟨(a ++ (b ++ c)).toArray⟩ := by
  apply ByteArray.ext
  simp
set_option maxRecDepth 20000 in
set_option maxHeartbeats 2000000 in
theorem RRevFrame_any (r : Rv) (a : Option Addr) (c : Nat) (w : World) (hp : PartsAt w w.heap.size a r.d) :
    Calls Try.prog 13 #[.agg #[.int .i64 r.who, .int .i64 r.seq, .slice a r.d.length c]] w fun e w' => e = .returned (.tuple #[.string ⟨(rvfT r).toArray⟩, .int .i64 (rvfE r)]) ∧ Below w.heap.size w w' := by
  have HP : Hid (PartsAt w w.heap.size a r.d) := hp
  have HX : Hid _ := fun w hp => RRev_any r a c w hp
  clear hp
  by_cases h0 : oneE r = 0
  · obtain ⟨⟨a1, a2, a3, a4⟩, hz⟩ := one_zero h0
    have hcl : (codeL r.d).length ≤ 4000 := by
      have h := rev_len h0
      rw [revB, List.length_append, List.length_append] at h
      omega
    have HE : Hid (rvfE r = putE 2 (numL r.who.toNat ++ (numL r.seq.toNat ++ codeL r.d)) ∧ rvfT r = putT 2 (numL r.who.toNat ++ (numL r.seq.toNat ++ codeL r.d))) := ⟨by rw [rvfE, if_pos h0]; rfl, by rw [rvfT, if_pos h0]; rfl⟩
    rw [h0] at HX
    obtain ⟨who, seq, d⟩ := r
    simp only at *
    obtain ⟨m, rfl⟩ : ∃ m : Nat, who = (m : Int) := ⟨who.toNat, by omega⟩
    obtain ⟨n, rfl⟩ : ∃ n : Nat, seq = (n : Int) := ⟨seq.toNat, by omega⟩
    rw [Int.toNat_natCast, Int.toNat_natCast] at HE
    have HW : Hid _ := fun w hp => RCode_any a d c w hp hz
    have HN1 : Hid _ := fun w => RNum_any m w (by omega)
    have HN2 : Hid _ := fun w => RNum_any n w (by omega)
    have n1 := num_five (n := m) (by omega)
    have n2 := num_five (n := n) (by omega)
    obtain ⟨s, hs⟩ : ∃ t, numL m = t := ⟨_, rfl⟩
    obtain ⟨t, ht⟩ : ∃ t, numL n = t := ⟨_, rfl⟩
    obtain ⟨u, hu⟩ : ∃ u, codeL d = u := ⟨_, rfl⟩
    rw [hs] at HN1 HE n1
    rw [ht] at HN2 HE n2
    rw [hu] at HW HE hcl
    have HPut : Hid _ := fun w => RFrame_any 2 ⟨(s ++ (t ++ u)).toArray⟩ w (by show (s ++ (t ++ u)).toArray.size ≤ _; simp; omega)
    have sa : ∀ w : World, (Op.stringOp .add ⟨s.toArray⟩ ⟨t.toArray⟩).run Try.prog w = .ok (.string ⟨(s ++ t).toArray⟩) w := fun w => by
      rw [run_string_add_sum _ _ _ (by show s.toArray.size + t.toArray.size ≤ _; simp; omega), cat_text]
    have sb : ∀ w : World, (Op.stringOp .add ⟨(s ++ t).toArray⟩ ⟨u.toArray⟩).run Try.prog w = .ok (.string ⟨(s ++ (t ++ u)).toArray⟩) w := fun w => by
      rw [run_string_add_sum _ _ _ (by show (s ++ t).toArray.size + u.toArray.size ≤ _; simp; omega), cat_text, List.append_assoc]
    clear hs ht hu hz h0
    go_enter Try.func13, Try.ntmps13
    go_wp2_with fail
    refine (HX.out _ (HP.out.here ((Below.refl _ w).alloc (Nat.le_refl _) _) (Nat.le_refl _))).mono ?_
    rintro e w1 ⟨rfl, hb1⟩
    have HB1 : Hid (Below w.heap.size w w1) := ((Below.refl _ w).alloc (Nat.le_refl _) _).trans (hb1.mono (by simp))
    have HR1 : Hid (RBox w1 w.heap.size ⟨m, n, d⟩ a c) := (rbox_new w ⟨m, n, d⟩ a c).below hb1
    have HP1 : Hid (PartsAt w1 w1.heap.size a d) := HP.out.here HB1.out (Nat.le_refl _)
    clear hb1
    obtain ⟨c0, c1, c2, hl⟩ := HR1.out
    go_wp2_with fail
    go_region_held3 (fun w' => w'.cell? ⟨w.heap.size, 0, none⟩ = some (.int .i64 (m : Int)) ∧ w'.cell? ⟨w.heap.size, 1, none⟩ = some (.int .i64 (n : Int)) ∧ w'.cell? ⟨w.heap.size, 2, none⟩ = some (.slice a d.length c)) (first | go_keep | exact rbox_cells HR1.out HD.out | exact rbox_cells HR1.out HC.out | exact rbox_cells HR1.out HBB.out | exact rbox_cells HR1.out HA.out | fail) (first
      | (go_at_call 33; with_reducible refine (HN1.out _).mono ?_; rintro e wA ⟨rfl, hbA⟩; have HA := went_drew hbA)
      | (go_at_call 33; with_reducible refine (HN2.out _).mono ?_; rintro e wB ⟨rfl, hbB⟩; have HBB := went_on HA hbB)
      | (go_at_call 38; with_reducible refine (HW.out _ (HP1.out.here HBB.out (Nat.le_refl _))).mono ?_; rintro e wC ⟨rfl, hbC⟩; have HC := went_on HBB hbC)
      | (go_at_call 34; with_reducible refine (HPut.out _).mono ?_; rintro e wD ⟨rfl, hbD⟩; have HD := went_on HC hbD)
      | fail)
    all_goals
      go_wp2_with fail
      go_ret2
      exact ⟨ret_num HE.out.2.symm HE.out.1.symm, HB1.out.trans (HD.out.mono HB1.out.size)⟩
  · have h0' : (oneE r != 0) = true := by simp [h0]
    have HE : Hid (rvfT r = [] ∧ rvfE r = oneE r) := ⟨by rw [rvfT, if_neg h0], by rw [rvfE, if_neg h0]⟩
    clear h0
    go_enter Try.func13, Try.ntmps13
    go_wp2_with fail
    refine (HX.out _ (HP.out.here ((Below.refl _ w).alloc (Nat.le_refl _) _) (Nat.le_refl _))).mono ?_
    rintro e w1 ⟨rfl, hb1⟩
    have HB1 : Hid (Below w.heap.size w w1) := ((Below.refl _ w).alloc (Nat.le_refl _) _).trans (hb1.mono (by simp))
    clear hb1
    go_wp2_with fail
    go_ret2
    exact ⟨ret_num (s := []) HE.out.1.symm HE.out.2.symm, HB1.out⟩

theorem done_text : putT 3 [] = frameL 3 [] := rfl
set_option maxHeartbeats 1000000 in
theorem Done_any (w : World) : Calls Try.prog 14 #[] w fun e w' => e = .returned (.string ⟨(frameL 3 []).toArray⟩) ∧ Below w.heap.size w w' := by
  have HPut : Hid (∀ w : World, Calls Try.prog 32 #[.agg #[.int .i64 3, .string ⟨#[]⟩]] w fun e w' => e = .returned (.tuple #[.string ⟨(frameL 3 []).toArray⟩, .int .i64 0]) ∧ Below w.heap.size w w') := fun w => FPut_any 3 ⟨#[]⟩ w (by decide)
  go_enter Try.func14, Try.ntmps14
  go_wp2_with fail
  with_reducible refine (HPut.out _).mono ?_
  rintro e w1 ⟨rfl, hb1⟩
  have HB1 : Hid (Below w.heap.size w w1) := hb1
  clear hb1
  go_wp2_with fail
  go_ret
  exact ⟨rfl, HB1.out⟩
set_option maxHeartbeats 1000000 in
theorem RDone_any (w : World) : Calls Try.prog 15 #[] w fun e w' => e = .returned (.string ⟨(frameL 3 []).toArray⟩) ∧ Below w.heap.size w w' := by
  have HPut : Hid (∀ w : World, Calls Try.prog 34 #[.agg #[.int .i64 3, .string ⟨#[]⟩]] w fun e w' => e = .returned (.tuple #[.string ⟨(frameL 3 []).toArray⟩, .int .i64 0]) ∧ Below w.heap.size w w') := fun w => RFrame_any 3 ⟨#[]⟩ w (by decide)
  go_enter Try.func15, Try.ntmps15
  go_wp2_with fail
  with_reducible refine (HPut.out _).mono ?_
  rintro e w1 ⟨rfl, hb1⟩
  have HB1 : Hid (Below w.heap.size w w1) := hb1
  clear hb1
  go_wp2_with fail
  go_ret
  exact ⟨rfl, HB1.out⟩
end Go.Proofs.Ytkihanmodfnpcab
