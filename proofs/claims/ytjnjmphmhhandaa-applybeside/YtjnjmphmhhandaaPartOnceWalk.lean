/- The law PartOnce, walked: it answers true. -/
import Derived.Test.YtjnjmphmhhandaaLoose
import Derived.Test.YtjnjmphmhhandaaSame
import Derived.Test.YtjnjmphmhhandaaPartChecksWalk
namespace Go.Proofs.Ytjnjmphmhhandaa
open Go.RowKit
set_option linter.unusedSimpArgs false
set_option linter.unusedVariables false

theorem step_loose {a : Int} {p : Pt} (h : stepE a p = 0) : looseP p = 0 := by
  unfold stepE at h
  split at h
  · rename_i h1
    simp only [Bool.and_eq_true] at h1
    unfold looseP
    rw [if_pos h1.1.1]
    exact h
  · omega
theorem scan_loose {a : Int} {l : List Pt} (h : scanE a l = 0) : looseS l = 0 := by
  induction l generalizing a with
  | nil => rfl
  | cons p r ih =>
    unfold scanE at h
    split at h
    · unfold looseS
      rw [if_pos (step_loose (by assumption))]
      exact ih h
    · contradiction
theorem sizes_scan {l : List Pt} (h : sizesE l = 0) : l.length ≤ 1600 ∧ scanE 0 l = 0 := by
  have h0 : partsE l = 0 := by
    unfold sizesE at h
    split at h
    · assumption
    · contradiction
  unfold partsE at h0
  split at h0
  · omega
  · exact ⟨by omega, h0⟩
theorem norm_delta {l : List Pt} (h : sizesE l = 0) : normE l = 0 ∧ normL l = l := by
  obtain ⟨h1, h2⟩ := sizes_scan h
  have h3 : looseE l = 0 := by unfold looseE; rw [if_neg (by omega)]; exact scan_loose h2
  have h4 := norm_self h2
  have h5 : normE l = 0 := by rw [normE, if_pos h3, h4, if_pos h]
  exact ⟨h5, by rw [normL, if_pos h5, h4]⟩
theorem norm_zero {l : List Pt} (h : normE l = 0) : looseE l = 0 ∧ sizesE (normL l) = 0 ∧ normL l = gatherL l := by
  have h1 : looseE l = 0 := by
    unfold normE at h
    split at h
    · assumption
    · contradiction
  have h2 : sizesE (gatherL l) = 0 := by
    rw [normE, if_pos h1] at h
    split at h
    · assumption
    · omega
  have h3 : normL l = gatherL l := by rw [normL, if_pos h]
  exact ⟨h1, by rw [h3]; exact h2, h3⟩
theorem norm_in {l : List Pt} (h : normE l = 0) : Small l ∧ sizesIn (normL l) = inI l := by
  obtain ⟨h1, h2, h3⟩ := norm_zero h
  obtain ⟨hs, hk⟩ := loose_small h1
  refine ⟨hs, ?_⟩
  rw [(sizes_zero h2).2.1, h3]
  exact gather_in (fun p hp => ⟨(hs.2 p hp).1, (hk p hp).2⟩)

def lit4 : List Pt := [⟨3, 1, ByteArray.empty⟩, ⟨2, 0, ⟨#[97]⟩⟩, ⟨1, 0, ByteArray.empty⟩, ⟨3, 2, ByteArray.empty⟩]
def lit2 : List Pt := [⟨2, 0, ⟨#[97]⟩⟩, ⟨3, 3, ByteArray.empty⟩]
theorem lit4_bound : Bound lit4 := by
  refine ⟨by decide, ?_⟩
  intro p hp
  simp only [lit4, List.mem_cons, List.mem_nil_iff, or_false] at hp
  rcases hp with rfl | rfl | rfl | rfl <;> decide
theorem lit2_bound : Bound lit2 := by
  refine ⟨by decide, ?_⟩
  intro p hp
  simp only [lit2, List.mem_cons, List.mem_nil_iff, or_false] at hp
  rcases hp with rfl | rfl <;> decide
theorem lit4_norm : normE lit4 = 0 ∧ normL lit4 = lit2 := by
  have h1 : looseE lit4 = 0 := by decide
  have h2 : gatherL lit4 = lit2 := rfl
  have h3 : sizesE lit2 = 0 := by decide
  have h4 : normE lit4 = 0 := by rw [normE, if_pos h1, h2, if_pos h3]
  exact ⟨h4, by rw [normL, if_pos h4, h2]⟩

theorem NormLit_any (w : World) :
    Calls Try.prog 14 #[.slice (some ⟨w.heap.size, 0, none⟩) 4 4] (w.alloc (.cells #[.int .i64 3, .int .i64 1, .string ⟨#[]⟩, .int .i64 2, .int .i64 0, .string ⟨#[97]⟩, .int .i64 1, .int .i64 0, .string ⟨#[]⟩, .int .i64 3, .int .i64 2, .string ⟨#[]⟩] 37))
      fun e w' => ∃ a' c', e = .returned (.tuple #[.slice a' 2 c', .int .i64 0]) ∧ PartsAt w' w'.heap.size a' lit2 ∧ Below w.heap.size w w' := by
  have hp := parts_lit w lit4 lit4_bound
  have hz : (w.alloc (.cells (allCells lit4).toArray 37)).heap.size = w.heap.size + 1 := Deep.nblk_alloc _ _
  rw [← hz] at hp
  have h := Norm_any (some ⟨w.heap.size, 0, none⟩) lit4 4 _ hp
  rw [lit4_norm.1, lit4_norm.2] at h
  refine (show Calls Try.prog 14 #[.slice (some ⟨w.heap.size, 0, none⟩) 4 4] (w.alloc (.cells (allCells lit4).toArray 37)) _ from h).mono ?_
  rintro e w' ⟨a', c', rfl, hp', hb⟩
  exact ⟨a', c', rfl, hp', ((Below.refl _ _).alloc (Nat.le_refl _) _).trans (hb.mono (by rw [hz]; omega))⟩
theorem SameLit_any (a : Option Addr) (c : Nat) (w : World) (hp : PartsAt w w.heap.size a lit2) :
    Calls Try.prog 16 #[.slice a 2 c, .slice (some ⟨w.heap.size, 0, none⟩) 2 2] (w.alloc (.cells #[.int .i64 2, .int .i64 0, .string ⟨#[97]⟩, .int .i64 3, .int .i64 3, .string ⟨#[]⟩] 37))
      fun e w' => e = .returned (.bool true) ∧ Below w.heap.size w w' := by
  have hp2 := parts_lit w lit2 lit2_bound
  have hz : (w.alloc (.cells (allCells lit2).toArray 37)).heap.size = w.heap.size + 1 := Deep.nblk_alloc _ _
  rw [← hz] at hp2
  have hp1 := hp.here (w' := w.alloc (.cells (allCells lit2).toArray 37)) ((Below.refl _ _).alloc (Nat.le_refl _) _) (Nat.le_refl _)
  refine (show Calls Try.prog 16 #[.slice a 2 c, .slice (some ⟨w.heap.size, 0, none⟩) 2 2] (w.alloc (.cells (allCells lit2).toArray 37)) _ from Same_yes a (some ⟨w.heap.size, 0, none⟩) lit2 c 2 _ hp1 hp2).mono ?_
  rintro e w' ⟨rfl, hb⟩
  exact ⟨rfl, ((Below.refl _ _).alloc (Nat.le_refl _) _).trans (hb.mono (by rw [hz]; omega))⟩

set_option maxHeartbeats 4000000 in
theorem PartOnce_any (a : Option Addr) (l : List Pt) (cap : Nat) (w : World) (hp : PartsAt w w.heap.size a l) :
    Calls Try.prog 6 #[.slice a l.length cap] w fun e w' => e = .returned (.bool true) ∧ Below w.heap.size w w' := by
  have HP : Hid (PartsAt w w.heap.size a l) := hp
  clear hp
  go_enter Try.func6, Try.ntmps6
  go_wp2_with fail
  refine (NormLit_any w).mono ?_
  rintro e w1 ⟨a1, c1, rfl, hp1, hb1⟩
  have HP1 : Hid (PartsAt w1 w1.heap.size a1 lit2) := hp1
  have HB1 : Hid (Below w.heap.size w w1) := hb1
  clear hp1 hb1
  go_wp2_with fail
  refine (SameLit_any a1 c1 w1 HP1.out).mono ?_
  rintro e w2 ⟨rfl, hb2⟩
  have HB2 : Hid (Below w.heap.size w w2) := HB1.out.trans (hb2.mono HB1.out.size)
  have HP2 : Hid (PartsAt w2 w2.heap.size a l) := HP.out.here HB2.out (Nat.le_refl _)
  clear hb2
  go_wp2_with fail
  refine (Norm_any a l cap _ HP2.out).mono ?_
  rintro e w3 ⟨a3, c3, rfl, hp3, hb3⟩
  have HN3 : Hid (PartsAt w3 w3.heap.size a3 (normL l)) := hp3
  have HB3 : Hid (Below w.heap.size w w3) := HB2.out.trans (hb3.mono HB2.out.size)
  have HP3 : Hid (PartsAt w3 w3.heap.size a l) := HP.out.here HB3.out (Nat.le_refl _)
  clear hp3 hb3
  go_wp2_with fail
  refine (Check_any a l cap _ HP3.out).mono ?_
  rintro e w4 ⟨rfl, hb4⟩
  have HB4 : Hid (Below w.heap.size w w4) := HB3.out.trans (hb4.mono HB3.out.size)
  have HN4 : Hid (PartsAt w4 w4.heap.size a3 (normL l)) := HN3.out.here hb4 (Nat.le_refl _)
  have HP4 : Hid (PartsAt w4 w4.heap.size a l) := HP.out.here HB4.out (Nat.le_refl _)
  clear hb4
  by_cases hz : sizesE l = 0
  · obtain ⟨n1, n2⟩ := norm_delta hz
    have hz' : (sizesE l == 0) = true := by simp [hz]
    have hn' : (normE l != 0) = false := by simp [n1]
    have HIN : Hid (Small l ∧ sizesIn (normL l) = inI l) := norm_in n1
    have HZN : Hid (sizesE (normL l) = 0) := (norm_zero n1).2.1
    have HNN : Hid (normE (normL l) = 0 ∧ normL (normL l) = normL l) := norm_delta HZN.out
    have HN2 : Hid (normL l = l) := n2
    clear hz n1 n2
    go_wp2_with fail
    refine (Same_any a3 a (normL l) l c3 cap _ HN4.out HP4.out).mono ?_
    rintro e w5 ⟨r, rfl, hr, hb5⟩
    obtain rfl : r = true := hr.2 HN2.out
    have HB5 : Hid (Below w.heap.size w w5) := HB4.out.trans (hb5.mono HB4.out.size)
    have HN5 : Hid (PartsAt w5 w5.heap.size a3 (normL l)) := HN4.out.here hb5 (Nat.le_refl _)
    clear hr hb5
    go_wp2_with fail
    refine (Sizes_any a3 (normL l) c3 _ HN5.out).mono ?_
    rintro e w6 ⟨rfl, hb6⟩
    have HB6 : Hid (Below w.heap.size w w6) := HB5.out.trans (hb6.mono HB5.out.size)
    have HN6 : Hid (PartsAt w6 w6.heap.size a3 (normL l)) := HN5.out.here hb6 (Nat.le_refl _)
    clear hb6
    have g1 : (sizesE (normL l) == 0) = true := by simp [HZN.out]
    go_wp2_with fail
    refine (Norm_any a3 (normL l) c3 _ HN6.out).mono ?_
    rintro e w7 ⟨a7, c7, rfl, hp7, hb7⟩
    have HB7 : Hid (Below w.heap.size w w7) := HB6.out.trans (hb7.mono HB6.out.size)
    have HN7 : Hid (PartsAt w7 w7.heap.size a3 (normL l)) := HN6.out.here hb7 (Nat.le_refl _)
    have HX7 : Hid (PartsAt w7 w7.heap.size a7 (normL (normL l))) := hp7
    clear hp7 hb7
    have g2 : (normE (normL l) == 0) = true := by simp [HNN.out.1]
    go_wp2_with fail
    refine (Same_any a7 a3 (normL (normL l)) (normL l) c7 c3 _ HX7.out HN7.out).mono ?_
    rintro e w8 ⟨r, rfl, hr, hb8⟩
    obtain rfl : r = true := hr.2 HNN.out.2
    have HB8 : Hid (Below w.heap.size w w8) := HB7.out.trans (hb8.mono HB7.out.size)
    have HP8 : Hid (PartsAt w8 w8.heap.size a l) := HP.out.here HB8.out (Nat.le_refl _)
    clear hr hb8
    have g3 : (sizesIn (normL l) == inI l) = true := by simp [HIN.out.2]
    go_wp2_with fail
    refine (In_any a l cap _ HP8.out HIN.out.1).mono ?_
    rintro e w9 ⟨rfl, hb9⟩
    have HB9 : Hid (Below w.heap.size w w9) := HB8.out.trans (hb9.mono HB8.out.size)
    clear hb9
    go_wp2_with fail
    go_ret
    exact ⟨rfl, HB9.out⟩
  · have hz' : (sizesE l == 0) = false := by simp [hz]
    by_cases n1 : normE l = 0
    · have hn' : (normE l != 0) = false := by simp [n1]
      have HIN : Hid (Small l ∧ sizesIn (normL l) = inI l) := norm_in n1
      have HZN : Hid (sizesE (normL l) = 0) := (norm_zero n1).2.1
      have HNN : Hid (normE (normL l) = 0 ∧ normL (normL l) = normL l) := norm_delta HZN.out
      clear hz n1
      go_wp2_with fail
      refine (Sizes_any a3 (normL l) c3 _ HN4.out).mono ?_
      rintro e w6 ⟨rfl, hb6⟩
      have HB6 : Hid (Below w.heap.size w w6) := HB4.out.trans (hb6.mono HB4.out.size)
      have HN6 : Hid (PartsAt w6 w6.heap.size a3 (normL l)) := HN4.out.here hb6 (Nat.le_refl _)
      clear hb6
      have g1 : (sizesE (normL l) == 0) = true := by simp [HZN.out]
      go_wp2_with fail
      refine (Norm_any a3 (normL l) c3 _ HN6.out).mono ?_
      rintro e w7 ⟨a7, c7, rfl, hp7, hb7⟩
      have HB7 : Hid (Below w.heap.size w w7) := HB6.out.trans (hb7.mono HB6.out.size)
      have HN7 : Hid (PartsAt w7 w7.heap.size a3 (normL l)) := HN6.out.here hb7 (Nat.le_refl _)
      have HX7 : Hid (PartsAt w7 w7.heap.size a7 (normL (normL l))) := hp7
      clear hp7 hb7
      have g2 : (normE (normL l) == 0) = true := by simp [HNN.out.1]
      go_wp2_with fail
      refine (Same_any a7 a3 (normL (normL l)) (normL l) c7 c3 _ HX7.out HN7.out).mono ?_
      rintro e w8 ⟨r, rfl, hr, hb8⟩
      obtain rfl : r = true := hr.2 HNN.out.2
      have HB8 : Hid (Below w.heap.size w w8) := HB7.out.trans (hb8.mono HB7.out.size)
      have HP8 : Hid (PartsAt w8 w8.heap.size a l) := HP.out.here HB8.out (Nat.le_refl _)
      clear hr hb8
      have g3 : (sizesIn (normL l) == inI l) = true := by simp [HIN.out.2]
      go_wp2_with fail
      refine (In_any a l cap _ HP8.out HIN.out.1).mono ?_
      rintro e w9 ⟨rfl, hb9⟩
      have HB9 : Hid (Below w.heap.size w w9) := HB8.out.trans (hb9.mono HB8.out.size)
      clear hb9
      go_wp2_with fail
      go_ret
      exact ⟨rfl, HB9.out⟩
    · have hn' : (normE l != 0) = true := by simp [n1]
      have hl0 : normL l = [] := by simp [normL, n1]
      rw [hl0]
      clear hz n1 hl0
      go_wp2_with fail
      go_ret
      exact ⟨rfl, HB4.out⟩

end Go.Proofs.Ytjnjmphmhhandaa
