/- The law TierSame, walked: it answers true. -/
import Derived.Test.YtinhidddfpjjkabTierKit
import Derived.Test.YtinhidddfpjjkabRevBet
namespace Go.Proofs.Ytinhidddfpjjkab
open Go.RowKit
set_option linter.unusedSimpArgs false
set_option linter.unusedVariables false

set_option maxRecDepth 20000 in
set_option maxHeartbeats 8000000 in
theorem TierSame_any (s : ByteArray) (a : Option Addr) (l : List Rv) (cap : Nat) (i k : Int) (w : World) (hl : RevsAt w w.heap.size a l) (hc : l.length ≤ cap) (hs : s.size ≤ 9223372036854775807) :
    Calls Try.prog 5 #[.string s, .slice a l.length cap, .int .i64 i, .int .i64 k] w fun e w' => e = .returned (.bool true) ∧ Below w.heap.size w w' := by
  have hll := hl.1
  have HL : Hid (RevsAt w w.heap.size a l) := hl
  clear hl
  go_enter Try.func5, Try.ntmps5
  go_wp2_with fail
  refine (first_any ⟨#[97]⟩ _ (by decide)).mono ?_
  rintro e w1 ⟨ad, rfl, hp1, hb1⟩
  have HB1 : Hid (Below w.heap.size w w1) := hb1
  have HT1 : Hid _ := BuildFirst w1 ad hp1
  clear hp1 hb1
  go_wp2_with fail
  refine Calls.mono HT1.out ?_
  rintro e w2 ⟨a2, c2, rfl, ht2, hb2⟩
  have HB2 : Hid (Below w.heap.size w w2) := HB1.out.trans (hb2.mono HB1.out.size)
  have HT2 : Hid (TiersAt w2 w2.heap.size a2 [[putA]] c2) := ht2
  clear hb2 ht2 HT1
  go_wp2_with fail
  refine (TBetFirst a2 c2 _ HT2.out).mono ?_
  rintro e w3 ⟨a3, c3, rfl, hp3, hb3⟩
  have HB3 : Hid (Below w.heap.size w w3) := HB2.out.trans (hb3.mono HB2.out.size)
  have HP3 : Hid (PartsAt w3 w3.heap.size a3 putA) := hp3
  clear hp3 hb3 HT2
  go_wp2_with fail
  refine (put_any ⟨#[97]⟩ _ (by decide)).mono ?_
  rintro e w4 ⟨rfl, hp4, hb4⟩
  have HB4 : Hid (Below w.heap.size w w4) := HB3.out.trans (hb4.mono HB3.out.size)
  have HP4 : Hid (PartsAt w4 w4.heap.size a3 putA ∧ PartsAt w4 w4.heap.size (some ⟨w3.heap.size, 0, none⟩) putA) := ⟨HP3.out.here hb4 (Nat.le_refl _), hp4⟩
  clear hp4 hb4 HP3
  go_wp2_with fail
  refine (Same_yes a3 (some ⟨w3.heap.size, 0, none⟩) putA c3 1 _ HP4.out.1 HP4.out.2).mono ?_
  rintro e w5 ⟨rfl, hb5⟩
  have HB5 : Hid (Below w.heap.size w w5) := HB4.out.trans (hb5.mono HB4.out.size)
  have HL5 : Hid (RevsAt w5 w5.heap.size a l) := HL.out.here HB5.out (Nat.le_refl _)
  clear hb5 HP4 HB1 HB2 HB3 HB4
  by_cases h0 : checkE s.data.toList l = 0
  · obtain ⟨z1, z2, z3⟩ := check_zero h0
    have HBu : Hid (∀ w : World, RevsAt w w.heap.size a l → _) := fun w h => Build_at s a l cap w h h0
    obtain ⟨T, hT⟩ : ∃ T, tiersL s.data.toList l = T := ⟨_, rfl⟩
    rw [hT] at HBu
    have H0 : Hid (checkE s.data.toList l = 0 ∧ tiersL s.data.toList l = T) := ⟨h0, hT⟩
    clear h0 z1 z3 hT
    go_wp2_with fail
    refine (HBu.out _ HL5.out).mono ?_
    rintro e w6 ⟨a6, c6, rfl, ht6, hb6⟩
    have HB6 : Hid (Below w.heap.size w w6) := HB5.out.trans (hb6.mono HB5.out.size)
    have HT6 : Hid (TiersAt w6 w6.heap.size a6 T c6) := ht6
    have HL6 : Hid (RevsAt w6 w6.heap.size a l) := HL5.out.here hb6 (Nat.le_refl _)
    clear hb6 ht6 HBu
    go_wp2_with fail
    rw [show (l.length : Int) + 1 = ((l.length + 1 : Nat) : Int) by omega]
    refine (Within3_any i (l.length + 1) _ (by omega) (by omega)).mono ?_
    rintro e wx ⟨n1, rfl, hn1, e3⟩
    subst wx
    go_wp2_with fail
    try rw [show (l.length : Int) + 1 = ((l.length + 1 : Nat) : Int) by omega]
    refine (Within3_any k (l.length + 1) _ (by omega) (by omega)).mono ?_
    rintro e wx ⟨n2, rfl, hn2, e3⟩
    subst wx
    obtain ⟨p, hp⟩ : ∃ p, p = min n1 n2 := ⟨_, rfl⟩
    obtain ⟨q, hq⟩ : ∃ q, q = max n1 n2 := ⟨_, rfl⟩
    have hmn := fun ts t w => min_nn ts t n1 n2 p hp w
    have hmx := fun ts t w => max_nn ts t n1 n2 q hq w
    have hpq : p ≤ q := by omega
    have hql : q ≤ l.length := by omega
    have HBt : Hid (∀ w : World, RevsAt w w.heap.size a l → _) := fun w h => Between_ok s a l cap p q w h hc H0.out.1 hpq hql
    clear hp hq hn1 hn2
    go_wp2_with fail
    refine (HBt.out _ HL6.out).mono ?_
    rintro e w7 ⟨a7, c7, rfl, hp7, _, hb7⟩
    have HB7 : Hid (Below w.heap.size w w7) := HB6.out.trans (hb7.mono HB6.out.size)
    have HT7 : Hid (TiersAt w7 w7.heap.size a6 T c6) := HT6.out.here hb7 (Nat.le_refl _)
    have HP7 : Hid (PartsAt w7 w7.heap.size a7 (betO s.data.toList l p q)) := hp7
    clear hb7 hp7 HBt hmn hmx
    by_cases hlt : p < q
    · have HTB : Hid (∀ w : World, TiersAt w w.heap.size a6 T c6 → _) := fun w h => TBet_ok a6 T c6 p q w h hlt (by omega)
      have e1 := tiers_same (n' := 7) H0.out.1 hlt hql
      rw [H0.out.2] at e1
      rw [e1] at HTB
      obtain ⟨D, hD⟩ : ∃ D, betO s.data.toList l p q = D := ⟨_, rfl⟩
      rw [hD] at HTB HP7
      rw [hD]
      have hne : ((p : Int) == (q : Int)) = false := by simp; omega
      clear e1 hD
      go_wp2_with fail
      refine (HTB.out _ HT7.out).mono ?_
      rintro e w8 ⟨a8, c8, rfl, hp8, _, hb8⟩
      have HB8 : Hid (Below w.heap.size w w8) := HB7.out.trans (hb8.mono HB7.out.size)
      have HP8 : Hid (PartsAt w8 w8.heap.size a7 D ∧ PartsAt w8 w8.heap.size a8 D) := ⟨HP7.out.here hb8 (Nat.le_refl _), hp8⟩
      clear hb8 hp8
      go_wp2_with fail
      refine (Same_yes a7 a8 D c7 c8 _ HP8.out.1 HP8.out.2).mono ?_
      rintro e w9 ⟨rfl, hb9⟩
      have HB9 : Hid (Below w.heap.size w w9) := HB8.out.trans (hb9.mono HB8.out.size)
      clear hb9
      go_wp2_with fail
      go_ret
      exact ⟨by first | rfl | simp, HB9.out⟩
    · obtain rfl : p = q := by omega
      have hne : ((p : Int) == (p : Int)) = true := by simp
      go_wp2_with fail
      refine (TBet_not a6 T c6 (p : Int) (p : Int) _ (by omega)).mono ?_
      rintro e w8 ⟨rfl, hb8⟩
      have HB8 : Hid (Below w.heap.size w w8) := HB7.out.trans (hb8.mono HB7.out.size)
      clear hb8
      go_wp2_with fail
      go_ret
      exact ⟨by first | rfl | simp, HB8.out⟩
  · have HBu : Hid (∀ w : World, RevsAt w w.heap.size a l → _) := fun w h => Build_not s a l cap w h hs h0
    obtain ⟨E, hE⟩ : ∃ E, checkE s.data.toList l = E := ⟨_, rfl⟩
    rw [hE] at HBu h0
    have h0' : (E != 0) = true := by simp [h0]
    clear hE h0
    go_wp2_with fail
    refine (HBu.out _ HL5.out).mono ?_
    rintro e w6 ⟨rfl, hb6⟩
    have HB6 : Hid (Below w.heap.size w w6) := HB5.out.trans (hb6.mono HB5.out.size)
    clear hb6
    go_wp2_with fail
    go_ret
    exact ⟨by first | rfl | simp, HB6.out⟩
end Go.Proofs.Ytinhidddfpjjkab
