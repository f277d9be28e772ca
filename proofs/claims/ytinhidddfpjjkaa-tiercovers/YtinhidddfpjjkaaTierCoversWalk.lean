/- The law TierCovers, walked: it answers true. -/
import Derived.Test.YtinhidddfpjjkaaRCov
namespace Go.Proofs.Ytinhidddfpjjkaa
open Go.RowKit
set_option linter.unusedSimpArgs false
set_option linter.unusedVariables false

set_option maxHeartbeats 4000000 in
theorem TierCovers_any (i k : Int) (w : World) :
    Calls Try.prog 7 #[.int .i64 i, .int .i64 k] w fun e w' => e = .returned (.bool true) ∧ Below w.heap.size w w' := by
  by_cases hbad : i < 0 ∨ k < i ∨ 64 < k
  · have HC : Hid (∀ w : World, _) := fun w => Cover_not i k w (by rw [covE, if_pos hbad]; decide)
    go_enter Try.func7, Try.ntmps7
    go_wp2_with fail
    refine (HC.out _).mono ?_
    rintro e w1 ⟨rfl, we⟩
    subst we
    clear HC
    by_cases h1 : i < 0
    · clear hbad
      go_wp2_with fail
      go_ret
      exact ⟨rfl, Below.refl _ _⟩
    · by_cases h2 : k < i
      · clear hbad
        go_wp2_with fail
        go_ret
        exact ⟨rfl, Below.refl _ _⟩
      · have h3 : 64 < k := by omega
        clear hbad
        go_wp2_with fail
        go_ret
        exact ⟨rfl, Below.refl _ _⟩
  · obtain ⟨a, rfl⟩ : ∃ a : Nat, i = (a : Int) := ⟨i.toNat, by omega⟩
    obtain ⟨b, rfl⟩ : ∃ b : Nat, k = (b : Int) := ⟨k.toNat, by omega⟩
    have hik : a ≤ b := by omega
    have hk : b ≤ 64 := by omega
    have HC : Hid _ := fun w => Cover_ok a b w hik hk
    have HR : Hid _ := fun w => RCov_any 65 a b w (by omega) hik hk
    obtain ⟨X, hX⟩ : ∃ X, covL a b = X := ⟨_, rfl⟩
    rw [hX] at HC HR
    have g1 : ¬ (a : Int) < 0 := by omega
    have g2 : ¬ (b : Int) < (a : Int) := by omega
    have g3 : ¬ (64 : Int) < (b : Int) := by omega
    clear hbad hX
    go_enter Try.func7, Try.ntmps7
    go_wp2_with fail
    refine (HC.out _).mono ?_
    rintro e w1 ⟨a1, c1, rfl, hn1, hb1⟩
    have HB1 : Hid (Below w.heap.size w w1) := hb1
    have HN1 : Hid (BksAt w1 w1.heap.size a1 X c1) := hn1
    clear hb1 hn1
    go_wp2_with fail
    refine (HR.out _).mono ?_
    rintro e w2 ⟨v2, rfl, ho2, hb2⟩
    obtain ⟨a2, c2, rfl, hn2⟩ := bks_own ho2
    have HB2 : Hid (Below w.heap.size w w2) := HB1.out.trans (hb2.mono HB1.out.size)
    have HN2 : Hid (BksAt w2 w2.heap.size a1 X c1 ∧ BksAt w2 w2.heap.size a2 X c2) := ⟨HN1.out.here hb2 (Nat.le_refl _), hn2⟩
    clear ho2 hn2 hb2
    go_wp2_with fail
    refine (EqBk_yes a1 a2 X c1 c2 _ HN2.out.1 HN2.out.2).mono ?_
    rintro e w3 ⟨rfl, hb3⟩
    have HB3 : Hid (Below w.heap.size w w3) := HB2.out.trans (hb3.mono HB2.out.size)
    clear hb3
    go_wp2_with fail
    go_ret
    exact ⟨rfl, HB3.out⟩
end Go.Proofs.Ytinhidddfpjjkaa
