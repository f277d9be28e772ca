/- The law TierBuilds, walked: it answers true. -/
import Derived.Test.YtinhidddfpjjkabTierMem
import Derived.Test.YtinhidddfpjjkabRTiers
namespace Go.Proofs.Ytinhidddfpjjkab
open Go.RowKit
set_option linter.unusedSimpArgs false
set_option linter.unusedVariables false

set_option maxRecDepth 20000 in
set_option maxHeartbeats 4000000 in
theorem TierBuilds_any (s : ByteArray) (a : Option Addr) (l : List Rv) (cap : Nat) (w : World) (hl : RevsAt w w.heap.size a l) (hc : l.length ≤ cap) (hs : s.size ≤ 9223372036854775807) :
    Calls Try.prog 3 #[.string s, .slice a l.length cap] w fun e w' => e = .returned (.bool true) ∧ Below w.heap.size w w' := by
  have HL : Hid (RevsAt w w.heap.size a l) := hl
  have HTx : Hid (∀ w : World, RevsAt w w.heap.size a l → _) := fun w h => RTexts_any s a l cap w h hs
  clear hl
  by_cases h0 : checkE s.data.toList l = 0
  · have HBu : Hid (∀ w : World, RevsAt w w.heap.size a l → _) := fun w h => Build_at s a l cap w h h0
    have HRT : Hid (∀ w : World, RevsAt w w.heap.size a l → _) := fun w h => RTiers_any s a l cap w h h0
    rw [h0] at HTx
    obtain ⟨T, hT⟩ : ∃ T, tiersL s.data.toList l = T := ⟨_, rfl⟩
    rw [hT] at HBu HRT
    clear h0 hT
    go_enter Try.func3, Try.ntmps3
    go_wp2_with fail
    refine (HBu.out _ HL.out).mono ?_
    rintro e w1 ⟨a1, c1, rfl, ht1, hb1⟩
    have HB1 : Hid (Below w.heap.size w w1) := hb1
    have HT1 : Hid (TiersAt w1 w1.heap.size a1 T c1) := ht1
    have HL1 : Hid (RevsAt w1 w1.heap.size a l) := HL.out.here hb1 (Nat.le_refl _)
    clear hb1 ht1 HBu
    go_wp2_with fail
    refine (HTx.out _ HL1.out).mono ?_
    rintro e w2 ⟨v2, rfl, _, hb2⟩
    have HB2 : Hid (Below w.heap.size w w2) := HB1.out.trans (hb2.mono HB1.out.size)
    have HT2 : Hid (TiersAt w2 w2.heap.size a1 T c1) := HT1.out.here hb2 (Nat.le_refl _)
    have HL2 : Hid (RevsAt w2 w2.heap.size a l) := HL1.out.here hb2 (Nat.le_refl _)
    clear hb2 HTx
    go_wp2_with fail
    refine (HRT.out _ HL2.out).mono ?_
    rintro e w3 ⟨v3, rs, rfl, hrs, hto, hb3⟩
    obtain ⟨a3, c3, rfl, ht3, _⟩ := tiers_own hto
    have hlen := congrArg List.length hrs
    rw [List.length_map] at hlen
    rw [hrs] at ht3
    rw [hlen]
    have HB3 : Hid (Below w.heap.size w w3) := HB2.out.trans (hb3.mono HB2.out.size)
    have HT3 : Hid (TiersAt w3 w3.heap.size a1 T c1 ∧ TiersAt w3 w3.heap.size a3 T c3) := ⟨HT2.out.here hb3 (Nat.le_refl _), ht3⟩
    clear hb3 hrs hto ht3 hlen HRT
    go_wp2_with fail
    refine (SameTiers_yes a1 a3 T c1 c3 _ HT3.out.1 HT3.out.2).mono ?_
    rintro e w4 ⟨rfl, hb4⟩
    have HB4 : Hid (Below w.heap.size w w4) := HB3.out.trans (hb4.mono HB3.out.size)
    clear hb4
    go_wp2_with fail
    go_ret
    exact ⟨by first | rfl | simp, HB4.out⟩
  · have HBu : Hid (∀ w : World, RevsAt w w.heap.size a l → _) := fun w h => Build_not s a l cap w h hs h0
    obtain ⟨E, hE⟩ : ∃ E, checkE s.data.toList l = E := ⟨_, rfl⟩
    rw [hE] at HBu HTx h0
    have h0' : (E != 0) = true := by simp [h0]
    clear hE h0
    go_enter Try.func3, Try.ntmps3
    go_wp2_with fail
    refine (HBu.out _ HL.out).mono ?_
    rintro e w1 ⟨rfl, hb1⟩
    have HB1 : Hid (Below w.heap.size w w1) := hb1
    have HL1 : Hid (RevsAt w1 w1.heap.size a l) := HL.out.here hb1 (Nat.le_refl _)
    clear hb1 HBu
    go_wp2_with fail
    refine (HTx.out _ HL1.out).mono ?_
    rintro e w2 ⟨v2, rfl, _, hb2⟩
    have HB2 : Hid (Below w.heap.size w w2) := HB1.out.trans (hb2.mono HB1.out.size)
    clear hb2 HTx
    go_wp2_with fail
    go_ret
    exact ⟨by first | rfl | simp, HB2.out⟩
end Go.Proofs.Ytinhidddfpjjkab
