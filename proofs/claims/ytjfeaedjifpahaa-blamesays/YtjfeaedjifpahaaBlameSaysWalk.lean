/- The law BlameSays, walked: it answers true. -/
import Derived.Test.YtjfeaedjifpahaaBlameOf
import Derived.Test.YtjfeaedjifpahaaRBlame
import Derived.Test.YtjfeaedjifpahaaRTexts
namespace Go.Proofs.Ytjfeaedjifpahaa
open Go.RowKit
set_option linter.unusedSimpArgs false
set_option linter.unusedVariables false

set_option maxRecDepth 20000 in
set_option maxHeartbeats 4000000 in
theorem BlameSays_any (s : ByteArray) (a : Option Addr) (l : List Rv) (cap : Nat) (w : World) (hl : RevsAt w w.heap.size a l) (hc : l.length ≤ cap) (hs : s.size ≤ 9223372036854775807) :
    Calls Try.prog 5 #[.string s, .slice a l.length cap] w fun e w' => e = .returned (.bool true) ∧ Below w.heap.size w w' := by
  have hll := hl.1
  have HL : Hid (RevsAt w w.heap.size a l) := hl
  clear hl
  have HTX : Hid _ := fun w hh => RTexts_any s a l cap w hh hs
  by_cases h0 : checkE s.data.toList l = 0
  · have HBO : Hid _ := fun w hh => BlameOf_ok s a l cap w hh h0
    have HRB : Hid _ := fun w hh => RBlame_any s a l cap w hh h0
    rw [h0] at HTX
    obtain ⟨x, hx⟩ : ∃ x, blameL (List.replicate s.size 0) l 1 = x := ⟨_, rfl⟩
    rw [hx] at HBO HRB
    clear h0 hx
    go_enter Try.func5, Try.ntmps5
    go_wp2_with fail
    refine (HBO.out _ HL.out).mono ?_
    rintro e w1 ⟨a1, c1, rfl, hn1, hb1⟩
    have HB1 : Hid (Below w.heap.size w w1) := hb1
    have HN1 : Hid (NatsAt w1 w1.heap.size a1 x c1) := hn1
    clear hn1 hb1
    go_wp2_with fail
    refine (HTX.out _ (HL.out.here HB1.out (Nat.le_refl _))).mono ?_
    rintro e w2 ⟨v, rfl, hown, hb2⟩
    have HB2 : Hid (Below w.heap.size w w2) := HB1.out.trans (hb2.mono HB1.out.size)
    have HN2 : Hid (NatsAt w2 w2.heap.size a1 x c1) := HN1.out.here hb2 (Nat.le_refl _)
    clear hown hb2
    go_wp2_with fail
    refine (HRB.out _ (HL.out.here HB2.out (Nat.le_refl _))).mono ?_
    rintro e w3 ⟨a3, c3, rfl, hn3, hb3⟩
    have HB3 : Hid (Below w.heap.size w w3) := HB2.out.trans (hb3.mono HB2.out.size)
    have HN3 : Hid (NatsAt w3 w3.heap.size a1 x c1) := HN2.out.here hb3 (Nat.le_refl _)
    have HM3 : Hid (NatsAt w3 w3.heap.size a3 x c3) := hn3
    clear hn3 hb3
    go_wp2_with fail
    refine (EqNats_yes a1 a3 x c1 c3 _ HN3.out HM3.out).mono ?_
    rintro e w4 ⟨rfl, hb4⟩
    have HB4 : Hid (Below w.heap.size w w4) := HB3.out.trans (hb4.mono HB3.out.size)
    clear hb4
    go_wp2_with fail
    go_ret
    exact ⟨rfl, HB4.out⟩
  · have HBO : Hid _ := fun w hh => BlameOf_not s a l cap w hh hs h0
    have q2 : (checkE s.data.toList l != 0) = true := by simp [h0]
    have q3 : (checkE s.data.toList l == checkE s.data.toList l) = true := by simp
    clear h0
    go_enter Try.func5, Try.ntmps5
    go_wp2_with fail
    refine (HBO.out _ HL.out).mono ?_
    rintro e w1 ⟨rfl, hb1⟩
    have HB1 : Hid (Below w.heap.size w w1) := hb1
    clear hb1
    go_wp2_with fail
    refine (HTX.out _ (HL.out.here HB1.out (Nat.le_refl _))).mono ?_
    rintro e w2 ⟨v, rfl, hown, hb2⟩
    have HB2 : Hid (Below w.heap.size w w2) := HB1.out.trans (hb2.mono HB1.out.size)
    clear hown hb2
    go_wp2_with fail
    go_ret
    exact ⟨rfl, HB2.out⟩
end Go.Proofs.Ytjfeaedjifpahaa
