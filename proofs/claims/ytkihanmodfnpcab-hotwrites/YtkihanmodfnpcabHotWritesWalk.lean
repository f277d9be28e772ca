/- HotWrites answers true. -/
import Derived.Test.YtkihanmodfnpcabHotHead
import Derived.Test.YtkihanmodfnpcabHotTab
namespace Go.Proofs.Ytkihanmodfnpcab
open Go.RowKit
set_option linter.unusedSimpArgs false
set_option linter.unusedVariables false

set_option maxRecDepth 20000 in
set_option maxHeartbeats 4000000 in
theorem HotWrites_any (gen base : Int) (text : ByteArray) (a : Option Addr) (l : List Int) (cap : Nat) (r : Rv) (ra : Option Addr) (rc : Nat) (w : World) (hl : IzAt w w.heap.size a l cap) (hr : PartsAt w w.heap.size ra r.d) (hs : text.size ≤ 9223372036854775807) :
    Calls Try.prog 3 #[.int .i64 gen, .int .i64 base, .string text, .slice a l.length cap, .agg #[.int .i64 r.who, .int .i64 r.seq, .slice ra r.d.length rc]] w fun e w' => e = .returned (.bool true) ∧ Below w.heap.size w w' := by
  have HL : Hid (IzAt w w.heap.size a l cap) := hl
  have HR : Hid (PartsAt w w.heap.size ra r.d) := hr
  have HTab : Hid _ := fun w hp => tabs_any a l cap w hp
  have hlen := tabF_len l 8
  obtain ⟨T, hT⟩ : ∃ T, tabF l 8 = T := ⟨_, rfl⟩
  rw [hT] at HTab hlen
  have HHd : Hid _ := fun w => Head_any gen base text T hlen hs w
  have HRH : Hid _ := fun w => RHead_any gen base text T hlen hs w
  unfold tabV at HHd HRH
  obtain ⟨v, hv⟩ : ∃ v, (jzC T).toArray = v := ⟨_, rfl⟩
  rw [hv] at HHd HRH HTab
  obtain ⟨u, hu⟩ : ∃ u, hdT (gen :: base :: T) text.data.toList = u := ⟨_, rfl⟩
  obtain ⟨x, hx⟩ : ∃ x, hdE (gen :: base :: T) text.data.toList = x := ⟨_, rfl⟩
  rw [hu, hx] at HHd HRH
  have HRv : Hid _ := fun w hp => HRev_any r ra rc w hp
  have HRF : Hid _ := fun w hp => RRevFrame_any r ra rc w hp
  obtain ⟨u2, hu2⟩ : ∃ u, rvfT r = u := ⟨_, rfl⟩
  obtain ⟨x2, hx2⟩ : ∃ x, rvfE r = x := ⟨_, rfl⟩
  rw [hu2, hx2] at HRv HRF
  have HDn : Hid _ := fun w => Done_any w
  have HRD : Hid _ := fun w => RDone_any w
  obtain ⟨u3, hu3⟩ : ∃ u, frameL 3 [] = u := ⟨_, rfl⟩
  rw [hu3] at HDn HRD
  clear hl hr hT hlen hv hu hx hu2 hx2 hu3
  have hb0 : Below w.heap.size w (w.alloc (.cells #[.int .i64 r.who, .int .i64 r.seq, .slice ra r.d.length rc] 25)) := (Below.refl _ w).alloc (Nat.le_refl _) _
  have HB0 : Hid _ := hb0
  have HX0 : Hid (RBox (w.alloc (.cells #[.int .i64 r.who, .int .i64 r.seq, .slice ra r.d.length rc] 25)) w.heap.size r ra rc) := rbox_new w r ra rc
  clear hb0
  go_enter Try.func3, Try.ntmps3
  go_wp2_with fail
  generalize w.alloc (.cells #[.int .i64 r.who, .int .i64 r.seq, .slice ra r.d.length rc] 25) = w0 at HB0 HX0 ⊢
  change Hid (Below w.heap.size w w0) at HB0
  with_reducible refine (HTab.out _ (HL.out.here HB0.out (Nat.le_refl _))).mono ?_
  rintro e w1 ⟨rfl, hb1⟩
  have HX1 : Hid (RBox w1 w.heap.size r ra rc) := HX0.out.below hb1
  have HB1 : Hid (Below w.heap.size w w1) := HB0.out.trans (hb1.mono HB0.out.size)
  clear hb1
  go_wp2_with fail
  with_reducible refine (HHd.out _).mono ?_
  rintro e w2 ⟨rfl, hb2⟩
  have HX2 : Hid (RBox w2 w.heap.size r ra rc) := HX1.out.below hb2
  have HB2 : Hid (Below w.heap.size w w2) := HB1.out.trans (hb2.mono HB1.out.size)
  clear hb2
  go_wp2_with fail
  with_reducible refine (HTab.out _ (HL.out.here HB2.out (Nat.le_refl _))).mono ?_
  rintro e w3 ⟨rfl, hb3⟩
  have HX3 : Hid (RBox w3 w.heap.size r ra rc) := HX2.out.below hb3
  have HB3 : Hid (Below w.heap.size w w3) := HB2.out.trans (hb3.mono HB2.out.size)
  clear hb3
  go_wp2_with fail
  with_reducible refine (HRH.out _).mono ?_
  rintro e w4 ⟨rfl, hb4⟩
  have HX4 : Hid (RBox w4 w.heap.size r ra rc) := HX3.out.below hb4
  have HB4 : Hid (Below w.heap.size w w4) := HB3.out.trans (hb4.mono HB3.out.size)
  clear hb4
  obtain ⟨c0, c1, c2, hl⟩ := HX4.out
  go_wp2_with fail
  with_reducible refine (HRv.out _ (HR.out.here HB4.out (Nat.le_refl _))).mono ?_
  rintro e w5 ⟨rfl, hb5⟩
  have HX5 : Hid (RBox w5 w.heap.size r ra rc) := HX4.out.below hb5
  have HB5 : Hid (Below w.heap.size w w5) := HB4.out.trans (hb5.mono HB4.out.size)
  clear hb5 c0 c1 c2 hl
  obtain ⟨c0, c1, c2, hl⟩ := HX5.out
  go_wp2_with fail
  with_reducible refine (HRF.out _ (HR.out.here HB5.out (Nat.le_refl _))).mono ?_
  rintro e w6 ⟨rfl, hb6⟩
  have HB6 : Hid (Below w.heap.size w w6) := HB5.out.trans (hb6.mono HB5.out.size)
  clear hb6 c0 c1 c2 hl
  go_wp2_with fail
  with_reducible refine (HDn.out _).mono ?_
  rintro e w7 ⟨rfl, hb7⟩
  have HB7 : Hid (Below w.heap.size w w7) := HB6.out.trans (hb7.mono HB6.out.size)
  clear hb7
  go_wp2_with fail
  with_reducible refine (HRD.out _).mono ?_
  rintro e w8 ⟨rfl, hb8⟩
  have HB8 : Hid (Below w.heap.size w w8) := HB7.out.trans (hb8.mono HB7.out.size)
  clear hb8
  go_wp2_with fail
  go_ret
  exact ⟨by first | rfl | simp, HB8.out⟩
end Go.Proofs.Ytkihanmodfnpcab
