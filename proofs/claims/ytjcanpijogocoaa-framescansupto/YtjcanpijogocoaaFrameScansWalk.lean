/- The law FrameScans, walked: it answers true. -/
import Derived.Test.YtjcanpijogocoaaRFrames
namespace Go.Proofs.Ytjcanpijogocoaa
open Go.RowKit
set_option linter.unusedSimpArgs false
set_option linter.unusedVariables false

theorem put_five : putE 5 [120] = 0 ∧ putT 5 [120] = frameL 5 [120] := by decide +kernel
theorem scan_five : scanL (frameL 5 [120]) = ([⟨5, [120]⟩], 8) := by
  have h := scan_frame (k := 5) (b := [120]) (by omega) (by omega) (by decide) []
  rw [List.append_nil] at h
  rw [h, scan_bad (l := []) (by decide), frameL_len]
  rfl
set_option maxRecDepth 100000 in
set_option maxHeartbeats 4000000 in
theorem FrameScans_any (s : ByteArray) (w : World) (hs : s.size ≤ 1000000000000) :
    Calls Try.prog 5 #[.string s] w fun e w' => e = .returned (.bool true) ∧ Below w.heap.size w w' := by
  have H0 : Hid _ := fun w => FPut_any 5 ⟨#[120]⟩ w (by decide)
  change Hid (∀ w, Calls Try.prog 11 #[.agg #[.int .i64 5, .string ⟨#[120]⟩]] w fun e w' => e = .returned (.tuple #[.string ⟨(putT 5 [120]).toArray⟩, .int .i64 (putE 5 [120])]) ∧ Below w.heap.size w w') at H0
  rw [put_five.1, put_five.2] at H0
  have hl5 := frameL_len 5 [120]
  have H1 : Hid _ := fun w => Scan_any ⟨(frameL 5 [120]).toArray⟩ w (by show (frameL 5 [120]).toArray.size ≤ _; rw [List.size_toArray, hl5]; decide)
  change Hid (∀ w, Calls Try.prog 15 #[.string ⟨(frameL 5 [120]).toArray⟩] w fun e w' => ∃ v, e = .returned (.tuple #[v, .int .i64 (scanL (frameL 5 [120])).2]) ∧ w'.ownsRow w.heap.size 26 2 v (scanL (frameL 5 [120])).1.length (frAll (scanL (frameL 5 [120])).1) ∧ Below w.heap.size w w') at H1
  rw [scan_five] at H1
  obtain ⟨u, hu⟩ : ∃ u, (⟨(frameL 5 [120]).toArray⟩ : ByteArray) = u := ⟨_, rfl⟩
  rw [hu] at H0 H1
  have H2 : Hid _ := fun w => Scan_any s w hs
  have H3 : Hid _ := fun w => RFrames_any s w hs
  have hle := scan_le _ s.data.toList (Nat.le_refl _)
  rw [show s.data.toList.length = s.size from Array.length_toList] at hle
  obtain ⟨fs, hfs⟩ : ∃ x, (scanL s.data.toList).1 = x := ⟨_, rfl⟩
  obtain ⟨n, hn⟩ : ∃ x, (scanL s.data.toList).2 = x := ⟨_, rfl⟩
  rw [hfs, hn] at H2 H3 hle
  obtain ⟨hle1, hle2⟩ := hle
  clear hu hl5 hfs hn
  go_enter Try.func5, Try.ntmps5
  go_wp2_with fail
  refine (H0.out _).mono ?_
  rintro e w1 ⟨rfl, hb1⟩
  have HB1 : Hid (Below w.heap.size w w1) := hb1
  clear hb1
  go_wp2_with fail
  refine (H1.out _).mono ?_
  rintro e w2 ⟨v, rfl, hown, hb2⟩
  have HB2 : Hid (Below w.heap.size w w2) := HB1.out.trans (hb2.mono HB1.out.size)
  obtain ⟨a0, c0, hv, -⟩ := frs_own hown
  change v = .slice a0 1 c0 at hv
  subst hv
  clear hown hb2
  go_wp2_with fail
  refine (H2.out _).mono ?_
  rintro e w3 ⟨v, rfl, hown, hb3⟩
  have HB3 : Hid (Below w.heap.size w w3) := HB2.out.trans (hb3.mono HB2.out.size)
  obtain ⟨a1, c1, rfl, hf1⟩ := frs_own hown
  have HF1 : Hid (FrsAt w3 w3.heap.size a1 fs) := hf1
  clear hown hb3 hf1
  go_wp2_with fail
  refine (H3.out _).mono ?_
  rintro e w4 ⟨v, rfl, hown, hb4⟩
  have HB4 : Hid (Below w.heap.size w w4) := HB3.out.trans (hb4.mono HB3.out.size)
  obtain ⟨a2, c2, rfl, hf2⟩ := frs_own hown
  have HF2 : Hid (FrsAt w4 w4.heap.size a2 fs) := hf2
  have HF1b : Hid (FrsAt w4 w4.heap.size a1 fs) := HF1.out.here hb4 (Nat.le_refl _)
  clear hown hb4 hf2
  go_wp2_with fail
  refine (EqFr_yes a1 a2 fs c1 c2 _ (by omega) HF1b.out HF2.out).mono ?_
  rintro e w5 ⟨rfl, hb5⟩
  have HB5 : Hid (Below w.heap.size w w5) := HB4.out.trans (hb5.mono HB4.out.size)
  clear hb5
  go_wp2_with fail
  go_ret
  exact ⟨rfl, HB5.out⟩
end Go.Proofs.Ytjcanpijogocoaa
