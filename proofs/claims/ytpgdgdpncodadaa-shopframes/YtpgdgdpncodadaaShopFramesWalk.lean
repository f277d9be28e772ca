/- The law ShopFrames, walked: it answers true. -/
import Derived.Test.YtpgdgdpncodadaaShRun
namespace Go.Proofs.Ytpgdgdpncodadaa
open Go.RowKit
set_option linter.unusedSimpArgs false
set_option linter.unusedVariables false

/-- an idle archive in a block -/
def SI (w : World) (g : Nat) : Prop := ∃ S, SG w g S ∧ Idle S
set_option maxRecDepth 20000 in
set_option maxHeartbeats 8000000 in
theorem ShopFrames_any (a : Option Addr) (l : List Rv) (cap : Nat) (floor steps : Int) (w : World) (hl : RevsAt w w.heap.size a l) (hc : l.length ≤ cap) :
    Calls Try.prog 6 #[.slice a l.length cap, .int .i64 floor, .int .i64 steps] w fun e w' => e = .returned (.bool true) ∧ Below w.heap.size w w' := by
  have HL : Hid (RevsAt w w.heap.size a l) := hl
  have HN : Hid _ := fun w => GNew w
  have HD : Hid (∀ w g, SG w g newS → Calls Try.prog 25 #[.pointer (some ⟨g, 0, none⟩)] w fun e w' => e = .returned (.agg #[.string newS.p0, .int .i64 newS.x0, .string newS.p1, .int .i64 newS.x1]) ∧ Below w.heap.size w w') := fun w g h => GDisk newS g w h
  obtain ⟨nf1, nf2⟩ := new_frames
  have HF : Hid _ := fun x w => frames_any newS.p0 x w nf1
  rw [nf2] at HF
  have HFl : Hid _ := fun w h => Filled_any a l cap w h
  obtain ⟨hg1, hg2, hg3, hg4⟩ := fill_is l
  have hgd := (fill_good l).bounds
  have HH : Hid _ := fun w g h => GHead (fillS l) g w h
  obtain ⟨N, hN⟩ : ∃ N, headN (fillS l) = N := ⟨_, rfl⟩
  have HK : Hid (∀ k : Nat, k < N + 1 → ∀ w g, SG w g (fillS l) → Calls Try.prog 15 #[.pointer (some ⟨g, 0, none⟩), .int .i64 k] w fun e w' => e = .returned (.int .i64 0) ∧ SI w' g ∧ Aside g w w') := by
    intro k hk w g h
    obtain ⟨k1, k2⟩ := keep_ok hg1 (by rw [hg4]; decide) (k := k) (by rw [hg3]; omega) (by rw [hN]; omega)
    have h2 := GKeep (fillS l) k g w h
    rw [k1] at h2
    exact h2.mono fun e w' ⟨h1, h2, h3⟩ => ⟨h1, ⟨_, h2, idle_keep (fill_idle l) _⟩, h3⟩
  have HSt : Hid (∀ w g, SI w g → Calls Try.prog 16 #[.pointer (some ⟨g, 0, none⟩)] w fun e w' => (∃ b, e = .returned (.bool b)) ∧ SI w' g ∧ Aside g w w') := by
    rintro w g ⟨S, h1, h2⟩
    exact (GStep S g w h1).mono fun e w' ⟨h3, h4, h5⟩ => ⟨⟨_, h3⟩, ⟨_, h4, idle_step h2⟩, h5⟩
  have HW : Hid _ := fun k m w h1 h2 => Within3_any k m w h1 h2
  have HW70 : Hid (∀ (k : Int) (w : World), Calls Try.prog 17 #[.int .i64 k, .int .i64 70] w fun e w' => ∃ r : Nat, e = .returned (.int .i64 r) ∧ r < 70 ∧ w' = w) := fun k w => Within3_any k 70 w (by omega) (by omega)
  rw [hN] at HH
  have hN2 : N ≤ 2147483647 := by rw [← hN]; exact hgd.2.1
  clear hl nf1 nf2 hgd hg1 hg2 hg3 hg4 hN
  generalize fillS l = Fl at *
  generalize newS = N0 at *
  have h0 := fun a b c d w => fld_disk a b c d w
  have h1 := fun a b c d w => ix_slot0 a b c d w
  have h2 := fun a b c d w => ix_slot1 a b c d w
  go_enter Try.func6, Try.ntmps6
  go_wp2_with fail
  with_reducible refine (HN.out _).mono ?_
  rintro e w1 ⟨g0, rfl, hg0, hs1, hb1⟩
  have HS1 : Hid (SG w1 g0 N0) := hs1
  have HB1 : Hid (Below w.heap.size w w1) := hb1
  clear hs1 hb1 hg0
  go_wp2_with fail
  with_reducible refine (HD.out _ _ HS1.out).mono ?_
  rintro e w2 ⟨rfl, hb2⟩
  have HB2 : Hid (Below w.heap.size w w2) := HB1.out.trans (hb2.mono HB1.out.size)
  clear hb2
  go_wp2_with fail
  with_reducible refine (HF.out _ _).mono ?_
  rintro e w3 ⟨rfl, hb3⟩
  have HB3 : Hid (Below w.heap.size w w3) := HB2.out.trans (hb3.mono HB2.out.size)
  clear hb3
  go_wp2_with fail
  with_reducible refine (HFl.out _ (HL.out.here HB3.out (Nat.le_refl _))).mono ?_
  rintro e w4 ⟨g, rfl, hg, hs4, hb4⟩
  have HB4 : Hid (Below w.heap.size w w4 ∧ w.heap.size ≤ g) := ⟨HB3.out.trans (hb4.mono HB3.out.size), Nat.le_trans HB3.out.size hg⟩
  have HS4 : Hid (SG w4 g Fl) := hs4
  clear hs4 hb4 hg
  go_wp2_with fail
  with_reducible refine (HH.out _ _ HS4.out).mono ?_
  rintro e w5 ⟨rfl, hb5⟩
  have HS5 : Hid (SG w5 g Fl) := HS4.out.below hb5
  have HB5 : Hid (Below w.heap.size w w5) := HB4.out.1.trans (hb5.mono HB4.out.1.size)
  clear hb5
  go_wp2_with fail
  rw [show (N : Int) + 1 = ((N + 1 : Nat) : Int) by omega]
  with_reducible refine (HW.out _ _ _ (by omega) (by omega)).mono ?_
  rintro e w6 ⟨k, rfl, hk, rfl⟩
  have HKk : Hid _ := HK.out k hk
  clear hk
  go_wp2_with fail
  with_reducible refine (HKk.out _ _ HS5.out).mono ?_
  rintro e w7 ⟨rfl, hs7, ha7⟩
  have HB7 : Hid (Below w.heap.size w w7) := HB5.out.trans (ha7.below HB4.out.2 HB5.out.size)
  have HS7 : Hid (SI w7 g) := hs7
  clear hs7 ha7
  go_wp2_with fail
  with_reducible refine (HW70.out _ _).mono ?_
  rintro e w8 ⟨n, rfl, hn, rfl⟩
  go_wp2_with fail
  go_loopw [33] (fun i wr => ∃ k : Nat, k ≤ n ∧ i = .int .i64 (k : Int) ∧ SI wr g ∧ Below w.heap.size w wr) (fun i _ => n - (intOf i).toNat)
  case atStart => exact ⟨0, Nat.zero_le _, rfl, HS7.out, HB7.out⟩
  case round =>
    rename World => wr
    obtain ⟨k, hk, rfl, hs, hb⟩ := hrel
    have HS : Hid (SI wr g) := hs
    have HB : Hid (Below w.heap.size w wr) := hb
    clear hs hb
    by_cases hlt : k < n
    · have hki : (k : Int) < (n : Int) := by omega
      go_wp2_with fail
      with_reducible refine (HSt.out _ _ HS.out).mono ?_
      rintro e w9 ⟨⟨b, rfl⟩, hs9, ha9⟩
      have HS9 : Hid (SI w9 g) := hs9
      have HB9 : Hid (Below w.heap.size w w9) := HB.out.trans (ha9.below HB4.out.2 HB.out.size)
      clear hs9 ha9
      go_wp2_with fail
      go_roundw
      case rel => exact ⟨k + 1, hlt, by go_num, HS9.out, HB9.out⟩
      case measure => simp [intOf]; omega
    · have hki : ¬ (k : Int) < (n : Int) := by omega
      obtain ⟨S, hS1, hS2⟩ := HS.out
      obtain ⟨d1, d2, d3, d4⟩ := idle_disk hS2
      have HDk : Hid (Calls Try.prog 25 #[.pointer (some ⟨g, 0, none⟩)] wr fun e w' => e = .returned (.agg #[.string S.p0, .int .i64 S.x0, .string S.p1, .int .i64 S.x1]) ∧ Below wr.heap.size wr w') := GDisk S g wr hS1
      have HF0 : Hid _ := fun x w => frames_any S.p0 x w d1
      have HF1 : Hid _ := fun x w => frames_any S.p1 x w d2
      clear hS1 hS2 d1 d2 hlt
      generalize S.p0 = p0 at *
      generalize S.x0 = x0 at *
      generalize S.p1 = p1 at *
      generalize S.x1 = x1 at *
      obtain ⟨f0, hf0⟩ : ∃ f0, (scanL p0.data.toList).1.length = f0 := ⟨_, rfl⟩
      obtain ⟨f1, hf1⟩ : ∃ f1, (scanL p1.data.toList).1.length = f1 := ⟨_, rfl⟩
      rw [hf0] at HF0 d3
      rw [hf1] at HF1 d4
      have d3' : ¬ (66 : Int) < (f0 : Int) := by omega
      have d4' : ¬ (66 : Int) < (f1 : Int) := by omega
      clear hf0 hf1 d3 d4
      go_wp2_with fail
      with_reducible refine HDk.out.mono ?_
      rintro e w9 ⟨rfl, hb9⟩
      have HB9 : Hid (Below w.heap.size w w9) := HB.out.trans (hb9.mono HB.out.size)
      clear hb9
      go_wp2_with fail
      go_loopw [41] (fun i wr => (∃ k : Nat, k ≤ 2 ∧ i = .int .i64 (k : Int)) ∧ Below w.heap.size w wr) (fun i _ => 2 - (intOf i).toNat)
      case atStart => exact ⟨⟨0, by omega, rfl⟩, HB9.out⟩
      case round =>
        rename World => wq
        obtain ⟨⟨k, hk, rfl⟩, hb⟩ := hrel
        have hk3 : k = 0 ∨ k = 1 ∨ k = 2 := by omega
        have HB : Hid (Below w.heap.size w wq) := hb
        have hsz := hb.size
        clear hk hb
        rcases hk3 with rfl | rfl | rfl
        · have HB2 : Hid (Below w.heap.size w (wq.alloc (.cells #[.string p0, .int .i64 x0] 23))) := HB.out.alloc hsz _
          go_wp2_with fail
          with_reducible refine (HF0.out _ _).mono ?_
          rintro e w10 ⟨rfl, hb10⟩
          have HB10 : Hid (Below w.heap.size w w10) := HB2.out.trans (hb10.mono HB2.out.size)
          clear hb10
          go_wp2_with fail
          go_roundw
          case rel => exact ⟨⟨1, by omega, rfl⟩, HB10.out⟩
          case measure => simp [intOf]
        · have HB2 : Hid (Below w.heap.size w (wq.alloc (.cells #[.string p1, .int .i64 x1] 23))) := HB.out.alloc hsz _
          go_wp2_with fail
          with_reducible refine (HF1.out _ _).mono ?_
          rintro e w10 ⟨rfl, hb10⟩
          have HB10 : Hid (Below w.heap.size w w10) := HB2.out.trans (hb10.mono HB2.out.size)
          clear hb10
          go_wp2_with fail
          go_roundw
          case rel => exact ⟨⟨2, by omega, rfl⟩, HB10.out⟩
          case measure => simp [intOf]
        · go_wp2_with fail
          go_ret
          exact ⟨rfl, HB.out⟩
end Go.Proofs.Ytpgdgdpncodadaa
