/- DiskApart answers true. -/
import Derived.Test.YtkihanmodfnpcaaDiskKit
namespace Go.Proofs.Ytkihanmodfnpcaa
open Go.RowKit
set_option linter.unusedSimpArgs false
set_option linter.unusedVariables false

theorem extract_two (C : ByteArray) {n : Nat} (h : n ≤ C.size) : C.extract 0 n ++ C.extract n C.size = C := by
  apply ByteArray.ext
  simp
theorem dk_five0 {w w' : World} {g h : Nat} {A B a b : ByteArray} {X Y x y : Int} (hg : DkAt w g A X B Y) (hh : DkAt w h a x b y) (hb : Below w.heap.size w w') : w'.cell? ⟨g, 0, none⟩ = some (.string A) ∧ w'.cell? ⟨g, 1, none⟩ = some (.int .i64 X) ∧ w'.cell? ⟨g, 2, none⟩ = some (.string B) ∧ w'.cell? ⟨g, 3, none⟩ = some (.int .i64 Y) ∧ w'.cell? ⟨h, 0, none⟩ = some (.string a) := by
  obtain ⟨h0, h1, h2, h3⟩ := (hg.below hb hg.lt).cells
  exact ⟨h0, h1, h2, h3, (hh.below hb hh.lt).cells.1⟩
theorem dk_five1 {w w' : World} {g h : Nat} {A B a b : ByteArray} {X Y x y : Int} (hg : DkAt w g A X B Y) (hh : DkAt w h a x b y) (hb : Below w.heap.size w w') : w'.cell? ⟨g, 0, none⟩ = some (.string A) ∧ w'.cell? ⟨g, 1, none⟩ = some (.int .i64 X) ∧ w'.cell? ⟨g, 2, none⟩ = some (.string B) ∧ w'.cell? ⟨g, 3, none⟩ = some (.int .i64 Y) ∧ w'.cell? ⟨h, 2, none⟩ = some (.string b) := by
  obtain ⟨h0, h1, h2, h3⟩ := (hg.below hb hg.lt).cells
  exact ⟨h0, h1, h2, h3, (hh.below hb hh.lt).cells.2.2.1⟩
theorem dk_went {w w' : World} (hb : Below w.drew.heap.size w.drew w') : Hid (Below w.heap.size w w') ∧ Hid (w.heap.size ≤ w'.heap.size) := by
  have h : Below w.heap.size w w' := ((Below.refl w.heap.size w).drew).trans hb
  exact ⟨h, h.size⟩
theorem dk_went2 {w w' : World} (hb : Below (w.alloc (.cells #[.string ⟨#[]⟩, .int .i64 0, .string ⟨#[]⟩, .int .i64 0] 26)).drew.heap.size (w.alloc (.cells #[.string ⟨#[]⟩, .int .i64 0, .string ⟨#[]⟩, .int .i64 0] 26)).drew w') : Hid (Below w.heap.size w w') ∧ Hid (w.heap.size ≤ w'.heap.size) := by
  have h : Below w.heap.size w w' := (((Below.refl w.heap.size w).alloc (Nat.le_refl _) (.cells #[.string ⟨#[]⟩, .int .i64 0, .string ⟨#[]⟩, .int .i64 0] 26)).drew).trans (hb.mono (show w.heap.size ≤ (w.alloc (.cells #[.string ⟨#[]⟩, .int .i64 0, .string ⟨#[]⟩, .int .i64 0] 26)).heap.size by rw [Deep.nblk_alloc]; exact Nat.le_succ _))
  exact ⟨h, h.size⟩
theorem dk_kept {w w' : World} (hb : Below (w.alloc (.cells #[.string ⟨#[]⟩, .int .i64 0, .string ⟨#[]⟩, .int .i64 0] 26)).drew.heap.size (w.alloc (.cells #[.string ⟨#[]⟩, .int .i64 0, .string ⟨#[]⟩, .int .i64 0] 26)).drew w') : w'.frozen? ⟨w.heap.size, 0, none⟩ = false ∧ w'.frozen? ⟨w.heap.size, 1, none⟩ = false ∧ w'.frozen? ⟨w.heap.size, 2, none⟩ = false ∧ w'.frozen? ⟨w.heap.size, 3, none⟩ = false ∧ w'.cell? ⟨w.heap.size, 0, none⟩ = some (.string ⟨#[]⟩) ∧ w'.cell? ⟨w.heap.size, 1, none⟩ = some (.int .i64 0) ∧ w'.cell? ⟨w.heap.size, 2, none⟩ = some (.string ⟨#[]⟩) ∧ w'.cell? ⟨w.heap.size, 3, none⟩ = some (.int .i64 0) ∧ Hid (DkAt w' w.heap.size ⟨#[]⟩ 0 ⟨#[]⟩ 0) := by
  have h0 : DkAt (w.alloc (.cells #[.string ⟨#[]⟩, .int .i64 0, .string ⟨#[]⟩, .int .i64 0] 26)).drew w.heap.size ⟨#[]⟩ 0 ⟨#[]⟩ 0 := Deep.blk_alloc_new w _
  have h : DkAt w' w.heap.size ⟨#[]⟩ 0 ⟨#[]⟩ 0 := h0.below hb h0.lt
  obtain ⟨f0, f1, f2, f3⟩ := h.free
  obtain ⟨c0, c1, c2, c3⟩ := h.cells
  exact ⟨f0, f1, f2, f3, c0, c1, c2, c3, h⟩
theorem DTrim_two (w : World) : Calls Try.prog 11 #[.agg #[.string ⟨#[97, 98]⟩, .int .i64 2, .string ⟨#[]⟩, .int .i64 0], .int .i64 0, .int .i64 1] w fun e w' => e = .returned (.tuple #[.agg #[.string ⟨#[97]⟩, .int .i64 1, .string ⟨#[]⟩, .int .i64 0], .int .i64 0]) ∧ Below w.heap.size w w' :=
  DTrim_ok0 ⟨#[97, 98]⟩ 2 ⟨#[]⟩ 0 1 (by decide) (by decide) w (by decide) (by decide)

set_option maxRecDepth 20000 in
set_option maxHeartbeats 4000000 in
theorem DiskApart_any (a : ByteArray) (x : Int) (b : ByteArray) (y i : Int) (s : ByteArray) (n : Int) (w : World) (ha : a.size ≤ 9223372036854775807) (hb : b.size ≤ 9223372036854775807) (hs : s.size ≤ 9223372036854775807) :
    Calls Try.prog 6 #[dkV a x b y, .int .i64 i, .string s, .int .i64 n] w fun e w' => e = .returned (.bool true) ∧ Below w.heap.size w w' := by
  have HT0 : Hid _ := fun w => DTrim_two w
  have hs0 := slot_neq ⟨#[97]⟩ 1
  by_cases h : dksE a x b y i = 0
  · obtain ⟨hd, hi⟩ := dks_zero h
    obtain ⟨k1, k2⟩ := dk_zero hd
    obtain ⟨m0, m1, m2⟩ := sl_zero k1
    obtain ⟨l0, l1, l2⟩ := sl_zero k2
    have HT1 : Hid _ := HT0.out
    clear k1 k2 HT0
    rcases hi with rfl | rfl
    · have HSy : Hid _ := fun w => DSync_ok0 a x b y h w ha hb
      have hso := slot_neq b y
      by_cases hf : a.size + s.size ≤ 1048576
      · have HAp : Hid _ := fun w => DAppend_ok0 a x b y s h hf w ha hb hs
        clear hf
        by_cases hn : n < 0 ∨ (a.size : Int) < n
        · have HTr : Hid _ := fun w => DTrim_arg0 a x b y n h hn w ha hb
          clear h hn
          go_enter Try.func6, Try.ntmps6
          go_wp2_with fail
          have HT0 : Hid (DkAt (w.alloc (.cells #[.string a, .int .i64 x, .string b, .int .i64 y] 26)) w.heap.size a x b y ∧ Below w.heap.size w (w.alloc (.cells #[.string a, .int .i64 x, .string b, .int .i64 y] 26))) := ⟨Deep.blk_alloc_new w _, (Below.refl _ w).alloc (Nat.le_refl _) _⟩
          generalize w.alloc (.cells #[.string a, .int .i64 x, .string b, .int .i64 y] 26) = w0 at HT0 ⊢
          obtain ⟨D, hD⟩ : ∃ D, w.heap.size = D := ⟨_, rfl⟩
          rw [hD] at HT0 ⊢
          have HW : Hid (w.heap.size = D) := hD
          clear hD
          have HX0_0 : Hid _ := HT0.out.1
          have HB0 : Hid _ := HT0.out.2
          clear HT0
          change Hid (DkAt w0 D a x b y) at HX0_0
          change Hid (Below D w w0) at HB0
          have hz1_0 := HX0_0.out.lt
          with_reducible refine (HT1.out _).mono ?_
          rintro e w1 ⟨rfl, hb1⟩
          have HX1_0 : Hid (DkAt w1 D a x b y) := HX0_0.out.below hb1 (by omega)
          have HB1 : Hid (Below D w w1) := HB0.out.trans (hb1.mono (by omega))
          clear hz1_0 hb1
          have hl0 := HX1_0.out.lt
          obtain ⟨c0_0, c0_1, c0_2, c0_3⟩ := HX1_0.out.cells
          obtain ⟨f0_0, f0_1, f0_2, f0_3⟩ := HX1_0.out.free
          go_wp2_with fail
          have HT : Hid (DkAt (w1.alloc (.cells #[.string ⟨#[97]⟩, .int .i64 1, .string ⟨#[]⟩, .int .i64 0] 26)) w1.heap.size ⟨#[97]⟩ 1 ⟨#[]⟩ 0 ∧ Below w1.heap.size w1 (w1.alloc (.cells #[.string ⟨#[97]⟩, .int .i64 1, .string ⟨#[]⟩, .int .i64 0] 26)) ∧ (w1.alloc (.cells #[.string ⟨#[97]⟩, .int .i64 1, .string ⟨#[]⟩, .int .i64 0] 26)).heap.size = w1.heap.size + 1) := ⟨Deep.blk_alloc_new w1 _, (Below.refl _ w1).alloc (Nat.le_refl _) _, by simp⟩
          generalize w1.alloc (.cells #[.string ⟨#[97]⟩, .int .i64 1, .string ⟨#[]⟩, .int .i64 0] 26) = w2 at HT ⊢
          have HX2_0 : Hid (DkAt w2 D a x b y) := HX1_0.out.below HT.out.2.1 HX1_0.out.lt
          have HB2 : Hid (Below D w w2) := HB1.out.trans (HT.out.2.1.mono (by have := HX1_0.out.lt; omega))
          clear hl0 c0_0 c0_1 c0_2 c0_3 f0_0 f0_1 f0_2 f0_3
          have hlast := HX1_0.out.lt
          obtain ⟨X, hX⟩ : ∃ g, w1.heap.size = g := ⟨_, rfl⟩
          rw [hX] at HT hlast ⊢
          have HX2_1 : Hid (DkAt w2 X ⟨#[97]⟩ 1 ⟨#[]⟩ 0) := HT.out.1
          have HOS : Hid (D < X) := hlast
          have HNX : Hid (w2.heap.size = X + 1) := HT.out.2.2
          clear hX HT hlast
          have hz3_0 := HX2_0.out.lt
          have hz3_1 := HX2_1.out.lt
          with_reducible refine (HAp.out _).mono ?_
          rintro e w3 ⟨rfl, hb3⟩
          have HX3_0 : Hid (DkAt w3 D a x b y) := HX2_0.out.below hb3 (by omega)
          have HX3_1 : Hid (DkAt w3 X ⟨#[97]⟩ 1 ⟨#[]⟩ 0) := HX2_1.out.below hb3 (by omega)
          have HB3 : Hid (Below D w w3) := HB2.out.trans (hb3.mono (by omega))
          clear hz3_0 hz3_1 hb3
          have hl0 := HX3_0.out.lt
          obtain ⟨c0_0, c0_1, c0_2, c0_3⟩ := HX3_0.out.cells
          obtain ⟨f0_0, f0_1, f0_2, f0_3⟩ := HX3_0.out.free
          have hl1 := HX3_1.out.lt
          obtain ⟨c1_0, c1_1, c1_2, c1_3⟩ := HX3_1.out.cells
          obtain ⟨f1_0, f1_1, f1_2, f1_3⟩ := HX3_1.out.free
          go_wp2_with fail
          have HT : Hid (DkAt (w3.alloc (.cells #[.string (a ++ s), .int .i64 x, .string b, .int .i64 y] 26)) w3.heap.size (a ++ s) x b y ∧ Below w3.heap.size w3 (w3.alloc (.cells #[.string (a ++ s), .int .i64 x, .string b, .int .i64 y] 26)) ∧ (w3.alloc (.cells #[.string (a ++ s), .int .i64 x, .string b, .int .i64 y] 26)).heap.size = w3.heap.size + 1) := ⟨Deep.blk_alloc_new w3 _, (Below.refl _ w3).alloc (Nat.le_refl _) _, by simp⟩
          generalize w3.alloc (.cells #[.string (a ++ s), .int .i64 x, .string b, .int .i64 y] 26) = w4 at HT ⊢
          have HX4_0 : Hid (DkAt w4 D a x b y) := HX3_0.out.below HT.out.2.1 HX3_0.out.lt
          have HX4_1 : Hid (DkAt w4 X ⟨#[97]⟩ 1 ⟨#[]⟩ 0) := HX3_1.out.below HT.out.2.1 HX3_1.out.lt
          have HB4 : Hid (Below D w w4) := HB3.out.trans (HT.out.2.1.mono (by have := HX3_0.out.lt; omega))
          clear hl0 c0_0 c0_1 c0_2 c0_3 f0_0 f0_1 f0_2 f0_3 hl1 c1_0 c1_1 c1_2 c1_3 f1_0 f1_1 f1_2 f1_3
          have hlast := HX3_1.out.lt
          obtain ⟨Y, hY⟩ : ∃ g, w3.heap.size = g := ⟨_, rfl⟩
          rw [hY] at HT hlast ⊢
          have HX4_2 : Hid (DkAt w4 Y (a ++ s) x b y) := HT.out.1
          have HOS : Hid (D < X ∧ X < Y) := by have := HOS.out; refine ⟨?_, ?_⟩ <;> omega
          have HNY : Hid (w4.heap.size = Y + 1) := HT.out.2.2
          clear hY HT hlast
          have hz5_0 := HX4_0.out.lt
          have hz5_1 := HX4_1.out.lt
          have hz5_2 := HX4_2.out.lt
          with_reducible refine (HSy.out _).mono ?_
          rintro e w5 ⟨rfl, hb5⟩
          have HX5_0 : Hid (DkAt w5 D a x b y) := HX4_0.out.below hb5 (by omega)
          have HX5_1 : Hid (DkAt w5 X ⟨#[97]⟩ 1 ⟨#[]⟩ 0) := HX4_1.out.below hb5 (by omega)
          have HX5_2 : Hid (DkAt w5 Y (a ++ s) x b y) := HX4_2.out.below hb5 (by omega)
          have HB5 : Hid (Below D w w5) := HB4.out.trans (hb5.mono (by omega))
          clear hz5_0 hz5_1 hz5_2 hb5
          have hl0 := HX5_0.out.lt
          obtain ⟨c0_0, c0_1, c0_2, c0_3⟩ := HX5_0.out.cells
          obtain ⟨f0_0, f0_1, f0_2, f0_3⟩ := HX5_0.out.free
          have hl1 := HX5_1.out.lt
          obtain ⟨c1_0, c1_1, c1_2, c1_3⟩ := HX5_1.out.cells
          obtain ⟨f1_0, f1_1, f1_2, f1_3⟩ := HX5_1.out.free
          have hl2 := HX5_2.out.lt
          obtain ⟨c2_0, c2_1, c2_2, c2_3⟩ := HX5_2.out.cells
          obtain ⟨f2_0, f2_1, f2_2, f2_3⟩ := HX5_2.out.free
          go_wp2_with fail
          have HT : Hid (DkAt (w5.alloc (.cells #[.string a, .int .i64 (a.size : Int), .string b, .int .i64 y] 26)) w5.heap.size a (a.size : Int) b y ∧ Below w5.heap.size w5 (w5.alloc (.cells #[.string a, .int .i64 (a.size : Int), .string b, .int .i64 y] 26)) ∧ (w5.alloc (.cells #[.string a, .int .i64 (a.size : Int), .string b, .int .i64 y] 26)).heap.size = w5.heap.size + 1) := ⟨Deep.blk_alloc_new w5 _, (Below.refl _ w5).alloc (Nat.le_refl _) _, by simp⟩
          generalize w5.alloc (.cells #[.string a, .int .i64 (a.size : Int), .string b, .int .i64 y] 26) = w6 at HT ⊢
          have HX6_0 : Hid (DkAt w6 D a x b y) := HX5_0.out.below HT.out.2.1 HX5_0.out.lt
          have HX6_1 : Hid (DkAt w6 X ⟨#[97]⟩ 1 ⟨#[]⟩ 0) := HX5_1.out.below HT.out.2.1 HX5_1.out.lt
          have HX6_2 : Hid (DkAt w6 Y (a ++ s) x b y) := HX5_2.out.below HT.out.2.1 HX5_2.out.lt
          have HB6 : Hid (Below D w w6) := HB5.out.trans (HT.out.2.1.mono (by have := HX5_0.out.lt; omega))
          clear hl0 c0_0 c0_1 c0_2 c0_3 f0_0 f0_1 f0_2 f0_3 hl1 c1_0 c1_1 c1_2 c1_3 f1_0 f1_1 f1_2 f1_3 hl2 c2_0 c2_1 c2_2 c2_3 f2_0 f2_1 f2_2 f2_3
          have hlast := HX5_2.out.lt
          obtain ⟨Z, hZ⟩ : ∃ g, w5.heap.size = g := ⟨_, rfl⟩
          rw [hZ] at HT hlast ⊢
          have HX6_3 : Hid (DkAt w6 Z a (a.size : Int) b y) := HT.out.1
          have HOS : Hid (D < X ∧ X < Y ∧ Y < Z) := by have := HOS.out; refine ⟨?_, ?_, ?_⟩ <;> omega
          have HNZ : Hid (w6.heap.size = Z + 1) := HT.out.2.2
          clear hZ HT hlast
          have hz7_0 := HX6_0.out.lt
          have hz7_1 := HX6_1.out.lt
          have hz7_2 := HX6_2.out.lt
          have hz7_3 := HX6_3.out.lt
          with_reducible refine (HTr.out _).mono ?_
          rintro e w7 ⟨rfl, hb7⟩
          have HX7_0 : Hid (DkAt w7 D a x b y) := HX6_0.out.below hb7 (by omega)
          have HX7_1 : Hid (DkAt w7 X ⟨#[97]⟩ 1 ⟨#[]⟩ 0) := HX6_1.out.below hb7 (by omega)
          have HX7_2 : Hid (DkAt w7 Y (a ++ s) x b y) := HX6_2.out.below hb7 (by omega)
          have HX7_3 : Hid (DkAt w7 Z a (a.size : Int) b y) := HX6_3.out.below hb7 (by omega)
          have HB7 : Hid (Below D w w7) := HB6.out.trans (hb7.mono (by omega))
          clear hz7_0 hz7_1 hz7_2 hz7_3 hb7
          have hl0 := HX7_0.out.lt
          obtain ⟨c0_0, c0_1, c0_2, c0_3⟩ := HX7_0.out.cells
          obtain ⟨f0_0, f0_1, f0_2, f0_3⟩ := HX7_0.out.free
          have hl1 := HX7_1.out.lt
          obtain ⟨c1_0, c1_1, c1_2, c1_3⟩ := HX7_1.out.cells
          obtain ⟨f1_0, f1_1, f1_2, f1_3⟩ := HX7_1.out.free
          have hl2 := HX7_2.out.lt
          obtain ⟨c2_0, c2_1, c2_2, c2_3⟩ := HX7_2.out.cells
          obtain ⟨f2_0, f2_1, f2_2, f2_3⟩ := HX7_2.out.free
          have hl3 := HX7_3.out.lt
          obtain ⟨c3_0, c3_1, c3_2, c3_3⟩ := HX7_3.out.cells
          obtain ⟨f3_0, f3_1, f3_2, f3_3⟩ := HX7_3.out.free
          go_wp2_with fail
          have HT : Hid (DkAt (w7.alloc (.cells #[.string ⟨#[]⟩, .int .i64 0, .string ⟨#[]⟩, .int .i64 0] 26)) w7.heap.size ⟨#[]⟩ 0 ⟨#[]⟩ 0 ∧ Below w7.heap.size w7 (w7.alloc (.cells #[.string ⟨#[]⟩, .int .i64 0, .string ⟨#[]⟩, .int .i64 0] 26)) ∧ (w7.alloc (.cells #[.string ⟨#[]⟩, .int .i64 0, .string ⟨#[]⟩, .int .i64 0] 26)).heap.size = w7.heap.size + 1) := ⟨Deep.blk_alloc_new w7 _, (Below.refl _ w7).alloc (Nat.le_refl _) _, by simp⟩
          generalize w7.alloc (.cells #[.string ⟨#[]⟩, .int .i64 0, .string ⟨#[]⟩, .int .i64 0] 26) = w8 at HT ⊢
          have HX8_0 : Hid (DkAt w8 D a x b y) := HX7_0.out.below HT.out.2.1 HX7_0.out.lt
          have HX8_1 : Hid (DkAt w8 X ⟨#[97]⟩ 1 ⟨#[]⟩ 0) := HX7_1.out.below HT.out.2.1 HX7_1.out.lt
          have HX8_2 : Hid (DkAt w8 Y (a ++ s) x b y) := HX7_2.out.below HT.out.2.1 HX7_2.out.lt
          have HX8_3 : Hid (DkAt w8 Z a (a.size : Int) b y) := HX7_3.out.below HT.out.2.1 HX7_3.out.lt
          have HB8 : Hid (Below D w w8) := HB7.out.trans (HT.out.2.1.mono (by have := HX7_0.out.lt; omega))
          clear hl0 c0_0 c0_1 c0_2 c0_3 f0_0 f0_1 f0_2 f0_3 hl1 c1_0 c1_1 c1_2 c1_3 f1_0 f1_1 f1_2 f1_3 hl2 c2_0 c2_1 c2_2 c2_3 f2_0 f2_1 f2_2 f2_3 hl3 c3_0 c3_1 c3_2 c3_3 f3_0 f3_1 f3_2 f3_3
          have hlast := HX7_3.out.lt
          obtain ⟨U, hU⟩ : ∃ g, w7.heap.size = g := ⟨_, rfl⟩
          rw [hU] at HT hlast ⊢
          have HX8_4 : Hid (DkAt w8 U ⟨#[]⟩ 0 ⟨#[]⟩ 0) := HT.out.1
          have HOS : Hid (D < X ∧ X < Y ∧ Y < Z ∧ Z < U) := by have := HOS.out; refine ⟨?_, ?_, ?_, ?_⟩ <;> omega
          have HNU : Hid (w8.heap.size = U + 1) := HT.out.2.2
          clear hU HT hlast
          have hl0 := HX8_0.out.lt
          obtain ⟨c0_0, c0_1, c0_2, c0_3⟩ := HX8_0.out.cells
          obtain ⟨f0_0, f0_1, f0_2, f0_3⟩ := HX8_0.out.free
          have hl1 := HX8_1.out.lt
          obtain ⟨c1_0, c1_1, c1_2, c1_3⟩ := HX8_1.out.cells
          obtain ⟨f1_0, f1_1, f1_2, f1_3⟩ := HX8_1.out.free
          have hl2 := HX8_2.out.lt
          obtain ⟨c2_0, c2_1, c2_2, c2_3⟩ := HX8_2.out.cells
          obtain ⟨f2_0, f2_1, f2_2, f2_3⟩ := HX8_2.out.free
          have hl3 := HX8_3.out.lt
          obtain ⟨c3_0, c3_1, c3_2, c3_3⟩ := HX8_3.out.cells
          obtain ⟨f3_0, f3_1, f3_2, f3_3⟩ := HX8_3.out.free
          have hl4 := HX8_4.out.lt
          obtain ⟨c4_0, c4_1, c4_2, c4_3⟩ := HX8_4.out.cells
          obtain ⟨f4_0, f4_1, f4_2, f4_3⟩ := HX8_4.out.free
          have HT : Hid ((w8.alloc (.cells #[.string b, .int .i64 y] 23)).heap[w8.heap.size]? = some (.cells #[.string b, .int .i64 y] 23 (0, 0)) ∧ Below w8.heap.size w8 (w8.alloc (.cells #[.string b, .int .i64 y] 23)) ∧ w8.heap.size < (w8.alloc (.cells #[.string b, .int .i64 y] 23)).heap.size) := ⟨Deep.blk_alloc_new w8 _, (Below.refl _ w8).alloc (Nat.le_refl _) _, by simp⟩
          generalize w8.alloc (.cells #[.string b, .int .i64 y] 23) = w9 at HT ⊢
          have HX9_0 : Hid (DkAt w9 D a x b y) := HX8_0.out.below HT.out.2.1 HX8_0.out.lt
          have HX9_1 : Hid (DkAt w9 X ⟨#[97]⟩ 1 ⟨#[]⟩ 0) := HX8_1.out.below HT.out.2.1 HX8_1.out.lt
          have HX9_2 : Hid (DkAt w9 Y (a ++ s) x b y) := HX8_2.out.below HT.out.2.1 HX8_2.out.lt
          have HX9_3 : Hid (DkAt w9 Z a (a.size : Int) b y) := HX8_3.out.below HT.out.2.1 HX8_3.out.lt
          have HX9_4 : Hid (DkAt w9 U ⟨#[]⟩ 0 ⟨#[]⟩ 0) := HX8_4.out.below HT.out.2.1 HX8_4.out.lt
          have HB9 : Hid (Below D w w9) := HB8.out.trans (HT.out.2.1.mono (by have := HX8_0.out.lt; omega))
          clear hl0 c0_0 c0_1 c0_2 c0_3 f0_0 f0_1 f0_2 f0_3 hl1 c1_0 c1_1 c1_2 c1_3 f1_0 f1_1 f1_2 f1_3 hl2 c2_0 c2_1 c2_2 c2_3 f2_0 f2_1 f2_2 f2_3 hl3 c3_0 c3_1 c3_2 c3_3 f3_0 f3_1 f3_2 f3_3 hl4 c4_0 c4_1 c4_2 c4_3 f4_0 f4_1 f4_2 f4_3
          rw [HNU.out] at HT
          obtain ⟨S, hS⟩ : ∃ g, U + 1 = g := ⟨_, rfl⟩
          rw [hS] at HT ⊢
          have HS1 : Hid (U + 1 = S) := hS
          clear hS
          have q0 := Lib.cell_of_heap HT.out.1 0
          have q1 := Lib.cell_of_heap HT.out.1 1
          have hlS := HT.out.2.2
          simp at q0 q1
          have hl0 := HX9_0.out.lt
          obtain ⟨c0_0, c0_1, c0_2, c0_3⟩ := HX9_0.out.cells
          obtain ⟨f0_0, f0_1, f0_2, f0_3⟩ := HX9_0.out.free
          have hl1 := HX9_1.out.lt
          obtain ⟨c1_0, c1_1, c1_2, c1_3⟩ := HX9_1.out.cells
          obtain ⟨f1_0, f1_1, f1_2, f1_3⟩ := HX9_1.out.free
          have hl2 := HX9_2.out.lt
          obtain ⟨c2_0, c2_1, c2_2, c2_3⟩ := HX9_2.out.cells
          obtain ⟨f2_0, f2_1, f2_2, f2_3⟩ := HX9_2.out.free
          have hl3 := HX9_3.out.lt
          obtain ⟨c3_0, c3_1, c3_2, c3_3⟩ := HX9_3.out.cells
          obtain ⟨f3_0, f3_1, f3_2, f3_3⟩ := HX9_3.out.free
          have hl4 := HX9_4.out.lt
          obtain ⟨c4_0, c4_1, c4_2, c4_3⟩ := HX9_4.out.cells
          obtain ⟨f4_0, f4_1, f4_2, f4_3⟩ := HX9_4.out.free
          go_wp2_with fail
          go_quiet (fail)
          rename Nat => nq
          go_wp2_with fail
          go_ret
          exact ⟨rfl, by rw [HW.out]; exact below_drewN HB9.out _⟩
        · obtain ⟨m, rfl⟩ : ∃ m : Nat, n = (m : Int) := ⟨n.toNat, by omega⟩
          have hm : m ≤ a.size := by omega
          have HTr : Hid _ := fun w => DTrim_ok0 a x b y m h hm w ha hb
          have HAq : Hid _ := fun w => DAppend_ok0 (a.extract 0 m) (min x m) b y (a.extract m a.size) (dks_of (dk_of (sl_of (by rw [ByteArray.size_extract]; omega) (by omega) (by rw [ByteArray.size_extract]; omega)) (sl_of (by omega) (by omega) (by omega))) (by omega)) (by rw [ByteArray.size_extract, ByteArray.size_extract]; omega) w (by rw [ByteArray.size_extract]; omega) (by omega) (by rw [ByteArray.size_extract]; omega)
          rw [extract_two a hm] at HAq
          obtain ⟨t, ht⟩ : ∃ t, min x (m : Int) = t := ⟨_, rfl⟩
          have t1 : t ≤ x := by omega
          obtain ⟨C, hC⟩ : ∃ C, a.extract 0 m = C := ⟨_, rfl⟩
          obtain ⟨F, hF⟩ : ∃ F, a.extract m a.size = F := ⟨_, rfl⟩
          rw [ht, hC] at HTr HAq
          rw [hF] at HAq
          have HF : Hid _ := hF
          have g0 : (0 : Int) ≤ (m : Int) := by omega
          have g1 : (m : Int) ≤ (a.size : Int) := by omega
          clear h hn ht hC hF
          go_enter Try.func6, Try.ntmps6
          go_wp2_with fail
          have HT0 : Hid (DkAt (w.alloc (.cells #[.string a, .int .i64 x, .string b, .int .i64 y] 26)) w.heap.size a x b y ∧ Below w.heap.size w (w.alloc (.cells #[.string a, .int .i64 x, .string b, .int .i64 y] 26))) := ⟨Deep.blk_alloc_new w _, (Below.refl _ w).alloc (Nat.le_refl _) _⟩
          generalize w.alloc (.cells #[.string a, .int .i64 x, .string b, .int .i64 y] 26) = w0 at HT0 ⊢
          obtain ⟨D, hD⟩ : ∃ D, w.heap.size = D := ⟨_, rfl⟩
          rw [hD] at HT0 ⊢
          have HW : Hid (w.heap.size = D) := hD
          clear hD
          have HX0_0 : Hid _ := HT0.out.1
          have HB0 : Hid _ := HT0.out.2
          clear HT0
          change Hid (DkAt w0 D a x b y) at HX0_0
          change Hid (Below D w w0) at HB0
          have hz1_0 := HX0_0.out.lt
          with_reducible refine (HT1.out _).mono ?_
          rintro e w1 ⟨rfl, hb1⟩
          have HX1_0 : Hid (DkAt w1 D a x b y) := HX0_0.out.below hb1 (by omega)
          have HB1 : Hid (Below D w w1) := HB0.out.trans (hb1.mono (by omega))
          clear hz1_0 hb1
          have hl0 := HX1_0.out.lt
          obtain ⟨c0_0, c0_1, c0_2, c0_3⟩ := HX1_0.out.cells
          obtain ⟨f0_0, f0_1, f0_2, f0_3⟩ := HX1_0.out.free
          go_wp2_with fail
          have HT : Hid (DkAt (w1.alloc (.cells #[.string ⟨#[97]⟩, .int .i64 1, .string ⟨#[]⟩, .int .i64 0] 26)) w1.heap.size ⟨#[97]⟩ 1 ⟨#[]⟩ 0 ∧ Below w1.heap.size w1 (w1.alloc (.cells #[.string ⟨#[97]⟩, .int .i64 1, .string ⟨#[]⟩, .int .i64 0] 26)) ∧ (w1.alloc (.cells #[.string ⟨#[97]⟩, .int .i64 1, .string ⟨#[]⟩, .int .i64 0] 26)).heap.size = w1.heap.size + 1) := ⟨Deep.blk_alloc_new w1 _, (Below.refl _ w1).alloc (Nat.le_refl _) _, by simp⟩
          generalize w1.alloc (.cells #[.string ⟨#[97]⟩, .int .i64 1, .string ⟨#[]⟩, .int .i64 0] 26) = w2 at HT ⊢
          have HX2_0 : Hid (DkAt w2 D a x b y) := HX1_0.out.below HT.out.2.1 HX1_0.out.lt
          have HB2 : Hid (Below D w w2) := HB1.out.trans (HT.out.2.1.mono (by have := HX1_0.out.lt; omega))
          clear hl0 c0_0 c0_1 c0_2 c0_3 f0_0 f0_1 f0_2 f0_3
          have hlast := HX1_0.out.lt
          obtain ⟨X, hX⟩ : ∃ g, w1.heap.size = g := ⟨_, rfl⟩
          rw [hX] at HT hlast ⊢
          have HX2_1 : Hid (DkAt w2 X ⟨#[97]⟩ 1 ⟨#[]⟩ 0) := HT.out.1
          have HOS : Hid (D < X) := hlast
          have HNX : Hid (w2.heap.size = X + 1) := HT.out.2.2
          clear hX HT hlast
          have hz3_0 := HX2_0.out.lt
          have hz3_1 := HX2_1.out.lt
          with_reducible refine (HAp.out _).mono ?_
          rintro e w3 ⟨rfl, hb3⟩
          have HX3_0 : Hid (DkAt w3 D a x b y) := HX2_0.out.below hb3 (by omega)
          have HX3_1 : Hid (DkAt w3 X ⟨#[97]⟩ 1 ⟨#[]⟩ 0) := HX2_1.out.below hb3 (by omega)
          have HB3 : Hid (Below D w w3) := HB2.out.trans (hb3.mono (by omega))
          clear hz3_0 hz3_1 hb3
          have hl0 := HX3_0.out.lt
          obtain ⟨c0_0, c0_1, c0_2, c0_3⟩ := HX3_0.out.cells
          obtain ⟨f0_0, f0_1, f0_2, f0_3⟩ := HX3_0.out.free
          have hl1 := HX3_1.out.lt
          obtain ⟨c1_0, c1_1, c1_2, c1_3⟩ := HX3_1.out.cells
          obtain ⟨f1_0, f1_1, f1_2, f1_3⟩ := HX3_1.out.free
          go_wp2_with fail
          have HT : Hid (DkAt (w3.alloc (.cells #[.string (a ++ s), .int .i64 x, .string b, .int .i64 y] 26)) w3.heap.size (a ++ s) x b y ∧ Below w3.heap.size w3 (w3.alloc (.cells #[.string (a ++ s), .int .i64 x, .string b, .int .i64 y] 26)) ∧ (w3.alloc (.cells #[.string (a ++ s), .int .i64 x, .string b, .int .i64 y] 26)).heap.size = w3.heap.size + 1) := ⟨Deep.blk_alloc_new w3 _, (Below.refl _ w3).alloc (Nat.le_refl _) _, by simp⟩
          generalize w3.alloc (.cells #[.string (a ++ s), .int .i64 x, .string b, .int .i64 y] 26) = w4 at HT ⊢
          have HX4_0 : Hid (DkAt w4 D a x b y) := HX3_0.out.below HT.out.2.1 HX3_0.out.lt
          have HX4_1 : Hid (DkAt w4 X ⟨#[97]⟩ 1 ⟨#[]⟩ 0) := HX3_1.out.below HT.out.2.1 HX3_1.out.lt
          have HB4 : Hid (Below D w w4) := HB3.out.trans (HT.out.2.1.mono (by have := HX3_0.out.lt; omega))
          clear hl0 c0_0 c0_1 c0_2 c0_3 f0_0 f0_1 f0_2 f0_3 hl1 c1_0 c1_1 c1_2 c1_3 f1_0 f1_1 f1_2 f1_3
          have hlast := HX3_1.out.lt
          obtain ⟨Y, hY⟩ : ∃ g, w3.heap.size = g := ⟨_, rfl⟩
          rw [hY] at HT hlast ⊢
          have HX4_2 : Hid (DkAt w4 Y (a ++ s) x b y) := HT.out.1
          have HOS : Hid (D < X ∧ X < Y) := by have := HOS.out; refine ⟨?_, ?_⟩ <;> omega
          have HNY : Hid (w4.heap.size = Y + 1) := HT.out.2.2
          clear hY HT hlast
          have hz5_0 := HX4_0.out.lt
          have hz5_1 := HX4_1.out.lt
          have hz5_2 := HX4_2.out.lt
          with_reducible refine (HSy.out _).mono ?_
          rintro e w5 ⟨rfl, hb5⟩
          have HX5_0 : Hid (DkAt w5 D a x b y) := HX4_0.out.below hb5 (by omega)
          have HX5_1 : Hid (DkAt w5 X ⟨#[97]⟩ 1 ⟨#[]⟩ 0) := HX4_1.out.below hb5 (by omega)
          have HX5_2 : Hid (DkAt w5 Y (a ++ s) x b y) := HX4_2.out.below hb5 (by omega)
          have HB5 : Hid (Below D w w5) := HB4.out.trans (hb5.mono (by omega))
          clear hz5_0 hz5_1 hz5_2 hb5
          have hl0 := HX5_0.out.lt
          obtain ⟨c0_0, c0_1, c0_2, c0_3⟩ := HX5_0.out.cells
          obtain ⟨f0_0, f0_1, f0_2, f0_3⟩ := HX5_0.out.free
          have hl1 := HX5_1.out.lt
          obtain ⟨c1_0, c1_1, c1_2, c1_3⟩ := HX5_1.out.cells
          obtain ⟨f1_0, f1_1, f1_2, f1_3⟩ := HX5_1.out.free
          have hl2 := HX5_2.out.lt
          obtain ⟨c2_0, c2_1, c2_2, c2_3⟩ := HX5_2.out.cells
          obtain ⟨f2_0, f2_1, f2_2, f2_3⟩ := HX5_2.out.free
          go_wp2_with fail
          have HT : Hid (DkAt (w5.alloc (.cells #[.string a, .int .i64 (a.size : Int), .string b, .int .i64 y] 26)) w5.heap.size a (a.size : Int) b y ∧ Below w5.heap.size w5 (w5.alloc (.cells #[.string a, .int .i64 (a.size : Int), .string b, .int .i64 y] 26)) ∧ (w5.alloc (.cells #[.string a, .int .i64 (a.size : Int), .string b, .int .i64 y] 26)).heap.size = w5.heap.size + 1) := ⟨Deep.blk_alloc_new w5 _, (Below.refl _ w5).alloc (Nat.le_refl _) _, by simp⟩
          generalize w5.alloc (.cells #[.string a, .int .i64 (a.size : Int), .string b, .int .i64 y] 26) = w6 at HT ⊢
          have HX6_0 : Hid (DkAt w6 D a x b y) := HX5_0.out.below HT.out.2.1 HX5_0.out.lt
          have HX6_1 : Hid (DkAt w6 X ⟨#[97]⟩ 1 ⟨#[]⟩ 0) := HX5_1.out.below HT.out.2.1 HX5_1.out.lt
          have HX6_2 : Hid (DkAt w6 Y (a ++ s) x b y) := HX5_2.out.below HT.out.2.1 HX5_2.out.lt
          have HB6 : Hid (Below D w w6) := HB5.out.trans (HT.out.2.1.mono (by have := HX5_0.out.lt; omega))
          clear hl0 c0_0 c0_1 c0_2 c0_3 f0_0 f0_1 f0_2 f0_3 hl1 c1_0 c1_1 c1_2 c1_3 f1_0 f1_1 f1_2 f1_3 hl2 c2_0 c2_1 c2_2 c2_3 f2_0 f2_1 f2_2 f2_3
          have hlast := HX5_2.out.lt
          obtain ⟨Z, hZ⟩ : ∃ g, w5.heap.size = g := ⟨_, rfl⟩
          rw [hZ] at HT hlast ⊢
          have HX6_3 : Hid (DkAt w6 Z a (a.size : Int) b y) := HT.out.1
          have HOS : Hid (D < X ∧ X < Y ∧ Y < Z) := by have := HOS.out; refine ⟨?_, ?_, ?_⟩ <;> omega
          have HNZ : Hid (w6.heap.size = Z + 1) := HT.out.2.2
          clear hZ HT hlast
          have hz7_0 := HX6_0.out.lt
          have hz7_1 := HX6_1.out.lt
          have hz7_2 := HX6_2.out.lt
          have hz7_3 := HX6_3.out.lt
          with_reducible refine (HTr.out _).mono ?_
          rintro e w7 ⟨rfl, hb7⟩
          have HX7_0 : Hid (DkAt w7 D a x b y) := HX6_0.out.below hb7 (by omega)
          have HX7_1 : Hid (DkAt w7 X ⟨#[97]⟩ 1 ⟨#[]⟩ 0) := HX6_1.out.below hb7 (by omega)
          have HX7_2 : Hid (DkAt w7 Y (a ++ s) x b y) := HX6_2.out.below hb7 (by omega)
          have HX7_3 : Hid (DkAt w7 Z a (a.size : Int) b y) := HX6_3.out.below hb7 (by omega)
          have HB7 : Hid (Below D w w7) := HB6.out.trans (hb7.mono (by omega))
          clear hz7_0 hz7_1 hz7_2 hz7_3 hb7
          have hl0 := HX7_0.out.lt
          obtain ⟨c0_0, c0_1, c0_2, c0_3⟩ := HX7_0.out.cells
          obtain ⟨f0_0, f0_1, f0_2, f0_3⟩ := HX7_0.out.free
          have hl1 := HX7_1.out.lt
          obtain ⟨c1_0, c1_1, c1_2, c1_3⟩ := HX7_1.out.cells
          obtain ⟨f1_0, f1_1, f1_2, f1_3⟩ := HX7_1.out.free
          have hl2 := HX7_2.out.lt
          obtain ⟨c2_0, c2_1, c2_2, c2_3⟩ := HX7_2.out.cells
          obtain ⟨f2_0, f2_1, f2_2, f2_3⟩ := HX7_2.out.free
          have hl3 := HX7_3.out.lt
          obtain ⟨c3_0, c3_1, c3_2, c3_3⟩ := HX7_3.out.cells
          obtain ⟨f3_0, f3_1, f3_2, f3_3⟩ := HX7_3.out.free
          go_wp2_with fail
          have HT : Hid (DkAt (w7.alloc (.cells #[.string C, .int .i64 t, .string b, .int .i64 y] 26)) w7.heap.size C t b y ∧ Below w7.heap.size w7 (w7.alloc (.cells #[.string C, .int .i64 t, .string b, .int .i64 y] 26)) ∧ (w7.alloc (.cells #[.string C, .int .i64 t, .string b, .int .i64 y] 26)).heap.size = w7.heap.size + 1) := ⟨Deep.blk_alloc_new w7 _, (Below.refl _ w7).alloc (Nat.le_refl _) _, by simp⟩
          generalize w7.alloc (.cells #[.string C, .int .i64 t, .string b, .int .i64 y] 26) = w8 at HT ⊢
          have HX8_0 : Hid (DkAt w8 D a x b y) := HX7_0.out.below HT.out.2.1 HX7_0.out.lt
          have HX8_1 : Hid (DkAt w8 X ⟨#[97]⟩ 1 ⟨#[]⟩ 0) := HX7_1.out.below HT.out.2.1 HX7_1.out.lt
          have HX8_2 : Hid (DkAt w8 Y (a ++ s) x b y) := HX7_2.out.below HT.out.2.1 HX7_2.out.lt
          have HX8_3 : Hid (DkAt w8 Z a (a.size : Int) b y) := HX7_3.out.below HT.out.2.1 HX7_3.out.lt
          have HB8 : Hid (Below D w w8) := HB7.out.trans (HT.out.2.1.mono (by have := HX7_0.out.lt; omega))
          clear hl0 c0_0 c0_1 c0_2 c0_3 f0_0 f0_1 f0_2 f0_3 hl1 c1_0 c1_1 c1_2 c1_3 f1_0 f1_1 f1_2 f1_3 hl2 c2_0 c2_1 c2_2 c2_3 f2_0 f2_1 f2_2 f2_3 hl3 c3_0 c3_1 c3_2 c3_3 f3_0 f3_1 f3_2 f3_3
          have hlast := HX7_3.out.lt
          obtain ⟨U, hU⟩ : ∃ g, w7.heap.size = g := ⟨_, rfl⟩
          rw [hU] at HT hlast ⊢
          have HX8_4 : Hid (DkAt w8 U C t b y) := HT.out.1
          have HOS : Hid (D < X ∧ X < Y ∧ Y < Z ∧ Z < U) := by have := HOS.out; refine ⟨?_, ?_, ?_, ?_⟩ <;> omega
          have HNU : Hid (w8.heap.size = U + 1) := HT.out.2.2
          clear hU HT hlast
          have hl0 := HX8_0.out.lt
          obtain ⟨c0_0, c0_1, c0_2, c0_3⟩ := HX8_0.out.cells
          obtain ⟨f0_0, f0_1, f0_2, f0_3⟩ := HX8_0.out.free
          have hl1 := HX8_1.out.lt
          obtain ⟨c1_0, c1_1, c1_2, c1_3⟩ := HX8_1.out.cells
          obtain ⟨f1_0, f1_1, f1_2, f1_3⟩ := HX8_1.out.free
          have hl2 := HX8_2.out.lt
          obtain ⟨c2_0, c2_1, c2_2, c2_3⟩ := HX8_2.out.cells
          obtain ⟨f2_0, f2_1, f2_2, f2_3⟩ := HX8_2.out.free
          have hl3 := HX8_3.out.lt
          obtain ⟨c3_0, c3_1, c3_2, c3_3⟩ := HX8_3.out.cells
          obtain ⟨f3_0, f3_1, f3_2, f3_3⟩ := HX8_3.out.free
          have hl4 := HX8_4.out.lt
          obtain ⟨c4_0, c4_1, c4_2, c4_3⟩ := HX8_4.out.cells
          obtain ⟨f4_0, f4_1, f4_2, f4_3⟩ := HX8_4.out.free
          have HT : Hid ((w8.alloc (.cells #[.string b, .int .i64 y] 23)).heap[w8.heap.size]? = some (.cells #[.string b, .int .i64 y] 23 (0, 0)) ∧ Below w8.heap.size w8 (w8.alloc (.cells #[.string b, .int .i64 y] 23)) ∧ w8.heap.size < (w8.alloc (.cells #[.string b, .int .i64 y] 23)).heap.size) := ⟨Deep.blk_alloc_new w8 _, (Below.refl _ w8).alloc (Nat.le_refl _) _, by simp⟩
          generalize w8.alloc (.cells #[.string b, .int .i64 y] 23) = w9 at HT ⊢
          have HX9_0 : Hid (DkAt w9 D a x b y) := HX8_0.out.below HT.out.2.1 HX8_0.out.lt
          have HX9_1 : Hid (DkAt w9 X ⟨#[97]⟩ 1 ⟨#[]⟩ 0) := HX8_1.out.below HT.out.2.1 HX8_1.out.lt
          have HX9_2 : Hid (DkAt w9 Y (a ++ s) x b y) := HX8_2.out.below HT.out.2.1 HX8_2.out.lt
          have HX9_3 : Hid (DkAt w9 Z a (a.size : Int) b y) := HX8_3.out.below HT.out.2.1 HX8_3.out.lt
          have HX9_4 : Hid (DkAt w9 U C t b y) := HX8_4.out.below HT.out.2.1 HX8_4.out.lt
          have HB9 : Hid (Below D w w9) := HB8.out.trans (HT.out.2.1.mono (by have := HX8_0.out.lt; omega))
          clear hl0 c0_0 c0_1 c0_2 c0_3 f0_0 f0_1 f0_2 f0_3 hl1 c1_0 c1_1 c1_2 c1_3 f1_0 f1_1 f1_2 f1_3 hl2 c2_0 c2_1 c2_2 c2_3 f2_0 f2_1 f2_2 f2_3 hl3 c3_0 c3_1 c3_2 c3_3 f3_0 f3_1 f3_2 f3_3 hl4 c4_0 c4_1 c4_2 c4_3 f4_0 f4_1 f4_2 f4_3
          rw [HNU.out] at HT
          obtain ⟨S, hS⟩ : ∃ g, U + 1 = g := ⟨_, rfl⟩
          rw [hS] at HT ⊢
          have HS1 : Hid (U + 1 = S) := hS
          clear hS
          have q0 := Lib.cell_of_heap HT.out.1 0
          have q1 := Lib.cell_of_heap HT.out.1 1
          have hlS := HT.out.2.2
          simp at q0 q1
          have hl0 := HX9_0.out.lt
          obtain ⟨c0_0, c0_1, c0_2, c0_3⟩ := HX9_0.out.cells
          obtain ⟨f0_0, f0_1, f0_2, f0_3⟩ := HX9_0.out.free
          have hl1 := HX9_1.out.lt
          obtain ⟨c1_0, c1_1, c1_2, c1_3⟩ := HX9_1.out.cells
          obtain ⟨f1_0, f1_1, f1_2, f1_3⟩ := HX9_1.out.free
          have hl2 := HX9_2.out.lt
          obtain ⟨c2_0, c2_1, c2_2, c2_3⟩ := HX9_2.out.cells
          obtain ⟨f2_0, f2_1, f2_2, f2_3⟩ := HX9_2.out.free
          have hl3 := HX9_3.out.lt
          obtain ⟨c3_0, c3_1, c3_2, c3_3⟩ := HX9_3.out.cells
          obtain ⟨f3_0, f3_1, f3_2, f3_3⟩ := HX9_3.out.free
          have hl4 := HX9_4.out.lt
          obtain ⟨c4_0, c4_1, c4_2, c4_3⟩ := HX9_4.out.cells
          obtain ⟨f4_0, f4_1, f4_2, f4_3⟩ := HX9_4.out.free
          go_wp2_with fail
          go_quiet (fail)
          rename Nat => nq
          go_wp2_with fail
          have HBq : Hid (Below w9.heap.size w9 (w9.drewN nq)) := below_drewN (Below.refl _ w9) nq
          have HY0 : Hid (DkAt (w9.drewN nq) D a x b y) := HX9_0.out.below HBq.out HX9_0.out.lt
          have HY1 : Hid (DkAt (w9.drewN nq) X ⟨#[97]⟩ 1 ⟨#[]⟩ 0) := HX9_1.out.below HBq.out HX9_1.out.lt
          have HY2 : Hid (DkAt (w9.drewN nq) Y (a ++ s) x b y) := HX9_2.out.below HBq.out HX9_2.out.lt
          have HY3 : Hid (DkAt (w9.drewN nq) Z a (a.size : Int) b y) := HX9_3.out.below HBq.out HX9_3.out.lt
          have HY4 : Hid (DkAt (w9.drewN nq) U C t b y) := HX9_4.out.below HBq.out HX9_4.out.lt
          have HBy : Hid (Below D w (w9.drewN nq)) := below_drewN HB9.out nq
          clear hl0 c0_0 c0_1 c0_2 c0_3 f0_0 f0_1 f0_2 f0_3 hl1 c1_0 c1_1 c1_2 c1_3 f1_0 f1_1 f1_2 f1_3 hl2 c2_0 c2_1 c2_2 c2_3 f2_0 f2_1 f2_2 f2_3 hl3 c3_0 c3_1 c3_2 c3_3 f3_0 f3_1 f3_2 f3_3 hl4 c4_0 c4_1 c4_2 c4_3 f4_0 f4_1 f4_2 f4_3
          clear q0 q1 hlS HBq
          generalize w9.drewN nq = W at HY0 HY1 HY2 HY3 HY4 HBy ⊢
          have hlU := HY4.out.lt
          have hlD := HY0.out.lt
          obtain ⟨c0, c1, c2, c3⟩ := HY4.out.cells
          obtain ⟨e0, e1, e2, e3⟩ := HY0.out.cells
          have hF := HF.out
          go_region_held3 (fun w' => w'.cell? ⟨U, 0, none⟩ = some (.string C) ∧ w'.cell? ⟨U, 1, none⟩ = some (.int .i64 t) ∧ w'.cell? ⟨U, 2, none⟩ = some (.string b) ∧ w'.cell? ⟨U, 3, none⟩ = some (.int .i64 y) ∧ w'.cell? ⟨D, 0, none⟩ = some (.string a)) (first | go_keep | exact dk_five0 HY4.out HY0.out HQ5.out | exact dk_five0 HY4.out HY0.out (HQ5.out.alloc HZ5.out _) | exact dk_five0 HY4.out HY0.out (below_four HQ5.out (Nat.le_refl _) _ _ _ _) | fail) (first
            | (go_at_call 9; with_reducible refine (HAq.out _).mono ?_; rintro e w2' ⟨rfl, hb2⟩; have h5 := dk_went2 (w := W) hb2; have h6 := dk_kept (w := W) hb2; obtain ⟨HQ5, HZ5⟩ := h5; obtain ⟨p0, p1, p2, p3, d0, d1, d2, d3, HZ⟩ := h6)
            | (go_at_call 9; with_reducible refine (HAq.out _).mono ?_; rintro e w2' ⟨rfl, hb2⟩; have h5 := dk_went (w := W) hb2; obtain ⟨HQ5, HZ5⟩ := h5)
            | fail)
          all_goals first
            | (have hS : Hid (DkAt ((((w2'.setCell ⟨W.heap.size, 0, none⟩ (.string a)).setCell ⟨W.heap.size, 1, none⟩ (.int .i64 t)).setCell ⟨W.heap.size, 2, none⟩ (.string b)).setCell ⟨W.heap.size, 3, none⟩ (.int .i64 y)) W.heap.size a t b y ∧ DkAt ((((w2'.setCell ⟨W.heap.size, 0, none⟩ (.string a)).setCell ⟨W.heap.size, 1, none⟩ (.int .i64 t)).setCell ⟨W.heap.size, 2, none⟩ (.string b)).setCell ⟨W.heap.size, 3, none⟩ (.int .i64 y)) D a x b y ∧ Below D w ((((w2'.setCell ⟨W.heap.size, 0, none⟩ (.string a)).setCell ⟨W.heap.size, 1, none⟩ (.int .i64 t)).setCell ⟨W.heap.size, 2, none⟩ (.string b)).setCell ⟨W.heap.size, 3, none⟩ (.int .i64 y))) := ⟨(((HZ.out.put0 _).put1 _).put2 _).put3 _, HY0.out.below (below_four HQ5.out (Nat.le_refl _) _ _ _ _) HY0.out.lt, below_four (HBy.out.trans (HQ5.out.mono (Nat.le_of_lt hlD))) (Nat.le_of_lt hlD) _ _ _ _⟩
               generalize ((((w2'.setCell ⟨W.heap.size, 0, none⟩ (.string a)).setCell ⟨W.heap.size, 1, none⟩ (.int .i64 t)).setCell ⟨W.heap.size, 2, none⟩ (.string b)).setCell ⟨W.heap.size, 3, none⟩ (.int .i64 y)) = WF at hS ⊢
               generalize W.heap.size = N at hS ⊢
               clear c0 c1 c2 c3 e0 e1 e2 e3
               have hn := hS.out.1.lt
               have hd := hS.out.2.1.lt
               obtain ⟨c0, c1, c2, c3⟩ := hS.out.1.cells
               obtain ⟨e0, e1, e2, e3⟩ := hS.out.2.1.cells
               go_wp2_with fail
               go_quiet (fail)
               go_wp2_with fail
               go_ret
               exact ⟨by first | rfl | simp, by rw [HW.out]; exact below_drewN hS.out.2.2 _⟩)
            | (have hS : Hid (DkAt (w2'.alloc (.cells #[.string a, .int .i64 t, .string b, .int .i64 y] 26)) w2'.heap.size a t b y ∧ DkAt (w2'.alloc (.cells #[.string a, .int .i64 t, .string b, .int .i64 y] 26)) D a x b y ∧ Below D w (w2'.alloc (.cells #[.string a, .int .i64 t, .string b, .int .i64 y] 26))) := ⟨Deep.blk_alloc_new w2' _, HY0.out.below (HQ5.out.alloc HZ5.out _) HY0.out.lt, (HBy.out.trans (HQ5.out.mono (Nat.le_of_lt hlD))).alloc (Nat.le_trans (Nat.le_of_lt hlD) HZ5.out) _⟩
               generalize w2'.alloc (.cells #[.string a, .int .i64 t, .string b, .int .i64 y] 26) = WF at hS ⊢
               generalize w2'.heap.size = N at hS ⊢
               clear c0 c1 c2 c3 e0 e1 e2 e3
               have hn := hS.out.1.lt
               have hd := hS.out.2.1.lt
               obtain ⟨c0, c1, c2, c3⟩ := hS.out.1.cells
               obtain ⟨e0, e1, e2, e3⟩ := hS.out.2.1.cells
               go_wp2_with fail
               go_quiet (fail)
               go_wp2_with fail
               go_ret
               exact ⟨by first | rfl | simp, by rw [HW.out]; exact below_drewN hS.out.2.2 _⟩)
            | fail
      · have HAp : Hid _ := fun w => DAppend_big0 a x b y s h (by omega) w ha hb hs
        clear hf
        by_cases hn : n < 0 ∨ (a.size : Int) < n
        · have HTr : Hid _ := fun w => DTrim_arg0 a x b y n h hn w ha hb
          clear h hn
          go_enter Try.func6, Try.ntmps6
          go_wp2_with fail
          have HT0 : Hid (DkAt (w.alloc (.cells #[.string a, .int .i64 x, .string b, .int .i64 y] 26)) w.heap.size a x b y ∧ Below w.heap.size w (w.alloc (.cells #[.string a, .int .i64 x, .string b, .int .i64 y] 26))) := ⟨Deep.blk_alloc_new w _, (Below.refl _ w).alloc (Nat.le_refl _) _⟩
          generalize w.alloc (.cells #[.string a, .int .i64 x, .string b, .int .i64 y] 26) = w0 at HT0 ⊢
          obtain ⟨D, hD⟩ : ∃ D, w.heap.size = D := ⟨_, rfl⟩
          rw [hD] at HT0 ⊢
          have HW : Hid (w.heap.size = D) := hD
          clear hD
          have HX0_0 : Hid _ := HT0.out.1
          have HB0 : Hid _ := HT0.out.2
          clear HT0
          change Hid (DkAt w0 D a x b y) at HX0_0
          change Hid (Below D w w0) at HB0
          have hz1_0 := HX0_0.out.lt
          with_reducible refine (HT1.out _).mono ?_
          rintro e w1 ⟨rfl, hb1⟩
          have HX1_0 : Hid (DkAt w1 D a x b y) := HX0_0.out.below hb1 (by omega)
          have HB1 : Hid (Below D w w1) := HB0.out.trans (hb1.mono (by omega))
          clear hz1_0 hb1
          have hl0 := HX1_0.out.lt
          obtain ⟨c0_0, c0_1, c0_2, c0_3⟩ := HX1_0.out.cells
          obtain ⟨f0_0, f0_1, f0_2, f0_3⟩ := HX1_0.out.free
          go_wp2_with fail
          have HT : Hid (DkAt (w1.alloc (.cells #[.string ⟨#[97]⟩, .int .i64 1, .string ⟨#[]⟩, .int .i64 0] 26)) w1.heap.size ⟨#[97]⟩ 1 ⟨#[]⟩ 0 ∧ Below w1.heap.size w1 (w1.alloc (.cells #[.string ⟨#[97]⟩, .int .i64 1, .string ⟨#[]⟩, .int .i64 0] 26)) ∧ (w1.alloc (.cells #[.string ⟨#[97]⟩, .int .i64 1, .string ⟨#[]⟩, .int .i64 0] 26)).heap.size = w1.heap.size + 1) := ⟨Deep.blk_alloc_new w1 _, (Below.refl _ w1).alloc (Nat.le_refl _) _, by simp⟩
          generalize w1.alloc (.cells #[.string ⟨#[97]⟩, .int .i64 1, .string ⟨#[]⟩, .int .i64 0] 26) = w2 at HT ⊢
          have HX2_0 : Hid (DkAt w2 D a x b y) := HX1_0.out.below HT.out.2.1 HX1_0.out.lt
          have HB2 : Hid (Below D w w2) := HB1.out.trans (HT.out.2.1.mono (by have := HX1_0.out.lt; omega))
          clear hl0 c0_0 c0_1 c0_2 c0_3 f0_0 f0_1 f0_2 f0_3
          have hlast := HX1_0.out.lt
          obtain ⟨X, hX⟩ : ∃ g, w1.heap.size = g := ⟨_, rfl⟩
          rw [hX] at HT hlast ⊢
          have HX2_1 : Hid (DkAt w2 X ⟨#[97]⟩ 1 ⟨#[]⟩ 0) := HT.out.1
          have HOS : Hid (D < X) := hlast
          have HNX : Hid (w2.heap.size = X + 1) := HT.out.2.2
          clear hX HT hlast
          have hz3_0 := HX2_0.out.lt
          have hz3_1 := HX2_1.out.lt
          with_reducible refine (HAp.out _).mono ?_
          rintro e w3 ⟨rfl, hb3⟩
          have HX3_0 : Hid (DkAt w3 D a x b y) := HX2_0.out.below hb3 (by omega)
          have HX3_1 : Hid (DkAt w3 X ⟨#[97]⟩ 1 ⟨#[]⟩ 0) := HX2_1.out.below hb3 (by omega)
          have HB3 : Hid (Below D w w3) := HB2.out.trans (hb3.mono (by omega))
          clear hz3_0 hz3_1 hb3
          have hl0 := HX3_0.out.lt
          obtain ⟨c0_0, c0_1, c0_2, c0_3⟩ := HX3_0.out.cells
          obtain ⟨f0_0, f0_1, f0_2, f0_3⟩ := HX3_0.out.free
          have hl1 := HX3_1.out.lt
          obtain ⟨c1_0, c1_1, c1_2, c1_3⟩ := HX3_1.out.cells
          obtain ⟨f1_0, f1_1, f1_2, f1_3⟩ := HX3_1.out.free
          go_wp2_with fail
          have HT : Hid (DkAt (w3.alloc (.cells #[.string ⟨#[]⟩, .int .i64 0, .string ⟨#[]⟩, .int .i64 0] 26)) w3.heap.size ⟨#[]⟩ 0 ⟨#[]⟩ 0 ∧ Below w3.heap.size w3 (w3.alloc (.cells #[.string ⟨#[]⟩, .int .i64 0, .string ⟨#[]⟩, .int .i64 0] 26)) ∧ (w3.alloc (.cells #[.string ⟨#[]⟩, .int .i64 0, .string ⟨#[]⟩, .int .i64 0] 26)).heap.size = w3.heap.size + 1) := ⟨Deep.blk_alloc_new w3 _, (Below.refl _ w3).alloc (Nat.le_refl _) _, by simp⟩
          generalize w3.alloc (.cells #[.string ⟨#[]⟩, .int .i64 0, .string ⟨#[]⟩, .int .i64 0] 26) = w4 at HT ⊢
          have HX4_0 : Hid (DkAt w4 D a x b y) := HX3_0.out.below HT.out.2.1 HX3_0.out.lt
          have HX4_1 : Hid (DkAt w4 X ⟨#[97]⟩ 1 ⟨#[]⟩ 0) := HX3_1.out.below HT.out.2.1 HX3_1.out.lt
          have HB4 : Hid (Below D w w4) := HB3.out.trans (HT.out.2.1.mono (by have := HX3_0.out.lt; omega))
          clear hl0 c0_0 c0_1 c0_2 c0_3 f0_0 f0_1 f0_2 f0_3 hl1 c1_0 c1_1 c1_2 c1_3 f1_0 f1_1 f1_2 f1_3
          have hlast := HX3_1.out.lt
          obtain ⟨Y, hY⟩ : ∃ g, w3.heap.size = g := ⟨_, rfl⟩
          rw [hY] at HT hlast ⊢
          have HX4_2 : Hid (DkAt w4 Y ⟨#[]⟩ 0 ⟨#[]⟩ 0) := HT.out.1
          have HOS : Hid (D < X ∧ X < Y) := by have := HOS.out; refine ⟨?_, ?_⟩ <;> omega
          have HNY : Hid (w4.heap.size = Y + 1) := HT.out.2.2
          clear hY HT hlast
          have hz5_0 := HX4_0.out.lt
          have hz5_1 := HX4_1.out.lt
          have hz5_2 := HX4_2.out.lt
          with_reducible refine (HSy.out _).mono ?_
          rintro e w5 ⟨rfl, hb5⟩
          have HX5_0 : Hid (DkAt w5 D a x b y) := HX4_0.out.below hb5 (by omega)
          have HX5_1 : Hid (DkAt w5 X ⟨#[97]⟩ 1 ⟨#[]⟩ 0) := HX4_1.out.below hb5 (by omega)
          have HX5_2 : Hid (DkAt w5 Y ⟨#[]⟩ 0 ⟨#[]⟩ 0) := HX4_2.out.below hb5 (by omega)
          have HB5 : Hid (Below D w w5) := HB4.out.trans (hb5.mono (by omega))
          clear hz5_0 hz5_1 hz5_2 hb5
          have hl0 := HX5_0.out.lt
          obtain ⟨c0_0, c0_1, c0_2, c0_3⟩ := HX5_0.out.cells
          obtain ⟨f0_0, f0_1, f0_2, f0_3⟩ := HX5_0.out.free
          have hl1 := HX5_1.out.lt
          obtain ⟨c1_0, c1_1, c1_2, c1_3⟩ := HX5_1.out.cells
          obtain ⟨f1_0, f1_1, f1_2, f1_3⟩ := HX5_1.out.free
          have hl2 := HX5_2.out.lt
          obtain ⟨c2_0, c2_1, c2_2, c2_3⟩ := HX5_2.out.cells
          obtain ⟨f2_0, f2_1, f2_2, f2_3⟩ := HX5_2.out.free
          go_wp2_with fail
          have HT : Hid (DkAt (w5.alloc (.cells #[.string a, .int .i64 (a.size : Int), .string b, .int .i64 y] 26)) w5.heap.size a (a.size : Int) b y ∧ Below w5.heap.size w5 (w5.alloc (.cells #[.string a, .int .i64 (a.size : Int), .string b, .int .i64 y] 26)) ∧ (w5.alloc (.cells #[.string a, .int .i64 (a.size : Int), .string b, .int .i64 y] 26)).heap.size = w5.heap.size + 1) := ⟨Deep.blk_alloc_new w5 _, (Below.refl _ w5).alloc (Nat.le_refl _) _, by simp⟩
          generalize w5.alloc (.cells #[.string a, .int .i64 (a.size : Int), .string b, .int .i64 y] 26) = w6 at HT ⊢
          have HX6_0 : Hid (DkAt w6 D a x b y) := HX5_0.out.below HT.out.2.1 HX5_0.out.lt
          have HX6_1 : Hid (DkAt w6 X ⟨#[97]⟩ 1 ⟨#[]⟩ 0) := HX5_1.out.below HT.out.2.1 HX5_1.out.lt
          have HX6_2 : Hid (DkAt w6 Y ⟨#[]⟩ 0 ⟨#[]⟩ 0) := HX5_2.out.below HT.out.2.1 HX5_2.out.lt
          have HB6 : Hid (Below D w w6) := HB5.out.trans (HT.out.2.1.mono (by have := HX5_0.out.lt; omega))
          clear hl0 c0_0 c0_1 c0_2 c0_3 f0_0 f0_1 f0_2 f0_3 hl1 c1_0 c1_1 c1_2 c1_3 f1_0 f1_1 f1_2 f1_3 hl2 c2_0 c2_1 c2_2 c2_3 f2_0 f2_1 f2_2 f2_3
          have hlast := HX5_2.out.lt
          obtain ⟨Z, hZ⟩ : ∃ g, w5.heap.size = g := ⟨_, rfl⟩
          rw [hZ] at HT hlast ⊢
          have HX6_3 : Hid (DkAt w6 Z a (a.size : Int) b y) := HT.out.1
          have HOS : Hid (D < X ∧ X < Y ∧ Y < Z) := by have := HOS.out; refine ⟨?_, ?_, ?_⟩ <;> omega
          have HNZ : Hid (w6.heap.size = Z + 1) := HT.out.2.2
          clear hZ HT hlast
          have hz7_0 := HX6_0.out.lt
          have hz7_1 := HX6_1.out.lt
          have hz7_2 := HX6_2.out.lt
          have hz7_3 := HX6_3.out.lt
          with_reducible refine (HTr.out _).mono ?_
          rintro e w7 ⟨rfl, hb7⟩
          have HX7_0 : Hid (DkAt w7 D a x b y) := HX6_0.out.below hb7 (by omega)
          have HX7_1 : Hid (DkAt w7 X ⟨#[97]⟩ 1 ⟨#[]⟩ 0) := HX6_1.out.below hb7 (by omega)
          have HX7_2 : Hid (DkAt w7 Y ⟨#[]⟩ 0 ⟨#[]⟩ 0) := HX6_2.out.below hb7 (by omega)
          have HX7_3 : Hid (DkAt w7 Z a (a.size : Int) b y) := HX6_3.out.below hb7 (by omega)
          have HB7 : Hid (Below D w w7) := HB6.out.trans (hb7.mono (by omega))
          clear hz7_0 hz7_1 hz7_2 hz7_3 hb7
          have hl0 := HX7_0.out.lt
          obtain ⟨c0_0, c0_1, c0_2, c0_3⟩ := HX7_0.out.cells
          obtain ⟨f0_0, f0_1, f0_2, f0_3⟩ := HX7_0.out.free
          have hl1 := HX7_1.out.lt
          obtain ⟨c1_0, c1_1, c1_2, c1_3⟩ := HX7_1.out.cells
          obtain ⟨f1_0, f1_1, f1_2, f1_3⟩ := HX7_1.out.free
          have hl2 := HX7_2.out.lt
          obtain ⟨c2_0, c2_1, c2_2, c2_3⟩ := HX7_2.out.cells
          obtain ⟨f2_0, f2_1, f2_2, f2_3⟩ := HX7_2.out.free
          have hl3 := HX7_3.out.lt
          obtain ⟨c3_0, c3_1, c3_2, c3_3⟩ := HX7_3.out.cells
          obtain ⟨f3_0, f3_1, f3_2, f3_3⟩ := HX7_3.out.free
          go_wp2_with fail
          have HT : Hid (DkAt (w7.alloc (.cells #[.string ⟨#[]⟩, .int .i64 0, .string ⟨#[]⟩, .int .i64 0] 26)) w7.heap.size ⟨#[]⟩ 0 ⟨#[]⟩ 0 ∧ Below w7.heap.size w7 (w7.alloc (.cells #[.string ⟨#[]⟩, .int .i64 0, .string ⟨#[]⟩, .int .i64 0] 26)) ∧ (w7.alloc (.cells #[.string ⟨#[]⟩, .int .i64 0, .string ⟨#[]⟩, .int .i64 0] 26)).heap.size = w7.heap.size + 1) := ⟨Deep.blk_alloc_new w7 _, (Below.refl _ w7).alloc (Nat.le_refl _) _, by simp⟩
          generalize w7.alloc (.cells #[.string ⟨#[]⟩, .int .i64 0, .string ⟨#[]⟩, .int .i64 0] 26) = w8 at HT ⊢
          have HX8_0 : Hid (DkAt w8 D a x b y) := HX7_0.out.below HT.out.2.1 HX7_0.out.lt
          have HX8_1 : Hid (DkAt w8 X ⟨#[97]⟩ 1 ⟨#[]⟩ 0) := HX7_1.out.below HT.out.2.1 HX7_1.out.lt
          have HX8_2 : Hid (DkAt w8 Y ⟨#[]⟩ 0 ⟨#[]⟩ 0) := HX7_2.out.below HT.out.2.1 HX7_2.out.lt
          have HX8_3 : Hid (DkAt w8 Z a (a.size : Int) b y) := HX7_3.out.below HT.out.2.1 HX7_3.out.lt
          have HB8 : Hid (Below D w w8) := HB7.out.trans (HT.out.2.1.mono (by have := HX7_0.out.lt; omega))
          clear hl0 c0_0 c0_1 c0_2 c0_3 f0_0 f0_1 f0_2 f0_3 hl1 c1_0 c1_1 c1_2 c1_3 f1_0 f1_1 f1_2 f1_3 hl2 c2_0 c2_1 c2_2 c2_3 f2_0 f2_1 f2_2 f2_3 hl3 c3_0 c3_1 c3_2 c3_3 f3_0 f3_1 f3_2 f3_3
          have hlast := HX7_3.out.lt
          obtain ⟨U, hU⟩ : ∃ g, w7.heap.size = g := ⟨_, rfl⟩
          rw [hU] at HT hlast ⊢
          have HX8_4 : Hid (DkAt w8 U ⟨#[]⟩ 0 ⟨#[]⟩ 0) := HT.out.1
          have HOS : Hid (D < X ∧ X < Y ∧ Y < Z ∧ Z < U) := by have := HOS.out; refine ⟨?_, ?_, ?_, ?_⟩ <;> omega
          have HNU : Hid (w8.heap.size = U + 1) := HT.out.2.2
          clear hU HT hlast
          have hl0 := HX8_0.out.lt
          obtain ⟨c0_0, c0_1, c0_2, c0_3⟩ := HX8_0.out.cells
          obtain ⟨f0_0, f0_1, f0_2, f0_3⟩ := HX8_0.out.free
          have hl1 := HX8_1.out.lt
          obtain ⟨c1_0, c1_1, c1_2, c1_3⟩ := HX8_1.out.cells
          obtain ⟨f1_0, f1_1, f1_2, f1_3⟩ := HX8_1.out.free
          have hl2 := HX8_2.out.lt
          obtain ⟨c2_0, c2_1, c2_2, c2_3⟩ := HX8_2.out.cells
          obtain ⟨f2_0, f2_1, f2_2, f2_3⟩ := HX8_2.out.free
          have hl3 := HX8_3.out.lt
          obtain ⟨c3_0, c3_1, c3_2, c3_3⟩ := HX8_3.out.cells
          obtain ⟨f3_0, f3_1, f3_2, f3_3⟩ := HX8_3.out.free
          have hl4 := HX8_4.out.lt
          obtain ⟨c4_0, c4_1, c4_2, c4_3⟩ := HX8_4.out.cells
          obtain ⟨f4_0, f4_1, f4_2, f4_3⟩ := HX8_4.out.free
          have HT : Hid ((w8.alloc (.cells #[.string b, .int .i64 y] 23)).heap[w8.heap.size]? = some (.cells #[.string b, .int .i64 y] 23 (0, 0)) ∧ Below w8.heap.size w8 (w8.alloc (.cells #[.string b, .int .i64 y] 23)) ∧ w8.heap.size < (w8.alloc (.cells #[.string b, .int .i64 y] 23)).heap.size) := ⟨Deep.blk_alloc_new w8 _, (Below.refl _ w8).alloc (Nat.le_refl _) _, by simp⟩
          generalize w8.alloc (.cells #[.string b, .int .i64 y] 23) = w9 at HT ⊢
          have HX9_0 : Hid (DkAt w9 D a x b y) := HX8_0.out.below HT.out.2.1 HX8_0.out.lt
          have HX9_1 : Hid (DkAt w9 X ⟨#[97]⟩ 1 ⟨#[]⟩ 0) := HX8_1.out.below HT.out.2.1 HX8_1.out.lt
          have HX9_2 : Hid (DkAt w9 Y ⟨#[]⟩ 0 ⟨#[]⟩ 0) := HX8_2.out.below HT.out.2.1 HX8_2.out.lt
          have HX9_3 : Hid (DkAt w9 Z a (a.size : Int) b y) := HX8_3.out.below HT.out.2.1 HX8_3.out.lt
          have HX9_4 : Hid (DkAt w9 U ⟨#[]⟩ 0 ⟨#[]⟩ 0) := HX8_4.out.below HT.out.2.1 HX8_4.out.lt
          have HB9 : Hid (Below D w w9) := HB8.out.trans (HT.out.2.1.mono (by have := HX8_0.out.lt; omega))
          clear hl0 c0_0 c0_1 c0_2 c0_3 f0_0 f0_1 f0_2 f0_3 hl1 c1_0 c1_1 c1_2 c1_3 f1_0 f1_1 f1_2 f1_3 hl2 c2_0 c2_1 c2_2 c2_3 f2_0 f2_1 f2_2 f2_3 hl3 c3_0 c3_1 c3_2 c3_3 f3_0 f3_1 f3_2 f3_3 hl4 c4_0 c4_1 c4_2 c4_3 f4_0 f4_1 f4_2 f4_3
          rw [HNU.out] at HT
          obtain ⟨S, hS⟩ : ∃ g, U + 1 = g := ⟨_, rfl⟩
          rw [hS] at HT ⊢
          have HS1 : Hid (U + 1 = S) := hS
          clear hS
          have q0 := Lib.cell_of_heap HT.out.1 0
          have q1 := Lib.cell_of_heap HT.out.1 1
          have hlS := HT.out.2.2
          simp at q0 q1
          have hl0 := HX9_0.out.lt
          obtain ⟨c0_0, c0_1, c0_2, c0_3⟩ := HX9_0.out.cells
          obtain ⟨f0_0, f0_1, f0_2, f0_3⟩ := HX9_0.out.free
          have hl1 := HX9_1.out.lt
          obtain ⟨c1_0, c1_1, c1_2, c1_3⟩ := HX9_1.out.cells
          obtain ⟨f1_0, f1_1, f1_2, f1_3⟩ := HX9_1.out.free
          have hl2 := HX9_2.out.lt
          obtain ⟨c2_0, c2_1, c2_2, c2_3⟩ := HX9_2.out.cells
          obtain ⟨f2_0, f2_1, f2_2, f2_3⟩ := HX9_2.out.free
          have hl3 := HX9_3.out.lt
          obtain ⟨c3_0, c3_1, c3_2, c3_3⟩ := HX9_3.out.cells
          obtain ⟨f3_0, f3_1, f3_2, f3_3⟩ := HX9_3.out.free
          have hl4 := HX9_4.out.lt
          obtain ⟨c4_0, c4_1, c4_2, c4_3⟩ := HX9_4.out.cells
          obtain ⟨f4_0, f4_1, f4_2, f4_3⟩ := HX9_4.out.free
          go_wp2_with fail
          go_quiet (fail)
          rename Nat => nq
          go_wp2_with fail
          go_ret
          exact ⟨rfl, by rw [HW.out]; exact below_drewN HB9.out _⟩
        · obtain ⟨m, rfl⟩ : ∃ m : Nat, n = (m : Int) := ⟨n.toNat, by omega⟩
          have hm : m ≤ a.size := by omega
          have HTr : Hid _ := fun w => DTrim_ok0 a x b y m h hm w ha hb
          have HAq : Hid _ := fun w => DAppend_ok0 (a.extract 0 m) (min x m) b y (a.extract m a.size) (dks_of (dk_of (sl_of (by rw [ByteArray.size_extract]; omega) (by omega) (by rw [ByteArray.size_extract]; omega)) (sl_of (by omega) (by omega) (by omega))) (by omega)) (by rw [ByteArray.size_extract, ByteArray.size_extract]; omega) w (by rw [ByteArray.size_extract]; omega) (by omega) (by rw [ByteArray.size_extract]; omega)
          rw [extract_two a hm] at HAq
          obtain ⟨t, ht⟩ : ∃ t, min x (m : Int) = t := ⟨_, rfl⟩
          have t1 : t ≤ x := by omega
          obtain ⟨C, hC⟩ : ∃ C, a.extract 0 m = C := ⟨_, rfl⟩
          obtain ⟨F, hF⟩ : ∃ F, a.extract m a.size = F := ⟨_, rfl⟩
          rw [ht, hC] at HTr HAq
          rw [hF] at HAq
          have HF : Hid _ := hF
          have g0 : (0 : Int) ≤ (m : Int) := by omega
          have g1 : (m : Int) ≤ (a.size : Int) := by omega
          clear h hn ht hC hF
          go_enter Try.func6, Try.ntmps6
          go_wp2_with fail
          have HT0 : Hid (DkAt (w.alloc (.cells #[.string a, .int .i64 x, .string b, .int .i64 y] 26)) w.heap.size a x b y ∧ Below w.heap.size w (w.alloc (.cells #[.string a, .int .i64 x, .string b, .int .i64 y] 26))) := ⟨Deep.blk_alloc_new w _, (Below.refl _ w).alloc (Nat.le_refl _) _⟩
          generalize w.alloc (.cells #[.string a, .int .i64 x, .string b, .int .i64 y] 26) = w0 at HT0 ⊢
          obtain ⟨D, hD⟩ : ∃ D, w.heap.size = D := ⟨_, rfl⟩
          rw [hD] at HT0 ⊢
          have HW : Hid (w.heap.size = D) := hD
          clear hD
          have HX0_0 : Hid _ := HT0.out.1
          have HB0 : Hid _ := HT0.out.2
          clear HT0
          change Hid (DkAt w0 D a x b y) at HX0_0
          change Hid (Below D w w0) at HB0
          have hz1_0 := HX0_0.out.lt
          with_reducible refine (HT1.out _).mono ?_
          rintro e w1 ⟨rfl, hb1⟩
          have HX1_0 : Hid (DkAt w1 D a x b y) := HX0_0.out.below hb1 (by omega)
          have HB1 : Hid (Below D w w1) := HB0.out.trans (hb1.mono (by omega))
          clear hz1_0 hb1
          have hl0 := HX1_0.out.lt
          obtain ⟨c0_0, c0_1, c0_2, c0_3⟩ := HX1_0.out.cells
          obtain ⟨f0_0, f0_1, f0_2, f0_3⟩ := HX1_0.out.free
          go_wp2_with fail
          have HT : Hid (DkAt (w1.alloc (.cells #[.string ⟨#[97]⟩, .int .i64 1, .string ⟨#[]⟩, .int .i64 0] 26)) w1.heap.size ⟨#[97]⟩ 1 ⟨#[]⟩ 0 ∧ Below w1.heap.size w1 (w1.alloc (.cells #[.string ⟨#[97]⟩, .int .i64 1, .string ⟨#[]⟩, .int .i64 0] 26)) ∧ (w1.alloc (.cells #[.string ⟨#[97]⟩, .int .i64 1, .string ⟨#[]⟩, .int .i64 0] 26)).heap.size = w1.heap.size + 1) := ⟨Deep.blk_alloc_new w1 _, (Below.refl _ w1).alloc (Nat.le_refl _) _, by simp⟩
          generalize w1.alloc (.cells #[.string ⟨#[97]⟩, .int .i64 1, .string ⟨#[]⟩, .int .i64 0] 26) = w2 at HT ⊢
          have HX2_0 : Hid (DkAt w2 D a x b y) := HX1_0.out.below HT.out.2.1 HX1_0.out.lt
          have HB2 : Hid (Below D w w2) := HB1.out.trans (HT.out.2.1.mono (by have := HX1_0.out.lt; omega))
          clear hl0 c0_0 c0_1 c0_2 c0_3 f0_0 f0_1 f0_2 f0_3
          have hlast := HX1_0.out.lt
          obtain ⟨X, hX⟩ : ∃ g, w1.heap.size = g := ⟨_, rfl⟩
          rw [hX] at HT hlast ⊢
          have HX2_1 : Hid (DkAt w2 X ⟨#[97]⟩ 1 ⟨#[]⟩ 0) := HT.out.1
          have HOS : Hid (D < X) := hlast
          have HNX : Hid (w2.heap.size = X + 1) := HT.out.2.2
          clear hX HT hlast
          have hz3_0 := HX2_0.out.lt
          have hz3_1 := HX2_1.out.lt
          with_reducible refine (HAp.out _).mono ?_
          rintro e w3 ⟨rfl, hb3⟩
          have HX3_0 : Hid (DkAt w3 D a x b y) := HX2_0.out.below hb3 (by omega)
          have HX3_1 : Hid (DkAt w3 X ⟨#[97]⟩ 1 ⟨#[]⟩ 0) := HX2_1.out.below hb3 (by omega)
          have HB3 : Hid (Below D w w3) := HB2.out.trans (hb3.mono (by omega))
          clear hz3_0 hz3_1 hb3
          have hl0 := HX3_0.out.lt
          obtain ⟨c0_0, c0_1, c0_2, c0_3⟩ := HX3_0.out.cells
          obtain ⟨f0_0, f0_1, f0_2, f0_3⟩ := HX3_0.out.free
          have hl1 := HX3_1.out.lt
          obtain ⟨c1_0, c1_1, c1_2, c1_3⟩ := HX3_1.out.cells
          obtain ⟨f1_0, f1_1, f1_2, f1_3⟩ := HX3_1.out.free
          go_wp2_with fail
          have HT : Hid (DkAt (w3.alloc (.cells #[.string ⟨#[]⟩, .int .i64 0, .string ⟨#[]⟩, .int .i64 0] 26)) w3.heap.size ⟨#[]⟩ 0 ⟨#[]⟩ 0 ∧ Below w3.heap.size w3 (w3.alloc (.cells #[.string ⟨#[]⟩, .int .i64 0, .string ⟨#[]⟩, .int .i64 0] 26)) ∧ (w3.alloc (.cells #[.string ⟨#[]⟩, .int .i64 0, .string ⟨#[]⟩, .int .i64 0] 26)).heap.size = w3.heap.size + 1) := ⟨Deep.blk_alloc_new w3 _, (Below.refl _ w3).alloc (Nat.le_refl _) _, by simp⟩
          generalize w3.alloc (.cells #[.string ⟨#[]⟩, .int .i64 0, .string ⟨#[]⟩, .int .i64 0] 26) = w4 at HT ⊢
          have HX4_0 : Hid (DkAt w4 D a x b y) := HX3_0.out.below HT.out.2.1 HX3_0.out.lt
          have HX4_1 : Hid (DkAt w4 X ⟨#[97]⟩ 1 ⟨#[]⟩ 0) := HX3_1.out.below HT.out.2.1 HX3_1.out.lt
          have HB4 : Hid (Below D w w4) := HB3.out.trans (HT.out.2.1.mono (by have := HX3_0.out.lt; omega))
          clear hl0 c0_0 c0_1 c0_2 c0_3 f0_0 f0_1 f0_2 f0_3 hl1 c1_0 c1_1 c1_2 c1_3 f1_0 f1_1 f1_2 f1_3
          have hlast := HX3_1.out.lt
          obtain ⟨Y, hY⟩ : ∃ g, w3.heap.size = g := ⟨_, rfl⟩
          rw [hY] at HT hlast ⊢
          have HX4_2 : Hid (DkAt w4 Y ⟨#[]⟩ 0 ⟨#[]⟩ 0) := HT.out.1
          have HOS : Hid (D < X ∧ X < Y) := by have := HOS.out; refine ⟨?_, ?_⟩ <;> omega
          have HNY : Hid (w4.heap.size = Y + 1) := HT.out.2.2
          clear hY HT hlast
          have hz5_0 := HX4_0.out.lt
          have hz5_1 := HX4_1.out.lt
          have hz5_2 := HX4_2.out.lt
          with_reducible refine (HSy.out _).mono ?_
          rintro e w5 ⟨rfl, hb5⟩
          have HX5_0 : Hid (DkAt w5 D a x b y) := HX4_0.out.below hb5 (by omega)
          have HX5_1 : Hid (DkAt w5 X ⟨#[97]⟩ 1 ⟨#[]⟩ 0) := HX4_1.out.below hb5 (by omega)
          have HX5_2 : Hid (DkAt w5 Y ⟨#[]⟩ 0 ⟨#[]⟩ 0) := HX4_2.out.below hb5 (by omega)
          have HB5 : Hid (Below D w w5) := HB4.out.trans (hb5.mono (by omega))
          clear hz5_0 hz5_1 hz5_2 hb5
          have hl0 := HX5_0.out.lt
          obtain ⟨c0_0, c0_1, c0_2, c0_3⟩ := HX5_0.out.cells
          obtain ⟨f0_0, f0_1, f0_2, f0_3⟩ := HX5_0.out.free
          have hl1 := HX5_1.out.lt
          obtain ⟨c1_0, c1_1, c1_2, c1_3⟩ := HX5_1.out.cells
          obtain ⟨f1_0, f1_1, f1_2, f1_3⟩ := HX5_1.out.free
          have hl2 := HX5_2.out.lt
          obtain ⟨c2_0, c2_1, c2_2, c2_3⟩ := HX5_2.out.cells
          obtain ⟨f2_0, f2_1, f2_2, f2_3⟩ := HX5_2.out.free
          go_wp2_with fail
          have HT : Hid (DkAt (w5.alloc (.cells #[.string a, .int .i64 (a.size : Int), .string b, .int .i64 y] 26)) w5.heap.size a (a.size : Int) b y ∧ Below w5.heap.size w5 (w5.alloc (.cells #[.string a, .int .i64 (a.size : Int), .string b, .int .i64 y] 26)) ∧ (w5.alloc (.cells #[.string a, .int .i64 (a.size : Int), .string b, .int .i64 y] 26)).heap.size = w5.heap.size + 1) := ⟨Deep.blk_alloc_new w5 _, (Below.refl _ w5).alloc (Nat.le_refl _) _, by simp⟩
          generalize w5.alloc (.cells #[.string a, .int .i64 (a.size : Int), .string b, .int .i64 y] 26) = w6 at HT ⊢
          have HX6_0 : Hid (DkAt w6 D a x b y) := HX5_0.out.below HT.out.2.1 HX5_0.out.lt
          have HX6_1 : Hid (DkAt w6 X ⟨#[97]⟩ 1 ⟨#[]⟩ 0) := HX5_1.out.below HT.out.2.1 HX5_1.out.lt
          have HX6_2 : Hid (DkAt w6 Y ⟨#[]⟩ 0 ⟨#[]⟩ 0) := HX5_2.out.below HT.out.2.1 HX5_2.out.lt
          have HB6 : Hid (Below D w w6) := HB5.out.trans (HT.out.2.1.mono (by have := HX5_0.out.lt; omega))
          clear hl0 c0_0 c0_1 c0_2 c0_3 f0_0 f0_1 f0_2 f0_3 hl1 c1_0 c1_1 c1_2 c1_3 f1_0 f1_1 f1_2 f1_3 hl2 c2_0 c2_1 c2_2 c2_3 f2_0 f2_1 f2_2 f2_3
          have hlast := HX5_2.out.lt
          obtain ⟨Z, hZ⟩ : ∃ g, w5.heap.size = g := ⟨_, rfl⟩
          rw [hZ] at HT hlast ⊢
          have HX6_3 : Hid (DkAt w6 Z a (a.size : Int) b y) := HT.out.1
          have HOS : Hid (D < X ∧ X < Y ∧ Y < Z) := by have := HOS.out; refine ⟨?_, ?_, ?_⟩ <;> omega
          have HNZ : Hid (w6.heap.size = Z + 1) := HT.out.2.2
          clear hZ HT hlast
          have hz7_0 := HX6_0.out.lt
          have hz7_1 := HX6_1.out.lt
          have hz7_2 := HX6_2.out.lt
          have hz7_3 := HX6_3.out.lt
          with_reducible refine (HTr.out _).mono ?_
          rintro e w7 ⟨rfl, hb7⟩
          have HX7_0 : Hid (DkAt w7 D a x b y) := HX6_0.out.below hb7 (by omega)
          have HX7_1 : Hid (DkAt w7 X ⟨#[97]⟩ 1 ⟨#[]⟩ 0) := HX6_1.out.below hb7 (by omega)
          have HX7_2 : Hid (DkAt w7 Y ⟨#[]⟩ 0 ⟨#[]⟩ 0) := HX6_2.out.below hb7 (by omega)
          have HX7_3 : Hid (DkAt w7 Z a (a.size : Int) b y) := HX6_3.out.below hb7 (by omega)
          have HB7 : Hid (Below D w w7) := HB6.out.trans (hb7.mono (by omega))
          clear hz7_0 hz7_1 hz7_2 hz7_3 hb7
          have hl0 := HX7_0.out.lt
          obtain ⟨c0_0, c0_1, c0_2, c0_3⟩ := HX7_0.out.cells
          obtain ⟨f0_0, f0_1, f0_2, f0_3⟩ := HX7_0.out.free
          have hl1 := HX7_1.out.lt
          obtain ⟨c1_0, c1_1, c1_2, c1_3⟩ := HX7_1.out.cells
          obtain ⟨f1_0, f1_1, f1_2, f1_3⟩ := HX7_1.out.free
          have hl2 := HX7_2.out.lt
          obtain ⟨c2_0, c2_1, c2_2, c2_3⟩ := HX7_2.out.cells
          obtain ⟨f2_0, f2_1, f2_2, f2_3⟩ := HX7_2.out.free
          have hl3 := HX7_3.out.lt
          obtain ⟨c3_0, c3_1, c3_2, c3_3⟩ := HX7_3.out.cells
          obtain ⟨f3_0, f3_1, f3_2, f3_3⟩ := HX7_3.out.free
          go_wp2_with fail
          have HT : Hid (DkAt (w7.alloc (.cells #[.string C, .int .i64 t, .string b, .int .i64 y] 26)) w7.heap.size C t b y ∧ Below w7.heap.size w7 (w7.alloc (.cells #[.string C, .int .i64 t, .string b, .int .i64 y] 26)) ∧ (w7.alloc (.cells #[.string C, .int .i64 t, .string b, .int .i64 y] 26)).heap.size = w7.heap.size + 1) := ⟨Deep.blk_alloc_new w7 _, (Below.refl _ w7).alloc (Nat.le_refl _) _, by simp⟩
          generalize w7.alloc (.cells #[.string C, .int .i64 t, .string b, .int .i64 y] 26) = w8 at HT ⊢
          have HX8_0 : Hid (DkAt w8 D a x b y) := HX7_0.out.below HT.out.2.1 HX7_0.out.lt
          have HX8_1 : Hid (DkAt w8 X ⟨#[97]⟩ 1 ⟨#[]⟩ 0) := HX7_1.out.below HT.out.2.1 HX7_1.out.lt
          have HX8_2 : Hid (DkAt w8 Y ⟨#[]⟩ 0 ⟨#[]⟩ 0) := HX7_2.out.below HT.out.2.1 HX7_2.out.lt
          have HX8_3 : Hid (DkAt w8 Z a (a.size : Int) b y) := HX7_3.out.below HT.out.2.1 HX7_3.out.lt
          have HB8 : Hid (Below D w w8) := HB7.out.trans (HT.out.2.1.mono (by have := HX7_0.out.lt; omega))
          clear hl0 c0_0 c0_1 c0_2 c0_3 f0_0 f0_1 f0_2 f0_3 hl1 c1_0 c1_1 c1_2 c1_3 f1_0 f1_1 f1_2 f1_3 hl2 c2_0 c2_1 c2_2 c2_3 f2_0 f2_1 f2_2 f2_3 hl3 c3_0 c3_1 c3_2 c3_3 f3_0 f3_1 f3_2 f3_3
          have hlast := HX7_3.out.lt
          obtain ⟨U, hU⟩ : ∃ g, w7.heap.size = g := ⟨_, rfl⟩
          rw [hU] at HT hlast ⊢
          have HX8_4 : Hid (DkAt w8 U C t b y) := HT.out.1
          have HOS : Hid (D < X ∧ X < Y ∧ Y < Z ∧ Z < U) := by have := HOS.out; refine ⟨?_, ?_, ?_, ?_⟩ <;> omega
          have HNU : Hid (w8.heap.size = U + 1) := HT.out.2.2
          clear hU HT hlast
          have hl0 := HX8_0.out.lt
          obtain ⟨c0_0, c0_1, c0_2, c0_3⟩ := HX8_0.out.cells
          obtain ⟨f0_0, f0_1, f0_2, f0_3⟩ := HX8_0.out.free
          have hl1 := HX8_1.out.lt
          obtain ⟨c1_0, c1_1, c1_2, c1_3⟩ := HX8_1.out.cells
          obtain ⟨f1_0, f1_1, f1_2, f1_3⟩ := HX8_1.out.free
          have hl2 := HX8_2.out.lt
          obtain ⟨c2_0, c2_1, c2_2, c2_3⟩ := HX8_2.out.cells
          obtain ⟨f2_0, f2_1, f2_2, f2_3⟩ := HX8_2.out.free
          have hl3 := HX8_3.out.lt
          obtain ⟨c3_0, c3_1, c3_2, c3_3⟩ := HX8_3.out.cells
          obtain ⟨f3_0, f3_1, f3_2, f3_3⟩ := HX8_3.out.free
          have hl4 := HX8_4.out.lt
          obtain ⟨c4_0, c4_1, c4_2, c4_3⟩ := HX8_4.out.cells
          obtain ⟨f4_0, f4_1, f4_2, f4_3⟩ := HX8_4.out.free
          have HT : Hid ((w8.alloc (.cells #[.string b, .int .i64 y] 23)).heap[w8.heap.size]? = some (.cells #[.string b, .int .i64 y] 23 (0, 0)) ∧ Below w8.heap.size w8 (w8.alloc (.cells #[.string b, .int .i64 y] 23)) ∧ w8.heap.size < (w8.alloc (.cells #[.string b, .int .i64 y] 23)).heap.size) := ⟨Deep.blk_alloc_new w8 _, (Below.refl _ w8).alloc (Nat.le_refl _) _, by simp⟩
          generalize w8.alloc (.cells #[.string b, .int .i64 y] 23) = w9 at HT ⊢
          have HX9_0 : Hid (DkAt w9 D a x b y) := HX8_0.out.below HT.out.2.1 HX8_0.out.lt
          have HX9_1 : Hid (DkAt w9 X ⟨#[97]⟩ 1 ⟨#[]⟩ 0) := HX8_1.out.below HT.out.2.1 HX8_1.out.lt
          have HX9_2 : Hid (DkAt w9 Y ⟨#[]⟩ 0 ⟨#[]⟩ 0) := HX8_2.out.below HT.out.2.1 HX8_2.out.lt
          have HX9_3 : Hid (DkAt w9 Z a (a.size : Int) b y) := HX8_3.out.below HT.out.2.1 HX8_3.out.lt
          have HX9_4 : Hid (DkAt w9 U C t b y) := HX8_4.out.below HT.out.2.1 HX8_4.out.lt
          have HB9 : Hid (Below D w w9) := HB8.out.trans (HT.out.2.1.mono (by have := HX8_0.out.lt; omega))
          clear hl0 c0_0 c0_1 c0_2 c0_3 f0_0 f0_1 f0_2 f0_3 hl1 c1_0 c1_1 c1_2 c1_3 f1_0 f1_1 f1_2 f1_3 hl2 c2_0 c2_1 c2_2 c2_3 f2_0 f2_1 f2_2 f2_3 hl3 c3_0 c3_1 c3_2 c3_3 f3_0 f3_1 f3_2 f3_3 hl4 c4_0 c4_1 c4_2 c4_3 f4_0 f4_1 f4_2 f4_3
          rw [HNU.out] at HT
          obtain ⟨S, hS⟩ : ∃ g, U + 1 = g := ⟨_, rfl⟩
          rw [hS] at HT ⊢
          have HS1 : Hid (U + 1 = S) := hS
          clear hS
          have q0 := Lib.cell_of_heap HT.out.1 0
          have q1 := Lib.cell_of_heap HT.out.1 1
          have hlS := HT.out.2.2
          simp at q0 q1
          have hl0 := HX9_0.out.lt
          obtain ⟨c0_0, c0_1, c0_2, c0_3⟩ := HX9_0.out.cells
          obtain ⟨f0_0, f0_1, f0_2, f0_3⟩ := HX9_0.out.free
          have hl1 := HX9_1.out.lt
          obtain ⟨c1_0, c1_1, c1_2, c1_3⟩ := HX9_1.out.cells
          obtain ⟨f1_0, f1_1, f1_2, f1_3⟩ := HX9_1.out.free
          have hl2 := HX9_2.out.lt
          obtain ⟨c2_0, c2_1, c2_2, c2_3⟩ := HX9_2.out.cells
          obtain ⟨f2_0, f2_1, f2_2, f2_3⟩ := HX9_2.out.free
          have hl3 := HX9_3.out.lt
          obtain ⟨c3_0, c3_1, c3_2, c3_3⟩ := HX9_3.out.cells
          obtain ⟨f3_0, f3_1, f3_2, f3_3⟩ := HX9_3.out.free
          have hl4 := HX9_4.out.lt
          obtain ⟨c4_0, c4_1, c4_2, c4_3⟩ := HX9_4.out.cells
          obtain ⟨f4_0, f4_1, f4_2, f4_3⟩ := HX9_4.out.free
          go_wp2_with fail
          go_quiet (fail)
          rename Nat => nq
          go_wp2_with fail
          have HBq : Hid (Below w9.heap.size w9 (w9.drewN nq)) := below_drewN (Below.refl _ w9) nq
          have HY0 : Hid (DkAt (w9.drewN nq) D a x b y) := HX9_0.out.below HBq.out HX9_0.out.lt
          have HY1 : Hid (DkAt (w9.drewN nq) X ⟨#[97]⟩ 1 ⟨#[]⟩ 0) := HX9_1.out.below HBq.out HX9_1.out.lt
          have HY2 : Hid (DkAt (w9.drewN nq) Y ⟨#[]⟩ 0 ⟨#[]⟩ 0) := HX9_2.out.below HBq.out HX9_2.out.lt
          have HY3 : Hid (DkAt (w9.drewN nq) Z a (a.size : Int) b y) := HX9_3.out.below HBq.out HX9_3.out.lt
          have HY4 : Hid (DkAt (w9.drewN nq) U C t b y) := HX9_4.out.below HBq.out HX9_4.out.lt
          have HBy : Hid (Below D w (w9.drewN nq)) := below_drewN HB9.out nq
          clear hl0 c0_0 c0_1 c0_2 c0_3 f0_0 f0_1 f0_2 f0_3 hl1 c1_0 c1_1 c1_2 c1_3 f1_0 f1_1 f1_2 f1_3 hl2 c2_0 c2_1 c2_2 c2_3 f2_0 f2_1 f2_2 f2_3 hl3 c3_0 c3_1 c3_2 c3_3 f3_0 f3_1 f3_2 f3_3 hl4 c4_0 c4_1 c4_2 c4_3 f4_0 f4_1 f4_2 f4_3
          clear q0 q1 hlS HBq
          generalize w9.drewN nq = W at HY0 HY1 HY2 HY3 HY4 HBy ⊢
          have hlU := HY4.out.lt
          have hlD := HY0.out.lt
          obtain ⟨c0, c1, c2, c3⟩ := HY4.out.cells
          obtain ⟨e0, e1, e2, e3⟩ := HY0.out.cells
          have hF := HF.out
          go_region_held3 (fun w' => w'.cell? ⟨U, 0, none⟩ = some (.string C) ∧ w'.cell? ⟨U, 1, none⟩ = some (.int .i64 t) ∧ w'.cell? ⟨U, 2, none⟩ = some (.string b) ∧ w'.cell? ⟨U, 3, none⟩ = some (.int .i64 y) ∧ w'.cell? ⟨D, 0, none⟩ = some (.string a)) (first | go_keep | exact dk_five0 HY4.out HY0.out HQ5.out | exact dk_five0 HY4.out HY0.out (HQ5.out.alloc HZ5.out _) | exact dk_five0 HY4.out HY0.out (below_four HQ5.out (Nat.le_refl _) _ _ _ _) | fail) (first
            | (go_at_call 9; with_reducible refine (HAq.out _).mono ?_; rintro e w2' ⟨rfl, hb2⟩; have h5 := dk_went2 (w := W) hb2; have h6 := dk_kept (w := W) hb2; obtain ⟨HQ5, HZ5⟩ := h5; obtain ⟨p0, p1, p2, p3, d0, d1, d2, d3, HZ⟩ := h6)
            | (go_at_call 9; with_reducible refine (HAq.out _).mono ?_; rintro e w2' ⟨rfl, hb2⟩; have h5 := dk_went (w := W) hb2; obtain ⟨HQ5, HZ5⟩ := h5)
            | fail)
          all_goals first
            | (have hS : Hid (DkAt ((((w2'.setCell ⟨W.heap.size, 0, none⟩ (.string a)).setCell ⟨W.heap.size, 1, none⟩ (.int .i64 t)).setCell ⟨W.heap.size, 2, none⟩ (.string b)).setCell ⟨W.heap.size, 3, none⟩ (.int .i64 y)) W.heap.size a t b y ∧ DkAt ((((w2'.setCell ⟨W.heap.size, 0, none⟩ (.string a)).setCell ⟨W.heap.size, 1, none⟩ (.int .i64 t)).setCell ⟨W.heap.size, 2, none⟩ (.string b)).setCell ⟨W.heap.size, 3, none⟩ (.int .i64 y)) D a x b y ∧ Below D w ((((w2'.setCell ⟨W.heap.size, 0, none⟩ (.string a)).setCell ⟨W.heap.size, 1, none⟩ (.int .i64 t)).setCell ⟨W.heap.size, 2, none⟩ (.string b)).setCell ⟨W.heap.size, 3, none⟩ (.int .i64 y))) := ⟨(((HZ.out.put0 _).put1 _).put2 _).put3 _, HY0.out.below (below_four HQ5.out (Nat.le_refl _) _ _ _ _) HY0.out.lt, below_four (HBy.out.trans (HQ5.out.mono (Nat.le_of_lt hlD))) (Nat.le_of_lt hlD) _ _ _ _⟩
               generalize ((((w2'.setCell ⟨W.heap.size, 0, none⟩ (.string a)).setCell ⟨W.heap.size, 1, none⟩ (.int .i64 t)).setCell ⟨W.heap.size, 2, none⟩ (.string b)).setCell ⟨W.heap.size, 3, none⟩ (.int .i64 y)) = WF at hS ⊢
               generalize W.heap.size = N at hS ⊢
               clear c0 c1 c2 c3 e0 e1 e2 e3
               have hn := hS.out.1.lt
               have hd := hS.out.2.1.lt
               obtain ⟨c0, c1, c2, c3⟩ := hS.out.1.cells
               obtain ⟨e0, e1, e2, e3⟩ := hS.out.2.1.cells
               go_wp2_with fail
               go_quiet (fail)
               go_wp2_with fail
               go_ret
               exact ⟨by first | rfl | simp, by rw [HW.out]; exact below_drewN hS.out.2.2 _⟩)
            | (have hS : Hid (DkAt (w2'.alloc (.cells #[.string a, .int .i64 t, .string b, .int .i64 y] 26)) w2'.heap.size a t b y ∧ DkAt (w2'.alloc (.cells #[.string a, .int .i64 t, .string b, .int .i64 y] 26)) D a x b y ∧ Below D w (w2'.alloc (.cells #[.string a, .int .i64 t, .string b, .int .i64 y] 26))) := ⟨Deep.blk_alloc_new w2' _, HY0.out.below (HQ5.out.alloc HZ5.out _) HY0.out.lt, (HBy.out.trans (HQ5.out.mono (Nat.le_of_lt hlD))).alloc (Nat.le_trans (Nat.le_of_lt hlD) HZ5.out) _⟩
               generalize w2'.alloc (.cells #[.string a, .int .i64 t, .string b, .int .i64 y] 26) = WF at hS ⊢
               generalize w2'.heap.size = N at hS ⊢
               clear c0 c1 c2 c3 e0 e1 e2 e3
               have hn := hS.out.1.lt
               have hd := hS.out.2.1.lt
               obtain ⟨c0, c1, c2, c3⟩ := hS.out.1.cells
               obtain ⟨e0, e1, e2, e3⟩ := hS.out.2.1.cells
               go_wp2_with fail
               go_quiet (fail)
               go_wp2_with fail
               go_ret
               exact ⟨by first | rfl | simp, by rw [HW.out]; exact below_drewN hS.out.2.2 _⟩)
            | fail
    · have HSy : Hid _ := fun w => DSync_ok1 a x b y h w ha hb
      have hso := slot_neq a x
      by_cases hf : b.size + s.size ≤ 1048576
      · have HAp : Hid _ := fun w => DAppend_ok1 a x b y s h hf w ha hb hs
        clear hf
        by_cases hn : n < 0 ∨ (b.size : Int) < n
        · have HTr : Hid _ := fun w => DTrim_arg1 a x b y n h hn w ha hb
          clear h hn
          go_enter Try.func6, Try.ntmps6
          go_wp2_with fail
          have HT0 : Hid (DkAt (w.alloc (.cells #[.string a, .int .i64 x, .string b, .int .i64 y] 26)) w.heap.size a x b y ∧ Below w.heap.size w (w.alloc (.cells #[.string a, .int .i64 x, .string b, .int .i64 y] 26))) := ⟨Deep.blk_alloc_new w _, (Below.refl _ w).alloc (Nat.le_refl _) _⟩
          generalize w.alloc (.cells #[.string a, .int .i64 x, .string b, .int .i64 y] 26) = w0 at HT0 ⊢
          obtain ⟨D, hD⟩ : ∃ D, w.heap.size = D := ⟨_, rfl⟩
          rw [hD] at HT0 ⊢
          have HW : Hid (w.heap.size = D) := hD
          clear hD
          have HX0_0 : Hid _ := HT0.out.1
          have HB0 : Hid _ := HT0.out.2
          clear HT0
          change Hid (DkAt w0 D a x b y) at HX0_0
          change Hid (Below D w w0) at HB0
          have hz1_0 := HX0_0.out.lt
          with_reducible refine (HT1.out _).mono ?_
          rintro e w1 ⟨rfl, hb1⟩
          have HX1_0 : Hid (DkAt w1 D a x b y) := HX0_0.out.below hb1 (by omega)
          have HB1 : Hid (Below D w w1) := HB0.out.trans (hb1.mono (by omega))
          clear hz1_0 hb1
          have hl0 := HX1_0.out.lt
          obtain ⟨c0_0, c0_1, c0_2, c0_3⟩ := HX1_0.out.cells
          obtain ⟨f0_0, f0_1, f0_2, f0_3⟩ := HX1_0.out.free
          go_wp2_with fail
          have HT : Hid (DkAt (w1.alloc (.cells #[.string ⟨#[97]⟩, .int .i64 1, .string ⟨#[]⟩, .int .i64 0] 26)) w1.heap.size ⟨#[97]⟩ 1 ⟨#[]⟩ 0 ∧ Below w1.heap.size w1 (w1.alloc (.cells #[.string ⟨#[97]⟩, .int .i64 1, .string ⟨#[]⟩, .int .i64 0] 26)) ∧ (w1.alloc (.cells #[.string ⟨#[97]⟩, .int .i64 1, .string ⟨#[]⟩, .int .i64 0] 26)).heap.size = w1.heap.size + 1) := ⟨Deep.blk_alloc_new w1 _, (Below.refl _ w1).alloc (Nat.le_refl _) _, by simp⟩
          generalize w1.alloc (.cells #[.string ⟨#[97]⟩, .int .i64 1, .string ⟨#[]⟩, .int .i64 0] 26) = w2 at HT ⊢
          have HX2_0 : Hid (DkAt w2 D a x b y) := HX1_0.out.below HT.out.2.1 HX1_0.out.lt
          have HB2 : Hid (Below D w w2) := HB1.out.trans (HT.out.2.1.mono (by have := HX1_0.out.lt; omega))
          clear hl0 c0_0 c0_1 c0_2 c0_3 f0_0 f0_1 f0_2 f0_3
          have hlast := HX1_0.out.lt
          obtain ⟨X, hX⟩ : ∃ g, w1.heap.size = g := ⟨_, rfl⟩
          rw [hX] at HT hlast ⊢
          have HX2_1 : Hid (DkAt w2 X ⟨#[97]⟩ 1 ⟨#[]⟩ 0) := HT.out.1
          have HOS : Hid (D < X) := hlast
          have HNX : Hid (w2.heap.size = X + 1) := HT.out.2.2
          clear hX HT hlast
          have hz3_0 := HX2_0.out.lt
          have hz3_1 := HX2_1.out.lt
          with_reducible refine (HAp.out _).mono ?_
          rintro e w3 ⟨rfl, hb3⟩
          have HX3_0 : Hid (DkAt w3 D a x b y) := HX2_0.out.below hb3 (by omega)
          have HX3_1 : Hid (DkAt w3 X ⟨#[97]⟩ 1 ⟨#[]⟩ 0) := HX2_1.out.below hb3 (by omega)
          have HB3 : Hid (Below D w w3) := HB2.out.trans (hb3.mono (by omega))
          clear hz3_0 hz3_1 hb3
          have hl0 := HX3_0.out.lt
          obtain ⟨c0_0, c0_1, c0_2, c0_3⟩ := HX3_0.out.cells
          obtain ⟨f0_0, f0_1, f0_2, f0_3⟩ := HX3_0.out.free
          have hl1 := HX3_1.out.lt
          obtain ⟨c1_0, c1_1, c1_2, c1_3⟩ := HX3_1.out.cells
          obtain ⟨f1_0, f1_1, f1_2, f1_3⟩ := HX3_1.out.free
          go_wp2_with fail
          have HT : Hid (DkAt (w3.alloc (.cells #[.string a, .int .i64 x, .string (b ++ s), .int .i64 y] 26)) w3.heap.size a x (b ++ s) y ∧ Below w3.heap.size w3 (w3.alloc (.cells #[.string a, .int .i64 x, .string (b ++ s), .int .i64 y] 26)) ∧ (w3.alloc (.cells #[.string a, .int .i64 x, .string (b ++ s), .int .i64 y] 26)).heap.size = w3.heap.size + 1) := ⟨Deep.blk_alloc_new w3 _, (Below.refl _ w3).alloc (Nat.le_refl _) _, by simp⟩
          generalize w3.alloc (.cells #[.string a, .int .i64 x, .string (b ++ s), .int .i64 y] 26) = w4 at HT ⊢
          have HX4_0 : Hid (DkAt w4 D a x b y) := HX3_0.out.below HT.out.2.1 HX3_0.out.lt
          have HX4_1 : Hid (DkAt w4 X ⟨#[97]⟩ 1 ⟨#[]⟩ 0) := HX3_1.out.below HT.out.2.1 HX3_1.out.lt
          have HB4 : Hid (Below D w w4) := HB3.out.trans (HT.out.2.1.mono (by have := HX3_0.out.lt; omega))
          clear hl0 c0_0 c0_1 c0_2 c0_3 f0_0 f0_1 f0_2 f0_3 hl1 c1_0 c1_1 c1_2 c1_3 f1_0 f1_1 f1_2 f1_3
          have hlast := HX3_1.out.lt
          obtain ⟨Y, hY⟩ : ∃ g, w3.heap.size = g := ⟨_, rfl⟩
          rw [hY] at HT hlast ⊢
          have HX4_2 : Hid (DkAt w4 Y a x (b ++ s) y) := HT.out.1
          have HOS : Hid (D < X ∧ X < Y) := by have := HOS.out; refine ⟨?_, ?_⟩ <;> omega
          have HNY : Hid (w4.heap.size = Y + 1) := HT.out.2.2
          clear hY HT hlast
          have hz5_0 := HX4_0.out.lt
          have hz5_1 := HX4_1.out.lt
          have hz5_2 := HX4_2.out.lt
          with_reducible refine (HSy.out _).mono ?_
          rintro e w5 ⟨rfl, hb5⟩
          have HX5_0 : Hid (DkAt w5 D a x b y) := HX4_0.out.below hb5 (by omega)
          have HX5_1 : Hid (DkAt w5 X ⟨#[97]⟩ 1 ⟨#[]⟩ 0) := HX4_1.out.below hb5 (by omega)
          have HX5_2 : Hid (DkAt w5 Y a x (b ++ s) y) := HX4_2.out.below hb5 (by omega)
          have HB5 : Hid (Below D w w5) := HB4.out.trans (hb5.mono (by omega))
          clear hz5_0 hz5_1 hz5_2 hb5
          have hl0 := HX5_0.out.lt
          obtain ⟨c0_0, c0_1, c0_2, c0_3⟩ := HX5_0.out.cells
          obtain ⟨f0_0, f0_1, f0_2, f0_3⟩ := HX5_0.out.free
          have hl1 := HX5_1.out.lt
          obtain ⟨c1_0, c1_1, c1_2, c1_3⟩ := HX5_1.out.cells
          obtain ⟨f1_0, f1_1, f1_2, f1_3⟩ := HX5_1.out.free
          have hl2 := HX5_2.out.lt
          obtain ⟨c2_0, c2_1, c2_2, c2_3⟩ := HX5_2.out.cells
          obtain ⟨f2_0, f2_1, f2_2, f2_3⟩ := HX5_2.out.free
          go_wp2_with fail
          have HT : Hid (DkAt (w5.alloc (.cells #[.string a, .int .i64 x, .string b, .int .i64 (b.size : Int)] 26)) w5.heap.size a x b (b.size : Int) ∧ Below w5.heap.size w5 (w5.alloc (.cells #[.string a, .int .i64 x, .string b, .int .i64 (b.size : Int)] 26)) ∧ (w5.alloc (.cells #[.string a, .int .i64 x, .string b, .int .i64 (b.size : Int)] 26)).heap.size = w5.heap.size + 1) := ⟨Deep.blk_alloc_new w5 _, (Below.refl _ w5).alloc (Nat.le_refl _) _, by simp⟩
          generalize w5.alloc (.cells #[.string a, .int .i64 x, .string b, .int .i64 (b.size : Int)] 26) = w6 at HT ⊢
          have HX6_0 : Hid (DkAt w6 D a x b y) := HX5_0.out.below HT.out.2.1 HX5_0.out.lt
          have HX6_1 : Hid (DkAt w6 X ⟨#[97]⟩ 1 ⟨#[]⟩ 0) := HX5_1.out.below HT.out.2.1 HX5_1.out.lt
          have HX6_2 : Hid (DkAt w6 Y a x (b ++ s) y) := HX5_2.out.below HT.out.2.1 HX5_2.out.lt
          have HB6 : Hid (Below D w w6) := HB5.out.trans (HT.out.2.1.mono (by have := HX5_0.out.lt; omega))
          clear hl0 c0_0 c0_1 c0_2 c0_3 f0_0 f0_1 f0_2 f0_3 hl1 c1_0 c1_1 c1_2 c1_3 f1_0 f1_1 f1_2 f1_3 hl2 c2_0 c2_1 c2_2 c2_3 f2_0 f2_1 f2_2 f2_3
          have hlast := HX5_2.out.lt
          obtain ⟨Z, hZ⟩ : ∃ g, w5.heap.size = g := ⟨_, rfl⟩
          rw [hZ] at HT hlast ⊢
          have HX6_3 : Hid (DkAt w6 Z a x b (b.size : Int)) := HT.out.1
          have HOS : Hid (D < X ∧ X < Y ∧ Y < Z) := by have := HOS.out; refine ⟨?_, ?_, ?_⟩ <;> omega
          have HNZ : Hid (w6.heap.size = Z + 1) := HT.out.2.2
          clear hZ HT hlast
          have hz7_0 := HX6_0.out.lt
          have hz7_1 := HX6_1.out.lt
          have hz7_2 := HX6_2.out.lt
          have hz7_3 := HX6_3.out.lt
          with_reducible refine (HTr.out _).mono ?_
          rintro e w7 ⟨rfl, hb7⟩
          have HX7_0 : Hid (DkAt w7 D a x b y) := HX6_0.out.below hb7 (by omega)
          have HX7_1 : Hid (DkAt w7 X ⟨#[97]⟩ 1 ⟨#[]⟩ 0) := HX6_1.out.below hb7 (by omega)
          have HX7_2 : Hid (DkAt w7 Y a x (b ++ s) y) := HX6_2.out.below hb7 (by omega)
          have HX7_3 : Hid (DkAt w7 Z a x b (b.size : Int)) := HX6_3.out.below hb7 (by omega)
          have HB7 : Hid (Below D w w7) := HB6.out.trans (hb7.mono (by omega))
          clear hz7_0 hz7_1 hz7_2 hz7_3 hb7
          have hl0 := HX7_0.out.lt
          obtain ⟨c0_0, c0_1, c0_2, c0_3⟩ := HX7_0.out.cells
          obtain ⟨f0_0, f0_1, f0_2, f0_3⟩ := HX7_0.out.free
          have hl1 := HX7_1.out.lt
          obtain ⟨c1_0, c1_1, c1_2, c1_3⟩ := HX7_1.out.cells
          obtain ⟨f1_0, f1_1, f1_2, f1_3⟩ := HX7_1.out.free
          have hl2 := HX7_2.out.lt
          obtain ⟨c2_0, c2_1, c2_2, c2_3⟩ := HX7_2.out.cells
          obtain ⟨f2_0, f2_1, f2_2, f2_3⟩ := HX7_2.out.free
          have hl3 := HX7_3.out.lt
          obtain ⟨c3_0, c3_1, c3_2, c3_3⟩ := HX7_3.out.cells
          obtain ⟨f3_0, f3_1, f3_2, f3_3⟩ := HX7_3.out.free
          go_wp2_with fail
          have HT : Hid (DkAt (w7.alloc (.cells #[.string ⟨#[]⟩, .int .i64 0, .string ⟨#[]⟩, .int .i64 0] 26)) w7.heap.size ⟨#[]⟩ 0 ⟨#[]⟩ 0 ∧ Below w7.heap.size w7 (w7.alloc (.cells #[.string ⟨#[]⟩, .int .i64 0, .string ⟨#[]⟩, .int .i64 0] 26)) ∧ (w7.alloc (.cells #[.string ⟨#[]⟩, .int .i64 0, .string ⟨#[]⟩, .int .i64 0] 26)).heap.size = w7.heap.size + 1) := ⟨Deep.blk_alloc_new w7 _, (Below.refl _ w7).alloc (Nat.le_refl _) _, by simp⟩
          generalize w7.alloc (.cells #[.string ⟨#[]⟩, .int .i64 0, .string ⟨#[]⟩, .int .i64 0] 26) = w8 at HT ⊢
          have HX8_0 : Hid (DkAt w8 D a x b y) := HX7_0.out.below HT.out.2.1 HX7_0.out.lt
          have HX8_1 : Hid (DkAt w8 X ⟨#[97]⟩ 1 ⟨#[]⟩ 0) := HX7_1.out.below HT.out.2.1 HX7_1.out.lt
          have HX8_2 : Hid (DkAt w8 Y a x (b ++ s) y) := HX7_2.out.below HT.out.2.1 HX7_2.out.lt
          have HX8_3 : Hid (DkAt w8 Z a x b (b.size : Int)) := HX7_3.out.below HT.out.2.1 HX7_3.out.lt
          have HB8 : Hid (Below D w w8) := HB7.out.trans (HT.out.2.1.mono (by have := HX7_0.out.lt; omega))
          clear hl0 c0_0 c0_1 c0_2 c0_3 f0_0 f0_1 f0_2 f0_3 hl1 c1_0 c1_1 c1_2 c1_3 f1_0 f1_1 f1_2 f1_3 hl2 c2_0 c2_1 c2_2 c2_3 f2_0 f2_1 f2_2 f2_3 hl3 c3_0 c3_1 c3_2 c3_3 f3_0 f3_1 f3_2 f3_3
          have hlast := HX7_3.out.lt
          obtain ⟨U, hU⟩ : ∃ g, w7.heap.size = g := ⟨_, rfl⟩
          rw [hU] at HT hlast ⊢
          have HX8_4 : Hid (DkAt w8 U ⟨#[]⟩ 0 ⟨#[]⟩ 0) := HT.out.1
          have HOS : Hid (D < X ∧ X < Y ∧ Y < Z ∧ Z < U) := by have := HOS.out; refine ⟨?_, ?_, ?_, ?_⟩ <;> omega
          have HNU : Hid (w8.heap.size = U + 1) := HT.out.2.2
          clear hU HT hlast
          have hl0 := HX8_0.out.lt
          obtain ⟨c0_0, c0_1, c0_2, c0_3⟩ := HX8_0.out.cells
          obtain ⟨f0_0, f0_1, f0_2, f0_3⟩ := HX8_0.out.free
          have hl1 := HX8_1.out.lt
          obtain ⟨c1_0, c1_1, c1_2, c1_3⟩ := HX8_1.out.cells
          obtain ⟨f1_0, f1_1, f1_2, f1_3⟩ := HX8_1.out.free
          have hl2 := HX8_2.out.lt
          obtain ⟨c2_0, c2_1, c2_2, c2_3⟩ := HX8_2.out.cells
          obtain ⟨f2_0, f2_1, f2_2, f2_3⟩ := HX8_2.out.free
          have hl3 := HX8_3.out.lt
          obtain ⟨c3_0, c3_1, c3_2, c3_3⟩ := HX8_3.out.cells
          obtain ⟨f3_0, f3_1, f3_2, f3_3⟩ := HX8_3.out.free
          have hl4 := HX8_4.out.lt
          obtain ⟨c4_0, c4_1, c4_2, c4_3⟩ := HX8_4.out.cells
          obtain ⟨f4_0, f4_1, f4_2, f4_3⟩ := HX8_4.out.free
          have HT : Hid ((w8.alloc (.cells #[.string a, .int .i64 x] 23)).heap[w8.heap.size]? = some (.cells #[.string a, .int .i64 x] 23 (0, 0)) ∧ Below w8.heap.size w8 (w8.alloc (.cells #[.string a, .int .i64 x] 23)) ∧ w8.heap.size < (w8.alloc (.cells #[.string a, .int .i64 x] 23)).heap.size) := ⟨Deep.blk_alloc_new w8 _, (Below.refl _ w8).alloc (Nat.le_refl _) _, by simp⟩
          generalize w8.alloc (.cells #[.string a, .int .i64 x] 23) = w9 at HT ⊢
          have HX9_0 : Hid (DkAt w9 D a x b y) := HX8_0.out.below HT.out.2.1 HX8_0.out.lt
          have HX9_1 : Hid (DkAt w9 X ⟨#[97]⟩ 1 ⟨#[]⟩ 0) := HX8_1.out.below HT.out.2.1 HX8_1.out.lt
          have HX9_2 : Hid (DkAt w9 Y a x (b ++ s) y) := HX8_2.out.below HT.out.2.1 HX8_2.out.lt
          have HX9_3 : Hid (DkAt w9 Z a x b (b.size : Int)) := HX8_3.out.below HT.out.2.1 HX8_3.out.lt
          have HX9_4 : Hid (DkAt w9 U ⟨#[]⟩ 0 ⟨#[]⟩ 0) := HX8_4.out.below HT.out.2.1 HX8_4.out.lt
          have HB9 : Hid (Below D w w9) := HB8.out.trans (HT.out.2.1.mono (by have := HX8_0.out.lt; omega))
          clear hl0 c0_0 c0_1 c0_2 c0_3 f0_0 f0_1 f0_2 f0_3 hl1 c1_0 c1_1 c1_2 c1_3 f1_0 f1_1 f1_2 f1_3 hl2 c2_0 c2_1 c2_2 c2_3 f2_0 f2_1 f2_2 f2_3 hl3 c3_0 c3_1 c3_2 c3_3 f3_0 f3_1 f3_2 f3_3 hl4 c4_0 c4_1 c4_2 c4_3 f4_0 f4_1 f4_2 f4_3
          rw [HNU.out] at HT
          obtain ⟨S, hS⟩ : ∃ g, U + 1 = g := ⟨_, rfl⟩
          rw [hS] at HT ⊢
          have HS1 : Hid (U + 1 = S) := hS
          clear hS
          have q0 := Lib.cell_of_heap HT.out.1 0
          have q1 := Lib.cell_of_heap HT.out.1 1
          have hlS := HT.out.2.2
          simp at q0 q1
          have hl0 := HX9_0.out.lt
          obtain ⟨c0_0, c0_1, c0_2, c0_3⟩ := HX9_0.out.cells
          obtain ⟨f0_0, f0_1, f0_2, f0_3⟩ := HX9_0.out.free
          have hl1 := HX9_1.out.lt
          obtain ⟨c1_0, c1_1, c1_2, c1_3⟩ := HX9_1.out.cells
          obtain ⟨f1_0, f1_1, f1_2, f1_3⟩ := HX9_1.out.free
          have hl2 := HX9_2.out.lt
          obtain ⟨c2_0, c2_1, c2_2, c2_3⟩ := HX9_2.out.cells
          obtain ⟨f2_0, f2_1, f2_2, f2_3⟩ := HX9_2.out.free
          have hl3 := HX9_3.out.lt
          obtain ⟨c3_0, c3_1, c3_2, c3_3⟩ := HX9_3.out.cells
          obtain ⟨f3_0, f3_1, f3_2, f3_3⟩ := HX9_3.out.free
          have hl4 := HX9_4.out.lt
          obtain ⟨c4_0, c4_1, c4_2, c4_3⟩ := HX9_4.out.cells
          obtain ⟨f4_0, f4_1, f4_2, f4_3⟩ := HX9_4.out.free
          go_wp2_with fail
          go_quiet (fail)
          rename Nat => nq
          go_wp2_with fail
          go_ret
          exact ⟨rfl, by rw [HW.out]; exact below_drewN HB9.out _⟩
        · obtain ⟨m, rfl⟩ : ∃ m : Nat, n = (m : Int) := ⟨n.toNat, by omega⟩
          have hm : m ≤ b.size := by omega
          have HTr : Hid _ := fun w => DTrim_ok1 a x b y m h hm w ha hb
          have HAq : Hid _ := fun w => DAppend_ok1 a x (b.extract 0 m) (min y m) (b.extract m b.size) (dks_of (dk_of (sl_of (by omega) (by omega) (by omega)) (sl_of (by rw [ByteArray.size_extract]; omega) (by omega) (by rw [ByteArray.size_extract]; omega))) (by omega)) (by rw [ByteArray.size_extract, ByteArray.size_extract]; omega) w (by omega) (by rw [ByteArray.size_extract]; omega) (by rw [ByteArray.size_extract]; omega)
          rw [extract_two b hm] at HAq
          obtain ⟨t, ht⟩ : ∃ t, min y (m : Int) = t := ⟨_, rfl⟩
          have t1 : t ≤ y := by omega
          obtain ⟨C, hC⟩ : ∃ C, b.extract 0 m = C := ⟨_, rfl⟩
          obtain ⟨F, hF⟩ : ∃ F, b.extract m b.size = F := ⟨_, rfl⟩
          rw [ht, hC] at HTr HAq
          rw [hF] at HAq
          have HF : Hid _ := hF
          have g0 : (0 : Int) ≤ (m : Int) := by omega
          have g1 : (m : Int) ≤ (b.size : Int) := by omega
          clear h hn ht hC hF
          go_enter Try.func6, Try.ntmps6
          go_wp2_with fail
          have HT0 : Hid (DkAt (w.alloc (.cells #[.string a, .int .i64 x, .string b, .int .i64 y] 26)) w.heap.size a x b y ∧ Below w.heap.size w (w.alloc (.cells #[.string a, .int .i64 x, .string b, .int .i64 y] 26))) := ⟨Deep.blk_alloc_new w _, (Below.refl _ w).alloc (Nat.le_refl _) _⟩
          generalize w.alloc (.cells #[.string a, .int .i64 x, .string b, .int .i64 y] 26) = w0 at HT0 ⊢
          obtain ⟨D, hD⟩ : ∃ D, w.heap.size = D := ⟨_, rfl⟩
          rw [hD] at HT0 ⊢
          have HW : Hid (w.heap.size = D) := hD
          clear hD
          have HX0_0 : Hid _ := HT0.out.1
          have HB0 : Hid _ := HT0.out.2
          clear HT0
          change Hid (DkAt w0 D a x b y) at HX0_0
          change Hid (Below D w w0) at HB0
          have hz1_0 := HX0_0.out.lt
          with_reducible refine (HT1.out _).mono ?_
          rintro e w1 ⟨rfl, hb1⟩
          have HX1_0 : Hid (DkAt w1 D a x b y) := HX0_0.out.below hb1 (by omega)
          have HB1 : Hid (Below D w w1) := HB0.out.trans (hb1.mono (by omega))
          clear hz1_0 hb1
          have hl0 := HX1_0.out.lt
          obtain ⟨c0_0, c0_1, c0_2, c0_3⟩ := HX1_0.out.cells
          obtain ⟨f0_0, f0_1, f0_2, f0_3⟩ := HX1_0.out.free
          go_wp2_with fail
          have HT : Hid (DkAt (w1.alloc (.cells #[.string ⟨#[97]⟩, .int .i64 1, .string ⟨#[]⟩, .int .i64 0] 26)) w1.heap.size ⟨#[97]⟩ 1 ⟨#[]⟩ 0 ∧ Below w1.heap.size w1 (w1.alloc (.cells #[.string ⟨#[97]⟩, .int .i64 1, .string ⟨#[]⟩, .int .i64 0] 26)) ∧ (w1.alloc (.cells #[.string ⟨#[97]⟩, .int .i64 1, .string ⟨#[]⟩, .int .i64 0] 26)).heap.size = w1.heap.size + 1) := ⟨Deep.blk_alloc_new w1 _, (Below.refl _ w1).alloc (Nat.le_refl _) _, by simp⟩
          generalize w1.alloc (.cells #[.string ⟨#[97]⟩, .int .i64 1, .string ⟨#[]⟩, .int .i64 0] 26) = w2 at HT ⊢
          have HX2_0 : Hid (DkAt w2 D a x b y) := HX1_0.out.below HT.out.2.1 HX1_0.out.lt
          have HB2 : Hid (Below D w w2) := HB1.out.trans (HT.out.2.1.mono (by have := HX1_0.out.lt; omega))
          clear hl0 c0_0 c0_1 c0_2 c0_3 f0_0 f0_1 f0_2 f0_3
          have hlast := HX1_0.out.lt
          obtain ⟨X, hX⟩ : ∃ g, w1.heap.size = g := ⟨_, rfl⟩
          rw [hX] at HT hlast ⊢
          have HX2_1 : Hid (DkAt w2 X ⟨#[97]⟩ 1 ⟨#[]⟩ 0) := HT.out.1
          have HOS : Hid (D < X) := hlast
          have HNX : Hid (w2.heap.size = X + 1) := HT.out.2.2
          clear hX HT hlast
          have hz3_0 := HX2_0.out.lt
          have hz3_1 := HX2_1.out.lt
          with_reducible refine (HAp.out _).mono ?_
          rintro e w3 ⟨rfl, hb3⟩
          have HX3_0 : Hid (DkAt w3 D a x b y) := HX2_0.out.below hb3 (by omega)
          have HX3_1 : Hid (DkAt w3 X ⟨#[97]⟩ 1 ⟨#[]⟩ 0) := HX2_1.out.below hb3 (by omega)
          have HB3 : Hid (Below D w w3) := HB2.out.trans (hb3.mono (by omega))
          clear hz3_0 hz3_1 hb3
          have hl0 := HX3_0.out.lt
          obtain ⟨c0_0, c0_1, c0_2, c0_3⟩ := HX3_0.out.cells
          obtain ⟨f0_0, f0_1, f0_2, f0_3⟩ := HX3_0.out.free
          have hl1 := HX3_1.out.lt
          obtain ⟨c1_0, c1_1, c1_2, c1_3⟩ := HX3_1.out.cells
          obtain ⟨f1_0, f1_1, f1_2, f1_3⟩ := HX3_1.out.free
          go_wp2_with fail
          have HT : Hid (DkAt (w3.alloc (.cells #[.string a, .int .i64 x, .string (b ++ s), .int .i64 y] 26)) w3.heap.size a x (b ++ s) y ∧ Below w3.heap.size w3 (w3.alloc (.cells #[.string a, .int .i64 x, .string (b ++ s), .int .i64 y] 26)) ∧ (w3.alloc (.cells #[.string a, .int .i64 x, .string (b ++ s), .int .i64 y] 26)).heap.size = w3.heap.size + 1) := ⟨Deep.blk_alloc_new w3 _, (Below.refl _ w3).alloc (Nat.le_refl _) _, by simp⟩
          generalize w3.alloc (.cells #[.string a, .int .i64 x, .string (b ++ s), .int .i64 y] 26) = w4 at HT ⊢
          have HX4_0 : Hid (DkAt w4 D a x b y) := HX3_0.out.below HT.out.2.1 HX3_0.out.lt
          have HX4_1 : Hid (DkAt w4 X ⟨#[97]⟩ 1 ⟨#[]⟩ 0) := HX3_1.out.below HT.out.2.1 HX3_1.out.lt
          have HB4 : Hid (Below D w w4) := HB3.out.trans (HT.out.2.1.mono (by have := HX3_0.out.lt; omega))
          clear hl0 c0_0 c0_1 c0_2 c0_3 f0_0 f0_1 f0_2 f0_3 hl1 c1_0 c1_1 c1_2 c1_3 f1_0 f1_1 f1_2 f1_3
          have hlast := HX3_1.out.lt
          obtain ⟨Y, hY⟩ : ∃ g, w3.heap.size = g := ⟨_, rfl⟩
          rw [hY] at HT hlast ⊢
          have HX4_2 : Hid (DkAt w4 Y a x (b ++ s) y) := HT.out.1
          have HOS : Hid (D < X ∧ X < Y) := by have := HOS.out; refine ⟨?_, ?_⟩ <;> omega
          have HNY : Hid (w4.heap.size = Y + 1) := HT.out.2.2
          clear hY HT hlast
          have hz5_0 := HX4_0.out.lt
          have hz5_1 := HX4_1.out.lt
          have hz5_2 := HX4_2.out.lt
          with_reducible refine (HSy.out _).mono ?_
          rintro e w5 ⟨rfl, hb5⟩
          have HX5_0 : Hid (DkAt w5 D a x b y) := HX4_0.out.below hb5 (by omega)
          have HX5_1 : Hid (DkAt w5 X ⟨#[97]⟩ 1 ⟨#[]⟩ 0) := HX4_1.out.below hb5 (by omega)
          have HX5_2 : Hid (DkAt w5 Y a x (b ++ s) y) := HX4_2.out.below hb5 (by omega)
          have HB5 : Hid (Below D w w5) := HB4.out.trans (hb5.mono (by omega))
          clear hz5_0 hz5_1 hz5_2 hb5
          have hl0 := HX5_0.out.lt
          obtain ⟨c0_0, c0_1, c0_2, c0_3⟩ := HX5_0.out.cells
          obtain ⟨f0_0, f0_1, f0_2, f0_3⟩ := HX5_0.out.free
          have hl1 := HX5_1.out.lt
          obtain ⟨c1_0, c1_1, c1_2, c1_3⟩ := HX5_1.out.cells
          obtain ⟨f1_0, f1_1, f1_2, f1_3⟩ := HX5_1.out.free
          have hl2 := HX5_2.out.lt
          obtain ⟨c2_0, c2_1, c2_2, c2_3⟩ := HX5_2.out.cells
          obtain ⟨f2_0, f2_1, f2_2, f2_3⟩ := HX5_2.out.free
          go_wp2_with fail
          have HT : Hid (DkAt (w5.alloc (.cells #[.string a, .int .i64 x, .string b, .int .i64 (b.size : Int)] 26)) w5.heap.size a x b (b.size : Int) ∧ Below w5.heap.size w5 (w5.alloc (.cells #[.string a, .int .i64 x, .string b, .int .i64 (b.size : Int)] 26)) ∧ (w5.alloc (.cells #[.string a, .int .i64 x, .string b, .int .i64 (b.size : Int)] 26)).heap.size = w5.heap.size + 1) := ⟨Deep.blk_alloc_new w5 _, (Below.refl _ w5).alloc (Nat.le_refl _) _, by simp⟩
          generalize w5.alloc (.cells #[.string a, .int .i64 x, .string b, .int .i64 (b.size : Int)] 26) = w6 at HT ⊢
          have HX6_0 : Hid (DkAt w6 D a x b y) := HX5_0.out.below HT.out.2.1 HX5_0.out.lt
          have HX6_1 : Hid (DkAt w6 X ⟨#[97]⟩ 1 ⟨#[]⟩ 0) := HX5_1.out.below HT.out.2.1 HX5_1.out.lt
          have HX6_2 : Hid (DkAt w6 Y a x (b ++ s) y) := HX5_2.out.below HT.out.2.1 HX5_2.out.lt
          have HB6 : Hid (Below D w w6) := HB5.out.trans (HT.out.2.1.mono (by have := HX5_0.out.lt; omega))
          clear hl0 c0_0 c0_1 c0_2 c0_3 f0_0 f0_1 f0_2 f0_3 hl1 c1_0 c1_1 c1_2 c1_3 f1_0 f1_1 f1_2 f1_3 hl2 c2_0 c2_1 c2_2 c2_3 f2_0 f2_1 f2_2 f2_3
          have hlast := HX5_2.out.lt
          obtain ⟨Z, hZ⟩ : ∃ g, w5.heap.size = g := ⟨_, rfl⟩
          rw [hZ] at HT hlast ⊢
          have HX6_3 : Hid (DkAt w6 Z a x b (b.size : Int)) := HT.out.1
          have HOS : Hid (D < X ∧ X < Y ∧ Y < Z) := by have := HOS.out; refine ⟨?_, ?_, ?_⟩ <;> omega
          have HNZ : Hid (w6.heap.size = Z + 1) := HT.out.2.2
          clear hZ HT hlast
          have hz7_0 := HX6_0.out.lt
          have hz7_1 := HX6_1.out.lt
          have hz7_2 := HX6_2.out.lt
          have hz7_3 := HX6_3.out.lt
          with_reducible refine (HTr.out _).mono ?_
          rintro e w7 ⟨rfl, hb7⟩
          have HX7_0 : Hid (DkAt w7 D a x b y) := HX6_0.out.below hb7 (by omega)
          have HX7_1 : Hid (DkAt w7 X ⟨#[97]⟩ 1 ⟨#[]⟩ 0) := HX6_1.out.below hb7 (by omega)
          have HX7_2 : Hid (DkAt w7 Y a x (b ++ s) y) := HX6_2.out.below hb7 (by omega)
          have HX7_3 : Hid (DkAt w7 Z a x b (b.size : Int)) := HX6_3.out.below hb7 (by omega)
          have HB7 : Hid (Below D w w7) := HB6.out.trans (hb7.mono (by omega))
          clear hz7_0 hz7_1 hz7_2 hz7_3 hb7
          have hl0 := HX7_0.out.lt
          obtain ⟨c0_0, c0_1, c0_2, c0_3⟩ := HX7_0.out.cells
          obtain ⟨f0_0, f0_1, f0_2, f0_3⟩ := HX7_0.out.free
          have hl1 := HX7_1.out.lt
          obtain ⟨c1_0, c1_1, c1_2, c1_3⟩ := HX7_1.out.cells
          obtain ⟨f1_0, f1_1, f1_2, f1_3⟩ := HX7_1.out.free
          have hl2 := HX7_2.out.lt
          obtain ⟨c2_0, c2_1, c2_2, c2_3⟩ := HX7_2.out.cells
          obtain ⟨f2_0, f2_1, f2_2, f2_3⟩ := HX7_2.out.free
          have hl3 := HX7_3.out.lt
          obtain ⟨c3_0, c3_1, c3_2, c3_3⟩ := HX7_3.out.cells
          obtain ⟨f3_0, f3_1, f3_2, f3_3⟩ := HX7_3.out.free
          go_wp2_with fail
          have HT : Hid (DkAt (w7.alloc (.cells #[.string a, .int .i64 x, .string C, .int .i64 t] 26)) w7.heap.size a x C t ∧ Below w7.heap.size w7 (w7.alloc (.cells #[.string a, .int .i64 x, .string C, .int .i64 t] 26)) ∧ (w7.alloc (.cells #[.string a, .int .i64 x, .string C, .int .i64 t] 26)).heap.size = w7.heap.size + 1) := ⟨Deep.blk_alloc_new w7 _, (Below.refl _ w7).alloc (Nat.le_refl _) _, by simp⟩
          generalize w7.alloc (.cells #[.string a, .int .i64 x, .string C, .int .i64 t] 26) = w8 at HT ⊢
          have HX8_0 : Hid (DkAt w8 D a x b y) := HX7_0.out.below HT.out.2.1 HX7_0.out.lt
          have HX8_1 : Hid (DkAt w8 X ⟨#[97]⟩ 1 ⟨#[]⟩ 0) := HX7_1.out.below HT.out.2.1 HX7_1.out.lt
          have HX8_2 : Hid (DkAt w8 Y a x (b ++ s) y) := HX7_2.out.below HT.out.2.1 HX7_2.out.lt
          have HX8_3 : Hid (DkAt w8 Z a x b (b.size : Int)) := HX7_3.out.below HT.out.2.1 HX7_3.out.lt
          have HB8 : Hid (Below D w w8) := HB7.out.trans (HT.out.2.1.mono (by have := HX7_0.out.lt; omega))
          clear hl0 c0_0 c0_1 c0_2 c0_3 f0_0 f0_1 f0_2 f0_3 hl1 c1_0 c1_1 c1_2 c1_3 f1_0 f1_1 f1_2 f1_3 hl2 c2_0 c2_1 c2_2 c2_3 f2_0 f2_1 f2_2 f2_3 hl3 c3_0 c3_1 c3_2 c3_3 f3_0 f3_1 f3_2 f3_3
          have hlast := HX7_3.out.lt
          obtain ⟨U, hU⟩ : ∃ g, w7.heap.size = g := ⟨_, rfl⟩
          rw [hU] at HT hlast ⊢
          have HX8_4 : Hid (DkAt w8 U a x C t) := HT.out.1
          have HOS : Hid (D < X ∧ X < Y ∧ Y < Z ∧ Z < U) := by have := HOS.out; refine ⟨?_, ?_, ?_, ?_⟩ <;> omega
          have HNU : Hid (w8.heap.size = U + 1) := HT.out.2.2
          clear hU HT hlast
          have hl0 := HX8_0.out.lt
          obtain ⟨c0_0, c0_1, c0_2, c0_3⟩ := HX8_0.out.cells
          obtain ⟨f0_0, f0_1, f0_2, f0_3⟩ := HX8_0.out.free
          have hl1 := HX8_1.out.lt
          obtain ⟨c1_0, c1_1, c1_2, c1_3⟩ := HX8_1.out.cells
          obtain ⟨f1_0, f1_1, f1_2, f1_3⟩ := HX8_1.out.free
          have hl2 := HX8_2.out.lt
          obtain ⟨c2_0, c2_1, c2_2, c2_3⟩ := HX8_2.out.cells
          obtain ⟨f2_0, f2_1, f2_2, f2_3⟩ := HX8_2.out.free
          have hl3 := HX8_3.out.lt
          obtain ⟨c3_0, c3_1, c3_2, c3_3⟩ := HX8_3.out.cells
          obtain ⟨f3_0, f3_1, f3_2, f3_3⟩ := HX8_3.out.free
          have hl4 := HX8_4.out.lt
          obtain ⟨c4_0, c4_1, c4_2, c4_3⟩ := HX8_4.out.cells
          obtain ⟨f4_0, f4_1, f4_2, f4_3⟩ := HX8_4.out.free
          have HT : Hid ((w8.alloc (.cells #[.string a, .int .i64 x] 23)).heap[w8.heap.size]? = some (.cells #[.string a, .int .i64 x] 23 (0, 0)) ∧ Below w8.heap.size w8 (w8.alloc (.cells #[.string a, .int .i64 x] 23)) ∧ w8.heap.size < (w8.alloc (.cells #[.string a, .int .i64 x] 23)).heap.size) := ⟨Deep.blk_alloc_new w8 _, (Below.refl _ w8).alloc (Nat.le_refl _) _, by simp⟩
          generalize w8.alloc (.cells #[.string a, .int .i64 x] 23) = w9 at HT ⊢
          have HX9_0 : Hid (DkAt w9 D a x b y) := HX8_0.out.below HT.out.2.1 HX8_0.out.lt
          have HX9_1 : Hid (DkAt w9 X ⟨#[97]⟩ 1 ⟨#[]⟩ 0) := HX8_1.out.below HT.out.2.1 HX8_1.out.lt
          have HX9_2 : Hid (DkAt w9 Y a x (b ++ s) y) := HX8_2.out.below HT.out.2.1 HX8_2.out.lt
          have HX9_3 : Hid (DkAt w9 Z a x b (b.size : Int)) := HX8_3.out.below HT.out.2.1 HX8_3.out.lt
          have HX9_4 : Hid (DkAt w9 U a x C t) := HX8_4.out.below HT.out.2.1 HX8_4.out.lt
          have HB9 : Hid (Below D w w9) := HB8.out.trans (HT.out.2.1.mono (by have := HX8_0.out.lt; omega))
          clear hl0 c0_0 c0_1 c0_2 c0_3 f0_0 f0_1 f0_2 f0_3 hl1 c1_0 c1_1 c1_2 c1_3 f1_0 f1_1 f1_2 f1_3 hl2 c2_0 c2_1 c2_2 c2_3 f2_0 f2_1 f2_2 f2_3 hl3 c3_0 c3_1 c3_2 c3_3 f3_0 f3_1 f3_2 f3_3 hl4 c4_0 c4_1 c4_2 c4_3 f4_0 f4_1 f4_2 f4_3
          rw [HNU.out] at HT
          obtain ⟨S, hS⟩ : ∃ g, U + 1 = g := ⟨_, rfl⟩
          rw [hS] at HT ⊢
          have HS1 : Hid (U + 1 = S) := hS
          clear hS
          have q0 := Lib.cell_of_heap HT.out.1 0
          have q1 := Lib.cell_of_heap HT.out.1 1
          have hlS := HT.out.2.2
          simp at q0 q1
          have hl0 := HX9_0.out.lt
          obtain ⟨c0_0, c0_1, c0_2, c0_3⟩ := HX9_0.out.cells
          obtain ⟨f0_0, f0_1, f0_2, f0_3⟩ := HX9_0.out.free
          have hl1 := HX9_1.out.lt
          obtain ⟨c1_0, c1_1, c1_2, c1_3⟩ := HX9_1.out.cells
          obtain ⟨f1_0, f1_1, f1_2, f1_3⟩ := HX9_1.out.free
          have hl2 := HX9_2.out.lt
          obtain ⟨c2_0, c2_1, c2_2, c2_3⟩ := HX9_2.out.cells
          obtain ⟨f2_0, f2_1, f2_2, f2_3⟩ := HX9_2.out.free
          have hl3 := HX9_3.out.lt
          obtain ⟨c3_0, c3_1, c3_2, c3_3⟩ := HX9_3.out.cells
          obtain ⟨f3_0, f3_1, f3_2, f3_3⟩ := HX9_3.out.free
          have hl4 := HX9_4.out.lt
          obtain ⟨c4_0, c4_1, c4_2, c4_3⟩ := HX9_4.out.cells
          obtain ⟨f4_0, f4_1, f4_2, f4_3⟩ := HX9_4.out.free
          go_wp2_with fail
          go_quiet (fail)
          rename Nat => nq
          go_wp2_with fail
          have HBq : Hid (Below w9.heap.size w9 (w9.drewN nq)) := below_drewN (Below.refl _ w9) nq
          have HY0 : Hid (DkAt (w9.drewN nq) D a x b y) := HX9_0.out.below HBq.out HX9_0.out.lt
          have HY1 : Hid (DkAt (w9.drewN nq) X ⟨#[97]⟩ 1 ⟨#[]⟩ 0) := HX9_1.out.below HBq.out HX9_1.out.lt
          have HY2 : Hid (DkAt (w9.drewN nq) Y a x (b ++ s) y) := HX9_2.out.below HBq.out HX9_2.out.lt
          have HY3 : Hid (DkAt (w9.drewN nq) Z a x b (b.size : Int)) := HX9_3.out.below HBq.out HX9_3.out.lt
          have HY4 : Hid (DkAt (w9.drewN nq) U a x C t) := HX9_4.out.below HBq.out HX9_4.out.lt
          have HBy : Hid (Below D w (w9.drewN nq)) := below_drewN HB9.out nq
          clear hl0 c0_0 c0_1 c0_2 c0_3 f0_0 f0_1 f0_2 f0_3 hl1 c1_0 c1_1 c1_2 c1_3 f1_0 f1_1 f1_2 f1_3 hl2 c2_0 c2_1 c2_2 c2_3 f2_0 f2_1 f2_2 f2_3 hl3 c3_0 c3_1 c3_2 c3_3 f3_0 f3_1 f3_2 f3_3 hl4 c4_0 c4_1 c4_2 c4_3 f4_0 f4_1 f4_2 f4_3
          clear q0 q1 hlS HBq
          generalize w9.drewN nq = W at HY0 HY1 HY2 HY3 HY4 HBy ⊢
          have hlU := HY4.out.lt
          have hlD := HY0.out.lt
          obtain ⟨c0, c1, c2, c3⟩ := HY4.out.cells
          obtain ⟨e0, e1, e2, e3⟩ := HY0.out.cells
          have hF := HF.out
          go_region_held3 (fun w' => w'.cell? ⟨U, 0, none⟩ = some (.string a) ∧ w'.cell? ⟨U, 1, none⟩ = some (.int .i64 x) ∧ w'.cell? ⟨U, 2, none⟩ = some (.string C) ∧ w'.cell? ⟨U, 3, none⟩ = some (.int .i64 t) ∧ w'.cell? ⟨D, 2, none⟩ = some (.string b)) (first | go_keep | exact dk_five1 HY4.out HY0.out HQ5.out | exact dk_five1 HY4.out HY0.out (HQ5.out.alloc HZ5.out _) | exact dk_five1 HY4.out HY0.out (below_four HQ5.out (Nat.le_refl _) _ _ _ _) | fail) (first
            | (go_at_call 9; with_reducible refine (HAq.out _).mono ?_; rintro e w2' ⟨rfl, hb2⟩; have h5 := dk_went2 (w := W) hb2; have h6 := dk_kept (w := W) hb2; obtain ⟨HQ5, HZ5⟩ := h5; obtain ⟨p0, p1, p2, p3, d0, d1, d2, d3, HZ⟩ := h6)
            | (go_at_call 9; with_reducible refine (HAq.out _).mono ?_; rintro e w2' ⟨rfl, hb2⟩; have h5 := dk_went (w := W) hb2; obtain ⟨HQ5, HZ5⟩ := h5)
            | fail)
          all_goals first
            | (have hS : Hid (DkAt ((((w2'.setCell ⟨W.heap.size, 0, none⟩ (.string a)).setCell ⟨W.heap.size, 1, none⟩ (.int .i64 x)).setCell ⟨W.heap.size, 2, none⟩ (.string b)).setCell ⟨W.heap.size, 3, none⟩ (.int .i64 t)) W.heap.size a x b t ∧ DkAt ((((w2'.setCell ⟨W.heap.size, 0, none⟩ (.string a)).setCell ⟨W.heap.size, 1, none⟩ (.int .i64 x)).setCell ⟨W.heap.size, 2, none⟩ (.string b)).setCell ⟨W.heap.size, 3, none⟩ (.int .i64 t)) D a x b y ∧ Below D w ((((w2'.setCell ⟨W.heap.size, 0, none⟩ (.string a)).setCell ⟨W.heap.size, 1, none⟩ (.int .i64 x)).setCell ⟨W.heap.size, 2, none⟩ (.string b)).setCell ⟨W.heap.size, 3, none⟩ (.int .i64 t))) := ⟨(((HZ.out.put0 _).put1 _).put2 _).put3 _, HY0.out.below (below_four HQ5.out (Nat.le_refl _) _ _ _ _) HY0.out.lt, below_four (HBy.out.trans (HQ5.out.mono (Nat.le_of_lt hlD))) (Nat.le_of_lt hlD) _ _ _ _⟩
               generalize ((((w2'.setCell ⟨W.heap.size, 0, none⟩ (.string a)).setCell ⟨W.heap.size, 1, none⟩ (.int .i64 x)).setCell ⟨W.heap.size, 2, none⟩ (.string b)).setCell ⟨W.heap.size, 3, none⟩ (.int .i64 t)) = WF at hS ⊢
               generalize W.heap.size = N at hS ⊢
               clear c0 c1 c2 c3 e0 e1 e2 e3
               have hn := hS.out.1.lt
               have hd := hS.out.2.1.lt
               obtain ⟨c0, c1, c2, c3⟩ := hS.out.1.cells
               obtain ⟨e0, e1, e2, e3⟩ := hS.out.2.1.cells
               go_wp2_with fail
               go_quiet (fail)
               go_wp2_with fail
               go_ret
               exact ⟨by first | rfl | simp, by rw [HW.out]; exact below_drewN hS.out.2.2 _⟩)
            | (have hS : Hid (DkAt (w2'.alloc (.cells #[.string a, .int .i64 x, .string b, .int .i64 t] 26)) w2'.heap.size a x b t ∧ DkAt (w2'.alloc (.cells #[.string a, .int .i64 x, .string b, .int .i64 t] 26)) D a x b y ∧ Below D w (w2'.alloc (.cells #[.string a, .int .i64 x, .string b, .int .i64 t] 26))) := ⟨Deep.blk_alloc_new w2' _, HY0.out.below (HQ5.out.alloc HZ5.out _) HY0.out.lt, (HBy.out.trans (HQ5.out.mono (Nat.le_of_lt hlD))).alloc (Nat.le_trans (Nat.le_of_lt hlD) HZ5.out) _⟩
               generalize w2'.alloc (.cells #[.string a, .int .i64 x, .string b, .int .i64 t] 26) = WF at hS ⊢
               generalize w2'.heap.size = N at hS ⊢
               clear c0 c1 c2 c3 e0 e1 e2 e3
               have hn := hS.out.1.lt
               have hd := hS.out.2.1.lt
               obtain ⟨c0, c1, c2, c3⟩ := hS.out.1.cells
               obtain ⟨e0, e1, e2, e3⟩ := hS.out.2.1.cells
               go_wp2_with fail
               go_quiet (fail)
               go_wp2_with fail
               go_ret
               exact ⟨by first | rfl | simp, by rw [HW.out]; exact below_drewN hS.out.2.2 _⟩)
            | fail
      · have HAp : Hid _ := fun w => DAppend_big1 a x b y s h (by omega) w ha hb hs
        clear hf
        by_cases hn : n < 0 ∨ (b.size : Int) < n
        · have HTr : Hid _ := fun w => DTrim_arg1 a x b y n h hn w ha hb
          clear h hn
          go_enter Try.func6, Try.ntmps6
          go_wp2_with fail
          have HT0 : Hid (DkAt (w.alloc (.cells #[.string a, .int .i64 x, .string b, .int .i64 y] 26)) w.heap.size a x b y ∧ Below w.heap.size w (w.alloc (.cells #[.string a, .int .i64 x, .string b, .int .i64 y] 26))) := ⟨Deep.blk_alloc_new w _, (Below.refl _ w).alloc (Nat.le_refl _) _⟩
          generalize w.alloc (.cells #[.string a, .int .i64 x, .string b, .int .i64 y] 26) = w0 at HT0 ⊢
          obtain ⟨D, hD⟩ : ∃ D, w.heap.size = D := ⟨_, rfl⟩
          rw [hD] at HT0 ⊢
          have HW : Hid (w.heap.size = D) := hD
          clear hD
          have HX0_0 : Hid _ := HT0.out.1
          have HB0 : Hid _ := HT0.out.2
          clear HT0
          change Hid (DkAt w0 D a x b y) at HX0_0
          change Hid (Below D w w0) at HB0
          have hz1_0 := HX0_0.out.lt
          with_reducible refine (HT1.out _).mono ?_
          rintro e w1 ⟨rfl, hb1⟩
          have HX1_0 : Hid (DkAt w1 D a x b y) := HX0_0.out.below hb1 (by omega)
          have HB1 : Hid (Below D w w1) := HB0.out.trans (hb1.mono (by omega))
          clear hz1_0 hb1
          have hl0 := HX1_0.out.lt
          obtain ⟨c0_0, c0_1, c0_2, c0_3⟩ := HX1_0.out.cells
          obtain ⟨f0_0, f0_1, f0_2, f0_3⟩ := HX1_0.out.free
          go_wp2_with fail
          have HT : Hid (DkAt (w1.alloc (.cells #[.string ⟨#[97]⟩, .int .i64 1, .string ⟨#[]⟩, .int .i64 0] 26)) w1.heap.size ⟨#[97]⟩ 1 ⟨#[]⟩ 0 ∧ Below w1.heap.size w1 (w1.alloc (.cells #[.string ⟨#[97]⟩, .int .i64 1, .string ⟨#[]⟩, .int .i64 0] 26)) ∧ (w1.alloc (.cells #[.string ⟨#[97]⟩, .int .i64 1, .string ⟨#[]⟩, .int .i64 0] 26)).heap.size = w1.heap.size + 1) := ⟨Deep.blk_alloc_new w1 _, (Below.refl _ w1).alloc (Nat.le_refl _) _, by simp⟩
          generalize w1.alloc (.cells #[.string ⟨#[97]⟩, .int .i64 1, .string ⟨#[]⟩, .int .i64 0] 26) = w2 at HT ⊢
          have HX2_0 : Hid (DkAt w2 D a x b y) := HX1_0.out.below HT.out.2.1 HX1_0.out.lt
          have HB2 : Hid (Below D w w2) := HB1.out.trans (HT.out.2.1.mono (by have := HX1_0.out.lt; omega))
          clear hl0 c0_0 c0_1 c0_2 c0_3 f0_0 f0_1 f0_2 f0_3
          have hlast := HX1_0.out.lt
          obtain ⟨X, hX⟩ : ∃ g, w1.heap.size = g := ⟨_, rfl⟩
          rw [hX] at HT hlast ⊢
          have HX2_1 : Hid (DkAt w2 X ⟨#[97]⟩ 1 ⟨#[]⟩ 0) := HT.out.1
          have HOS : Hid (D < X) := hlast
          have HNX : Hid (w2.heap.size = X + 1) := HT.out.2.2
          clear hX HT hlast
          have hz3_0 := HX2_0.out.lt
          have hz3_1 := HX2_1.out.lt
          with_reducible refine (HAp.out _).mono ?_
          rintro e w3 ⟨rfl, hb3⟩
          have HX3_0 : Hid (DkAt w3 D a x b y) := HX2_0.out.below hb3 (by omega)
          have HX3_1 : Hid (DkAt w3 X ⟨#[97]⟩ 1 ⟨#[]⟩ 0) := HX2_1.out.below hb3 (by omega)
          have HB3 : Hid (Below D w w3) := HB2.out.trans (hb3.mono (by omega))
          clear hz3_0 hz3_1 hb3
          have hl0 := HX3_0.out.lt
          obtain ⟨c0_0, c0_1, c0_2, c0_3⟩ := HX3_0.out.cells
          obtain ⟨f0_0, f0_1, f0_2, f0_3⟩ := HX3_0.out.free
          have hl1 := HX3_1.out.lt
          obtain ⟨c1_0, c1_1, c1_2, c1_3⟩ := HX3_1.out.cells
          obtain ⟨f1_0, f1_1, f1_2, f1_3⟩ := HX3_1.out.free
          go_wp2_with fail
          have HT : Hid (DkAt (w3.alloc (.cells #[.string ⟨#[]⟩, .int .i64 0, .string ⟨#[]⟩, .int .i64 0] 26)) w3.heap.size ⟨#[]⟩ 0 ⟨#[]⟩ 0 ∧ Below w3.heap.size w3 (w3.alloc (.cells #[.string ⟨#[]⟩, .int .i64 0, .string ⟨#[]⟩, .int .i64 0] 26)) ∧ (w3.alloc (.cells #[.string ⟨#[]⟩, .int .i64 0, .string ⟨#[]⟩, .int .i64 0] 26)).heap.size = w3.heap.size + 1) := ⟨Deep.blk_alloc_new w3 _, (Below.refl _ w3).alloc (Nat.le_refl _) _, by simp⟩
          generalize w3.alloc (.cells #[.string ⟨#[]⟩, .int .i64 0, .string ⟨#[]⟩, .int .i64 0] 26) = w4 at HT ⊢
          have HX4_0 : Hid (DkAt w4 D a x b y) := HX3_0.out.below HT.out.2.1 HX3_0.out.lt
          have HX4_1 : Hid (DkAt w4 X ⟨#[97]⟩ 1 ⟨#[]⟩ 0) := HX3_1.out.below HT.out.2.1 HX3_1.out.lt
          have HB4 : Hid (Below D w w4) := HB3.out.trans (HT.out.2.1.mono (by have := HX3_0.out.lt; omega))
          clear hl0 c0_0 c0_1 c0_2 c0_3 f0_0 f0_1 f0_2 f0_3 hl1 c1_0 c1_1 c1_2 c1_3 f1_0 f1_1 f1_2 f1_3
          have hlast := HX3_1.out.lt
          obtain ⟨Y, hY⟩ : ∃ g, w3.heap.size = g := ⟨_, rfl⟩
          rw [hY] at HT hlast ⊢
          have HX4_2 : Hid (DkAt w4 Y ⟨#[]⟩ 0 ⟨#[]⟩ 0) := HT.out.1
          have HOS : Hid (D < X ∧ X < Y) := by have := HOS.out; refine ⟨?_, ?_⟩ <;> omega
          have HNY : Hid (w4.heap.size = Y + 1) := HT.out.2.2
          clear hY HT hlast
          have hz5_0 := HX4_0.out.lt
          have hz5_1 := HX4_1.out.lt
          have hz5_2 := HX4_2.out.lt
          with_reducible refine (HSy.out _).mono ?_
          rintro e w5 ⟨rfl, hb5⟩
          have HX5_0 : Hid (DkAt w5 D a x b y) := HX4_0.out.below hb5 (by omega)
          have HX5_1 : Hid (DkAt w5 X ⟨#[97]⟩ 1 ⟨#[]⟩ 0) := HX4_1.out.below hb5 (by omega)
          have HX5_2 : Hid (DkAt w5 Y ⟨#[]⟩ 0 ⟨#[]⟩ 0) := HX4_2.out.below hb5 (by omega)
          have HB5 : Hid (Below D w w5) := HB4.out.trans (hb5.mono (by omega))
          clear hz5_0 hz5_1 hz5_2 hb5
          have hl0 := HX5_0.out.lt
          obtain ⟨c0_0, c0_1, c0_2, c0_3⟩ := HX5_0.out.cells
          obtain ⟨f0_0, f0_1, f0_2, f0_3⟩ := HX5_0.out.free
          have hl1 := HX5_1.out.lt
          obtain ⟨c1_0, c1_1, c1_2, c1_3⟩ := HX5_1.out.cells
          obtain ⟨f1_0, f1_1, f1_2, f1_3⟩ := HX5_1.out.free
          have hl2 := HX5_2.out.lt
          obtain ⟨c2_0, c2_1, c2_2, c2_3⟩ := HX5_2.out.cells
          obtain ⟨f2_0, f2_1, f2_2, f2_3⟩ := HX5_2.out.free
          go_wp2_with fail
          have HT : Hid (DkAt (w5.alloc (.cells #[.string a, .int .i64 x, .string b, .int .i64 (b.size : Int)] 26)) w5.heap.size a x b (b.size : Int) ∧ Below w5.heap.size w5 (w5.alloc (.cells #[.string a, .int .i64 x, .string b, .int .i64 (b.size : Int)] 26)) ∧ (w5.alloc (.cells #[.string a, .int .i64 x, .string b, .int .i64 (b.size : Int)] 26)).heap.size = w5.heap.size + 1) := ⟨Deep.blk_alloc_new w5 _, (Below.refl _ w5).alloc (Nat.le_refl _) _, by simp⟩
          generalize w5.alloc (.cells #[.string a, .int .i64 x, .string b, .int .i64 (b.size : Int)] 26) = w6 at HT ⊢
          have HX6_0 : Hid (DkAt w6 D a x b y) := HX5_0.out.below HT.out.2.1 HX5_0.out.lt
          have HX6_1 : Hid (DkAt w6 X ⟨#[97]⟩ 1 ⟨#[]⟩ 0) := HX5_1.out.below HT.out.2.1 HX5_1.out.lt
          have HX6_2 : Hid (DkAt w6 Y ⟨#[]⟩ 0 ⟨#[]⟩ 0) := HX5_2.out.below HT.out.2.1 HX5_2.out.lt
          have HB6 : Hid (Below D w w6) := HB5.out.trans (HT.out.2.1.mono (by have := HX5_0.out.lt; omega))
          clear hl0 c0_0 c0_1 c0_2 c0_3 f0_0 f0_1 f0_2 f0_3 hl1 c1_0 c1_1 c1_2 c1_3 f1_0 f1_1 f1_2 f1_3 hl2 c2_0 c2_1 c2_2 c2_3 f2_0 f2_1 f2_2 f2_3
          have hlast := HX5_2.out.lt
          obtain ⟨Z, hZ⟩ : ∃ g, w5.heap.size = g := ⟨_, rfl⟩
          rw [hZ] at HT hlast ⊢
          have HX6_3 : Hid (DkAt w6 Z a x b (b.size : Int)) := HT.out.1
          have HOS : Hid (D < X ∧ X < Y ∧ Y < Z) := by have := HOS.out; refine ⟨?_, ?_, ?_⟩ <;> omega
          have HNZ : Hid (w6.heap.size = Z + 1) := HT.out.2.2
          clear hZ HT hlast
          have hz7_0 := HX6_0.out.lt
          have hz7_1 := HX6_1.out.lt
          have hz7_2 := HX6_2.out.lt
          have hz7_3 := HX6_3.out.lt
          with_reducible refine (HTr.out _).mono ?_
          rintro e w7 ⟨rfl, hb7⟩
          have HX7_0 : Hid (DkAt w7 D a x b y) := HX6_0.out.below hb7 (by omega)
          have HX7_1 : Hid (DkAt w7 X ⟨#[97]⟩ 1 ⟨#[]⟩ 0) := HX6_1.out.below hb7 (by omega)
          have HX7_2 : Hid (DkAt w7 Y ⟨#[]⟩ 0 ⟨#[]⟩ 0) := HX6_2.out.below hb7 (by omega)
          have HX7_3 : Hid (DkAt w7 Z a x b (b.size : Int)) := HX6_3.out.below hb7 (by omega)
          have HB7 : Hid (Below D w w7) := HB6.out.trans (hb7.mono (by omega))
          clear hz7_0 hz7_1 hz7_2 hz7_3 hb7
          have hl0 := HX7_0.out.lt
          obtain ⟨c0_0, c0_1, c0_2, c0_3⟩ := HX7_0.out.cells
          obtain ⟨f0_0, f0_1, f0_2, f0_3⟩ := HX7_0.out.free
          have hl1 := HX7_1.out.lt
          obtain ⟨c1_0, c1_1, c1_2, c1_3⟩ := HX7_1.out.cells
          obtain ⟨f1_0, f1_1, f1_2, f1_3⟩ := HX7_1.out.free
          have hl2 := HX7_2.out.lt
          obtain ⟨c2_0, c2_1, c2_2, c2_3⟩ := HX7_2.out.cells
          obtain ⟨f2_0, f2_1, f2_2, f2_3⟩ := HX7_2.out.free
          have hl3 := HX7_3.out.lt
          obtain ⟨c3_0, c3_1, c3_2, c3_3⟩ := HX7_3.out.cells
          obtain ⟨f3_0, f3_1, f3_2, f3_3⟩ := HX7_3.out.free
          go_wp2_with fail
          have HT : Hid (DkAt (w7.alloc (.cells #[.string ⟨#[]⟩, .int .i64 0, .string ⟨#[]⟩, .int .i64 0] 26)) w7.heap.size ⟨#[]⟩ 0 ⟨#[]⟩ 0 ∧ Below w7.heap.size w7 (w7.alloc (.cells #[.string ⟨#[]⟩, .int .i64 0, .string ⟨#[]⟩, .int .i64 0] 26)) ∧ (w7.alloc (.cells #[.string ⟨#[]⟩, .int .i64 0, .string ⟨#[]⟩, .int .i64 0] 26)).heap.size = w7.heap.size + 1) := ⟨Deep.blk_alloc_new w7 _, (Below.refl _ w7).alloc (Nat.le_refl _) _, by simp⟩
          generalize w7.alloc (.cells #[.string ⟨#[]⟩, .int .i64 0, .string ⟨#[]⟩, .int .i64 0] 26) = w8 at HT ⊢
          have HX8_0 : Hid (DkAt w8 D a x b y) := HX7_0.out.below HT.out.2.1 HX7_0.out.lt
          have HX8_1 : Hid (DkAt w8 X ⟨#[97]⟩ 1 ⟨#[]⟩ 0) := HX7_1.out.below HT.out.2.1 HX7_1.out.lt
          have HX8_2 : Hid (DkAt w8 Y ⟨#[]⟩ 0 ⟨#[]⟩ 0) := HX7_2.out.below HT.out.2.1 HX7_2.out.lt
          have HX8_3 : Hid (DkAt w8 Z a x b (b.size : Int)) := HX7_3.out.below HT.out.2.1 HX7_3.out.lt
          have HB8 : Hid (Below D w w8) := HB7.out.trans (HT.out.2.1.mono (by have := HX7_0.out.lt; omega))
          clear hl0 c0_0 c0_1 c0_2 c0_3 f0_0 f0_1 f0_2 f0_3 hl1 c1_0 c1_1 c1_2 c1_3 f1_0 f1_1 f1_2 f1_3 hl2 c2_0 c2_1 c2_2 c2_3 f2_0 f2_1 f2_2 f2_3 hl3 c3_0 c3_1 c3_2 c3_3 f3_0 f3_1 f3_2 f3_3
          have hlast := HX7_3.out.lt
          obtain ⟨U, hU⟩ : ∃ g, w7.heap.size = g := ⟨_, rfl⟩
          rw [hU] at HT hlast ⊢
          have HX8_4 : Hid (DkAt w8 U ⟨#[]⟩ 0 ⟨#[]⟩ 0) := HT.out.1
          have HOS : Hid (D < X ∧ X < Y ∧ Y < Z ∧ Z < U) := by have := HOS.out; refine ⟨?_, ?_, ?_, ?_⟩ <;> omega
          have HNU : Hid (w8.heap.size = U + 1) := HT.out.2.2
          clear hU HT hlast
          have hl0 := HX8_0.out.lt
          obtain ⟨c0_0, c0_1, c0_2, c0_3⟩ := HX8_0.out.cells
          obtain ⟨f0_0, f0_1, f0_2, f0_3⟩ := HX8_0.out.free
          have hl1 := HX8_1.out.lt
          obtain ⟨c1_0, c1_1, c1_2, c1_3⟩ := HX8_1.out.cells
          obtain ⟨f1_0, f1_1, f1_2, f1_3⟩ := HX8_1.out.free
          have hl2 := HX8_2.out.lt
          obtain ⟨c2_0, c2_1, c2_2, c2_3⟩ := HX8_2.out.cells
          obtain ⟨f2_0, f2_1, f2_2, f2_3⟩ := HX8_2.out.free
          have hl3 := HX8_3.out.lt
          obtain ⟨c3_0, c3_1, c3_2, c3_3⟩ := HX8_3.out.cells
          obtain ⟨f3_0, f3_1, f3_2, f3_3⟩ := HX8_3.out.free
          have hl4 := HX8_4.out.lt
          obtain ⟨c4_0, c4_1, c4_2, c4_3⟩ := HX8_4.out.cells
          obtain ⟨f4_0, f4_1, f4_2, f4_3⟩ := HX8_4.out.free
          have HT : Hid ((w8.alloc (.cells #[.string a, .int .i64 x] 23)).heap[w8.heap.size]? = some (.cells #[.string a, .int .i64 x] 23 (0, 0)) ∧ Below w8.heap.size w8 (w8.alloc (.cells #[.string a, .int .i64 x] 23)) ∧ w8.heap.size < (w8.alloc (.cells #[.string a, .int .i64 x] 23)).heap.size) := ⟨Deep.blk_alloc_new w8 _, (Below.refl _ w8).alloc (Nat.le_refl _) _, by simp⟩
          generalize w8.alloc (.cells #[.string a, .int .i64 x] 23) = w9 at HT ⊢
          have HX9_0 : Hid (DkAt w9 D a x b y) := HX8_0.out.below HT.out.2.1 HX8_0.out.lt
          have HX9_1 : Hid (DkAt w9 X ⟨#[97]⟩ 1 ⟨#[]⟩ 0) := HX8_1.out.below HT.out.2.1 HX8_1.out.lt
          have HX9_2 : Hid (DkAt w9 Y ⟨#[]⟩ 0 ⟨#[]⟩ 0) := HX8_2.out.below HT.out.2.1 HX8_2.out.lt
          have HX9_3 : Hid (DkAt w9 Z a x b (b.size : Int)) := HX8_3.out.below HT.out.2.1 HX8_3.out.lt
          have HX9_4 : Hid (DkAt w9 U ⟨#[]⟩ 0 ⟨#[]⟩ 0) := HX8_4.out.below HT.out.2.1 HX8_4.out.lt
          have HB9 : Hid (Below D w w9) := HB8.out.trans (HT.out.2.1.mono (by have := HX8_0.out.lt; omega))
          clear hl0 c0_0 c0_1 c0_2 c0_3 f0_0 f0_1 f0_2 f0_3 hl1 c1_0 c1_1 c1_2 c1_3 f1_0 f1_1 f1_2 f1_3 hl2 c2_0 c2_1 c2_2 c2_3 f2_0 f2_1 f2_2 f2_3 hl3 c3_0 c3_1 c3_2 c3_3 f3_0 f3_1 f3_2 f3_3 hl4 c4_0 c4_1 c4_2 c4_3 f4_0 f4_1 f4_2 f4_3
          rw [HNU.out] at HT
          obtain ⟨S, hS⟩ : ∃ g, U + 1 = g := ⟨_, rfl⟩
          rw [hS] at HT ⊢
          have HS1 : Hid (U + 1 = S) := hS
          clear hS
          have q0 := Lib.cell_of_heap HT.out.1 0
          have q1 := Lib.cell_of_heap HT.out.1 1
          have hlS := HT.out.2.2
          simp at q0 q1
          have hl0 := HX9_0.out.lt
          obtain ⟨c0_0, c0_1, c0_2, c0_3⟩ := HX9_0.out.cells
          obtain ⟨f0_0, f0_1, f0_2, f0_3⟩ := HX9_0.out.free
          have hl1 := HX9_1.out.lt
          obtain ⟨c1_0, c1_1, c1_2, c1_3⟩ := HX9_1.out.cells
          obtain ⟨f1_0, f1_1, f1_2, f1_3⟩ := HX9_1.out.free
          have hl2 := HX9_2.out.lt
          obtain ⟨c2_0, c2_1, c2_2, c2_3⟩ := HX9_2.out.cells
          obtain ⟨f2_0, f2_1, f2_2, f2_3⟩ := HX9_2.out.free
          have hl3 := HX9_3.out.lt
          obtain ⟨c3_0, c3_1, c3_2, c3_3⟩ := HX9_3.out.cells
          obtain ⟨f3_0, f3_1, f3_2, f3_3⟩ := HX9_3.out.free
          have hl4 := HX9_4.out.lt
          obtain ⟨c4_0, c4_1, c4_2, c4_3⟩ := HX9_4.out.cells
          obtain ⟨f4_0, f4_1, f4_2, f4_3⟩ := HX9_4.out.free
          go_wp2_with fail
          go_quiet (fail)
          rename Nat => nq
          go_wp2_with fail
          go_ret
          exact ⟨rfl, by rw [HW.out]; exact below_drewN HB9.out _⟩
        · obtain ⟨m, rfl⟩ : ∃ m : Nat, n = (m : Int) := ⟨n.toNat, by omega⟩
          have hm : m ≤ b.size := by omega
          have HTr : Hid _ := fun w => DTrim_ok1 a x b y m h hm w ha hb
          have HAq : Hid _ := fun w => DAppend_ok1 a x (b.extract 0 m) (min y m) (b.extract m b.size) (dks_of (dk_of (sl_of (by omega) (by omega) (by omega)) (sl_of (by rw [ByteArray.size_extract]; omega) (by omega) (by rw [ByteArray.size_extract]; omega))) (by omega)) (by rw [ByteArray.size_extract, ByteArray.size_extract]; omega) w (by omega) (by rw [ByteArray.size_extract]; omega) (by rw [ByteArray.size_extract]; omega)
          rw [extract_two b hm] at HAq
          obtain ⟨t, ht⟩ : ∃ t, min y (m : Int) = t := ⟨_, rfl⟩
          have t1 : t ≤ y := by omega
          obtain ⟨C, hC⟩ : ∃ C, b.extract 0 m = C := ⟨_, rfl⟩
          obtain ⟨F, hF⟩ : ∃ F, b.extract m b.size = F := ⟨_, rfl⟩
          rw [ht, hC] at HTr HAq
          rw [hF] at HAq
          have HF : Hid _ := hF
          have g0 : (0 : Int) ≤ (m : Int) := by omega
          have g1 : (m : Int) ≤ (b.size : Int) := by omega
          clear h hn ht hC hF
          go_enter Try.func6, Try.ntmps6
          go_wp2_with fail
          have HT0 : Hid (DkAt (w.alloc (.cells #[.string a, .int .i64 x, .string b, .int .i64 y] 26)) w.heap.size a x b y ∧ Below w.heap.size w (w.alloc (.cells #[.string a, .int .i64 x, .string b, .int .i64 y] 26))) := ⟨Deep.blk_alloc_new w _, (Below.refl _ w).alloc (Nat.le_refl _) _⟩
          generalize w.alloc (.cells #[.string a, .int .i64 x, .string b, .int .i64 y] 26) = w0 at HT0 ⊢
          obtain ⟨D, hD⟩ : ∃ D, w.heap.size = D := ⟨_, rfl⟩
          rw [hD] at HT0 ⊢
          have HW : Hid (w.heap.size = D) := hD
          clear hD
          have HX0_0 : Hid _ := HT0.out.1
          have HB0 : Hid _ := HT0.out.2
          clear HT0
          change Hid (DkAt w0 D a x b y) at HX0_0
          change Hid (Below D w w0) at HB0
          have hz1_0 := HX0_0.out.lt
          with_reducible refine (HT1.out _).mono ?_
          rintro e w1 ⟨rfl, hb1⟩
          have HX1_0 : Hid (DkAt w1 D a x b y) := HX0_0.out.below hb1 (by omega)
          have HB1 : Hid (Below D w w1) := HB0.out.trans (hb1.mono (by omega))
          clear hz1_0 hb1
          have hl0 := HX1_0.out.lt
          obtain ⟨c0_0, c0_1, c0_2, c0_3⟩ := HX1_0.out.cells
          obtain ⟨f0_0, f0_1, f0_2, f0_3⟩ := HX1_0.out.free
          go_wp2_with fail
          have HT : Hid (DkAt (w1.alloc (.cells #[.string ⟨#[97]⟩, .int .i64 1, .string ⟨#[]⟩, .int .i64 0] 26)) w1.heap.size ⟨#[97]⟩ 1 ⟨#[]⟩ 0 ∧ Below w1.heap.size w1 (w1.alloc (.cells #[.string ⟨#[97]⟩, .int .i64 1, .string ⟨#[]⟩, .int .i64 0] 26)) ∧ (w1.alloc (.cells #[.string ⟨#[97]⟩, .int .i64 1, .string ⟨#[]⟩, .int .i64 0] 26)).heap.size = w1.heap.size + 1) := ⟨Deep.blk_alloc_new w1 _, (Below.refl _ w1).alloc (Nat.le_refl _) _, by simp⟩
          generalize w1.alloc (.cells #[.string ⟨#[97]⟩, .int .i64 1, .string ⟨#[]⟩, .int .i64 0] 26) = w2 at HT ⊢
          have HX2_0 : Hid (DkAt w2 D a x b y) := HX1_0.out.below HT.out.2.1 HX1_0.out.lt
          have HB2 : Hid (Below D w w2) := HB1.out.trans (HT.out.2.1.mono (by have := HX1_0.out.lt; omega))
          clear hl0 c0_0 c0_1 c0_2 c0_3 f0_0 f0_1 f0_2 f0_3
          have hlast := HX1_0.out.lt
          obtain ⟨X, hX⟩ : ∃ g, w1.heap.size = g := ⟨_, rfl⟩
          rw [hX] at HT hlast ⊢
          have HX2_1 : Hid (DkAt w2 X ⟨#[97]⟩ 1 ⟨#[]⟩ 0) := HT.out.1
          have HOS : Hid (D < X) := hlast
          have HNX : Hid (w2.heap.size = X + 1) := HT.out.2.2
          clear hX HT hlast
          have hz3_0 := HX2_0.out.lt
          have hz3_1 := HX2_1.out.lt
          with_reducible refine (HAp.out _).mono ?_
          rintro e w3 ⟨rfl, hb3⟩
          have HX3_0 : Hid (DkAt w3 D a x b y) := HX2_0.out.below hb3 (by omega)
          have HX3_1 : Hid (DkAt w3 X ⟨#[97]⟩ 1 ⟨#[]⟩ 0) := HX2_1.out.below hb3 (by omega)
          have HB3 : Hid (Below D w w3) := HB2.out.trans (hb3.mono (by omega))
          clear hz3_0 hz3_1 hb3
          have hl0 := HX3_0.out.lt
          obtain ⟨c0_0, c0_1, c0_2, c0_3⟩ := HX3_0.out.cells
          obtain ⟨f0_0, f0_1, f0_2, f0_3⟩ := HX3_0.out.free
          have hl1 := HX3_1.out.lt
          obtain ⟨c1_0, c1_1, c1_2, c1_3⟩ := HX3_1.out.cells
          obtain ⟨f1_0, f1_1, f1_2, f1_3⟩ := HX3_1.out.free
          go_wp2_with fail
          have HT : Hid (DkAt (w3.alloc (.cells #[.string ⟨#[]⟩, .int .i64 0, .string ⟨#[]⟩, .int .i64 0] 26)) w3.heap.size ⟨#[]⟩ 0 ⟨#[]⟩ 0 ∧ Below w3.heap.size w3 (w3.alloc (.cells #[.string ⟨#[]⟩, .int .i64 0, .string ⟨#[]⟩, .int .i64 0] 26)) ∧ (w3.alloc (.cells #[.string ⟨#[]⟩, .int .i64 0, .string ⟨#[]⟩, .int .i64 0] 26)).heap.size = w3.heap.size + 1) := ⟨Deep.blk_alloc_new w3 _, (Below.refl _ w3).alloc (Nat.le_refl _) _, by simp⟩
          generalize w3.alloc (.cells #[.string ⟨#[]⟩, .int .i64 0, .string ⟨#[]⟩, .int .i64 0] 26) = w4 at HT ⊢
          have HX4_0 : Hid (DkAt w4 D a x b y) := HX3_0.out.below HT.out.2.1 HX3_0.out.lt
          have HX4_1 : Hid (DkAt w4 X ⟨#[97]⟩ 1 ⟨#[]⟩ 0) := HX3_1.out.below HT.out.2.1 HX3_1.out.lt
          have HB4 : Hid (Below D w w4) := HB3.out.trans (HT.out.2.1.mono (by have := HX3_0.out.lt; omega))
          clear hl0 c0_0 c0_1 c0_2 c0_3 f0_0 f0_1 f0_2 f0_3 hl1 c1_0 c1_1 c1_2 c1_3 f1_0 f1_1 f1_2 f1_3
          have hlast := HX3_1.out.lt
          obtain ⟨Y, hY⟩ : ∃ g, w3.heap.size = g := ⟨_, rfl⟩
          rw [hY] at HT hlast ⊢
          have HX4_2 : Hid (DkAt w4 Y ⟨#[]⟩ 0 ⟨#[]⟩ 0) := HT.out.1
          have HOS : Hid (D < X ∧ X < Y) := by have := HOS.out; refine ⟨?_, ?_⟩ <;> omega
          have HNY : Hid (w4.heap.size = Y + 1) := HT.out.2.2
          clear hY HT hlast
          have hz5_0 := HX4_0.out.lt
          have hz5_1 := HX4_1.out.lt
          have hz5_2 := HX4_2.out.lt
          with_reducible refine (HSy.out _).mono ?_
          rintro e w5 ⟨rfl, hb5⟩
          have HX5_0 : Hid (DkAt w5 D a x b y) := HX4_0.out.below hb5 (by omega)
          have HX5_1 : Hid (DkAt w5 X ⟨#[97]⟩ 1 ⟨#[]⟩ 0) := HX4_1.out.below hb5 (by omega)
          have HX5_2 : Hid (DkAt w5 Y ⟨#[]⟩ 0 ⟨#[]⟩ 0) := HX4_2.out.below hb5 (by omega)
          have HB5 : Hid (Below D w w5) := HB4.out.trans (hb5.mono (by omega))
          clear hz5_0 hz5_1 hz5_2 hb5
          have hl0 := HX5_0.out.lt
          obtain ⟨c0_0, c0_1, c0_2, c0_3⟩ := HX5_0.out.cells
          obtain ⟨f0_0, f0_1, f0_2, f0_3⟩ := HX5_0.out.free
          have hl1 := HX5_1.out.lt
          obtain ⟨c1_0, c1_1, c1_2, c1_3⟩ := HX5_1.out.cells
          obtain ⟨f1_0, f1_1, f1_2, f1_3⟩ := HX5_1.out.free
          have hl2 := HX5_2.out.lt
          obtain ⟨c2_0, c2_1, c2_2, c2_3⟩ := HX5_2.out.cells
          obtain ⟨f2_0, f2_1, f2_2, f2_3⟩ := HX5_2.out.free
          go_wp2_with fail
          have HT : Hid (DkAt (w5.alloc (.cells #[.string a, .int .i64 x, .string b, .int .i64 (b.size : Int)] 26)) w5.heap.size a x b (b.size : Int) ∧ Below w5.heap.size w5 (w5.alloc (.cells #[.string a, .int .i64 x, .string b, .int .i64 (b.size : Int)] 26)) ∧ (w5.alloc (.cells #[.string a, .int .i64 x, .string b, .int .i64 (b.size : Int)] 26)).heap.size = w5.heap.size + 1) := ⟨Deep.blk_alloc_new w5 _, (Below.refl _ w5).alloc (Nat.le_refl _) _, by simp⟩
          generalize w5.alloc (.cells #[.string a, .int .i64 x, .string b, .int .i64 (b.size : Int)] 26) = w6 at HT ⊢
          have HX6_0 : Hid (DkAt w6 D a x b y) := HX5_0.out.below HT.out.2.1 HX5_0.out.lt
          have HX6_1 : Hid (DkAt w6 X ⟨#[97]⟩ 1 ⟨#[]⟩ 0) := HX5_1.out.below HT.out.2.1 HX5_1.out.lt
          have HX6_2 : Hid (DkAt w6 Y ⟨#[]⟩ 0 ⟨#[]⟩ 0) := HX5_2.out.below HT.out.2.1 HX5_2.out.lt
          have HB6 : Hid (Below D w w6) := HB5.out.trans (HT.out.2.1.mono (by have := HX5_0.out.lt; omega))
          clear hl0 c0_0 c0_1 c0_2 c0_3 f0_0 f0_1 f0_2 f0_3 hl1 c1_0 c1_1 c1_2 c1_3 f1_0 f1_1 f1_2 f1_3 hl2 c2_0 c2_1 c2_2 c2_3 f2_0 f2_1 f2_2 f2_3
          have hlast := HX5_2.out.lt
          obtain ⟨Z, hZ⟩ : ∃ g, w5.heap.size = g := ⟨_, rfl⟩
          rw [hZ] at HT hlast ⊢
          have HX6_3 : Hid (DkAt w6 Z a x b (b.size : Int)) := HT.out.1
          have HOS : Hid (D < X ∧ X < Y ∧ Y < Z) := by have := HOS.out; refine ⟨?_, ?_, ?_⟩ <;> omega
          have HNZ : Hid (w6.heap.size = Z + 1) := HT.out.2.2
          clear hZ HT hlast
          have hz7_0 := HX6_0.out.lt
          have hz7_1 := HX6_1.out.lt
          have hz7_2 := HX6_2.out.lt
          have hz7_3 := HX6_3.out.lt
          with_reducible refine (HTr.out _).mono ?_
          rintro e w7 ⟨rfl, hb7⟩
          have HX7_0 : Hid (DkAt w7 D a x b y) := HX6_0.out.below hb7 (by omega)
          have HX7_1 : Hid (DkAt w7 X ⟨#[97]⟩ 1 ⟨#[]⟩ 0) := HX6_1.out.below hb7 (by omega)
          have HX7_2 : Hid (DkAt w7 Y ⟨#[]⟩ 0 ⟨#[]⟩ 0) := HX6_2.out.below hb7 (by omega)
          have HX7_3 : Hid (DkAt w7 Z a x b (b.size : Int)) := HX6_3.out.below hb7 (by omega)
          have HB7 : Hid (Below D w w7) := HB6.out.trans (hb7.mono (by omega))
          clear hz7_0 hz7_1 hz7_2 hz7_3 hb7
          have hl0 := HX7_0.out.lt
          obtain ⟨c0_0, c0_1, c0_2, c0_3⟩ := HX7_0.out.cells
          obtain ⟨f0_0, f0_1, f0_2, f0_3⟩ := HX7_0.out.free
          have hl1 := HX7_1.out.lt
          obtain ⟨c1_0, c1_1, c1_2, c1_3⟩ := HX7_1.out.cells
          obtain ⟨f1_0, f1_1, f1_2, f1_3⟩ := HX7_1.out.free
          have hl2 := HX7_2.out.lt
          obtain ⟨c2_0, c2_1, c2_2, c2_3⟩ := HX7_2.out.cells
          obtain ⟨f2_0, f2_1, f2_2, f2_3⟩ := HX7_2.out.free
          have hl3 := HX7_3.out.lt
          obtain ⟨c3_0, c3_1, c3_2, c3_3⟩ := HX7_3.out.cells
          obtain ⟨f3_0, f3_1, f3_2, f3_3⟩ := HX7_3.out.free
          go_wp2_with fail
          have HT : Hid (DkAt (w7.alloc (.cells #[.string a, .int .i64 x, .string C, .int .i64 t] 26)) w7.heap.size a x C t ∧ Below w7.heap.size w7 (w7.alloc (.cells #[.string a, .int .i64 x, .string C, .int .i64 t] 26)) ∧ (w7.alloc (.cells #[.string a, .int .i64 x, .string C, .int .i64 t] 26)).heap.size = w7.heap.size + 1) := ⟨Deep.blk_alloc_new w7 _, (Below.refl _ w7).alloc (Nat.le_refl _) _, by simp⟩
          generalize w7.alloc (.cells #[.string a, .int .i64 x, .string C, .int .i64 t] 26) = w8 at HT ⊢
          have HX8_0 : Hid (DkAt w8 D a x b y) := HX7_0.out.below HT.out.2.1 HX7_0.out.lt
          have HX8_1 : Hid (DkAt w8 X ⟨#[97]⟩ 1 ⟨#[]⟩ 0) := HX7_1.out.below HT.out.2.1 HX7_1.out.lt
          have HX8_2 : Hid (DkAt w8 Y ⟨#[]⟩ 0 ⟨#[]⟩ 0) := HX7_2.out.below HT.out.2.1 HX7_2.out.lt
          have HX8_3 : Hid (DkAt w8 Z a x b (b.size : Int)) := HX7_3.out.below HT.out.2.1 HX7_3.out.lt
          have HB8 : Hid (Below D w w8) := HB7.out.trans (HT.out.2.1.mono (by have := HX7_0.out.lt; omega))
          clear hl0 c0_0 c0_1 c0_2 c0_3 f0_0 f0_1 f0_2 f0_3 hl1 c1_0 c1_1 c1_2 c1_3 f1_0 f1_1 f1_2 f1_3 hl2 c2_0 c2_1 c2_2 c2_3 f2_0 f2_1 f2_2 f2_3 hl3 c3_0 c3_1 c3_2 c3_3 f3_0 f3_1 f3_2 f3_3
          have hlast := HX7_3.out.lt
          obtain ⟨U, hU⟩ : ∃ g, w7.heap.size = g := ⟨_, rfl⟩
          rw [hU] at HT hlast ⊢
          have HX8_4 : Hid (DkAt w8 U a x C t) := HT.out.1
          have HOS : Hid (D < X ∧ X < Y ∧ Y < Z ∧ Z < U) := by have := HOS.out; refine ⟨?_, ?_, ?_, ?_⟩ <;> omega
          have HNU : Hid (w8.heap.size = U + 1) := HT.out.2.2
          clear hU HT hlast
          have hl0 := HX8_0.out.lt
          obtain ⟨c0_0, c0_1, c0_2, c0_3⟩ := HX8_0.out.cells
          obtain ⟨f0_0, f0_1, f0_2, f0_3⟩ := HX8_0.out.free
          have hl1 := HX8_1.out.lt
          obtain ⟨c1_0, c1_1, c1_2, c1_3⟩ := HX8_1.out.cells
          obtain ⟨f1_0, f1_1, f1_2, f1_3⟩ := HX8_1.out.free
          have hl2 := HX8_2.out.lt
          obtain ⟨c2_0, c2_1, c2_2, c2_3⟩ := HX8_2.out.cells
          obtain ⟨f2_0, f2_1, f2_2, f2_3⟩ := HX8_2.out.free
          have hl3 := HX8_3.out.lt
          obtain ⟨c3_0, c3_1, c3_2, c3_3⟩ := HX8_3.out.cells
          obtain ⟨f3_0, f3_1, f3_2, f3_3⟩ := HX8_3.out.free
          have hl4 := HX8_4.out.lt
          obtain ⟨c4_0, c4_1, c4_2, c4_3⟩ := HX8_4.out.cells
          obtain ⟨f4_0, f4_1, f4_2, f4_3⟩ := HX8_4.out.free
          have HT : Hid ((w8.alloc (.cells #[.string a, .int .i64 x] 23)).heap[w8.heap.size]? = some (.cells #[.string a, .int .i64 x] 23 (0, 0)) ∧ Below w8.heap.size w8 (w8.alloc (.cells #[.string a, .int .i64 x] 23)) ∧ w8.heap.size < (w8.alloc (.cells #[.string a, .int .i64 x] 23)).heap.size) := ⟨Deep.blk_alloc_new w8 _, (Below.refl _ w8).alloc (Nat.le_refl _) _, by simp⟩
          generalize w8.alloc (.cells #[.string a, .int .i64 x] 23) = w9 at HT ⊢
          have HX9_0 : Hid (DkAt w9 D a x b y) := HX8_0.out.below HT.out.2.1 HX8_0.out.lt
          have HX9_1 : Hid (DkAt w9 X ⟨#[97]⟩ 1 ⟨#[]⟩ 0) := HX8_1.out.below HT.out.2.1 HX8_1.out.lt
          have HX9_2 : Hid (DkAt w9 Y ⟨#[]⟩ 0 ⟨#[]⟩ 0) := HX8_2.out.below HT.out.2.1 HX8_2.out.lt
          have HX9_3 : Hid (DkAt w9 Z a x b (b.size : Int)) := HX8_3.out.below HT.out.2.1 HX8_3.out.lt
          have HX9_4 : Hid (DkAt w9 U a x C t) := HX8_4.out.below HT.out.2.1 HX8_4.out.lt
          have HB9 : Hid (Below D w w9) := HB8.out.trans (HT.out.2.1.mono (by have := HX8_0.out.lt; omega))
          clear hl0 c0_0 c0_1 c0_2 c0_3 f0_0 f0_1 f0_2 f0_3 hl1 c1_0 c1_1 c1_2 c1_3 f1_0 f1_1 f1_2 f1_3 hl2 c2_0 c2_1 c2_2 c2_3 f2_0 f2_1 f2_2 f2_3 hl3 c3_0 c3_1 c3_2 c3_3 f3_0 f3_1 f3_2 f3_3 hl4 c4_0 c4_1 c4_2 c4_3 f4_0 f4_1 f4_2 f4_3
          rw [HNU.out] at HT
          obtain ⟨S, hS⟩ : ∃ g, U + 1 = g := ⟨_, rfl⟩
          rw [hS] at HT ⊢
          have HS1 : Hid (U + 1 = S) := hS
          clear hS
          have q0 := Lib.cell_of_heap HT.out.1 0
          have q1 := Lib.cell_of_heap HT.out.1 1
          have hlS := HT.out.2.2
          simp at q0 q1
          have hl0 := HX9_0.out.lt
          obtain ⟨c0_0, c0_1, c0_2, c0_3⟩ := HX9_0.out.cells
          obtain ⟨f0_0, f0_1, f0_2, f0_3⟩ := HX9_0.out.free
          have hl1 := HX9_1.out.lt
          obtain ⟨c1_0, c1_1, c1_2, c1_3⟩ := HX9_1.out.cells
          obtain ⟨f1_0, f1_1, f1_2, f1_3⟩ := HX9_1.out.free
          have hl2 := HX9_2.out.lt
          obtain ⟨c2_0, c2_1, c2_2, c2_3⟩ := HX9_2.out.cells
          obtain ⟨f2_0, f2_1, f2_2, f2_3⟩ := HX9_2.out.free
          have hl3 := HX9_3.out.lt
          obtain ⟨c3_0, c3_1, c3_2, c3_3⟩ := HX9_3.out.cells
          obtain ⟨f3_0, f3_1, f3_2, f3_3⟩ := HX9_3.out.free
          have hl4 := HX9_4.out.lt
          obtain ⟨c4_0, c4_1, c4_2, c4_3⟩ := HX9_4.out.cells
          obtain ⟨f4_0, f4_1, f4_2, f4_3⟩ := HX9_4.out.free
          go_wp2_with fail
          go_quiet (fail)
          rename Nat => nq
          go_wp2_with fail
          have HBq : Hid (Below w9.heap.size w9 (w9.drewN nq)) := below_drewN (Below.refl _ w9) nq
          have HY0 : Hid (DkAt (w9.drewN nq) D a x b y) := HX9_0.out.below HBq.out HX9_0.out.lt
          have HY1 : Hid (DkAt (w9.drewN nq) X ⟨#[97]⟩ 1 ⟨#[]⟩ 0) := HX9_1.out.below HBq.out HX9_1.out.lt
          have HY2 : Hid (DkAt (w9.drewN nq) Y ⟨#[]⟩ 0 ⟨#[]⟩ 0) := HX9_2.out.below HBq.out HX9_2.out.lt
          have HY3 : Hid (DkAt (w9.drewN nq) Z a x b (b.size : Int)) := HX9_3.out.below HBq.out HX9_3.out.lt
          have HY4 : Hid (DkAt (w9.drewN nq) U a x C t) := HX9_4.out.below HBq.out HX9_4.out.lt
          have HBy : Hid (Below D w (w9.drewN nq)) := below_drewN HB9.out nq
          clear hl0 c0_0 c0_1 c0_2 c0_3 f0_0 f0_1 f0_2 f0_3 hl1 c1_0 c1_1 c1_2 c1_3 f1_0 f1_1 f1_2 f1_3 hl2 c2_0 c2_1 c2_2 c2_3 f2_0 f2_1 f2_2 f2_3 hl3 c3_0 c3_1 c3_2 c3_3 f3_0 f3_1 f3_2 f3_3 hl4 c4_0 c4_1 c4_2 c4_3 f4_0 f4_1 f4_2 f4_3
          clear q0 q1 hlS HBq
          generalize w9.drewN nq = W at HY0 HY1 HY2 HY3 HY4 HBy ⊢
          have hlU := HY4.out.lt
          have hlD := HY0.out.lt
          obtain ⟨c0, c1, c2, c3⟩ := HY4.out.cells
          obtain ⟨e0, e1, e2, e3⟩ := HY0.out.cells
          have hF := HF.out
          go_region_held3 (fun w' => w'.cell? ⟨U, 0, none⟩ = some (.string a) ∧ w'.cell? ⟨U, 1, none⟩ = some (.int .i64 x) ∧ w'.cell? ⟨U, 2, none⟩ = some (.string C) ∧ w'.cell? ⟨U, 3, none⟩ = some (.int .i64 t) ∧ w'.cell? ⟨D, 2, none⟩ = some (.string b)) (first | go_keep | exact dk_five1 HY4.out HY0.out HQ5.out | exact dk_five1 HY4.out HY0.out (HQ5.out.alloc HZ5.out _) | exact dk_five1 HY4.out HY0.out (below_four HQ5.out (Nat.le_refl _) _ _ _ _) | fail) (first
            | (go_at_call 9; with_reducible refine (HAq.out _).mono ?_; rintro e w2' ⟨rfl, hb2⟩; have h5 := dk_went2 (w := W) hb2; have h6 := dk_kept (w := W) hb2; obtain ⟨HQ5, HZ5⟩ := h5; obtain ⟨p0, p1, p2, p3, d0, d1, d2, d3, HZ⟩ := h6)
            | (go_at_call 9; with_reducible refine (HAq.out _).mono ?_; rintro e w2' ⟨rfl, hb2⟩; have h5 := dk_went (w := W) hb2; obtain ⟨HQ5, HZ5⟩ := h5)
            | fail)
          all_goals first
            | (have hS : Hid (DkAt ((((w2'.setCell ⟨W.heap.size, 0, none⟩ (.string a)).setCell ⟨W.heap.size, 1, none⟩ (.int .i64 x)).setCell ⟨W.heap.size, 2, none⟩ (.string b)).setCell ⟨W.heap.size, 3, none⟩ (.int .i64 t)) W.heap.size a x b t ∧ DkAt ((((w2'.setCell ⟨W.heap.size, 0, none⟩ (.string a)).setCell ⟨W.heap.size, 1, none⟩ (.int .i64 x)).setCell ⟨W.heap.size, 2, none⟩ (.string b)).setCell ⟨W.heap.size, 3, none⟩ (.int .i64 t)) D a x b y ∧ Below D w ((((w2'.setCell ⟨W.heap.size, 0, none⟩ (.string a)).setCell ⟨W.heap.size, 1, none⟩ (.int .i64 x)).setCell ⟨W.heap.size, 2, none⟩ (.string b)).setCell ⟨W.heap.size, 3, none⟩ (.int .i64 t))) := ⟨(((HZ.out.put0 _).put1 _).put2 _).put3 _, HY0.out.below (below_four HQ5.out (Nat.le_refl _) _ _ _ _) HY0.out.lt, below_four (HBy.out.trans (HQ5.out.mono (Nat.le_of_lt hlD))) (Nat.le_of_lt hlD) _ _ _ _⟩
               generalize ((((w2'.setCell ⟨W.heap.size, 0, none⟩ (.string a)).setCell ⟨W.heap.size, 1, none⟩ (.int .i64 x)).setCell ⟨W.heap.size, 2, none⟩ (.string b)).setCell ⟨W.heap.size, 3, none⟩ (.int .i64 t)) = WF at hS ⊢
               generalize W.heap.size = N at hS ⊢
               clear c0 c1 c2 c3 e0 e1 e2 e3
               have hn := hS.out.1.lt
               have hd := hS.out.2.1.lt
               obtain ⟨c0, c1, c2, c3⟩ := hS.out.1.cells
               obtain ⟨e0, e1, e2, e3⟩ := hS.out.2.1.cells
               go_wp2_with fail
               go_quiet (fail)
               go_wp2_with fail
               go_ret
               exact ⟨by first | rfl | simp, by rw [HW.out]; exact below_drewN hS.out.2.2 _⟩)
            | (have hS : Hid (DkAt (w2'.alloc (.cells #[.string a, .int .i64 x, .string b, .int .i64 t] 26)) w2'.heap.size a x b t ∧ DkAt (w2'.alloc (.cells #[.string a, .int .i64 x, .string b, .int .i64 t] 26)) D a x b y ∧ Below D w (w2'.alloc (.cells #[.string a, .int .i64 x, .string b, .int .i64 t] 26))) := ⟨Deep.blk_alloc_new w2' _, HY0.out.below (HQ5.out.alloc HZ5.out _) HY0.out.lt, (HBy.out.trans (HQ5.out.mono (Nat.le_of_lt hlD))).alloc (Nat.le_trans (Nat.le_of_lt hlD) HZ5.out) _⟩
               generalize w2'.alloc (.cells #[.string a, .int .i64 x, .string b, .int .i64 t] 26) = WF at hS ⊢
               generalize w2'.heap.size = N at hS ⊢
               clear c0 c1 c2 c3 e0 e1 e2 e3
               have hn := hS.out.1.lt
               have hd := hS.out.2.1.lt
               obtain ⟨c0, c1, c2, c3⟩ := hS.out.1.cells
               obtain ⟨e0, e1, e2, e3⟩ := hS.out.2.1.cells
               go_wp2_with fail
               go_quiet (fail)
               go_wp2_with fail
               go_ret
               exact ⟨by first | rfl | simp, by rw [HW.out]; exact below_drewN hS.out.2.2 _⟩)
            | fail
  · obtain ⟨q, hq⟩ : ∃ q, dksE a x b y i = q := ⟨_, rfl⟩
    rw [hq] at h
    have HT1 : Hid _ := HT0.out
    have HAp : Hid _ := fun w => DAppend_err a x b y s i q hq h w ha hb hs
    have HSy : Hid _ := fun w => DSync_err a x b y i q hq h w ha hb
    have HTr : Hid _ := fun w => DTrim_err a x b y n i q hq h w ha hb
    have hq' : (q != 0) = true := by simp [h]
    clear h hq HT0
    go_enter Try.func6, Try.ntmps6
    go_wp2_with fail
    have HT0 : Hid (DkAt (w.alloc (.cells #[.string a, .int .i64 x, .string b, .int .i64 y] 26)) w.heap.size a x b y ∧ Below w.heap.size w (w.alloc (.cells #[.string a, .int .i64 x, .string b, .int .i64 y] 26))) := ⟨Deep.blk_alloc_new w _, (Below.refl _ w).alloc (Nat.le_refl _) _⟩
    generalize w.alloc (.cells #[.string a, .int .i64 x, .string b, .int .i64 y] 26) = w0 at HT0 ⊢
    obtain ⟨D, hD⟩ : ∃ D, w.heap.size = D := ⟨_, rfl⟩
    rw [hD] at HT0 ⊢
    have HW : Hid (w.heap.size = D) := hD
    clear hD
    have HX0_0 : Hid _ := HT0.out.1
    have HB0 : Hid _ := HT0.out.2
    clear HT0
    change Hid (DkAt w0 D a x b y) at HX0_0
    change Hid (Below D w w0) at HB0
    have hz1_0 := HX0_0.out.lt
    with_reducible refine (HT1.out _).mono ?_
    rintro e w1 ⟨rfl, hb1⟩
    have HX1_0 : Hid (DkAt w1 D a x b y) := HX0_0.out.below hb1 (by omega)
    have HB1 : Hid (Below D w w1) := HB0.out.trans (hb1.mono (by omega))
    clear hz1_0 hb1
    have hl0 := HX1_0.out.lt
    obtain ⟨c0_0, c0_1, c0_2, c0_3⟩ := HX1_0.out.cells
    obtain ⟨f0_0, f0_1, f0_2, f0_3⟩ := HX1_0.out.free
    go_wp2_with fail
    have HT : Hid (DkAt (w1.alloc (.cells #[.string ⟨#[97]⟩, .int .i64 1, .string ⟨#[]⟩, .int .i64 0] 26)) w1.heap.size ⟨#[97]⟩ 1 ⟨#[]⟩ 0 ∧ Below w1.heap.size w1 (w1.alloc (.cells #[.string ⟨#[97]⟩, .int .i64 1, .string ⟨#[]⟩, .int .i64 0] 26)) ∧ (w1.alloc (.cells #[.string ⟨#[97]⟩, .int .i64 1, .string ⟨#[]⟩, .int .i64 0] 26)).heap.size = w1.heap.size + 1) := ⟨Deep.blk_alloc_new w1 _, (Below.refl _ w1).alloc (Nat.le_refl _) _, by simp⟩
    generalize w1.alloc (.cells #[.string ⟨#[97]⟩, .int .i64 1, .string ⟨#[]⟩, .int .i64 0] 26) = w2 at HT ⊢
    have HX2_0 : Hid (DkAt w2 D a x b y) := HX1_0.out.below HT.out.2.1 HX1_0.out.lt
    have HB2 : Hid (Below D w w2) := HB1.out.trans (HT.out.2.1.mono (by have := HX1_0.out.lt; omega))
    clear hl0 c0_0 c0_1 c0_2 c0_3 f0_0 f0_1 f0_2 f0_3
    have hlast := HX1_0.out.lt
    obtain ⟨X, hX⟩ : ∃ g, w1.heap.size = g := ⟨_, rfl⟩
    rw [hX] at HT hlast ⊢
    have HX2_1 : Hid (DkAt w2 X ⟨#[97]⟩ 1 ⟨#[]⟩ 0) := HT.out.1
    have HOS : Hid (D < X) := hlast
    have HNX : Hid (w2.heap.size = X + 1) := HT.out.2.2
    clear hX HT hlast
    have hz3_0 := HX2_0.out.lt
    have hz3_1 := HX2_1.out.lt
    with_reducible refine (HAp.out _).mono ?_
    rintro e w3 ⟨rfl, hb3⟩
    have HX3_0 : Hid (DkAt w3 D a x b y) := HX2_0.out.below hb3 (by omega)
    have HX3_1 : Hid (DkAt w3 X ⟨#[97]⟩ 1 ⟨#[]⟩ 0) := HX2_1.out.below hb3 (by omega)
    have HB3 : Hid (Below D w w3) := HB2.out.trans (hb3.mono (by omega))
    clear hz3_0 hz3_1 hb3
    have hl0 := HX3_0.out.lt
    obtain ⟨c0_0, c0_1, c0_2, c0_3⟩ := HX3_0.out.cells
    obtain ⟨f0_0, f0_1, f0_2, f0_3⟩ := HX3_0.out.free
    have hl1 := HX3_1.out.lt
    obtain ⟨c1_0, c1_1, c1_2, c1_3⟩ := HX3_1.out.cells
    obtain ⟨f1_0, f1_1, f1_2, f1_3⟩ := HX3_1.out.free
    go_wp2_with fail
    have HT : Hid (DkAt (w3.alloc (.cells #[.string ⟨#[]⟩, .int .i64 0, .string ⟨#[]⟩, .int .i64 0] 26)) w3.heap.size ⟨#[]⟩ 0 ⟨#[]⟩ 0 ∧ Below w3.heap.size w3 (w3.alloc (.cells #[.string ⟨#[]⟩, .int .i64 0, .string ⟨#[]⟩, .int .i64 0] 26)) ∧ (w3.alloc (.cells #[.string ⟨#[]⟩, .int .i64 0, .string ⟨#[]⟩, .int .i64 0] 26)).heap.size = w3.heap.size + 1) := ⟨Deep.blk_alloc_new w3 _, (Below.refl _ w3).alloc (Nat.le_refl _) _, by simp⟩
    generalize w3.alloc (.cells #[.string ⟨#[]⟩, .int .i64 0, .string ⟨#[]⟩, .int .i64 0] 26) = w4 at HT ⊢
    have HX4_0 : Hid (DkAt w4 D a x b y) := HX3_0.out.below HT.out.2.1 HX3_0.out.lt
    have HX4_1 : Hid (DkAt w4 X ⟨#[97]⟩ 1 ⟨#[]⟩ 0) := HX3_1.out.below HT.out.2.1 HX3_1.out.lt
    have HB4 : Hid (Below D w w4) := HB3.out.trans (HT.out.2.1.mono (by have := HX3_0.out.lt; omega))
    clear hl0 c0_0 c0_1 c0_2 c0_3 f0_0 f0_1 f0_2 f0_3 hl1 c1_0 c1_1 c1_2 c1_3 f1_0 f1_1 f1_2 f1_3
    have hlast := HX3_1.out.lt
    obtain ⟨Y, hY⟩ : ∃ g, w3.heap.size = g := ⟨_, rfl⟩
    rw [hY] at HT hlast ⊢
    have HX4_2 : Hid (DkAt w4 Y ⟨#[]⟩ 0 ⟨#[]⟩ 0) := HT.out.1
    have HOS : Hid (D < X ∧ X < Y) := by have := HOS.out; refine ⟨?_, ?_⟩ <;> omega
    have HNY : Hid (w4.heap.size = Y + 1) := HT.out.2.2
    clear hY HT hlast
    have hz5_0 := HX4_0.out.lt
    have hz5_1 := HX4_1.out.lt
    have hz5_2 := HX4_2.out.lt
    with_reducible refine (HSy.out _).mono ?_
    rintro e w5 ⟨rfl, hb5⟩
    have HX5_0 : Hid (DkAt w5 D a x b y) := HX4_0.out.below hb5 (by omega)
    have HX5_1 : Hid (DkAt w5 X ⟨#[97]⟩ 1 ⟨#[]⟩ 0) := HX4_1.out.below hb5 (by omega)
    have HX5_2 : Hid (DkAt w5 Y ⟨#[]⟩ 0 ⟨#[]⟩ 0) := HX4_2.out.below hb5 (by omega)
    have HB5 : Hid (Below D w w5) := HB4.out.trans (hb5.mono (by omega))
    clear hz5_0 hz5_1 hz5_2 hb5
    have hl0 := HX5_0.out.lt
    obtain ⟨c0_0, c0_1, c0_2, c0_3⟩ := HX5_0.out.cells
    obtain ⟨f0_0, f0_1, f0_2, f0_3⟩ := HX5_0.out.free
    have hl1 := HX5_1.out.lt
    obtain ⟨c1_0, c1_1, c1_2, c1_3⟩ := HX5_1.out.cells
    obtain ⟨f1_0, f1_1, f1_2, f1_3⟩ := HX5_1.out.free
    have hl2 := HX5_2.out.lt
    obtain ⟨c2_0, c2_1, c2_2, c2_3⟩ := HX5_2.out.cells
    obtain ⟨f2_0, f2_1, f2_2, f2_3⟩ := HX5_2.out.free
    go_wp2_with fail
    have HT : Hid (DkAt (w5.alloc (.cells #[.string ⟨#[]⟩, .int .i64 0, .string ⟨#[]⟩, .int .i64 0] 26)) w5.heap.size ⟨#[]⟩ 0 ⟨#[]⟩ 0 ∧ Below w5.heap.size w5 (w5.alloc (.cells #[.string ⟨#[]⟩, .int .i64 0, .string ⟨#[]⟩, .int .i64 0] 26)) ∧ (w5.alloc (.cells #[.string ⟨#[]⟩, .int .i64 0, .string ⟨#[]⟩, .int .i64 0] 26)).heap.size = w5.heap.size + 1) := ⟨Deep.blk_alloc_new w5 _, (Below.refl _ w5).alloc (Nat.le_refl _) _, by simp⟩
    generalize w5.alloc (.cells #[.string ⟨#[]⟩, .int .i64 0, .string ⟨#[]⟩, .int .i64 0] 26) = w6 at HT ⊢
    have HX6_0 : Hid (DkAt w6 D a x b y) := HX5_0.out.below HT.out.2.1 HX5_0.out.lt
    have HX6_1 : Hid (DkAt w6 X ⟨#[97]⟩ 1 ⟨#[]⟩ 0) := HX5_1.out.below HT.out.2.1 HX5_1.out.lt
    have HX6_2 : Hid (DkAt w6 Y ⟨#[]⟩ 0 ⟨#[]⟩ 0) := HX5_2.out.below HT.out.2.1 HX5_2.out.lt
    have HB6 : Hid (Below D w w6) := HB5.out.trans (HT.out.2.1.mono (by have := HX5_0.out.lt; omega))
    clear hl0 c0_0 c0_1 c0_2 c0_3 f0_0 f0_1 f0_2 f0_3 hl1 c1_0 c1_1 c1_2 c1_3 f1_0 f1_1 f1_2 f1_3 hl2 c2_0 c2_1 c2_2 c2_3 f2_0 f2_1 f2_2 f2_3
    have hlast := HX5_2.out.lt
    obtain ⟨Z, hZ⟩ : ∃ g, w5.heap.size = g := ⟨_, rfl⟩
    rw [hZ] at HT hlast ⊢
    have HX6_3 : Hid (DkAt w6 Z ⟨#[]⟩ 0 ⟨#[]⟩ 0) := HT.out.1
    have HOS : Hid (D < X ∧ X < Y ∧ Y < Z) := by have := HOS.out; refine ⟨?_, ?_, ?_⟩ <;> omega
    have HNZ : Hid (w6.heap.size = Z + 1) := HT.out.2.2
    clear hZ HT hlast
    have hz7_0 := HX6_0.out.lt
    have hz7_1 := HX6_1.out.lt
    have hz7_2 := HX6_2.out.lt
    have hz7_3 := HX6_3.out.lt
    with_reducible refine (HTr.out _).mono ?_
    rintro e w7 ⟨rfl, hb7⟩
    have HX7_0 : Hid (DkAt w7 D a x b y) := HX6_0.out.below hb7 (by omega)
    have HX7_1 : Hid (DkAt w7 X ⟨#[97]⟩ 1 ⟨#[]⟩ 0) := HX6_1.out.below hb7 (by omega)
    have HX7_2 : Hid (DkAt w7 Y ⟨#[]⟩ 0 ⟨#[]⟩ 0) := HX6_2.out.below hb7 (by omega)
    have HX7_3 : Hid (DkAt w7 Z ⟨#[]⟩ 0 ⟨#[]⟩ 0) := HX6_3.out.below hb7 (by omega)
    have HB7 : Hid (Below D w w7) := HB6.out.trans (hb7.mono (by omega))
    clear hz7_0 hz7_1 hz7_2 hz7_3 hb7
    have hl0 := HX7_0.out.lt
    obtain ⟨c0_0, c0_1, c0_2, c0_3⟩ := HX7_0.out.cells
    obtain ⟨f0_0, f0_1, f0_2, f0_3⟩ := HX7_0.out.free
    have hl1 := HX7_1.out.lt
    obtain ⟨c1_0, c1_1, c1_2, c1_3⟩ := HX7_1.out.cells
    obtain ⟨f1_0, f1_1, f1_2, f1_3⟩ := HX7_1.out.free
    have hl2 := HX7_2.out.lt
    obtain ⟨c2_0, c2_1, c2_2, c2_3⟩ := HX7_2.out.cells
    obtain ⟨f2_0, f2_1, f2_2, f2_3⟩ := HX7_2.out.free
    have hl3 := HX7_3.out.lt
    obtain ⟨c3_0, c3_1, c3_2, c3_3⟩ := HX7_3.out.cells
    obtain ⟨f3_0, f3_1, f3_2, f3_3⟩ := HX7_3.out.free
    go_wp2_with fail
    go_ret
    exact ⟨rfl, by rw [HW.out]; exact HB7.out.alloc (by have := HX7_0.out.lt; omega) _⟩
end Go.Proofs.Ytkihanmodfnpcaa
