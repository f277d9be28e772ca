/- DiskSays answers true, of slot 1. -/
import Derived.Test.YtkihanmodfnpcaaDiskSaysKit
import Derived.Deep.DeepCutAuto
namespace Go.Proofs.Ytkihanmodfnpcaa
open Go.RowKit
set_option linter.unusedSimpArgs false
set_option linter.unusedVariables false

set_option maxRecDepth 20000 in
set_option maxHeartbeats 20000000 in
theorem DiskSays_slot1 (a : ByteArray) (x : Int) (b : ByteArray) (y : Int) (s : ByteArray) (n : Int) (w : World) (ha : a.size ≤ 9223372036854775807) (hb : b.size ≤ 9223372036854775807) (hs : s.size ≤ 140737488355328) (h : dksE a x b y 1 = 0) :
    Calls Try.prog 3 #[dkV a x b y, .int .i64 1, .string s, .int .i64 n] w fun e w' => e = .returned (.bool true) ∧ Below w.heap.size w w' := by
  have HRD : Hid _ := fun w => RDisk_any a x b y w ha hb
  have HDC : Hid _ := fun w => DCheck_any a x b y w ha hb
  obtain ⟨hd, hi⟩ := dks_zero h
  clear hi
  obtain ⟨k1, k2⟩ := dk_zero hd
  obtain ⟨m0, m1, m2⟩ := sl_zero k1
  obtain ⟨l0, l1, l2⟩ := sl_zero k2
  rw [hd] at HRD HDC
  clear k1 k2
  have HSy : Hid _ := fun w => DSync_ok1 a x b y h w ha hb
  have hsy := disk_neq a b x (b.size : Int)
  obtain ⟨T, hT⟩ : ∃ T, b ++ s = T := ⟨_, rfl⟩
  have hTs : T.size = b.size + s.size := by rw [← hT, ByteArray.size_append]
  have hAp : ∃ (A1 : ByteArray) (X1 : Int) (B1 : ByteArray) (Y1 eA : Int), (∀ w : World, Calls Try.prog 9 #[dkV a x b y, .int .i64 1, .string s] w fun e w' => e = .returned (.tuple #[dkV A1 X1 B1 Y1, .int .i64 eA]) ∧ Below w.heap.size w w') ∧ ((T.size ≤ 1048576 ∧ 0 = eA ∧ a = A1 ∧ x = X1 ∧ T = B1 ∧ y = Y1) ∨ (1048576 < T.size ∧ 2 = eA ∧ ⟨#[]⟩ = A1 ∧ 0 = X1 ∧ ⟨#[]⟩ = B1 ∧ 0 = Y1)) := by
    by_cases hf : b.size + s.size ≤ 1048576
    · refine ⟨_, _, _, _, _, fun w => DAppend_ok1 a x b y s h hf w ha hb (by omega), .inl ⟨by omega, rfl, rfl, rfl, hT.symm, rfl⟩⟩
    · refine ⟨_, _, _, _, _, fun w => DAppend_big1 a x b y s h (by omega) w ha hb (by omega), .inr ⟨by omega, rfl, rfl, rfl, rfl, rfl⟩⟩
  obtain ⟨A1, X1, B1, Y1, eA, HApp, hAc⟩ := hAp
  have HAp : Hid _ := HApp
  have HAc : Hid _ := hAc
  have hTr : ∃ (A2 : ByteArray) (X2 : Int) (B2 : ByteArray) (Y2 eT : Int), (∀ w : World, Calls Try.prog 11 #[dkV a x b y, .int .i64 1, .int .i64 n] w fun e w' => e = .returned (.tuple #[dkV A2 X2 B2 Y2, .int .i64 eT]) ∧ Below w.heap.size w w') ∧ (((n < 0 ∨ (¬ n < 0 ∧ (b.size : Int) < n)) ∧ 1 = eT ∧ ⟨#[]⟩ = A2 ∧ 0 = X2 ∧ ⟨#[]⟩ = B2 ∧ 0 = Y2) ∨ (∃ m : Nat, n = (m : Int) ∧ m ≤ b.size ∧ 0 = eT ∧ a = A2 ∧ x = X2 ∧ b.extract 0 m = B2 ∧ min y (m : Int) = Y2)) := by
    by_cases hn : n < 0 ∨ (b.size : Int) < n
    · exact ⟨_, _, _, _, _, fun w => DTrim_arg1 a x b y n h hn w ha hb, .inl ⟨by omega, rfl, rfl, rfl, rfl, rfl⟩⟩
    · obtain ⟨m, rfl⟩ : ∃ m : Nat, n = (m : Int) := ⟨n.toNat, by omega⟩
      exact ⟨_, _, _, _, _, fun w => DTrim_ok1 a x b y m h (by omega) w ha hb, .inr ⟨m, rfl, by omega, rfl, rfl, rfl, rfl, rfl⟩⟩
  obtain ⟨A2, X2, B2, Y2, eT, HTrr, hTc⟩ := hTr
  have HTr : Hid _ := HTrr
  have HTc : Hid _ := hTc
  have HTS : Hid _ := hTs
  clear hAc hTc HApp HTrr h hTs
  go_enter Try.func3, Try.ntmps3
  go_wp2_with fail
  have HT0 : Hid (DkAt (w.alloc (.cells #[.string a, .int .i64 x, .string b, .int .i64 y] 26)) w.heap.size a x b y ∧ Below w.heap.size w (w.alloc (.cells #[.string a, .int .i64 x, .string b, .int .i64 y] 26))) := ⟨Deep.blk_alloc_new w _, (Below.refl _ w).alloc (Nat.le_refl _) _⟩
  generalize w.alloc (.cells #[.string a, .int .i64 x, .string b, .int .i64 y] 26) = w0 at HT0 ⊢
  obtain ⟨D, hD⟩ : ∃ D, w.heap.size = D := ⟨_, rfl⟩
  rw [hD] at HT0 ⊢
  have HW : Hid (w.heap.size = D) := hD
  clear hD
  have HX0_0 : Hid _ := HT0.out.1
  have HB0 : Hid _ := HT0.out.2
  clear HT0
  change Hid (DkAt w0 D a x b y) at HX0_0
  change Hid (Below D w w0) at HB0
  have hz1_0 := HX0_0.out.lt
  with_reducible refine (HAp.out _).mono ?_
  rintro e w1 ⟨rfl, hb1⟩
  have HX1_0 : Hid (DkAt w1 D a x b y) := HX0_0.out.below hb1 (by omega)
  have HB1 : Hid (Below D w w1) := HB0.out.trans (hb1.mono (by omega))
  clear hz1_0 hb1
  have hl0 := HX1_0.out.lt
  obtain ⟨c0_0, c0_1, c0_2, c0_3⟩ := HX1_0.out.cells
  obtain ⟨f0_0, f0_1, f0_2, f0_3⟩ := HX1_0.out.free
  go_wp2_with fail
  have HT : Hid (DkAt (w1.alloc (.cells #[.string A1, .int .i64 X1, .string B1, .int .i64 Y1] 26)) w1.heap.size A1 X1 B1 Y1 ∧ Below w1.heap.size w1 (w1.alloc (.cells #[.string A1, .int .i64 X1, .string B1, .int .i64 Y1] 26)) ∧ (w1.alloc (.cells #[.string A1, .int .i64 X1, .string B1, .int .i64 Y1] 26)).heap.size = w1.heap.size + 1) := ⟨Deep.blk_alloc_new w1 _, (Below.refl _ w1).alloc (Nat.le_refl _) _, by simp⟩
  generalize w1.alloc (.cells #[.string A1, .int .i64 X1, .string B1, .int .i64 Y1] 26) = w2 at HT ⊢
  have HX2_0 : Hid (DkAt w2 D a x b y) := HX1_0.out.below HT.out.2.1 HX1_0.out.lt
  have HB2 : Hid (Below D w w2) := HB1.out.trans (HT.out.2.1.mono (by have := HX1_0.out.lt; omega))
  clear hl0 c0_0 c0_1 c0_2 c0_3 f0_0 f0_1 f0_2 f0_3
  have hlast := HX1_0.out.lt
  obtain ⟨X, hX⟩ : ∃ g, w1.heap.size = g := ⟨_, rfl⟩
  rw [hX] at HT hlast ⊢
  have HX2_1 : Hid (DkAt w2 X A1 X1 B1 Y1) := HT.out.1
  have HOS : Hid (D < X) := hlast
  have HNX : Hid (w2.heap.size = X + 1) := HT.out.2.2
  clear hX HT hlast
  have hz3_0 := HX2_0.out.lt
  have hz3_1 := HX2_1.out.lt
  with_reducible refine (HSy.out _).mono ?_
  rintro e w3 ⟨rfl, hb3⟩
  have HX3_0 : Hid (DkAt w3 D a x b y) := HX2_0.out.below hb3 (by omega)
  have HX3_1 : Hid (DkAt w3 X A1 X1 B1 Y1) := HX2_1.out.below hb3 (by omega)
  have HB3 : Hid (Below D w w3) := HB2.out.trans (hb3.mono (by omega))
  clear hz3_0 hz3_1 hb3
  have hl0 := HX3_0.out.lt
  obtain ⟨c0_0, c0_1, c0_2, c0_3⟩ := HX3_0.out.cells
  obtain ⟨f0_0, f0_1, f0_2, f0_3⟩ := HX3_0.out.free
  have hl1 := HX3_1.out.lt
  obtain ⟨c1_0, c1_1, c1_2, c1_3⟩ := HX3_1.out.cells
  obtain ⟨f1_0, f1_1, f1_2, f1_3⟩ := HX3_1.out.free
  go_wp2_with fail
  have HT : Hid (DkAt (w3.alloc (.cells #[.string a, .int .i64 x, .string b, .int .i64 (b.size : Int)] 26)) w3.heap.size a x b (b.size : Int) ∧ Below w3.heap.size w3 (w3.alloc (.cells #[.string a, .int .i64 x, .string b, .int .i64 (b.size : Int)] 26)) ∧ (w3.alloc (.cells #[.string a, .int .i64 x, .string b, .int .i64 (b.size : Int)] 26)).heap.size = w3.heap.size + 1) := ⟨Deep.blk_alloc_new w3 _, (Below.refl _ w3).alloc (Nat.le_refl _) _, by simp⟩
  generalize w3.alloc (.cells #[.string a, .int .i64 x, .string b, .int .i64 (b.size : Int)] 26) = w4 at HT ⊢
  have HX4_0 : Hid (DkAt w4 D a x b y) := HX3_0.out.below HT.out.2.1 HX3_0.out.lt
  have HX4_1 : Hid (DkAt w4 X A1 X1 B1 Y1) := HX3_1.out.below HT.out.2.1 HX3_1.out.lt
  have HB4 : Hid (Below D w w4) := HB3.out.trans (HT.out.2.1.mono (by have := HX3_0.out.lt; omega))
  clear hl0 c0_0 c0_1 c0_2 c0_3 f0_0 f0_1 f0_2 f0_3 hl1 c1_0 c1_1 c1_2 c1_3 f1_0 f1_1 f1_2 f1_3
  have hlast := HX3_1.out.lt
  obtain ⟨Y, hY⟩ : ∃ g, w3.heap.size = g := ⟨_, rfl⟩
  rw [hY] at HT hlast ⊢
  have HX4_2 : Hid (DkAt w4 Y a x b (b.size : Int)) := HT.out.1
  have HOS : Hid (D < X ∧ X < Y) := by have := HOS.out; refine ⟨?_, ?_⟩ <;> omega
  have HNY : Hid (w4.heap.size = Y + 1) := HT.out.2.2
  clear hY HT hlast
  have hz5_0 := HX4_0.out.lt
  have hz5_1 := HX4_1.out.lt
  have hz5_2 := HX4_2.out.lt
  with_reducible refine (HTr.out _).mono ?_
  rintro e w5 ⟨rfl, hb5⟩
  have HX5_0 : Hid (DkAt w5 D a x b y) := HX4_0.out.below hb5 (by omega)
  have HX5_1 : Hid (DkAt w5 X A1 X1 B1 Y1) := HX4_1.out.below hb5 (by omega)
  have HX5_2 : Hid (DkAt w5 Y a x b (b.size : Int)) := HX4_2.out.below hb5 (by omega)
  have HB5 : Hid (Below D w w5) := HB4.out.trans (hb5.mono (by omega))
  clear hz5_0 hz5_1 hz5_2 hb5
  have hl0 := HX5_0.out.lt
  obtain ⟨c0_0, c0_1, c0_2, c0_3⟩ := HX5_0.out.cells
  obtain ⟨f0_0, f0_1, f0_2, f0_3⟩ := HX5_0.out.free
  have hl1 := HX5_1.out.lt
  obtain ⟨c1_0, c1_1, c1_2, c1_3⟩ := HX5_1.out.cells
  obtain ⟨f1_0, f1_1, f1_2, f1_3⟩ := HX5_1.out.free
  have hl2 := HX5_2.out.lt
  obtain ⟨c2_0, c2_1, c2_2, c2_3⟩ := HX5_2.out.cells
  obtain ⟨f2_0, f2_1, f2_2, f2_3⟩ := HX5_2.out.free
  go_wp2_with fail
  have HT : Hid (DkAt (w5.alloc (.cells #[.string A2, .int .i64 X2, .string B2, .int .i64 Y2] 26)) w5.heap.size A2 X2 B2 Y2 ∧ Below w5.heap.size w5 (w5.alloc (.cells #[.string A2, .int .i64 X2, .string B2, .int .i64 Y2] 26)) ∧ (w5.alloc (.cells #[.string A2, .int .i64 X2, .string B2, .int .i64 Y2] 26)).heap.size = w5.heap.size + 1) := ⟨Deep.blk_alloc_new w5 _, (Below.refl _ w5).alloc (Nat.le_refl _) _, by simp⟩
  generalize w5.alloc (.cells #[.string A2, .int .i64 X2, .string B2, .int .i64 Y2] 26) = w6 at HT ⊢
  have HX6_0 : Hid (DkAt w6 D a x b y) := HX5_0.out.below HT.out.2.1 HX5_0.out.lt
  have HX6_1 : Hid (DkAt w6 X A1 X1 B1 Y1) := HX5_1.out.below HT.out.2.1 HX5_1.out.lt
  have HX6_2 : Hid (DkAt w6 Y a x b (b.size : Int)) := HX5_2.out.below HT.out.2.1 HX5_2.out.lt
  have HB6 : Hid (Below D w w6) := HB5.out.trans (HT.out.2.1.mono (by have := HX5_0.out.lt; omega))
  clear hl0 c0_0 c0_1 c0_2 c0_3 f0_0 f0_1 f0_2 f0_3 hl1 c1_0 c1_1 c1_2 c1_3 f1_0 f1_1 f1_2 f1_3 hl2 c2_0 c2_1 c2_2 c2_3 f2_0 f2_1 f2_2 f2_3
  have hlast := HX5_2.out.lt
  obtain ⟨Z, hZ⟩ : ∃ g, w5.heap.size = g := ⟨_, rfl⟩
  rw [hZ] at HT hlast ⊢
  have HX6_3 : Hid (DkAt w6 Z A2 X2 B2 Y2) := HT.out.1
  have HOS : Hid (D < X ∧ X < Y ∧ Y < Z) := by have := HOS.out; refine ⟨?_, ?_, ?_⟩ <;> omega
  have HNZ : Hid (w6.heap.size = Z + 1) := HT.out.2.2
  clear hZ HT hlast
  have hz7_0 := HX6_0.out.lt
  have hz7_1 := HX6_1.out.lt
  have hz7_2 := HX6_2.out.lt
  have hz7_3 := HX6_3.out.lt
  with_reducible refine (HRD.out _).mono ?_
  rintro e w7 ⟨rfl, hb7⟩
  have HX7_0 : Hid (DkAt w7 D a x b y) := HX6_0.out.below hb7 (by omega)
  have HX7_1 : Hid (DkAt w7 X A1 X1 B1 Y1) := HX6_1.out.below hb7 (by omega)
  have HX7_2 : Hid (DkAt w7 Y a x b (b.size : Int)) := HX6_2.out.below hb7 (by omega)
  have HX7_3 : Hid (DkAt w7 Z A2 X2 B2 Y2) := HX6_3.out.below hb7 (by omega)
  have HB7 : Hid (Below D w w7) := HB6.out.trans (hb7.mono (by omega))
  clear hz7_0 hz7_1 hz7_2 hz7_3 hb7
  have hl0 := HX7_0.out.lt
  obtain ⟨c0_0, c0_1, c0_2, c0_3⟩ := HX7_0.out.cells
  obtain ⟨f0_0, f0_1, f0_2, f0_3⟩ := HX7_0.out.free
  have hl1 := HX7_1.out.lt
  obtain ⟨c1_0, c1_1, c1_2, c1_3⟩ := HX7_1.out.cells
  obtain ⟨f1_0, f1_1, f1_2, f1_3⟩ := HX7_1.out.free
  have hl2 := HX7_2.out.lt
  obtain ⟨c2_0, c2_1, c2_2, c2_3⟩ := HX7_2.out.cells
  obtain ⟨f2_0, f2_1, f2_2, f2_3⟩ := HX7_2.out.free
  have hl3 := HX7_3.out.lt
  obtain ⟨c3_0, c3_1, c3_2, c3_3⟩ := HX7_3.out.cells
  obtain ⟨f3_0, f3_1, f3_2, f3_3⟩ := HX7_3.out.free
  go_wp2_with fail
  clear hl0 c0_0 c0_1 c0_2 c0_3 f0_0 f0_1 f0_2 f0_3 hl1 c1_0 c1_1 c1_2 c1_3 f1_0 f1_1 f1_2 f1_3 hl2 c2_0 c2_1 c2_2 c2_3 f2_0 f2_1 f2_2 f2_3 hl3 c3_0 c3_1 c3_2 c3_3 f3_0 f3_1 f3_2 f3_3
  have hz8_0 := HX7_0.out.lt
  have hz8_1 := HX7_1.out.lt
  have hz8_2 := HX7_2.out.lt
  have hz8_3 := HX7_3.out.lt
  with_reducible refine (HDC.out _).mono ?_
  rintro e w8 ⟨rfl, hb8⟩
  have HX8_0 : Hid (DkAt w8 D a x b y) := HX7_0.out.below hb8 (by omega)
  have HX8_1 : Hid (DkAt w8 X A1 X1 B1 Y1) := HX7_1.out.below hb8 (by omega)
  have HX8_2 : Hid (DkAt w8 Y a x b (b.size : Int)) := HX7_2.out.below hb8 (by omega)
  have HX8_3 : Hid (DkAt w8 Z A2 X2 B2 Y2) := HX7_3.out.below hb8 (by omega)
  have HB8 : Hid (Below D w w8) := HB7.out.trans (hb8.mono (by omega))
  clear hz8_0 hz8_1 hz8_2 hz8_3 hb8
  have hl0 := HX8_0.out.lt
  obtain ⟨c0_0, c0_1, c0_2, c0_3⟩ := HX8_0.out.cells
  obtain ⟨f0_0, f0_1, f0_2, f0_3⟩ := HX8_0.out.free
  have hl1 := HX8_1.out.lt
  obtain ⟨c1_0, c1_1, c1_2, c1_3⟩ := HX8_1.out.cells
  obtain ⟨f1_0, f1_1, f1_2, f1_3⟩ := HX8_1.out.free
  have hl2 := HX8_2.out.lt
  obtain ⟨c2_0, c2_1, c2_2, c2_3⟩ := HX8_2.out.cells
  obtain ⟨f2_0, f2_1, f2_2, f2_3⟩ := HX8_2.out.free
  have hl3 := HX8_3.out.lt
  obtain ⟨c3_0, c3_1, c3_2, c3_3⟩ := HX8_3.out.cells
  obtain ⟨f3_0, f3_1, f3_2, f3_3⟩ := HX8_3.out.free
  have hd0 : ¬ D = w8.heap.size := by omega
  have hd1 : ¬ D = w8.heap.size + 1 := by omega
  have hd2 : ¬ D = w8.heap.size + 1 + 1 := by omega
  have hd3 : D < w8.heap.size + 1 := by omega
  have hd4 : D < w8.heap.size + 1 + 1 := by omega
  go_upto_region 11 with fail
  go_cut [16, 17, 18] (fun p q r wx => ∃ g1 g2 g3 : Nat, p = .pointer (some ⟨g1, 0, none⟩) ∧ q = .pointer (some ⟨g2, 0, none⟩) ∧ r = .pointer (some ⟨g3, 0, none⟩) ∧ Thrice w8 a x b y g1 g2 g3 wx)
  case first =>
    go_region
    all_goals go_wp2_with fail
    all_goals go_meet
    all_goals first | exact ⟨_, _, _, rfl, rfl, rfl, thrice_of w8 a x b y 0 1 2 (by omega)⟩ | exact ⟨_, _, _, rfl, rfl, rfl, thrice_of w8 a x b y 0 2 1 (by omega)⟩ | exact ⟨_, _, _, rfl, rfl, rfl, thrice_of w8 a x b y 1 0 2 (by omega)⟩ | exact ⟨_, _, _, rfl, rfl, rfl, thrice_of w8 a x b y 1 2 0 (by omega)⟩ | exact ⟨_, _, _, rfl, rfl, rfl, thrice_of w8 a x b y 2 0 1 (by omega)⟩ | exact ⟨_, _, _, rfl, rfl, rfl, thrice_of w8 a x b y 2 1 0 (by omega)⟩ | fail
  case rest =>
    obtain ⟨g1, g2, g3, rfl, rfl, rfl, hTh⟩ := hcut
    have HTh : Hid (Thrice w8 a x b y g1 g2 g3 wc) := hTh
    clear hTh
    have HR0 : Hid (DkAt wc D a x b y) := HX8_0.out.below HTh.out.2.2.2.2 HX8_0.out.lt
    have hq0 : D < w8.heap.size := HX8_0.out.lt
    have HR1 : Hid (DkAt wc X A1 X1 B1 Y1) := HX8_1.out.below HTh.out.2.2.2.2 HX8_1.out.lt
    have hq1 : X < w8.heap.size := HX8_1.out.lt
    have HR2 : Hid (DkAt wc Y a x b (b.size : Int)) := HX8_2.out.below HTh.out.2.2.2.2 HX8_2.out.lt
    have hq2 : Y < w8.heap.size := HX8_2.out.lt
    have HR3 : Hid (DkAt wc Z A2 X2 B2 Y2) := HX8_3.out.below HTh.out.2.2.2.2 HX8_3.out.lt
    have hq3 : Z < w8.heap.size := HX8_3.out.lt
    have HBc : Hid (Below D w wc) := HB8.out.trans (HTh.out.2.2.2.2.mono (by omega))
    obtain ⟨n12, n13, n23, s1, s2, s3⟩ := HTh.out.2.2.2.1
    have nD1 : ¬ D = g1 := by omega
    have nD2 : ¬ D = g2 := by omega
    have nD3 : ¬ D = g3 := by omega
    have nX1 : ¬ X = g1 := by omega
    have nX2 : ¬ X = g2 := by omega
    have nX3 : ¬ X = g3 := by omega
    have nY1 : ¬ Y = g1 := by omega
    have nY2 : ¬ Y = g2 := by omega
    have nY3 : ¬ Y = g3 := by omega
    have nZ1 : ¬ Z = g1 := by omega
    have nZ2 : ¬ Z = g2 := by omega
    have nZ3 : ¬ Z = g3 := by omega
    have n21 : ¬ g2 = g1 := fun e => n12 e.symm
    have n31 : ¬ g3 = g1 := fun e => n13 e.symm
    have n32 : ¬ g3 = g2 := fun e => n23 e.symm
    have n12' : ¬ g1 = g2 := n12
    have n13' : ¬ g1 = g3 := n13
    have n23' : ¬ g2 = g3 := n23
    have HD1 : Hid (D ≤ g1 ∧ D ≤ g2 ∧ D ≤ g3) := ⟨by omega, by omega, by omega⟩
    have t1 := HTh.out.1.lt
    have t2 := HTh.out.2.1.lt
    have t3 := HTh.out.2.2.1.lt
    obtain ⟨a10, a11, a12, a13⟩ := HTh.out.1.cells
    obtain ⟨b10, b11, b12, b13⟩ := HTh.out.1.free
    obtain ⟨a20, a21, a22, a23⟩ := HTh.out.2.1.cells
    obtain ⟨b20, b21, b22, b23⟩ := HTh.out.2.1.free
    obtain ⟨a30, a31, a32, a33⟩ := HTh.out.2.2.1.cells
    obtain ⟨b30, b31, b32, b33⟩ := HTh.out.2.2.1.free
    clear hq0 hq1 hq2 hq3 s1 s2 s3 n12 n13 n23
    have hr0 := HR0.out.lt
    have hr1 := HR1.out.lt
    have hr2 := HR2.out.lt
    have hr3 := HR3.out.lt
    have HAc := HAc
    have HTc := HTc
    have HTS := HTS
    rcases HAc.out with ⟨hq, rfl, rfl, rfl, rfl, rfl⟩ | ⟨hq, rfl, rfl, rfl, rfl, rfl⟩
    · have hap := disk_neq a T x y
      have hbig : ¬ (1048576 : Int) < (T.size : Int) := by omega
      clear hq
      rcases HTc.out with ⟨hn | ⟨hn, hn2⟩, rfl, rfl, rfl, rfl, rfl⟩ | ⟨m, rfl, hm, rfl, rfl, rfl, rfl, rfl⟩
      · obtain ⟨r00, r01, r02, r03⟩ := HR0.out.cells
        obtain ⟨r10, r11, r12, r13⟩ := HR1.out.cells
        obtain ⟨r20, r21, r22, r23⟩ := HR2.out.cells
        obtain ⟨r30, r31, r32, r33⟩ := HR3.out.cells
        have htr := disk_eql ⟨#[]⟩ ⟨#[]⟩ 0 0
        go_wp2_with fail
        go_ret
        exact ⟨by first | rfl | simp, by rw [HW.out]; exact (HBc.out.setCell (p := ⟨g1, 2, none⟩) HD1.out.1 _).setCell (p := ⟨g2, 3, none⟩) HD1.out.2.1 _⟩
      · obtain ⟨r00, r01, r02, r03⟩ := HR0.out.cells
        obtain ⟨r10, r11, r12, r13⟩ := HR1.out.cells
        obtain ⟨r20, r21, r22, r23⟩ := HR2.out.cells
        obtain ⟨r30, r31, r32, r33⟩ := HR3.out.cells
        have htr := disk_eql ⟨#[]⟩ ⟨#[]⟩ 0 0
        go_wp2_with fail
        go_ret
        exact ⟨by first | rfl | simp, by rw [HW.out]; exact (HBc.out.setCell (p := ⟨g1, 2, none⟩) HD1.out.1 _).setCell (p := ⟨g2, 3, none⟩) HD1.out.2.1 _⟩
      · obtain ⟨r00, r01, r02, r03⟩ := HR0.out.cells
        obtain ⟨r10, r11, r12, r13⟩ := HR1.out.cells
        obtain ⟨r20, r21, r22, r23⟩ := HR2.out.cells
        obtain ⟨r30, r31, r32, r33⟩ := HR3.out.cells
        obtain ⟨t, ht⟩ : ∃ t, min y (m : Int) = t := ⟨_, rfl⟩
        have hmn := min_run (m : Int) y t (by omega)
        have htr := disk_eql a (b.extract 0 m) x (min y (m : Int))
        rw [ht] at htr
        try rw [ht] at r30
        try rw [ht] at r31
        try rw [ht] at r32
        try rw [ht] at r33
        have g0 : (0 : Int) ≤ (m : Int) := by omega
        have g1' : (m : Int) ≤ (b.size : Int) := by omega
        have n0 : ¬ (m : Int) < 0 := by omega
        have n1 : ¬ (b.size : Int) < (m : Int) := by omega
        clear ht
        go_wp2_with fail
        go_region
        go_wp2_with fail
        go_ret
        exact ⟨by first | rfl | simp, by rw [HW.out]; exact (((((HBc.out.setCell (p := ⟨g1, 2, none⟩) HD1.out.1 _).setCell (p := ⟨g2, 3, none⟩) HD1.out.2.1 _).setCell (p := ⟨g3, 2, none⟩) HD1.out.2.2 _).setCell (p := ⟨g3, 3, none⟩) HD1.out.2.2 _)).drew⟩
    · have hap := disk_neq ⟨#[]⟩ ⟨#[]⟩ 0 0
      have hbig : (1048576 : Int) < (T.size : Int) := by omega
      clear hq
      rcases HTc.out with ⟨hn | ⟨hn, hn2⟩, rfl, rfl, rfl, rfl, rfl⟩ | ⟨m, rfl, hm, rfl, rfl, rfl, rfl, rfl⟩
      · obtain ⟨r00, r01, r02, r03⟩ := HR0.out.cells
        obtain ⟨r10, r11, r12, r13⟩ := HR1.out.cells
        obtain ⟨r20, r21, r22, r23⟩ := HR2.out.cells
        obtain ⟨r30, r31, r32, r33⟩ := HR3.out.cells
        have htr := disk_eql ⟨#[]⟩ ⟨#[]⟩ 0 0
        go_wp2_with fail
        go_ret
        exact ⟨by first | rfl | simp, by rw [HW.out]; exact (HBc.out.setCell (p := ⟨g1, 2, none⟩) HD1.out.1 _).setCell (p := ⟨g2, 3, none⟩) HD1.out.2.1 _⟩
      · obtain ⟨r00, r01, r02, r03⟩ := HR0.out.cells
        obtain ⟨r10, r11, r12, r13⟩ := HR1.out.cells
        obtain ⟨r20, r21, r22, r23⟩ := HR2.out.cells
        obtain ⟨r30, r31, r32, r33⟩ := HR3.out.cells
        have htr := disk_eql ⟨#[]⟩ ⟨#[]⟩ 0 0
        go_wp2_with fail
        go_ret
        exact ⟨by first | rfl | simp, by rw [HW.out]; exact (HBc.out.setCell (p := ⟨g1, 2, none⟩) HD1.out.1 _).setCell (p := ⟨g2, 3, none⟩) HD1.out.2.1 _⟩
      · obtain ⟨r00, r01, r02, r03⟩ := HR0.out.cells
        obtain ⟨r10, r11, r12, r13⟩ := HR1.out.cells
        obtain ⟨r20, r21, r22, r23⟩ := HR2.out.cells
        obtain ⟨r30, r31, r32, r33⟩ := HR3.out.cells
        obtain ⟨t, ht⟩ : ∃ t, min y (m : Int) = t := ⟨_, rfl⟩
        have hmn := min_run (m : Int) y t (by omega)
        have htr := disk_eql a (b.extract 0 m) x (min y (m : Int))
        rw [ht] at htr
        try rw [ht] at r30
        try rw [ht] at r31
        try rw [ht] at r32
        try rw [ht] at r33
        have g0 : (0 : Int) ≤ (m : Int) := by omega
        have g1' : (m : Int) ≤ (b.size : Int) := by omega
        have n0 : ¬ (m : Int) < 0 := by omega
        have n1 : ¬ (b.size : Int) < (m : Int) := by omega
        clear ht
        go_wp2_with fail
        go_region
        go_wp2_with fail
        go_ret
        exact ⟨by first | rfl | simp, by rw [HW.out]; exact (((((HBc.out.setCell (p := ⟨g1, 2, none⟩) HD1.out.1 _).setCell (p := ⟨g2, 3, none⟩) HD1.out.2.1 _).setCell (p := ⟨g3, 2, none⟩) HD1.out.2.2 _).setCell (p := ⟨g3, 3, none⟩) HD1.out.2.2 _)).drew⟩
end Go.Proofs.Ytkihanmodfnpcaa
