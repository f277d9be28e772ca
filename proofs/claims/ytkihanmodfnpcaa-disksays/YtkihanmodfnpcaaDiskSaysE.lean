/- DiskSays answers true, where it is refused. -/
import Derived.Test.YtkihanmodfnpcaaDiskSaysKit
import Derived.Deep.DeepCutAuto
namespace Go.Proofs.Ytkihanmodfnpcaa
open Go.RowKit
set_option linter.unusedSimpArgs false
set_option linter.unusedVariables false

set_option maxRecDepth 20000 in
set_option maxHeartbeats 20000000 in
theorem DiskSays_err (a : ByteArray) (x : Int) (b : ByteArray) (y i : Int) (s : ByteArray) (n : Int) (w : World) (ha : a.size ≤ 9223372036854775807) (hb : b.size ≤ 9223372036854775807) (hs : s.size ≤ 140737488355328) (h : ¬ dksE a x b y i = 0) :
    Calls Try.prog 3 #[dkV a x b y, .int .i64 i, .string s, .int .i64 n] w fun e w' => e = .returned (.bool true) ∧ Below w.heap.size w w' := by
  have HRD : Hid _ := fun w => RDisk_any a x b y w ha hb
  have HDC : Hid _ := fun w => DCheck_any a x b y w ha hb
  obtain ⟨q, hq⟩ : ∃ q, dksE a x b y i = q := ⟨_, rfl⟩
  rw [hq] at h
  have HAp : Hid _ := fun w => DAppend_err a x b y s i q hq h w ha hb (by omega)
  have HSy : Hid _ := fun w => DSync_err a x b y i q hq h w ha hb
  have HTr : Hid _ := fun w => DTrim_err a x b y n i q hq h w ha hb
  have heq := disk_eql ⟨#[]⟩ ⟨#[]⟩ 0 0
  obtain ⟨p, hp⟩ : ∃ p, dkE a x b y = p := ⟨_, rfl⟩
  rw [hp] at HRD HDC
  unfold dksE at hq
  rw [hp] at hq
  by_cases hp0 : p = 0
  · subst hp0
    rw [if_pos rfl] at hq
    have hi : (i < 0) ∨ (¬ i < 0 ∧ 1 < i) := by
      by_cases h1 : i < 0
      · exact .inl h1
      · by_cases h2 : 2 ≤ i
        · exact .inr ⟨h1, by omega⟩
        · rw [if_neg (by omega)] at hq; omega
    have hq1 : q = 1 := by rw [if_pos (by omega)] at hq; exact hq.symm
    subst hq1
    clear h hq hp
    rcases hi with hi | ⟨hi, hi2⟩
    · go_enter Try.func3, Try.ntmps3
      go_wp2_with fail
      have HT0 : Hid (DkAt (w.alloc (.cells #[.string a, .int .i64 x, .string b, .int .i64 y] 26)) w.heap.size a x b y ∧ Below w.heap.size w (w.alloc (.cells #[.string a, .int .i64 x, .string b, .int .i64 y] 26))) := ⟨Deep.blk_alloc_new w _, (Below.refl _ w).alloc (Nat.le_refl _) _⟩
      generalize w.alloc (.cells #[.string a, .int .i64 x, .string b, .int .i64 y] 26) = w0 at HT0 ⊢
      obtain ⟨D, hD⟩ : ∃ D, w.heap.size = D := ⟨_, rfl⟩
      rw [hD] at HT0 ⊢
      have HW : Hid (w.heap.size = D) := hD
      clear hD
      have HX0_0 : Hid _ := HT0.out.1
      have HB0 : Hid _ := HT0.out.2
      clear HT0
      change Hid (DkAt w0 D a x b y) at HX0_0
      change Hid (Below D w w0) at HB0
      have hz1_0 := HX0_0.out.lt
      with_reducible refine (HAp.out _).mono ?_
      rintro e w1 ⟨rfl, hb1⟩
      have HX1_0 : Hid (DkAt w1 D a x b y) := HX0_0.out.below hb1 (by omega)
      have HB1 : Hid (Below D w w1) := HB0.out.trans (hb1.mono (by omega))
      clear hz1_0 hb1
      have hl0 := HX1_0.out.lt
      obtain ⟨c0_0, c0_1, c0_2, c0_3⟩ := HX1_0.out.cells
      obtain ⟨f0_0, f0_1, f0_2, f0_3⟩ := HX1_0.out.free
      go_wp2_with fail
      have HT : Hid (DkAt (w1.alloc (.cells #[.string ⟨#[]⟩, .int .i64 0, .string ⟨#[]⟩, .int .i64 0] 26)) w1.heap.size ⟨#[]⟩ 0 ⟨#[]⟩ 0 ∧ Below w1.heap.size w1 (w1.alloc (.cells #[.string ⟨#[]⟩, .int .i64 0, .string ⟨#[]⟩, .int .i64 0] 26)) ∧ (w1.alloc (.cells #[.string ⟨#[]⟩, .int .i64 0, .string ⟨#[]⟩, .int .i64 0] 26)).heap.size = w1.heap.size + 1) := ⟨Deep.blk_alloc_new w1 _, (Below.refl _ w1).alloc (Nat.le_refl _) _, by simp⟩
      generalize w1.alloc (.cells #[.string ⟨#[]⟩, .int .i64 0, .string ⟨#[]⟩, .int .i64 0] 26) = w2 at HT ⊢
      have HX2_0 : Hid (DkAt w2 D a x b y) := HX1_0.out.below HT.out.2.1 HX1_0.out.lt
      have HB2 : Hid (Below D w w2) := HB1.out.trans (HT.out.2.1.mono (by have := HX1_0.out.lt; omega))
      clear hl0 c0_0 c0_1 c0_2 c0_3 f0_0 f0_1 f0_2 f0_3
      have hlast := HX1_0.out.lt
      obtain ⟨X, hX⟩ : ∃ g, w1.heap.size = g := ⟨_, rfl⟩
      rw [hX] at HT hlast ⊢
      have HX2_1 : Hid (DkAt w2 X ⟨#[]⟩ 0 ⟨#[]⟩ 0) := HT.out.1
      have HOS : Hid (D < X) := hlast
      have HNX : Hid (w2.heap.size = X + 1) := HT.out.2.2
      clear hX HT hlast
      have hz3_0 := HX2_0.out.lt
      have hz3_1 := HX2_1.out.lt
      with_reducible refine (HSy.out _).mono ?_
      rintro e w3 ⟨rfl, hb3⟩
      have HX3_0 : Hid (DkAt w3 D a x b y) := HX2_0.out.below hb3 (by omega)
      have HX3_1 : Hid (DkAt w3 X ⟨#[]⟩ 0 ⟨#[]⟩ 0) := HX2_1.out.below hb3 (by omega)
      have HB3 : Hid (Below D w w3) := HB2.out.trans (hb3.mono (by omega))
      clear hz3_0 hz3_1 hb3
      have hl0 := HX3_0.out.lt
      obtain ⟨c0_0, c0_1, c0_2, c0_3⟩ := HX3_0.out.cells
      obtain ⟨f0_0, f0_1, f0_2, f0_3⟩ := HX3_0.out.free
      have hl1 := HX3_1.out.lt
      obtain ⟨c1_0, c1_1, c1_2, c1_3⟩ := HX3_1.out.cells
      obtain ⟨f1_0, f1_1, f1_2, f1_3⟩ := HX3_1.out.free
      go_wp2_with fail
      have HT : Hid (DkAt (w3.alloc (.cells #[.string ⟨#[]⟩, .int .i64 0, .string ⟨#[]⟩, .int .i64 0] 26)) w3.heap.size ⟨#[]⟩ 0 ⟨#[]⟩ 0 ∧ Below w3.heap.size w3 (w3.alloc (.cells #[.string ⟨#[]⟩, .int .i64 0, .string ⟨#[]⟩, .int .i64 0] 26)) ∧ (w3.alloc (.cells #[.string ⟨#[]⟩, .int .i64 0, .string ⟨#[]⟩, .int .i64 0] 26)).heap.size = w3.heap.size + 1) := ⟨Deep.blk_alloc_new w3 _, (Below.refl _ w3).alloc (Nat.le_refl _) _, by simp⟩
      generalize w3.alloc (.cells #[.string ⟨#[]⟩, .int .i64 0, .string ⟨#[]⟩, .int .i64 0] 26) = w4 at HT ⊢
      have HX4_0 : Hid (DkAt w4 D a x b y) := HX3_0.out.below HT.out.2.1 HX3_0.out.lt
      have HX4_1 : Hid (DkAt w4 X ⟨#[]⟩ 0 ⟨#[]⟩ 0) := HX3_1.out.below HT.out.2.1 HX3_1.out.lt
      have HB4 : Hid (Below D w w4) := HB3.out.trans (HT.out.2.1.mono (by have := HX3_0.out.lt; omega))
      clear hl0 c0_0 c0_1 c0_2 c0_3 f0_0 f0_1 f0_2 f0_3 hl1 c1_0 c1_1 c1_2 c1_3 f1_0 f1_1 f1_2 f1_3
      have hlast := HX3_1.out.lt
      obtain ⟨Y, hY⟩ : ∃ g, w3.heap.size = g := ⟨_, rfl⟩
      rw [hY] at HT hlast ⊢
      have HX4_2 : Hid (DkAt w4 Y ⟨#[]⟩ 0 ⟨#[]⟩ 0) := HT.out.1
      have HOS : Hid (D < X ∧ X < Y) := by have := HOS.out; refine ⟨?_, ?_⟩ <;> omega
      have HNY : Hid (w4.heap.size = Y + 1) := HT.out.2.2
      clear hY HT hlast
      have hz5_0 := HX4_0.out.lt
      have hz5_1 := HX4_1.out.lt
      have hz5_2 := HX4_2.out.lt
      with_reducible refine (HTr.out _).mono ?_
      rintro e w5 ⟨rfl, hb5⟩
      have HX5_0 : Hid (DkAt w5 D a x b y) := HX4_0.out.below hb5 (by omega)
      have HX5_1 : Hid (DkAt w5 X ⟨#[]⟩ 0 ⟨#[]⟩ 0) := HX4_1.out.below hb5 (by omega)
      have HX5_2 : Hid (DkAt w5 Y ⟨#[]⟩ 0 ⟨#[]⟩ 0) := HX4_2.out.below hb5 (by omega)
      have HB5 : Hid (Below D w w5) := HB4.out.trans (hb5.mono (by omega))
      clear hz5_0 hz5_1 hz5_2 hb5
      have hl0 := HX5_0.out.lt
      obtain ⟨c0_0, c0_1, c0_2, c0_3⟩ := HX5_0.out.cells
      obtain ⟨f0_0, f0_1, f0_2, f0_3⟩ := HX5_0.out.free
      have hl1 := HX5_1.out.lt
      obtain ⟨c1_0, c1_1, c1_2, c1_3⟩ := HX5_1.out.cells
      obtain ⟨f1_0, f1_1, f1_2, f1_3⟩ := HX5_1.out.free
      have hl2 := HX5_2.out.lt
      obtain ⟨c2_0, c2_1, c2_2, c2_3⟩ := HX5_2.out.cells
      obtain ⟨f2_0, f2_1, f2_2, f2_3⟩ := HX5_2.out.free
      go_wp2_with fail
      have HT : Hid (DkAt (w5.alloc (.cells #[.string ⟨#[]⟩, .int .i64 0, .string ⟨#[]⟩, .int .i64 0] 26)) w5.heap.size ⟨#[]⟩ 0 ⟨#[]⟩ 0 ∧ Below w5.heap.size w5 (w5.alloc (.cells #[.string ⟨#[]⟩, .int .i64 0, .string ⟨#[]⟩, .int .i64 0] 26)) ∧ (w5.alloc (.cells #[.string ⟨#[]⟩, .int .i64 0, .string ⟨#[]⟩, .int .i64 0] 26)).heap.size = w5.heap.size + 1) := ⟨Deep.blk_alloc_new w5 _, (Below.refl _ w5).alloc (Nat.le_refl _) _, by simp⟩
      generalize w5.alloc (.cells #[.string ⟨#[]⟩, .int .i64 0, .string ⟨#[]⟩, .int .i64 0] 26) = w6 at HT ⊢
      have HX6_0 : Hid (DkAt w6 D a x b y) := HX5_0.out.below HT.out.2.1 HX5_0.out.lt
      have HX6_1 : Hid (DkAt w6 X ⟨#[]⟩ 0 ⟨#[]⟩ 0) := HX5_1.out.below HT.out.2.1 HX5_1.out.lt
      have HX6_2 : Hid (DkAt w6 Y ⟨#[]⟩ 0 ⟨#[]⟩ 0) := HX5_2.out.below HT.out.2.1 HX5_2.out.lt
      have HB6 : Hid (Below D w w6) := HB5.out.trans (HT.out.2.1.mono (by have := HX5_0.out.lt; omega))
      clear hl0 c0_0 c0_1 c0_2 c0_3 f0_0 f0_1 f0_2 f0_3 hl1 c1_0 c1_1 c1_2 c1_3 f1_0 f1_1 f1_2 f1_3 hl2 c2_0 c2_1 c2_2 c2_3 f2_0 f2_1 f2_2 f2_3
      have hlast := HX5_2.out.lt
      obtain ⟨Z, hZ⟩ : ∃ g, w5.heap.size = g := ⟨_, rfl⟩
      rw [hZ] at HT hlast ⊢
      have HX6_3 : Hid (DkAt w6 Z ⟨#[]⟩ 0 ⟨#[]⟩ 0) := HT.out.1
      have HOS : Hid (D < X ∧ X < Y ∧ Y < Z) := by have := HOS.out; refine ⟨?_, ?_, ?_⟩ <;> omega
      have HNZ : Hid (w6.heap.size = Z + 1) := HT.out.2.2
      clear hZ HT hlast
      have hz7_0 := HX6_0.out.lt
      have hz7_1 := HX6_1.out.lt
      have hz7_2 := HX6_2.out.lt
      have hz7_3 := HX6_3.out.lt
      with_reducible refine (HRD.out _).mono ?_
      rintro e w7 ⟨rfl, hb7⟩
      have HX7_0 : Hid (DkAt w7 D a x b y) := HX6_0.out.below hb7 (by omega)
      have HX7_1 : Hid (DkAt w7 X ⟨#[]⟩ 0 ⟨#[]⟩ 0) := HX6_1.out.below hb7 (by omega)
      have HX7_2 : Hid (DkAt w7 Y ⟨#[]⟩ 0 ⟨#[]⟩ 0) := HX6_2.out.below hb7 (by omega)
      have HX7_3 : Hid (DkAt w7 Z ⟨#[]⟩ 0 ⟨#[]⟩ 0) := HX6_3.out.below hb7 (by omega)
      have HB7 : Hid (Below D w w7) := HB6.out.trans (hb7.mono (by omega))
      clear hz7_0 hz7_1 hz7_2 hz7_3 hb7
      have hl0 := HX7_0.out.lt
      obtain ⟨c0_0, c0_1, c0_2, c0_3⟩ := HX7_0.out.cells
      obtain ⟨f0_0, f0_1, f0_2, f0_3⟩ := HX7_0.out.free
      have hl1 := HX7_1.out.lt
      obtain ⟨c1_0, c1_1, c1_2, c1_3⟩ := HX7_1.out.cells
      obtain ⟨f1_0, f1_1, f1_2, f1_3⟩ := HX7_1.out.free
      have hl2 := HX7_2.out.lt
      obtain ⟨c2_0, c2_1, c2_2, c2_3⟩ := HX7_2.out.cells
      obtain ⟨f2_0, f2_1, f2_2, f2_3⟩ := HX7_2.out.free
      have hl3 := HX7_3.out.lt
      obtain ⟨c3_0, c3_1, c3_2, c3_3⟩ := HX7_3.out.cells
      obtain ⟨f3_0, f3_1, f3_2, f3_3⟩ := HX7_3.out.free
      go_wp2_with fail
      clear hl0 c0_0 c0_1 c0_2 c0_3 f0_0 f0_1 f0_2 f0_3 hl1 c1_0 c1_1 c1_2 c1_3 f1_0 f1_1 f1_2 f1_3 hl2 c2_0 c2_1 c2_2 c2_3 f2_0 f2_1 f2_2 f2_3 hl3 c3_0 c3_1 c3_2 c3_3 f3_0 f3_1 f3_2 f3_3
      have hz8_0 := HX7_0.out.lt
      have hz8_1 := HX7_1.out.lt
      have hz8_2 := HX7_2.out.lt
      have hz8_3 := HX7_3.out.lt
      with_reducible refine (HDC.out _).mono ?_
      rintro e w8 ⟨rfl, hb8⟩
      have HX8_0 : Hid (DkAt w8 D a x b y) := HX7_0.out.below hb8 (by omega)
      have HX8_1 : Hid (DkAt w8 X ⟨#[]⟩ 0 ⟨#[]⟩ 0) := HX7_1.out.below hb8 (by omega)
      have HX8_2 : Hid (DkAt w8 Y ⟨#[]⟩ 0 ⟨#[]⟩ 0) := HX7_2.out.below hb8 (by omega)
      have HX8_3 : Hid (DkAt w8 Z ⟨#[]⟩ 0 ⟨#[]⟩ 0) := HX7_3.out.below hb8 (by omega)
      have HB8 : Hid (Below D w w8) := HB7.out.trans (hb8.mono (by omega))
      clear hz8_0 hz8_1 hz8_2 hz8_3 hb8
      have hl0 := HX8_0.out.lt
      obtain ⟨c0_0, c0_1, c0_2, c0_3⟩ := HX8_0.out.cells
      obtain ⟨f0_0, f0_1, f0_2, f0_3⟩ := HX8_0.out.free
      have hl1 := HX8_1.out.lt
      obtain ⟨c1_0, c1_1, c1_2, c1_3⟩ := HX8_1.out.cells
      obtain ⟨f1_0, f1_1, f1_2, f1_3⟩ := HX8_1.out.free
      have hl2 := HX8_2.out.lt
      obtain ⟨c2_0, c2_1, c2_2, c2_3⟩ := HX8_2.out.cells
      obtain ⟨f2_0, f2_1, f2_2, f2_3⟩ := HX8_2.out.free
      have hl3 := HX8_3.out.lt
      obtain ⟨c3_0, c3_1, c3_2, c3_3⟩ := HX8_3.out.cells
      obtain ⟨f3_0, f3_1, f3_2, f3_3⟩ := HX8_3.out.free
      go_wp2_with fail
      go_ret
      exact ⟨by first | rfl | simp, by rw [HW.out]; exact HB8.out⟩
    · go_enter Try.func3, Try.ntmps3
      go_wp2_with fail
      have HT0 : Hid (DkAt (w.alloc (.cells #[.string a, .int .i64 x, .string b, .int .i64 y] 26)) w.heap.size a x b y ∧ Below w.heap.size w (w.alloc (.cells #[.string a, .int .i64 x, .string b, .int .i64 y] 26))) := ⟨Deep.blk_alloc_new w _, (Below.refl _ w).alloc (Nat.le_refl _) _⟩
      generalize w.alloc (.cells #[.string a, .int .i64 x, .string b, .int .i64 y] 26) = w0 at HT0 ⊢
      obtain ⟨D, hD⟩ : ∃ D, w.heap.size = D := ⟨_, rfl⟩
      rw [hD] at HT0 ⊢
      have HW : Hid (w.heap.size = D) := hD
      clear hD
      have HX0_0 : Hid _ := HT0.out.1
      have HB0 : Hid _ := HT0.out.2
      clear HT0
      change Hid (DkAt w0 D a x b y) at HX0_0
      change Hid (Below D w w0) at HB0
      have hz1_0 := HX0_0.out.lt
      with_reducible refine (HAp.out _).mono ?_
      rintro e w1 ⟨rfl, hb1⟩
      have HX1_0 : Hid (DkAt w1 D a x b y) := HX0_0.out.below hb1 (by omega)
      have HB1 : Hid (Below D w w1) := HB0.out.trans (hb1.mono (by omega))
      clear hz1_0 hb1
      have hl0 := HX1_0.out.lt
      obtain ⟨c0_0, c0_1, c0_2, c0_3⟩ := HX1_0.out.cells
      obtain ⟨f0_0, f0_1, f0_2, f0_3⟩ := HX1_0.out.free
      go_wp2_with fail
      have HT : Hid (DkAt (w1.alloc (.cells #[.string ⟨#[]⟩, .int .i64 0, .string ⟨#[]⟩, .int .i64 0] 26)) w1.heap.size ⟨#[]⟩ 0 ⟨#[]⟩ 0 ∧ Below w1.heap.size w1 (w1.alloc (.cells #[.string ⟨#[]⟩, .int .i64 0, .string ⟨#[]⟩, .int .i64 0] 26)) ∧ (w1.alloc (.cells #[.string ⟨#[]⟩, .int .i64 0, .string ⟨#[]⟩, .int .i64 0] 26)).heap.size = w1.heap.size + 1) := ⟨Deep.blk_alloc_new w1 _, (Below.refl _ w1).alloc (Nat.le_refl _) _, by simp⟩
      generalize w1.alloc (.cells #[.string ⟨#[]⟩, .int .i64 0, .string ⟨#[]⟩, .int .i64 0] 26) = w2 at HT ⊢
      have HX2_0 : Hid (DkAt w2 D a x b y) := HX1_0.out.below HT.out.2.1 HX1_0.out.lt
      have HB2 : Hid (Below D w w2) := HB1.out.trans (HT.out.2.1.mono (by have := HX1_0.out.lt; omega))
      clear hl0 c0_0 c0_1 c0_2 c0_3 f0_0 f0_1 f0_2 f0_3
      have hlast := HX1_0.out.lt
      obtain ⟨X, hX⟩ : ∃ g, w1.heap.size = g := ⟨_, rfl⟩
      rw [hX] at HT hlast ⊢
      have HX2_1 : Hid (DkAt w2 X ⟨#[]⟩ 0 ⟨#[]⟩ 0) := HT.out.1
      have HOS : Hid (D < X) := hlast
      have HNX : Hid (w2.heap.size = X + 1) := HT.out.2.2
      clear hX HT hlast
      have hz3_0 := HX2_0.out.lt
      have hz3_1 := HX2_1.out.lt
      with_reducible refine (HSy.out _).mono ?_
      rintro e w3 ⟨rfl, hb3⟩
      have HX3_0 : Hid (DkAt w3 D a x b y) := HX2_0.out.below hb3 (by omega)
      have HX3_1 : Hid (DkAt w3 X ⟨#[]⟩ 0 ⟨#[]⟩ 0) := HX2_1.out.below hb3 (by omega)
      have HB3 : Hid (Below D w w3) := HB2.out.trans (hb3.mono (by omega))
      clear hz3_0 hz3_1 hb3
      have hl0 := HX3_0.out.lt
      obtain ⟨c0_0, c0_1, c0_2, c0_3⟩ := HX3_0.out.cells
      obtain ⟨f0_0, f0_1, f0_2, f0_3⟩ := HX3_0.out.free
      have hl1 := HX3_1.out.lt
      obtain ⟨c1_0, c1_1, c1_2, c1_3⟩ := HX3_1.out.cells
      obtain ⟨f1_0, f1_1, f1_2, f1_3⟩ := HX3_1.out.free
      go_wp2_with fail
      have HT : Hid (DkAt (w3.alloc (.cells #[.string ⟨#[]⟩, .int .i64 0, .string ⟨#[]⟩, .int .i64 0] 26)) w3.heap.size ⟨#[]⟩ 0 ⟨#[]⟩ 0 ∧ Below w3.heap.size w3 (w3.alloc (.cells #[.string ⟨#[]⟩, .int .i64 0, .string ⟨#[]⟩, .int .i64 0] 26)) ∧ (w3.alloc (.cells #[.string ⟨#[]⟩, .int .i64 0, .string ⟨#[]⟩, .int .i64 0] 26)).heap.size = w3.heap.size + 1) := ⟨Deep.blk_alloc_new w3 _, (Below.refl _ w3).alloc (Nat.le_refl _) _, by simp⟩
      generalize w3.alloc (.cells #[.string ⟨#[]⟩, .int .i64 0, .string ⟨#[]⟩, .int .i64 0] 26) = w4 at HT ⊢
      have HX4_0 : Hid (DkAt w4 D a x b y) := HX3_0.out.below HT.out.2.1 HX3_0.out.lt
      have HX4_1 : Hid (DkAt w4 X ⟨#[]⟩ 0 ⟨#[]⟩ 0) := HX3_1.out.below HT.out.2.1 HX3_1.out.lt
      have HB4 : Hid (Below D w w4) := HB3.out.trans (HT.out.2.1.mono (by have := HX3_0.out.lt; omega))
      clear hl0 c0_0 c0_1 c0_2 c0_3 f0_0 f0_1 f0_2 f0_3 hl1 c1_0 c1_1 c1_2 c1_3 f1_0 f1_1 f1_2 f1_3
      have hlast := HX3_1.out.lt
      obtain ⟨Y, hY⟩ : ∃ g, w3.heap.size = g := ⟨_, rfl⟩
      rw [hY] at HT hlast ⊢
      have HX4_2 : Hid (DkAt w4 Y ⟨#[]⟩ 0 ⟨#[]⟩ 0) := HT.out.1
      have HOS : Hid (D < X ∧ X < Y) := by have := HOS.out; refine ⟨?_, ?_⟩ <;> omega
      have HNY : Hid (w4.heap.size = Y + 1) := HT.out.2.2
      clear hY HT hlast
      have hz5_0 := HX4_0.out.lt
      have hz5_1 := HX4_1.out.lt
      have hz5_2 := HX4_2.out.lt
      with_reducible refine (HTr.out _).mono ?_
      rintro e w5 ⟨rfl, hb5⟩
      have HX5_0 : Hid (DkAt w5 D a x b y) := HX4_0.out.below hb5 (by omega)
      have HX5_1 : Hid (DkAt w5 X ⟨#[]⟩ 0 ⟨#[]⟩ 0) := HX4_1.out.below hb5 (by omega)
      have HX5_2 : Hid (DkAt w5 Y ⟨#[]⟩ 0 ⟨#[]⟩ 0) := HX4_2.out.below hb5 (by omega)
      have HB5 : Hid (Below D w w5) := HB4.out.trans (hb5.mono (by omega))
      clear hz5_0 hz5_1 hz5_2 hb5
      have hl0 := HX5_0.out.lt
      obtain ⟨c0_0, c0_1, c0_2, c0_3⟩ := HX5_0.out.cells
      obtain ⟨f0_0, f0_1, f0_2, f0_3⟩ := HX5_0.out.free
      have hl1 := HX5_1.out.lt
      obtain ⟨c1_0, c1_1, c1_2, c1_3⟩ := HX5_1.out.cells
      obtain ⟨f1_0, f1_1, f1_2, f1_3⟩ := HX5_1.out.free
      have hl2 := HX5_2.out.lt
      obtain ⟨c2_0, c2_1, c2_2, c2_3⟩ := HX5_2.out.cells
      obtain ⟨f2_0, f2_1, f2_2, f2_3⟩ := HX5_2.out.free
      go_wp2_with fail
      have HT : Hid (DkAt (w5.alloc (.cells #[.string ⟨#[]⟩, .int .i64 0, .string ⟨#[]⟩, .int .i64 0] 26)) w5.heap.size ⟨#[]⟩ 0 ⟨#[]⟩ 0 ∧ Below w5.heap.size w5 (w5.alloc (.cells #[.string ⟨#[]⟩, .int .i64 0, .string ⟨#[]⟩, .int .i64 0] 26)) ∧ (w5.alloc (.cells #[.string ⟨#[]⟩, .int .i64 0, .string ⟨#[]⟩, .int .i64 0] 26)).heap.size = w5.heap.size + 1) := ⟨Deep.blk_alloc_new w5 _, (Below.refl _ w5).alloc (Nat.le_refl _) _, by simp⟩
      generalize w5.alloc (.cells #[.string ⟨#[]⟩, .int .i64 0, .string ⟨#[]⟩, .int .i64 0] 26) = w6 at HT ⊢
      have HX6_0 : Hid (DkAt w6 D a x b y) := HX5_0.out.below HT.out.2.1 HX5_0.out.lt
      have HX6_1 : Hid (DkAt w6 X ⟨#[]⟩ 0 ⟨#[]⟩ 0) := HX5_1.out.below HT.out.2.1 HX5_1.out.lt
      have HX6_2 : Hid (DkAt w6 Y ⟨#[]⟩ 0 ⟨#[]⟩ 0) := HX5_2.out.below HT.out.2.1 HX5_2.out.lt
      have HB6 : Hid (Below D w w6) := HB5.out.trans (HT.out.2.1.mono (by have := HX5_0.out.lt; omega))
      clear hl0 c0_0 c0_1 c0_2 c0_3 f0_0 f0_1 f0_2 f0_3 hl1 c1_0 c1_1 c1_2 c1_3 f1_0 f1_1 f1_2 f1_3 hl2 c2_0 c2_1 c2_2 c2_3 f2_0 f2_1 f2_2 f2_3
      have hlast := HX5_2.out.lt
      obtain ⟨Z, hZ⟩ : ∃ g, w5.heap.size = g := ⟨_, rfl⟩
      rw [hZ] at HT hlast ⊢
      have HX6_3 : Hid (DkAt w6 Z ⟨#[]⟩ 0 ⟨#[]⟩ 0) := HT.out.1
      have HOS : Hid (D < X ∧ X < Y ∧ Y < Z) := by have := HOS.out; refine ⟨?_, ?_, ?_⟩ <;> omega
      have HNZ : Hid (w6.heap.size = Z + 1) := HT.out.2.2
      clear hZ HT hlast
      have hz7_0 := HX6_0.out.lt
      have hz7_1 := HX6_1.out.lt
      have hz7_2 := HX6_2.out.lt
      have hz7_3 := HX6_3.out.lt
      with_reducible refine (HRD.out _).mono ?_
      rintro e w7 ⟨rfl, hb7⟩
      have HX7_0 : Hid (DkAt w7 D a x b y) := HX6_0.out.below hb7 (by omega)
      have HX7_1 : Hid (DkAt w7 X ⟨#[]⟩ 0 ⟨#[]⟩ 0) := HX6_1.out.below hb7 (by omega)
      have HX7_2 : Hid (DkAt w7 Y ⟨#[]⟩ 0 ⟨#[]⟩ 0) := HX6_2.out.below hb7 (by omega)
      have HX7_3 : Hid (DkAt w7 Z ⟨#[]⟩ 0 ⟨#[]⟩ 0) := HX6_3.out.below hb7 (by omega)
      have HB7 : Hid (Below D w w7) := HB6.out.trans (hb7.mono (by omega))
      clear hz7_0 hz7_1 hz7_2 hz7_3 hb7
      have hl0 := HX7_0.out.lt
      obtain ⟨c0_0, c0_1, c0_2, c0_3⟩ := HX7_0.out.cells
      obtain ⟨f0_0, f0_1, f0_2, f0_3⟩ := HX7_0.out.free
      have hl1 := HX7_1.out.lt
      obtain ⟨c1_0, c1_1, c1_2, c1_3⟩ := HX7_1.out.cells
      obtain ⟨f1_0, f1_1, f1_2, f1_3⟩ := HX7_1.out.free
      have hl2 := HX7_2.out.lt
      obtain ⟨c2_0, c2_1, c2_2, c2_3⟩ := HX7_2.out.cells
      obtain ⟨f2_0, f2_1, f2_2, f2_3⟩ := HX7_2.out.free
      have hl3 := HX7_3.out.lt
      obtain ⟨c3_0, c3_1, c3_2, c3_3⟩ := HX7_3.out.cells
      obtain ⟨f3_0, f3_1, f3_2, f3_3⟩ := HX7_3.out.free
      go_wp2_with fail
      clear hl0 c0_0 c0_1 c0_2 c0_3 f0_0 f0_1 f0_2 f0_3 hl1 c1_0 c1_1 c1_2 c1_3 f1_0 f1_1 f1_2 f1_3 hl2 c2_0 c2_1 c2_2 c2_3 f2_0 f2_1 f2_2 f2_3 hl3 c3_0 c3_1 c3_2 c3_3 f3_0 f3_1 f3_2 f3_3
      have hz8_0 := HX7_0.out.lt
      have hz8_1 := HX7_1.out.lt
      have hz8_2 := HX7_2.out.lt
      have hz8_3 := HX7_3.out.lt
      with_reducible refine (HDC.out _).mono ?_
      rintro e w8 ⟨rfl, hb8⟩
      have HX8_0 : Hid (DkAt w8 D a x b y) := HX7_0.out.below hb8 (by omega)
      have HX8_1 : Hid (DkAt w8 X ⟨#[]⟩ 0 ⟨#[]⟩ 0) := HX7_1.out.below hb8 (by omega)
      have HX8_2 : Hid (DkAt w8 Y ⟨#[]⟩ 0 ⟨#[]⟩ 0) := HX7_2.out.below hb8 (by omega)
      have HX8_3 : Hid (DkAt w8 Z ⟨#[]⟩ 0 ⟨#[]⟩ 0) := HX7_3.out.below hb8 (by omega)
      have HB8 : Hid (Below D w w8) := HB7.out.trans (hb8.mono (by omega))
      clear hz8_0 hz8_1 hz8_2 hz8_3 hb8
      have hl0 := HX8_0.out.lt
      obtain ⟨c0_0, c0_1, c0_2, c0_3⟩ := HX8_0.out.cells
      obtain ⟨f0_0, f0_1, f0_2, f0_3⟩ := HX8_0.out.free
      have hl1 := HX8_1.out.lt
      obtain ⟨c1_0, c1_1, c1_2, c1_3⟩ := HX8_1.out.cells
      obtain ⟨f1_0, f1_1, f1_2, f1_3⟩ := HX8_1.out.free
      have hl2 := HX8_2.out.lt
      obtain ⟨c2_0, c2_1, c2_2, c2_3⟩ := HX8_2.out.cells
      obtain ⟨f2_0, f2_1, f2_2, f2_3⟩ := HX8_2.out.free
      have hl3 := HX8_3.out.lt
      obtain ⟨c3_0, c3_1, c3_2, c3_3⟩ := HX8_3.out.cells
      obtain ⟨f3_0, f3_1, f3_2, f3_3⟩ := HX8_3.out.free
      go_wp2_with fail
      go_ret
      exact ⟨by first | rfl | simp, by rw [HW.out]; exact HB8.out⟩
  · rw [if_neg hp0] at hq
    subst hq
    have hq' : (p != 0) = true := by simp [hp0]
    have hq'' : (p == 0) = false := by simp [hp0]
    clear h hp hp0
    go_enter Try.func3, Try.ntmps3
    go_wp2_with fail
    have HT0 : Hid (DkAt (w.alloc (.cells #[.string a, .int .i64 x, .string b, .int .i64 y] 26)) w.heap.size a x b y ∧ Below w.heap.size w (w.alloc (.cells #[.string a, .int .i64 x, .string b, .int .i64 y] 26))) := ⟨Deep.blk_alloc_new w _, (Below.refl _ w).alloc (Nat.le_refl _) _⟩
    generalize w.alloc (.cells #[.string a, .int .i64 x, .string b, .int .i64 y] 26) = w0 at HT0 ⊢
    obtain ⟨D, hD⟩ : ∃ D, w.heap.size = D := ⟨_, rfl⟩
    rw [hD] at HT0 ⊢
    have HW : Hid (w.heap.size = D) := hD
    clear hD
    have HX0_0 : Hid _ := HT0.out.1
    have HB0 : Hid _ := HT0.out.2
    clear HT0
    change Hid (DkAt w0 D a x b y) at HX0_0
    change Hid (Below D w w0) at HB0
    have hz1_0 := HX0_0.out.lt
    with_reducible refine (HAp.out _).mono ?_
    rintro e w1 ⟨rfl, hb1⟩
    have HX1_0 : Hid (DkAt w1 D a x b y) := HX0_0.out.below hb1 (by omega)
    have HB1 : Hid (Below D w w1) := HB0.out.trans (hb1.mono (by omega))
    clear hz1_0 hb1
    have hl0 := HX1_0.out.lt
    obtain ⟨c0_0, c0_1, c0_2, c0_3⟩ := HX1_0.out.cells
    obtain ⟨f0_0, f0_1, f0_2, f0_3⟩ := HX1_0.out.free
    go_wp2_with fail
    have HT : Hid (DkAt (w1.alloc (.cells #[.string ⟨#[]⟩, .int .i64 0, .string ⟨#[]⟩, .int .i64 0] 26)) w1.heap.size ⟨#[]⟩ 0 ⟨#[]⟩ 0 ∧ Below w1.heap.size w1 (w1.alloc (.cells #[.string ⟨#[]⟩, .int .i64 0, .string ⟨#[]⟩, .int .i64 0] 26)) ∧ (w1.alloc (.cells #[.string ⟨#[]⟩, .int .i64 0, .string ⟨#[]⟩, .int .i64 0] 26)).heap.size = w1.heap.size + 1) := ⟨Deep.blk_alloc_new w1 _, (Below.refl _ w1).alloc (Nat.le_refl _) _, by simp⟩
    generalize w1.alloc (.cells #[.string ⟨#[]⟩, .int .i64 0, .string ⟨#[]⟩, .int .i64 0] 26) = w2 at HT ⊢
    have HX2_0 : Hid (DkAt w2 D a x b y) := HX1_0.out.below HT.out.2.1 HX1_0.out.lt
    have HB2 : Hid (Below D w w2) := HB1.out.trans (HT.out.2.1.mono (by have := HX1_0.out.lt; omega))
    clear hl0 c0_0 c0_1 c0_2 c0_3 f0_0 f0_1 f0_2 f0_3
    have hlast := HX1_0.out.lt
    obtain ⟨X, hX⟩ : ∃ g, w1.heap.size = g := ⟨_, rfl⟩
    rw [hX] at HT hlast ⊢
    have HX2_1 : Hid (DkAt w2 X ⟨#[]⟩ 0 ⟨#[]⟩ 0) := HT.out.1
    have HOS : Hid (D < X) := hlast
    have HNX : Hid (w2.heap.size = X + 1) := HT.out.2.2
    clear hX HT hlast
    have hz3_0 := HX2_0.out.lt
    have hz3_1 := HX2_1.out.lt
    with_reducible refine (HSy.out _).mono ?_
    rintro e w3 ⟨rfl, hb3⟩
    have HX3_0 : Hid (DkAt w3 D a x b y) := HX2_0.out.below hb3 (by omega)
    have HX3_1 : Hid (DkAt w3 X ⟨#[]⟩ 0 ⟨#[]⟩ 0) := HX2_1.out.below hb3 (by omega)
    have HB3 : Hid (Below D w w3) := HB2.out.trans (hb3.mono (by omega))
    clear hz3_0 hz3_1 hb3
    have hl0 := HX3_0.out.lt
    obtain ⟨c0_0, c0_1, c0_2, c0_3⟩ := HX3_0.out.cells
    obtain ⟨f0_0, f0_1, f0_2, f0_3⟩ := HX3_0.out.free
    have hl1 := HX3_1.out.lt
    obtain ⟨c1_0, c1_1, c1_2, c1_3⟩ := HX3_1.out.cells
    obtain ⟨f1_0, f1_1, f1_2, f1_3⟩ := HX3_1.out.free
    go_wp2_with fail
    have HT : Hid (DkAt (w3.alloc (.cells #[.string ⟨#[]⟩, .int .i64 0, .string ⟨#[]⟩, .int .i64 0] 26)) w3.heap.size ⟨#[]⟩ 0 ⟨#[]⟩ 0 ∧ Below w3.heap.size w3 (w3.alloc (.cells #[.string ⟨#[]⟩, .int .i64 0, .string ⟨#[]⟩, .int .i64 0] 26)) ∧ (w3.alloc (.cells #[.string ⟨#[]⟩, .int .i64 0, .string ⟨#[]⟩, .int .i64 0] 26)).heap.size = w3.heap.size + 1) := ⟨Deep.blk_alloc_new w3 _, (Below.refl _ w3).alloc (Nat.le_refl _) _, by simp⟩
    generalize w3.alloc (.cells #[.string ⟨#[]⟩, .int .i64 0, .string ⟨#[]⟩, .int .i64 0] 26) = w4 at HT ⊢
    have HX4_0 : Hid (DkAt w4 D a x b y) := HX3_0.out.below HT.out.2.1 HX3_0.out.lt
    have HX4_1 : Hid (DkAt w4 X ⟨#[]⟩ 0 ⟨#[]⟩ 0) := HX3_1.out.below HT.out.2.1 HX3_1.out.lt
    have HB4 : Hid (Below D w w4) := HB3.out.trans (HT.out.2.1.mono (by have := HX3_0.out.lt; omega))
    clear hl0 c0_0 c0_1 c0_2 c0_3 f0_0 f0_1 f0_2 f0_3 hl1 c1_0 c1_1 c1_2 c1_3 f1_0 f1_1 f1_2 f1_3
    have hlast := HX3_1.out.lt
    obtain ⟨Y, hY⟩ : ∃ g, w3.heap.size = g := ⟨_, rfl⟩
    rw [hY] at HT hlast ⊢
    have HX4_2 : Hid (DkAt w4 Y ⟨#[]⟩ 0 ⟨#[]⟩ 0) := HT.out.1
    have HOS : Hid (D < X ∧ X < Y) := by have := HOS.out; refine ⟨?_, ?_⟩ <;> omega
    have HNY : Hid (w4.heap.size = Y + 1) := HT.out.2.2
    clear hY HT hlast
    have hz5_0 := HX4_0.out.lt
    have hz5_1 := HX4_1.out.lt
    have hz5_2 := HX4_2.out.lt
    with_reducible refine (HTr.out _).mono ?_
    rintro e w5 ⟨rfl, hb5⟩
    have HX5_0 : Hid (DkAt w5 D a x b y) := HX4_0.out.below hb5 (by omega)
    have HX5_1 : Hid (DkAt w5 X ⟨#[]⟩ 0 ⟨#[]⟩ 0) := HX4_1.out.below hb5 (by omega)
    have HX5_2 : Hid (DkAt w5 Y ⟨#[]⟩ 0 ⟨#[]⟩ 0) := HX4_2.out.below hb5 (by omega)
    have HB5 : Hid (Below D w w5) := HB4.out.trans (hb5.mono (by omega))
    clear hz5_0 hz5_1 hz5_2 hb5
    have hl0 := HX5_0.out.lt
    obtain ⟨c0_0, c0_1, c0_2, c0_3⟩ := HX5_0.out.cells
    obtain ⟨f0_0, f0_1, f0_2, f0_3⟩ := HX5_0.out.free
    have hl1 := HX5_1.out.lt
    obtain ⟨c1_0, c1_1, c1_2, c1_3⟩ := HX5_1.out.cells
    obtain ⟨f1_0, f1_1, f1_2, f1_3⟩ := HX5_1.out.free
    have hl2 := HX5_2.out.lt
    obtain ⟨c2_0, c2_1, c2_2, c2_3⟩ := HX5_2.out.cells
    obtain ⟨f2_0, f2_1, f2_2, f2_3⟩ := HX5_2.out.free
    go_wp2_with fail
    have HT : Hid (DkAt (w5.alloc (.cells #[.string ⟨#[]⟩, .int .i64 0, .string ⟨#[]⟩, .int .i64 0] 26)) w5.heap.size ⟨#[]⟩ 0 ⟨#[]⟩ 0 ∧ Below w5.heap.size w5 (w5.alloc (.cells #[.string ⟨#[]⟩, .int .i64 0, .string ⟨#[]⟩, .int .i64 0] 26)) ∧ (w5.alloc (.cells #[.string ⟨#[]⟩, .int .i64 0, .string ⟨#[]⟩, .int .i64 0] 26)).heap.size = w5.heap.size + 1) := ⟨Deep.blk_alloc_new w5 _, (Below.refl _ w5).alloc (Nat.le_refl _) _, by simp⟩
    generalize w5.alloc (.cells #[.string ⟨#[]⟩, .int .i64 0, .string ⟨#[]⟩, .int .i64 0] 26) = w6 at HT ⊢
    have HX6_0 : Hid (DkAt w6 D a x b y) := HX5_0.out.below HT.out.2.1 HX5_0.out.lt
    have HX6_1 : Hid (DkAt w6 X ⟨#[]⟩ 0 ⟨#[]⟩ 0) := HX5_1.out.below HT.out.2.1 HX5_1.out.lt
    have HX6_2 : Hid (DkAt w6 Y ⟨#[]⟩ 0 ⟨#[]⟩ 0) := HX5_2.out.below HT.out.2.1 HX5_2.out.lt
    have HB6 : Hid (Below D w w6) := HB5.out.trans (HT.out.2.1.mono (by have := HX5_0.out.lt; omega))
    clear hl0 c0_0 c0_1 c0_2 c0_3 f0_0 f0_1 f0_2 f0_3 hl1 c1_0 c1_1 c1_2 c1_3 f1_0 f1_1 f1_2 f1_3 hl2 c2_0 c2_1 c2_2 c2_3 f2_0 f2_1 f2_2 f2_3
    have hlast := HX5_2.out.lt
    obtain ⟨Z, hZ⟩ : ∃ g, w5.heap.size = g := ⟨_, rfl⟩
    rw [hZ] at HT hlast ⊢
    have HX6_3 : Hid (DkAt w6 Z ⟨#[]⟩ 0 ⟨#[]⟩ 0) := HT.out.1
    have HOS : Hid (D < X ∧ X < Y ∧ Y < Z) := by have := HOS.out; refine ⟨?_, ?_, ?_⟩ <;> omega
    have HNZ : Hid (w6.heap.size = Z + 1) := HT.out.2.2
    clear hZ HT hlast
    have hz7_0 := HX6_0.out.lt
    have hz7_1 := HX6_1.out.lt
    have hz7_2 := HX6_2.out.lt
    have hz7_3 := HX6_3.out.lt
    with_reducible refine (HRD.out _).mono ?_
    rintro e w7 ⟨rfl, hb7⟩
    have HX7_0 : Hid (DkAt w7 D a x b y) := HX6_0.out.below hb7 (by omega)
    have HX7_1 : Hid (DkAt w7 X ⟨#[]⟩ 0 ⟨#[]⟩ 0) := HX6_1.out.below hb7 (by omega)
    have HX7_2 : Hid (DkAt w7 Y ⟨#[]⟩ 0 ⟨#[]⟩ 0) := HX6_2.out.below hb7 (by omega)
    have HX7_3 : Hid (DkAt w7 Z ⟨#[]⟩ 0 ⟨#[]⟩ 0) := HX6_3.out.below hb7 (by omega)
    have HB7 : Hid (Below D w w7) := HB6.out.trans (hb7.mono (by omega))
    clear hz7_0 hz7_1 hz7_2 hz7_3 hb7
    have hl0 := HX7_0.out.lt
    obtain ⟨c0_0, c0_1, c0_2, c0_3⟩ := HX7_0.out.cells
    obtain ⟨f0_0, f0_1, f0_2, f0_3⟩ := HX7_0.out.free
    have hl1 := HX7_1.out.lt
    obtain ⟨c1_0, c1_1, c1_2, c1_3⟩ := HX7_1.out.cells
    obtain ⟨f1_0, f1_1, f1_2, f1_3⟩ := HX7_1.out.free
    have hl2 := HX7_2.out.lt
    obtain ⟨c2_0, c2_1, c2_2, c2_3⟩ := HX7_2.out.cells
    obtain ⟨f2_0, f2_1, f2_2, f2_3⟩ := HX7_2.out.free
    have hl3 := HX7_3.out.lt
    obtain ⟨c3_0, c3_1, c3_2, c3_3⟩ := HX7_3.out.cells
    obtain ⟨f3_0, f3_1, f3_2, f3_3⟩ := HX7_3.out.free
    go_wp2_with fail
    clear hl0 c0_0 c0_1 c0_2 c0_3 f0_0 f0_1 f0_2 f0_3 hl1 c1_0 c1_1 c1_2 c1_3 f1_0 f1_1 f1_2 f1_3 hl2 c2_0 c2_1 c2_2 c2_3 f2_0 f2_1 f2_2 f2_3 hl3 c3_0 c3_1 c3_2 c3_3 f3_0 f3_1 f3_2 f3_3
    have hz8_0 := HX7_0.out.lt
    have hz8_1 := HX7_1.out.lt
    have hz8_2 := HX7_2.out.lt
    have hz8_3 := HX7_3.out.lt
    with_reducible refine (HDC.out _).mono ?_
    rintro e w8 ⟨rfl, hb8⟩
    have HX8_0 : Hid (DkAt w8 D a x b y) := HX7_0.out.below hb8 (by omega)
    have HX8_1 : Hid (DkAt w8 X ⟨#[]⟩ 0 ⟨#[]⟩ 0) := HX7_1.out.below hb8 (by omega)
    have HX8_2 : Hid (DkAt w8 Y ⟨#[]⟩ 0 ⟨#[]⟩ 0) := HX7_2.out.below hb8 (by omega)
    have HX8_3 : Hid (DkAt w8 Z ⟨#[]⟩ 0 ⟨#[]⟩ 0) := HX7_3.out.below hb8 (by omega)
    have HB8 : Hid (Below D w w8) := HB7.out.trans (hb8.mono (by omega))
    clear hz8_0 hz8_1 hz8_2 hz8_3 hb8
    have hl0 := HX8_0.out.lt
    obtain ⟨c0_0, c0_1, c0_2, c0_3⟩ := HX8_0.out.cells
    obtain ⟨f0_0, f0_1, f0_2, f0_3⟩ := HX8_0.out.free
    have hl1 := HX8_1.out.lt
    obtain ⟨c1_0, c1_1, c1_2, c1_3⟩ := HX8_1.out.cells
    obtain ⟨f1_0, f1_1, f1_2, f1_3⟩ := HX8_1.out.free
    have hl2 := HX8_2.out.lt
    obtain ⟨c2_0, c2_1, c2_2, c2_3⟩ := HX8_2.out.cells
    obtain ⟨f2_0, f2_1, f2_2, f2_3⟩ := HX8_2.out.free
    have hl3 := HX8_3.out.lt
    obtain ⟨c3_0, c3_1, c3_2, c3_3⟩ := HX8_3.out.cells
    obtain ⟨f3_0, f3_1, f3_2, f3_3⟩ := HX8_3.out.free
    go_wp2_with fail
    go_ret
    exact ⟨by first | rfl | simp, by rw [HW.out]; exact HB8.out⟩
end Go.Proofs.Ytkihanmodfnpcaa
