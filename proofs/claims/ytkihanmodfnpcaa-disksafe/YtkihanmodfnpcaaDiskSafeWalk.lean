/- DiskSafe answers true. -/
import Derived.Test.YtkihanmodfnpcaaDiskKit
namespace Go.Proofs.Ytkihanmodfnpcaa
open Go.RowKit
set_option linter.unusedSimpArgs false
set_option linter.unusedVariables false

set_option maxRecDepth 20000 in
set_option maxHeartbeats 4000000 in
theorem DiskSafe_any (a : ByteArray) (x : Int) (b : ByteArray) (y i : Int) (s : ByteArray) (p q : Int) (w : World) (ha : a.size ≤ 9223372036854775807) (hb : b.size ≤ 9223372036854775807) (hs : s.size ≤ 9223372036854775807) :
    Calls Try.prog 5 #[dkV a x b y, .int .i64 i, .string s, .int .i64 p, .int .i64 q] w fun e w' => e = .returned (.bool true) ∧ Below w.heap.size w w' := by
  have HA0 : Hid _ := fun w => DAppend_two w
  have hs0 := slot_neq ⟨#[97, 98]⟩ 0
  rcases DAppend_all a x b y i s ha hb hs with ⟨q0, hq0, HK⟩ | ⟨A, B, hi, hd, -, -, -, HK⟩
  · have hq' : (q0 != 0) = true := by simp [hq0]
    have heq := disk_eql ⟨#[]⟩ ⟨#[]⟩ 0 0
    have HK1 : Hid _ := HK
    clear hq0 HK
    go_enter Try.func5, Try.ntmps5
    go_wp2_with fail
    have HT0 : Hid (DkAt (w.alloc (.cells #[.string a, .int .i64 x, .string b, .int .i64 y] 26)) w.heap.size a x b y ∧ Below w.heap.size w (w.alloc (.cells #[.string a, .int .i64 x, .string b, .int .i64 y] 26))) := ⟨Deep.blk_alloc_new w _, (Below.refl _ w).alloc (Nat.le_refl _) _⟩
    generalize w.alloc (.cells #[.string a, .int .i64 x, .string b, .int .i64 y] 26) = w0 at HT0 ⊢
    obtain ⟨D, hD⟩ : ∃ D, w.heap.size = D := ⟨_, rfl⟩
    rw [hD] at HT0 ⊢
    have HW : Hid (w.heap.size = D) := hD
    clear hD
    have HX0_0 : Hid _ := HT0.out.1
    have HB0 : Hid _ := HT0.out.2
    clear HT0
    change Hid (DkAt w0 D a x b y) at HX0_0
    change Hid (Below D w w0) at HB0
    have hz1_0 := HX0_0.out.lt
    with_reducible refine (HA0.out _).mono ?_
    rintro e w1 ⟨rfl, hb1⟩
    have HX1_0 : Hid (DkAt w1 D a x b y) := HX0_0.out.below hb1 (by omega)
    have HB1 : Hid (Below D w w1) := HB0.out.trans (hb1.mono (by omega))
    clear hz1_0 hb1
    have hl0 := HX1_0.out.lt
    obtain ⟨c0_0, c0_1, c0_2, c0_3⟩ := HX1_0.out.cells
    obtain ⟨f0_0, f0_1, f0_2, f0_3⟩ := HX1_0.out.free
    go_wp2_with fail
    have HT : Hid (DkAt (w1.alloc (.cells #[.string ⟨#[]⟩, .int .i64 0, .string ⟨#[97, 98]⟩, .int .i64 0] 26)) w1.heap.size ⟨#[]⟩ 0 ⟨#[97, 98]⟩ 0 ∧ Below w1.heap.size w1 (w1.alloc (.cells #[.string ⟨#[]⟩, .int .i64 0, .string ⟨#[97, 98]⟩, .int .i64 0] 26)) ∧ w1.heap.size < (w1.alloc (.cells #[.string ⟨#[]⟩, .int .i64 0, .string ⟨#[97, 98]⟩, .int .i64 0] 26)).heap.size) := ⟨Deep.blk_alloc_new w1 _, (Below.refl _ w1).alloc (Nat.le_refl _) _, by simp⟩
    generalize w1.alloc (.cells #[.string ⟨#[]⟩, .int .i64 0, .string ⟨#[97, 98]⟩, .int .i64 0] 26) = w2 at HT ⊢
    have HX2_0 : Hid (DkAt w2 D a x b y) := HX1_0.out.below HT.out.2.1 HX1_0.out.lt
    have HB2 : Hid (Below D w w2) := HB1.out.trans (HT.out.2.1.mono (by have := HX1_0.out.lt; omega))
    clear hl0 c0_0 c0_1 c0_2 c0_3 f0_0 f0_1 f0_2 f0_3
    have hlast := HX1_0.out.lt
    obtain ⟨X, hX⟩ : ∃ g, w1.heap.size = g := ⟨_, rfl⟩
    rw [hX] at HT hlast ⊢
    have HX2_1 : Hid (DkAt w2 X ⟨#[]⟩ 0 ⟨#[97, 98]⟩ 0) := HT.out.1
    have HOS : Hid (D < X) := hlast
    clear hX HT hlast
    have hz3_0 := HX2_0.out.lt
    have hz3_1 := HX2_1.out.lt
    with_reducible refine (HK1.out _).mono ?_
    rintro e w3 ⟨rfl, hb3⟩
    have HX3_0 : Hid (DkAt w3 D a x b y) := HX2_0.out.below hb3 (by omega)
    have HX3_1 : Hid (DkAt w3 X ⟨#[]⟩ 0 ⟨#[97, 98]⟩ 0) := HX2_1.out.below hb3 (by omega)
    have HB3 : Hid (Below D w w3) := HB2.out.trans (hb3.mono (by omega))
    clear hz3_0 hz3_1 hb3
    have hl0 := HX3_0.out.lt
    obtain ⟨c0_0, c0_1, c0_2, c0_3⟩ := HX3_0.out.cells
    obtain ⟨f0_0, f0_1, f0_2, f0_3⟩ := HX3_0.out.free
    have hl1 := HX3_1.out.lt
    obtain ⟨c1_0, c1_1, c1_2, c1_3⟩ := HX3_1.out.cells
    obtain ⟨f1_0, f1_1, f1_2, f1_3⟩ := HX3_1.out.free
    go_wp2_with fail
    go_ret
    exact ⟨rfl, by rw [HW.out]; exact HB3.out.alloc (by have := HX3_0.out.lt; omega) _⟩
  · have HK1 : Hid _ := HK
    obtain ⟨C, E, m, n, x1, x2, x3, x4, x5, x6, x7, x8, -, -, HCr⟩ := DCrash_all A x B y p q hd
    obtain ⟨k1, k2⟩ := dk_zero hd
    obtain ⟨m0, m1, m2⟩ := sl_zero k1
    obtain ⟨l0, l1, l2⟩ := sl_zero k2
    have HC1 : Hid _ := HCr
    have HC2 : Hid _ := fun w => DCrash_again C E m n q p x3 x4 (by omega) (by omega) w
    have heq := disk_neq C E m n
    clear HK HCr k1 k2
    rcases hi with rfl | rfl
    · have HSy : Hid _ := fun w => DSync_ok0 A x B y (dks_of hd (.inl rfl)) w (by omega) (by omega)
      obtain ⟨C', E', m', n', y1, y2, y3, y4, y5, y6, y7, y8, y9, -, HCr2⟩ := DCrash_all A A.size B y (-1) (-1) (dk_of (sl_of (by omega) (by omega) (by omega)) (dk_zero hd).2)
      have hm' : m' = A.size := by have := y9 (by omega); omega
      subst hm'
      rw [extract_self] at y1
      subst y1
      have HC3 : Hid _ := HCr2
      have hse := slot_eql A (A.size : Int)
      clear y2 y3 y4 y5 y6 y7 y8 y9 HCr2
      have HX1 : Hid _ := And.intro x1 x2
      have HX3 : Hid _ := And.intro x3 x4
      clear hd x1 x2 x3 x4
      go_enter Try.func5, Try.ntmps5
      go_wp2_with fail
      have HT0 : Hid (DkAt (w.alloc (.cells #[.string a, .int .i64 x, .string b, .int .i64 y] 26)) w.heap.size a x b y ∧ Below w.heap.size w (w.alloc (.cells #[.string a, .int .i64 x, .string b, .int .i64 y] 26))) := ⟨Deep.blk_alloc_new w _, (Below.refl _ w).alloc (Nat.le_refl _) _⟩
      generalize w.alloc (.cells #[.string a, .int .i64 x, .string b, .int .i64 y] 26) = w0 at HT0 ⊢
      obtain ⟨D, hD⟩ : ∃ D, w.heap.size = D := ⟨_, rfl⟩
      rw [hD] at HT0 ⊢
      have HW : Hid (w.heap.size = D) := hD
      clear hD
      have HX0_0 : Hid _ := HT0.out.1
      have HB0 : Hid _ := HT0.out.2
      clear HT0
      change Hid (DkAt w0 D a x b y) at HX0_0
      change Hid (Below D w w0) at HB0
      have hz1_0 := HX0_0.out.lt
      with_reducible refine (HA0.out _).mono ?_
      rintro e w1 ⟨rfl, hb1⟩
      have HX1_0 : Hid (DkAt w1 D a x b y) := HX0_0.out.below hb1 (by omega)
      have HB1 : Hid (Below D w w1) := HB0.out.trans (hb1.mono (by omega))
      clear hz1_0 hb1
      have hl0 := HX1_0.out.lt
      obtain ⟨c0_0, c0_1, c0_2, c0_3⟩ := HX1_0.out.cells
      obtain ⟨f0_0, f0_1, f0_2, f0_3⟩ := HX1_0.out.free
      go_wp2_with fail
      have HT : Hid (DkAt (w1.alloc (.cells #[.string ⟨#[]⟩, .int .i64 0, .string ⟨#[97, 98]⟩, .int .i64 0] 26)) w1.heap.size ⟨#[]⟩ 0 ⟨#[97, 98]⟩ 0 ∧ Below w1.heap.size w1 (w1.alloc (.cells #[.string ⟨#[]⟩, .int .i64 0, .string ⟨#[97, 98]⟩, .int .i64 0] 26)) ∧ w1.heap.size < (w1.alloc (.cells #[.string ⟨#[]⟩, .int .i64 0, .string ⟨#[97, 98]⟩, .int .i64 0] 26)).heap.size) := ⟨Deep.blk_alloc_new w1 _, (Below.refl _ w1).alloc (Nat.le_refl _) _, by simp⟩
      generalize w1.alloc (.cells #[.string ⟨#[]⟩, .int .i64 0, .string ⟨#[97, 98]⟩, .int .i64 0] 26) = w2 at HT ⊢
      have HX2_0 : Hid (DkAt w2 D a x b y) := HX1_0.out.below HT.out.2.1 HX1_0.out.lt
      have HB2 : Hid (Below D w w2) := HB1.out.trans (HT.out.2.1.mono (by have := HX1_0.out.lt; omega))
      clear hl0 c0_0 c0_1 c0_2 c0_3 f0_0 f0_1 f0_2 f0_3
      have hlast := HX1_0.out.lt
      obtain ⟨X, hX⟩ : ∃ g, w1.heap.size = g := ⟨_, rfl⟩
      rw [hX] at HT hlast ⊢
      have HX2_1 : Hid (DkAt w2 X ⟨#[]⟩ 0 ⟨#[97, 98]⟩ 0) := HT.out.1
      have HOS : Hid (D < X) := hlast
      clear hX HT hlast
      have hz3_0 := HX2_0.out.lt
      have hz3_1 := HX2_1.out.lt
      with_reducible refine (HK1.out _).mono ?_
      rintro e w3 ⟨rfl, hb3⟩
      have HX3_0 : Hid (DkAt w3 D a x b y) := HX2_0.out.below hb3 (by omega)
      have HX3_1 : Hid (DkAt w3 X ⟨#[]⟩ 0 ⟨#[97, 98]⟩ 0) := HX2_1.out.below hb3 (by omega)
      have HB3 : Hid (Below D w w3) := HB2.out.trans (hb3.mono (by omega))
      clear hz3_0 hz3_1 hb3
      have hl0 := HX3_0.out.lt
      obtain ⟨c0_0, c0_1, c0_2, c0_3⟩ := HX3_0.out.cells
      obtain ⟨f0_0, f0_1, f0_2, f0_3⟩ := HX3_0.out.free
      have hl1 := HX3_1.out.lt
      obtain ⟨c1_0, c1_1, c1_2, c1_3⟩ := HX3_1.out.cells
      obtain ⟨f1_0, f1_1, f1_2, f1_3⟩ := HX3_1.out.free
      go_wp2_with fail
      have HT : Hid (DkAt (w3.alloc (.cells #[.string A, .int .i64 x, .string B, .int .i64 y] 26)) w3.heap.size A x B y ∧ Below w3.heap.size w3 (w3.alloc (.cells #[.string A, .int .i64 x, .string B, .int .i64 y] 26)) ∧ w3.heap.size < (w3.alloc (.cells #[.string A, .int .i64 x, .string B, .int .i64 y] 26)).heap.size) := ⟨Deep.blk_alloc_new w3 _, (Below.refl _ w3).alloc (Nat.le_refl _) _, by simp⟩
      generalize w3.alloc (.cells #[.string A, .int .i64 x, .string B, .int .i64 y] 26) = w4 at HT ⊢
      have HX4_0 : Hid (DkAt w4 D a x b y) := HX3_0.out.below HT.out.2.1 HX3_0.out.lt
      have HX4_1 : Hid (DkAt w4 X ⟨#[]⟩ 0 ⟨#[97, 98]⟩ 0) := HX3_1.out.below HT.out.2.1 HX3_1.out.lt
      have HB4 : Hid (Below D w w4) := HB3.out.trans (HT.out.2.1.mono (by have := HX3_0.out.lt; omega))
      clear hl0 c0_0 c0_1 c0_2 c0_3 f0_0 f0_1 f0_2 f0_3 hl1 c1_0 c1_1 c1_2 c1_3 f1_0 f1_1 f1_2 f1_3
      have hlast := HX3_1.out.lt
      obtain ⟨Y, hY⟩ : ∃ g, w3.heap.size = g := ⟨_, rfl⟩
      rw [hY] at HT hlast ⊢
      have HX4_2 : Hid (DkAt w4 Y A x B y) := HT.out.1
      have HOS : Hid (D < X ∧ X < Y) := by have := HOS.out; refine ⟨?_, ?_⟩ <;> omega
      clear hY HT hlast
      have hz5_0 := HX4_0.out.lt
      have hz5_1 := HX4_1.out.lt
      have hz5_2 := HX4_2.out.lt
      with_reducible refine (HC1.out _).mono ?_
      rintro e w5 ⟨rfl, hb5⟩
      have HX5_0 : Hid (DkAt w5 D a x b y) := HX4_0.out.below hb5 (by omega)
      have HX5_1 : Hid (DkAt w5 X ⟨#[]⟩ 0 ⟨#[97, 98]⟩ 0) := HX4_1.out.below hb5 (by omega)
      have HX5_2 : Hid (DkAt w5 Y A x B y) := HX4_2.out.below hb5 (by omega)
      have HB5 : Hid (Below D w w5) := HB4.out.trans (hb5.mono (by omega))
      clear hz5_0 hz5_1 hz5_2 hb5
      have hl0 := HX5_0.out.lt
      obtain ⟨c0_0, c0_1, c0_2, c0_3⟩ := HX5_0.out.cells
      obtain ⟨f0_0, f0_1, f0_2, f0_3⟩ := HX5_0.out.free
      have hl1 := HX5_1.out.lt
      obtain ⟨c1_0, c1_1, c1_2, c1_3⟩ := HX5_1.out.cells
      obtain ⟨f1_0, f1_1, f1_2, f1_3⟩ := HX5_1.out.free
      have hl2 := HX5_2.out.lt
      obtain ⟨c2_0, c2_1, c2_2, c2_3⟩ := HX5_2.out.cells
      obtain ⟨f2_0, f2_1, f2_2, f2_3⟩ := HX5_2.out.free
      go_wp2_with fail
      have HT : Hid (DkAt (w5.alloc (.cells #[.string C, .int .i64 (m : Int), .string E, .int .i64 (n : Int)] 26)) w5.heap.size C (m : Int) E (n : Int) ∧ Below w5.heap.size w5 (w5.alloc (.cells #[.string C, .int .i64 (m : Int), .string E, .int .i64 (n : Int)] 26)) ∧ w5.heap.size < (w5.alloc (.cells #[.string C, .int .i64 (m : Int), .string E, .int .i64 (n : Int)] 26)).heap.size) := ⟨Deep.blk_alloc_new w5 _, (Below.refl _ w5).alloc (Nat.le_refl _) _, by simp⟩
      generalize w5.alloc (.cells #[.string C, .int .i64 (m : Int), .string E, .int .i64 (n : Int)] 26) = w6 at HT ⊢
      have HX6_0 : Hid (DkAt w6 D a x b y) := HX5_0.out.below HT.out.2.1 HX5_0.out.lt
      have HX6_1 : Hid (DkAt w6 X ⟨#[]⟩ 0 ⟨#[97, 98]⟩ 0) := HX5_1.out.below HT.out.2.1 HX5_1.out.lt
      have HX6_2 : Hid (DkAt w6 Y A x B y) := HX5_2.out.below HT.out.2.1 HX5_2.out.lt
      have HB6 : Hid (Below D w w6) := HB5.out.trans (HT.out.2.1.mono (by have := HX5_0.out.lt; omega))
      clear hl0 c0_0 c0_1 c0_2 c0_3 f0_0 f0_1 f0_2 f0_3 hl1 c1_0 c1_1 c1_2 c1_3 f1_0 f1_1 f1_2 f1_3 hl2 c2_0 c2_1 c2_2 c2_3 f2_0 f2_1 f2_2 f2_3
      have hlast := HX5_2.out.lt
      obtain ⟨Z, hZ⟩ : ∃ g, w5.heap.size = g := ⟨_, rfl⟩
      rw [hZ] at HT hlast ⊢
      have HX6_3 : Hid (DkAt w6 Z C (m : Int) E (n : Int)) := HT.out.1
      have HOS : Hid (D < X ∧ X < Y ∧ Y < Z) := by have := HOS.out; refine ⟨?_, ?_, ?_⟩ <;> omega
      clear hZ HT hlast
      have hz7_0 := HX6_0.out.lt
      have hz7_1 := HX6_1.out.lt
      have hz7_2 := HX6_2.out.lt
      have hz7_3 := HX6_3.out.lt
      with_reducible refine (HC2.out _).mono ?_
      rintro e w7 ⟨rfl, hb7⟩
      have HX7_0 : Hid (DkAt w7 D a x b y) := HX6_0.out.below hb7 (by omega)
      have HX7_1 : Hid (DkAt w7 X ⟨#[]⟩ 0 ⟨#[97, 98]⟩ 0) := HX6_1.out.below hb7 (by omega)
      have HX7_2 : Hid (DkAt w7 Y A x B y) := HX6_2.out.below hb7 (by omega)
      have HX7_3 : Hid (DkAt w7 Z C (m : Int) E (n : Int)) := HX6_3.out.below hb7 (by omega)
      have HB7 : Hid (Below D w w7) := HB6.out.trans (hb7.mono (by omega))
      clear hz7_0 hz7_1 hz7_2 hz7_3 hb7
      have hl0 := HX7_0.out.lt
      obtain ⟨c0_0, c0_1, c0_2, c0_3⟩ := HX7_0.out.cells
      obtain ⟨f0_0, f0_1, f0_2, f0_3⟩ := HX7_0.out.free
      have hl1 := HX7_1.out.lt
      obtain ⟨c1_0, c1_1, c1_2, c1_3⟩ := HX7_1.out.cells
      obtain ⟨f1_0, f1_1, f1_2, f1_3⟩ := HX7_1.out.free
      have hl2 := HX7_2.out.lt
      obtain ⟨c2_0, c2_1, c2_2, c2_3⟩ := HX7_2.out.cells
      obtain ⟨f2_0, f2_1, f2_2, f2_3⟩ := HX7_2.out.free
      have hl3 := HX7_3.out.lt
      obtain ⟨c3_0, c3_1, c3_2, c3_3⟩ := HX7_3.out.cells
      obtain ⟨f3_0, f3_1, f3_2, f3_3⟩ := HX7_3.out.free
      go_wp2_with fail
      have HT : Hid (DkAt (w7.alloc (.cells #[.string C, .int .i64 (m : Int), .string E, .int .i64 (n : Int)] 26)) w7.heap.size C (m : Int) E (n : Int) ∧ Below w7.heap.size w7 (w7.alloc (.cells #[.string C, .int .i64 (m : Int), .string E, .int .i64 (n : Int)] 26)) ∧ w7.heap.size < (w7.alloc (.cells #[.string C, .int .i64 (m : Int), .string E, .int .i64 (n : Int)] 26)).heap.size) := ⟨Deep.blk_alloc_new w7 _, (Below.refl _ w7).alloc (Nat.le_refl _) _, by simp⟩
      generalize w7.alloc (.cells #[.string C, .int .i64 (m : Int), .string E, .int .i64 (n : Int)] 26) = w8 at HT ⊢
      have HX8_0 : Hid (DkAt w8 D a x b y) := HX7_0.out.below HT.out.2.1 HX7_0.out.lt
      have HX8_1 : Hid (DkAt w8 X ⟨#[]⟩ 0 ⟨#[97, 98]⟩ 0) := HX7_1.out.below HT.out.2.1 HX7_1.out.lt
      have HX8_2 : Hid (DkAt w8 Y A x B y) := HX7_2.out.below HT.out.2.1 HX7_2.out.lt
      have HX8_3 : Hid (DkAt w8 Z C (m : Int) E (n : Int)) := HX7_3.out.below HT.out.2.1 HX7_3.out.lt
      have HB8 : Hid (Below D w w8) := HB7.out.trans (HT.out.2.1.mono (by have := HX7_0.out.lt; omega))
      clear hl0 c0_0 c0_1 c0_2 c0_3 f0_0 f0_1 f0_2 f0_3 hl1 c1_0 c1_1 c1_2 c1_3 f1_0 f1_1 f1_2 f1_3 hl2 c2_0 c2_1 c2_2 c2_3 f2_0 f2_1 f2_2 f2_3 hl3 c3_0 c3_1 c3_2 c3_3 f3_0 f3_1 f3_2 f3_3
      have hlast := HX7_3.out.lt
      obtain ⟨U, hU⟩ : ∃ g, w7.heap.size = g := ⟨_, rfl⟩
      rw [hU] at HT hlast ⊢
      have HX8_4 : Hid (DkAt w8 U C (m : Int) E (n : Int)) := HT.out.1
      have HOS : Hid (D < X ∧ X < Y ∧ Y < Z ∧ Z < U) := by have := HOS.out; refine ⟨?_, ?_, ?_, ?_⟩ <;> omega
      clear hU HT hlast
      have HOY : Hid (D < Y ∧ Y < Z) := by have := HOS.out; refine ⟨?_, ?_⟩ <;> omega
      have hi0 := ix0 C (m : Int) E (n : Int)
      have hi1 := ix1 C (m : Int) E (n : Int)
      go_loopw [76] (fun i wr => (i = .int .i64 0 ∨ i = .int .i64 1 ∨ i = .int .i64 2) ∧ DkAt wr Y A x B y ∧ DkAt wr Z C (m : Int) E (n : Int) ∧ Below D w wr) (fun i _ => 2 - (intOf i).toNat)
      case atStart => exact ⟨.inl rfl, HX8_2.out, HX8_3.out, HB8.out⟩
      case round =>
        rename World => wr
        obtain ⟨hk3, hx, hz, hbw⟩ := hrel
        have HY0 : Hid (DkAt wr Y A x B y) := hx
        have HZ0 : Hid (DkAt wr Z C (m : Int) E (n : Int)) := hz
        have HBw : Hid (Below D w wr) := hbw
        clear hx hz hbw
        have hl0 := HY0.out.lt
        have hl1 := HZ0.out.lt
        obtain ⟨c0_0, c0_1, c0_2, c0_3⟩ := HY0.out.cells
        obtain ⟨f0_0, f0_1, f0_2, f0_3⟩ := HY0.out.free
        obtain ⟨c1_0, c1_1, c1_2, c1_3⟩ := HZ0.out.cells
        obtain ⟨f1_0, f1_1, f1_2, f1_3⟩ := HZ0.out.free
        rcases hk3 with rfl | rfl | rfl
        · have e1 := HX1.out.1
          have e2 := HX3.out.1
          have g0 : ¬ (m : Int) < x := by omega
          have g1 : ¬ (A.size : Int) < (m : Int) := by omega
          have g2 : (m : Int) ≤ (A.size : Int) := by omega
          have g3 : (0 : Int) ≤ (m : Int) := by omega
          go_wp2_with fail
          go_quiet (fail)
          rename Nat => nq
          have hby : Below wr.heap.size wr ((wr.alloc (.cells #[.string C, .int .i64 (m : Int)] 23)).drewN nq) := below_drewN ((Below.refl _ wr).alloc (Nat.le_refl _) _) nq
          have HBy : Hid _ := hby
          clear hby
          generalize (wr.alloc (.cells #[.string C, .int .i64 (m : Int)] 23)).drewN nq = w5 at HBy ⊢
          go_wp2_with fail
          go_roundw
          case rel => exact ⟨.inr (.inl rfl), HY0.out.below HBy.out HY0.out.lt, HZ0.out.below HBy.out HZ0.out.lt, HBw.out.trans (HBy.out.mono (by have := HOY.out; omega))⟩
          case measure => simp [intOf]
        · have e1 := HX1.out.2
          have e2 := HX3.out.2
          have g0 : ¬ (n : Int) < y := by omega
          have g1 : ¬ (B.size : Int) < (n : Int) := by omega
          have g2 : (n : Int) ≤ (B.size : Int) := by omega
          have g3 : (0 : Int) ≤ (n : Int) := by omega
          go_wp2_with fail
          go_quiet (fail)
          rename Nat => nq
          have hby : Below wr.heap.size wr ((wr.alloc (.cells #[.string E, .int .i64 (n : Int)] 23)).drewN nq) := below_drewN ((Below.refl _ wr).alloc (Nat.le_refl _) _) nq
          have HBy : Hid _ := hby
          clear hby
          generalize (wr.alloc (.cells #[.string E, .int .i64 (n : Int)] 23)).drewN nq = w5 at HBy ⊢
          go_wp2_with fail
          go_roundw
          case rel => exact ⟨.inr (.inr rfl), HY0.out.below HBy.out HY0.out.lt, HZ0.out.below HBy.out HZ0.out.lt, HBw.out.trans (HBy.out.mono (by have := HOY.out; omega))⟩
          case measure => simp [intOf]
        · skip
          clear hl0 c0_0 c0_1 c0_2 c0_3 f0_0 f0_1 f0_2 f0_3 hl1 c1_0 c1_1 c1_2 c1_3 f1_0 f1_1 f1_2 f1_3 HX0_0 HB0
          have hl0 := HY0.out.lt
          have hl1 := HZ0.out.lt
          have HOS : Hid (D < Y ∧ Y < Z) := HOY.out
          have HX0_0 : Hid (DkAt wr Y A x B y) := HY0.out
          have HX0_1 : Hid (DkAt wr Z C (m : Int) E (n : Int)) := HZ0.out
          have HB0 : Hid (Below D w wr) := HBw.out
          obtain ⟨c0_0, c0_1, c0_2, c0_3⟩ := HY0.out.cells
          go_wp2_with fail
          clear hl0 hl1 c0_0 c0_1 c0_2 c0_3
          obtain ⟨hYZ, hDY⟩ : Y < Z ∧ D < Y := ⟨HOY.out.2, HOY.out.1⟩
          generalize hw0 : wr = w0' at HX0_0 HX0_1 HB0 ⊢
          clear hw0
          have hz1_0 := HX0_0.out.lt
          have hz1_1 := HX0_1.out.lt
          with_reducible refine (HSy.out _).mono ?_
          rintro e v1 ⟨rfl, hb1⟩
          have HX1_0 : Hid (DkAt v1 Y A x B y) := HX0_0.out.below hb1 (by omega)
          have HX1_1 : Hid (DkAt v1 Z C (m : Int) E (n : Int)) := HX0_1.out.below hb1 (by omega)
          have HB1 : Hid (Below D w v1) := HB0.out.trans (hb1.mono (by omega))
          clear hz1_0 hz1_1 hb1
          have hl0 := HX1_0.out.lt
          obtain ⟨c0_0, c0_1, c0_2, c0_3⟩ := HX1_0.out.cells
          obtain ⟨f0_0, f0_1, f0_2, f0_3⟩ := HX1_0.out.free
          have hl1 := HX1_1.out.lt
          obtain ⟨c1_0, c1_1, c1_2, c1_3⟩ := HX1_1.out.cells
          obtain ⟨f1_0, f1_1, f1_2, f1_3⟩ := HX1_1.out.free
          go_wp2_with fail
          have HX2_0 : Hid (DkAt ((((v1.setCell ⟨Y, 0, none⟩ (.string A)).setCell ⟨Y, 1, none⟩ (.int .i64 A.size)).setCell ⟨Y, 2, none⟩ (.string B)).setCell ⟨Y, 3, none⟩ (.int .i64 y)) Y A A.size B y) := (((HX1_0.out.put0 _).put1 _).put2 _).put3 _
          have HX2_1 : Hid (DkAt ((((v1.setCell ⟨Y, 0, none⟩ (.string A)).setCell ⟨Y, 1, none⟩ (.int .i64 A.size)).setCell ⟨Y, 2, none⟩ (.string B)).setCell ⟨Y, 3, none⟩ (.int .i64 y)) Z C (m : Int) E (n : Int)) := (((HX1_1.out.other (p := ⟨Y, 0, none⟩) _ (by exact Nat.ne_of_gt hYZ)).other (p := ⟨Y, 1, none⟩) _ (by exact Nat.ne_of_gt hYZ)).other (p := ⟨Y, 2, none⟩) _ (by exact Nat.ne_of_gt hYZ)).other (p := ⟨Y, 3, none⟩) _ (by exact Nat.ne_of_gt hYZ)
          have HB2 : Hid (Below D w ((((v1.setCell ⟨Y, 0, none⟩ (.string A)).setCell ⟨Y, 1, none⟩ (.int .i64 A.size)).setCell ⟨Y, 2, none⟩ (.string B)).setCell ⟨Y, 3, none⟩ (.int .i64 y))) := below_four HB1.out (by omega) _ _ _ _
          clear hl0 c0_0 c0_1 c0_2 c0_3 f0_0 f0_1 f0_2 f0_3 hl1 c1_0 c1_1 c1_2 c1_3 f1_0 f1_1 f1_2 f1_3
          generalize ((((v1.setCell ⟨Y, 0, none⟩ (.string A)).setCell ⟨Y, 1, none⟩ (.int .i64 A.size)).setCell ⟨Y, 2, none⟩ (.string B)).setCell ⟨Y, 3, none⟩ (.int .i64 y)) = v2 at HX2_0 HX2_1 HB2 ⊢
          have hz3_0 := HX2_0.out.lt
          have hz3_1 := HX2_1.out.lt
          with_reducible refine (HC3.out _).mono ?_
          rintro e v3 ⟨rfl, hb3⟩
          have HX3_0 : Hid (DkAt v3 Y A A.size B y) := HX2_0.out.below hb3 (by omega)
          have HX3_1 : Hid (DkAt v3 Z C (m : Int) E (n : Int)) := HX2_1.out.below hb3 (by omega)
          have HB3 : Hid (Below D w v3) := HB2.out.trans (hb3.mono (by omega))
          clear hz3_0 hz3_1 hb3
          have hl0 := HX3_0.out.lt
          obtain ⟨c0_0, c0_1, c0_2, c0_3⟩ := HX3_0.out.cells
          obtain ⟨f0_0, f0_1, f0_2, f0_3⟩ := HX3_0.out.free
          have hl1 := HX3_1.out.lt
          obtain ⟨c1_0, c1_1, c1_2, c1_3⟩ := HX3_1.out.cells
          obtain ⟨f1_0, f1_1, f1_2, f1_3⟩ := HX3_1.out.free
          go_wp2_with fail
          have HX4_0 : Hid (DkAt ((((v3.setCell ⟨Z, 0, none⟩ (.string A)).setCell ⟨Z, 1, none⟩ (.int .i64 (A.size : Int))).setCell ⟨Z, 2, none⟩ (.string E')).setCell ⟨Z, 3, none⟩ (.int .i64 (n' : Int))) Y A A.size B y) := (((HX3_0.out.other (p := ⟨Z, 0, none⟩) _ (by exact Nat.ne_of_lt hYZ)).other (p := ⟨Z, 1, none⟩) _ (by exact Nat.ne_of_lt hYZ)).other (p := ⟨Z, 2, none⟩) _ (by exact Nat.ne_of_lt hYZ)).other (p := ⟨Z, 3, none⟩) _ (by exact Nat.ne_of_lt hYZ)
          have HX4_1 : Hid (DkAt ((((v3.setCell ⟨Z, 0, none⟩ (.string A)).setCell ⟨Z, 1, none⟩ (.int .i64 (A.size : Int))).setCell ⟨Z, 2, none⟩ (.string E')).setCell ⟨Z, 3, none⟩ (.int .i64 (n' : Int))) Z A (A.size : Int) E' (n' : Int)) := (((HX3_1.out.put0 _).put1 _).put2 _).put3 _
          have HB4 : Hid (Below D w ((((v3.setCell ⟨Z, 0, none⟩ (.string A)).setCell ⟨Z, 1, none⟩ (.int .i64 (A.size : Int))).setCell ⟨Z, 2, none⟩ (.string E')).setCell ⟨Z, 3, none⟩ (.int .i64 (n' : Int)))) := below_four HB3.out (by omega) _ _ _ _
          clear hl0 c0_0 c0_1 c0_2 c0_3 f0_0 f0_1 f0_2 f0_3 hl1 c1_0 c1_1 c1_2 c1_3 f1_0 f1_1 f1_2 f1_3
          generalize ((((v3.setCell ⟨Z, 0, none⟩ (.string A)).setCell ⟨Z, 1, none⟩ (.int .i64 (A.size : Int))).setCell ⟨Z, 2, none⟩ (.string E')).setCell ⟨Z, 3, none⟩ (.int .i64 (n' : Int))) = v4 at HX4_0 HX4_1 HB4 ⊢
          have hl0 := HX4_0.out.lt
          obtain ⟨c0_0, c0_1, c0_2, c0_3⟩ := HX4_0.out.cells
          obtain ⟨f0_0, f0_1, f0_2, f0_3⟩ := HX4_0.out.free
          have hl1 := HX4_1.out.lt
          obtain ⟨c1_0, c1_1, c1_2, c1_3⟩ := HX4_1.out.cells
          obtain ⟨f1_0, f1_1, f1_2, f1_3⟩ := HX4_1.out.free
          go_wp2_with fail
          go_quiet (fail)
          rename Nat => nq
          go_wp2_with fail
          go_ret
          exact ⟨rfl, by rw [HW.out]; exact below_drewN HB4.out _⟩
    · have HSy : Hid _ := fun w => DSync_ok1 A x B y (dks_of hd (.inr rfl)) w (by omega) (by omega)
      obtain ⟨C', E', m', n', y1, y2, y3, y4, y5, y6, y7, y8, -, y9, HCr2⟩ := DCrash_all A x B B.size (-1) (-1) (dk_of (dk_zero hd).1 (sl_of (by omega) (by omega) (by omega)))
      have hn' : n' = B.size := by have := y9 (by omega); omega
      subst hn'
      rw [extract_self] at y2
      subst y2
      have HC3 : Hid _ := HCr2
      have hse := slot_eql B (B.size : Int)
      clear y1 y3 y4 y5 y6 y7 y8 y9 HCr2
      have HX1 : Hid _ := And.intro x1 x2
      have HX3 : Hid _ := And.intro x3 x4
      clear hd x1 x2 x3 x4
      go_enter Try.func5, Try.ntmps5
      go_wp2_with fail
      have HT0 : Hid (DkAt (w.alloc (.cells #[.string a, .int .i64 x, .string b, .int .i64 y] 26)) w.heap.size a x b y ∧ Below w.heap.size w (w.alloc (.cells #[.string a, .int .i64 x, .string b, .int .i64 y] 26))) := ⟨Deep.blk_alloc_new w _, (Below.refl _ w).alloc (Nat.le_refl _) _⟩
      generalize w.alloc (.cells #[.string a, .int .i64 x, .string b, .int .i64 y] 26) = w0 at HT0 ⊢
      obtain ⟨D, hD⟩ : ∃ D, w.heap.size = D := ⟨_, rfl⟩
      rw [hD] at HT0 ⊢
      have HW : Hid (w.heap.size = D) := hD
      clear hD
      have HX0_0 : Hid _ := HT0.out.1
      have HB0 : Hid _ := HT0.out.2
      clear HT0
      change Hid (DkAt w0 D a x b y) at HX0_0
      change Hid (Below D w w0) at HB0
      have hz1_0 := HX0_0.out.lt
      with_reducible refine (HA0.out _).mono ?_
      rintro e w1 ⟨rfl, hb1⟩
      have HX1_0 : Hid (DkAt w1 D a x b y) := HX0_0.out.below hb1 (by omega)
      have HB1 : Hid (Below D w w1) := HB0.out.trans (hb1.mono (by omega))
      clear hz1_0 hb1
      have hl0 := HX1_0.out.lt
      obtain ⟨c0_0, c0_1, c0_2, c0_3⟩ := HX1_0.out.cells
      obtain ⟨f0_0, f0_1, f0_2, f0_3⟩ := HX1_0.out.free
      go_wp2_with fail
      have HT : Hid (DkAt (w1.alloc (.cells #[.string ⟨#[]⟩, .int .i64 0, .string ⟨#[97, 98]⟩, .int .i64 0] 26)) w1.heap.size ⟨#[]⟩ 0 ⟨#[97, 98]⟩ 0 ∧ Below w1.heap.size w1 (w1.alloc (.cells #[.string ⟨#[]⟩, .int .i64 0, .string ⟨#[97, 98]⟩, .int .i64 0] 26)) ∧ w1.heap.size < (w1.alloc (.cells #[.string ⟨#[]⟩, .int .i64 0, .string ⟨#[97, 98]⟩, .int .i64 0] 26)).heap.size) := ⟨Deep.blk_alloc_new w1 _, (Below.refl _ w1).alloc (Nat.le_refl _) _, by simp⟩
      generalize w1.alloc (.cells #[.string ⟨#[]⟩, .int .i64 0, .string ⟨#[97, 98]⟩, .int .i64 0] 26) = w2 at HT ⊢
      have HX2_0 : Hid (DkAt w2 D a x b y) := HX1_0.out.below HT.out.2.1 HX1_0.out.lt
      have HB2 : Hid (Below D w w2) := HB1.out.trans (HT.out.2.1.mono (by have := HX1_0.out.lt; omega))
      clear hl0 c0_0 c0_1 c0_2 c0_3 f0_0 f0_1 f0_2 f0_3
      have hlast := HX1_0.out.lt
      obtain ⟨X, hX⟩ : ∃ g, w1.heap.size = g := ⟨_, rfl⟩
      rw [hX] at HT hlast ⊢
      have HX2_1 : Hid (DkAt w2 X ⟨#[]⟩ 0 ⟨#[97, 98]⟩ 0) := HT.out.1
      have HOS : Hid (D < X) := hlast
      clear hX HT hlast
      have hz3_0 := HX2_0.out.lt
      have hz3_1 := HX2_1.out.lt
      with_reducible refine (HK1.out _).mono ?_
      rintro e w3 ⟨rfl, hb3⟩
      have HX3_0 : Hid (DkAt w3 D a x b y) := HX2_0.out.below hb3 (by omega)
      have HX3_1 : Hid (DkAt w3 X ⟨#[]⟩ 0 ⟨#[97, 98]⟩ 0) := HX2_1.out.below hb3 (by omega)
      have HB3 : Hid (Below D w w3) := HB2.out.trans (hb3.mono (by omega))
      clear hz3_0 hz3_1 hb3
      have hl0 := HX3_0.out.lt
      obtain ⟨c0_0, c0_1, c0_2, c0_3⟩ := HX3_0.out.cells
      obtain ⟨f0_0, f0_1, f0_2, f0_3⟩ := HX3_0.out.free
      have hl1 := HX3_1.out.lt
      obtain ⟨c1_0, c1_1, c1_2, c1_3⟩ := HX3_1.out.cells
      obtain ⟨f1_0, f1_1, f1_2, f1_3⟩ := HX3_1.out.free
      go_wp2_with fail
      have HT : Hid (DkAt (w3.alloc (.cells #[.string A, .int .i64 x, .string B, .int .i64 y] 26)) w3.heap.size A x B y ∧ Below w3.heap.size w3 (w3.alloc (.cells #[.string A, .int .i64 x, .string B, .int .i64 y] 26)) ∧ w3.heap.size < (w3.alloc (.cells #[.string A, .int .i64 x, .string B, .int .i64 y] 26)).heap.size) := ⟨Deep.blk_alloc_new w3 _, (Below.refl _ w3).alloc (Nat.le_refl _) _, by simp⟩
      generalize w3.alloc (.cells #[.string A, .int .i64 x, .string B, .int .i64 y] 26) = w4 at HT ⊢
      have HX4_0 : Hid (DkAt w4 D a x b y) := HX3_0.out.below HT.out.2.1 HX3_0.out.lt
      have HX4_1 : Hid (DkAt w4 X ⟨#[]⟩ 0 ⟨#[97, 98]⟩ 0) := HX3_1.out.below HT.out.2.1 HX3_1.out.lt
      have HB4 : Hid (Below D w w4) := HB3.out.trans (HT.out.2.1.mono (by have := HX3_0.out.lt; omega))
      clear hl0 c0_0 c0_1 c0_2 c0_3 f0_0 f0_1 f0_2 f0_3 hl1 c1_0 c1_1 c1_2 c1_3 f1_0 f1_1 f1_2 f1_3
      have hlast := HX3_1.out.lt
      obtain ⟨Y, hY⟩ : ∃ g, w3.heap.size = g := ⟨_, rfl⟩
      rw [hY] at HT hlast ⊢
      have HX4_2 : Hid (DkAt w4 Y A x B y) := HT.out.1
      have HOS : Hid (D < X ∧ X < Y) := by have := HOS.out; refine ⟨?_, ?_⟩ <;> omega
      clear hY HT hlast
      have hz5_0 := HX4_0.out.lt
      have hz5_1 := HX4_1.out.lt
      have hz5_2 := HX4_2.out.lt
      with_reducible refine (HC1.out _).mono ?_
      rintro e w5 ⟨rfl, hb5⟩
      have HX5_0 : Hid (DkAt w5 D a x b y) := HX4_0.out.below hb5 (by omega)
      have HX5_1 : Hid (DkAt w5 X ⟨#[]⟩ 0 ⟨#[97, 98]⟩ 0) := HX4_1.out.below hb5 (by omega)
      have HX5_2 : Hid (DkAt w5 Y A x B y) := HX4_2.out.below hb5 (by omega)
      have HB5 : Hid (Below D w w5) := HB4.out.trans (hb5.mono (by omega))
      clear hz5_0 hz5_1 hz5_2 hb5
      have hl0 := HX5_0.out.lt
      obtain ⟨c0_0, c0_1, c0_2, c0_3⟩ := HX5_0.out.cells
      obtain ⟨f0_0, f0_1, f0_2, f0_3⟩ := HX5_0.out.free
      have hl1 := HX5_1.out.lt
      obtain ⟨c1_0, c1_1, c1_2, c1_3⟩ := HX5_1.out.cells
      obtain ⟨f1_0, f1_1, f1_2, f1_3⟩ := HX5_1.out.free
      have hl2 := HX5_2.out.lt
      obtain ⟨c2_0, c2_1, c2_2, c2_3⟩ := HX5_2.out.cells
      obtain ⟨f2_0, f2_1, f2_2, f2_3⟩ := HX5_2.out.free
      go_wp2_with fail
      have HT : Hid (DkAt (w5.alloc (.cells #[.string C, .int .i64 (m : Int), .string E, .int .i64 (n : Int)] 26)) w5.heap.size C (m : Int) E (n : Int) ∧ Below w5.heap.size w5 (w5.alloc (.cells #[.string C, .int .i64 (m : Int), .string E, .int .i64 (n : Int)] 26)) ∧ w5.heap.size < (w5.alloc (.cells #[.string C, .int .i64 (m : Int), .string E, .int .i64 (n : Int)] 26)).heap.size) := ⟨Deep.blk_alloc_new w5 _, (Below.refl _ w5).alloc (Nat.le_refl _) _, by simp⟩
      generalize w5.alloc (.cells #[.string C, .int .i64 (m : Int), .string E, .int .i64 (n : Int)] 26) = w6 at HT ⊢
      have HX6_0 : Hid (DkAt w6 D a x b y) := HX5_0.out.below HT.out.2.1 HX5_0.out.lt
      have HX6_1 : Hid (DkAt w6 X ⟨#[]⟩ 0 ⟨#[97, 98]⟩ 0) := HX5_1.out.below HT.out.2.1 HX5_1.out.lt
      have HX6_2 : Hid (DkAt w6 Y A x B y) := HX5_2.out.below HT.out.2.1 HX5_2.out.lt
      have HB6 : Hid (Below D w w6) := HB5.out.trans (HT.out.2.1.mono (by have := HX5_0.out.lt; omega))
      clear hl0 c0_0 c0_1 c0_2 c0_3 f0_0 f0_1 f0_2 f0_3 hl1 c1_0 c1_1 c1_2 c1_3 f1_0 f1_1 f1_2 f1_3 hl2 c2_0 c2_1 c2_2 c2_3 f2_0 f2_1 f2_2 f2_3
      have hlast := HX5_2.out.lt
      obtain ⟨Z, hZ⟩ : ∃ g, w5.heap.size = g := ⟨_, rfl⟩
      rw [hZ] at HT hlast ⊢
      have HX6_3 : Hid (DkAt w6 Z C (m : Int) E (n : Int)) := HT.out.1
      have HOS : Hid (D < X ∧ X < Y ∧ Y < Z) := by have := HOS.out; refine ⟨?_, ?_, ?_⟩ <;> omega
      clear hZ HT hlast
      have hz7_0 := HX6_0.out.lt
      have hz7_1 := HX6_1.out.lt
      have hz7_2 := HX6_2.out.lt
      have hz7_3 := HX6_3.out.lt
      with_reducible refine (HC2.out _).mono ?_
      rintro e w7 ⟨rfl, hb7⟩
      have HX7_0 : Hid (DkAt w7 D a x b y) := HX6_0.out.below hb7 (by omega)
      have HX7_1 : Hid (DkAt w7 X ⟨#[]⟩ 0 ⟨#[97, 98]⟩ 0) := HX6_1.out.below hb7 (by omega)
      have HX7_2 : Hid (DkAt w7 Y A x B y) := HX6_2.out.below hb7 (by omega)
      have HX7_3 : Hid (DkAt w7 Z C (m : Int) E (n : Int)) := HX6_3.out.below hb7 (by omega)
      have HB7 : Hid (Below D w w7) := HB6.out.trans (hb7.mono (by omega))
      clear hz7_0 hz7_1 hz7_2 hz7_3 hb7
      have hl0 := HX7_0.out.lt
      obtain ⟨c0_0, c0_1, c0_2, c0_3⟩ := HX7_0.out.cells
      obtain ⟨f0_0, f0_1, f0_2, f0_3⟩ := HX7_0.out.free
      have hl1 := HX7_1.out.lt
      obtain ⟨c1_0, c1_1, c1_2, c1_3⟩ := HX7_1.out.cells
      obtain ⟨f1_0, f1_1, f1_2, f1_3⟩ := HX7_1.out.free
      have hl2 := HX7_2.out.lt
      obtain ⟨c2_0, c2_1, c2_2, c2_3⟩ := HX7_2.out.cells
      obtain ⟨f2_0, f2_1, f2_2, f2_3⟩ := HX7_2.out.free
      have hl3 := HX7_3.out.lt
      obtain ⟨c3_0, c3_1, c3_2, c3_3⟩ := HX7_3.out.cells
      obtain ⟨f3_0, f3_1, f3_2, f3_3⟩ := HX7_3.out.free
      go_wp2_with fail
      have HT : Hid (DkAt (w7.alloc (.cells #[.string C, .int .i64 (m : Int), .string E, .int .i64 (n : Int)] 26)) w7.heap.size C (m : Int) E (n : Int) ∧ Below w7.heap.size w7 (w7.alloc (.cells #[.string C, .int .i64 (m : Int), .string E, .int .i64 (n : Int)] 26)) ∧ w7.heap.size < (w7.alloc (.cells #[.string C, .int .i64 (m : Int), .string E, .int .i64 (n : Int)] 26)).heap.size) := ⟨Deep.blk_alloc_new w7 _, (Below.refl _ w7).alloc (Nat.le_refl _) _, by simp⟩
      generalize w7.alloc (.cells #[.string C, .int .i64 (m : Int), .string E, .int .i64 (n : Int)] 26) = w8 at HT ⊢
      have HX8_0 : Hid (DkAt w8 D a x b y) := HX7_0.out.below HT.out.2.1 HX7_0.out.lt
      have HX8_1 : Hid (DkAt w8 X ⟨#[]⟩ 0 ⟨#[97, 98]⟩ 0) := HX7_1.out.below HT.out.2.1 HX7_1.out.lt
      have HX8_2 : Hid (DkAt w8 Y A x B y) := HX7_2.out.below HT.out.2.1 HX7_2.out.lt
      have HX8_3 : Hid (DkAt w8 Z C (m : Int) E (n : Int)) := HX7_3.out.below HT.out.2.1 HX7_3.out.lt
      have HB8 : Hid (Below D w w8) := HB7.out.trans (HT.out.2.1.mono (by have := HX7_0.out.lt; omega))
      clear hl0 c0_0 c0_1 c0_2 c0_3 f0_0 f0_1 f0_2 f0_3 hl1 c1_0 c1_1 c1_2 c1_3 f1_0 f1_1 f1_2 f1_3 hl2 c2_0 c2_1 c2_2 c2_3 f2_0 f2_1 f2_2 f2_3 hl3 c3_0 c3_1 c3_2 c3_3 f3_0 f3_1 f3_2 f3_3
      have hlast := HX7_3.out.lt
      obtain ⟨U, hU⟩ : ∃ g, w7.heap.size = g := ⟨_, rfl⟩
      rw [hU] at HT hlast ⊢
      have HX8_4 : Hid (DkAt w8 U C (m : Int) E (n : Int)) := HT.out.1
      have HOS : Hid (D < X ∧ X < Y ∧ Y < Z ∧ Z < U) := by have := HOS.out; refine ⟨?_, ?_, ?_, ?_⟩ <;> omega
      clear hU HT hlast
      have HOY : Hid (D < Y ∧ Y < Z) := by have := HOS.out; refine ⟨?_, ?_⟩ <;> omega
      have hi0 := ix0 C (m : Int) E (n : Int)
      have hi1 := ix1 C (m : Int) E (n : Int)
      go_loopw [76] (fun i wr => (i = .int .i64 0 ∨ i = .int .i64 1 ∨ i = .int .i64 2) ∧ DkAt wr Y A x B y ∧ DkAt wr Z C (m : Int) E (n : Int) ∧ Below D w wr) (fun i _ => 2 - (intOf i).toNat)
      case atStart => exact ⟨.inl rfl, HX8_2.out, HX8_3.out, HB8.out⟩
      case round =>
        rename World => wr
        obtain ⟨hk3, hx, hz, hbw⟩ := hrel
        have HY0 : Hid (DkAt wr Y A x B y) := hx
        have HZ0 : Hid (DkAt wr Z C (m : Int) E (n : Int)) := hz
        have HBw : Hid (Below D w wr) := hbw
        clear hx hz hbw
        have hl0 := HY0.out.lt
        have hl1 := HZ0.out.lt
        obtain ⟨c0_0, c0_1, c0_2, c0_3⟩ := HY0.out.cells
        obtain ⟨f0_0, f0_1, f0_2, f0_3⟩ := HY0.out.free
        obtain ⟨c1_0, c1_1, c1_2, c1_3⟩ := HZ0.out.cells
        obtain ⟨f1_0, f1_1, f1_2, f1_3⟩ := HZ0.out.free
        rcases hk3 with rfl | rfl | rfl
        · have e1 := HX1.out.1
          have e2 := HX3.out.1
          have g0 : ¬ (m : Int) < x := by omega
          have g1 : ¬ (A.size : Int) < (m : Int) := by omega
          have g2 : (m : Int) ≤ (A.size : Int) := by omega
          have g3 : (0 : Int) ≤ (m : Int) := by omega
          go_wp2_with fail
          go_quiet (fail)
          rename Nat => nq
          have hby : Below wr.heap.size wr ((wr.alloc (.cells #[.string C, .int .i64 (m : Int)] 23)).drewN nq) := below_drewN ((Below.refl _ wr).alloc (Nat.le_refl _) _) nq
          have HBy : Hid _ := hby
          clear hby
          generalize (wr.alloc (.cells #[.string C, .int .i64 (m : Int)] 23)).drewN nq = w5 at HBy ⊢
          go_wp2_with fail
          go_roundw
          case rel => exact ⟨.inr (.inl rfl), HY0.out.below HBy.out HY0.out.lt, HZ0.out.below HBy.out HZ0.out.lt, HBw.out.trans (HBy.out.mono (by have := HOY.out; omega))⟩
          case measure => simp [intOf]
        · have e1 := HX1.out.2
          have e2 := HX3.out.2
          have g0 : ¬ (n : Int) < y := by omega
          have g1 : ¬ (B.size : Int) < (n : Int) := by omega
          have g2 : (n : Int) ≤ (B.size : Int) := by omega
          have g3 : (0 : Int) ≤ (n : Int) := by omega
          go_wp2_with fail
          go_quiet (fail)
          rename Nat => nq
          have hby : Below wr.heap.size wr ((wr.alloc (.cells #[.string E, .int .i64 (n : Int)] 23)).drewN nq) := below_drewN ((Below.refl _ wr).alloc (Nat.le_refl _) _) nq
          have HBy : Hid _ := hby
          clear hby
          generalize (wr.alloc (.cells #[.string E, .int .i64 (n : Int)] 23)).drewN nq = w5 at HBy ⊢
          go_wp2_with fail
          go_roundw
          case rel => exact ⟨.inr (.inr rfl), HY0.out.below HBy.out HY0.out.lt, HZ0.out.below HBy.out HZ0.out.lt, HBw.out.trans (HBy.out.mono (by have := HOY.out; omega))⟩
          case measure => simp [intOf]
        · skip
          clear hl0 c0_0 c0_1 c0_2 c0_3 f0_0 f0_1 f0_2 f0_3 hl1 c1_0 c1_1 c1_2 c1_3 f1_0 f1_1 f1_2 f1_3 HX0_0 HB0
          have hl0 := HY0.out.lt
          have hl1 := HZ0.out.lt
          have HOS : Hid (D < Y ∧ Y < Z) := HOY.out
          have HX0_0 : Hid (DkAt wr Y A x B y) := HY0.out
          have HX0_1 : Hid (DkAt wr Z C (m : Int) E (n : Int)) := HZ0.out
          have HB0 : Hid (Below D w wr) := HBw.out
          obtain ⟨c0_0, c0_1, c0_2, c0_3⟩ := HY0.out.cells
          go_wp2_with fail
          clear hl0 hl1 c0_0 c0_1 c0_2 c0_3
          obtain ⟨hYZ, hDY⟩ : Y < Z ∧ D < Y := ⟨HOY.out.2, HOY.out.1⟩
          generalize hw0 : wr = w0' at HX0_0 HX0_1 HB0 ⊢
          clear hw0
          have hz1_0 := HX0_0.out.lt
          have hz1_1 := HX0_1.out.lt
          with_reducible refine (HSy.out _).mono ?_
          rintro e v1 ⟨rfl, hb1⟩
          have HX1_0 : Hid (DkAt v1 Y A x B y) := HX0_0.out.below hb1 (by omega)
          have HX1_1 : Hid (DkAt v1 Z C (m : Int) E (n : Int)) := HX0_1.out.below hb1 (by omega)
          have HB1 : Hid (Below D w v1) := HB0.out.trans (hb1.mono (by omega))
          clear hz1_0 hz1_1 hb1
          have hl0 := HX1_0.out.lt
          obtain ⟨c0_0, c0_1, c0_2, c0_3⟩ := HX1_0.out.cells
          obtain ⟨f0_0, f0_1, f0_2, f0_3⟩ := HX1_0.out.free
          have hl1 := HX1_1.out.lt
          obtain ⟨c1_0, c1_1, c1_2, c1_3⟩ := HX1_1.out.cells
          obtain ⟨f1_0, f1_1, f1_2, f1_3⟩ := HX1_1.out.free
          go_wp2_with fail
          have HX2_0 : Hid (DkAt ((((v1.setCell ⟨Y, 0, none⟩ (.string A)).setCell ⟨Y, 1, none⟩ (.int .i64 x)).setCell ⟨Y, 2, none⟩ (.string B)).setCell ⟨Y, 3, none⟩ (.int .i64 B.size)) Y A x B B.size) := (((HX1_0.out.put0 _).put1 _).put2 _).put3 _
          have HX2_1 : Hid (DkAt ((((v1.setCell ⟨Y, 0, none⟩ (.string A)).setCell ⟨Y, 1, none⟩ (.int .i64 x)).setCell ⟨Y, 2, none⟩ (.string B)).setCell ⟨Y, 3, none⟩ (.int .i64 B.size)) Z C (m : Int) E (n : Int)) := (((HX1_1.out.other (p := ⟨Y, 0, none⟩) _ (by exact Nat.ne_of_gt hYZ)).other (p := ⟨Y, 1, none⟩) _ (by exact Nat.ne_of_gt hYZ)).other (p := ⟨Y, 2, none⟩) _ (by exact Nat.ne_of_gt hYZ)).other (p := ⟨Y, 3, none⟩) _ (by exact Nat.ne_of_gt hYZ)
          have HB2 : Hid (Below D w ((((v1.setCell ⟨Y, 0, none⟩ (.string A)).setCell ⟨Y, 1, none⟩ (.int .i64 x)).setCell ⟨Y, 2, none⟩ (.string B)).setCell ⟨Y, 3, none⟩ (.int .i64 B.size))) := below_four HB1.out (by omega) _ _ _ _
          clear hl0 c0_0 c0_1 c0_2 c0_3 f0_0 f0_1 f0_2 f0_3 hl1 c1_0 c1_1 c1_2 c1_3 f1_0 f1_1 f1_2 f1_3
          generalize ((((v1.setCell ⟨Y, 0, none⟩ (.string A)).setCell ⟨Y, 1, none⟩ (.int .i64 x)).setCell ⟨Y, 2, none⟩ (.string B)).setCell ⟨Y, 3, none⟩ (.int .i64 B.size)) = v2 at HX2_0 HX2_1 HB2 ⊢
          have hz3_0 := HX2_0.out.lt
          have hz3_1 := HX2_1.out.lt
          with_reducible refine (HC3.out _).mono ?_
          rintro e v3 ⟨rfl, hb3⟩
          have HX3_0 : Hid (DkAt v3 Y A x B B.size) := HX2_0.out.below hb3 (by omega)
          have HX3_1 : Hid (DkAt v3 Z C (m : Int) E (n : Int)) := HX2_1.out.below hb3 (by omega)
          have HB3 : Hid (Below D w v3) := HB2.out.trans (hb3.mono (by omega))
          clear hz3_0 hz3_1 hb3
          have hl0 := HX3_0.out.lt
          obtain ⟨c0_0, c0_1, c0_2, c0_3⟩ := HX3_0.out.cells
          obtain ⟨f0_0, f0_1, f0_2, f0_3⟩ := HX3_0.out.free
          have hl1 := HX3_1.out.lt
          obtain ⟨c1_0, c1_1, c1_2, c1_3⟩ := HX3_1.out.cells
          obtain ⟨f1_0, f1_1, f1_2, f1_3⟩ := HX3_1.out.free
          go_wp2_with fail
          have HX4_0 : Hid (DkAt ((((v3.setCell ⟨Z, 0, none⟩ (.string C')).setCell ⟨Z, 1, none⟩ (.int .i64 (m' : Int))).setCell ⟨Z, 2, none⟩ (.string B)).setCell ⟨Z, 3, none⟩ (.int .i64 (B.size : Int))) Y A x B B.size) := (((HX3_0.out.other (p := ⟨Z, 0, none⟩) _ (by exact Nat.ne_of_lt hYZ)).other (p := ⟨Z, 1, none⟩) _ (by exact Nat.ne_of_lt hYZ)).other (p := ⟨Z, 2, none⟩) _ (by exact Nat.ne_of_lt hYZ)).other (p := ⟨Z, 3, none⟩) _ (by exact Nat.ne_of_lt hYZ)
          have HX4_1 : Hid (DkAt ((((v3.setCell ⟨Z, 0, none⟩ (.string C')).setCell ⟨Z, 1, none⟩ (.int .i64 (m' : Int))).setCell ⟨Z, 2, none⟩ (.string B)).setCell ⟨Z, 3, none⟩ (.int .i64 (B.size : Int))) Z C' (m' : Int) B (B.size : Int)) := (((HX3_1.out.put0 _).put1 _).put2 _).put3 _
          have HB4 : Hid (Below D w ((((v3.setCell ⟨Z, 0, none⟩ (.string C')).setCell ⟨Z, 1, none⟩ (.int .i64 (m' : Int))).setCell ⟨Z, 2, none⟩ (.string B)).setCell ⟨Z, 3, none⟩ (.int .i64 (B.size : Int)))) := below_four HB3.out (by omega) _ _ _ _
          clear hl0 c0_0 c0_1 c0_2 c0_3 f0_0 f0_1 f0_2 f0_3 hl1 c1_0 c1_1 c1_2 c1_3 f1_0 f1_1 f1_2 f1_3
          generalize ((((v3.setCell ⟨Z, 0, none⟩ (.string C')).setCell ⟨Z, 1, none⟩ (.int .i64 (m' : Int))).setCell ⟨Z, 2, none⟩ (.string B)).setCell ⟨Z, 3, none⟩ (.int .i64 (B.size : Int))) = v4 at HX4_0 HX4_1 HB4 ⊢
          have hl0 := HX4_0.out.lt
          obtain ⟨c0_0, c0_1, c0_2, c0_3⟩ := HX4_0.out.cells
          obtain ⟨f0_0, f0_1, f0_2, f0_3⟩ := HX4_0.out.free
          have hl1 := HX4_1.out.lt
          obtain ⟨c1_0, c1_1, c1_2, c1_3⟩ := HX4_1.out.cells
          obtain ⟨f1_0, f1_1, f1_2, f1_3⟩ := HX4_1.out.free
          go_wp2_with fail
          go_quiet (fail)
          rename Nat => nq
          go_wp2_with fail
          go_ret
          exact ⟨rfl, by rw [HW.out]; exact below_drewN HB4.out _⟩
end Go.Proofs.Ytkihanmodfnpcaa
