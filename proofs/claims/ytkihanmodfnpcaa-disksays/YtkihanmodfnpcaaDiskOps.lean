/- What disk.Append, Sync and Trim answer. -/
import Derived.Test.YtkihanmodfnpcaaDiskOf
namespace Go.Proofs.Ytkihanmodfnpcaa
open Go.RowKit
set_option linter.unusedSimpArgs false
set_option linter.unusedVariables false

abbrev dk0 : Value := .agg #[.string ⟨#[]⟩, .int .i64 0, .string ⟨#[]⟩, .int .i64 0]
theorem below_four {w w' : World} {B g : Nat} (h : Below B w w') (hg : B ≤ g) (v0 v1 v2 v3 : Value) : Below B w ((((w'.setCell ⟨g, 0, none⟩ v0).setCell ⟨g, 1, none⟩ v1).setCell ⟨g, 2, none⟩ v2).setCell ⟨g, 3, none⟩ v3) :=
  (((h.setCell (p := ⟨g, 0, none⟩) hg _).setCell (p := ⟨g, 1, none⟩) hg _).setCell (p := ⟨g, 2, none⟩) hg _).setCell (p := ⟨g, 3, none⟩) hg _

set_option maxRecDepth 20000 in
set_option maxHeartbeats 1000000 in
theorem DAppend_err (a : ByteArray) (x : Int) (b : ByteArray) (y : Int) (s : ByteArray) (i q : Int) (h : dksE a x b y i = q) (hq : q ≠ 0) (w : World) (ha : a.size ≤ 9223372036854775807) (hb : b.size ≤ 9223372036854775807) (hs : s.size ≤ 9223372036854775807) :
    Calls Try.prog 9 #[dkV a x b y, .int .i64 i, .string s] w fun e w' => e = .returned (.tuple #[dk0, .int .i64 q]) ∧ Below w.heap.size w w' := by
  have hq' : (q != 0) = true := by simp [hq]
  clear hq
  have HC : Hid _ := fun w => DSlot_any a x b y i w ha hb
  rw [h] at HC
  have HT : Hid _ := dk_two w a x b y
  go_enter Try.func9, Try.ntmps9
  go_wp2_with fail
  generalize (w.alloc (.cells #[.string a, .int .i64 x, .string b, .int .i64 y] 26)).alloc (.cells #[.string ⟨#[]⟩, .int .i64 0, .string ⟨#[]⟩, .int .i64 0] 26) = W at HT ⊢
  obtain ⟨B, hB⟩ : ∃ B, w.heap.size = B := ⟨_, rfl⟩
  rw [hB] at HT ⊢
  have HW : Hid (w.heap.size = B) := hB
  have hz := HT.out.2.1.lt
  clear hB
  refine (HC.out _).mono ?_
  rintro e w1 ⟨rfl, hb1⟩
  have HD1 : Hid (DkAt w1 B a x b y) := HT.out.1.below hb1 (by omega)
  have HR1 : Hid (DkAt w1 (B + 1) ⟨#[]⟩ 0 ⟨#[]⟩ 0) := HT.out.2.1.below hb1 hz
  have HB1 : Hid (Below B w w1) := HT.out.2.2.trans (hb1.mono (by omega))
  have hz1 := HR1.out.lt
  clear hb1
  obtain ⟨c0, c1, c2, c3⟩ := HD1.out.cells
  obtain ⟨f0, f1, f2, f3⟩ := HD1.out.free
  obtain ⟨d0, d1, d2, d3⟩ := HR1.out.cells
  obtain ⟨g0, g1, g2, g3⟩ := HR1.out.free
  go_wp2_with fail
  refine bodyPost_ret (v := .tuple #[dk0, .int .i64 q]) (by simp [results, Try.results9, go_sem, *]) rfl ⟨rfl, ?_⟩
  rw [HW.out]
  exact below_four HB1.out (by omega) _ _ _ _

set_option maxRecDepth 20000 in
set_option maxHeartbeats 1000000 in
theorem DAppend_big0 (a : ByteArray) (x : Int) (b : ByteArray) (y : Int) (s : ByteArray) (h : dksE a x b y 0 = 0) (hbig : 1048576 < a.size + s.size) (w : World) (ha : a.size ≤ 9223372036854775807) (hb : b.size ≤ 9223372036854775807) (hs : s.size ≤ 9223372036854775807) :
    Calls Try.prog 9 #[dkV a x b y, .int .i64 0, .string s] w fun e w' => e = .returned (.tuple #[dk0, .int .i64 2]) ∧ Below w.heap.size w w' := by
  obtain ⟨k1, k2⟩ := dk_zero (dks_zero h).1
  obtain ⟨m0, m1, m2⟩ := sl_zero k1
  obtain ⟨l0, l1, l2⟩ := sl_zero k2
  have hgt : 1048576 - (a.size : Int) < (s.size : Int) := by omega
  clear k1 k2 hbig
  have HC : Hid _ := fun w => DSlot_any a x b y 0 w ha hb
  rw [h] at HC
  have HT : Hid _ := dk_two w a x b y
  go_enter Try.func9, Try.ntmps9
  go_wp2_with fail
  generalize (w.alloc (.cells #[.string a, .int .i64 x, .string b, .int .i64 y] 26)).alloc (.cells #[.string ⟨#[]⟩, .int .i64 0, .string ⟨#[]⟩, .int .i64 0] 26) = W at HT ⊢
  obtain ⟨B, hB⟩ : ∃ B, w.heap.size = B := ⟨_, rfl⟩
  rw [hB] at HT ⊢
  have HW : Hid (w.heap.size = B) := hB
  have hz := HT.out.2.1.lt
  clear hB
  refine (HC.out _).mono ?_
  rintro e w1 ⟨rfl, hb1⟩
  have HD1 : Hid (DkAt w1 B a x b y) := HT.out.1.below hb1 (by omega)
  have HR1 : Hid (DkAt w1 (B + 1) ⟨#[]⟩ 0 ⟨#[]⟩ 0) := HT.out.2.1.below hb1 hz
  have HB1 : Hid (Below B w w1) := HT.out.2.2.trans (hb1.mono (by omega))
  have hz1 := HR1.out.lt
  clear hb1
  obtain ⟨c0, c1, c2, c3⟩ := HD1.out.cells
  obtain ⟨f0, f1, f2, f3⟩ := HD1.out.free
  obtain ⟨d0, d1, d2, d3⟩ := HR1.out.cells
  obtain ⟨g0, g1, g2, g3⟩ := HR1.out.free
  go_wp2_with fail
  refine bodyPost_ret (v := .tuple #[dk0, .int .i64 2]) (by simp [results, Try.results9, go_sem, *]) rfl ⟨rfl, ?_⟩
  rw [HW.out]
  exact below_four HB1.out (by omega) _ _ _ _

set_option maxRecDepth 20000 in
set_option maxHeartbeats 1000000 in
theorem DAppend_ok0 (a : ByteArray) (x : Int) (b : ByteArray) (y : Int) (s : ByteArray) (h : dksE a x b y 0 = 0) (hfit : a.size + s.size ≤ 1048576) (w : World) (ha : a.size ≤ 9223372036854775807) (hb : b.size ≤ 9223372036854775807) (hs : s.size ≤ 9223372036854775807) :
    Calls Try.prog 9 #[dkV a x b y, .int .i64 0, .string s] w fun e w' => e = .returned (.tuple #[dkV (a ++ s) x b y, .int .i64 0]) ∧ Below w.heap.size w w' := by
  obtain ⟨k1, k2⟩ := dk_zero (dks_zero h).1
  obtain ⟨m0, m1, m2⟩ := sl_zero k1
  obtain ⟨l0, l1, l2⟩ := sl_zero k2
  have hgt : ¬ 1048576 - (a.size : Int) < (s.size : Int) := by omega
  have hsz : (a ++ s).size ≤ 1048576 := by rw [ByteArray.size_append]; exact hfit
  have HK : Hid _ := fun w => copied_any (a ++ s) x b y w (by omega) (by omega)
  clear k1 k2 hsz
  have HC : Hid _ := fun w => DSlot_any a x b y 0 w ha hb
  rw [h] at HC
  have HT : Hid _ := dk_two w a x b y
  go_enter Try.func9, Try.ntmps9
  go_wp2_with fail
  generalize (w.alloc (.cells #[.string a, .int .i64 x, .string b, .int .i64 y] 26)).alloc (.cells #[.string ⟨#[]⟩, .int .i64 0, .string ⟨#[]⟩, .int .i64 0] 26) = W at HT ⊢
  obtain ⟨B, hB⟩ : ∃ B, w.heap.size = B := ⟨_, rfl⟩
  rw [hB] at HT ⊢
  have HW : Hid (w.heap.size = B) := hB
  have hz := HT.out.2.1.lt
  clear hB
  refine (HC.out _).mono ?_
  rintro e w1 ⟨rfl, hb1⟩
  have HD1 : Hid (DkAt w1 B a x b y) := HT.out.1.below hb1 (by omega)
  have HR1 : Hid (DkAt w1 (B + 1) ⟨#[]⟩ 0 ⟨#[]⟩ 0) := HT.out.2.1.below hb1 hz
  have HB1 : Hid (Below B w w1) := HT.out.2.2.trans (hb1.mono (by omega))
  have hz1 := HR1.out.lt
  clear hb1
  obtain ⟨c0, c1, c2, c3⟩ := HD1.out.cells
  obtain ⟨f0, f1, f2, f3⟩ := HD1.out.free
  go_wp2_with fail
  refine (HK.out _).mono ?_
  rintro e w2 ⟨rfl, hb2⟩
  have HR2 : Hid (DkAt w2 (B + 1) ⟨#[]⟩ 0 ⟨#[]⟩ 0) := (HR1.out.other _ (by simp)).below hb2 (by simp; omega)
  have HB2 : Hid (Below B w w2) := (HB1.out.setCell (p := ⟨B, 0, none⟩) (Nat.le_refl _) _).trans (hb2.mono (by simp; omega))
  clear hb2 c0 c1 c2 c3 f0 f1 f2 f3
  obtain ⟨d0, d1, d2, d3⟩ := HR2.out.cells
  obtain ⟨g0, g1, g2, g3⟩ := HR2.out.free
  go_wp2_with fail
  refine bodyPost_ret (v := .tuple #[dkV (a ++ s) x b y, .int .i64 0]) (by simp [results, Try.results9, go_sem, *]) rfl ⟨rfl, ?_⟩
  rw [HW.out]
  exact below_four HB2.out (by omega) _ _ _ _

set_option maxRecDepth 20000 in
set_option maxHeartbeats 1000000 in
theorem DAppend_big1 (a : ByteArray) (x : Int) (b : ByteArray) (y : Int) (s : ByteArray) (h : dksE a x b y 1 = 0) (hbig : 1048576 < b.size + s.size) (w : World) (ha : a.size ≤ 9223372036854775807) (hb : b.size ≤ 9223372036854775807) (hs : s.size ≤ 9223372036854775807) :
    Calls Try.prog 9 #[dkV a x b y, .int .i64 1, .string s] w fun e w' => e = .returned (.tuple #[dk0, .int .i64 2]) ∧ Below w.heap.size w w' := by
  obtain ⟨k1, k2⟩ := dk_zero (dks_zero h).1
  obtain ⟨m0, m1, m2⟩ := sl_zero k2
  obtain ⟨l0, l1, l2⟩ := sl_zero k1
  have hgt : 1048576 - (b.size : Int) < (s.size : Int) := by omega
  clear k1 k2 hbig
  have HC : Hid _ := fun w => DSlot_any a x b y 1 w ha hb
  rw [h] at HC
  have HT : Hid _ := dk_two w a x b y
  go_enter Try.func9, Try.ntmps9
  go_wp2_with fail
  generalize (w.alloc (.cells #[.string a, .int .i64 x, .string b, .int .i64 y] 26)).alloc (.cells #[.string ⟨#[]⟩, .int .i64 0, .string ⟨#[]⟩, .int .i64 0] 26) = W at HT ⊢
  obtain ⟨B, hB⟩ : ∃ B, w.heap.size = B := ⟨_, rfl⟩
  rw [hB] at HT ⊢
  have HW : Hid (w.heap.size = B) := hB
  have hz := HT.out.2.1.lt
  clear hB
  refine (HC.out _).mono ?_
  rintro e w1 ⟨rfl, hb1⟩
  have HD1 : Hid (DkAt w1 B a x b y) := HT.out.1.below hb1 (by omega)
  have HR1 : Hid (DkAt w1 (B + 1) ⟨#[]⟩ 0 ⟨#[]⟩ 0) := HT.out.2.1.below hb1 hz
  have HB1 : Hid (Below B w w1) := HT.out.2.2.trans (hb1.mono (by omega))
  have hz1 := HR1.out.lt
  clear hb1
  obtain ⟨c0, c1, c2, c3⟩ := HD1.out.cells
  obtain ⟨f0, f1, f2, f3⟩ := HD1.out.free
  obtain ⟨d0, d1, d2, d3⟩ := HR1.out.cells
  obtain ⟨g0, g1, g2, g3⟩ := HR1.out.free
  go_wp2_with fail
  refine bodyPost_ret (v := .tuple #[dk0, .int .i64 2]) (by simp [results, Try.results9, go_sem, *]) rfl ⟨rfl, ?_⟩
  rw [HW.out]
  exact below_four HB1.out (by omega) _ _ _ _

set_option maxRecDepth 20000 in
set_option maxHeartbeats 1000000 in
theorem DAppend_ok1 (a : ByteArray) (x : Int) (b : ByteArray) (y : Int) (s : ByteArray) (h : dksE a x b y 1 = 0) (hfit : b.size + s.size ≤ 1048576) (w : World) (ha : a.size ≤ 9223372036854775807) (hb : b.size ≤ 9223372036854775807) (hs : s.size ≤ 9223372036854775807) :
    Calls Try.prog 9 #[dkV a x b y, .int .i64 1, .string s] w fun e w' => e = .returned (.tuple #[dkV a x (b ++ s) y, .int .i64 0]) ∧ Below w.heap.size w w' := by
  obtain ⟨k1, k2⟩ := dk_zero (dks_zero h).1
  obtain ⟨m0, m1, m2⟩ := sl_zero k2
  obtain ⟨l0, l1, l2⟩ := sl_zero k1
  have hgt : ¬ 1048576 - (b.size : Int) < (s.size : Int) := by omega
  have hsz : (b ++ s).size ≤ 1048576 := by rw [ByteArray.size_append]; exact hfit
  have HK : Hid _ := fun w => copied_any a x (b ++ s) y w (by omega) (by omega)
  clear k1 k2 hsz
  have HC : Hid _ := fun w => DSlot_any a x b y 1 w ha hb
  rw [h] at HC
  have HT : Hid _ := dk_two w a x b y
  go_enter Try.func9, Try.ntmps9
  go_wp2_with fail
  generalize (w.alloc (.cells #[.string a, .int .i64 x, .string b, .int .i64 y] 26)).alloc (.cells #[.string ⟨#[]⟩, .int .i64 0, .string ⟨#[]⟩, .int .i64 0] 26) = W at HT ⊢
  obtain ⟨B, hB⟩ : ∃ B, w.heap.size = B := ⟨_, rfl⟩
  rw [hB] at HT ⊢
  have HW : Hid (w.heap.size = B) := hB
  have hz := HT.out.2.1.lt
  clear hB
  refine (HC.out _).mono ?_
  rintro e w1 ⟨rfl, hb1⟩
  have HD1 : Hid (DkAt w1 B a x b y) := HT.out.1.below hb1 (by omega)
  have HR1 : Hid (DkAt w1 (B + 1) ⟨#[]⟩ 0 ⟨#[]⟩ 0) := HT.out.2.1.below hb1 hz
  have HB1 : Hid (Below B w w1) := HT.out.2.2.trans (hb1.mono (by omega))
  have hz1 := HR1.out.lt
  clear hb1
  obtain ⟨c0, c1, c2, c3⟩ := HD1.out.cells
  obtain ⟨f0, f1, f2, f3⟩ := HD1.out.free
  go_wp2_with fail
  refine (HK.out _).mono ?_
  rintro e w2 ⟨rfl, hb2⟩
  have HR2 : Hid (DkAt w2 (B + 1) ⟨#[]⟩ 0 ⟨#[]⟩ 0) := (HR1.out.other _ (by simp)).below hb2 (by simp; omega)
  have HB2 : Hid (Below B w w2) := (HB1.out.setCell (p := ⟨B, 2, none⟩) (Nat.le_refl _) _).trans (hb2.mono (by simp; omega))
  clear hb2 c0 c1 c2 c3 f0 f1 f2 f3
  obtain ⟨d0, d1, d2, d3⟩ := HR2.out.cells
  obtain ⟨g0, g1, g2, g3⟩ := HR2.out.free
  go_wp2_with fail
  refine bodyPost_ret (v := .tuple #[dkV a x (b ++ s) y, .int .i64 0]) (by simp [results, Try.results9, go_sem, *]) rfl ⟨rfl, ?_⟩
  rw [HW.out]
  exact below_four HB2.out (by omega) _ _ _ _

set_option maxRecDepth 20000 in
set_option maxHeartbeats 1000000 in
theorem DSync_err (a : ByteArray) (x : Int) (b : ByteArray) (y : Int)  (i q : Int) (h : dksE a x b y i = q) (hq : q ≠ 0) (w : World) (ha : a.size ≤ 9223372036854775807) (hb : b.size ≤ 9223372036854775807) :
    Calls Try.prog 10 #[dkV a x b y, .int .i64 i] w fun e w' => e = .returned (.tuple #[dk0, .int .i64 q]) ∧ Below w.heap.size w w' := by
  have hq' : (q != 0) = true := by simp [hq]
  clear hq
  have HC : Hid _ := fun w => DSlot_any a x b y i w ha hb
  rw [h] at HC
  have HT : Hid _ := dk_two w a x b y
  go_enter Try.func10, Try.ntmps10
  go_wp2_with fail
  generalize (w.alloc (.cells #[.string a, .int .i64 x, .string b, .int .i64 y] 26)).alloc (.cells #[.string ⟨#[]⟩, .int .i64 0, .string ⟨#[]⟩, .int .i64 0] 26) = W at HT ⊢
  obtain ⟨B, hB⟩ : ∃ B, w.heap.size = B := ⟨_, rfl⟩
  rw [hB] at HT ⊢
  have HW : Hid (w.heap.size = B) := hB
  have hz := HT.out.2.1.lt
  clear hB
  refine (HC.out _).mono ?_
  rintro e w1 ⟨rfl, hb1⟩
  have HD1 : Hid (DkAt w1 B a x b y) := HT.out.1.below hb1 (by omega)
  have HR1 : Hid (DkAt w1 (B + 1) ⟨#[]⟩ 0 ⟨#[]⟩ 0) := HT.out.2.1.below hb1 hz
  have HB1 : Hid (Below B w w1) := HT.out.2.2.trans (hb1.mono (by omega))
  have hz1 := HR1.out.lt
  clear hb1
  obtain ⟨c0, c1, c2, c3⟩ := HD1.out.cells
  obtain ⟨f0, f1, f2, f3⟩ := HD1.out.free
  obtain ⟨d0, d1, d2, d3⟩ := HR1.out.cells
  obtain ⟨g0, g1, g2, g3⟩ := HR1.out.free
  go_wp2_with fail
  refine bodyPost_ret (v := .tuple #[dk0, .int .i64 q]) (by simp [results, Try.results10, go_sem, *]) rfl ⟨rfl, ?_⟩
  rw [HW.out]
  exact below_four HB1.out (by omega) _ _ _ _

set_option maxRecDepth 20000 in
set_option maxHeartbeats 1000000 in
theorem DSync_ok0 (a : ByteArray) (x : Int) (b : ByteArray) (y : Int)  (h : dksE a x b y 0 = 0) (w : World) (ha : a.size ≤ 9223372036854775807) (hb : b.size ≤ 9223372036854775807) :
    Calls Try.prog 10 #[dkV a x b y, .int .i64 0] w fun e w' => e = .returned (.tuple #[dkV a a.size b y, .int .i64 0]) ∧ Below w.heap.size w w' := by
  obtain ⟨k1, k2⟩ := dk_zero (dks_zero h).1
  obtain ⟨m0, m1, m2⟩ := sl_zero k1
  obtain ⟨l0, l1, l2⟩ := sl_zero k2
  have HK : Hid _ := fun w => copied_any a a.size b y w (by omega) (by omega)
  clear k1 k2
  have HC : Hid _ := fun w => DSlot_any a x b y 0 w ha hb
  rw [h] at HC
  have HT : Hid _ := dk_two w a x b y
  go_enter Try.func10, Try.ntmps10
  go_wp2_with fail
  generalize (w.alloc (.cells #[.string a, .int .i64 x, .string b, .int .i64 y] 26)).alloc (.cells #[.string ⟨#[]⟩, .int .i64 0, .string ⟨#[]⟩, .int .i64 0] 26) = W at HT ⊢
  obtain ⟨B, hB⟩ : ∃ B, w.heap.size = B := ⟨_, rfl⟩
  rw [hB] at HT ⊢
  have HW : Hid (w.heap.size = B) := hB
  have hz := HT.out.2.1.lt
  clear hB
  refine (HC.out _).mono ?_
  rintro e w1 ⟨rfl, hb1⟩
  have HD1 : Hid (DkAt w1 B a x b y) := HT.out.1.below hb1 (by omega)
  have HR1 : Hid (DkAt w1 (B + 1) ⟨#[]⟩ 0 ⟨#[]⟩ 0) := HT.out.2.1.below hb1 hz
  have HB1 : Hid (Below B w w1) := HT.out.2.2.trans (hb1.mono (by omega))
  have hz1 := HR1.out.lt
  clear hb1
  obtain ⟨c0, c1, c2, c3⟩ := HD1.out.cells
  obtain ⟨f0, f1, f2, f3⟩ := HD1.out.free
  go_wp2_with fail
  refine (HK.out _).mono ?_
  rintro e w2 ⟨rfl, hb2⟩
  have HR2 : Hid (DkAt w2 (B + 1) ⟨#[]⟩ 0 ⟨#[]⟩ 0) := (HR1.out.other _ (by simp)).below hb2 (by simp; omega)
  have HB2 : Hid (Below B w w2) := (HB1.out.setCell (p := ⟨B, 1, none⟩) (Nat.le_refl _) _).trans (hb2.mono (by simp; omega))
  clear hb2 c0 c1 c2 c3 f0 f1 f2 f3
  obtain ⟨d0, d1, d2, d3⟩ := HR2.out.cells
  obtain ⟨g0, g1, g2, g3⟩ := HR2.out.free
  go_wp2_with fail
  refine bodyPost_ret (v := .tuple #[dkV a a.size b y, .int .i64 0]) (by simp [results, Try.results10, go_sem, *]) rfl ⟨rfl, ?_⟩
  rw [HW.out]
  exact below_four HB2.out (by omega) _ _ _ _

set_option maxRecDepth 20000 in
set_option maxHeartbeats 1000000 in
theorem DSync_ok1 (a : ByteArray) (x : Int) (b : ByteArray) (y : Int)  (h : dksE a x b y 1 = 0) (w : World) (ha : a.size ≤ 9223372036854775807) (hb : b.size ≤ 9223372036854775807) :
    Calls Try.prog 10 #[dkV a x b y, .int .i64 1] w fun e w' => e = .returned (.tuple #[dkV a x b b.size, .int .i64 0]) ∧ Below w.heap.size w w' := by
  obtain ⟨k1, k2⟩ := dk_zero (dks_zero h).1
  obtain ⟨m0, m1, m2⟩ := sl_zero k2
  obtain ⟨l0, l1, l2⟩ := sl_zero k1
  have HK : Hid _ := fun w => copied_any a x b b.size w (by omega) (by omega)
  clear k1 k2
  have HC : Hid _ := fun w => DSlot_any a x b y 1 w ha hb
  rw [h] at HC
  have HT : Hid _ := dk_two w a x b y
  go_enter Try.func10, Try.ntmps10
  go_wp2_with fail
  generalize (w.alloc (.cells #[.string a, .int .i64 x, .string b, .int .i64 y] 26)).alloc (.cells #[.string ⟨#[]⟩, .int .i64 0, .string ⟨#[]⟩, .int .i64 0] 26) = W at HT ⊢
  obtain ⟨B, hB⟩ : ∃ B, w.heap.size = B := ⟨_, rfl⟩
  rw [hB] at HT ⊢
  have HW : Hid (w.heap.size = B) := hB
  have hz := HT.out.2.1.lt
  clear hB
  refine (HC.out _).mono ?_
  rintro e w1 ⟨rfl, hb1⟩
  have HD1 : Hid (DkAt w1 B a x b y) := HT.out.1.below hb1 (by omega)
  have HR1 : Hid (DkAt w1 (B + 1) ⟨#[]⟩ 0 ⟨#[]⟩ 0) := HT.out.2.1.below hb1 hz
  have HB1 : Hid (Below B w w1) := HT.out.2.2.trans (hb1.mono (by omega))
  have hz1 := HR1.out.lt
  clear hb1
  obtain ⟨c0, c1, c2, c3⟩ := HD1.out.cells
  obtain ⟨f0, f1, f2, f3⟩ := HD1.out.free
  go_wp2_with fail
  refine (HK.out _).mono ?_
  rintro e w2 ⟨rfl, hb2⟩
  have HR2 : Hid (DkAt w2 (B + 1) ⟨#[]⟩ 0 ⟨#[]⟩ 0) := (HR1.out.other _ (by simp)).below hb2 (by simp; omega)
  have HB2 : Hid (Below B w w2) := (HB1.out.setCell (p := ⟨B, 3, none⟩) (Nat.le_refl _) _).trans (hb2.mono (by simp; omega))
  clear hb2 c0 c1 c2 c3 f0 f1 f2 f3
  obtain ⟨d0, d1, d2, d3⟩ := HR2.out.cells
  obtain ⟨g0, g1, g2, g3⟩ := HR2.out.free
  go_wp2_with fail
  refine bodyPost_ret (v := .tuple #[dkV a x b b.size, .int .i64 0]) (by simp [results, Try.results10, go_sem, *]) rfl ⟨rfl, ?_⟩
  rw [HW.out]
  exact below_four HB2.out (by omega) _ _ _ _

set_option maxRecDepth 20000 in
set_option maxHeartbeats 1000000 in
theorem DTrim_err (a : ByteArray) (x : Int) (b : ByteArray) (y : Int) (n : Int) (i q : Int) (h : dksE a x b y i = q) (hq : q ≠ 0) (w : World) (ha : a.size ≤ 9223372036854775807) (hb : b.size ≤ 9223372036854775807) :
    Calls Try.prog 11 #[dkV a x b y, .int .i64 i, .int .i64 n] w fun e w' => e = .returned (.tuple #[dk0, .int .i64 q]) ∧ Below w.heap.size w w' := by
  have hq' : (q != 0) = true := by simp [hq]
  clear hq
  have HC : Hid _ := fun w => DSlot_any a x b y i w ha hb
  rw [h] at HC
  have HT : Hid _ := dk_two w a x b y
  go_enter Try.func11, Try.ntmps11
  go_wp2_with fail
  generalize (w.alloc (.cells #[.string a, .int .i64 x, .string b, .int .i64 y] 26)).alloc (.cells #[.string ⟨#[]⟩, .int .i64 0, .string ⟨#[]⟩, .int .i64 0] 26) = W at HT ⊢
  obtain ⟨B, hB⟩ : ∃ B, w.heap.size = B := ⟨_, rfl⟩
  rw [hB] at HT ⊢
  have HW : Hid (w.heap.size = B) := hB
  have hz := HT.out.2.1.lt
  clear hB
  refine (HC.out _).mono ?_
  rintro e w1 ⟨rfl, hb1⟩
  have HD1 : Hid (DkAt w1 B a x b y) := HT.out.1.below hb1 (by omega)
  have HR1 : Hid (DkAt w1 (B + 1) ⟨#[]⟩ 0 ⟨#[]⟩ 0) := HT.out.2.1.below hb1 hz
  have HB1 : Hid (Below B w w1) := HT.out.2.2.trans (hb1.mono (by omega))
  have hz1 := HR1.out.lt
  clear hb1
  obtain ⟨c0, c1, c2, c3⟩ := HD1.out.cells
  obtain ⟨f0, f1, f2, f3⟩ := HD1.out.free
  obtain ⟨d0, d1, d2, d3⟩ := HR1.out.cells
  obtain ⟨g0, g1, g2, g3⟩ := HR1.out.free
  go_wp2_with fail
  refine bodyPost_ret (v := .tuple #[dk0, .int .i64 q]) (by simp [results, Try.results11, go_sem, *]) rfl ⟨rfl, ?_⟩
  rw [HW.out]
  exact below_four HB1.out (by omega) _ _ _ _

set_option maxRecDepth 20000 in
set_option maxHeartbeats 1000000 in
theorem DTrim_arg0 (a : ByteArray) (x : Int) (b : ByteArray) (y : Int) (n : Int) (h : dksE a x b y 0 = 0) (hn : n < 0 ∨ (a.size : Int) < n) (w : World) (ha : a.size ≤ 9223372036854775807) (hb : b.size ≤ 9223372036854775807) :
    Calls Try.prog 11 #[dkV a x b y, .int .i64 0, .int .i64 n] w fun e w' => e = .returned (.tuple #[dk0, .int .i64 1]) ∧ Below w.heap.size w w' := by
  obtain ⟨k1, k2⟩ := dk_zero (dks_zero h).1
  obtain ⟨m0, m1, m2⟩ := sl_zero k1
  obtain ⟨l0, l1, l2⟩ := sl_zero k2
  clear k1 k2
  have HC : Hid _ := fun w => DSlot_any a x b y 0 w ha hb
  rw [h] at HC
  have HT : Hid _ := dk_two w a x b y
  go_enter Try.func11, Try.ntmps11
  go_wp2_with fail
  generalize (w.alloc (.cells #[.string a, .int .i64 x, .string b, .int .i64 y] 26)).alloc (.cells #[.string ⟨#[]⟩, .int .i64 0, .string ⟨#[]⟩, .int .i64 0] 26) = W at HT ⊢
  obtain ⟨B, hB⟩ : ∃ B, w.heap.size = B := ⟨_, rfl⟩
  rw [hB] at HT ⊢
  have HW : Hid (w.heap.size = B) := hB
  have hz := HT.out.2.1.lt
  clear hB
  refine (HC.out _).mono ?_
  rintro e w1 ⟨rfl, hb1⟩
  have HD1 : Hid (DkAt w1 B a x b y) := HT.out.1.below hb1 (by omega)
  have HR1 : Hid (DkAt w1 (B + 1) ⟨#[]⟩ 0 ⟨#[]⟩ 0) := HT.out.2.1.below hb1 hz
  have HB1 : Hid (Below B w w1) := HT.out.2.2.trans (hb1.mono (by omega))
  have hz1 := HR1.out.lt
  clear hb1
  obtain ⟨c0, c1, c2, c3⟩ := HD1.out.cells
  obtain ⟨f0, f1, f2, f3⟩ := HD1.out.free
  obtain ⟨d0, d1, d2, d3⟩ := HR1.out.cells
  obtain ⟨g0, g1, g2, g3⟩ := HR1.out.free
  rcases hn with hn | hn
  · go_wp2_with fail
    refine bodyPost_ret (v := .tuple #[dk0, .int .i64 1]) (by simp [results, Try.results11, go_sem, *]) rfl ⟨rfl, ?_⟩
    rw [HW.out]
    exact below_four HB1.out (by omega) _ _ _ _
  · by_cases hn0 : n < 0
    · clear hn
      go_wp2_with fail
      refine bodyPost_ret (v := .tuple #[dk0, .int .i64 1]) (by simp [results, Try.results11, go_sem, *]) rfl ⟨rfl, ?_⟩
      rw [HW.out]
      exact below_four HB1.out (by omega) _ _ _ _
    · go_wp2_with fail
      refine bodyPost_ret (v := .tuple #[dk0, .int .i64 1]) (by simp [results, Try.results11, go_sem, *]) rfl ⟨rfl, ?_⟩
      rw [HW.out]
      exact below_four HB1.out (by omega) _ _ _ _

set_option maxRecDepth 20000 in
set_option maxHeartbeats 1000000 in
theorem DTrim_ok0 (a : ByteArray) (x : Int) (b : ByteArray) (y : Int) (n : Nat) (h : dksE a x b y 0 = 0) (hn : n ≤ a.size) (w : World) (ha : a.size ≤ 9223372036854775807) (hb : b.size ≤ 9223372036854775807) :
    Calls Try.prog 11 #[dkV a x b y, .int .i64 0, .int .i64 (n : Int)] w fun e w' => e = .returned (.tuple #[dkV (a.extract 0 n) (min x n) b y, .int .i64 0]) ∧ Below w.heap.size w w' := by
  obtain ⟨k1, k2⟩ := dk_zero (dks_zero h).1
  obtain ⟨m0, m1, m2⟩ := sl_zero k1
  obtain ⟨l0, l1, l2⟩ := sl_zero k2
  have hsz : (a.extract 0 n).size ≤ 1048576 := by rw [ByteArray.size_extract]; omega
  obtain ⟨m, hm⟩ : ∃ m, min x (n : Int) = m := ⟨_, rfl⟩
  have hmr : ∀ w : World, (Builtin.min_ #[3, 3] 3 #[.int .i64 x, .int .i64 (n : Int)]).run Try.prog w = .ok (.int .i64 m) w := by
    intro w
    rw [run_min_int2]
    congr 2
    rw [← hm]; split <;> omega
  rw [hm]
  have n0 : ¬ (n : Int) < 0 := by omega
  have n1 : ¬ (a.size : Int) < (n : Int) := by omega
  have HK : Hid _ := fun w => copied_any (a.extract 0 n) m b y w (by omega) (by omega)
  clear k1 k2 hsz hm
  have HC : Hid _ := fun w => DSlot_any a x b y 0 w ha hb
  rw [h] at HC
  have HT : Hid _ := dk_two w a x b y
  go_enter Try.func11, Try.ntmps11
  go_wp2_with fail
  generalize (w.alloc (.cells #[.string a, .int .i64 x, .string b, .int .i64 y] 26)).alloc (.cells #[.string ⟨#[]⟩, .int .i64 0, .string ⟨#[]⟩, .int .i64 0] 26) = W at HT ⊢
  obtain ⟨B, hB⟩ : ∃ B, w.heap.size = B := ⟨_, rfl⟩
  rw [hB] at HT ⊢
  have HW : Hid (w.heap.size = B) := hB
  have hz := HT.out.2.1.lt
  clear hB
  refine (HC.out _).mono ?_
  rintro e w1 ⟨rfl, hb1⟩
  have HD1 : Hid (DkAt w1 B a x b y) := HT.out.1.below hb1 (by omega)
  have HR1 : Hid (DkAt w1 (B + 1) ⟨#[]⟩ 0 ⟨#[]⟩ 0) := HT.out.2.1.below hb1 hz
  have HB1 : Hid (Below B w w1) := HT.out.2.2.trans (hb1.mono (by omega))
  have hz1 := HR1.out.lt
  clear hb1
  obtain ⟨c0, c1, c2, c3⟩ := HD1.out.cells
  obtain ⟨f0, f1, f2, f3⟩ := HD1.out.free
  go_wp2_with fail
  refine (HK.out _).mono ?_
  rintro e w2 ⟨rfl, hb2⟩
  have HR2 : Hid (DkAt w2 (B + 1) ⟨#[]⟩ 0 ⟨#[]⟩ 0) := ((HR1.out.other _ (by simp)).other _ (by simp)).below hb2 (by simp; omega)
  have HB2 : Hid (Below B w w2) := ((HB1.out.setCell (p := ⟨B, 0, none⟩) (Nat.le_refl _) _).setCell (p := ⟨B, 1, none⟩) (Nat.le_refl _) _).trans (hb2.mono (by simp; omega))
  clear hb2 c0 c1 c2 c3 f0 f1 f2 f3
  obtain ⟨d0, d1, d2, d3⟩ := HR2.out.cells
  obtain ⟨g0, g1, g2, g3⟩ := HR2.out.free
  go_wp2_with fail
  refine bodyPost_ret (v := .tuple #[dkV (a.extract 0 n) m b y, .int .i64 0]) (by simp [results, Try.results11, go_sem, *]) rfl ⟨rfl, ?_⟩
  rw [HW.out]
  exact below_four HB2.out (by omega) _ _ _ _

set_option maxRecDepth 20000 in
set_option maxHeartbeats 1000000 in
theorem DTrim_arg1 (a : ByteArray) (x : Int) (b : ByteArray) (y : Int) (n : Int) (h : dksE a x b y 1 = 0) (hn : n < 0 ∨ (b.size : Int) < n) (w : World) (ha : a.size ≤ 9223372036854775807) (hb : b.size ≤ 9223372036854775807) :
    Calls Try.prog 11 #[dkV a x b y, .int .i64 1, .int .i64 n] w fun e w' => e = .returned (.tuple #[dk0, .int .i64 1]) ∧ Below w.heap.size w w' := by
  obtain ⟨k1, k2⟩ := dk_zero (dks_zero h).1
  obtain ⟨m0, m1, m2⟩ := sl_zero k2
  obtain ⟨l0, l1, l2⟩ := sl_zero k1
  clear k1 k2
  have HC : Hid _ := fun w => DSlot_any a x b y 1 w ha hb
  rw [h] at HC
  have HT : Hid _ := dk_two w a x b y
  go_enter Try.func11, Try.ntmps11
  go_wp2_with fail
  generalize (w.alloc (.cells #[.string a, .int .i64 x, .string b, .int .i64 y] 26)).alloc (.cells #[.string ⟨#[]⟩, .int .i64 0, .string ⟨#[]⟩, .int .i64 0] 26) = W at HT ⊢
  obtain ⟨B, hB⟩ : ∃ B, w.heap.size = B := ⟨_, rfl⟩
  rw [hB] at HT ⊢
  have HW : Hid (w.heap.size = B) := hB
  have hz := HT.out.2.1.lt
  clear hB
  refine (HC.out _).mono ?_
  rintro e w1 ⟨rfl, hb1⟩
  have HD1 : Hid (DkAt w1 B a x b y) := HT.out.1.below hb1 (by omega)
  have HR1 : Hid (DkAt w1 (B + 1) ⟨#[]⟩ 0 ⟨#[]⟩ 0) := HT.out.2.1.below hb1 hz
  have HB1 : Hid (Below B w w1) := HT.out.2.2.trans (hb1.mono (by omega))
  have hz1 := HR1.out.lt
  clear hb1
  obtain ⟨c0, c1, c2, c3⟩ := HD1.out.cells
  obtain ⟨f0, f1, f2, f3⟩ := HD1.out.free
  obtain ⟨d0, d1, d2, d3⟩ := HR1.out.cells
  obtain ⟨g0, g1, g2, g3⟩ := HR1.out.free
  rcases hn with hn | hn
  · go_wp2_with fail
    refine bodyPost_ret (v := .tuple #[dk0, .int .i64 1]) (by simp [results, Try.results11, go_sem, *]) rfl ⟨rfl, ?_⟩
    rw [HW.out]
    exact below_four HB1.out (by omega) _ _ _ _
  · by_cases hn0 : n < 0
    · clear hn
      go_wp2_with fail
      refine bodyPost_ret (v := .tuple #[dk0, .int .i64 1]) (by simp [results, Try.results11, go_sem, *]) rfl ⟨rfl, ?_⟩
      rw [HW.out]
      exact below_four HB1.out (by omega) _ _ _ _
    · go_wp2_with fail
      refine bodyPost_ret (v := .tuple #[dk0, .int .i64 1]) (by simp [results, Try.results11, go_sem, *]) rfl ⟨rfl, ?_⟩
      rw [HW.out]
      exact below_four HB1.out (by omega) _ _ _ _

set_option maxRecDepth 20000 in
set_option maxHeartbeats 1000000 in
theorem DTrim_ok1 (a : ByteArray) (x : Int) (b : ByteArray) (y : Int) (n : Nat) (h : dksE a x b y 1 = 0) (hn : n ≤ b.size) (w : World) (ha : a.size ≤ 9223372036854775807) (hb : b.size ≤ 9223372036854775807) :
    Calls Try.prog 11 #[dkV a x b y, .int .i64 1, .int .i64 (n : Int)] w fun e w' => e = .returned (.tuple #[dkV a x (b.extract 0 n) (min y n), .int .i64 0]) ∧ Below w.heap.size w w' := by
  obtain ⟨k1, k2⟩ := dk_zero (dks_zero h).1
  obtain ⟨m0, m1, m2⟩ := sl_zero k2
  obtain ⟨l0, l1, l2⟩ := sl_zero k1
  have hsz : (b.extract 0 n).size ≤ 1048576 := by rw [ByteArray.size_extract]; omega
  obtain ⟨m, hm⟩ : ∃ m, min y (n : Int) = m := ⟨_, rfl⟩
  have hmr : ∀ w : World, (Builtin.min_ #[3, 3] 3 #[.int .i64 y, .int .i64 (n : Int)]).run Try.prog w = .ok (.int .i64 m) w := by
    intro w
    rw [run_min_int2]
    congr 2
    rw [← hm]; split <;> omega
  rw [hm]
  have n0 : ¬ (n : Int) < 0 := by omega
  have n1 : ¬ (b.size : Int) < (n : Int) := by omega
  have HK : Hid _ := fun w => copied_any a x (b.extract 0 n) m w (by omega) (by omega)
  clear k1 k2 hsz hm
  have HC : Hid _ := fun w => DSlot_any a x b y 1 w ha hb
  rw [h] at HC
  have HT : Hid _ := dk_two w a x b y
  go_enter Try.func11, Try.ntmps11
  go_wp2_with fail
  generalize (w.alloc (.cells #[.string a, .int .i64 x, .string b, .int .i64 y] 26)).alloc (.cells #[.string ⟨#[]⟩, .int .i64 0, .string ⟨#[]⟩, .int .i64 0] 26) = W at HT ⊢
  obtain ⟨B, hB⟩ : ∃ B, w.heap.size = B := ⟨_, rfl⟩
  rw [hB] at HT ⊢
  have HW : Hid (w.heap.size = B) := hB
  have hz := HT.out.2.1.lt
  clear hB
  refine (HC.out _).mono ?_
  rintro e w1 ⟨rfl, hb1⟩
  have HD1 : Hid (DkAt w1 B a x b y) := HT.out.1.below hb1 (by omega)
  have HR1 : Hid (DkAt w1 (B + 1) ⟨#[]⟩ 0 ⟨#[]⟩ 0) := HT.out.2.1.below hb1 hz
  have HB1 : Hid (Below B w w1) := HT.out.2.2.trans (hb1.mono (by omega))
  have hz1 := HR1.out.lt
  clear hb1
  obtain ⟨c0, c1, c2, c3⟩ := HD1.out.cells
  obtain ⟨f0, f1, f2, f3⟩ := HD1.out.free
  go_wp2_with fail
  refine (HK.out _).mono ?_
  rintro e w2 ⟨rfl, hb2⟩
  have HR2 : Hid (DkAt w2 (B + 1) ⟨#[]⟩ 0 ⟨#[]⟩ 0) := ((HR1.out.other _ (by simp)).other _ (by simp)).below hb2 (by simp; omega)
  have HB2 : Hid (Below B w w2) := ((HB1.out.setCell (p := ⟨B, 2, none⟩) (Nat.le_refl _) _).setCell (p := ⟨B, 3, none⟩) (Nat.le_refl _) _).trans (hb2.mono (by simp; omega))
  clear hb2 c0 c1 c2 c3 f0 f1 f2 f3
  obtain ⟨d0, d1, d2, d3⟩ := HR2.out.cells
  obtain ⟨g0, g1, g2, g3⟩ := HR2.out.free
  go_wp2_with fail
  refine bodyPost_ret (v := .tuple #[dkV a x (b.extract 0 n) m, .int .i64 0]) (by simp [results, Try.results11, go_sem, *]) rfl ⟨rfl, ?_⟩
  rw [HW.out]
  exact below_four HB2.out (by omega) _ _ _ _
end Go.Proofs.Ytkihanmodfnpcaa
