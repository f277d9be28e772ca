/- What disk.Crash and the document's Disk answer. -/
import Derived.Test.YtkihanmodfnpcaaDiskOps
namespace Go.Proofs.Ytkihanmodfnpcaa
open Go.RowKit
set_option linter.unusedSimpArgs false
set_option linter.unusedVariables false

/-- how many bytes are left -/
def crN (a : ByteArray) (x k : Int) : Nat := (x + min (max k 0) (a.size - x)).toNat
theorem cr_le {a : ByteArray} {x : Int} (k : Int) (h : slE a x = 0) : crN a x k ≤ a.size ∧ x ≤ crN a x k ∧ (crN a x k : Int) = x + min (max k 0) (a.size - x) := by
  obtain ⟨h1, h2, h3⟩ := sl_zero h
  unfold crN; omega
/-- two numbers in a block of their own -/
def KpAt (w : World) (g : Nat) (p q : Int) : Prop := w.heap[g]? = some (.cells #[.int .i64 p, .int .i64 q] 35 (0, 0))
theorem KpAt.cells {w : World} {g : Nat} {p q : Int} (h : KpAt w g p q) : w.cell? ⟨g, 0, none⟩ = some (.int .i64 p) ∧ w.cell? ⟨g, 1, none⟩ = some (.int .i64 q) :=
  ⟨Lib.cell_of_heap h 0, Lib.cell_of_heap h 1⟩
theorem KpAt.below {w w' : World} {B g : Nat} {p q : Int} (h : KpAt w g p q) (hb : Below B w w') (hg : g < B) : KpAt w' g p q := (hb.block g hg).trans h
theorem KpAt.other {w : World} {g : Nat} {p q : Int} (h : KpAt w g p q) {a : Addr} (v : Value) (hp : g ≠ a.block) : KpAt (w.setCell a v) g p q := (heap_setCell_other w a g v hp).trans h
abbrev dk3 (w : World) (a : ByteArray) (x : Int) (b : ByteArray) (y p q : Int) : World := ((w.alloc (.cells #[.string a, .int .i64 x, .string b, .int .i64 y] 26)).alloc (.cells #[.int .i64 p, .int .i64 q] 35)).alloc (.cells #[.string ⟨#[]⟩, .int .i64 0, .string ⟨#[]⟩, .int .i64 0] 26)
theorem dk_three (w : World) (a : ByteArray) (x : Int) (b : ByteArray) (y p q : Int) : DkAt (dk3 w a x b y p q) w.heap.size a x b y ∧ KpAt (dk3 w a x b y p q) (w.heap.size + 1) p q ∧ DkAt (dk3 w a x b y p q) (w.heap.size + 1 + 1) ⟨#[]⟩ 0 ⟨#[]⟩ 0 ∧ Below w.heap.size w (dk3 w a x b y p q) := by
  refine ⟨?_, ?_, ?_, (((Below.refl _ w).alloc (Nat.le_refl _) _).alloc (by simp) _).alloc (by simp; omega) _⟩
  · exact (Deep.blk_alloc_lt _ _ _ (by simp; omega)).trans (heap_alloc2_old w _ _)
  · exact (Deep.blk_alloc_lt _ _ _ (by simp)).trans (heap_alloc2_new w _ _)
  · have h := heap_alloc_new ((w.alloc (.cells #[.string a, .int .i64 x, .string b, .int .i64 y] 26)).alloc (.cells #[.int .i64 p, .int .i64 q] 35)) (.cells #[.string ⟨#[]⟩, .int .i64 0, .string ⟨#[]⟩, .int .i64 0] 26)
    rw [show ((w.alloc (.cells #[.string a, .int .i64 x, .string b, .int .i64 y] 26)).alloc (.cells #[.int .i64 p, .int .i64 q] 35)).heap.size = w.heap.size + 1 + 1 by simp] at h
    exact h
theorem min_run (x n m : Int) (h : min x n = m) : ∀ w : World, (Builtin.min_ #[3, 3] 3 #[.int .i64 x, .int .i64 n]).run Try.prog w = .ok (.int .i64 m) w := by
  intro w
  rw [run_min_int2]
  congr 2
  rw [← h]; split <;> omega
theorem max_run (x n m : Int) (h : max x n = m) : ∀ w : World, (Builtin.max_ #[3, 3] 3 #[.int .i64 x, .int .i64 n]).run Try.prog w = .ok (.int .i64 m) w := by
  intro w
  rw [run_max_int2]
  congr 2
  rw [← h]; split <;> omega

set_option maxRecDepth 20000 in
set_option maxHeartbeats 2000000 in
theorem DCrash_ok (a : ByteArray) (x : Int) (b : ByteArray) (y p q : Int) (h : dkE a x b y = 0) (w : World) :
    Calls Try.prog 14 #[dkV a x b y, .agg #[.int .i64 p, .int .i64 q]] w fun e w' => e = .returned (.tuple #[dkV (a.extract 0 (crN a x p)) (crN a x p : Nat) (b.extract 0 (crN b y q)) (crN b y q : Nat), .int .i64 0]) ∧ Below w.heap.size w w' := by
  obtain ⟨k1, k2⟩ := dk_zero h
  obtain ⟨m0, m1, m2⟩ := sl_zero k1
  obtain ⟨l0, l1, l2⟩ := sl_zero k2
  have HC : Hid _ := fun w => DCheck_any a x b y w (by omega) (by omega)
  rw [h] at HC
  obtain ⟨u0, u1, u2⟩ := cr_le p k1
  obtain ⟨v0, v1, v2⟩ := cr_le q k2
  obtain ⟨m, hm⟩ : ∃ m, crN a x p = m := ⟨_, rfl⟩
  obtain ⟨n, hn⟩ : ∃ n, crN b y q = n := ⟨_, rfl⟩
  rw [hm] at u0 u1 u2
  rw [hn] at v0 v1 v2
  rw [hm, hn]
  have HK : Hid _ := fun w => copied_any (a.extract 0 m) (m : Int) (b.extract 0 n) (n : Int) w (by rw [ByteArray.size_extract]; omega) (by rw [ByteArray.size_extract]; omega)
  have HT : Hid _ := dk_three w a x b y p q
  have HU : Hid _ := u2
  have HV : Hid _ := v2
  clear k1 k2 hm hn h u2 v2
  go_enter Try.func14, Try.ntmps14
  go_wp2_with fail
  change Hid (DkAt (((w.alloc (.cells #[.string a, .int .i64 x, .string b, .int .i64 y] 26)).alloc (.cells #[.int .i64 p, .int .i64 q] 35)).alloc (.cells #[.string ⟨#[]⟩, .int .i64 0, .string ⟨#[]⟩, .int .i64 0] 26)) w.heap.size a x b y ∧ KpAt (((w.alloc (.cells #[.string a, .int .i64 x, .string b, .int .i64 y] 26)).alloc (.cells #[.int .i64 p, .int .i64 q] 35)).alloc (.cells #[.string ⟨#[]⟩, .int .i64 0, .string ⟨#[]⟩, .int .i64 0] 26)) (w.heap.size + 1) p q ∧ DkAt (((w.alloc (.cells #[.string a, .int .i64 x, .string b, .int .i64 y] 26)).alloc (.cells #[.int .i64 p, .int .i64 q] 35)).alloc (.cells #[.string ⟨#[]⟩, .int .i64 0, .string ⟨#[]⟩, .int .i64 0] 26)) (w.heap.size + 1 + 1) ⟨#[]⟩ 0 ⟨#[]⟩ 0 ∧ Below w.heap.size w (((w.alloc (.cells #[.string a, .int .i64 x, .string b, .int .i64 y] 26)).alloc (.cells #[.int .i64 p, .int .i64 q] 35)).alloc (.cells #[.string ⟨#[]⟩, .int .i64 0, .string ⟨#[]⟩, .int .i64 0] 26))) at HT
  generalize ((w.alloc (.cells #[.string a, .int .i64 x, .string b, .int .i64 y] 26)).alloc (.cells #[.int .i64 p, .int .i64 q] 35)).alloc (.cells #[.string ⟨#[]⟩, .int .i64 0, .string ⟨#[]⟩, .int .i64 0] 26) = W at HT ⊢
  obtain ⟨B, hB⟩ : ∃ B, w.heap.size = B := ⟨_, rfl⟩
  rw [hB] at HT ⊢
  have HW : Hid (w.heap.size = B) := hB
  have hz := HT.out.2.2.1.lt
  clear hB
  refine (HC.out _).mono ?_
  rintro e w1 ⟨rfl, hb1⟩
  have HS1 : Hid (DkAt w1 B a x b y ∧ KpAt w1 (B + 1) p q ∧ DkAt w1 (B + 1 + 1) ⟨#[]⟩ 0 ⟨#[]⟩ 0 ∧ Below B w w1) := ⟨HT.out.1.below hb1 (by omega), HT.out.2.1.below hb1 (by omega), HT.out.2.2.1.below hb1 hz, HT.out.2.2.2.trans (hb1.mono (by omega))⟩
  clear hb1 HT
  go_wp2_with fail
  go_loopw [15] (fun i wr => (i = .int .i64 0 ∧ DkAt wr B a x b y ∧ KpAt wr (B + 1) p q ∧ DkAt wr (B + 1 + 1) ⟨#[]⟩ 0 ⟨#[]⟩ 0 ∧ Below B w wr) ∨ (i = .int .i64 1 ∧ DkAt wr B (a.extract 0 m) m b y ∧ KpAt wr (B + 1) p q ∧ DkAt wr (B + 1 + 1) ⟨#[]⟩ 0 ⟨#[]⟩ 0 ∧ Below B w wr) ∨ (i = .int .i64 2 ∧ DkAt wr B (a.extract 0 m) m (b.extract 0 n) n ∧ KpAt wr (B + 1) p q ∧ DkAt wr (B + 1 + 1) ⟨#[]⟩ 0 ⟨#[]⟩ 0 ∧ Below B w wr)) (fun i _ => 2 - (intOf i).toNat)
  case atStart => exact .inl ⟨rfl, HS1.out⟩
  case round =>
    rename World => wr
    rcases hrel with ⟨rfl, hS⟩ | ⟨rfl, hS⟩ | ⟨rfl, hS⟩
    · have HS : Hid _ := And.intro hS.1 hS.2
      obtain ⟨c0, c1, c2, c3⟩ := hS.1.cells
      obtain ⟨f0, f1, f2, f3⟩ := hS.1.free
      obtain ⟨e0, e1⟩ := hS.2.1.cells
      have hzz := hS.2.2.1.lt
      clear hS
      obtain ⟨t, ht⟩ : ∃ t, max p 0 = t := ⟨_, rfl⟩
      have hmax := max_run p 0 t ht
      obtain ⟨t2, ht2⟩ : ∃ t2, (a.size : Int) - x = t2 := ⟨_, rfl⟩
      have hw : IntKind.i64.wrap ((a.size : Int) - x) = t2 := by rw [IntWalk.i64_in _ ⟨by omega, by omega⟩, ht2]
      obtain ⟨t3, ht3⟩ : ∃ t3, min t t2 = t3 := ⟨_, rfl⟩
      have hmin := min_run t t2 t3 ht3
      have hw2 : IntKind.i64.wrap (x + t3) = (m : Int) := by rw [HU.out, ht, ht2, ht3, IntWalk.i64_in _ ⟨by omega, by omega⟩]
      have g0 : (0 : Int) ≤ (m : Int) := by omega
      have g1 : (m : Int) ≤ (a.size : Int) := by omega
      clear ht ht2 ht3
      go_wp2_with fail
      go_region
      have HS2 : Hid (DkAt (wr.setCell ⟨B, 1, none⟩ (.int .i64 (m : Int))).drew B a (m : Int) b y ∧ KpAt (wr.setCell ⟨B, 1, none⟩ (.int .i64 (m : Int))).drew (B + 1) p q ∧ DkAt (wr.setCell ⟨B, 1, none⟩ (.int .i64 (m : Int))).drew (B + 1 + 1) ⟨#[]⟩ 0 ⟨#[]⟩ 0 ∧ Below B w (wr.setCell ⟨B, 1, none⟩ (.int .i64 (m : Int))).drew) :=
        ⟨HS.out.1.put1 (m : Int), HS.out.2.1.other (a := ⟨B, 1, none⟩) _ (by simp), HS.out.2.2.1.other (p := ⟨B, 1, none⟩) _ (by simp; omega), (HS.out.2.2.2.setCell (p := ⟨B, 1, none⟩) (Nat.le_refl _) _).drew⟩
      generalize (wr.setCell ⟨B, 1, none⟩ (.int .i64 (m : Int))).drew = w2 at HS2 ⊢
      clear c0 c1 c2 c3 f0 f1 f2 f3 e0 e1 hzz hmax hw hmin hw2
      obtain ⟨c0, c1, c2, c3⟩ := HS2.out.1.cells
      obtain ⟨f0, f1, f2, f3⟩ := HS2.out.1.free
      go_wp2_with fail
      go_region
      go_wp2_with fail
      go_roundw
      case rel =>
        exact .inr (.inl ⟨rfl, HS2.out.1.put0 (a.extract 0 m), HS2.out.2.1.other (a := ⟨B, 0, none⟩) _ (by simp), HS2.out.2.2.1.other (p := ⟨B, 0, none⟩) _ (by simp; omega), (HS2.out.2.2.2.setCell (p := ⟨B, 0, none⟩) (Nat.le_refl _) _).drew⟩)
      case measure => simp [intOf]
    · have HS : Hid _ := And.intro hS.1 hS.2
      obtain ⟨c0, c1, c2, c3⟩ := hS.1.cells
      obtain ⟨f0, f1, f2, f3⟩ := hS.1.free
      obtain ⟨e0, e1⟩ := hS.2.1.cells
      have hzz := hS.2.2.1.lt
      clear hS
      obtain ⟨t, ht⟩ : ∃ t, max q 0 = t := ⟨_, rfl⟩
      have hmax := max_run q 0 t ht
      obtain ⟨t2, ht2⟩ : ∃ t2, (b.size : Int) - y = t2 := ⟨_, rfl⟩
      have hw : IntKind.i64.wrap ((b.size : Int) - y) = t2 := by rw [IntWalk.i64_in _ ⟨by omega, by omega⟩, ht2]
      obtain ⟨t3, ht3⟩ : ∃ t3, min t t2 = t3 := ⟨_, rfl⟩
      have hmin := min_run t t2 t3 ht3
      have hw2 : IntKind.i64.wrap (y + t3) = (n : Int) := by rw [HV.out, ht, ht2, ht3, IntWalk.i64_in _ ⟨by omega, by omega⟩]
      have g0 : (0 : Int) ≤ (n : Int) := by omega
      have g1 : (n : Int) ≤ (b.size : Int) := by omega
      clear ht ht2 ht3
      go_wp2_with fail
      go_region
      have HS2 : Hid (DkAt (wr.setCell ⟨B, 3, none⟩ (.int .i64 (n : Int))).drew B (a.extract 0 m) (m : Int) b (n : Int) ∧ KpAt (wr.setCell ⟨B, 3, none⟩ (.int .i64 (n : Int))).drew (B + 1) p q ∧ DkAt (wr.setCell ⟨B, 3, none⟩ (.int .i64 (n : Int))).drew (B + 1 + 1) ⟨#[]⟩ 0 ⟨#[]⟩ 0 ∧ Below B w (wr.setCell ⟨B, 3, none⟩ (.int .i64 (n : Int))).drew) :=
        ⟨HS.out.1.put3 (n : Int), HS.out.2.1.other (a := ⟨B, 3, none⟩) _ (by simp), HS.out.2.2.1.other (p := ⟨B, 3, none⟩) _ (by simp; omega), (HS.out.2.2.2.setCell (p := ⟨B, 3, none⟩) (Nat.le_refl _) _).drew⟩
      generalize (wr.setCell ⟨B, 3, none⟩ (.int .i64 (n : Int))).drew = w2 at HS2 ⊢
      clear c0 c1 c2 c3 f0 f1 f2 f3 e0 e1 hzz hmax hw hmin hw2
      obtain ⟨c0, c1, c2, c3⟩ := HS2.out.1.cells
      obtain ⟨f0, f1, f2, f3⟩ := HS2.out.1.free
      go_wp2_with fail
      go_region
      go_wp2_with fail
      go_roundw
      case rel =>
        exact .inr (.inr ⟨rfl, HS2.out.1.put2 (b.extract 0 n), HS2.out.2.1.other (a := ⟨B, 2, none⟩) _ (by simp), HS2.out.2.2.1.other (p := ⟨B, 2, none⟩) _ (by simp; omega), (HS2.out.2.2.2.setCell (p := ⟨B, 2, none⟩) (Nat.le_refl _) _).drew⟩)
      case measure => simp [intOf]
    · have HS : Hid _ := And.intro hS.1 hS.2
      obtain ⟨c0, c1, c2, c3⟩ := hS.1.cells
      have hzz := hS.2.2.1.lt
      clear hS
      go_wp2_with fail
      refine (HK.out _).mono ?_
      rintro e w2 ⟨rfl, hb2⟩
      have HR2 : Hid (DkAt w2 (B + 1 + 1) ⟨#[]⟩ 0 ⟨#[]⟩ 0) := HS.out.2.2.1.below hb2 hzz
      have HB2 : Hid (Below B w w2) := HS.out.2.2.2.trans (hb2.mono (by omega))
      clear hb2 c0 c1 c2 c3
      obtain ⟨d0, d1, d2, d3⟩ := HR2.out.cells
      obtain ⟨q0, q1, q2, q3⟩ := HR2.out.free
      go_wp2_with fail
      refine bodyPost_ret (v := .tuple #[dkV (a.extract 0 m) m (b.extract 0 n) n, .int .i64 0]) (by simp [results, Try.results14, go_sem, *]) rfl ⟨rfl, ?_⟩
      rw [HW.out]
      exact below_four HB2.out (by omega) _ _ _ _
theorem DCrash_err (a : ByteArray) (x : Int) (b : ByteArray) (y p q e0 : Int) (h : dkE a x b y = e0) (he : e0 ≠ 0) (w : World) (ha : a.size ≤ 9223372036854775807) (hb : b.size ≤ 9223372036854775807) :
    Calls Try.prog 14 #[dkV a x b y, .agg #[.int .i64 p, .int .i64 q]] w fun e w' => e = .returned (.tuple #[dk0, .int .i64 e0]) ∧ Below w.heap.size w w' := by
  have he' : (e0 != 0) = true := by simp [he]
  have HC : Hid _ := fun w => DCheck_any a x b y w ha hb
  rw [h] at HC
  have HT : Hid _ := dk_three w a x b y p q
  clear he
  go_enter Try.func14, Try.ntmps14
  go_wp2_with fail
  change Hid (DkAt (((w.alloc (.cells #[.string a, .int .i64 x, .string b, .int .i64 y] 26)).alloc (.cells #[.int .i64 p, .int .i64 q] 35)).alloc (.cells #[.string ⟨#[]⟩, .int .i64 0, .string ⟨#[]⟩, .int .i64 0] 26)) w.heap.size a x b y ∧ KpAt (((w.alloc (.cells #[.string a, .int .i64 x, .string b, .int .i64 y] 26)).alloc (.cells #[.int .i64 p, .int .i64 q] 35)).alloc (.cells #[.string ⟨#[]⟩, .int .i64 0, .string ⟨#[]⟩, .int .i64 0] 26)) (w.heap.size + 1) p q ∧ DkAt (((w.alloc (.cells #[.string a, .int .i64 x, .string b, .int .i64 y] 26)).alloc (.cells #[.int .i64 p, .int .i64 q] 35)).alloc (.cells #[.string ⟨#[]⟩, .int .i64 0, .string ⟨#[]⟩, .int .i64 0] 26)) (w.heap.size + 1 + 1) ⟨#[]⟩ 0 ⟨#[]⟩ 0 ∧ Below w.heap.size w (((w.alloc (.cells #[.string a, .int .i64 x, .string b, .int .i64 y] 26)).alloc (.cells #[.int .i64 p, .int .i64 q] 35)).alloc (.cells #[.string ⟨#[]⟩, .int .i64 0, .string ⟨#[]⟩, .int .i64 0] 26))) at HT
  generalize ((w.alloc (.cells #[.string a, .int .i64 x, .string b, .int .i64 y] 26)).alloc (.cells #[.int .i64 p, .int .i64 q] 35)).alloc (.cells #[.string ⟨#[]⟩, .int .i64 0, .string ⟨#[]⟩, .int .i64 0] 26) = W at HT ⊢
  obtain ⟨B, hB⟩ : ∃ B, w.heap.size = B := ⟨_, rfl⟩
  rw [hB] at HT ⊢
  have HW : Hid (w.heap.size = B) := hB
  have hz := HT.out.2.2.1.lt
  clear hB
  refine (HC.out _).mono ?_
  rintro e w1 ⟨rfl, hb1⟩
  have HR2 : Hid (DkAt w1 (B + 1 + 1) ⟨#[]⟩ 0 ⟨#[]⟩ 0) := HT.out.2.2.1.below hb1 hz
  have HB2 : Hid (Below B w w1) := HT.out.2.2.2.trans (hb1.mono (by omega))
  clear hb1 HT
  obtain ⟨d0, d1, d2, d3⟩ := HR2.out.cells
  obtain ⟨q0, q1, q2, q3⟩ := HR2.out.free
  go_wp2_with fail
  refine bodyPost_ret (v := .tuple #[dk0, .int .i64 e0]) (by simp [results, Try.results14, go_sem, *]) rfl ⟨rfl, ?_⟩
  rw [HW.out]
  exact below_four HB2.out (by omega) _ _ _ _

set_option maxRecDepth 20000 in
set_option maxHeartbeats 1000000 in
theorem RDisk_any (a : ByteArray) (x : Int) (b : ByteArray) (y : Int) (w : World) (ha : a.size ≤ 9223372036854775807) (hb : b.size ≤ 9223372036854775807) :
    Calls Try.prog 12 #[dkV a x b y] w fun e w' => e = .returned (.int .i64 (dkE a x b y)) ∧ Below w.heap.size w w' := by
  have HA : Hid _ := sl_cases a x
  have HB : Hid _ := sl_cases b y
  have hx0 := ix0 a x b y
  have hx1 := ix1 a x b y
  go_enter Try.func12, Try.ntmps12
  go_wp2_with fail
  go_loopw [7] (fun i wr => (∃ k : Nat, k ≤ 2 ∧ i = .int .i64 k ∧ (1 ≤ k → slE a x = 0) ∧ (2 ≤ k → slE b y = 0)) ∧ Below w.heap.size w wr) (fun i _ => 2 - (intOf i).toNat)
  case atStart => exact ⟨⟨0, by omega, rfl, by omega, by omega⟩, (Below.refl _ _).alloc (Nat.le_refl _) _⟩
  case round =>
    rename World => wr
    obtain ⟨⟨k, hk, rfl, h1, h2⟩, hbw⟩ := hrel
    have HBw : Hid (Below w.heap.size w wr) := hbw
    have hzw := hbw.size
    have hk3 : k = 0 ∨ k = 1 ∨ k = 2 := by omega
    clear hbw hk
    rcases hk3 with rfl | rfl | rfl
    · clear h1 h2
      rcases HA.out with ⟨g1, g2⟩ | ⟨g1, g2, g3⟩ | ⟨g1, g2, g3, g4⟩ | ⟨g1, g2, g3, g4⟩
      · have HE : Hid (dkE a x b y = 2) := by show _ = _; rw [dkE, g2]; rfl
        clear g2
        go_wp2_with fail
        go_ret
        exact ⟨dret HE.out.symm, HBw.out.alloc hzw _⟩
      · have HE : Hid (dkE a x b y = 3) := by show _ = _; rw [dkE, g3]; rfl
        clear g3
        go_wp2_with fail
        go_ret
        exact ⟨dret HE.out.symm, HBw.out.alloc hzw _⟩
      · have HE : Hid (dkE a x b y = 3) := by show _ = _; rw [dkE, g4]; rfl
        clear g4
        go_wp2_with fail
        go_ret
        exact ⟨dret HE.out.symm, HBw.out.alloc hzw _⟩
      · have HE : Hid _ := g4
        clear g4
        go_wp2_with fail
        go_roundw
        case rel => exact ⟨⟨1, by omega, rfl, fun _ => HE.out, by omega⟩, HBw.out.alloc hzw _⟩
        case measure => simp [intOf]
    · have HO : Hid (slE a x = 0) := h1 (Nat.le_refl _)
      clear h1 h2
      rcases HB.out with ⟨g1, g2⟩ | ⟨g1, g2, g3⟩ | ⟨g1, g2, g3, g4⟩ | ⟨g1, g2, g3, g4⟩
      · have HE : Hid (dkE a x b y = 2) := by show _ = _; rw [dkE, if_pos HO.out, g2]
        clear g2
        go_wp2_with fail
        go_ret
        exact ⟨dret HE.out.symm, HBw.out.alloc hzw _⟩
      · have HE : Hid (dkE a x b y = 3) := by show _ = _; rw [dkE, if_pos HO.out, g3]
        clear g3
        go_wp2_with fail
        go_ret
        exact ⟨dret HE.out.symm, HBw.out.alloc hzw _⟩
      · have HE : Hid (dkE a x b y = 3) := by show _ = _; rw [dkE, if_pos HO.out, g4]
        clear g4
        go_wp2_with fail
        go_ret
        exact ⟨dret HE.out.symm, HBw.out.alloc hzw _⟩
      · have HE : Hid _ := g4
        clear g4
        go_wp2_with fail
        go_roundw
        case rel => exact ⟨⟨2, by omega, rfl, fun _ => HO.out, fun _ => HE.out⟩, HBw.out.alloc hzw _⟩
        case measure => simp [intOf]
    · have HE : Hid (dkE a x b y = 0) := by show _ = _; rw [dkE, if_pos (h1 (by omega)), h2 (Nat.le_refl _)]
      clear h1 h2
      go_wp2_with fail
      go_ret
      exact ⟨dret HE.out.symm, HBw.out⟩
end Go.Proofs.Ytkihanmodfnpcaa
