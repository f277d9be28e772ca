/- What disk.Check, checkSlot and copied answer. -/
import Derived.Test.YtkihanmodfnpcaaClone
import Derived.Deep.RegionHeld3
import Derived.BigQuiet
namespace Go.Proofs.Ytkihanmodfnpcaa
open Go.RowKit
set_option linter.unusedSimpArgs false
set_option linter.unusedVariables false

/-- what is wrong with a slot, with a disk -/
def slE (a : ByteArray) (x : Int) : Int := if 1048576 < a.size then 2 else if x < 0 ∨ (a.size : Int) < x then 3 else 0
def dkE (a : ByteArray) (x : Int) (b : ByteArray) (y : Int) : Int := if slE a x = 0 then slE b y else slE a x
abbrev dkV (a : ByteArray) (x : Int) (b : ByteArray) (y : Int) : Value := .agg #[.string a, .int .i64 x, .string b, .int .i64 y]
theorem sl_zero {a : ByteArray} {x : Int} (h : slE a x = 0) : a.size ≤ 1048576 ∧ 0 ≤ x ∧ x ≤ a.size := by
  unfold slE at h
  split at h
  · omega
  · split at h
    · omega
    · omega
theorem sl_of {a : ByteArray} {x : Int} (h1 : a.size ≤ 1048576) (h2 : 0 ≤ x) (h3 : x ≤ a.size) : slE a x = 0 := by
  rw [slE, if_neg (by omega), if_neg (by omega)]
theorem dk_zero {a b : ByteArray} {x y : Int} (h : dkE a x b y = 0) : slE a x = 0 ∧ slE b y = 0 := by
  unfold dkE at h
  split at h
  · exact ⟨by assumption, h⟩
  · contradiction
theorem sl_cases (a : ByteArray) (x : Int) : (1048576 < (a.size : Int) ∧ slE a x = 2) ∨ (¬ 1048576 < (a.size : Int) ∧ x < 0 ∧ slE a x = 3) ∨ (¬ 1048576 < (a.size : Int) ∧ ¬ x < 0 ∧ (a.size : Int) < x ∧ slE a x = 3) ∨ (¬ 1048576 < (a.size : Int) ∧ ¬ x < 0 ∧ ¬ (a.size : Int) < x ∧ slE a x = 0) := by
  unfold slE
  by_cases h1 : 1048576 < a.size
  · exact .inl ⟨by omega, if_pos h1⟩
  · by_cases h2 : x < 0
    · exact .inr (.inl ⟨by omega, h2, by rw [if_neg h1, if_pos (.inl h2)]⟩)
    · by_cases h3 : (a.size : Int) < x
      · exact .inr (.inr (.inl ⟨by omega, h2, h3, by rw [if_neg h1, if_pos (.inr h3)]⟩))
      · exact .inr (.inr (.inr ⟨by omega, h2, h3, by rw [if_neg h1, if_neg (by omega)]⟩))

theorem dret {a b : Int} (h : a = b) : Ending.returned (.int .i64 a) = .returned (.int .i64 b) := by rw [h]
theorem ix0 (a : ByteArray) (x : Int) (b : ByteArray) (y : Int) : ∀ w : World, (Instr.index 24 (.agg #[.string a, .int .i64 x, .string b, .int .i64 y]) (.int .i64 0)).run Try.prog w = .ok (.agg #[.string a, .int .i64 x]) w := fun _ => by kernel_rfl
theorem ix1 (a : ByteArray) (x : Int) (b : ByteArray) (y : Int) : ∀ w : World, (Instr.index 24 (.agg #[.string a, .int .i64 x, .string b, .int .i64 y]) (.int .i64 1)).run Try.prog w = .ok (.agg #[.string b, .int .i64 y]) w := fun _ => by kernel_rfl
set_option maxRecDepth 20000 in
set_option maxHeartbeats 1000000 in
theorem DCheck_any (a : ByteArray) (x : Int) (b : ByteArray) (y : Int) (w : World) (ha : a.size ≤ 9223372036854775807) (hb : b.size ≤ 9223372036854775807) :
    Calls Try.prog 13 #[dkV a x b y] w fun e w' => e = .returned (.int .i64 (dkE a x b y)) ∧ Below w.heap.size w w' := by
  have HA : Hid _ := sl_cases a x
  have HB : Hid _ := sl_cases b y
  have hx0 := ix0 a x b y
  have hx1 := ix1 a x b y
  go_enter Try.func13, Try.ntmps13
  go_wp2_with fail
  go_loopw [7] (fun i wr => (∃ k : Nat, k ≤ 2 ∧ i = .int .i64 k ∧ (1 ≤ k → slE a x = 0) ∧ (2 ≤ k → slE b y = 0)) ∧ Below w.heap.size w wr) (fun i _ => 2 - (intOf i).toNat)
  case atStart => exact ⟨⟨0, by omega, rfl, by omega, by omega⟩, (Below.refl _ _).alloc (Nat.le_refl _) _⟩
  case round =>
    rename World => wr
    obtain ⟨⟨k, hk, rfl, h1, h2⟩, hbw⟩ := hrel
    have HBw : Hid (Below w.heap.size w wr) := hbw
    have hzw := hbw.size
    have hk3 : k = 0 ∨ k = 1 ∨ k = 2 := by omega
    clear hbw hk
    rcases hk3 with rfl | rfl | rfl
    · clear h1 h2
      rcases HA.out with ⟨g1, g2⟩ | ⟨g1, g2, g3⟩ | ⟨g1, g2, g3, g4⟩ | ⟨g1, g2, g3, g4⟩
      · have HE : Hid (dkE a x b y = 2) := by show _ = _; rw [dkE, g2]; rfl
        clear g2
        go_wp2_with fail
        go_ret
        exact ⟨dret HE.out.symm, HBw.out.alloc hzw _⟩
      · have HE : Hid (dkE a x b y = 3) := by show _ = _; rw [dkE, g3]; rfl
        clear g3
        go_wp2_with fail
        go_ret
        exact ⟨dret HE.out.symm, HBw.out.alloc hzw _⟩
      · have HE : Hid (dkE a x b y = 3) := by show _ = _; rw [dkE, g4]; rfl
        clear g4
        go_wp2_with fail
        go_ret
        exact ⟨dret HE.out.symm, HBw.out.alloc hzw _⟩
      · have HE : Hid _ := g4
        clear g4
        go_wp2_with fail
        go_roundw
        case rel => exact ⟨⟨1, by omega, rfl, fun _ => HE.out, by omega⟩, HBw.out.alloc hzw _⟩
        case measure => simp [intOf]
    · have HO : Hid (slE a x = 0) := h1 (Nat.le_refl _)
      clear h1 h2
      rcases HB.out with ⟨g1, g2⟩ | ⟨g1, g2, g3⟩ | ⟨g1, g2, g3, g4⟩ | ⟨g1, g2, g3, g4⟩
      · have HE : Hid (dkE a x b y = 2) := by show _ = _; rw [dkE, if_pos HO.out, g2]
        clear g2
        go_wp2_with fail
        go_ret
        exact ⟨dret HE.out.symm, HBw.out.alloc hzw _⟩
      · have HE : Hid (dkE a x b y = 3) := by show _ = _; rw [dkE, if_pos HO.out, g3]
        clear g3
        go_wp2_with fail
        go_ret
        exact ⟨dret HE.out.symm, HBw.out.alloc hzw _⟩
      · have HE : Hid (dkE a x b y = 3) := by show _ = _; rw [dkE, if_pos HO.out, g4]
        clear g4
        go_wp2_with fail
        go_ret
        exact ⟨dret HE.out.symm, HBw.out.alloc hzw _⟩
      · have HE : Hid _ := g4
        clear g4
        go_wp2_with fail
        go_roundw
        case rel => exact ⟨⟨2, by omega, rfl, fun _ => HO.out, fun _ => HE.out⟩, HBw.out.alloc hzw _⟩
        case measure => simp [intOf]
    · have HE : Hid (dkE a x b y = 0) := by show _ = _; rw [dkE, if_pos (h1 (by omega)), h2 (Nat.le_refl _)]
      clear h1 h2
      go_wp2_with fail
      go_ret
      exact ⟨dret HE.out.symm, HBw.out⟩

/-- and behind it: is there such a slot? -/
def dksE (a : ByteArray) (x : Int) (b : ByteArray) (y i : Int) : Int := if dkE a x b y = 0 then (if i < 0 ∨ 2 ≤ i then 1 else 0) else dkE a x b y
theorem dks_zero {a b : ByteArray} {x y i : Int} (h : dksE a x b y i = 0) : dkE a x b y = 0 ∧ (i = 0 ∨ i = 1) := by
  unfold dksE at h
  split at h
  · split at h
    · omega
    · exact ⟨by assumption, by omega⟩
  · contradiction
set_option maxRecDepth 20000 in
set_option maxHeartbeats 1000000 in
theorem DSlot_any (a : ByteArray) (x : Int) (b : ByteArray) (y i : Int) (w : World) (ha : a.size ≤ 9223372036854775807) (hb : b.size ≤ 9223372036854775807) :
    Calls Try.prog 22 #[dkV a x b y, .int .i64 i] w fun e w' => e = .returned (.int .i64 (dksE a x b y i)) ∧ Below w.heap.size w w' := by
  have HC : Hid _ := fun w => DCheck_any a x b y w ha hb
  obtain ⟨q, hq⟩ : ∃ q, dkE a x b y = q := ⟨_, rfl⟩
  have HE : Hid (dksE a x b y i = if q = 0 then (if i < 0 ∨ 2 ≤ i then 1 else 0) else q) := by show _ = _; rw [dksE, hq]
  rw [hq] at HC
  clear hq
  go_enter Try.func22, Try.ntmps22
  go_wp2_with fail
  refine (HC.out _).mono ?_
  rintro e w1 ⟨rfl, hb1⟩
  have HB1 : Hid (Below w.heap.size w w1) := ((Below.refl _ w).alloc (Nat.le_refl _) _).trans (hb1.mono (by simp))
  clear hb1
  by_cases h0 : q = 0
  · subst h0
    by_cases h1 : i < 0
    · have HE2 : Hid (dksE a x b y i = 1) := by show _ = _; rw [HE.out, if_pos rfl, if_pos (.inl h1)]
      go_wp2_with fail
      go_ret
      exact ⟨dret HE2.out.symm, HB1.out⟩
    · by_cases h2 : 2 ≤ i
      · have HE2 : Hid (dksE a x b y i = 1) := by show _ = _; rw [HE.out, if_pos rfl, if_pos (.inr h2)]
        go_wp2_with fail
        go_ret
        exact ⟨dret HE2.out.symm, HB1.out⟩
      · have HE2 : Hid (dksE a x b y i = 0) := by show _ = _; rw [HE.out, if_pos rfl, if_neg (by omega)]
        go_wp2_with fail
        go_ret
        exact ⟨dret HE2.out.symm, HB1.out⟩
  · have h0' : (q != 0) = true := by simp [h0]
    have HE2 : Hid (dksE a x b y i = q) := by show _ = _; rw [HE.out, if_neg h0]
    clear h0
    go_wp2_with fail
    go_ret
    exact ⟨dret HE2.out.symm, HB1.out⟩

/-- a disk in a block of its own -/
def DkAt (w : World) (g : Nat) (a : ByteArray) (x : Int) (b : ByteArray) (y : Int) : Prop := w.heap[g]? = some (.cells #[.string a, .int .i64 x, .string b, .int .i64 y] 26 (0, 0))
theorem DkAt.cells {w : World} {g : Nat} {a b : ByteArray} {x y : Int} (h : DkAt w g a x b y) : w.cell? ⟨g, 0, none⟩ = some (.string a) ∧ w.cell? ⟨g, 1, none⟩ = some (.int .i64 x) ∧ w.cell? ⟨g, 2, none⟩ = some (.string b) ∧ w.cell? ⟨g, 3, none⟩ = some (.int .i64 y) :=
  ⟨Lib.cell_of_heap h 0, Lib.cell_of_heap h 1, Lib.cell_of_heap h 2, Lib.cell_of_heap h 3⟩
theorem DkAt.free {w : World} {g : Nat} {a b : ByteArray} {x y : Int} (h : DkAt w g a x b y) : w.frozen? ⟨g, 0, none⟩ = false ∧ w.frozen? ⟨g, 1, none⟩ = false ∧ w.frozen? ⟨g, 2, none⟩ = false ∧ w.frozen? ⟨g, 3, none⟩ = false :=
  ⟨Lib.frozen_of_heap h 0, Lib.frozen_of_heap h 1, Lib.frozen_of_heap h 2, Lib.frozen_of_heap h 3⟩
theorem DkAt.lt {w : World} {g : Nat} {a b : ByteArray} {x y : Int} (h : DkAt w g a x b y) : g < w.heap.size := lt_of_heap h
theorem DkAt.below {w w' : World} {B g : Nat} {a b : ByteArray} {x y : Int} (h : DkAt w g a x b y) (hb : Below B w w') (hg : g < B) : DkAt w' g a x b y := (hb.block g hg).trans h
theorem DkAt.put0 {w : World} {g : Nat} {a b : ByteArray} {x y : Int} (h : DkAt w g a x b y) (t : ByteArray) : DkAt (w.setCell ⟨g, 0, none⟩ (.string t)) g t x b y := heap_setCell_same w g 0 _ _ _ h
theorem DkAt.put1 {w : World} {g : Nat} {a b : ByteArray} {x y : Int} (h : DkAt w g a x b y) (n : Int) : DkAt (w.setCell ⟨g, 1, none⟩ (.int .i64 n)) g a n b y := heap_setCell_same w g 1 _ _ _ h
theorem DkAt.put2 {w : World} {g : Nat} {a b : ByteArray} {x y : Int} (h : DkAt w g a x b y) (t : ByteArray) : DkAt (w.setCell ⟨g, 2, none⟩ (.string t)) g a x t y := heap_setCell_same w g 2 _ _ _ h
theorem DkAt.put3 {w : World} {g : Nat} {a b : ByteArray} {x y : Int} (h : DkAt w g a x b y) (n : Int) : DkAt (w.setCell ⟨g, 3, none⟩ (.int .i64 n)) g a x b n := heap_setCell_same w g 3 _ _ _ h
theorem DkAt.other {w : World} {g : Nat} {a b : ByteArray} {x y : Int} (h : DkAt w g a x b y) {p : Addr} (v : Value) (hp : g ≠ p.block) : DkAt (w.setCell p v) g a x b y := (heap_setCell_other w p g v hp).trans h
theorem dk_two (w : World) (a : ByteArray) (x : Int) (b : ByteArray) (y : Int) : DkAt ((w.alloc (.cells #[.string a, .int .i64 x, .string b, .int .i64 y] 26)).alloc (.cells #[.string ⟨#[]⟩, .int .i64 0, .string ⟨#[]⟩, .int .i64 0] 26)) w.heap.size a x b y ∧ DkAt ((w.alloc (.cells #[.string a, .int .i64 x, .string b, .int .i64 y] 26)).alloc (.cells #[.string ⟨#[]⟩, .int .i64 0, .string ⟨#[]⟩, .int .i64 0] 26)) (w.heap.size + 1) ⟨#[]⟩ 0 ⟨#[]⟩ 0 ∧ Below w.heap.size w ((w.alloc (.cells #[.string a, .int .i64 x, .string b, .int .i64 y] 26)).alloc (.cells #[.string ⟨#[]⟩, .int .i64 0, .string ⟨#[]⟩, .int .i64 0] 26)) :=
  ⟨heap_alloc2_old w _ _, heap_alloc2_new w _ _, ((Below.refl _ w).alloc (Nat.le_refl _) _).alloc (by simp) _⟩
set_option maxRecDepth 20000 in
set_option maxHeartbeats 1000000 in
theorem copied_any (a : ByteArray) (x : Int) (b : ByteArray) (y : Int) (w : World) (ha : a.size ≤ 281474976710656) (hb : b.size ≤ 281474976710656) :
    Calls Try.prog 23 #[dkV a x b y] w fun e w' => e = .returned (dkV a x b y) ∧ Below w.heap.size w w' := by
  have HA : Hid _ := fun w => Clone_any a w ha
  have HB : Hid _ := fun w => Clone_any b w hb
  have HT : Hid _ := dk_two w a x b y
  go_enter Try.func23, Try.ntmps23
  go_wp2_with fail
  generalize (w.alloc (.cells #[.string a, .int .i64 x, .string b, .int .i64 y] 26)).alloc (.cells #[.string ⟨#[]⟩, .int .i64 0, .string ⟨#[]⟩, .int .i64 0] 26) = W at HT ⊢
  obtain ⟨B, hB⟩ : ∃ B, w.heap.size = B := ⟨_, rfl⟩
  rw [hB] at HT ⊢
  have HW : Hid (w.heap.size = B) := hB
  clear hB
  go_loopw [4] (fun i wr => (∃ k : Nat, k ≤ 2 ∧ i = .int .i64 k) ∧ DkAt wr B a x b y ∧ DkAt wr (B + 1) ⟨#[]⟩ 0 ⟨#[]⟩ 0 ∧ Below B w wr) (fun i _ => 2 - (intOf i).toNat)
  case atStart => exact ⟨⟨0, by omega, rfl⟩, HT.out⟩
  case round =>
    rename World => wr
    obtain ⟨⟨k, hk, rfl⟩, hd, hr, hbw⟩ := hrel
    have hk3 : k = 0 ∨ k = 1 ∨ k = 2 := by omega
    have HD : Hid (DkAt wr B a x b y) := hd
    have HR : Hid (DkAt wr (B + 1) ⟨#[]⟩ 0 ⟨#[]⟩ 0) := hr
    have HBw : Hid (Below B w wr) := hbw
    have hz := hr.lt
    have HW := HW
    clear hk hd hr hbw
    obtain ⟨c0, c1, c2, c3⟩ := HD.out.cells
    rcases hk3 with rfl | rfl | rfl
    · go_wp2_with fail
      refine (HA.out _).mono ?_
      rintro e w1 ⟨rfl, hb1⟩
      have HD1 : Hid (DkAt w1 B a x b y) := HD.out.below hb1 (by omega)
      have HR1 : Hid (DkAt w1 (B + 1) ⟨#[]⟩ 0 ⟨#[]⟩ 0) := HR.out.below hb1 hz
      have HB1 : Hid (Below B w w1) := HBw.out.trans (hb1.mono (by omega))
      have hz1 := HR1.out.lt
      clear hb1 c0 c1 c2 c3
      obtain ⟨f0, f1, f2, f3⟩ := HD1.out.free
      obtain ⟨c0, c1, c2, c3⟩ := HD1.out.cells
      go_wp2_with fail
      go_roundw
      case rel => exact ⟨⟨1, by omega, rfl⟩, HD1.out.put0 a, HR1.out.other _ (by simp), HB1.out.setCell (p := ⟨B, 0, none⟩) (Nat.le_refl _) _⟩
      case measure => simp [intOf]
    · go_wp2_with fail
      refine (HB.out _).mono ?_
      rintro e w1 ⟨rfl, hb1⟩
      have HD1 : Hid (DkAt w1 B a x b y) := HD.out.below hb1 (by omega)
      have HR1 : Hid (DkAt w1 (B + 1) ⟨#[]⟩ 0 ⟨#[]⟩ 0) := HR.out.below hb1 hz
      have HB1 : Hid (Below B w w1) := HBw.out.trans (hb1.mono (by omega))
      have hz1 := HR1.out.lt
      clear hb1 c0 c1 c2 c3
      obtain ⟨f0, f1, f2, f3⟩ := HD1.out.free
      obtain ⟨c0, c1, c2, c3⟩ := HD1.out.cells
      go_wp2_with fail
      go_roundw
      case rel => exact ⟨⟨2, by omega, rfl⟩, HD1.out.put2 b, HR1.out.other _ (by simp), HB1.out.setCell (p := ⟨B, 2, none⟩) (Nat.le_refl _) _⟩
      case measure => simp [intOf]
    · obtain ⟨f0, f1, f2, f3⟩ := HR.out.free
      obtain ⟨d0, d1, d2, d3⟩ := HR.out.cells
      go_wp2_with fail
      refine bodyPost_ret (v := dkV a x b y) (by simp [results, Try.results23, go_sem, *]) rfl ⟨rfl, ?_⟩
      rw [HW.out]
      exact (((HBw.out.setCell (p := ⟨B + 1, 0, none⟩) (by simp) _).setCell (p := ⟨B + 1, 1, none⟩) (by simp) _).setCell (p := ⟨B + 1, 2, none⟩) (by simp) _).setCell (p := ⟨B + 1, 3, none⟩) (by simp) _
end Go.Proofs.Ytkihanmodfnpcaa
