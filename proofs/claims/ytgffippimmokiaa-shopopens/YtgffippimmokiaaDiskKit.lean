/- What disk.Check, checkSlot and copied answer. -/
import Derived.Test.YtgffippimmokiaaCodeRead
import Derived.Deep.RegionHeld3
import Derived.BigQuiet
import Derived.ChangeKeysEq
namespace Go.Proofs.Ytgffippimmokiaa
open Go.RowKit
set_option linter.unusedSimpArgs false
set_option linter.unusedVariables false

/-- what is wrong with a slot, with a disk -/
def slE (a : ByteArray) (x : Int) : Int := if 1048576 < a.size then 2 else if x < 0 ∨ (a.size : Int) < x then 3 else 0
def dkE (a : ByteArray) (x : Int) (b : ByteArray) (y : Int) : Int := if slE a x = 0 then slE b y else slE a x
abbrev dkV (a : ByteArray) (x : Int) (b : ByteArray) (y : Int) : Value := .agg #[.string a, .int .i64 x, .string b, .int .i64 y]
theorem sl_zero {a : ByteArray} {x : Int} (h : slE a x = 0) : a.size ≤ 1048576 ∧ 0 ≤ x ∧ x ≤ a.size := by
  unfold slE at h
  split at h
  · omega
  · split at h
    · omega
    · omega
theorem sl_of {a : ByteArray} {x : Int} (h1 : a.size ≤ 1048576) (h2 : 0 ≤ x) (h3 : x ≤ a.size) : slE a x = 0 := by
  rw [slE, if_neg (by omega), if_neg (by omega)]
theorem dk_zero {a b : ByteArray} {x y : Int} (h : dkE a x b y = 0) : slE a x = 0 ∧ slE b y = 0 := by
  unfold dkE at h
  split at h
  · exact ⟨by assumption, h⟩
  · contradiction
theorem sl_cases (a : ByteArray) (x : Int) : (1048576 < (a.size : Int) ∧ slE a x = 2) ∨ (¬ 1048576 < (a.size : Int) ∧ x < 0 ∧ slE a x = 3) ∨ (¬ 1048576 < (a.size : Int) ∧ ¬ x < 0 ∧ (a.size : Int) < x ∧ slE a x = 3) ∨ (¬ 1048576 < (a.size : Int) ∧ ¬ x < 0 ∧ ¬ (a.size : Int) < x ∧ slE a x = 0) := by
  unfold slE
  by_cases h1 : 1048576 < a.size
  · exact .inl ⟨by omega, if_pos h1⟩
  · by_cases h2 : x < 0
    · exact .inr (.inl ⟨by omega, h2, by rw [if_neg h1, if_pos (.inl h2)]⟩)
    · by_cases h3 : (a.size : Int) < x
      · exact .inr (.inr (.inl ⟨by omega, h2, h3, by rw [if_neg h1, if_pos (.inr h3)]⟩))
      · exact .inr (.inr (.inr ⟨by omega, h2, h3, by rw [if_neg h1, if_neg (by omega)]⟩))

theorem dret {a b : Int} (h : a = b) : Ending.returned (.int .i64 a) = .returned (.int .i64 b) := by rw [h]
theorem ix0 (a : ByteArray) (x : Int) (b : ByteArray) (y : Int) : ∀ w : World, (Instr.index 24 (.agg #[.string a, .int .i64 x, .string b, .int .i64 y]) (.int .i64 0)).run Try.prog w = .ok (.agg #[.string a, .int .i64 x]) w := fun _ => by kernel_rfl
theorem ix1 (a : ByteArray) (x : Int) (b : ByteArray) (y : Int) : ∀ w : World, (Instr.index 24 (.agg #[.string a, .int .i64 x, .string b, .int .i64 y]) (.int .i64 1)).run Try.prog w = .ok (.agg #[.string b, .int .i64 y]) w := fun _ => by kernel_rfl
set_option maxRecDepth 20000 in
set_option maxHeartbeats 1000000 in
theorem DCheck_any (a : ByteArray) (x : Int) (b : ByteArray) (y : Int) (w : World) (ha : a.size ≤ 9223372036854775807) (hb : b.size ≤ 9223372036854775807) :
    Calls Try.prog 35 #[dkV a x b y] w fun e w' => e = .returned (.int .i64 (dkE a x b y)) ∧ Below w.heap.size w w' := by
  have HA : Hid _ := sl_cases a x
  have HB : Hid _ := sl_cases b y
  have hx0 := ix0 a x b y
  have hx1 := ix1 a x b y
  go_enter Try.func35, Try.ntmps35
  go_wp2_with fail
  go_loopw [7] (fun i wr => (∃ k : Nat, k ≤ 2 ∧ i = .int .i64 k ∧ (1 ≤ k → slE a x = 0) ∧ (2 ≤ k → slE b y = 0)) ∧ Below w.heap.size w wr) (fun i _ => 2 - (intOf i).toNat)
  case atStart => exact ⟨⟨0, by omega, rfl, by omega, by omega⟩, (Below.refl _ _).alloc (Nat.le_refl _) _⟩
  case round =>
    rename World => wr
    obtain ⟨⟨k, hk, rfl, h1, h2⟩, hbw⟩ := hrel
    have HBw : Hid (Below w.heap.size w wr) := hbw
    have hzw := hbw.size
    have hk3 : k = 0 ∨ k = 1 ∨ k = 2 := by omega
    clear hbw hk
    rcases hk3 with rfl | rfl | rfl
    · clear h1 h2
      rcases HA.out with ⟨g1, g2⟩ | ⟨g1, g2, g3⟩ | ⟨g1, g2, g3, g4⟩ | ⟨g1, g2, g3, g4⟩
      · have HE : Hid (dkE a x b y = 2) := by show _ = _; rw [dkE, g2]; rfl
        clear g2
        go_wp2_with fail
        go_ret
        exact ⟨dret HE.out.symm, HBw.out.alloc hzw _⟩
      · have HE : Hid (dkE a x b y = 3) := by show _ = _; rw [dkE, g3]; rfl
        clear g3
        go_wp2_with fail
        go_ret
        exact ⟨dret HE.out.symm, HBw.out.alloc hzw _⟩
      · have HE : Hid (dkE a x b y = 3) := by show _ = _; rw [dkE, g4]; rfl
        clear g4
        go_wp2_with fail
        go_ret
        exact ⟨dret HE.out.symm, HBw.out.alloc hzw _⟩
      · have HE : Hid _ := g4
        clear g4
        go_wp2_with fail
        go_roundw
        case rel => exact ⟨⟨1, by omega, rfl, fun _ => HE.out, by omega⟩, HBw.out.alloc hzw _⟩
        case measure => simp [intOf]
    · have HO : Hid (slE a x = 0) := h1 (Nat.le_refl _)
      clear h1 h2
      rcases HB.out with ⟨g1, g2⟩ | ⟨g1, g2, g3⟩ | ⟨g1, g2, g3, g4⟩ | ⟨g1, g2, g3, g4⟩
      · have HE : Hid (dkE a x b y = 2) := by show _ = _; rw [dkE, if_pos HO.out, g2]
        clear g2
        go_wp2_with fail
        go_ret
        exact ⟨dret HE.out.symm, HBw.out.alloc hzw _⟩
      · have HE : Hid (dkE a x b y = 3) := by show _ = _; rw [dkE, if_pos HO.out, g3]
        clear g3
        go_wp2_with fail
        go_ret
        exact ⟨dret HE.out.symm, HBw.out.alloc hzw _⟩
      · have HE : Hid (dkE a x b y = 3) := by show _ = _; rw [dkE, if_pos HO.out, g4]
        clear g4
        go_wp2_with fail
        go_ret
        exact ⟨dret HE.out.symm, HBw.out.alloc hzw _⟩
      · have HE : Hid _ := g4
        clear g4
        go_wp2_with fail
        go_roundw
        case rel => exact ⟨⟨2, by omega, rfl, fun _ => HO.out, fun _ => HE.out⟩, HBw.out.alloc hzw _⟩
        case measure => simp [intOf]
    · have HE : Hid (dkE a x b y = 0) := by show _ = _; rw [dkE, if_pos (h1 (by omega)), h2 (Nat.le_refl _)]
      clear h1 h2
      go_wp2_with fail
      go_ret
      exact ⟨dret HE.out.symm, HBw.out⟩

/-- and behind it: is there such a slot? -/
def dksE (a : ByteArray) (x : Int) (b : ByteArray) (y i : Int) : Int := if dkE a x b y = 0 then (if i < 0 ∨ 2 ≤ i then 1 else 0) else dkE a x b y
theorem dks_zero {a b : ByteArray} {x y i : Int} (h : dksE a x b y i = 0) : dkE a x b y = 0 ∧ (i = 0 ∨ i = 1) := by
  unfold dksE at h
  split at h
  · split at h
    · omega
    · exact ⟨by assumption, by omega⟩
  · contradiction
set_option maxRecDepth 20000 in
set_option maxHeartbeats 1000000 in
theorem DSlot_any (a : ByteArray) (x : Int) (b : ByteArray) (y i : Int) (w : World) (ha : a.size ≤ 9223372036854775807) (hb : b.size ≤ 9223372036854775807) :
    Calls Try.prog 81 #[dkV a x b y, .int .i64 i] w fun e w' => e = .returned (.int .i64 (dksE a x b y i)) ∧ Below w.heap.size w w' := by
  have HC : Hid _ := fun w => DCheck_any a x b y w ha hb
  obtain ⟨q, hq⟩ : ∃ q, dkE a x b y = q := ⟨_, rfl⟩
  have HE : Hid (dksE a x b y i = if q = 0 then (if i < 0 ∨ 2 ≤ i then 1 else 0) else q) := by show _ = _; rw [dksE, hq]
  rw [hq] at HC
  clear hq
  go_enter Try.func81, Try.ntmps81
  go_wp2_with fail
  refine (HC.out _).mono ?_
  rintro e w1 ⟨rfl, hb1⟩
  have HB1 : Hid (Below w.heap.size w w1) := ((Below.refl _ w).alloc (Nat.le_refl _) _).trans (hb1.mono (by simp))
  clear hb1
  by_cases h0 : q = 0
  · subst h0
    by_cases h1 : i < 0
    · have HE2 : Hid (dksE a x b y i = 1) := by show _ = _; rw [HE.out, if_pos rfl, if_pos (.inl h1)]
      go_wp2_with fail
      go_ret
      exact ⟨dret HE2.out.symm, HB1.out⟩
    · by_cases h2 : 2 ≤ i
      · have HE2 : Hid (dksE a x b y i = 1) := by show _ = _; rw [HE.out, if_pos rfl, if_pos (.inr h2)]
        go_wp2_with fail
        go_ret
        exact ⟨dret HE2.out.symm, HB1.out⟩
      · have HE2 : Hid (dksE a x b y i = 0) := by show _ = _; rw [HE.out, if_pos rfl, if_neg (by omega)]
        go_wp2_with fail
        go_ret
        exact ⟨dret HE2.out.symm, HB1.out⟩
  · have h0' : (q != 0) = true := by simp [h0]
    have HE2 : Hid (dksE a x b y i = q) := by show _ = _; rw [HE.out, if_neg h0]
    clear h0
    go_wp2_with fail
    go_ret
    exact ⟨dret HE2.out.symm, HB1.out⟩

/-- a disk in a block of its own -/
def DkAt (w : World) (g : Nat) (a : ByteArray) (x : Int) (b : ByteArray) (y : Int) : Prop := w.heap[g]? = some (.cells #[.string a, .int .i64 x, .string b, .int .i64 y] 26 (0, 0))
theorem DkAt.cells {w : World} {g : Nat} {a b : ByteArray} {x y : Int} (h : DkAt w g a x b y) : w.cell? ⟨g, 0, none⟩ = some (.string a) ∧ w.cell? ⟨g, 1, none⟩ = some (.int .i64 x) ∧ w.cell? ⟨g, 2, none⟩ = some (.string b) ∧ w.cell? ⟨g, 3, none⟩ = some (.int .i64 y) :=
  ⟨Lib.cell_of_heap h 0, Lib.cell_of_heap h 1, Lib.cell_of_heap h 2, Lib.cell_of_heap h 3⟩
theorem DkAt.free {w : World} {g : Nat} {a b : ByteArray} {x y : Int} (h : DkAt w g a x b y) : w.frozen? ⟨g, 0, none⟩ = false ∧ w.frozen? ⟨g, 1, none⟩ = false ∧ w.frozen? ⟨g, 2, none⟩ = false ∧ w.frozen? ⟨g, 3, none⟩ = false :=
  ⟨Lib.frozen_of_heap h 0, Lib.frozen_of_heap h 1, Lib.frozen_of_heap h 2, Lib.frozen_of_heap h 3⟩
theorem DkAt.lt {w : World} {g : Nat} {a b : ByteArray} {x y : Int} (h : DkAt w g a x b y) : g < w.heap.size := lt_of_heap h
theorem DkAt.below {w w' : World} {B g : Nat} {a b : ByteArray} {x y : Int} (h : DkAt w g a x b y) (hb : Below B w w') (hg : g < B) : DkAt w' g a x b y := (hb.block g hg).trans h
theorem DkAt.put0 {w : World} {g : Nat} {a b : ByteArray} {x y : Int} (h : DkAt w g a x b y) (t : ByteArray) : DkAt (w.setCell ⟨g, 0, none⟩ (.string t)) g t x b y := heap_setCell_same w g 0 _ _ _ h
theorem DkAt.put1 {w : World} {g : Nat} {a b : ByteArray} {x y : Int} (h : DkAt w g a x b y) (n : Int) : DkAt (w.setCell ⟨g, 1, none⟩ (.int .i64 n)) g a n b y := heap_setCell_same w g 1 _ _ _ h
theorem DkAt.put2 {w : World} {g : Nat} {a b : ByteArray} {x y : Int} (h : DkAt w g a x b y) (t : ByteArray) : DkAt (w.setCell ⟨g, 2, none⟩ (.string t)) g a x t y := heap_setCell_same w g 2 _ _ _ h
theorem DkAt.put3 {w : World} {g : Nat} {a b : ByteArray} {x y : Int} (h : DkAt w g a x b y) (n : Int) : DkAt (w.setCell ⟨g, 3, none⟩ (.int .i64 n)) g a x b n := heap_setCell_same w g 3 _ _ _ h
theorem DkAt.other {w : World} {g : Nat} {a b : ByteArray} {x y : Int} (h : DkAt w g a x b y) {p : Addr} (v : Value) (hp : g ≠ p.block) : DkAt (w.setCell p v) g a x b y := (heap_setCell_other w p g v hp).trans h
theorem dk_two (w : World) (a : ByteArray) (x : Int) (b : ByteArray) (y : Int) : DkAt ((w.alloc (.cells #[.string a, .int .i64 x, .string b, .int .i64 y] 26)).alloc (.cells #[.string ⟨#[]⟩, .int .i64 0, .string ⟨#[]⟩, .int .i64 0] 26)) w.heap.size a x b y ∧ DkAt ((w.alloc (.cells #[.string a, .int .i64 x, .string b, .int .i64 y] 26)).alloc (.cells #[.string ⟨#[]⟩, .int .i64 0, .string ⟨#[]⟩, .int .i64 0] 26)) (w.heap.size + 1) ⟨#[]⟩ 0 ⟨#[]⟩ 0 ∧ Below w.heap.size w ((w.alloc (.cells #[.string a, .int .i64 x, .string b, .int .i64 y] 26)).alloc (.cells #[.string ⟨#[]⟩, .int .i64 0, .string ⟨#[]⟩, .int .i64 0] 26)) :=
  ⟨heap_alloc2_old w _ _, heap_alloc2_new w _ _, ((Below.refl _ w).alloc (Nat.le_refl _) _).alloc (by simp) _⟩
set_option maxRecDepth 20000 in
set_option maxHeartbeats 1000000 in
theorem copied_any (a : ByteArray) (x : Int) (b : ByteArray) (y : Int) (w : World) (ha : a.size ≤ 281474976710656) (hb : b.size ≤ 281474976710656) :
    Calls Try.prog 82 #[dkV a x b y] w fun e w' => e = .returned (dkV a x b y) ∧ Below w.heap.size w w' := by
  have HA : Hid _ := fun w => Clone_any a w ha
  have HB : Hid _ := fun w => Clone_any b w hb
  have HT : Hid _ := dk_two w a x b y
  go_enter Try.func82, Try.ntmps82
  go_wp2_with fail
  generalize (w.alloc (.cells #[.string a, .int .i64 x, .string b, .int .i64 y] 26)).alloc (.cells #[.string ⟨#[]⟩, .int .i64 0, .string ⟨#[]⟩, .int .i64 0] 26) = W at HT ⊢
  obtain ⟨B, hB⟩ : ∃ B, w.heap.size = B := ⟨_, rfl⟩
  rw [hB] at HT ⊢
  have HW : Hid (w.heap.size = B) := hB
  clear hB
  go_loopw [4] (fun i wr => (∃ k : Nat, k ≤ 2 ∧ i = .int .i64 k) ∧ DkAt wr B a x b y ∧ DkAt wr (B + 1) ⟨#[]⟩ 0 ⟨#[]⟩ 0 ∧ Below B w wr) (fun i _ => 2 - (intOf i).toNat)
  case atStart => exact ⟨⟨0, by omega, rfl⟩, HT.out⟩
  case round =>
    rename World => wr
    obtain ⟨⟨k, hk, rfl⟩, hd, hr, hbw⟩ := hrel
    have hk3 : k = 0 ∨ k = 1 ∨ k = 2 := by omega
    have HD : Hid (DkAt wr B a x b y) := hd
    have HR : Hid (DkAt wr (B + 1) ⟨#[]⟩ 0 ⟨#[]⟩ 0) := hr
    have HBw : Hid (Below B w wr) := hbw
    have hz := hr.lt
    have HW := HW
    clear hk hd hr hbw
    obtain ⟨c0, c1, c2, c3⟩ := HD.out.cells
    rcases hk3 with rfl | rfl | rfl
    · go_wp2_with fail
      refine (HA.out _).mono ?_
      rintro e w1 ⟨rfl, hb1⟩
      have HD1 : Hid (DkAt w1 B a x b y) := HD.out.below hb1 (by omega)
      have HR1 : Hid (DkAt w1 (B + 1) ⟨#[]⟩ 0 ⟨#[]⟩ 0) := HR.out.below hb1 hz
      have HB1 : Hid (Below B w w1) := HBw.out.trans (hb1.mono (by omega))
      have hz1 := HR1.out.lt
      clear hb1 c0 c1 c2 c3
      obtain ⟨f0, f1, f2, f3⟩ := HD1.out.free
      obtain ⟨c0, c1, c2, c3⟩ := HD1.out.cells
      go_wp2_with fail
      go_roundw
      case rel => exact ⟨⟨1, by omega, rfl⟩, HD1.out.put0 a, HR1.out.other _ (by simp), HB1.out.setCell (p := ⟨B, 0, none⟩) (Nat.le_refl _) _⟩
      case measure => simp [intOf]
    · go_wp2_with fail
      refine (HB.out _).mono ?_
      rintro e w1 ⟨rfl, hb1⟩
      have HD1 : Hid (DkAt w1 B a x b y) := HD.out.below hb1 (by omega)
      have HR1 : Hid (DkAt w1 (B + 1) ⟨#[]⟩ 0 ⟨#[]⟩ 0) := HR.out.below hb1 hz
      have HB1 : Hid (Below B w w1) := HBw.out.trans (hb1.mono (by omega))
      have hz1 := HR1.out.lt
      clear hb1 c0 c1 c2 c3
      obtain ⟨f0, f1, f2, f3⟩ := HD1.out.free
      obtain ⟨c0, c1, c2, c3⟩ := HD1.out.cells
      go_wp2_with fail
      go_roundw
      case rel => exact ⟨⟨2, by omega, rfl⟩, HD1.out.put2 b, HR1.out.other _ (by simp), HB1.out.setCell (p := ⟨B, 2, none⟩) (Nat.le_refl _) _⟩
      case measure => simp [intOf]
    · obtain ⟨f0, f1, f2, f3⟩ := HR.out.free
      obtain ⟨d0, d1, d2, d3⟩ := HR.out.cells
      go_wp2_with fail
      refine bodyPost_ret (v := dkV a x b y) (by simp [results, Try.results82, go_sem, *]) rfl ⟨rfl, ?_⟩
      rw [HW.out]
      exact (((HBw.out.setCell (p := ⟨B + 1, 0, none⟩) (by simp) _).setCell (p := ⟨B + 1, 1, none⟩) (by simp) _).setCell (p := ⟨B + 1, 2, none⟩) (by simp) _).setCell (p := ⟨B + 1, 3, none⟩) (by simp) _
end Go.Proofs.Ytgffippimmokiaa

/- What disk.Append, Sync and Trim answer. -/
namespace Go.Proofs.Ytgffippimmokiaa
open Go.RowKit
set_option linter.unusedSimpArgs false
set_option linter.unusedVariables false

abbrev dk0 : Value := .agg #[.string ⟨#[]⟩, .int .i64 0, .string ⟨#[]⟩, .int .i64 0]
theorem below_four {w w' : World} {B g : Nat} (h : Below B w w') (hg : B ≤ g) (v0 v1 v2 v3 : Value) : Below B w ((((w'.setCell ⟨g, 0, none⟩ v0).setCell ⟨g, 1, none⟩ v1).setCell ⟨g, 2, none⟩ v2).setCell ⟨g, 3, none⟩ v3) :=
  (((h.setCell (p := ⟨g, 0, none⟩) hg _).setCell (p := ⟨g, 1, none⟩) hg _).setCell (p := ⟨g, 2, none⟩) hg _).setCell (p := ⟨g, 3, none⟩) hg _

set_option maxRecDepth 20000 in
set_option maxHeartbeats 1000000 in
theorem DAppend_err (a : ByteArray) (x : Int) (b : ByteArray) (y : Int) (s : ByteArray) (i q : Int) (h : dksE a x b y i = q) (hq : q ≠ 0) (w : World) (ha : a.size ≤ 9223372036854775807) (hb : b.size ≤ 9223372036854775807) (hs : s.size ≤ 9223372036854775807) :
    Calls Try.prog 97 #[dkV a x b y, .int .i64 i, .string s] w fun e w' => e = .returned (.tuple #[dk0, .int .i64 q]) ∧ Below w.heap.size w w' := by
  have hq' : (q != 0) = true := by simp [hq]
  clear hq
  have HC : Hid _ := fun w => DSlot_any a x b y i w ha hb
  rw [h] at HC
  have HT : Hid _ := dk_two w a x b y
  go_enter Try.func97, Try.ntmps97
  go_wp2_with fail
  generalize (w.alloc (.cells #[.string a, .int .i64 x, .string b, .int .i64 y] 26)).alloc (.cells #[.string ⟨#[]⟩, .int .i64 0, .string ⟨#[]⟩, .int .i64 0] 26) = W at HT ⊢
  obtain ⟨B, hB⟩ : ∃ B, w.heap.size = B := ⟨_, rfl⟩
  rw [hB] at HT ⊢
  have HW : Hid (w.heap.size = B) := hB
  have hz := HT.out.2.1.lt
  clear hB
  refine (HC.out _).mono ?_
  rintro e w1 ⟨rfl, hb1⟩
  have HD1 : Hid (DkAt w1 B a x b y) := HT.out.1.below hb1 (by omega)
  have HR1 : Hid (DkAt w1 (B + 1) ⟨#[]⟩ 0 ⟨#[]⟩ 0) := HT.out.2.1.below hb1 hz
  have HB1 : Hid (Below B w w1) := HT.out.2.2.trans (hb1.mono (by omega))
  have hz1 := HR1.out.lt
  clear hb1
  obtain ⟨c0, c1, c2, c3⟩ := HD1.out.cells
  obtain ⟨f0, f1, f2, f3⟩ := HD1.out.free
  obtain ⟨d0, d1, d2, d3⟩ := HR1.out.cells
  obtain ⟨g0, g1, g2, g3⟩ := HR1.out.free
  go_wp2_with fail
  refine bodyPost_ret (v := .tuple #[dk0, .int .i64 q]) (by simp [results, Try.results97, go_sem, *]) rfl ⟨rfl, ?_⟩
  rw [HW.out]
  exact below_four HB1.out (by omega) _ _ _ _

set_option maxRecDepth 20000 in
set_option maxHeartbeats 1000000 in
theorem DAppend_big0 (a : ByteArray) (x : Int) (b : ByteArray) (y : Int) (s : ByteArray) (h : dksE a x b y 0 = 0) (hbig : 1048576 < a.size + s.size) (w : World) (ha : a.size ≤ 9223372036854775807) (hb : b.size ≤ 9223372036854775807) (hs : s.size ≤ 9223372036854775807) :
    Calls Try.prog 97 #[dkV a x b y, .int .i64 0, .string s] w fun e w' => e = .returned (.tuple #[dk0, .int .i64 2]) ∧ Below w.heap.size w w' := by
  obtain ⟨k1, k2⟩ := dk_zero (dks_zero h).1
  obtain ⟨m0, m1, m2⟩ := sl_zero k1
  obtain ⟨l0, l1, l2⟩ := sl_zero k2
  have hgt : 1048576 - (a.size : Int) < (s.size : Int) := by omega
  clear k1 k2 hbig
  have HC : Hid _ := fun w => DSlot_any a x b y 0 w ha hb
  rw [h] at HC
  have HT : Hid _ := dk_two w a x b y
  go_enter Try.func97, Try.ntmps97
  go_wp2_with fail
  generalize (w.alloc (.cells #[.string a, .int .i64 x, .string b, .int .i64 y] 26)).alloc (.cells #[.string ⟨#[]⟩, .int .i64 0, .string ⟨#[]⟩, .int .i64 0] 26) = W at HT ⊢
  obtain ⟨B, hB⟩ : ∃ B, w.heap.size = B := ⟨_, rfl⟩
  rw [hB] at HT ⊢
  have HW : Hid (w.heap.size = B) := hB
  have hz := HT.out.2.1.lt
  clear hB
  refine (HC.out _).mono ?_
  rintro e w1 ⟨rfl, hb1⟩
  have HD1 : Hid (DkAt w1 B a x b y) := HT.out.1.below hb1 (by omega)
  have HR1 : Hid (DkAt w1 (B + 1) ⟨#[]⟩ 0 ⟨#[]⟩ 0) := HT.out.2.1.below hb1 hz
  have HB1 : Hid (Below B w w1) := HT.out.2.2.trans (hb1.mono (by omega))
  have hz1 := HR1.out.lt
  clear hb1
  obtain ⟨c0, c1, c2, c3⟩ := HD1.out.cells
  obtain ⟨f0, f1, f2, f3⟩ := HD1.out.free
  obtain ⟨d0, d1, d2, d3⟩ := HR1.out.cells
  obtain ⟨g0, g1, g2, g3⟩ := HR1.out.free
  go_wp2_with fail
  refine bodyPost_ret (v := .tuple #[dk0, .int .i64 2]) (by simp [results, Try.results97, go_sem, *]) rfl ⟨rfl, ?_⟩
  rw [HW.out]
  exact below_four HB1.out (by omega) _ _ _ _

set_option maxRecDepth 20000 in
set_option maxHeartbeats 1000000 in
theorem DAppend_ok0 (a : ByteArray) (x : Int) (b : ByteArray) (y : Int) (s : ByteArray) (h : dksE a x b y 0 = 0) (hfit : a.size + s.size ≤ 1048576) (w : World) (ha : a.size ≤ 9223372036854775807) (hb : b.size ≤ 9223372036854775807) (hs : s.size ≤ 9223372036854775807) :
    Calls Try.prog 97 #[dkV a x b y, .int .i64 0, .string s] w fun e w' => e = .returned (.tuple #[dkV (a ++ s) x b y, .int .i64 0]) ∧ Below w.heap.size w w' := by
  obtain ⟨k1, k2⟩ := dk_zero (dks_zero h).1
  obtain ⟨m0, m1, m2⟩ := sl_zero k1
  obtain ⟨l0, l1, l2⟩ := sl_zero k2
  have hgt : ¬ 1048576 - (a.size : Int) < (s.size : Int) := by omega
  have hsz : (a ++ s).size ≤ 1048576 := by rw [ByteArray.size_append]; exact hfit
  have HK : Hid _ := fun w => copied_any (a ++ s) x b y w (by omega) (by omega)
  clear k1 k2 hsz
  have HC : Hid _ := fun w => DSlot_any a x b y 0 w ha hb
  rw [h] at HC
  have HT : Hid _ := dk_two w a x b y
  go_enter Try.func97, Try.ntmps97
  go_wp2_with fail
  generalize (w.alloc (.cells #[.string a, .int .i64 x, .string b, .int .i64 y] 26)).alloc (.cells #[.string ⟨#[]⟩, .int .i64 0, .string ⟨#[]⟩, .int .i64 0] 26) = W at HT ⊢
  obtain ⟨B, hB⟩ : ∃ B, w.heap.size = B := ⟨_, rfl⟩
  rw [hB] at HT ⊢
  have HW : Hid (w.heap.size = B) := hB
  have hz := HT.out.2.1.lt
  clear hB
  refine (HC.out _).mono ?_
  rintro e w1 ⟨rfl, hb1⟩
  have HD1 : Hid (DkAt w1 B a x b y) := HT.out.1.below hb1 (by omega)
  have HR1 : Hid (DkAt w1 (B + 1) ⟨#[]⟩ 0 ⟨#[]⟩ 0) := HT.out.2.1.below hb1 hz
  have HB1 : Hid (Below B w w1) := HT.out.2.2.trans (hb1.mono (by omega))
  have hz1 := HR1.out.lt
  clear hb1
  obtain ⟨c0, c1, c2, c3⟩ := HD1.out.cells
  obtain ⟨f0, f1, f2, f3⟩ := HD1.out.free
  go_wp2_with fail
  refine (HK.out _).mono ?_
  rintro e w2 ⟨rfl, hb2⟩
  have HR2 : Hid (DkAt w2 (B + 1) ⟨#[]⟩ 0 ⟨#[]⟩ 0) := (HR1.out.other _ (by simp)).below hb2 (by simp; omega)
  have HB2 : Hid (Below B w w2) := (HB1.out.setCell (p := ⟨B, 0, none⟩) (Nat.le_refl _) _).trans (hb2.mono (by simp; omega))
  clear hb2 c0 c1 c2 c3 f0 f1 f2 f3
  obtain ⟨d0, d1, d2, d3⟩ := HR2.out.cells
  obtain ⟨g0, g1, g2, g3⟩ := HR2.out.free
  go_wp2_with fail
  refine bodyPost_ret (v := .tuple #[dkV (a ++ s) x b y, .int .i64 0]) (by simp [results, Try.results97, go_sem, *]) rfl ⟨rfl, ?_⟩
  rw [HW.out]
  exact below_four HB2.out (by omega) _ _ _ _

set_option maxRecDepth 20000 in
set_option maxHeartbeats 1000000 in
theorem DAppend_big1 (a : ByteArray) (x : Int) (b : ByteArray) (y : Int) (s : ByteArray) (h : dksE a x b y 1 = 0) (hbig : 1048576 < b.size + s.size) (w : World) (ha : a.size ≤ 9223372036854775807) (hb : b.size ≤ 9223372036854775807) (hs : s.size ≤ 9223372036854775807) :
    Calls Try.prog 97 #[dkV a x b y, .int .i64 1, .string s] w fun e w' => e = .returned (.tuple #[dk0, .int .i64 2]) ∧ Below w.heap.size w w' := by
  obtain ⟨k1, k2⟩ := dk_zero (dks_zero h).1
  obtain ⟨m0, m1, m2⟩ := sl_zero k2
  obtain ⟨l0, l1, l2⟩ := sl_zero k1
  have hgt : 1048576 - (b.size : Int) < (s.size : Int) := by omega
  clear k1 k2 hbig
  have HC : Hid _ := fun w => DSlot_any a x b y 1 w ha hb
  rw [h] at HC
  have HT : Hid _ := dk_two w a x b y
  go_enter Try.func97, Try.ntmps97
  go_wp2_with fail
  generalize (w.alloc (.cells #[.string a, .int .i64 x, .string b, .int .i64 y] 26)).alloc (.cells #[.string ⟨#[]⟩, .int .i64 0, .string ⟨#[]⟩, .int .i64 0] 26) = W at HT ⊢
  obtain ⟨B, hB⟩ : ∃ B, w.heap.size = B := ⟨_, rfl⟩
  rw [hB] at HT ⊢
  have HW : Hid (w.heap.size = B) := hB
  have hz := HT.out.2.1.lt
  clear hB
  refine (HC.out _).mono ?_
  rintro e w1 ⟨rfl, hb1⟩
  have HD1 : Hid (DkAt w1 B a x b y) := HT.out.1.below hb1 (by omega)
  have HR1 : Hid (DkAt w1 (B + 1) ⟨#[]⟩ 0 ⟨#[]⟩ 0) := HT.out.2.1.below hb1 hz
  have HB1 : Hid (Below B w w1) := HT.out.2.2.trans (hb1.mono (by omega))
  have hz1 := HR1.out.lt
  clear hb1
  obtain ⟨c0, c1, c2, c3⟩ := HD1.out.cells
  obtain ⟨f0, f1, f2, f3⟩ := HD1.out.free
  obtain ⟨d0, d1, d2, d3⟩ := HR1.out.cells
  obtain ⟨g0, g1, g2, g3⟩ := HR1.out.free
  go_wp2_with fail
  refine bodyPost_ret (v := .tuple #[dk0, .int .i64 2]) (by simp [results, Try.results97, go_sem, *]) rfl ⟨rfl, ?_⟩
  rw [HW.out]
  exact below_four HB1.out (by omega) _ _ _ _

set_option maxRecDepth 20000 in
set_option maxHeartbeats 1000000 in
theorem DAppend_ok1 (a : ByteArray) (x : Int) (b : ByteArray) (y : Int) (s : ByteArray) (h : dksE a x b y 1 = 0) (hfit : b.size + s.size ≤ 1048576) (w : World) (ha : a.size ≤ 9223372036854775807) (hb : b.size ≤ 9223372036854775807) (hs : s.size ≤ 9223372036854775807) :
    Calls Try.prog 97 #[dkV a x b y, .int .i64 1, .string s] w fun e w' => e = .returned (.tuple #[dkV a x (b ++ s) y, .int .i64 0]) ∧ Below w.heap.size w w' := by
  obtain ⟨k1, k2⟩ := dk_zero (dks_zero h).1
  obtain ⟨m0, m1, m2⟩ := sl_zero k2
  obtain ⟨l0, l1, l2⟩ := sl_zero k1
  have hgt : ¬ 1048576 - (b.size : Int) < (s.size : Int) := by omega
  have hsz : (b ++ s).size ≤ 1048576 := by rw [ByteArray.size_append]; exact hfit
  have HK : Hid _ := fun w => copied_any a x (b ++ s) y w (by omega) (by omega)
  clear k1 k2 hsz
  have HC : Hid _ := fun w => DSlot_any a x b y 1 w ha hb
  rw [h] at HC
  have HT : Hid _ := dk_two w a x b y
  go_enter Try.func97, Try.ntmps97
  go_wp2_with fail
  generalize (w.alloc (.cells #[.string a, .int .i64 x, .string b, .int .i64 y] 26)).alloc (.cells #[.string ⟨#[]⟩, .int .i64 0, .string ⟨#[]⟩, .int .i64 0] 26) = W at HT ⊢
  obtain ⟨B, hB⟩ : ∃ B, w.heap.size = B := ⟨_, rfl⟩
  rw [hB] at HT ⊢
  have HW : Hid (w.heap.size = B) := hB
  have hz := HT.out.2.1.lt
  clear hB
  refine (HC.out _).mono ?_
  rintro e w1 ⟨rfl, hb1⟩
  have HD1 : Hid (DkAt w1 B a x b y) := HT.out.1.below hb1 (by omega)
  have HR1 : Hid (DkAt w1 (B + 1) ⟨#[]⟩ 0 ⟨#[]⟩ 0) := HT.out.2.1.below hb1 hz
  have HB1 : Hid (Below B w w1) := HT.out.2.2.trans (hb1.mono (by omega))
  have hz1 := HR1.out.lt
  clear hb1
  obtain ⟨c0, c1, c2, c3⟩ := HD1.out.cells
  obtain ⟨f0, f1, f2, f3⟩ := HD1.out.free
  go_wp2_with fail
  refine (HK.out _).mono ?_
  rintro e w2 ⟨rfl, hb2⟩
  have HR2 : Hid (DkAt w2 (B + 1) ⟨#[]⟩ 0 ⟨#[]⟩ 0) := (HR1.out.other _ (by simp)).below hb2 (by simp; omega)
  have HB2 : Hid (Below B w w2) := (HB1.out.setCell (p := ⟨B, 2, none⟩) (Nat.le_refl _) _).trans (hb2.mono (by simp; omega))
  clear hb2 c0 c1 c2 c3 f0 f1 f2 f3
  obtain ⟨d0, d1, d2, d3⟩ := HR2.out.cells
  obtain ⟨g0, g1, g2, g3⟩ := HR2.out.free
  go_wp2_with fail
  refine bodyPost_ret (v := .tuple #[dkV a x (b ++ s) y, .int .i64 0]) (by simp [results, Try.results97, go_sem, *]) rfl ⟨rfl, ?_⟩
  rw [HW.out]
  exact below_four HB2.out (by omega) _ _ _ _

set_option maxRecDepth 20000 in
set_option maxHeartbeats 1000000 in
theorem DSync_err (a : ByteArray) (x : Int) (b : ByteArray) (y : Int)  (i q : Int) (h : dksE a x b y i = q) (hq : q ≠ 0) (w : World) (ha : a.size ≤ 9223372036854775807) (hb : b.size ≤ 9223372036854775807) :
    Calls Try.prog 38 #[dkV a x b y, .int .i64 i] w fun e w' => e = .returned (.tuple #[dk0, .int .i64 q]) ∧ Below w.heap.size w w' := by
  have hq' : (q != 0) = true := by simp [hq]
  clear hq
  have HC : Hid _ := fun w => DSlot_any a x b y i w ha hb
  rw [h] at HC
  have HT : Hid _ := dk_two w a x b y
  go_enter Try.func38, Try.ntmps38
  go_wp2_with fail
  generalize (w.alloc (.cells #[.string a, .int .i64 x, .string b, .int .i64 y] 26)).alloc (.cells #[.string ⟨#[]⟩, .int .i64 0, .string ⟨#[]⟩, .int .i64 0] 26) = W at HT ⊢
  obtain ⟨B, hB⟩ : ∃ B, w.heap.size = B := ⟨_, rfl⟩
  rw [hB] at HT ⊢
  have HW : Hid (w.heap.size = B) := hB
  have hz := HT.out.2.1.lt
  clear hB
  refine (HC.out _).mono ?_
  rintro e w1 ⟨rfl, hb1⟩
  have HD1 : Hid (DkAt w1 B a x b y) := HT.out.1.below hb1 (by omega)
  have HR1 : Hid (DkAt w1 (B + 1) ⟨#[]⟩ 0 ⟨#[]⟩ 0) := HT.out.2.1.below hb1 hz
  have HB1 : Hid (Below B w w1) := HT.out.2.2.trans (hb1.mono (by omega))
  have hz1 := HR1.out.lt
  clear hb1
  obtain ⟨c0, c1, c2, c3⟩ := HD1.out.cells
  obtain ⟨f0, f1, f2, f3⟩ := HD1.out.free
  obtain ⟨d0, d1, d2, d3⟩ := HR1.out.cells
  obtain ⟨g0, g1, g2, g3⟩ := HR1.out.free
  go_wp2_with fail
  refine bodyPost_ret (v := .tuple #[dk0, .int .i64 q]) (by simp [results, Try.results38, go_sem, *]) rfl ⟨rfl, ?_⟩
  rw [HW.out]
  exact below_four HB1.out (by omega) _ _ _ _

set_option maxRecDepth 20000 in
set_option maxHeartbeats 1000000 in
theorem DSync_ok0 (a : ByteArray) (x : Int) (b : ByteArray) (y : Int)  (h : dksE a x b y 0 = 0) (w : World) (ha : a.size ≤ 9223372036854775807) (hb : b.size ≤ 9223372036854775807) :
    Calls Try.prog 38 #[dkV a x b y, .int .i64 0] w fun e w' => e = .returned (.tuple #[dkV a a.size b y, .int .i64 0]) ∧ Below w.heap.size w w' := by
  obtain ⟨k1, k2⟩ := dk_zero (dks_zero h).1
  obtain ⟨m0, m1, m2⟩ := sl_zero k1
  obtain ⟨l0, l1, l2⟩ := sl_zero k2
  have HK : Hid _ := fun w => copied_any a a.size b y w (by omega) (by omega)
  clear k1 k2
  have HC : Hid _ := fun w => DSlot_any a x b y 0 w ha hb
  rw [h] at HC
  have HT : Hid _ := dk_two w a x b y
  go_enter Try.func38, Try.ntmps38
  go_wp2_with fail
  generalize (w.alloc (.cells #[.string a, .int .i64 x, .string b, .int .i64 y] 26)).alloc (.cells #[.string ⟨#[]⟩, .int .i64 0, .string ⟨#[]⟩, .int .i64 0] 26) = W at HT ⊢
  obtain ⟨B, hB⟩ : ∃ B, w.heap.size = B := ⟨_, rfl⟩
  rw [hB] at HT ⊢
  have HW : Hid (w.heap.size = B) := hB
  have hz := HT.out.2.1.lt
  clear hB
  refine (HC.out _).mono ?_
  rintro e w1 ⟨rfl, hb1⟩
  have HD1 : Hid (DkAt w1 B a x b y) := HT.out.1.below hb1 (by omega)
  have HR1 : Hid (DkAt w1 (B + 1) ⟨#[]⟩ 0 ⟨#[]⟩ 0) := HT.out.2.1.below hb1 hz
  have HB1 : Hid (Below B w w1) := HT.out.2.2.trans (hb1.mono (by omega))
  have hz1 := HR1.out.lt
  clear hb1
  obtain ⟨c0, c1, c2, c3⟩ := HD1.out.cells
  obtain ⟨f0, f1, f2, f3⟩ := HD1.out.free
  go_wp2_with fail
  refine (HK.out _).mono ?_
  rintro e w2 ⟨rfl, hb2⟩
  have HR2 : Hid (DkAt w2 (B + 1) ⟨#[]⟩ 0 ⟨#[]⟩ 0) := (HR1.out.other _ (by simp)).below hb2 (by simp; omega)
  have HB2 : Hid (Below B w w2) := (HB1.out.setCell (p := ⟨B, 1, none⟩) (Nat.le_refl _) _).trans (hb2.mono (by simp; omega))
  clear hb2 c0 c1 c2 c3 f0 f1 f2 f3
  obtain ⟨d0, d1, d2, d3⟩ := HR2.out.cells
  obtain ⟨g0, g1, g2, g3⟩ := HR2.out.free
  go_wp2_with fail
  refine bodyPost_ret (v := .tuple #[dkV a a.size b y, .int .i64 0]) (by simp [results, Try.results38, go_sem, *]) rfl ⟨rfl, ?_⟩
  rw [HW.out]
  exact below_four HB2.out (by omega) _ _ _ _

set_option maxRecDepth 20000 in
set_option maxHeartbeats 1000000 in
theorem DSync_ok1 (a : ByteArray) (x : Int) (b : ByteArray) (y : Int)  (h : dksE a x b y 1 = 0) (w : World) (ha : a.size ≤ 9223372036854775807) (hb : b.size ≤ 9223372036854775807) :
    Calls Try.prog 38 #[dkV a x b y, .int .i64 1] w fun e w' => e = .returned (.tuple #[dkV a x b b.size, .int .i64 0]) ∧ Below w.heap.size w w' := by
  obtain ⟨k1, k2⟩ := dk_zero (dks_zero h).1
  obtain ⟨m0, m1, m2⟩ := sl_zero k2
  obtain ⟨l0, l1, l2⟩ := sl_zero k1
  have HK : Hid _ := fun w => copied_any a x b b.size w (by omega) (by omega)
  clear k1 k2
  have HC : Hid _ := fun w => DSlot_any a x b y 1 w ha hb
  rw [h] at HC
  have HT : Hid _ := dk_two w a x b y
  go_enter Try.func38, Try.ntmps38
  go_wp2_with fail
  generalize (w.alloc (.cells #[.string a, .int .i64 x, .string b, .int .i64 y] 26)).alloc (.cells #[.string ⟨#[]⟩, .int .i64 0, .string ⟨#[]⟩, .int .i64 0] 26) = W at HT ⊢
  obtain ⟨B, hB⟩ : ∃ B, w.heap.size = B := ⟨_, rfl⟩
  rw [hB] at HT ⊢
  have HW : Hid (w.heap.size = B) := hB
  have hz := HT.out.2.1.lt
  clear hB
  refine (HC.out _).mono ?_
  rintro e w1 ⟨rfl, hb1⟩
  have HD1 : Hid (DkAt w1 B a x b y) := HT.out.1.below hb1 (by omega)
  have HR1 : Hid (DkAt w1 (B + 1) ⟨#[]⟩ 0 ⟨#[]⟩ 0) := HT.out.2.1.below hb1 hz
  have HB1 : Hid (Below B w w1) := HT.out.2.2.trans (hb1.mono (by omega))
  have hz1 := HR1.out.lt
  clear hb1
  obtain ⟨c0, c1, c2, c3⟩ := HD1.out.cells
  obtain ⟨f0, f1, f2, f3⟩ := HD1.out.free
  go_wp2_with fail
  refine (HK.out _).mono ?_
  rintro e w2 ⟨rfl, hb2⟩
  have HR2 : Hid (DkAt w2 (B + 1) ⟨#[]⟩ 0 ⟨#[]⟩ 0) := (HR1.out.other _ (by simp)).below hb2 (by simp; omega)
  have HB2 : Hid (Below B w w2) := (HB1.out.setCell (p := ⟨B, 3, none⟩) (Nat.le_refl _) _).trans (hb2.mono (by simp; omega))
  clear hb2 c0 c1 c2 c3 f0 f1 f2 f3
  obtain ⟨d0, d1, d2, d3⟩ := HR2.out.cells
  obtain ⟨g0, g1, g2, g3⟩ := HR2.out.free
  go_wp2_with fail
  refine bodyPost_ret (v := .tuple #[dkV a x b b.size, .int .i64 0]) (by simp [results, Try.results38, go_sem, *]) rfl ⟨rfl, ?_⟩
  rw [HW.out]
  exact below_four HB2.out (by omega) _ _ _ _

set_option maxRecDepth 20000 in
set_option maxHeartbeats 1000000 in
theorem DTrim_err (a : ByteArray) (x : Int) (b : ByteArray) (y : Int) (n : Int) (i q : Int) (h : dksE a x b y i = q) (hq : q ≠ 0) (w : World) (ha : a.size ≤ 9223372036854775807) (hb : b.size ≤ 9223372036854775807) :
    Calls Try.prog 37 #[dkV a x b y, .int .i64 i, .int .i64 n] w fun e w' => e = .returned (.tuple #[dk0, .int .i64 q]) ∧ Below w.heap.size w w' := by
  have hq' : (q != 0) = true := by simp [hq]
  clear hq
  have HC : Hid _ := fun w => DSlot_any a x b y i w ha hb
  rw [h] at HC
  have HT : Hid _ := dk_two w a x b y
  go_enter Try.func37, Try.ntmps37
  go_wp2_with fail
  generalize (w.alloc (.cells #[.string a, .int .i64 x, .string b, .int .i64 y] 26)).alloc (.cells #[.string ⟨#[]⟩, .int .i64 0, .string ⟨#[]⟩, .int .i64 0] 26) = W at HT ⊢
  obtain ⟨B, hB⟩ : ∃ B, w.heap.size = B := ⟨_, rfl⟩
  rw [hB] at HT ⊢
  have HW : Hid (w.heap.size = B) := hB
  have hz := HT.out.2.1.lt
  clear hB
  refine (HC.out _).mono ?_
  rintro e w1 ⟨rfl, hb1⟩
  have HD1 : Hid (DkAt w1 B a x b y) := HT.out.1.below hb1 (by omega)
  have HR1 : Hid (DkAt w1 (B + 1) ⟨#[]⟩ 0 ⟨#[]⟩ 0) := HT.out.2.1.below hb1 hz
  have HB1 : Hid (Below B w w1) := HT.out.2.2.trans (hb1.mono (by omega))
  have hz1 := HR1.out.lt
  clear hb1
  obtain ⟨c0, c1, c2, c3⟩ := HD1.out.cells
  obtain ⟨f0, f1, f2, f3⟩ := HD1.out.free
  obtain ⟨d0, d1, d2, d3⟩ := HR1.out.cells
  obtain ⟨g0, g1, g2, g3⟩ := HR1.out.free
  go_wp2_with fail
  refine bodyPost_ret (v := .tuple #[dk0, .int .i64 q]) (by simp [results, Try.results37, go_sem, *]) rfl ⟨rfl, ?_⟩
  rw [HW.out]
  exact below_four HB1.out (by omega) _ _ _ _

set_option maxRecDepth 20000 in
set_option maxHeartbeats 1000000 in
theorem DTrim_arg0 (a : ByteArray) (x : Int) (b : ByteArray) (y : Int) (n : Int) (h : dksE a x b y 0 = 0) (hn : n < 0 ∨ (a.size : Int) < n) (w : World) (ha : a.size ≤ 9223372036854775807) (hb : b.size ≤ 9223372036854775807) :
    Calls Try.prog 37 #[dkV a x b y, .int .i64 0, .int .i64 n] w fun e w' => e = .returned (.tuple #[dk0, .int .i64 1]) ∧ Below w.heap.size w w' := by
  obtain ⟨k1, k2⟩ := dk_zero (dks_zero h).1
  obtain ⟨m0, m1, m2⟩ := sl_zero k1
  obtain ⟨l0, l1, l2⟩ := sl_zero k2
  clear k1 k2
  have HC : Hid _ := fun w => DSlot_any a x b y 0 w ha hb
  rw [h] at HC
  have HT : Hid _ := dk_two w a x b y
  go_enter Try.func37, Try.ntmps37
  go_wp2_with fail
  generalize (w.alloc (.cells #[.string a, .int .i64 x, .string b, .int .i64 y] 26)).alloc (.cells #[.string ⟨#[]⟩, .int .i64 0, .string ⟨#[]⟩, .int .i64 0] 26) = W at HT ⊢
  obtain ⟨B, hB⟩ : ∃ B, w.heap.size = B := ⟨_, rfl⟩
  rw [hB] at HT ⊢
  have HW : Hid (w.heap.size = B) := hB
  have hz := HT.out.2.1.lt
  clear hB
  refine (HC.out _).mono ?_
  rintro e w1 ⟨rfl, hb1⟩
  have HD1 : Hid (DkAt w1 B a x b y) := HT.out.1.below hb1 (by omega)
  have HR1 : Hid (DkAt w1 (B + 1) ⟨#[]⟩ 0 ⟨#[]⟩ 0) := HT.out.2.1.below hb1 hz
  have HB1 : Hid (Below B w w1) := HT.out.2.2.trans (hb1.mono (by omega))
  have hz1 := HR1.out.lt
  clear hb1
  obtain ⟨c0, c1, c2, c3⟩ := HD1.out.cells
  obtain ⟨f0, f1, f2, f3⟩ := HD1.out.free
  obtain ⟨d0, d1, d2, d3⟩ := HR1.out.cells
  obtain ⟨g0, g1, g2, g3⟩ := HR1.out.free
  rcases hn with hn | hn
  · go_wp2_with fail
    refine bodyPost_ret (v := .tuple #[dk0, .int .i64 1]) (by simp [results, Try.results37, go_sem, *]) rfl ⟨rfl, ?_⟩
    rw [HW.out]
    exact below_four HB1.out (by omega) _ _ _ _
  · by_cases hn0 : n < 0
    · clear hn
      go_wp2_with fail
      refine bodyPost_ret (v := .tuple #[dk0, .int .i64 1]) (by simp [results, Try.results37, go_sem, *]) rfl ⟨rfl, ?_⟩
      rw [HW.out]
      exact below_four HB1.out (by omega) _ _ _ _
    · go_wp2_with fail
      refine bodyPost_ret (v := .tuple #[dk0, .int .i64 1]) (by simp [results, Try.results37, go_sem, *]) rfl ⟨rfl, ?_⟩
      rw [HW.out]
      exact below_four HB1.out (by omega) _ _ _ _

set_option maxRecDepth 20000 in
set_option maxHeartbeats 1000000 in
theorem DTrim_ok0 (a : ByteArray) (x : Int) (b : ByteArray) (y : Int) (n : Nat) (h : dksE a x b y 0 = 0) (hn : n ≤ a.size) (w : World) (ha : a.size ≤ 9223372036854775807) (hb : b.size ≤ 9223372036854775807) :
    Calls Try.prog 37 #[dkV a x b y, .int .i64 0, .int .i64 (n : Int)] w fun e w' => e = .returned (.tuple #[dkV (a.extract 0 n) (min x n) b y, .int .i64 0]) ∧ Below w.heap.size w w' := by
  obtain ⟨k1, k2⟩ := dk_zero (dks_zero h).1
  obtain ⟨m0, m1, m2⟩ := sl_zero k1
  obtain ⟨l0, l1, l2⟩ := sl_zero k2
  have hsz : (a.extract 0 n).size ≤ 1048576 := by rw [ByteArray.size_extract]; omega
  obtain ⟨m, hm⟩ : ∃ m, min x (n : Int) = m := ⟨_, rfl⟩
  have hmr : ∀ w : World, (Builtin.min_ #[3, 3] 3 #[.int .i64 x, .int .i64 (n : Int)]).run Try.prog w = .ok (.int .i64 m) w := by
    intro w
    rw [run_min_int2]
    congr 2
    rw [← hm]; split <;> omega
  rw [hm]
  have n0 : ¬ (n : Int) < 0 := by omega
  have n1 : ¬ (a.size : Int) < (n : Int) := by omega
  have HK : Hid _ := fun w => copied_any (a.extract 0 n) m b y w (by omega) (by omega)
  clear k1 k2 hsz hm
  have HC : Hid _ := fun w => DSlot_any a x b y 0 w ha hb
  rw [h] at HC
  have HT : Hid _ := dk_two w a x b y
  go_enter Try.func37, Try.ntmps37
  go_wp2_with fail
  generalize (w.alloc (.cells #[.string a, .int .i64 x, .string b, .int .i64 y] 26)).alloc (.cells #[.string ⟨#[]⟩, .int .i64 0, .string ⟨#[]⟩, .int .i64 0] 26) = W at HT ⊢
  obtain ⟨B, hB⟩ : ∃ B, w.heap.size = B := ⟨_, rfl⟩
  rw [hB] at HT ⊢
  have HW : Hid (w.heap.size = B) := hB
  have hz := HT.out.2.1.lt
  clear hB
  refine (HC.out _).mono ?_
  rintro e w1 ⟨rfl, hb1⟩
  have HD1 : Hid (DkAt w1 B a x b y) := HT.out.1.below hb1 (by omega)
  have HR1 : Hid (DkAt w1 (B + 1) ⟨#[]⟩ 0 ⟨#[]⟩ 0) := HT.out.2.1.below hb1 hz
  have HB1 : Hid (Below B w w1) := HT.out.2.2.trans (hb1.mono (by omega))
  have hz1 := HR1.out.lt
  clear hb1
  obtain ⟨c0, c1, c2, c3⟩ := HD1.out.cells
  obtain ⟨f0, f1, f2, f3⟩ := HD1.out.free
  go_wp2_with fail
  refine (HK.out _).mono ?_
  rintro e w2 ⟨rfl, hb2⟩
  have HR2 : Hid (DkAt w2 (B + 1) ⟨#[]⟩ 0 ⟨#[]⟩ 0) := ((HR1.out.other _ (by simp)).other _ (by simp)).below hb2 (by simp; omega)
  have HB2 : Hid (Below B w w2) := ((HB1.out.setCell (p := ⟨B, 0, none⟩) (Nat.le_refl _) _).setCell (p := ⟨B, 1, none⟩) (Nat.le_refl _) _).trans (hb2.mono (by simp; omega))
  clear hb2 c0 c1 c2 c3 f0 f1 f2 f3
  obtain ⟨d0, d1, d2, d3⟩ := HR2.out.cells
  obtain ⟨g0, g1, g2, g3⟩ := HR2.out.free
  go_wp2_with fail
  refine bodyPost_ret (v := .tuple #[dkV (a.extract 0 n) m b y, .int .i64 0]) (by simp [results, Try.results37, go_sem, *]) rfl ⟨rfl, ?_⟩
  rw [HW.out]
  exact below_four HB2.out (by omega) _ _ _ _

set_option maxRecDepth 20000 in
set_option maxHeartbeats 1000000 in
theorem DTrim_arg1 (a : ByteArray) (x : Int) (b : ByteArray) (y : Int) (n : Int) (h : dksE a x b y 1 = 0) (hn : n < 0 ∨ (b.size : Int) < n) (w : World) (ha : a.size ≤ 9223372036854775807) (hb : b.size ≤ 9223372036854775807) :
    Calls Try.prog 37 #[dkV a x b y, .int .i64 1, .int .i64 n] w fun e w' => e = .returned (.tuple #[dk0, .int .i64 1]) ∧ Below w.heap.size w w' := by
  obtain ⟨k1, k2⟩ := dk_zero (dks_zero h).1
  obtain ⟨m0, m1, m2⟩ := sl_zero k2
  obtain ⟨l0, l1, l2⟩ := sl_zero k1
  clear k1 k2
  have HC : Hid _ := fun w => DSlot_any a x b y 1 w ha hb
  rw [h] at HC
  have HT : Hid _ := dk_two w a x b y
  go_enter Try.func37, Try.ntmps37
  go_wp2_with fail
  generalize (w.alloc (.cells #[.string a, .int .i64 x, .string b, .int .i64 y] 26)).alloc (.cells #[.string ⟨#[]⟩, .int .i64 0, .string ⟨#[]⟩, .int .i64 0] 26) = W at HT ⊢
  obtain ⟨B, hB⟩ : ∃ B, w.heap.size = B := ⟨_, rfl⟩
  rw [hB] at HT ⊢
  have HW : Hid (w.heap.size = B) := hB
  have hz := HT.out.2.1.lt
  clear hB
  refine (HC.out _).mono ?_
  rintro e w1 ⟨rfl, hb1⟩
  have HD1 : Hid (DkAt w1 B a x b y) := HT.out.1.below hb1 (by omega)
  have HR1 : Hid (DkAt w1 (B + 1) ⟨#[]⟩ 0 ⟨#[]⟩ 0) := HT.out.2.1.below hb1 hz
  have HB1 : Hid (Below B w w1) := HT.out.2.2.trans (hb1.mono (by omega))
  have hz1 := HR1.out.lt
  clear hb1
  obtain ⟨c0, c1, c2, c3⟩ := HD1.out.cells
  obtain ⟨f0, f1, f2, f3⟩ := HD1.out.free
  obtain ⟨d0, d1, d2, d3⟩ := HR1.out.cells
  obtain ⟨g0, g1, g2, g3⟩ := HR1.out.free
  rcases hn with hn | hn
  · go_wp2_with fail
    refine bodyPost_ret (v := .tuple #[dk0, .int .i64 1]) (by simp [results, Try.results37, go_sem, *]) rfl ⟨rfl, ?_⟩
    rw [HW.out]
    exact below_four HB1.out (by omega) _ _ _ _
  · by_cases hn0 : n < 0
    · clear hn
      go_wp2_with fail
      refine bodyPost_ret (v := .tuple #[dk0, .int .i64 1]) (by simp [results, Try.results37, go_sem, *]) rfl ⟨rfl, ?_⟩
      rw [HW.out]
      exact below_four HB1.out (by omega) _ _ _ _
    · go_wp2_with fail
      refine bodyPost_ret (v := .tuple #[dk0, .int .i64 1]) (by simp [results, Try.results37, go_sem, *]) rfl ⟨rfl, ?_⟩
      rw [HW.out]
      exact below_four HB1.out (by omega) _ _ _ _

set_option maxRecDepth 20000 in
set_option maxHeartbeats 1000000 in
theorem DTrim_ok1 (a : ByteArray) (x : Int) (b : ByteArray) (y : Int) (n : Nat) (h : dksE a x b y 1 = 0) (hn : n ≤ b.size) (w : World) (ha : a.size ≤ 9223372036854775807) (hb : b.size ≤ 9223372036854775807) :
    Calls Try.prog 37 #[dkV a x b y, .int .i64 1, .int .i64 (n : Int)] w fun e w' => e = .returned (.tuple #[dkV a x (b.extract 0 n) (min y n), .int .i64 0]) ∧ Below w.heap.size w w' := by
  obtain ⟨k1, k2⟩ := dk_zero (dks_zero h).1
  obtain ⟨m0, m1, m2⟩ := sl_zero k2
  obtain ⟨l0, l1, l2⟩ := sl_zero k1
  have hsz : (b.extract 0 n).size ≤ 1048576 := by rw [ByteArray.size_extract]; omega
  obtain ⟨m, hm⟩ : ∃ m, min y (n : Int) = m := ⟨_, rfl⟩
  have hmr : ∀ w : World, (Builtin.min_ #[3, 3] 3 #[.int .i64 y, .int .i64 (n : Int)]).run Try.prog w = .ok (.int .i64 m) w := by
    intro w
    rw [run_min_int2]
    congr 2
    rw [← hm]; split <;> omega
  rw [hm]
  have n0 : ¬ (n : Int) < 0 := by omega
  have n1 : ¬ (b.size : Int) < (n : Int) := by omega
  have HK : Hid _ := fun w => copied_any a x (b.extract 0 n) m w (by omega) (by omega)
  clear k1 k2 hsz hm
  have HC : Hid _ := fun w => DSlot_any a x b y 1 w ha hb
  rw [h] at HC
  have HT : Hid _ := dk_two w a x b y
  go_enter Try.func37, Try.ntmps37
  go_wp2_with fail
  generalize (w.alloc (.cells #[.string a, .int .i64 x, .string b, .int .i64 y] 26)).alloc (.cells #[.string ⟨#[]⟩, .int .i64 0, .string ⟨#[]⟩, .int .i64 0] 26) = W at HT ⊢
  obtain ⟨B, hB⟩ : ∃ B, w.heap.size = B := ⟨_, rfl⟩
  rw [hB] at HT ⊢
  have HW : Hid (w.heap.size = B) := hB
  have hz := HT.out.2.1.lt
  clear hB
  refine (HC.out _).mono ?_
  rintro e w1 ⟨rfl, hb1⟩
  have HD1 : Hid (DkAt w1 B a x b y) := HT.out.1.below hb1 (by omega)
  have HR1 : Hid (DkAt w1 (B + 1) ⟨#[]⟩ 0 ⟨#[]⟩ 0) := HT.out.2.1.below hb1 hz
  have HB1 : Hid (Below B w w1) := HT.out.2.2.trans (hb1.mono (by omega))
  have hz1 := HR1.out.lt
  clear hb1
  obtain ⟨c0, c1, c2, c3⟩ := HD1.out.cells
  obtain ⟨f0, f1, f2, f3⟩ := HD1.out.free
  go_wp2_with fail
  refine (HK.out _).mono ?_
  rintro e w2 ⟨rfl, hb2⟩
  have HR2 : Hid (DkAt w2 (B + 1) ⟨#[]⟩ 0 ⟨#[]⟩ 0) := ((HR1.out.other _ (by simp)).other _ (by simp)).below hb2 (by simp; omega)
  have HB2 : Hid (Below B w w2) := ((HB1.out.setCell (p := ⟨B, 2, none⟩) (Nat.le_refl _) _).setCell (p := ⟨B, 3, none⟩) (Nat.le_refl _) _).trans (hb2.mono (by simp; omega))
  clear hb2 c0 c1 c2 c3 f0 f1 f2 f3
  obtain ⟨d0, d1, d2, d3⟩ := HR2.out.cells
  obtain ⟨g0, g1, g2, g3⟩ := HR2.out.free
  go_wp2_with fail
  refine bodyPost_ret (v := .tuple #[dkV a x (b.extract 0 n) m, .int .i64 0]) (by simp [results, Try.results37, go_sem, *]) rfl ⟨rfl, ?_⟩
  rw [HW.out]
  exact below_four HB2.out (by omega) _ _ _ _
end Go.Proofs.Ytgffippimmokiaa

/- What disk.Crash and the document's Disk answer. -/
namespace Go.Proofs.Ytgffippimmokiaa
open Go.RowKit
set_option linter.unusedSimpArgs false
set_option linter.unusedVariables false

/-- how many bytes are left -/
def crN (a : ByteArray) (x k : Int) : Nat := (x + min (max k 0) (a.size - x)).toNat
theorem cr_le {a : ByteArray} {x : Int} (k : Int) (h : slE a x = 0) : crN a x k ≤ a.size ∧ x ≤ crN a x k ∧ (crN a x k : Int) = x + min (max k 0) (a.size - x) := by
  obtain ⟨h1, h2, h3⟩ := sl_zero h
  unfold crN; omega
/-- two numbers in a block of their own -/
def KpAt (w : World) (g : Nat) (p q : Int) : Prop := w.heap[g]? = some (.cells #[.int .i64 p, .int .i64 q] 115 (0, 0))
theorem KpAt.cells {w : World} {g : Nat} {p q : Int} (h : KpAt w g p q) : w.cell? ⟨g, 0, none⟩ = some (.int .i64 p) ∧ w.cell? ⟨g, 1, none⟩ = some (.int .i64 q) :=
  ⟨Lib.cell_of_heap h 0, Lib.cell_of_heap h 1⟩
theorem KpAt.below {w w' : World} {B g : Nat} {p q : Int} (h : KpAt w g p q) (hb : Below B w w') (hg : g < B) : KpAt w' g p q := (hb.block g hg).trans h
theorem KpAt.other {w : World} {g : Nat} {p q : Int} (h : KpAt w g p q) {a : Addr} (v : Value) (hp : g ≠ a.block) : KpAt (w.setCell a v) g p q := (heap_setCell_other w a g v hp).trans h
abbrev dk3 (w : World) (a : ByteArray) (x : Int) (b : ByteArray) (y p q : Int) : World := ((w.alloc (.cells #[.string a, .int .i64 x, .string b, .int .i64 y] 26)).alloc (.cells #[.int .i64 p, .int .i64 q] 115)).alloc (.cells #[.string ⟨#[]⟩, .int .i64 0, .string ⟨#[]⟩, .int .i64 0] 26)
theorem dk_three (w : World) (a : ByteArray) (x : Int) (b : ByteArray) (y p q : Int) : DkAt (dk3 w a x b y p q) w.heap.size a x b y ∧ KpAt (dk3 w a x b y p q) (w.heap.size + 1) p q ∧ DkAt (dk3 w a x b y p q) (w.heap.size + 1 + 1) ⟨#[]⟩ 0 ⟨#[]⟩ 0 ∧ Below w.heap.size w (dk3 w a x b y p q) := by
  refine ⟨?_, ?_, ?_, (((Below.refl _ w).alloc (Nat.le_refl _) _).alloc (by simp) _).alloc (by simp; omega) _⟩
  · exact (Deep.blk_alloc_lt _ _ _ (by simp; omega)).trans (heap_alloc2_old w _ _)
  · exact (Deep.blk_alloc_lt _ _ _ (by simp)).trans (heap_alloc2_new w _ _)
  · have h := heap_alloc_new ((w.alloc (.cells #[.string a, .int .i64 x, .string b, .int .i64 y] 26)).alloc (.cells #[.int .i64 p, .int .i64 q] 115)) (.cells #[.string ⟨#[]⟩, .int .i64 0, .string ⟨#[]⟩, .int .i64 0] 26)
    rw [show ((w.alloc (.cells #[.string a, .int .i64 x, .string b, .int .i64 y] 26)).alloc (.cells #[.int .i64 p, .int .i64 q] 115)).heap.size = w.heap.size + 1 + 1 by simp] at h
    exact h
theorem min_run (x n m : Int) (h : min x n = m) : ∀ w : World, (Builtin.min_ #[3, 3] 3 #[.int .i64 x, .int .i64 n]).run Try.prog w = .ok (.int .i64 m) w := by
  intro w
  rw [run_min_int2]
  congr 2
  rw [← h]; split <;> omega
theorem max_run (x n m : Int) (h : max x n = m) : ∀ w : World, (Builtin.max_ #[3, 3] 3 #[.int .i64 x, .int .i64 n]).run Try.prog w = .ok (.int .i64 m) w := by
  intro w
  rw [run_max_int2]
  congr 2
  rw [← h]; split <;> omega

set_option maxRecDepth 20000 in
set_option maxHeartbeats 2000000 in
theorem DCrash_ok (a : ByteArray) (x : Int) (b : ByteArray) (y p q : Int) (h : dkE a x b y = 0) (w : World) :
    Calls Try.prog 62 #[dkV a x b y, .agg #[.int .i64 p, .int .i64 q]] w fun e w' => e = .returned (.tuple #[dkV (a.extract 0 (crN a x p)) (crN a x p : Nat) (b.extract 0 (crN b y q)) (crN b y q : Nat), .int .i64 0]) ∧ Below w.heap.size w w' := by
  obtain ⟨k1, k2⟩ := dk_zero h
  obtain ⟨m0, m1, m2⟩ := sl_zero k1
  obtain ⟨l0, l1, l2⟩ := sl_zero k2
  have HC : Hid _ := fun w => DCheck_any a x b y w (by omega) (by omega)
  rw [h] at HC
  obtain ⟨u0, u1, u2⟩ := cr_le p k1
  obtain ⟨v0, v1, v2⟩ := cr_le q k2
  obtain ⟨m, hm⟩ : ∃ m, crN a x p = m := ⟨_, rfl⟩
  obtain ⟨n, hn⟩ : ∃ n, crN b y q = n := ⟨_, rfl⟩
  rw [hm] at u0 u1 u2
  rw [hn] at v0 v1 v2
  rw [hm, hn]
  have HK : Hid _ := fun w => copied_any (a.extract 0 m) (m : Int) (b.extract 0 n) (n : Int) w (by rw [ByteArray.size_extract]; omega) (by rw [ByteArray.size_extract]; omega)
  have HT : Hid _ := dk_three w a x b y p q
  have HU : Hid _ := u2
  have HV : Hid _ := v2
  clear k1 k2 hm hn h u2 v2
  go_enter Try.func62, Try.ntmps62
  go_wp2_with fail
  change Hid (DkAt (((w.alloc (.cells #[.string a, .int .i64 x, .string b, .int .i64 y] 26)).alloc (.cells #[.int .i64 p, .int .i64 q] 115)).alloc (.cells #[.string ⟨#[]⟩, .int .i64 0, .string ⟨#[]⟩, .int .i64 0] 26)) w.heap.size a x b y ∧ KpAt (((w.alloc (.cells #[.string a, .int .i64 x, .string b, .int .i64 y] 26)).alloc (.cells #[.int .i64 p, .int .i64 q] 115)).alloc (.cells #[.string ⟨#[]⟩, .int .i64 0, .string ⟨#[]⟩, .int .i64 0] 26)) (w.heap.size + 1) p q ∧ DkAt (((w.alloc (.cells #[.string a, .int .i64 x, .string b, .int .i64 y] 26)).alloc (.cells #[.int .i64 p, .int .i64 q] 115)).alloc (.cells #[.string ⟨#[]⟩, .int .i64 0, .string ⟨#[]⟩, .int .i64 0] 26)) (w.heap.size + 1 + 1) ⟨#[]⟩ 0 ⟨#[]⟩ 0 ∧ Below w.heap.size w (((w.alloc (.cells #[.string a, .int .i64 x, .string b, .int .i64 y] 26)).alloc (.cells #[.int .i64 p, .int .i64 q] 115)).alloc (.cells #[.string ⟨#[]⟩, .int .i64 0, .string ⟨#[]⟩, .int .i64 0] 26))) at HT
  generalize ((w.alloc (.cells #[.string a, .int .i64 x, .string b, .int .i64 y] 26)).alloc (.cells #[.int .i64 p, .int .i64 q] 115)).alloc (.cells #[.string ⟨#[]⟩, .int .i64 0, .string ⟨#[]⟩, .int .i64 0] 26) = W at HT ⊢
  obtain ⟨B, hB⟩ : ∃ B, w.heap.size = B := ⟨_, rfl⟩
  rw [hB] at HT ⊢
  have HW : Hid (w.heap.size = B) := hB
  have hz := HT.out.2.2.1.lt
  clear hB
  refine (HC.out _).mono ?_
  rintro e w1 ⟨rfl, hb1⟩
  have HS1 : Hid (DkAt w1 B a x b y ∧ KpAt w1 (B + 1) p q ∧ DkAt w1 (B + 1 + 1) ⟨#[]⟩ 0 ⟨#[]⟩ 0 ∧ Below B w w1) := ⟨HT.out.1.below hb1 (by omega), HT.out.2.1.below hb1 (by omega), HT.out.2.2.1.below hb1 hz, HT.out.2.2.2.trans (hb1.mono (by omega))⟩
  clear hb1 HT
  go_wp2_with fail
  go_loopw [15] (fun i wr => (i = .int .i64 0 ∧ DkAt wr B a x b y ∧ KpAt wr (B + 1) p q ∧ DkAt wr (B + 1 + 1) ⟨#[]⟩ 0 ⟨#[]⟩ 0 ∧ Below B w wr) ∨ (i = .int .i64 1 ∧ DkAt wr B (a.extract 0 m) m b y ∧ KpAt wr (B + 1) p q ∧ DkAt wr (B + 1 + 1) ⟨#[]⟩ 0 ⟨#[]⟩ 0 ∧ Below B w wr) ∨ (i = .int .i64 2 ∧ DkAt wr B (a.extract 0 m) m (b.extract 0 n) n ∧ KpAt wr (B + 1) p q ∧ DkAt wr (B + 1 + 1) ⟨#[]⟩ 0 ⟨#[]⟩ 0 ∧ Below B w wr)) (fun i _ => 2 - (intOf i).toNat)
  case atStart => exact .inl ⟨rfl, HS1.out⟩
  case round =>
    rename World => wr
    rcases hrel with ⟨rfl, hS⟩ | ⟨rfl, hS⟩ | ⟨rfl, hS⟩
    · have HS : Hid _ := And.intro hS.1 hS.2
      obtain ⟨c0, c1, c2, c3⟩ := hS.1.cells
      obtain ⟨f0, f1, f2, f3⟩ := hS.1.free
      obtain ⟨e0, e1⟩ := hS.2.1.cells
      have hzz := hS.2.2.1.lt
      clear hS
      obtain ⟨t, ht⟩ : ∃ t, max p 0 = t := ⟨_, rfl⟩
      have hmax := max_run p 0 t ht
      obtain ⟨t2, ht2⟩ : ∃ t2, (a.size : Int) - x = t2 := ⟨_, rfl⟩
      have hw : IntKind.i64.wrap ((a.size : Int) - x) = t2 := by rw [IntWalk.i64_in _ ⟨by omega, by omega⟩, ht2]
      obtain ⟨t3, ht3⟩ : ∃ t3, min t t2 = t3 := ⟨_, rfl⟩
      have hmin := min_run t t2 t3 ht3
      have hw2 : IntKind.i64.wrap (x + t3) = (m : Int) := by rw [HU.out, ht, ht2, ht3, IntWalk.i64_in _ ⟨by omega, by omega⟩]
      have g0 : (0 : Int) ≤ (m : Int) := by omega
      have g1 : (m : Int) ≤ (a.size : Int) := by omega
      clear ht ht2 ht3
      go_wp2_with fail
      go_region
      have HS2 : Hid (DkAt (wr.setCell ⟨B, 1, none⟩ (.int .i64 (m : Int))).drew B a (m : Int) b y ∧ KpAt (wr.setCell ⟨B, 1, none⟩ (.int .i64 (m : Int))).drew (B + 1) p q ∧ DkAt (wr.setCell ⟨B, 1, none⟩ (.int .i64 (m : Int))).drew (B + 1 + 1) ⟨#[]⟩ 0 ⟨#[]⟩ 0 ∧ Below B w (wr.setCell ⟨B, 1, none⟩ (.int .i64 (m : Int))).drew) :=
        ⟨HS.out.1.put1 (m : Int), HS.out.2.1.other (a := ⟨B, 1, none⟩) _ (by simp), HS.out.2.2.1.other (p := ⟨B, 1, none⟩) _ (by simp; omega), (HS.out.2.2.2.setCell (p := ⟨B, 1, none⟩) (Nat.le_refl _) _).drew⟩
      generalize (wr.setCell ⟨B, 1, none⟩ (.int .i64 (m : Int))).drew = w2 at HS2 ⊢
      clear c0 c1 c2 c3 f0 f1 f2 f3 e0 e1 hzz hmax hw hmin hw2
      obtain ⟨c0, c1, c2, c3⟩ := HS2.out.1.cells
      obtain ⟨f0, f1, f2, f3⟩ := HS2.out.1.free
      go_wp2_with fail
      go_region
      go_wp2_with fail
      go_roundw
      case rel =>
        exact .inr (.inl ⟨rfl, HS2.out.1.put0 (a.extract 0 m), HS2.out.2.1.other (a := ⟨B, 0, none⟩) _ (by simp), HS2.out.2.2.1.other (p := ⟨B, 0, none⟩) _ (by simp; omega), (HS2.out.2.2.2.setCell (p := ⟨B, 0, none⟩) (Nat.le_refl _) _).drew⟩)
      case measure => simp [intOf]
    · have HS : Hid _ := And.intro hS.1 hS.2
      obtain ⟨c0, c1, c2, c3⟩ := hS.1.cells
      obtain ⟨f0, f1, f2, f3⟩ := hS.1.free
      obtain ⟨e0, e1⟩ := hS.2.1.cells
      have hzz := hS.2.2.1.lt
      clear hS
      obtain ⟨t, ht⟩ : ∃ t, max q 0 = t := ⟨_, rfl⟩
      have hmax := max_run q 0 t ht
      obtain ⟨t2, ht2⟩ : ∃ t2, (b.size : Int) - y = t2 := ⟨_, rfl⟩
      have hw : IntKind.i64.wrap ((b.size : Int) - y) = t2 := by rw [IntWalk.i64_in _ ⟨by omega, by omega⟩, ht2]
      obtain ⟨t3, ht3⟩ : ∃ t3, min t t2 = t3 := ⟨_, rfl⟩
      have hmin := min_run t t2 t3 ht3
      have hw2 : IntKind.i64.wrap (y + t3) = (n : Int) := by rw [HV.out, ht, ht2, ht3, IntWalk.i64_in _ ⟨by omega, by omega⟩]
      have g0 : (0 : Int) ≤ (n : Int) := by omega
      have g1 : (n : Int) ≤ (b.size : Int) := by omega
      clear ht ht2 ht3
      go_wp2_with fail
      go_region
      have HS2 : Hid (DkAt (wr.setCell ⟨B, 3, none⟩ (.int .i64 (n : Int))).drew B (a.extract 0 m) (m : Int) b (n : Int) ∧ KpAt (wr.setCell ⟨B, 3, none⟩ (.int .i64 (n : Int))).drew (B + 1) p q ∧ DkAt (wr.setCell ⟨B, 3, none⟩ (.int .i64 (n : Int))).drew (B + 1 + 1) ⟨#[]⟩ 0 ⟨#[]⟩ 0 ∧ Below B w (wr.setCell ⟨B, 3, none⟩ (.int .i64 (n : Int))).drew) :=
        ⟨HS.out.1.put3 (n : Int), HS.out.2.1.other (a := ⟨B, 3, none⟩) _ (by simp), HS.out.2.2.1.other (p := ⟨B, 3, none⟩) _ (by simp; omega), (HS.out.2.2.2.setCell (p := ⟨B, 3, none⟩) (Nat.le_refl _) _).drew⟩
      generalize (wr.setCell ⟨B, 3, none⟩ (.int .i64 (n : Int))).drew = w2 at HS2 ⊢
      clear c0 c1 c2 c3 f0 f1 f2 f3 e0 e1 hzz hmax hw hmin hw2
      obtain ⟨c0, c1, c2, c3⟩ := HS2.out.1.cells
      obtain ⟨f0, f1, f2, f3⟩ := HS2.out.1.free
      go_wp2_with fail
      go_region
      go_wp2_with fail
      go_roundw
      case rel =>
        exact .inr (.inr ⟨rfl, HS2.out.1.put2 (b.extract 0 n), HS2.out.2.1.other (a := ⟨B, 2, none⟩) _ (by simp), HS2.out.2.2.1.other (p := ⟨B, 2, none⟩) _ (by simp; omega), (HS2.out.2.2.2.setCell (p := ⟨B, 2, none⟩) (Nat.le_refl _) _).drew⟩)
      case measure => simp [intOf]
    · have HS : Hid _ := And.intro hS.1 hS.2
      obtain ⟨c0, c1, c2, c3⟩ := hS.1.cells
      have hzz := hS.2.2.1.lt
      clear hS
      go_wp2_with fail
      refine (HK.out _).mono ?_
      rintro e w2 ⟨rfl, hb2⟩
      have HR2 : Hid (DkAt w2 (B + 1 + 1) ⟨#[]⟩ 0 ⟨#[]⟩ 0) := HS.out.2.2.1.below hb2 hzz
      have HB2 : Hid (Below B w w2) := HS.out.2.2.2.trans (hb2.mono (by omega))
      clear hb2 c0 c1 c2 c3
      obtain ⟨d0, d1, d2, d3⟩ := HR2.out.cells
      obtain ⟨q0, q1, q2, q3⟩ := HR2.out.free
      go_wp2_with fail
      refine bodyPost_ret (v := .tuple #[dkV (a.extract 0 m) m (b.extract 0 n) n, .int .i64 0]) (by simp [results, Try.results62, go_sem, *]) rfl ⟨rfl, ?_⟩
      rw [HW.out]
      exact below_four HB2.out (by omega) _ _ _ _
theorem DCrash_err (a : ByteArray) (x : Int) (b : ByteArray) (y p q e0 : Int) (h : dkE a x b y = e0) (he : e0 ≠ 0) (w : World) (ha : a.size ≤ 9223372036854775807) (hb : b.size ≤ 9223372036854775807) :
    Calls Try.prog 62 #[dkV a x b y, .agg #[.int .i64 p, .int .i64 q]] w fun e w' => e = .returned (.tuple #[dk0, .int .i64 e0]) ∧ Below w.heap.size w w' := by
  have he' : (e0 != 0) = true := by simp [he]
  have HC : Hid _ := fun w => DCheck_any a x b y w ha hb
  rw [h] at HC
  have HT : Hid _ := dk_three w a x b y p q
  clear he
  go_enter Try.func62, Try.ntmps62
  go_wp2_with fail
  change Hid (DkAt (((w.alloc (.cells #[.string a, .int .i64 x, .string b, .int .i64 y] 26)).alloc (.cells #[.int .i64 p, .int .i64 q] 115)).alloc (.cells #[.string ⟨#[]⟩, .int .i64 0, .string ⟨#[]⟩, .int .i64 0] 26)) w.heap.size a x b y ∧ KpAt (((w.alloc (.cells #[.string a, .int .i64 x, .string b, .int .i64 y] 26)).alloc (.cells #[.int .i64 p, .int .i64 q] 115)).alloc (.cells #[.string ⟨#[]⟩, .int .i64 0, .string ⟨#[]⟩, .int .i64 0] 26)) (w.heap.size + 1) p q ∧ DkAt (((w.alloc (.cells #[.string a, .int .i64 x, .string b, .int .i64 y] 26)).alloc (.cells #[.int .i64 p, .int .i64 q] 115)).alloc (.cells #[.string ⟨#[]⟩, .int .i64 0, .string ⟨#[]⟩, .int .i64 0] 26)) (w.heap.size + 1 + 1) ⟨#[]⟩ 0 ⟨#[]⟩ 0 ∧ Below w.heap.size w (((w.alloc (.cells #[.string a, .int .i64 x, .string b, .int .i64 y] 26)).alloc (.cells #[.int .i64 p, .int .i64 q] 115)).alloc (.cells #[.string ⟨#[]⟩, .int .i64 0, .string ⟨#[]⟩, .int .i64 0] 26))) at HT
  generalize ((w.alloc (.cells #[.string a, .int .i64 x, .string b, .int .i64 y] 26)).alloc (.cells #[.int .i64 p, .int .i64 q] 115)).alloc (.cells #[.string ⟨#[]⟩, .int .i64 0, .string ⟨#[]⟩, .int .i64 0] 26) = W at HT ⊢
  obtain ⟨B, hB⟩ : ∃ B, w.heap.size = B := ⟨_, rfl⟩
  rw [hB] at HT ⊢
  have HW : Hid (w.heap.size = B) := hB
  have hz := HT.out.2.2.1.lt
  clear hB
  refine (HC.out _).mono ?_
  rintro e w1 ⟨rfl, hb1⟩
  have HR2 : Hid (DkAt w1 (B + 1 + 1) ⟨#[]⟩ 0 ⟨#[]⟩ 0) := HT.out.2.2.1.below hb1 hz
  have HB2 : Hid (Below B w w1) := HT.out.2.2.2.trans (hb1.mono (by omega))
  clear hb1 HT
  obtain ⟨d0, d1, d2, d3⟩ := HR2.out.cells
  obtain ⟨q0, q1, q2, q3⟩ := HR2.out.free
  go_wp2_with fail
  refine bodyPost_ret (v := .tuple #[dk0, .int .i64 e0]) (by simp [results, Try.results62, go_sem, *]) rfl ⟨rfl, ?_⟩
  rw [HW.out]
  exact below_four HB2.out (by omega) _ _ _ _

set_option maxRecDepth 20000 in
set_option maxHeartbeats 1000000 in
theorem RDisk_any (a : ByteArray) (x : Int) (b : ByteArray) (y : Int) (w : World) (ha : a.size ≤ 9223372036854775807) (hb : b.size ≤ 9223372036854775807) :
    Calls Try.prog 39 #[dkV a x b y] w fun e w' => e = .returned (.int .i64 (dkE a x b y)) ∧ Below w.heap.size w w' := by
  have HA : Hid _ := sl_cases a x
  have HB : Hid _ := sl_cases b y
  have hx0 := ix0 a x b y
  have hx1 := ix1 a x b y
  go_enter Try.func39, Try.ntmps39
  go_wp2_with fail
  go_loopw [7] (fun i wr => (∃ k : Nat, k ≤ 2 ∧ i = .int .i64 k ∧ (1 ≤ k → slE a x = 0) ∧ (2 ≤ k → slE b y = 0)) ∧ Below w.heap.size w wr) (fun i _ => 2 - (intOf i).toNat)
  case atStart => exact ⟨⟨0, by omega, rfl, by omega, by omega⟩, (Below.refl _ _).alloc (Nat.le_refl _) _⟩
  case round =>
    rename World => wr
    obtain ⟨⟨k, hk, rfl, h1, h2⟩, hbw⟩ := hrel
    have HBw : Hid (Below w.heap.size w wr) := hbw
    have hzw := hbw.size
    have hk3 : k = 0 ∨ k = 1 ∨ k = 2 := by omega
    clear hbw hk
    rcases hk3 with rfl | rfl | rfl
    · clear h1 h2
      rcases HA.out with ⟨g1, g2⟩ | ⟨g1, g2, g3⟩ | ⟨g1, g2, g3, g4⟩ | ⟨g1, g2, g3, g4⟩
      · have HE : Hid (dkE a x b y = 2) := by show _ = _; rw [dkE, g2]; rfl
        clear g2
        go_wp2_with fail
        go_ret
        exact ⟨dret HE.out.symm, HBw.out.alloc hzw _⟩
      · have HE : Hid (dkE a x b y = 3) := by show _ = _; rw [dkE, g3]; rfl
        clear g3
        go_wp2_with fail
        go_ret
        exact ⟨dret HE.out.symm, HBw.out.alloc hzw _⟩
      · have HE : Hid (dkE a x b y = 3) := by show _ = _; rw [dkE, g4]; rfl
        clear g4
        go_wp2_with fail
        go_ret
        exact ⟨dret HE.out.symm, HBw.out.alloc hzw _⟩
      · have HE : Hid _ := g4
        clear g4
        go_wp2_with fail
        go_roundw
        case rel => exact ⟨⟨1, by omega, rfl, fun _ => HE.out, by omega⟩, HBw.out.alloc hzw _⟩
        case measure => simp [intOf]
    · have HO : Hid (slE a x = 0) := h1 (Nat.le_refl _)
      clear h1 h2
      rcases HB.out with ⟨g1, g2⟩ | ⟨g1, g2, g3⟩ | ⟨g1, g2, g3, g4⟩ | ⟨g1, g2, g3, g4⟩
      · have HE : Hid (dkE a x b y = 2) := by show _ = _; rw [dkE, if_pos HO.out, g2]
        clear g2
        go_wp2_with fail
        go_ret
        exact ⟨dret HE.out.symm, HBw.out.alloc hzw _⟩
      · have HE : Hid (dkE a x b y = 3) := by show _ = _; rw [dkE, if_pos HO.out, g3]
        clear g3
        go_wp2_with fail
        go_ret
        exact ⟨dret HE.out.symm, HBw.out.alloc hzw _⟩
      · have HE : Hid (dkE a x b y = 3) := by show _ = _; rw [dkE, if_pos HO.out, g4]
        clear g4
        go_wp2_with fail
        go_ret
        exact ⟨dret HE.out.symm, HBw.out.alloc hzw _⟩
      · have HE : Hid _ := g4
        clear g4
        go_wp2_with fail
        go_roundw
        case rel => exact ⟨⟨2, by omega, rfl, fun _ => HO.out, fun _ => HE.out⟩, HBw.out.alloc hzw _⟩
        case measure => simp [intOf]
    · have HE : Hid (dkE a x b y = 0) := by show _ = _; rw [dkE, if_pos (h1 (by omega)), h2 (Nat.le_refl _)]
      clear h1 h2
      go_wp2_with fail
      go_ret
      exact ⟨dret HE.out.symm, HBw.out⟩
end Go.Proofs.Ytgffippimmokiaa

/- A disk, a slot held against itself. -/
namespace Go.Proofs.Ytgffippimmokiaa
open Go.RowKit
set_option linter.unusedSimpArgs false
set_option linter.unusedVariables false

theorem fieldsDisk : Try.prog.underlying 26 = some (.struct (Try.prog.fieldsOf 26)) := by kernel_rfl
theorem heldDisk : Try.prog.stoodInHeld 26 = false := by kernel_rfl
theorem fieldsSlot : Try.prog.underlying 23 = some (.struct (Try.prog.fieldsOf 23)) := by kernel_rfl
theorem heldSlot : Try.prog.stoodInHeld 23 = false := by kernel_rfl
set_option maxRecDepth 10000 in
theorem slot_in (d : Nat) (x : Int) (a : ByteArray) (w : World) : (Op.equalIn (d + 2) 23 (.agg #[.string a, .int .i64 x]) (.agg #[.string a, .int .i64 x])).run Try.prog w = .ok true w := by
  rw [run_equalIn_agg w (d + 1) 23 _ _ fieldsSlot heldSlot]
  simp only [Program.fieldsOf, Try.underlying23]
  simp [go_sem, Op.eqFields, part, Try.underlying3, Try.underlying9]
theorem info_slot : ∃ i, Try.prog.info? 23 = some i := by
  cases h : Try.prog.info? 23 with
  | some i => exact ⟨i, rfl⟩
  | none => exact absurd h (by have : (Try.prog.info? 23).isSome = true := by kernel_rfl
                               intro e; rw [e] at this; cases this)
theorem cells_slot : Try.prog.cellsOf 23 = 2 := by kernel_rfl
theorem part_s0 (a b : ByteArray) (x y : Int) : ∀ w : World, (part 23 #[.string a, .int .i64 x, .string b, .int .i64 y] 0).run Try.prog w = .ok (.agg #[.string a, .int .i64 x]) w := fun _ => by kernel_rfl
theorem part_s2 (a b : ByteArray) (x y : Int) : ∀ w : World, (part 23 #[.string a, .int .i64 x, .string b, .int .i64 y] 2).run Try.prog w = .ok (.agg #[.string b, .int .i64 y]) w := fun _ => by kernel_rfl
theorem part_d (a b : ByteArray) (x y : Int) : ∀ w : World, (part 24 #[.string a, .int .i64 x, .string b, .int .i64 y] 0).run Try.prog w = .ok (.agg #[.string a, .int .i64 x, .string b, .int .i64 y]) w := fun _ => by kernel_rfl
theorem under_two : Try.prog.underlying 24 = some (.array 2 23) := by kernel_rfl
theorem slots_in (d : Nat) (a b : ByteArray) (x y : Int) (w : World) : (Op.equalIn (d + 3) 24 (.agg #[.string a, .int .i64 x, .string b, .int .i64 y]) (.agg #[.string a, .int .i64 x, .string b, .int .i64 y])).run Try.prog w = .ok true w := by
  obtain ⟨i, hi⟩ := info_slot
  rw [run_equalIn_array w (d + 2) _ _ under_two hi, cells_slot]
  rw [show List.range 2 = [0, 1] from rfl]
  simp only [Op.eqItems, Sem.run_bind, Nat.zero_mul, Nat.one_mul, part_s0, part_s2, Result.andThen_ok, slot_in, Bool.not_true, Bool.false_eq_true, if_false, Sem.run_pure, if_true]
theorem disk_in (a b : ByteArray) (x y : Int) (w : World) : (Op.equalIn 10000 26 (.agg #[.string a, .int .i64 x, .string b, .int .i64 y]) (.agg #[.string a, .int .i64 x, .string b, .int .i64 y])).run Try.prog w = .ok true w := by
  rw [run_equalIn_agg w 9999 26 _ _ fieldsDisk heldDisk]
  simp only [Program.fieldsOf, Try.underlying26]
  simp [Op.eqFields, part_d, slots_in 9996]
theorem disk_eql (a b : ByteArray) (x y : Int) : ∀ w : World, (binOp .eql 26 (.agg #[.string a, .int .i64 x, .string b, .int .i64 y]) (.agg #[.string a, .int .i64 x, .string b, .int .i64 y])).run Try.prog w = .ok (.bool true) w := fun w => by
  rw [run_eql_struct, disk_in]; rfl
theorem disk_neq (a b : ByteArray) (x y : Int) : ∀ w : World, (binOp .neq 26 (.agg #[.string a, .int .i64 x, .string b, .int .i64 y]) (.agg #[.string a, .int .i64 x, .string b, .int .i64 y])).run Try.prog w = .ok (.bool false) w := fun w => by
  rw [run_neq_struct, disk_in]; rfl
theorem slot_eql (a : ByteArray) (x : Int) : ∀ w : World, (binOp .eql 23 (.agg #[.string a, .int .i64 x]) (.agg #[.string a, .int .i64 x])).run Try.prog w = .ok (.bool true) w := fun w => by
  rw [run_eql_struct, slot_in 9998]; rfl
theorem slot_neq (a : ByteArray) (x : Int) : ∀ w : World, (binOp .neq 23 (.agg #[.string a, .int .i64 x]) (.agg #[.string a, .int .i64 x])).run Try.prog w = .ok (.bool false) w := fun w => by
  rw [run_neq_struct, slot_in 9998]; rfl
end Go.Proofs.Ytgffippimmokiaa

/- What the laws on disks lean on. -/
namespace Go.Proofs.Ytgffippimmokiaa
open Go.RowKit
set_option linter.unusedSimpArgs false
set_option linter.unusedVariables false

theorem extract_self (C : ByteArray) : C.extract 0 C.size = C := by
  apply ByteArray.ext
  simp
theorem cr_again {C : ByteArray} {m : Nat} (h : C.size = m) (k : Int) : crN C m k = m := by
  unfold crN; omega
theorem dk_of {a b : ByteArray} {x y : Int} (h1 : slE a x = 0) (h2 : slE b y = 0) : dkE a x b y = 0 := by rw [dkE, if_pos h1, h2]
/-- what Append answers: an error, or a disk that is right -/
theorem DAppend_all (a : ByteArray) (x : Int) (b : ByteArray) (y i : Int) (s : ByteArray) (ha : a.size ≤ 9223372036854775807) (hb : b.size ≤ 9223372036854775807) (hs : s.size ≤ 9223372036854775807) :
    (∃ q : Int, q ≠ 0 ∧ ∀ w : World, Calls Try.prog 97 #[dkV a x b y, .int .i64 i, .string s] w fun e w' => e = .returned (.tuple #[dk0, .int .i64 q]) ∧ Below w.heap.size w w') ∨
    (∃ A B : ByteArray, (i = 0 ∨ i = 1) ∧ dkE A x B y = 0 ∧ dkE a x b y = 0 ∧ (i = 0 → A = a ++ s ∧ B = b) ∧ (i = 1 → A = a ∧ B = b ++ s) ∧ ∀ w : World, Calls Try.prog 97 #[dkV a x b y, .int .i64 i, .string s] w fun e w' => e = .returned (.tuple #[dkV A x B y, .int .i64 0]) ∧ Below w.heap.size w w') := by
  by_cases h : dksE a x b y i = 0
  · obtain ⟨hd, hi⟩ := dks_zero h
    obtain ⟨k1, k2⟩ := dk_zero hd
    obtain ⟨m0, m1, m2⟩ := sl_zero k1
    obtain ⟨l0, l1, l2⟩ := sl_zero k2
    rcases hi with rfl | rfl
    · by_cases hf : a.size + s.size ≤ 1048576
      · exact .inr ⟨a ++ s, b, .inl rfl, dk_of (sl_of (by rw [ByteArray.size_append]; omega) m1 (by rw [ByteArray.size_append]; omega)) k2, hd, fun _ => ⟨rfl, rfl⟩, fun e => by omega, fun w => DAppend_ok0 a x b y s h hf w ha hb hs⟩
      · exact .inl ⟨2, by decide, fun w => DAppend_big0 a x b y s h (by omega) w ha hb hs⟩
    · by_cases hf : b.size + s.size ≤ 1048576
      · exact .inr ⟨a, b ++ s, .inr rfl, dk_of k1 (sl_of (by rw [ByteArray.size_append]; omega) l1 (by rw [ByteArray.size_append]; omega)), hd, fun e => by omega, fun _ => ⟨rfl, rfl⟩, fun w => DAppend_ok1 a x b y s h hf w ha hb hs⟩
      · exact .inl ⟨2, by decide, fun w => DAppend_big1 a x b y s h (by omega) w ha hb hs⟩
  · exact .inl ⟨_, h, fun w => DAppend_err a x b y s i _ rfl h w ha hb hs⟩
theorem dks_of {a b : ByteArray} {x y i : Int} (h : dkE a x b y = 0) (hi : i = 0 ∨ i = 1) : dksE a x b y i = 0 := by
  rw [dksE, if_pos h, if_neg (by omega)]
theorem DAppend_two (w : World) : Calls Try.prog 97 #[dk0, .int .i64 1, .string ⟨#[97, 98]⟩] w fun e w' => e = .returned (.tuple #[.agg #[.string ⟨#[]⟩, .int .i64 0, .string ⟨#[97, 98]⟩, .int .i64 0], .int .i64 0]) ∧ Below w.heap.size w w' :=
  DAppend_ok1 ⟨#[]⟩ 0 ⟨#[]⟩ 0 ⟨#[97, 98]⟩ (by decide) (by decide) w (by decide) (by decide) (by decide)
/-- what Crash answers, of a disk that is right -/
theorem DCrash_all (A : ByteArray) (x : Int) (B : ByteArray) (y p q : Int) (h : dkE A x B y = 0) : ∃ (C E : ByteArray) (m n : Nat), A.extract 0 m = C ∧ B.extract 0 n = E ∧ C.size = m ∧ E.size = n ∧ m ≤ A.size ∧ n ≤ B.size ∧ x ≤ m ∧ y ≤ n ∧ (p < 0 → (m : Int) = x) ∧ (q < 0 → (n : Int) = y) ∧
    ∀ w : World, Calls Try.prog 62 #[dkV A x B y, .agg #[.int .i64 p, .int .i64 q]] w fun e w' => e = .returned (.tuple #[dkV C (m : Nat) E (n : Nat), .int .i64 0]) ∧ Below w.heap.size w w' := by
  obtain ⟨k1, k2⟩ := dk_zero h
  obtain ⟨m0, m1, m2⟩ := sl_zero k1
  obtain ⟨l0, l1, l2⟩ := sl_zero k2
  obtain ⟨u0, u1, u2⟩ := cr_le p k1
  obtain ⟨v0, v1, v2⟩ := cr_le q k2
  exact ⟨_, _, _, _, rfl, rfl, by rw [ByteArray.size_extract]; omega, by rw [ByteArray.size_extract]; omega, u0, v0, u1, v1, fun _ => by omega, fun _ => by omega, fun w => DCrash_ok A x B y p q h w⟩
/-- a second one changes nothing -/
theorem DCrash_again (C E : ByteArray) (m n : Nat) (p q : Int) (hm : C.size = m) (hn : E.size = n) (h1 : m ≤ 1048576) (h2 : n ≤ 1048576) (w : World) :
    Calls Try.prog 62 #[dkV C (m : Nat) E (n : Nat), .agg #[.int .i64 p, .int .i64 q]] w fun e w' => e = .returned (.tuple #[dkV C (m : Nat) E (n : Nat), .int .i64 0]) ∧ Below w.heap.size w w' := by
  have h := DCrash_ok C m E n p q (dk_of (sl_of (by omega) (by omega) (by omega)) (sl_of (by omega) (by omega) (by omega))) w
  rw [cr_again hm, cr_again hn] at h
  have e1 : C.extract 0 m = C := by rw [← hm]; exact extract_self C
  have e2 : E.extract 0 n = E := by rw [← hn]; exact extract_self E
  rw [e1, e2] at h
  exact h
end Go.Proofs.Ytgffippimmokiaa
