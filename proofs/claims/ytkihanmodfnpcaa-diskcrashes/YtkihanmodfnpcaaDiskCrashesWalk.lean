/- DiskCrashes answers true. -/
import Derived.Test.YtkihanmodfnpcaaDiskCrash
import Derived.Test.YtkihanmodfnpcaaDiskEq
namespace Go.Proofs.Ytkihanmodfnpcaa
open Go.RowKit
set_option linter.unusedSimpArgs false
set_option linter.unusedVariables false

set_option maxRecDepth 20000 in
set_option maxHeartbeats 2000000 in
theorem DiskCrashes_any (a : ByteArray) (x : Int) (b : ByteArray) (y p q : Int) (w : World) (ha : a.size ≤ 9223372036854775807) (hb : b.size ≤ 9223372036854775807) :
    Calls Try.prog 4 #[dkV a x b y, .int .i64 p, .int .i64 q] w fun e w' => e = .returned (.bool true) ∧ Below w.heap.size w w' := by
  have HRD : Hid _ := fun w => RDisk_any a x b y w ha hb
  by_cases h0 : dkE a x b y = 0
  · have HC : Hid _ := fun w => DCrash_ok a x b y p q h0 w
    rw [h0] at HRD
    obtain ⟨k1, k2⟩ := dk_zero h0
    obtain ⟨m0, m1, m2⟩ := sl_zero k1
    obtain ⟨l0, l1, l2⟩ := sl_zero k2
    obtain ⟨u0, u1, u2⟩ := cr_le p k1
    obtain ⟨v0, v1, v2⟩ := cr_le q k2
    obtain ⟨m, hm⟩ : ∃ m, crN a x p = m := ⟨_, rfl⟩
    obtain ⟨n, hn⟩ : ∃ n, crN b y q = n := ⟨_, rfl⟩
    rw [hm] at u0 u1 u2 HC
    rw [hn] at v0 v1 v2 HC
    have HU : Hid _ := u2
    have HV : Hid _ := v2
    clear k1 k2 hm hn u2 v2 h0
    go_enter Try.func4, Try.ntmps4
    go_wp2_with fail
    have HT0 : Hid (DkAt (w.alloc (.cells #[.string a, .int .i64 x, .string b, .int .i64 y] 26)) w.heap.size a x b y ∧ Below w.heap.size w (w.alloc (.cells #[.string a, .int .i64 x, .string b, .int .i64 y] 26))) := ⟨Deep.blk_alloc_new w _, (Below.refl _ w).alloc (Nat.le_refl _) _⟩
    generalize w.alloc (.cells #[.string a, .int .i64 x, .string b, .int .i64 y] 26) = w0 at HT0 ⊢
    obtain ⟨D, hD⟩ : ∃ D, w.heap.size = D := ⟨_, rfl⟩
    rw [hD] at HT0 ⊢
    have HW : Hid (w.heap.size = D) := hD
    clear hD
    have HX0_0 : Hid _ := HT0.out.1
    have HB0 : Hid _ := HT0.out.2
    clear HT0
    change Hid (DkAt w0 D a x b y) at HX0_0
    change Hid (Below D w w0) at HB0
    have hz1_0 := HX0_0.out.lt
    refine (HC.out _).mono ?_
    rintro e w1 ⟨rfl, hb1⟩
    have HX1_0 : Hid (DkAt w1 D a x b y) := HX0_0.out.below hb1 (by omega)
    have HB1 : Hid (Below D w w1) := HB0.out.trans (hb1.mono (by omega))
    clear hz1_0 hb1
    have hl0 := HX1_0.out.lt
    obtain ⟨c0_0, c0_1, c0_2, c0_3⟩ := HX1_0.out.cells
    obtain ⟨f0_0, f0_1, f0_2, f0_3⟩ := HX1_0.out.free
    go_wp2_with fail
    have HT : Hid (DkAt (w1.alloc (.cells #[.string (a.extract 0 m), .int .i64 (m : Int), .string (b.extract 0 n), .int .i64 (n : Int)] 26)) w1.heap.size (a.extract 0 m) (m : Int) (b.extract 0 n) (n : Int) ∧ Below w1.heap.size w1 (w1.alloc (.cells #[.string (a.extract 0 m), .int .i64 (m : Int), .string (b.extract 0 n), .int .i64 (n : Int)] 26)) ∧ w1.heap.size < (w1.alloc (.cells #[.string (a.extract 0 m), .int .i64 (m : Int), .string (b.extract 0 n), .int .i64 (n : Int)] 26)).heap.size) := ⟨Deep.blk_alloc_new w1 _, (Below.refl _ w1).alloc (Nat.le_refl _) _, by simp⟩
    generalize w1.alloc (.cells #[.string (a.extract 0 m), .int .i64 (m : Int), .string (b.extract 0 n), .int .i64 (n : Int)] 26) = w2 at HT ⊢
    have HX2_0 : Hid (DkAt w2 D a x b y) := HX1_0.out.below HT.out.2.1 HX1_0.out.lt
    have HB2 : Hid (Below D w w2) := HB1.out.trans (HT.out.2.1.mono (by have := HX1_0.out.lt; omega))
    clear hl0 c0_0 c0_1 c0_2 c0_3 f0_0 f0_1 f0_2 f0_3
    obtain ⟨X, hX⟩ : ∃ g, w1.heap.size = g := ⟨_, rfl⟩
    rw [hX] at HT ⊢
    have HX2_1 : Hid (DkAt w2 X (a.extract 0 m) (m : Int) (b.extract 0 n) (n : Int)) := HT.out.1
    have HOX : Hid (D < X) := by
      have h : D < w1.heap.size := HX1_0.out.lt
      rw [hX] at h
      exact h
    clear hX HT
    have hz3_0 := HX2_0.out.lt
    have hz3_1 := HX2_1.out.lt
    refine (HRD.out _).mono ?_
    rintro e w3 ⟨rfl, hb3⟩
    have HX3_0 : Hid (DkAt w3 D a x b y) := HX2_0.out.below hb3 (by omega)
    have HX3_1 : Hid (DkAt w3 X (a.extract 0 m) (m : Int) (b.extract 0 n) (n : Int)) := HX2_1.out.below hb3 (by omega)
    have HB3 : Hid (Below D w w3) := HB2.out.trans (hb3.mono (by omega))
    clear hz3_0 hz3_1 hb3
    have hl0 := HX3_0.out.lt
    obtain ⟨c0_0, c0_1, c0_2, c0_3⟩ := HX3_0.out.cells
    obtain ⟨f0_0, f0_1, f0_2, f0_3⟩ := HX3_0.out.free
    have hl1 := HX3_1.out.lt
    obtain ⟨c1_0, c1_1, c1_2, c1_3⟩ := HX3_1.out.cells
    obtain ⟨f1_0, f1_1, f1_2, f1_3⟩ := HX3_1.out.free
    go_wp2_with fail
    have HP : Hid ((w3.alloc (.cells #[.int .i64 p, .int .i64 q] 3)).heap[w3.heap.size]? = some (.cells #[.int .i64 p, .int .i64 q] 3 (0, 0)) ∧ Below w3.heap.size w3 (w3.alloc (.cells #[.int .i64 p, .int .i64 q] 3)) ∧ D < w3.heap.size) := ⟨Deep.blk_alloc_new w3 _, (Below.refl _ w3).alloc (Nat.le_refl _) _, HX3_0.out.lt⟩
    have HX4_0 : Hid (DkAt (w3.alloc (.cells #[.int .i64 p, .int .i64 q] 3)) D a x b y) := HX3_0.out.below HP.out.2.1 HX3_0.out.lt
    have HX4_1 : Hid (DkAt (w3.alloc (.cells #[.int .i64 p, .int .i64 q] 3)) X (a.extract 0 m) (m : Int) (b.extract 0 n) (n : Int)) := HX3_1.out.below HP.out.2.1 HX3_1.out.lt
    have HB4 : Hid (Below D w (w3.alloc (.cells #[.int .i64 p, .int .i64 q] 3))) := HB3.out.trans (HP.out.2.1.mono (by omega))
    clear hl0 c0_0 c0_1 c0_2 c0_3 f0_0 f0_1 f0_2 f0_3 hl1 c1_0 c1_1 c1_2 c1_3 f1_0 f1_1 f1_2 f1_3
    generalize w3.alloc (.cells #[.int .i64 p, .int .i64 q] 3) = w4 at HP HX4_0 HX4_1 HB4 ⊢
    obtain ⟨Q, hQ⟩ : ∃ g, w3.heap.size = g := ⟨_, rfl⟩
    rw [hQ] at HP ⊢
    clear hQ
    go_loopw [38] (fun i wr => (i = .int .i64 0 ∨ i = .int .i64 1 ∨ i = .int .i64 2) ∧ DkAt wr D a x b y ∧ DkAt wr X (a.extract 0 m) (m : Int) (b.extract 0 n) (n : Int) ∧ wr.heap[Q]? = some (.cells #[.int .i64 p, .int .i64 q] 3 (0, 0)) ∧ Below D w wr) (fun i _ => 2 - (intOf i).toNat)
    case atStart => exact ⟨.inl rfl, HX4_0.out, HX4_1.out, HP.out.1, HB4.out⟩
    case round =>
      rename World => wr
      obtain ⟨hk3, hd, hx, hq, hbw⟩ := hrel
      have HD : Hid (DkAt wr D a x b y) := hd
      have HXx : Hid (DkAt wr X (a.extract 0 m) (m : Int) (b.extract 0 n) (n : Int)) := hx
      have HQ : Hid (wr.heap[Q]? = some (.cells #[.int .i64 p, .int .i64 q] 3 (0, 0))) := hq
      have HBw : Hid (Below D w wr) := hbw
      clear hd hx hq hbw
      have hl0 := HD.out.lt
      have hl1 := HXx.out.lt
      have hl2 : Q < wr.heap.size := lt_of_heap HQ.out
      obtain ⟨c0_0, c0_1, c0_2, c0_3⟩ := HD.out.cells
      obtain ⟨c1_0, c1_1, c1_2, c1_3⟩ := HXx.out.cells
      have q0 : wr.cell? ⟨Q, 0, none⟩ = some (.int .i64 p) := Lib.cell_of_heap HQ.out 0
      have q1 : wr.cell? ⟨Q, 1, none⟩ = some (.int .i64 q) := Lib.cell_of_heap HQ.out 1
      rcases hk3 with rfl | rfl | rfl
      · have hne := slot_neq (a.extract 0 m) (m : Int)
        have g0 : (0 : Int) ≤ (m : Int) := by omega
        have g1 : (m : Int) ≤ (a.size : Int) := by omega
        by_cases hlt : p < (a.size : Int) - x
        · obtain ⟨t, ht⟩ : ∃ t, max 0 p = t := ⟨_, rfl⟩
          have hmax := max_run 0 p t ht
          have HS : Hid (x + t = (m : Int)) := by show _ = _; rw [HU.out]; omega
          have b0 : 0 ≤ t := by omega
          have b1 : t ≤ 1048576 := by omega
          clear ht
          go_wp2_with fail
          rw [HS.out]
          go_quiet (fail)
          rename Nat => nq
          have hby : Below wr.heap.size wr ((wr.alloc (.cells #[.string a, .int .i64 x] 23)).drewN nq) := below_drewN ((Below.refl _ wr).alloc (Nat.le_refl _) _) nq
          have HBy : Hid _ := hby
          clear hby
          generalize (wr.alloc (.cells #[.string a, .int .i64 x] 23)).drewN nq = w5 at HBy ⊢
          go_wp2_with fail
          go_roundw
          case rel => exact ⟨.inr (.inl rfl), HD.out.below HBy.out HD.out.lt, HXx.out.below HBy.out HXx.out.lt, (HBy.out.block Q (lt_of_heap HQ.out)).trans HQ.out, HBw.out.trans (HBy.out.mono (by omega))⟩
          case measure => simp [intOf]
        · have HS : Hid ((a.size : Int) = (m : Int)) := by show _ = _; have := HU.out; omega
          go_wp2_with fail
          rw [HS.out]
          go_quiet (fail)
          rename Nat => nq
          have hby : Below wr.heap.size wr ((wr.alloc (.cells #[.string a, .int .i64 x] 23)).drewN nq) := below_drewN ((Below.refl _ wr).alloc (Nat.le_refl _) _) nq
          have HBy : Hid _ := hby
          clear hby
          generalize (wr.alloc (.cells #[.string a, .int .i64 x] 23)).drewN nq = w5 at HBy ⊢
          go_wp2_with fail
          go_roundw
          case rel => exact ⟨.inr (.inl rfl), HD.out.below HBy.out HD.out.lt, HXx.out.below HBy.out HXx.out.lt, (HBy.out.block Q (lt_of_heap HQ.out)).trans HQ.out, HBw.out.trans (HBy.out.mono (by omega))⟩
          case measure => simp [intOf]
      · have hne := slot_neq (b.extract 0 n) (n : Int)
        have g0 : (0 : Int) ≤ (n : Int) := by omega
        have g1 : (n : Int) ≤ (b.size : Int) := by omega
        by_cases hlt : q < (b.size : Int) - y
        · obtain ⟨t, ht⟩ : ∃ t, max 0 q = t := ⟨_, rfl⟩
          have hmax := max_run 0 q t ht
          have HS : Hid (y + t = (n : Int)) := by show _ = _; rw [HV.out]; omega
          have b0 : 0 ≤ t := by omega
          have b1 : t ≤ 1048576 := by omega
          clear ht
          go_wp2_with fail
          rw [HS.out]
          go_quiet (fail)
          rename Nat => nq
          have hby : Below wr.heap.size wr ((wr.alloc (.cells #[.string b, .int .i64 y] 23)).drewN nq) := below_drewN ((Below.refl _ wr).alloc (Nat.le_refl _) _) nq
          have HBy : Hid _ := hby
          clear hby
          generalize (wr.alloc (.cells #[.string b, .int .i64 y] 23)).drewN nq = w5 at HBy ⊢
          go_wp2_with fail
          go_roundw
          case rel => exact ⟨.inr (.inr rfl), HD.out.below HBy.out HD.out.lt, HXx.out.below HBy.out HXx.out.lt, (HBy.out.block Q (lt_of_heap HQ.out)).trans HQ.out, HBw.out.trans (HBy.out.mono (by omega))⟩
          case measure => simp [intOf]
        · have HS : Hid ((b.size : Int) = (n : Int)) := by show _ = _; have := HV.out; omega
          go_wp2_with fail
          rw [HS.out]
          go_quiet (fail)
          rename Nat => nq
          have hby : Below wr.heap.size wr ((wr.alloc (.cells #[.string b, .int .i64 y] 23)).drewN nq) := below_drewN ((Below.refl _ wr).alloc (Nat.le_refl _) _) nq
          have HBy : Hid _ := hby
          clear hby
          generalize (wr.alloc (.cells #[.string b, .int .i64 y] 23)).drewN nq = w5 at HBy ⊢
          go_wp2_with fail
          go_roundw
          case rel => exact ⟨.inr (.inr rfl), HD.out.below HBy.out HD.out.lt, HXx.out.below HBy.out HXx.out.lt, (HBy.out.block Q (lt_of_heap HQ.out)).trans HQ.out, HBw.out.trans (HBy.out.mono (by omega))⟩
          case measure => simp [intOf]
      · go_wp2_with fail
        go_ret
        exact ⟨rfl, by rw [HW.out]; exact HBw.out⟩
  · obtain ⟨e0, he⟩ : ∃ e0, dkE a x b y = e0 := ⟨_, rfl⟩
    rw [he] at HRD h0
    have HC : Hid _ := fun w => DCrash_err a x b y p q e0 he h0 w ha hb
    have h0' : (e0 != 0) = true := by simp [h0]
    have heq := disk_eql ⟨#[]⟩ ⟨#[]⟩ 0 0
    clear h0 he
    go_enter Try.func4, Try.ntmps4
    go_wp2_with fail
    have HT0 : Hid (DkAt (w.alloc (.cells #[.string a, .int .i64 x, .string b, .int .i64 y] 26)) w.heap.size a x b y ∧ Below w.heap.size w (w.alloc (.cells #[.string a, .int .i64 x, .string b, .int .i64 y] 26))) := ⟨Deep.blk_alloc_new w _, (Below.refl _ w).alloc (Nat.le_refl _) _⟩
    generalize w.alloc (.cells #[.string a, .int .i64 x, .string b, .int .i64 y] 26) = w0 at HT0 ⊢
    obtain ⟨D, hD⟩ : ∃ D, w.heap.size = D := ⟨_, rfl⟩
    rw [hD] at HT0 ⊢
    have HW : Hid (w.heap.size = D) := hD
    clear hD
    have HX0_0 : Hid _ := HT0.out.1
    have HB0 : Hid _ := HT0.out.2
    clear HT0
    change Hid (DkAt w0 D a x b y) at HX0_0
    change Hid (Below D w w0) at HB0
    have hz1_0 := HX0_0.out.lt
    refine (HC.out _).mono ?_
    rintro e w1 ⟨rfl, hb1⟩
    have HX1_0 : Hid (DkAt w1 D a x b y) := HX0_0.out.below hb1 (by omega)
    have HB1 : Hid (Below D w w1) := HB0.out.trans (hb1.mono (by omega))
    clear hz1_0 hb1
    have hl0 := HX1_0.out.lt
    obtain ⟨c0_0, c0_1, c0_2, c0_3⟩ := HX1_0.out.cells
    obtain ⟨f0_0, f0_1, f0_2, f0_3⟩ := HX1_0.out.free
    go_wp2_with fail
    have HT : Hid (DkAt (w1.alloc (.cells #[.string ⟨#[]⟩, .int .i64 0, .string ⟨#[]⟩, .int .i64 0] 26)) w1.heap.size ⟨#[]⟩ 0 ⟨#[]⟩ 0 ∧ Below w1.heap.size w1 (w1.alloc (.cells #[.string ⟨#[]⟩, .int .i64 0, .string ⟨#[]⟩, .int .i64 0] 26)) ∧ w1.heap.size < (w1.alloc (.cells #[.string ⟨#[]⟩, .int .i64 0, .string ⟨#[]⟩, .int .i64 0] 26)).heap.size) := ⟨Deep.blk_alloc_new w1 _, (Below.refl _ w1).alloc (Nat.le_refl _) _, by simp⟩
    generalize w1.alloc (.cells #[.string ⟨#[]⟩, .int .i64 0, .string ⟨#[]⟩, .int .i64 0] 26) = w2 at HT ⊢
    have HX2_0 : Hid (DkAt w2 D a x b y) := HX1_0.out.below HT.out.2.1 HX1_0.out.lt
    have HB2 : Hid (Below D w w2) := HB1.out.trans (HT.out.2.1.mono (by have := HX1_0.out.lt; omega))
    clear hl0 c0_0 c0_1 c0_2 c0_3 f0_0 f0_1 f0_2 f0_3
    obtain ⟨X, hX⟩ : ∃ g, w1.heap.size = g := ⟨_, rfl⟩
    rw [hX] at HT ⊢
    have HX2_1 : Hid (DkAt w2 X ⟨#[]⟩ 0 ⟨#[]⟩ 0) := HT.out.1
    have HOX : Hid (D < X) := by
      have h : D < w1.heap.size := HX1_0.out.lt
      rw [hX] at h
      exact h
    clear hX HT
    have hz3_0 := HX2_0.out.lt
    have hz3_1 := HX2_1.out.lt
    refine (HRD.out _).mono ?_
    rintro e w3 ⟨rfl, hb3⟩
    have HX3_0 : Hid (DkAt w3 D a x b y) := HX2_0.out.below hb3 (by omega)
    have HX3_1 : Hid (DkAt w3 X ⟨#[]⟩ 0 ⟨#[]⟩ 0) := HX2_1.out.below hb3 (by omega)
    have HB3 : Hid (Below D w w3) := HB2.out.trans (hb3.mono (by omega))
    clear hz3_0 hz3_1 hb3
    have hl0 := HX3_0.out.lt
    obtain ⟨c0_0, c0_1, c0_2, c0_3⟩ := HX3_0.out.cells
    obtain ⟨f0_0, f0_1, f0_2, f0_3⟩ := HX3_0.out.free
    have hl1 := HX3_1.out.lt
    obtain ⟨c1_0, c1_1, c1_2, c1_3⟩ := HX3_1.out.cells
    obtain ⟨f1_0, f1_1, f1_2, f1_3⟩ := HX3_1.out.free
    go_wp2_with fail
    go_ret
    exact ⟨rfl, by rw [HW.out]; exact HB3.out⟩
end Go.Proofs.Ytkihanmodfnpcaa
