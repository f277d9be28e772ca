/- What scrivlaw's table answers. -/
import Derived.Test.YtkihanmodfnpcaaIzMem
import Derived.Deep.RegionHeld3
import Derived.Laws.Rows
namespace Go.Proofs.Ytkihanmodfnpcaa
open Go.RowKit
set_option linter.unusedSimpArgs false
set_option linter.unusedVariables false

/-- the first k hands' rows out of some ints -/
def tabF (l : List Int) : Nat → List Int
  | 0 => List.replicate 16 0
  | k + 1 => if 2 * k + 1 < l.length then ((tabF l k).set (2 * k) (l[2 * k]?.getD 0)).set (2 * k + 1) (l[2 * k + 1]?.getD 0) else tabF l k
theorem tabF_len (l : List Int) : ∀ k, (tabF l k).length = 16
  | 0 => by simp [tabF]
  | k + 1 => by
    rw [tabF]
    split
    · simp [tabF_len l k]
    · exact tabF_len l k
/-- a table in a block of its own -/
def TbAt (w : World) (g : Nat) (t : List Int) : Prop := w.heap[g]? = some (.cells (jzC t).toArray 46 (0, 0))
theorem TbAt.put {w : World} {g : Nat} {t : List Int} (h : TbAt w g t) (i : Nat) (n : Int) : TbAt (w.setCell ⟨g, i, none⟩ (.int .i64 n)) g (t.set i n) := by
  have h2 := heap_setCell_same w g i _ _ (.int .i64 n) h
  have e : ((jzC t).toArray.setIfInBounds i (.int .i64 n)) = (jzC (t.set i n)).toArray := by
    simp [jzC, List.map_set]
  rw [e] at h2
  exact h2
theorem TbAt.below {w w' : World} {B g : Nat} {t : List Int} (h : TbAt w g t) (hb : Below B w w') (hg : g < B) : TbAt w' g t := (hb.block g hg).trans h
theorem TbAt.lt {w : World} {g : Nat} {t : List Int} (h : TbAt w g t) : g < w.heap.size := lt_of_heap h
theorem TbAt.free {w : World} {g : Nat} {t : List Int} (h : TbAt w g t) (i : Nat) : w.frozen? ⟨g, i, none⟩ = false := Lib.frozen_of_heap h i
theorem TbAt.cell {w : World} {g : Nat} {t : List Int} (h : TbAt w g t) {i : Nat} {n : Int} (hi : t[i]? = some n) : w.cell? ⟨g, i, none⟩ = some (.int .i64 n) := by
  have h2 := Lib.cell_of_heap h i
  rw [h2]
  simp [jzC, hi]

theorem below16 {w w' : World} {g : Nat} (h : Below g w w') (v0 v1 v2 v3 v4 v5 v6 v7 v8 v9 v10 v11 v12 v13 v14 v15 : Value) : Below g w (((((((((((((((((w'.setCell ⟨g, 0, none⟩ v0).setCell ⟨g, 1, none⟩ v1).setCell ⟨g, 2, none⟩ v2).setCell ⟨g, 3, none⟩ v3).setCell ⟨g, 4, none⟩ v4).setCell ⟨g, 5, none⟩ v5).setCell ⟨g, 6, none⟩ v6).setCell ⟨g, 7, none⟩ v7).setCell ⟨g, 8, none⟩ v8).setCell ⟨g, 9, none⟩ v9).setCell ⟨g, 10, none⟩ v10).setCell ⟨g, 11, none⟩ v11).setCell ⟨g, 12, none⟩ v12).setCell ⟨g, 13, none⟩ v13).setCell ⟨g, 14, none⟩ v14).setCell ⟨g, 15, none⟩ v15)) := ((((((((((((((((h.setCell (p := ⟨g, 0, none⟩) (Nat.le_refl _) v0).setCell (p := ⟨g, 1, none⟩) (Nat.le_refl _) v1).setCell (p := ⟨g, 2, none⟩) (Nat.le_refl _) v2).setCell (p := ⟨g, 3, none⟩) (Nat.le_refl _) v3).setCell (p := ⟨g, 4, none⟩) (Nat.le_refl _) v4).setCell (p := ⟨g, 5, none⟩) (Nat.le_refl _) v5).setCell (p := ⟨g, 6, none⟩) (Nat.le_refl _) v6).setCell (p := ⟨g, 7, none⟩) (Nat.le_refl _) v7).setCell (p := ⟨g, 8, none⟩) (Nat.le_refl _) v8).setCell (p := ⟨g, 9, none⟩) (Nat.le_refl _) v9).setCell (p := ⟨g, 10, none⟩) (Nat.le_refl _) v10).setCell (p := ⟨g, 11, none⟩) (Nat.le_refl _) v11).setCell (p := ⟨g, 12, none⟩) (Nat.le_refl _) v12).setCell (p := ⟨g, 13, none⟩) (Nat.le_refl _) v13).setCell (p := ⟨g, 14, none⟩) (Nat.le_refl _) v14).setCell (p := ⟨g, 15, none⟩) (Nat.le_refl _) v15)
set_option maxRecDepth 20000 in
set_option maxHeartbeats 4000000 in
theorem tabs_any (a : Option Addr) (l : List Int) (cap : Nat) (w : World) (hp : IzAt w w.heap.size a l cap) :
    Calls Try.prog 16 #[.slice a l.length cap] w fun e w' => e = .returned (.agg (jzC (tabF l 8)).toArray) ∧ Below w.heap.size w w' := by
  have hll : l.length ≤ 9223372036854775807 := Nat.le_trans hp.1 hp.2.1
  have HP : Hid (IzAt w w.heap.size a l cap) := hp
  clear hp
  have HZ : Hid (TbAt (w.alloc (.cells #[.int .i64 0, .int .i64 0, .int .i64 0, .int .i64 0, .int .i64 0, .int .i64 0, .int .i64 0, .int .i64 0, .int .i64 0, .int .i64 0, .int .i64 0, .int .i64 0, .int .i64 0, .int .i64 0, .int .i64 0, .int .i64 0] 46)) w.heap.size (tabF l 0)) := Deep.blk_alloc_new w _
  go_enter Try.func16, Try.ntmps16
  go_wp2_with fail
  go_loopw [4] (fun i wr => ∃ k : Nat, k ≤ 8 ∧ i = .int .i64 k ∧ TbAt wr w.heap.size (tabF l k) ∧ Below w.heap.size w wr) (fun i _ => 8 - (intOf i).toNat)
  case atStart => exact ⟨0, Nat.zero_le _, rfl, HZ.out, (Below.refl _ w).alloc (Nat.le_refl _) _⟩
  case round =>
    rename World => wr
    obtain ⟨k, hk, rfl, ht, hb⟩ := hrel
    have HT : Hid (TbAt wr w.heap.size (tabF l k)) := ht
    have HB : Hid (Below w.heap.size w wr) := hb
    by_cases hlt : k < 8
    · have hki : (k : Int) < 8 := by omega
      by_cases hkl : 2 * k + 1 < l.length
      · obtain ⟨p, hpq⟩ : ∃ p, l[2 * k]? = some p := ⟨l[2 * k]'(by omega), List.getElem?_eq_getElem _⟩
        obtain ⟨q, hq⟩ : ∃ q, l[2 * k + 1]? = some q := ⟨l[2 * k + 1]'hkl, List.getElem?_eq_getElem _⟩
        have HF : Hid (tabF l (k + 1) = ((tabF l k).set (k * 2) p).set (k * 2 + 1) q) := by
          show _ = _
          rw [tabF, if_pos hkl, hpq, hq, Nat.mul_comm 2 k]; rfl
        obtain ⟨b, off, rfl, hblt, c1⟩ := (HP.out.below hb (Nat.le_refl _)).mem hpq
        obtain ⟨b', off', e', _, c2⟩ := (HP.out.below hb (Nat.le_refl _)).mem hq
        obtain ⟨rfl, rfl⟩ : b = b' ∧ off = off' := by cases e'; exact ⟨rfl, rfl⟩
        have f1 := ht.free (k * 2)
        have f2 := ht.free (k * 2 + 1)
        obtain ⟨x, hx⟩ : ∃ x, (tabF l k)[k * 2]? = some x := ⟨(tabF l k)[k * 2]'(by rw [tabF_len]; omega), List.getElem?_eq_getElem _⟩
        obtain ⟨y, hy⟩ : ∃ y, (tabF l k)[k * 2 + 1]? = some y := ⟨(tabF l k)[k * 2 + 1]'(by rw [tabF_len]; omega), List.getElem?_eq_getElem _⟩
        have d1 := ht.cell hx
        have d2 := ht.cell hy
        have hg := ht.lt
        have hz := hb.size
        have hbw : b < wr.heap.size := by omega
        obtain ⟨m, hm⟩ : ∃ m, 2 * k = m := ⟨_, rfl⟩
        rw [hm] at c1 c2 hkl
        have w1 : IntKind.i64.wrap (2 * (k : Int)) = (m : Int) := by rw [IntWalk.i64_in _ ⟨by omega, by omega⟩]; omega
        have w2 : IntKind.i64.wrap ((m : Int) + 1) = ((m + 1 : Nat) : Int) := by rw [IntWalk.i64_in _ ⟨by omega, by omega⟩]; omega
        have g1 : (0 : Int) ≤ (m : Int) := by omega
        have g2 : (m : Int) < (l.length : Int) := by omega
        have g3 : (0 : Int) ≤ ((m + 1 : Nat) : Int) := by omega
        have g4 : ((m + 1 : Nat) : Int) < (l.length : Int) := by omega
        have g5 : 2 * (k : Int) + 1 < (l.length : Int) := by omega
        clear ht hb hpq hq hx hy e'
        go_wp2_with fail
        go_region
        go_wp2_with fail
        go_roundw
        case rel =>
          refine ⟨k + 1, by omega, by go_num, ?_, ((HB.out.setCell (p := ⟨w.heap.size, k * 2, none⟩) (Nat.le_refl _) _).setCell (p := ⟨w.heap.size, k * 2 + 1, none⟩) (Nat.le_refl _) _).drew⟩
          rw [HF.out]
          exact (HT.out.put (k * 2) p).put (k * 2 + 1) q
        case measure => simp [intOf]; omega
      · have g5 : ¬ 2 * (k : Int) + 1 < (l.length : Int) := by omega
        have HF : Hid (tabF l (k + 1) = tabF l k) := by
          show _ = _
          rw [tabF, if_neg hkl]
        clear ht hb hkl
        go_wp2_with fail
        go_roundw
        case rel => exact ⟨k + 1, by omega, by go_num, by rw [HF.out]; exact HT.out, HB.out⟩
        case measure => simp [intOf]; omega
    · have hk8 : k = 8 := by omega
      subst hk8
      have HL : Hid _ := tabF_len l 8
      obtain ⟨T, hT⟩ : ∃ T, tabF l 8 = T := ⟨_, rfl⟩
      have HTE : Hid (tabF l 8 = T) := hT
      rw [hT] at HT HL
      clear ht hT hlt
      match T, HL.out, HT, HTE with
      | [x0, x1, x2, x3, x4, x5, x6, x7, x8, x9, x10, x11, x12, x13, x14, x15], _, HT, HTE =>
        have hg := HT.out.lt
        have c0 := HT.out.cell (i := 0) rfl
        have f0 := HT.out.free 0
        have c1 := HT.out.cell (i := 1) rfl
        have f1 := HT.out.free 1
        have c2 := HT.out.cell (i := 2) rfl
        have f2 := HT.out.free 2
        have c3 := HT.out.cell (i := 3) rfl
        have f3 := HT.out.free 3
        have c4 := HT.out.cell (i := 4) rfl
        have f4 := HT.out.free 4
        have c5 := HT.out.cell (i := 5) rfl
        have f5 := HT.out.free 5
        have c6 := HT.out.cell (i := 6) rfl
        have f6 := HT.out.free 6
        have c7 := HT.out.cell (i := 7) rfl
        have f7 := HT.out.free 7
        have c8 := HT.out.cell (i := 8) rfl
        have f8 := HT.out.free 8
        have c9 := HT.out.cell (i := 9) rfl
        have f9 := HT.out.free 9
        have c10 := HT.out.cell (i := 10) rfl
        have f10 := HT.out.free 10
        have c11 := HT.out.cell (i := 11) rfl
        have f11 := HT.out.free 11
        have c12 := HT.out.cell (i := 12) rfl
        have f12 := HT.out.free 12
        have c13 := HT.out.cell (i := 13) rfl
        have f13 := HT.out.free 13
        have c14 := HT.out.cell (i := 14) rfl
        have f14 := HT.out.free 14
        have c15 := HT.out.cell (i := 15) rfl
        have f15 := HT.out.free 15
        go_wp2_with fail
        refine bodyPost_ret (v := .agg #[.int .i64 x0, .int .i64 x1, .int .i64 x2, .int .i64 x3, .int .i64 x4, .int .i64 x5, .int .i64 x6, .int .i64 x7, .int .i64 x8, .int .i64 x9, .int .i64 x10, .int .i64 x11, .int .i64 x12, .int .i64 x13, .int .i64 x14, .int .i64 x15]) (by simp [results, Try.results16, go_sem, *]) rfl ⟨by rw [HTE.out]; rfl, ?_⟩
        exact below16 HB.out _ _ _ _ _ _ _ _ _ _ _ _ _ _ _ _
end Go.Proofs.Ytkihanmodfnpcaa
