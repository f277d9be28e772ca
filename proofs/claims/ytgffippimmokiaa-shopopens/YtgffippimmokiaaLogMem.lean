/- What hot.Next and the document's Next answer. -/
import Derived.Test.YtgffippimmokiaaNextL
import Derived.Test.YtgffippimmokiaaRevOne
import Derived.Test.YtgffippimmokiaaLogBox
import Derived.Laws.Rows
import Derived.BigQuiet
import Derived.Deep.QuietTactic
import Derived.Deep.RegionHeld3
import Derived.Deep.WholeRow
import Derived.Deep.MidRow
namespace Go.Proofs.Ytgffippimmokiaa
open Go.RowKit
set_option linter.unusedSimpArgs false
set_option linter.unusedVariables false

set_option maxRecDepth 20000 in
set_option maxHeartbeats 4000000 in
theorem Next_any (LV : Array Value) (base : Int) (n : Nat) (ra : Option Addr) (rc : Nat) (T : List Int) (size : Int) (r : Rv) (a : Option Addr) (c : Nat) (w : World) (hp : PartsAt w w.heap.size a r.d)
    (h1 : LV[1]? = some (.int .i64 base)) (h35 : LV[35]? = some (.slice ra n rc)) (hT : ∀ k q, T[k]? = some q → LV[19 + k]? = some (.int .i64 q)) (hTl : T.length = 16) (hn : n ≤ 9223372036854775807) :
    Calls Try.prog 55 #[.agg LV, .int .i64 size, .agg #[.int .i64 r.who, .int .i64 r.seq, .slice a r.d.length c]] w fun e w' => e = .returned (.int .i64 (nextE T base n size r)) ∧ Below w.heap.size w w' := by
  have HP : Hid (PartsAt w w.heap.size a r.d) := hp
  have HO : Hid _ := fun w hp => One_any r a c w hp
  have HF : Hid _ := fun w hp => Fits_any a r.d c size w hp
  clear hp
  have HA0 : Hid ((w.alloc (.cells LV 82)).heap[w.heap.size]? = some (.cells LV 82 (0, 0))) := Deep.blk_alloc_new w _
  have HA1 : Hid (RBox ((w.alloc (.cells LV 82)).alloc (.cells #[.int .i64 r.who, .int .i64 r.seq, .slice a r.d.length c] 40)) (w.heap.size + 1) r a c) := by
    have h := rbox_new (w.alloc (.cells LV 82)) r a c
    rw [show (w.alloc (.cells LV 82)).heap.size = w.heap.size + 1 from Deep.nblk_alloc _ _] at h
    exact h
  have HA2 : Hid (((w.alloc (.cells LV 82)).alloc (.cells #[.int .i64 r.who, .int .i64 r.seq, .slice a r.d.length c] 40)).heap[w.heap.size]? = some (.cells LV 82 (0, 0))) := by
    show _ = _
    rw [Deep.blk_alloc_lt _ _ _ (by rw [Deep.nblk_alloc]; omega)]
    exact HA0.out
  have HB0 : Hid (Below w.heap.size w ((w.alloc (.cells LV 82)).alloc (.cells #[.int .i64 r.who, .int .i64 r.seq, .slice a r.d.length c] 40))) := ((Below.refl _ w).alloc (Nat.le_refl _) _).alloc (by simp) _
  have H1 : Hid _ := h1
  have H35 : Hid _ := h35
  have HT : Hid _ := hT
  clear h1 h35 hT HA0
  go_enter Try.func55, Try.ntmps55
  go_wp2_with fail
  generalize (w.alloc (.cells LV 82)).alloc (.cells #[.int .i64 r.who, .int .i64 r.seq, .slice a r.d.length c] 40) = w0 at HA1 HA2 HB0 ⊢
  with_reducible refine (HO.out _ (HP.out.here HB0.out (Nat.le_refl _))).mono ?_
  rintro e w1 ⟨rfl, hb1⟩
  have HX1 : Hid (RBox w1 (w.heap.size + 1) r a c) := HA1.out.below hb1
  have HL1 : Hid (w1.heap[w.heap.size]? = some (.cells LV 82 (0, 0))) := (hb1.block _ (lt_of_heap HA2.out)).trans HA2.out
  have HB1 : Hid (Below w.heap.size w w1) := HB0.out.trans (hb1.mono HB0.out.size)
  clear hb1
  by_cases h0 : oneE r = 0
  · obtain ⟨⟨a1, a2, a3, a4⟩, hz⟩ := one_zero h0
    obtain ⟨k, hk⟩ : ∃ k : Nat, r.who = (k : Int) := ⟨r.who.toNat, by omega⟩
    obtain ⟨q, hq⟩ : ∃ q, T[2 * k]? = some q := ⟨T[2 * k]'(by omega), List.getElem?_eq_getElem _⟩
    have hsq : seqOf T r.who = q := by rw [seqOf, hk, Int.toNat_natCast, hq]; rfl
    have HE : Hid (nextE T base n size r = if r.seq ≤ q then 10 else if 64 ≤ n ∨ 2147483647 ≤ base + n then 11 else fitsE r.d size) := by show _ = _; rw [nextE, if_pos h0, hsq]
    obtain ⟨c0, c1, c2, hl⟩ := HX1.out
    rw [hk] at c0
    have e1 : w1.cell? ⟨w.heap.size, 1, none⟩ = some (.int .i64 base) := (cell_of_row _ _ _ _ _ _ HL1.out).trans H1.out
    have e35 : w1.cell? ⟨w.heap.size, 35, none⟩ = some (.slice ra n rc) := (cell_of_row _ _ _ _ _ _ HL1.out).trans H35.out
    have eT : w1.cell? ⟨w.heap.size, 19 + k * 2, none⟩ = some (.int .i64 q) := (cell_of_row _ _ _ _ _ _ HL1.out).trans (by have h := HT.out (2 * k) q hq; rw [Nat.mul_comm 2 k] at h; exact h)
    have hlg := lt_of_heap HL1.out
    have k8 : (k : Int) < 8 := by omega
    have k0 : (0 : Int) ≤ (k : Int) := by omega
    rw [h0]
    clear h0 hz hq hsq hk a1 a2
    by_cases hs : r.seq ≤ q
    · have HE2 : Hid (nextE T base n size r = 10) := by show _ = _; rw [HE.out, if_pos hs]
      have hs' : ¬ q < r.seq := by omega
      go_wp2_with fail
      go_quiet (fail)
      rename Nat => nq
      go_wp2_with fail
      go_ret
      exact ⟨ret_err HE2.out.symm, below_drewN HB1.out nq⟩
    · have hs' : ¬ r.seq ≤ q := hs
      by_cases hf : 64 ≤ n
      · have HE2 : Hid (nextE T base n size r = 11) := by show _ = _; rw [HE.out, if_neg hs, if_pos (.inl hf)]
        have f1 : (64 : Int) ≤ (n : Int) := by omega
        have f2 : (63 : Int) < (n : Int) := by omega
        clear hs hf
        go_wp2_with fail
        go_quiet (fail)
        rename Nat => nq
        go_wp2_with fail
        go_ret
        exact ⟨ret_err HE2.out.symm, below_drewN HB1.out nq⟩
      · have f1 : ¬ (64 : Int) ≤ (n : Int) := by omega
        have f2 : ¬ (63 : Int) < (n : Int) := by omega
        by_cases hb : 2147483647 ≤ base + n
        · have HE2 : Hid (nextE T base n size r = 11) := by show _ = _; rw [HE.out, if_neg hs, if_pos (.inr hb)]
          have f3 : (2147483647 : Int) - (n : Int) ≤ base := by omega
          have f4 : (2147483646 : Int) - (n : Int) < base := by omega
          clear hs hf hb
          go_wp2_with fail
          go_quiet (fail)
          rename Nat => nq
          go_wp2_with fail
          go_ret
          exact ⟨ret_err HE2.out.symm, below_drewN HB1.out nq⟩
        · have HE2 : Hid (nextE T base n size r = fitsE r.d size) := by show _ = _; rw [HE.out, if_neg hs, if_neg (by omega)]
          have f3 : ¬ (2147483647 : Int) - (n : Int) ≤ base := by omega
          have f4 : ¬ (2147483646 : Int) - (n : Int) < base := by omega
          clear hs hf hb
          go_wp2_with fail
          go_quiet (fail)
          rename Nat => nq
          go_wp2_with fail
          have HBq : Hid (Below w.heap.size w (w1.drewN nq)) := below_drewN HB1.out nq
          with_reducible refine (HF.out _ (HP.out.here HBq.out (Nat.le_refl _))).mono ?_
          rintro e w2 ⟨rfl, hb2⟩
          have HB2 : Hid (Below w.heap.size w w2) := HBq.out.trans (hb2.mono HBq.out.size)
          clear hb2
          go_wp2_with fail
          go_ret
          exact ⟨ret_err HE2.out.symm, HB2.out⟩
  · have h0' : (oneE r != 0) = true := by simp [h0]
    have HE : Hid (nextE T base n size r = oneE r) := by show _ = _; rw [nextE, if_neg h0]
    obtain ⟨q, hq⟩ : ∃ q, oneE r = q := ⟨_, rfl⟩
    rw [hq] at HE h0' ⊢
    clear h0 hq
    go_wp2_with fail
    go_ret
    exact ⟨ret_err HE.out.symm, HB1.out⟩
set_option maxRecDepth 20000 in
set_option maxHeartbeats 4000000 in
theorem RNext_any (LV : Array Value) (base : Int) (n : Nat) (ra : Option Addr) (rc : Nat) (T : List Int) (size : Int) (r : Rv) (a : Option Addr) (c : Nat) (w : World) (hp : PartsAt w w.heap.size a r.d)
    (h1 : LV[1]? = some (.int .i64 base)) (h35 : LV[35]? = some (.slice ra n rc)) (hT : ∀ k q, T[k]? = some q → LV[19 + k]? = some (.int .i64 q)) (hTl : T.length = 16) (hn : n ≤ 9223372036854775807) :
    Calls Try.prog 86 #[.agg LV, .int .i64 size, .agg #[.int .i64 r.who, .int .i64 r.seq, .slice a r.d.length c]] w fun e w' => e = .returned (.int .i64 (nextE T base n size r)) ∧ Below w.heap.size w w' := by
  have HP : Hid (PartsAt w w.heap.size a r.d) := hp
  have HO : Hid _ := fun w hp => RRev_any r a c w hp
  have HF : Hid _ := fun w hp => RFits_any a r.d c size w hp
  clear hp
  have HA0 : Hid ((w.alloc (.cells LV 82)).heap[w.heap.size]? = some (.cells LV 82 (0, 0))) := Deep.blk_alloc_new w _
  have HA1 : Hid (RBox ((w.alloc (.cells LV 82)).alloc (.cells #[.int .i64 r.who, .int .i64 r.seq, .slice a r.d.length c] 40)) (w.heap.size + 1) r a c) := by
    have h := rbox_new (w.alloc (.cells LV 82)) r a c
    rw [show (w.alloc (.cells LV 82)).heap.size = w.heap.size + 1 from Deep.nblk_alloc _ _] at h
    exact h
  have HA2 : Hid (((w.alloc (.cells LV 82)).alloc (.cells #[.int .i64 r.who, .int .i64 r.seq, .slice a r.d.length c] 40)).heap[w.heap.size]? = some (.cells LV 82 (0, 0))) := by
    show _ = _
    rw [Deep.blk_alloc_lt _ _ _ (by rw [Deep.nblk_alloc]; omega)]
    exact HA0.out
  have HB0 : Hid (Below w.heap.size w ((w.alloc (.cells LV 82)).alloc (.cells #[.int .i64 r.who, .int .i64 r.seq, .slice a r.d.length c] 40))) := ((Below.refl _ w).alloc (Nat.le_refl _) _).alloc (by simp) _
  have H1 : Hid _ := h1
  have H35 : Hid _ := h35
  have HT : Hid _ := hT
  clear h1 h35 hT HA0
  go_enter Try.func86, Try.ntmps86
  go_wp2_with fail
  generalize (w.alloc (.cells LV 82)).alloc (.cells #[.int .i64 r.who, .int .i64 r.seq, .slice a r.d.length c] 40) = w0 at HA1 HA2 HB0 ⊢
  with_reducible refine (HO.out _ (HP.out.here HB0.out (Nat.le_refl _))).mono ?_
  rintro e w1 ⟨rfl, hb1⟩
  have HX1 : Hid (RBox w1 (w.heap.size + 1) r a c) := HA1.out.below hb1
  have HL1 : Hid (w1.heap[w.heap.size]? = some (.cells LV 82 (0, 0))) := (hb1.block _ (lt_of_heap HA2.out)).trans HA2.out
  have HB1 : Hid (Below w.heap.size w w1) := HB0.out.trans (hb1.mono HB0.out.size)
  clear hb1
  by_cases h0 : oneE r = 0
  · obtain ⟨⟨a1, a2, a3, a4⟩, hz⟩ := one_zero h0
    obtain ⟨k, hk⟩ : ∃ k : Nat, r.who = (k : Int) := ⟨r.who.toNat, by omega⟩
    obtain ⟨q, hq⟩ : ∃ q, T[2 * k]? = some q := ⟨T[2 * k]'(by omega), List.getElem?_eq_getElem _⟩
    have hsq : seqOf T r.who = q := by rw [seqOf, hk, Int.toNat_natCast, hq]; rfl
    have HE : Hid (nextE T base n size r = if r.seq ≤ q then 10 else if 64 ≤ n ∨ 2147483647 ≤ base + n then 11 else fitsE r.d size) := by show _ = _; rw [nextE, if_pos h0, hsq]
    obtain ⟨c0, c1, c2, hl⟩ := HX1.out
    rw [hk] at c0
    have e1 : w1.cell? ⟨w.heap.size, 1, none⟩ = some (.int .i64 base) := (cell_of_row _ _ _ _ _ _ HL1.out).trans H1.out
    have e35 : w1.cell? ⟨w.heap.size, 35, none⟩ = some (.slice ra n rc) := (cell_of_row _ _ _ _ _ _ HL1.out).trans H35.out
    have eT : w1.cell? ⟨w.heap.size, 19 + k * 2, none⟩ = some (.int .i64 q) := (cell_of_row _ _ _ _ _ _ HL1.out).trans (by have h := HT.out (2 * k) q hq; rw [Nat.mul_comm 2 k] at h; exact h)
    have hlg := lt_of_heap HL1.out
    have k8 : (k : Int) < 8 := by omega
    have k0 : (0 : Int) ≤ (k : Int) := by omega
    rw [h0]
    clear h0 hz hq hsq hk a1 a2
    by_cases hs : r.seq ≤ q
    · have HE2 : Hid (nextE T base n size r = 10) := by show _ = _; rw [HE.out, if_pos hs]
      have hs' : ¬ q < r.seq := by omega
      go_wp2_with fail
      go_quiet (fail)
      rename Nat => nq
      go_wp2_with fail
      go_ret
      exact ⟨ret_err HE2.out.symm, below_drewN HB1.out nq⟩
    · have hs' : ¬ r.seq ≤ q := hs
      by_cases hf : 64 ≤ n
      · have HE2 : Hid (nextE T base n size r = 11) := by show _ = _; rw [HE.out, if_neg hs, if_pos (.inl hf)]
        have f1 : (64 : Int) ≤ (n : Int) := by omega
        have f2 : (63 : Int) < (n : Int) := by omega
        clear hs hf
        go_wp2_with fail
        go_quiet (fail)
        rename Nat => nq
        go_wp2_with fail
        go_ret
        exact ⟨ret_err HE2.out.symm, below_drewN HB1.out nq⟩
      · have f1 : ¬ (64 : Int) ≤ (n : Int) := by omega
        have f2 : ¬ (63 : Int) < (n : Int) := by omega
        by_cases hb : 2147483647 ≤ base + n
        · have HE2 : Hid (nextE T base n size r = 11) := by show _ = _; rw [HE.out, if_neg hs, if_pos (.inr hb)]
          have f3 : (2147483647 : Int) - (n : Int) ≤ base := by omega
          have f4 : (2147483646 : Int) - (n : Int) < base := by omega
          clear hs hf hb
          go_wp2_with fail
          go_quiet (fail)
          rename Nat => nq
          go_wp2_with fail
          go_ret
          exact ⟨ret_err HE2.out.symm, below_drewN HB1.out nq⟩
        · have HE2 : Hid (nextE T base n size r = fitsE r.d size) := by show _ = _; rw [HE.out, if_neg hs, if_neg (by omega)]
          have f3 : ¬ (2147483647 : Int) - (n : Int) ≤ base := by omega
          have f4 : ¬ (2147483646 : Int) - (n : Int) < base := by omega
          clear hs hf hb
          go_wp2_with fail
          go_quiet (fail)
          rename Nat => nq
          go_wp2_with fail
          have HBq : Hid (Below w.heap.size w (w1.drewN nq)) := below_drewN HB1.out nq
          with_reducible refine (HF.out _ (HP.out.here HBq.out (Nat.le_refl _))).mono ?_
          rintro e w2 ⟨rfl, hb2⟩
          have HB2 : Hid (Below w.heap.size w w2) := HBq.out.trans (hb2.mono HBq.out.size)
          clear hb2
          go_wp2_with fail
          go_ret
          exact ⟨ret_err HE2.out.symm, HB2.out⟩
  · have h0' : (oneE r != 0) = true := by simp [h0]
    have HE : Hid (nextE T base n size r = oneE r) := by show _ = _; rw [nextE, if_neg h0]
    obtain ⟨q, hq⟩ : ∃ q, oneE r = q := ⟨_, rfl⟩
    rw [hq] at HE h0' ⊢
    clear h0 hq
    go_wp2_with fail
    go_ret
    exact ⟨ret_err HE.out.symm, HB1.out⟩
end Go.Proofs.Ytgffippimmokiaa

/- What scrivlaw's table answers. -/
namespace Go.Proofs.Ytgffippimmokiaa
open Go.RowKit
set_option linter.unusedSimpArgs false
set_option linter.unusedVariables false

/-- the first k hands' rows out of some ints -/
def tabF (l : List Int) : Nat → List Int
  | 0 => List.replicate 16 0
  | k + 1 => if 2 * k + 1 < l.length then ((tabF l k).set (2 * k) (l[2 * k]?.getD 0)).set (2 * k + 1) (l[2 * k + 1]?.getD 0) else tabF l k
theorem tabF_len (l : List Int) : ∀ k, (tabF l k).length = 16
  | 0 => by simp [tabF]
  | k + 1 => by
    rw [tabF]
    split
    · simp [tabF_len l k]
    · exact tabF_len l k
/-- a table in a block of its own -/
def TbAt (w : World) (g : Nat) (t : List Int) : Prop := w.heap[g]? = some (.cells (jzC t).toArray 80 (0, 0))
theorem TbAt.put {w : World} {g : Nat} {t : List Int} (h : TbAt w g t) (i : Nat) (n : Int) : TbAt (w.setCell ⟨g, i, none⟩ (.int .i64 n)) g (t.set i n) := by
  have h2 := heap_setCell_same w g i _ _ (.int .i64 n) h
  have e : ((jzC t).toArray.setIfInBounds i (.int .i64 n)) = (jzC (t.set i n)).toArray := by
    simp [jzC, List.map_set]
  rw [e] at h2
  exact h2
theorem TbAt.below {w w' : World} {B g : Nat} {t : List Int} (h : TbAt w g t) (hb : Below B w w') (hg : g < B) : TbAt w' g t := (hb.block g hg).trans h
theorem TbAt.lt {w : World} {g : Nat} {t : List Int} (h : TbAt w g t) : g < w.heap.size := lt_of_heap h
theorem TbAt.free {w : World} {g : Nat} {t : List Int} (h : TbAt w g t) (i : Nat) : w.frozen? ⟨g, i, none⟩ = false := Lib.frozen_of_heap h i
theorem TbAt.cell {w : World} {g : Nat} {t : List Int} (h : TbAt w g t) {i : Nat} {n : Int} (hi : t[i]? = some n) : w.cell? ⟨g, i, none⟩ = some (.int .i64 n) := by
  have h2 := Lib.cell_of_heap h i
  rw [h2]
  simp [jzC, hi]

theorem below16 {w w' : World} {g : Nat} (h : Below g w w') (v0 v1 v2 v3 v4 v5 v6 v7 v8 v9 v10 v11 v12 v13 v14 v15 : Value) : Below g w (((((((((((((((((w'.setCell ⟨g, 0, none⟩ v0).setCell ⟨g, 1, none⟩ v1).setCell ⟨g, 2, none⟩ v2).setCell ⟨g, 3, none⟩ v3).setCell ⟨g, 4, none⟩ v4).setCell ⟨g, 5, none⟩ v5).setCell ⟨g, 6, none⟩ v6).setCell ⟨g, 7, none⟩ v7).setCell ⟨g, 8, none⟩ v8).setCell ⟨g, 9, none⟩ v9).setCell ⟨g, 10, none⟩ v10).setCell ⟨g, 11, none⟩ v11).setCell ⟨g, 12, none⟩ v12).setCell ⟨g, 13, none⟩ v13).setCell ⟨g, 14, none⟩ v14).setCell ⟨g, 15, none⟩ v15)) := ((((((((((((((((h.setCell (p := ⟨g, 0, none⟩) (Nat.le_refl _) v0).setCell (p := ⟨g, 1, none⟩) (Nat.le_refl _) v1).setCell (p := ⟨g, 2, none⟩) (Nat.le_refl _) v2).setCell (p := ⟨g, 3, none⟩) (Nat.le_refl _) v3).setCell (p := ⟨g, 4, none⟩) (Nat.le_refl _) v4).setCell (p := ⟨g, 5, none⟩) (Nat.le_refl _) v5).setCell (p := ⟨g, 6, none⟩) (Nat.le_refl _) v6).setCell (p := ⟨g, 7, none⟩) (Nat.le_refl _) v7).setCell (p := ⟨g, 8, none⟩) (Nat.le_refl _) v8).setCell (p := ⟨g, 9, none⟩) (Nat.le_refl _) v9).setCell (p := ⟨g, 10, none⟩) (Nat.le_refl _) v10).setCell (p := ⟨g, 11, none⟩) (Nat.le_refl _) v11).setCell (p := ⟨g, 12, none⟩) (Nat.le_refl _) v12).setCell (p := ⟨g, 13, none⟩) (Nat.le_refl _) v13).setCell (p := ⟨g, 14, none⟩) (Nat.le_refl _) v14).setCell (p := ⟨g, 15, none⟩) (Nat.le_refl _) v15)
end Go.Proofs.Ytgffippimmokiaa

/- A log's cells, and a revision's, held together. -/
namespace Go.Proofs.Ytgffippimmokiaa
open Go.RowKit
set_option linter.unusedSimpArgs false
set_option linter.unusedVariables false

theorem log_cells {w w' : World} {g h : Nat} {v0 v1 v2 v3 v4 v5 v6 v7 v8 v9 v10 v11 v12 v13 v14 v15 v16 v17 v18 v19 v20 v21 v22 v23 v24 v25 v26 v27 v28 v29 v30 v31 v32 v33 v34 v35 v36 v37 : Value} {r : Rv} {a : Option Addr} {c : Nat} (hl : w.heap[g]? = some (.cells #[v0, v1, v2, v3, v4, v5, v6, v7, v8, v9, v10, v11, v12, v13, v14, v15, v16, v17, v18, v19, v20, v21, v22, v23, v24, v25, v26, v27, v28, v29, v30, v31, v32, v33, v34, v35, v36, v37] 82 (0, 0))) (hr : RBox w h r a c) (hb : Below w.heap.size w w') :
    w'.cell? ⟨g, 0, none⟩ = some v0 ∧ w'.cell? ⟨g, 1, none⟩ = some v1 ∧ w'.cell? ⟨g, 2, none⟩ = some v2 ∧ w'.cell? ⟨g, 3, none⟩ = some v3 ∧ w'.cell? ⟨g, 4, none⟩ = some v4 ∧ w'.cell? ⟨g, 5, none⟩ = some v5 ∧ w'.cell? ⟨g, 6, none⟩ = some v6 ∧ w'.cell? ⟨g, 7, none⟩ = some v7 ∧ w'.cell? ⟨g, 8, none⟩ = some v8 ∧ w'.cell? ⟨g, 9, none⟩ = some v9 ∧ w'.cell? ⟨g, 10, none⟩ = some v10 ∧ w'.cell? ⟨g, 11, none⟩ = some v11 ∧ w'.cell? ⟨g, 12, none⟩ = some v12 ∧ w'.cell? ⟨g, 13, none⟩ = some v13 ∧ w'.cell? ⟨g, 14, none⟩ = some v14 ∧ w'.cell? ⟨g, 15, none⟩ = some v15 ∧ w'.cell? ⟨g, 16, none⟩ = some v16 ∧ w'.cell? ⟨g, 17, none⟩ = some v17 ∧ w'.cell? ⟨g, 18, none⟩ = some v18 ∧ w'.cell? ⟨g, 19, none⟩ = some v19 ∧ w'.cell? ⟨g, 20, none⟩ = some v20 ∧ w'.cell? ⟨g, 21, none⟩ = some v21 ∧ w'.cell? ⟨g, 22, none⟩ = some v22 ∧ w'.cell? ⟨g, 23, none⟩ = some v23 ∧ w'.cell? ⟨g, 24, none⟩ = some v24 ∧ w'.cell? ⟨g, 25, none⟩ = some v25 ∧ w'.cell? ⟨g, 26, none⟩ = some v26 ∧ w'.cell? ⟨g, 27, none⟩ = some v27 ∧ w'.cell? ⟨g, 28, none⟩ = some v28 ∧ w'.cell? ⟨g, 29, none⟩ = some v29 ∧ w'.cell? ⟨g, 30, none⟩ = some v30 ∧ w'.cell? ⟨g, 31, none⟩ = some v31 ∧ w'.cell? ⟨g, 32, none⟩ = some v32 ∧ w'.cell? ⟨g, 33, none⟩ = some v33 ∧ w'.cell? ⟨g, 34, none⟩ = some v34 ∧ w'.cell? ⟨g, 35, none⟩ = some v35 ∧ w'.cell? ⟨g, 36, none⟩ = some v36 ∧ w'.cell? ⟨g, 37, none⟩ = some v37 ∧ w'.cell? ⟨h, 0, none⟩ = some (.int .i64 r.who) ∧ w'.cell? ⟨h, 1, none⟩ = some (.int .i64 r.seq) ∧ w'.cell? ⟨h, 2, none⟩ = some (.slice a r.d.length c) := by
  have h1 := (hb.block g (lt_of_heap hl)).trans hl
  obtain ⟨r0, r1, r2, _⟩ := hr.below hb
  exact ⟨Lib.cell_of_heap h1 0, Lib.cell_of_heap h1 1, Lib.cell_of_heap h1 2, Lib.cell_of_heap h1 3, Lib.cell_of_heap h1 4, Lib.cell_of_heap h1 5, Lib.cell_of_heap h1 6, Lib.cell_of_heap h1 7, Lib.cell_of_heap h1 8, Lib.cell_of_heap h1 9, Lib.cell_of_heap h1 10, Lib.cell_of_heap h1 11, Lib.cell_of_heap h1 12, Lib.cell_of_heap h1 13, Lib.cell_of_heap h1 14, Lib.cell_of_heap h1 15, Lib.cell_of_heap h1 16, Lib.cell_of_heap h1 17, Lib.cell_of_heap h1 18, Lib.cell_of_heap h1 19, Lib.cell_of_heap h1 20, Lib.cell_of_heap h1 21, Lib.cell_of_heap h1 22, Lib.cell_of_heap h1 23, Lib.cell_of_heap h1 24, Lib.cell_of_heap h1 25, Lib.cell_of_heap h1 26, Lib.cell_of_heap h1 27, Lib.cell_of_heap h1 28, Lib.cell_of_heap h1 29, Lib.cell_of_heap h1 30, Lib.cell_of_heap h1 31, Lib.cell_of_heap h1 32, Lib.cell_of_heap h1 33, Lib.cell_of_heap h1 34, Lib.cell_of_heap h1 35, Lib.cell_of_heap h1 36, Lib.cell_of_heap h1 37, r0, r1, r2⟩
theorem log_tab {v0 v1 v2 v3 v4 v5 v6 v7 v8 v9 v10 v11 v12 v13 v14 v15 v16 v17 v18 v35 v36 v37 : Value} {x0 x1 x2 x3 x4 x5 x6 x7 x8 x9 x10 x11 x12 x13 x14 x15 : Int} : ∀ (k : Nat) (q : Int), [x0, x1, x2, x3, x4, x5, x6, x7, x8, x9, x10, x11, x12, x13, x14, x15][k]? = some q → (#[v0, v1, v2, v3, v4, v5, v6, v7, v8, v9, v10, v11, v12, v13, v14, v15, v16, v17, v18, .int .i64 x0, .int .i64 x1, .int .i64 x2, .int .i64 x3, .int .i64 x4, .int .i64 x5, .int .i64 x6, .int .i64 x7, .int .i64 x8, .int .i64 x9, .int .i64 x10, .int .i64 x11, .int .i64 x12, .int .i64 x13, .int .i64 x14, .int .i64 x15, v35, v36, v37] : Array Value)[19 + k]? = some (.int .i64 q) := by
  intro k q hk
  match k, hk with
  | 0, hk => cases hk; rfl
  | 1, hk => cases hk; rfl
  | 2, hk => cases hk; rfl
  | 3, hk => cases hk; rfl
  | 4, hk => cases hk; rfl
  | 5, hk => cases hk; rfl
  | 6, hk => cases hk; rfl
  | 7, hk => cases hk; rfl
  | 8, hk => cases hk; rfl
  | 9, hk => cases hk; rfl
  | 10, hk => cases hk; rfl
  | 11, hk => cases hk; rfl
  | 12, hk => cases hk; rfl
  | 13, hk => cases hk; rfl
  | 14, hk => cases hk; rfl
  | 15, hk => cases hk; rfl
  | k + 16, hk => simp at hk
theorem went_drew {w w' : World} (hb : Below w.drew.heap.size w.drew w') : Hid (Below w.heap.size w w') := ((Below.refl w.heap.size w).drew).trans hb
theorem went_on {w w1 w2 : World} (h : Hid (Below w.heap.size w w1)) (hb : Below w1.heap.size w1 w2) : Hid (Below w.heap.size w w2) := h.out.trans (hb.mono h.out.size)
/-- a great struct into the block that was made for it -/
theorem wpList_store_new {P : Program} {ops : Array Oper} {rest : List Oper} {op : Oper} {a : Act} {w : World} {Q : Exit → Act → World → Prop} (hgd : op.guard = none) (ty : TypeId) (x y : Operand) (ho : op.op = .store ty x y)
    (Z cells : Array Value) (hx : a.eval x = .pointer (some ⟨w.heap.size, 0, none⟩)) (hy : a.eval y = .agg cells)
    (hi : (P.info? ty).map (·.size) = some cells.size) (hz : Z.size = cells.size) (h1 : cells.all (·.oneCell') = true)
    (h : wpList P ops Q rest (a.put op.dst undef) (w.alloc (.cells cells ty))) : wpList P ops Q (op :: rest) a (w.alloc (.cells Z ty)) :=
  wpList_plain hgd fun _ hK => by
    unfold Oper.wp execOp
    simp only [ho, hx, hy, Instr.storeAt, Instr.sureAddr, Sem.run_bind, Sem.run_pure, Result.andThen_ok, run_storeVar_new w ty Z cells hi hz h1]
    exact hK _ _ h
theorem log_held {w w' : World} {g h : Nat} {L : List Value} {r : Rv} {a : Option Addr} {c : Nat} (hl : w.heap[g]? = some (.cells L.toArray 82 (0, 0))) (hc : w.rangeAt g 0 L) (hr : RBox w h r a c) (hb : Below w.heap.size w w') :
    w'.rangeAt g 0 L ∧ w'.cell? ⟨h, 0, none⟩ = some (.int .i64 r.who) ∧ w'.cell? ⟨h, 1, none⟩ = some (.int .i64 r.seq) ∧ w'.cell? ⟨h, 2, none⟩ = some (.slice a r.d.length c) := by
  obtain ⟨r0, r1, r2, _⟩ := hr.below hb
  exact ⟨fun j v hv => (hb.cell (p := ⟨g, _, none⟩) (lt_of_heap hl)).trans (hc j v hv), r0, r1, r2⟩
theorem infoLog : (Try.prog.info? 82).map (·.size) = some 38 := by kernel_rfl
end Go.Proofs.Ytgffippimmokiaa
