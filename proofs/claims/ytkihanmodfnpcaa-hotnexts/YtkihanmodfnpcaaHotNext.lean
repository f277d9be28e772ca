/- What hot.Next and the document's Next answer. -/
import Derived.Test.YtkihanmodfnpcaaNextL
import Derived.Test.YtkihanmodfnpcaaRevOne
import Derived.Test.YtkihanmodfnpcaaIzMem
import Derived.Laws.Rows
import Derived.BigQuiet
import Derived.Deep.QuietTactic
namespace Go.Proofs.Ytkihanmodfnpcaa
open Go.RowKit
set_option linter.unusedSimpArgs false
set_option linter.unusedVariables false

set_option maxRecDepth 20000 in
set_option maxHeartbeats 4000000 in
theorem Next_any (LV : Array Value) (base : Int) (n : Nat) (ra : Option Addr) (rc : Nat) (T : List Int) (size : Int) (r : Rv) (a : Option Addr) (c : Nat) (w : World) (hp : PartsAt w w.heap.size a r.d)
    (h1 : LV[1]? = some (.int .i64 base)) (h35 : LV[35]? = some (.slice ra n rc)) (hT : ∀ k q, T[k]? = some q → LV[19 + k]? = some (.int .i64 q)) (hTl : T.length = 16) (hn : n ≤ 9223372036854775807) :
    Calls Try.prog 15 #[.agg LV, .int .i64 size, .agg #[.int .i64 r.who, .int .i64 r.seq, .slice a r.d.length c]] w fun e w' => e = .returned (.int .i64 (nextE T base n size r)) ∧ Below w.heap.size w w' := by
  have HP : Hid (PartsAt w w.heap.size a r.d) := hp
  have HO : Hid _ := fun w hp => One_any r a c w hp
  have HF : Hid _ := fun w hp => Fits_any a r.d c size w hp
  clear hp
  have HA0 : Hid ((w.alloc (.cells LV 48)).heap[w.heap.size]? = some (.cells LV 48 (0, 0))) := Deep.blk_alloc_new w _
  have HA1 : Hid (RBox ((w.alloc (.cells LV 48)).alloc (.cells #[.int .i64 r.who, .int .i64 r.seq, .slice a r.d.length c] 42)) (w.heap.size + 1) r a c) := by
    have h := rbox_new (w.alloc (.cells LV 48)) r a c
    rw [show (w.alloc (.cells LV 48)).heap.size = w.heap.size + 1 from Deep.nblk_alloc _ _] at h
    exact h
  have HA2 : Hid (((w.alloc (.cells LV 48)).alloc (.cells #[.int .i64 r.who, .int .i64 r.seq, .slice a r.d.length c] 42)).heap[w.heap.size]? = some (.cells LV 48 (0, 0))) := by
    show _ = _
    rw [Deep.blk_alloc_lt _ _ _ (by rw [Deep.nblk_alloc]; omega)]
    exact HA0.out
  have HB0 : Hid (Below w.heap.size w ((w.alloc (.cells LV 48)).alloc (.cells #[.int .i64 r.who, .int .i64 r.seq, .slice a r.d.length c] 42))) := ((Below.refl _ w).alloc (Nat.le_refl _) _).alloc (by simp) _
  have H1 : Hid _ := h1
  have H35 : Hid _ := h35
  have HT : Hid _ := hT
  clear h1 h35 hT HA0
  go_enter Try.func15, Try.ntmps15
  go_wp2_with fail
  generalize (w.alloc (.cells LV 48)).alloc (.cells #[.int .i64 r.who, .int .i64 r.seq, .slice a r.d.length c] 42) = w0 at HA1 HA2 HB0 ⊢
  with_reducible refine (HO.out _ (HP.out.here HB0.out (Nat.le_refl _))).mono ?_
  rintro e w1 ⟨rfl, hb1⟩
  have HX1 : Hid (RBox w1 (w.heap.size + 1) r a c) := HA1.out.below hb1
  have HL1 : Hid (w1.heap[w.heap.size]? = some (.cells LV 48 (0, 0))) := (hb1.block _ (lt_of_heap HA2.out)).trans HA2.out
  have HB1 : Hid (Below w.heap.size w w1) := HB0.out.trans (hb1.mono HB0.out.size)
  clear hb1
  by_cases h0 : oneE r = 0
  · obtain ⟨⟨a1, a2, a3, a4⟩, hz⟩ := one_zero h0
    obtain ⟨k, hk⟩ : ∃ k : Nat, r.who = (k : Int) := ⟨r.who.toNat, by omega⟩
    obtain ⟨q, hq⟩ : ∃ q, T[2 * k]? = some q := ⟨T[2 * k]'(by omega), List.getElem?_eq_getElem _⟩
    have hsq : seqOf T r.who = q := by rw [seqOf, hk, Int.toNat_natCast, hq]; rfl
    have HE : Hid (nextE T base n size r = if r.seq ≤ q then 10 else if 64 ≤ n ∨ 2147483647 ≤ base + n then 11 else fitsE r.d size) := by show _ = _; rw [nextE, if_pos h0, hsq]
    obtain ⟨c0, c1, c2, hl⟩ := HX1.out
    rw [hk] at c0
    have e1 : w1.cell? ⟨w.heap.size, 1, none⟩ = some (.int .i64 base) := (cell_of_row _ _ _ _ _ _ HL1.out).trans H1.out
    have e35 : w1.cell? ⟨w.heap.size, 35, none⟩ = some (.slice ra n rc) := (cell_of_row _ _ _ _ _ _ HL1.out).trans H35.out
    have eT : w1.cell? ⟨w.heap.size, 19 + k * 2, none⟩ = some (.int .i64 q) := (cell_of_row _ _ _ _ _ _ HL1.out).trans (by have h := HT.out (2 * k) q hq; rw [Nat.mul_comm 2 k] at h; exact h)
    have hlg := lt_of_heap HL1.out
    have k8 : (k : Int) < 8 := by omega
    have k0 : (0 : Int) ≤ (k : Int) := by omega
    rw [h0]
    clear h0 hz hq hsq hk a1 a2
    by_cases hs : r.seq ≤ q
    · have HE2 : Hid (nextE T base n size r = 10) := by show _ = _; rw [HE.out, if_pos hs]
      have hs' : ¬ q < r.seq := by omega
      go_wp2_with fail
      go_quiet (fail)
      rename Nat => nq
      go_wp2_with fail
      go_ret
      exact ⟨ret_err HE2.out.symm, below_drewN HB1.out nq⟩
    · have hs' : ¬ r.seq ≤ q := hs
      by_cases hf : 64 ≤ n
      · have HE2 : Hid (nextE T base n size r = 11) := by show _ = _; rw [HE.out, if_neg hs, if_pos (.inl hf)]
        have f1 : (64 : Int) ≤ (n : Int) := by omega
        have f2 : (63 : Int) < (n : Int) := by omega
        clear hs hf
        go_wp2_with fail
        go_quiet (fail)
        rename Nat => nq
        go_wp2_with fail
        go_ret
        exact ⟨ret_err HE2.out.symm, below_drewN HB1.out nq⟩
      · have f1 : ¬ (64 : Int) ≤ (n : Int) := by omega
        have f2 : ¬ (63 : Int) < (n : Int) := by omega
        by_cases hb : 2147483647 ≤ base + n
        · have HE2 : Hid (nextE T base n size r = 11) := by show _ = _; rw [HE.out, if_neg hs, if_pos (.inr hb)]
          have f3 : (2147483647 : Int) - (n : Int) ≤ base := by omega
          have f4 : (2147483646 : Int) - (n : Int) < base := by omega
          clear hs hf hb
          go_wp2_with fail
          go_quiet (fail)
          rename Nat => nq
          go_wp2_with fail
          go_ret
          exact ⟨ret_err HE2.out.symm, below_drewN HB1.out nq⟩
        · have HE2 : Hid (nextE T base n size r = fitsE r.d size) := by show _ = _; rw [HE.out, if_neg hs, if_neg (by omega)]
          have f3 : ¬ (2147483647 : Int) - (n : Int) ≤ base := by omega
          have f4 : ¬ (2147483646 : Int) - (n : Int) < base := by omega
          clear hs hf hb
          go_wp2_with fail
          go_quiet (fail)
          rename Nat => nq
          go_wp2_with fail
          have HBq : Hid (Below w.heap.size w (w1.drewN nq)) := below_drewN HB1.out nq
          with_reducible refine (HF.out _ (HP.out.here HBq.out (Nat.le_refl _))).mono ?_
          rintro e w2 ⟨rfl, hb2⟩
          have HB2 : Hid (Below w.heap.size w w2) := HBq.out.trans (hb2.mono HBq.out.size)
          clear hb2
          go_wp2_with fail
          go_ret
          exact ⟨ret_err HE2.out.symm, HB2.out⟩
  · have h0' : (oneE r != 0) = true := by simp [h0]
    have HE : Hid (nextE T base n size r = oneE r) := by show _ = _; rw [nextE, if_neg h0]
    obtain ⟨q, hq⟩ : ∃ q, oneE r = q := ⟨_, rfl⟩
    rw [hq] at HE h0' ⊢
    clear h0 hq
    go_wp2_with fail
    go_ret
    exact ⟨ret_err HE.out.symm, HB1.out⟩
set_option maxRecDepth 20000 in
set_option maxHeartbeats 4000000 in
theorem RNext_any (LV : Array Value) (base : Int) (n : Nat) (ra : Option Addr) (rc : Nat) (T : List Int) (size : Int) (r : Rv) (a : Option Addr) (c : Nat) (w : World) (hp : PartsAt w w.heap.size a r.d)
    (h1 : LV[1]? = some (.int .i64 base)) (h35 : LV[35]? = some (.slice ra n rc)) (hT : ∀ k q, T[k]? = some q → LV[19 + k]? = some (.int .i64 q)) (hTl : T.length = 16) (hn : n ≤ 9223372036854775807) :
    Calls Try.prog 17 #[.agg LV, .int .i64 size, .agg #[.int .i64 r.who, .int .i64 r.seq, .slice a r.d.length c]] w fun e w' => e = .returned (.int .i64 (nextE T base n size r)) ∧ Below w.heap.size w w' := by
  have HP : Hid (PartsAt w w.heap.size a r.d) := hp
  have HO : Hid _ := fun w hp => RRev_any r a c w hp
  have HF : Hid _ := fun w hp => RFits_any a r.d c size w hp
  clear hp
  have HA0 : Hid ((w.alloc (.cells LV 48)).heap[w.heap.size]? = some (.cells LV 48 (0, 0))) := Deep.blk_alloc_new w _
  have HA1 : Hid (RBox ((w.alloc (.cells LV 48)).alloc (.cells #[.int .i64 r.who, .int .i64 r.seq, .slice a r.d.length c] 42)) (w.heap.size + 1) r a c) := by
    have h := rbox_new (w.alloc (.cells LV 48)) r a c
    rw [show (w.alloc (.cells LV 48)).heap.size = w.heap.size + 1 from Deep.nblk_alloc _ _] at h
    exact h
  have HA2 : Hid (((w.alloc (.cells LV 48)).alloc (.cells #[.int .i64 r.who, .int .i64 r.seq, .slice a r.d.length c] 42)).heap[w.heap.size]? = some (.cells LV 48 (0, 0))) := by
    show _ = _
    rw [Deep.blk_alloc_lt _ _ _ (by rw [Deep.nblk_alloc]; omega)]
    exact HA0.out
  have HB0 : Hid (Below w.heap.size w ((w.alloc (.cells LV 48)).alloc (.cells #[.int .i64 r.who, .int .i64 r.seq, .slice a r.d.length c] 42))) := ((Below.refl _ w).alloc (Nat.le_refl _) _).alloc (by simp) _
  have H1 : Hid _ := h1
  have H35 : Hid _ := h35
  have HT : Hid _ := hT
  clear h1 h35 hT HA0
  go_enter Try.func17, Try.ntmps17
  go_wp2_with fail
  generalize (w.alloc (.cells LV 48)).alloc (.cells #[.int .i64 r.who, .int .i64 r.seq, .slice a r.d.length c] 42) = w0 at HA1 HA2 HB0 ⊢
  with_reducible refine (HO.out _ (HP.out.here HB0.out (Nat.le_refl _))).mono ?_
  rintro e w1 ⟨rfl, hb1⟩
  have HX1 : Hid (RBox w1 (w.heap.size + 1) r a c) := HA1.out.below hb1
  have HL1 : Hid (w1.heap[w.heap.size]? = some (.cells LV 48 (0, 0))) := (hb1.block _ (lt_of_heap HA2.out)).trans HA2.out
  have HB1 : Hid (Below w.heap.size w w1) := HB0.out.trans (hb1.mono HB0.out.size)
  clear hb1
  by_cases h0 : oneE r = 0
  · obtain ⟨⟨a1, a2, a3, a4⟩, hz⟩ := one_zero h0
    obtain ⟨k, hk⟩ : ∃ k : Nat, r.who = (k : Int) := ⟨r.who.toNat, by omega⟩
    obtain ⟨q, hq⟩ : ∃ q, T[2 * k]? = some q := ⟨T[2 * k]'(by omega), List.getElem?_eq_getElem _⟩
    have hsq : seqOf T r.who = q := by rw [seqOf, hk, Int.toNat_natCast, hq]; rfl
    have HE : Hid (nextE T base n size r = if r.seq ≤ q then 10 else if 64 ≤ n ∨ 2147483647 ≤ base + n then 11 else fitsE r.d size) := by show _ = _; rw [nextE, if_pos h0, hsq]
    obtain ⟨c0, c1, c2, hl⟩ := HX1.out
    rw [hk] at c0
    have e1 : w1.cell? ⟨w.heap.size, 1, none⟩ = some (.int .i64 base) := (cell_of_row _ _ _ _ _ _ HL1.out).trans H1.out
    have e35 : w1.cell? ⟨w.heap.size, 35, none⟩ = some (.slice ra n rc) := (cell_of_row _ _ _ _ _ _ HL1.out).trans H35.out
    have eT : w1.cell? ⟨w.heap.size, 19 + k * 2, none⟩ = some (.int .i64 q) := (cell_of_row _ _ _ _ _ _ HL1.out).trans (by have h := HT.out (2 * k) q hq; rw [Nat.mul_comm 2 k] at h; exact h)
    have hlg := lt_of_heap HL1.out
    have k8 : (k : Int) < 8 := by omega
    have k0 : (0 : Int) ≤ (k : Int) := by omega
    rw [h0]
    clear h0 hz hq hsq hk a1 a2
    by_cases hs : r.seq ≤ q
    · have HE2 : Hid (nextE T base n size r = 10) := by show _ = _; rw [HE.out, if_pos hs]
      have hs' : ¬ q < r.seq := by omega
      go_wp2_with fail
      go_quiet (fail)
      rename Nat => nq
      go_wp2_with fail
      go_ret
      exact ⟨ret_err HE2.out.symm, below_drewN HB1.out nq⟩
    · have hs' : ¬ r.seq ≤ q := hs
      by_cases hf : 64 ≤ n
      · have HE2 : Hid (nextE T base n size r = 11) := by show _ = _; rw [HE.out, if_neg hs, if_pos (.inl hf)]
        have f1 : (64 : Int) ≤ (n : Int) := by omega
        have f2 : (63 : Int) < (n : Int) := by omega
        clear hs hf
        go_wp2_with fail
        go_quiet (fail)
        rename Nat => nq
        go_wp2_with fail
        go_ret
        exact ⟨ret_err HE2.out.symm, below_drewN HB1.out nq⟩
      · have f1 : ¬ (64 : Int) ≤ (n : Int) := by omega
        have f2 : ¬ (63 : Int) < (n : Int) := by omega
        by_cases hb : 2147483647 ≤ base + n
        · have HE2 : Hid (nextE T base n size r = 11) := by show _ = _; rw [HE.out, if_neg hs, if_pos (.inr hb)]
          have f3 : (2147483647 : Int) - (n : Int) ≤ base := by omega
          have f4 : (2147483646 : Int) - (n : Int) < base := by omega
          clear hs hf hb
          go_wp2_with fail
          go_quiet (fail)
          rename Nat => nq
          go_wp2_with fail
          go_ret
          exact ⟨ret_err HE2.out.symm, below_drewN HB1.out nq⟩
        · have HE2 : Hid (nextE T base n size r = fitsE r.d size) := by show _ = _; rw [HE.out, if_neg hs, if_neg (by omega)]
          have f3 : ¬ (2147483647 : Int) - (n : Int) ≤ base := by omega
          have f4 : ¬ (2147483646 : Int) - (n : Int) < base := by omega
          clear hs hf hb
          go_wp2_with fail
          go_quiet (fail)
          rename Nat => nq
          go_wp2_with fail
          have HBq : Hid (Below w.heap.size w (w1.drewN nq)) := below_drewN HB1.out nq
          with_reducible refine (HF.out _ (HP.out.here HBq.out (Nat.le_refl _))).mono ?_
          rintro e w2 ⟨rfl, hb2⟩
          have HB2 : Hid (Below w.heap.size w w2) := HBq.out.trans (hb2.mono HBq.out.size)
          clear hb2
          go_wp2_with fail
          go_ret
          exact ⟨ret_err HE2.out.symm, HB2.out⟩
  · have h0' : (oneE r != 0) = true := by simp [h0]
    have HE : Hid (nextE T base n size r = oneE r) := by show _ = _; rw [nextE, if_neg h0]
    obtain ⟨q, hq⟩ : ∃ q, oneE r = q := ⟨_, rfl⟩
    rw [hq] at HE h0' ⊢
    clear h0 hq
    go_wp2_with fail
    go_ret
    exact ⟨ret_err HE.out.symm, HB1.out⟩
end Go.Proofs.Ytkihanmodfnpcaa
