/- HotNexts answers true. -/
import Derived.Test.YtkihanmodfnpcaaLogMem
import Derived.Deep.RegionHeld3
namespace Go.Proofs.Ytkihanmodfnpcaa
open Go.RowKit
set_option linter.unusedSimpArgs false
set_option linter.unusedVariables false

theorem parts_none_nil (w : World) : PartsAt w w.heap.size none [] := ⟨by simp, Nat.le_refl _, by simp, by simp⟩
theorem next_first (w : World) : Calls Try.prog 15 #[.agg #[.int .i64 0, .int .i64 0, .string ⟨#[]⟩, .int .i64 0, .int .i64 0, .int .i64 0, .int .i64 0, .int .i64 0, .int .i64 0, .int .i64 0, .int .i64 0, .int .i64 0, .int .i64 0, .int .i64 0, .int .i64 0, .int .i64 0, .int .i64 0, .int .i64 0, .int .i64 0, .int .i64 0, .int .i64 0, .int .i64 0, .int .i64 0, .int .i64 0, .int .i64 0, .int .i64 0, .int .i64 0, .int .i64 0, .int .i64 0, .int .i64 0, .int .i64 0, .int .i64 0, .int .i64 0, .int .i64 0, .int .i64 0, .slice none 0 0, .bool false, .int .i64 0], .int .i64 0, .agg #[.int .i64 0, .int .i64 0, .slice none 0 0]] w fun e w' => e = .returned (.int .i64 10) ∧ Below w.heap.size w w' := by
  have h := Next_any #[.int .i64 0, .int .i64 0, .string ⟨#[]⟩, .int .i64 0, .int .i64 0, .int .i64 0, .int .i64 0, .int .i64 0, .int .i64 0, .int .i64 0, .int .i64 0, .int .i64 0, .int .i64 0, .int .i64 0, .int .i64 0, .int .i64 0, .int .i64 0, .int .i64 0, .int .i64 0, .int .i64 0, .int .i64 0, .int .i64 0, .int .i64 0, .int .i64 0, .int .i64 0, .int .i64 0, .int .i64 0, .int .i64 0, .int .i64 0, .int .i64 0, .int .i64 0, .int .i64 0, .int .i64 0, .int .i64 0, .int .i64 0, .slice none 0 0, .bool false, .int .i64 0] 0 0 none 0 [0, 0, 0, 0, 0, 0, 0, 0, 0, 0, 0, 0, 0, 0, 0, 0] 0 ⟨0, 0, []⟩ none 0 w (parts_none_nil w) rfl rfl log_tab rfl (by decide)
  exact h

set_option maxRecDepth 20000 in
set_option maxHeartbeats 8000000 in
theorem HotNexts_any (base : Int) (a : Option Addr) (l : List Int) (cap : Nat) (ma : Option Addr) (ml : List Rv) (mc : Nat) (size : Int) (r : Rv) (ra : Option Addr) (rc : Nat) (w : World) (hl : IzAt w w.heap.size a l cap) (hm : RevsAt w w.heap.size ma ml) (hmc : ml.length ≤ mc) (hr : PartsAt w w.heap.size ra r.d) :
    Calls Try.prog 7 #[.int .i64 base, .slice a l.length cap, .slice ma ml.length mc, .int .i64 size, .agg #[.int .i64 r.who, .int .i64 r.seq, .slice ra r.d.length rc]] w fun e w' => e = .returned (.bool true) ∧ Below w.heap.size w w' := by
  have HL : Hid (IzAt w w.heap.size a l cap) := hl
  have HR : Hid (PartsAt w w.heap.size ra r.d) := hr
  have hml := hm.1
  have H0 : Hid _ := fun w => next_first w
  have HTab : Hid _ := fun w hp => tabs_any a l cap w hp
  have hlen := tabF_len l 8
  obtain ⟨T, hT⟩ : ∃ T, tabF l 8 = T := ⟨_, rfl⟩
  rw [hT] at HTab hlen
  match T, hlen with
  | [x0, x1, x2, x3, x4, x5, x6, x7, x8, x9, x10, x11, x12, x13, x14, x15], hlen =>
    have HTb : Hid (∀ w : World, IzAt w w.heap.size a l cap → Calls Try.prog 16 #[.slice a l.length cap] w fun e w' => e = .returned (.agg #[.int .i64 x0, .int .i64 x1, .int .i64 x2, .int .i64 x3, .int .i64 x4, .int .i64 x5, .int .i64 x6, .int .i64 x7, .int .i64 x8, .int .i64 x9, .int .i64 x10, .int .i64 x11, .int .i64 x12, .int .i64 x13, .int .i64 x14, .int .i64 x15]) ∧ Below w.heap.size w w') := HTab.out
    have HN : Hid _ := fun w hp => Next_any #[.int .i64 0, .int .i64 base, .string ⟨#[]⟩, .int .i64 0, .int .i64 0, .int .i64 0, .int .i64 0, .int .i64 0, .int .i64 0, .int .i64 0, .int .i64 0, .int .i64 0, .int .i64 0, .int .i64 0, .int .i64 0, .int .i64 0, .int .i64 0, .int .i64 0, .int .i64 0, .int .i64 x0, .int .i64 x1, .int .i64 x2, .int .i64 x3, .int .i64 x4, .int .i64 x5, .int .i64 x6, .int .i64 x7, .int .i64 x8, .int .i64 x9, .int .i64 x10, .int .i64 x11, .int .i64 x12, .int .i64 x13, .int .i64 x14, .int .i64 x15, .slice ma ml.length mc, .bool false, .int .i64 0] base ml.length ma mc [x0, x1, x2, x3, x4, x5, x6, x7, x8, x9, x10, x11, x12, x13, x14, x15] size r ra rc w hp rfl rfl log_tab rfl hml
    have HRN : Hid _ := fun w hp => RNext_any #[.int .i64 0, .int .i64 base, .string ⟨#[]⟩, .int .i64 0, .int .i64 0, .int .i64 0, .int .i64 0, .int .i64 0, .int .i64 0, .int .i64 0, .int .i64 0, .int .i64 0, .int .i64 0, .int .i64 0, .int .i64 0, .int .i64 0, .int .i64 0, .int .i64 0, .int .i64 0, .int .i64 x0, .int .i64 x1, .int .i64 x2, .int .i64 x3, .int .i64 x4, .int .i64 x5, .int .i64 x6, .int .i64 x7, .int .i64 x8, .int .i64 x9, .int .i64 x10, .int .i64 x11, .int .i64 x12, .int .i64 x13, .int .i64 x14, .int .i64 x15, .slice ma ml.length mc, .bool false, .int .i64 0] base ml.length ma mc [x0, x1, x2, x3, x4, x5, x6, x7, x8, x9, x10, x11, x12, x13, x14, x15] size r ra rc w hp rfl rfl log_tab rfl hml
    obtain ⟨q, hq⟩ : ∃ q, nextE [x0, x1, x2, x3, x4, x5, x6, x7, x8, x9, x10, x11, x12, x13, x14, x15] base ml.length size r = q := ⟨_, rfl⟩
    rw [hq] at HN HRN
    have hb0 : Below w.heap.size w (w.alloc (.cells #[.int .i64 r.who, .int .i64 r.seq, .slice ra r.d.length rc] 42)) := (Below.refl _ w).alloc (Nat.le_refl _) _
    have HB0 : Hid _ := hb0
    have HX0 : Hid (RBox (w.alloc (.cells #[.int .i64 r.who, .int .i64 r.seq, .slice ra r.d.length rc] 42)) w.heap.size r ra rc) := rbox_new w r ra rc
    clear hb0 hl hm hr HTab hT hq hlen
    go_enter Try.func7, Try.ntmps7
    go_wp2_with fail
    generalize w.alloc (.cells #[.int .i64 r.who, .int .i64 r.seq, .slice ra r.d.length rc] 42) = w0 at HB0 HX0 ⊢
    change Hid (Below w.heap.size w w0) at HB0
    with_reducible refine (H0.out _).mono ?_
    rintro e w1 ⟨rfl, hb1⟩
    have HX1 : Hid (RBox w1 w.heap.size r ra rc) := HX0.out.below hb1
    have HB1 : Hid (Below w.heap.size w w1) := HB0.out.trans (hb1.mono HB0.out.size)
    clear hb1
    by_cases b0 : base < 0
    · go_wp2_with fail
      go_ret
      exact ⟨rfl, HB1.out⟩
    · by_cases b1 : 2147483647 < base
      · go_wp2_with fail
        go_ret
        exact ⟨rfl, HB1.out⟩
      · go_wp2_with fail
        with_reducible refine (HTb.out _ (HL.out.here HB1.out (Nat.le_refl _))).mono ?_
        rintro e w2 ⟨rfl, hb2⟩
        have HX2 : Hid (RBox w2 w.heap.size r ra rc) := HX1.out.below hb2
        have HB2 : Hid (Below w.heap.size w w2) := HB1.out.trans (hb2.mono HB1.out.size)
        clear hb2
        go_wp2_with (refine wpList_store_new rfl 48 _ _ rfl _ _ rfl rfl (by exact infoLog) (by rfl) (by simp [Value.oneCell']) ?_)
        have HW3 : Hid ((w2.alloc (.cells #[.int .i64 0, .int .i64 base, .string ⟨#[]⟩, .int .i64 0, .int .i64 0, .int .i64 0, .int .i64 0, .int .i64 0, .int .i64 0, .int .i64 0, .int .i64 0, .int .i64 0, .int .i64 0, .int .i64 0, .int .i64 0, .int .i64 0, .int .i64 0, .int .i64 0, .int .i64 0, .int .i64 x0, .int .i64 x1, .int .i64 x2, .int .i64 x3, .int .i64 x4, .int .i64 x5, .int .i64 x6, .int .i64 x7, .int .i64 x8, .int .i64 x9, .int .i64 x10, .int .i64 x11, .int .i64 x12, .int .i64 x13, .int .i64 x14, .int .i64 x15, .slice ma ml.length mc, .bool false, .int .i64 0] 48)).heap[w2.heap.size]? = some (.cells #[.int .i64 0, .int .i64 base, .string ⟨#[]⟩, .int .i64 0, .int .i64 0, .int .i64 0, .int .i64 0, .int .i64 0, .int .i64 0, .int .i64 0, .int .i64 0, .int .i64 0, .int .i64 0, .int .i64 0, .int .i64 0, .int .i64 0, .int .i64 0, .int .i64 0, .int .i64 0, .int .i64 x0, .int .i64 x1, .int .i64 x2, .int .i64 x3, .int .i64 x4, .int .i64 x5, .int .i64 x6, .int .i64 x7, .int .i64 x8, .int .i64 x9, .int .i64 x10, .int .i64 x11, .int .i64 x12, .int .i64 x13, .int .i64 x14, .int .i64 x15, .slice ma ml.length mc, .bool false, .int .i64 0] 48 (0, 0)) ∧ Below w2.heap.size w2 (w2.alloc (.cells #[.int .i64 0, .int .i64 base, .string ⟨#[]⟩, .int .i64 0, .int .i64 0, .int .i64 0, .int .i64 0, .int .i64 0, .int .i64 0, .int .i64 0, .int .i64 0, .int .i64 0, .int .i64 0, .int .i64 0, .int .i64 0, .int .i64 0, .int .i64 0, .int .i64 0, .int .i64 0, .int .i64 x0, .int .i64 x1, .int .i64 x2, .int .i64 x3, .int .i64 x4, .int .i64 x5, .int .i64 x6, .int .i64 x7, .int .i64 x8, .int .i64 x9, .int .i64 x10, .int .i64 x11, .int .i64 x12, .int .i64 x13, .int .i64 x14, .int .i64 x15, .slice ma ml.length mc, .bool false, .int .i64 0] 48))) := ⟨Deep.blk_alloc_new w2 _, (Below.refl _ w2).alloc (Nat.le_refl _) _⟩
        generalize w2.alloc (.cells #[.int .i64 0, .int .i64 base, .string ⟨#[]⟩, .int .i64 0, .int .i64 0, .int .i64 0, .int .i64 0, .int .i64 0, .int .i64 0, .int .i64 0, .int .i64 0, .int .i64 0, .int .i64 0, .int .i64 0, .int .i64 0, .int .i64 0, .int .i64 0, .int .i64 0, .int .i64 0, .int .i64 x0, .int .i64 x1, .int .i64 x2, .int .i64 x3, .int .i64 x4, .int .i64 x5, .int .i64 x6, .int .i64 x7, .int .i64 x8, .int .i64 x9, .int .i64 x10, .int .i64 x11, .int .i64 x12, .int .i64 x13, .int .i64 x14, .int .i64 x15, .slice ma ml.length mc, .bool false, .int .i64 0] 48) = w3 at HW3 ⊢
        obtain ⟨g, hg⟩ : ∃ g, w2.heap.size = g := ⟨_, rfl⟩
        have HX3 : Hid (RBox w3 w.heap.size r ra rc) := HX2.out.below HW3.out.2
        have HB3 : Hid (Below w.heap.size w w3) := HB2.out.trans (HW3.out.2.mono HB2.out.size)
        rw [hg] at HW3 ⊢
        have HG3 : Hid (w3.heap[g]? = some (.cells #[.int .i64 0, .int .i64 base, .string ⟨#[]⟩, .int .i64 0, .int .i64 0, .int .i64 0, .int .i64 0, .int .i64 0, .int .i64 0, .int .i64 0, .int .i64 0, .int .i64 0, .int .i64 0, .int .i64 0, .int .i64 0, .int .i64 0, .int .i64 0, .int .i64 0, .int .i64 0, .int .i64 x0, .int .i64 x1, .int .i64 x2, .int .i64 x3, .int .i64 x4, .int .i64 x5, .int .i64 x6, .int .i64 x7, .int .i64 x8, .int .i64 x9, .int .i64 x10, .int .i64 x11, .int .i64 x12, .int .i64 x13, .int .i64 x14, .int .i64 x15, .slice ma ml.length mc, .bool false, .int .i64 0] 48 (0, 0))) := HW3.out.1
        have HP3 : Hid (PartsAt w3 w3.heap.size ra r.d) := HR.out.here HB3.out (Nat.le_refl _)
        have hlg := lt_of_heap HG3.out
        clear HW3 hg
        obtain ⟨LV, hLV⟩ : ∃ LV : List Value, [.int .i64 0, .int .i64 base, .string ⟨#[]⟩, .int .i64 0, .int .i64 0, .int .i64 0, .int .i64 0, .int .i64 0, .int .i64 0, .int .i64 0, .int .i64 0, .int .i64 0, .int .i64 0, .int .i64 0, .int .i64 0, .int .i64 0, .int .i64 0, .int .i64 0, .int .i64 0, .int .i64 x0, .int .i64 x1, .int .i64 x2, .int .i64 x3, .int .i64 x4, .int .i64 x5, .int .i64 x6, .int .i64 x7, .int .i64 x8, .int .i64 x9, .int .i64 x10, .int .i64 x11, .int .i64 x12, .int .i64 x13, .int .i64 x14, .int .i64 x15, .slice ma ml.length mc, .bool false, .int .i64 0] = LV := ⟨_, rfl⟩
        have hA : (#[.int .i64 0, .int .i64 base, .string ⟨#[]⟩, .int .i64 0, .int .i64 0, .int .i64 0, .int .i64 0, .int .i64 0, .int .i64 0, .int .i64 0, .int .i64 0, .int .i64 0, .int .i64 0, .int .i64 0, .int .i64 0, .int .i64 0, .int .i64 0, .int .i64 0, .int .i64 0, .int .i64 x0, .int .i64 x1, .int .i64 x2, .int .i64 x3, .int .i64 x4, .int .i64 x5, .int .i64 x6, .int .i64 x7, .int .i64 x8, .int .i64 x9, .int .i64 x10, .int .i64 x11, .int .i64 x12, .int .i64 x13, .int .i64 x14, .int .i64 x15, .slice ma ml.length mc, .bool false, .int .i64 0] : Array Value) = LV.toArray := by rw [← hLV]
        have hlen : LV.length = 38 := by rw [← hLV]; rfl
        rw [hA] at HG3 HN HRN ⊢
        have hr3 : w3.rangeAt g 0 LV := by
          have h := World.rangeAt_of_block HG3.out 0 38
          have e : (LV.toArray.extract 0 (0 + 38)).toList = LV := by simp [← hlen]
          rw [e] at h
          exact h
        have HR3 : Hid (w3.rangeAt g 0 LV) := hr3
        have hld : ∀ w' : World, w'.rangeAt g 0 LV → (Instr.loadAt 48 (.pointer (some ⟨g, 0, none⟩))).run Try.prog w' = .ok (.agg LV.toArray) w' := fun w' h => run_loadAt_mid w' g 0 48 LV _ h Try.underlying48 rfl (by rw [hlen]; exact infoLog)
        obtain ⟨r0, r1, r2, hlr⟩ := HX3.out
        have hinfo : (Try.prog.info? 48).map (·.size) = some LV.length := by rw [hlen]; exact infoLog
        clear hA hLV hlen
        refine wp_region_held_drew (S := fun w' => w'.rangeAt g 0 LV ∧ w'.cell? ⟨w.heap.size, 0, none⟩ = some (.int .i64 r.who) ∧ w'.cell? ⟨w.heap.size, 1, none⟩ = some (.int .i64 r.seq) ∧ w'.cell? ⟨w.heap.size, 2, none⟩ = some (.slice ra r.d.length rc)) (by kernel_rfl) (log_held HG3.out HR3.out HX3.out (Below.refl _ w3).drew) (fun hHeld => ?_)
        refine wpAnyH_take (i := 0) rfl (by kernel_rfl) (by kernel_rfl) (by kernel_rfl) (fun _ _ _ h => h) (yieldsIf_load_mid (by rfl) 48 _ rfl g 0 rfl LV _ (fun w h => h.1) Try.underlying48 rfl hinfo) hHeld ?_
        simp only [Act.put, List.setIfInBounds_toArray, List.set_cons_zero, List.set_cons_succ]
        refine wpAnyH_take (i := 4) rfl (by kernel_rfl) (by kernel_rfl) (by kernel_rfl) (fun _ _ _ h => h) (yieldsIf_load_mid (by rfl) 48 _ rfl g 0 rfl LV _ (fun w h => h.1) Try.underlying48 rfl hinfo) hHeld ?_
        simp only [Act.put, List.setIfInBounds_toArray, List.set_cons_zero, List.set_cons_succ]
        refine wpAnyH_take (i := 1) (v := .int .i64 size) rfl (by kernel_rfl) (by kernel_rfl) (by kernel_rfl) (fun _ _ _ h => h) (Or.inl ⟨by rfl, fun w' hSw => by obtain ⟨_, s0, s1, s2⟩ := hSw; go_simp⟩) hHeld ?_
        simp only [Act.put, List.setIfInBounds_toArray, List.set_cons_zero, List.set_cons_succ]
        refine wpAnyH_take (i := 2) (v := .agg #[.int .i64 r.who, .int .i64 r.seq, .slice ra r.d.length rc]) rfl (by kernel_rfl) (by kernel_rfl) (by kernel_rfl) (fun _ _ _ h => h) (Or.inl ⟨by rfl, fun w' hSw => by obtain ⟨_, s0, s1, s2⟩ := hSw; go_simp⟩) hHeld ?_
        simp only [Act.put, List.setIfInBounds_toArray, List.set_cons_zero, List.set_cons_succ]
        refine wpAnyH_take (i := 5) (v := .int .i64 size) rfl (by kernel_rfl) (by kernel_rfl) (by kernel_rfl) (fun _ _ _ h => h) (Or.inl ⟨by rfl, fun w' hSw => by obtain ⟨_, s0, s1, s2⟩ := hSw; go_simp⟩) hHeld ?_
        simp only [Act.put, List.setIfInBounds_toArray, List.set_cons_zero, List.set_cons_succ]
        refine wpAnyH_take (i := 6) (v := .agg #[.int .i64 r.who, .int .i64 r.seq, .slice ra r.d.length rc]) rfl (by kernel_rfl) (by kernel_rfl) (by kernel_rfl) (fun _ _ _ h => h) (Or.inl ⟨by rfl, fun w' hSw => by obtain ⟨_, s0, s1, s2⟩ := hSw; go_simp⟩) hHeld ?_
        simp only [Act.put, List.setIfInBounds_toArray, List.set_cons_zero, List.set_cons_succ]
        refine wpAnyH_ready (rs := [3]) (by kernel_rfl) (by simp) ?_
        refine AllReadyH.cons rfl (fun K hK => ?_) AllReadyH.nil
        go_simp
        with_reducible refine (HN.out _ (HP3.out.here (Below.refl _ w3).drew (Nat.le_refl _))).mono ?_
        rintro e wA ⟨rfl, hbA⟩
        have HQ1 := went_drew hbA
        go_wp2_with fail
        refine hK.out _ _ (log_held HG3.out HR3.out HX3.out HQ1.out) (fun hHeld2 => ?_)
        clear hK K
        try simp only [Act.put, List.setIfInBounds_toArray, List.set_cons_zero, List.set_cons_succ]
        refine wpAnyH_ready (rs := [7]) (by kernel_rfl) (by simp) ?_
        refine AllReadyH.cons rfl (fun K hK => ?_) AllReadyH.nil
        go_simp
        with_reducible refine (HRN.out _ (HP3.out.here HQ1.out (Nat.le_refl _))).mono ?_
        rintro e wB ⟨rfl, hbB⟩
        have HQ2 := went_on HQ1 hbB
        go_wp2_with fail
        refine hK.out _ _ (log_held HG3.out HR3.out HX3.out HQ2.out) (fun hHeld3 => ?_)
        clear hK K
        try simp only [Act.put, List.setIfInBounds_toArray, List.set_cons_zero, List.set_cons_succ]
        refine wpAnyH_ready (rs := [8]) (by kernel_rfl) (by simp) ?_
        refine AllReadyH.cons rfl (fun K hK => ?_) AllReadyH.nil
        go_simp
        refine hK.out _ _ (log_held HG3.out HR3.out HX3.out HQ2.out) (fun hHeld8 => ?_)
        clear hK K
        try simp only [Act.put, List.setIfInBounds_toArray, List.set_cons_zero, List.set_cons_succ]
        refine wpAnyH_ready (rs := [9]) (by kernel_rfl) (by simp) ?_
        refine AllReadyH.cons rfl (fun K hK => ?_) AllReadyH.nil
        go_simp
        refine hK.out _ _ (log_held HG3.out HR3.out HX3.out HQ2.out) (fun hHeld9 => ?_)
        clear hK K
        try simp only [Act.put, List.setIfInBounds_toArray, List.set_cons_zero, List.set_cons_succ]
        refine wpAnyH_done (by kernel_rfl) ?_ _
        go_wp2_with fail
        go_ret
        exact ⟨by first | rfl | simp, HB3.out.trans (HQ2.out.mono HB3.out.size)⟩
end Go.Proofs.Ytkihanmodfnpcaa
