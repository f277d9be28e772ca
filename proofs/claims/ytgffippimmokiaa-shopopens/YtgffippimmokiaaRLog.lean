/- What the document's own Log answers. -/
import Derived.Test.YtgffippimmokiaaRLogKit
import Derived.Test.YtgffippimmokiaaLogMem
import Derived.Test.YtgffippimmokiaaHotLaw
import Derived.Deep.RegionHeld3
import Derived.Deep.AppendLies
import Derived.BigQuiet
import Derived.BigRegion
import Derived.Deep.DeepCutAuto
namespace Go.Proofs.Ytgffippimmokiaa
open Go.RowKit
set_option linter.unusedSimpArgs false
set_option linter.unusedVariables false

theorem cells_three {w : World} {b off fb fo : Nat} {p q t : Value} (h0 : w.cell? ⟨b, off, none⟩ = some p) (h1 : w.cell? ⟨b, off + 1, none⟩ = some q) (h2 : w.cell? ⟨fb, fo, none⟩ = some t) (hb : b < w.heap.size) (hf : fb < w.heap.size) (o : Obj) : (w.alloc o).cell? ⟨b, off, none⟩ = some p ∧ (w.alloc o).cell? ⟨b, off + 1, none⟩ = some q ∧ (w.alloc o).cell? ⟨fb, fo, none⟩ = some t :=
  ⟨by rw [World.cell?_alloc_lt _ _ _ hb]; exact h0, by rw [World.cell?_alloc_lt _ _ _ hb]; exact h1, by rw [World.cell?_alloc_lt _ _ _ hf]; exact h2⟩

set_option maxRecDepth 20000 in
set_option maxHeartbeats 8000000 in
theorem RLog_any (s : ByteArray) (w : World) (hs : s.size ≤ 1000000000000) :
    Calls Try.prog 40 #[.string s] w fun e w' => ReadIs s.data.toList w e w' := by
  have HFm : Hid _ := fun w => RFrames_any s w hs
  have hfrs := (row_take s.data.toList.length s.data.toList (Nat.le_refl _)).2
  obtain ⟨l, hll⟩ : ∃ l, s.data.toList = l := ⟨_, rfl⟩
  have HE : Hid (s.data.toList = l) := hll
  rw [hll] at HFm hfrs
  have HP : Hid (∀ w' e, ReadIs l w e w' → ReadIs s.data.toList w e w') := fun w' e h => by rw [HE.out]; exact h
  clear hll
  obtain ⟨fs, hfs⟩ : ∃ fs, (scanL l).1 = fs := ⟨_, rfl⟩
  obtain ⟨n0, hn0⟩ : ∃ n, (scanL l).2 = n := ⟨_, rfl⟩
  rw [hfs, hn0] at HFm
  rw [hfs] at hfrs
  have HFS : Hid ((scanL l).1 = fs) := hfs
  have HF4 : Hid (∀ f ∈ fs, f.t.length ≤ 4000) := fun f hf => fr_len (hfrs f hf)
  have HCnt : Hid (fs.length ≤ 1000000000000) := by
    have h := scan_le l.length l (Nat.le_refl _)
    have h2 : l.length = s.size := by rw [← HE.out]; exact Array.length_toList
    show _ ≤ _
    rw [hfs] at h
    omega
  clear hfs hn0 hfrs
  have HL0 : Hid (LgAt (w.alloc (.cells #[.int .i64 0, .int .i64 0, .string ⟨#[]⟩, .int .i64 0, .int .i64 0, .int .i64 0, .int .i64 0, .int .i64 0, .int .i64 0, .int .i64 0, .int .i64 0, .int .i64 0, .int .i64 0, .int .i64 0, .int .i64 0, .int .i64 0, .int .i64 0, .int .i64 0, .int .i64 0, .int .i64 0, .int .i64 0, .int .i64 0, .int .i64 0, .int .i64 0, .int .i64 0, .int .i64 0, .int .i64 0, .int .i64 0, .int .i64 0, .int .i64 0, .int .i64 0, .int .i64 0, .int .i64 0, .int .i64 0, .int .i64 0, .slice none 0 0, .bool false, .int .i64 0] 82)) w.heap.size zeroC) := by
    show _ = _
    rw [zeroC_is]
    exact heap_alloc_new w _
  have HB0 : Hid (Below w.heap.size w (w.alloc (.cells #[.int .i64 0, .int .i64 0, .string ⟨#[]⟩, .int .i64 0, .int .i64 0, .int .i64 0, .int .i64 0, .int .i64 0, .int .i64 0, .int .i64 0, .int .i64 0, .int .i64 0, .int .i64 0, .int .i64 0, .int .i64 0, .int .i64 0, .int .i64 0, .int .i64 0, .int .i64 0, .int .i64 0, .int .i64 0, .int .i64 0, .int .i64 0, .int .i64 0, .int .i64 0, .int .i64 0, .int .i64 0, .int .i64 0, .int .i64 0, .int .i64 0, .int .i64 0, .int .i64 0, .int .i64 0, .int .i64 0, .int .i64 0, .slice none 0 0, .bool false, .int .i64 0] 82))) := (Below.refl _ w).alloc (Nat.le_refl _) _
  go_enter Try.func40, Try.ntmps40
  go_upto_region 1 with fail
  generalize w.alloc (.cells #[.int .i64 0, .int .i64 0, .string ⟨#[]⟩, .int .i64 0, .int .i64 0, .int .i64 0, .int .i64 0, .int .i64 0, .int .i64 0, .int .i64 0, .int .i64 0, .int .i64 0, .int .i64 0, .int .i64 0, .int .i64 0, .int .i64 0, .int .i64 0, .int .i64 0, .int .i64 0, .int .i64 0, .int .i64 0, .int .i64 0, .int .i64 0, .int .i64 0, .int .i64 0, .int .i64 0, .int .i64 0, .int .i64 0, .int .i64 0, .int .i64 0, .int .i64 0, .int .i64 0, .int .i64 0, .int .i64 0, .int .i64 0, .slice none 0 0, .bool false, .int .i64 0] 82) = w0 at HL0 HB0 ⊢
  obtain ⟨B, hB⟩ : ∃ B, w.heap.size = B := ⟨_, rfl⟩
  have HW : Hid (w.heap.size = B) := hB
  rw [hB] at HL0 HB0 ⊢
  clear hB
  have HEnd : Hid (∀ (wz : World) (L : List Value) (tmps : Array Value), LgAt wz B L → L.length = 38 → tmps.getD 2 undef = .pointer (some ⟨B, 0, none⟩) → (results Try.f40 tmps).run Try.prog wz = .ok (.tuple #[.agg L.toArray, tmps.getD 3 undef]) wz) := fun wz L tmps hr hL hp => results_log Try.results40 tmps wz B L _ hp hr.all Try.underlying82 rfl (by rw [hL]; exact infoLg)
  have hlB := HL0.out.lt
  go_wp2_with fail
  refine (HFm.out _).mono ?_
  rintro e w1 ⟨v, rfl, hown, hb1⟩
  have HL1 : Hid (LgAt w1 B zeroC) := HL0.out.below hb1 hlB
  have HB1 : Hid (Below B w w1) := HB0.out.trans (hb1.mono (Nat.le_of_lt hlB))
  obtain ⟨fa, fc, rfl, hfc, hfr⟩ := frs_ownC hown
  have HF1 : Hid (FrsAt w1 w1.heap.size fa fs) := hfr
  have hlB1 := HL1.out.lt
  clear hb1 hlB hown hfr
  cases fs with
  | nil =>
    have HNE : Hid (logE (scanL l).1 = 7) := by show _ = _; rw [HFS.out]; rfl
    have HTe : Hid (_ : Prop) := HL1.out.there (o := 0) (n := (#[.int .i64 0, .int .i64 0, .string ⟨#[]⟩, .int .i64 0, .int .i64 0, .int .i64 0, .int .i64 0, .int .i64 0, .int .i64 0, .int .i64 0, .int .i64 0, .int .i64 0, .int .i64 0, .int .i64 0, .int .i64 0, .int .i64 0, .int .i64 0, .int .i64 0, .int .i64 0, .int .i64 0, .int .i64 0, .int .i64 0, .int .i64 0, .int .i64 0, .int .i64 0, .int .i64 0, .int .i64 0, .int .i64 0, .int .i64 0, .int .i64 0, .int .i64 0, .int .i64 0, .int .i64 0, .int .i64 0, .int .i64 0, .slice none 0 0, .bool false, .int .i64 0] : Array Value).size) (by rw [zeroC_len]; decide)
    go_wp2_with (refine wpList_store_mid rfl 82 _ _ rfl B 0 _ rfl rfl HTe.out (by exact infoLg) (by simp [Value.oneCell']) ?_)
    refine bodyPost_ret (v := .tuple #[.agg zeroC.toArray, .int .i64 7]) (HEnd.out _ _ _ (zero_puts HL1.out) zeroC_len rfl) rfl (HP.out _ _ ⟨.inr ⟨by rw [HNE.out]; decide, by rw [HNE.out]⟩, ?_⟩)
    rw [HW.out]
    exact below_cells (Nat.le_refl _) _ _ _ HB1.out
  | cons f0 fr =>
    obtain ⟨nf, hnf⟩ : ∃ n, (f0 :: fr).length = n := ⟨_, rfl⟩
    have HNF : Hid ((f0 :: fr).length = nf ∧ nf = fr.length + 1 ∧ nf ≤ fc) := ⟨hnf, by rw [← hnf]; rfl, by rw [← hnf]; exact hfc⟩
    rw [hnf]
    have hnf0 : ((nf : Int) == 0) = false := by rw [beq_eq_false_iff_ne]; have := HNF.out.2.1; omega
    have g1 : (0 : Int) < (nf : Int) := by have := HNF.out.2.1; omega
    have hnz : ¬ nf = 0 := by have := HNF.out.2.1; omega
    obtain ⟨fb, fo, rfl, hfb, k0, k1⟩ := HF1.out.mem (i := 0) (f := f0) rfl
    rw [Nat.zero_mul, Nat.add_zero] at k0 k1
    obtain ⟨kk, t0⟩ := f0
    simp only at k0 k1
    have ht4 : t0.length ≤ 4000 := HF4.out ⟨kk, t0⟩ (by simp)
    have HNs : Hid (∀ w, Calls Try.prog 84 #[.string ⟨t0.toArray⟩, .int .i64 18] w fun e w' => NumsIs (.bool true) (.bool false) 18 t0 w e w') := fun w => some_any ⟨t0.toArray⟩ 18 w (by show t0.toArray.size ≤ _; rw [List.size_toArray]; omega) (by decide)
    clear hnf hfc
    go_wp2_with fail
    with_reducible refine (HNs.out _).mono ?_
    rintro e w2 ⟨hcase, hb2⟩
    have HL2 : Hid (LgAt w2 B zeroC) := HL1.out.below hb2 hlB1
    have HB2 : Hid (Below B w w2) := HB1.out.trans (hb2.mono (Nat.le_of_lt hlB1))
    have HF2 : Hid (FrsAt w2 w2.heap.size (some ⟨fb, fo, none⟩) (⟨kk, t0⟩ :: fr)) := HF1.out.here hb2 (Nat.le_refl _)
    have hlB2 := HL2.out.lt
    have k0' : w2.cell? ⟨fb, fo, none⟩ = some (.int .i64 kk) := (hb2.cell (p := ⟨fb, fo, none⟩) hfb).trans k0
    have k1' : w2.cell? ⟨fb, fo + 1, none⟩ = some (.string ⟨t0.toArray⟩) := (hb2.cell (p := ⟨fb, fo + 1, none⟩) hfb).trans k1
    have hfb2 : fb < w2.heap.size := Nat.lt_of_lt_of_le hfb hb2.size
    clear hb2 k0 k1 hfb
    have HNo : Hid (hdL ⟨kk, t0⟩ = none → logE (scanL l).1 = 3) := fun h => by rw [HFS.out]; simp [logE, h]
    by_cases hk1 : kk = 1
    · subst hk1
      rcases hcase with ⟨x, r, a, c, hx, rfl, hown⟩ | ⟨hx, rfl⟩
      · obtain ⟨gen, base, y, rfl, hy⟩ := list_two (nums_is 18 hx).1
        have HX : Hid (numsG 18 t0 = some (gen :: base :: y, r)) := hx
        have HI1 : Hid (IzAt w2 w2.heap.size a (asZ (gen :: base :: y)) c) := by
          have h := hown
          rw [show (gen :: base :: y).length = (asZ (gen :: base :: y)).length by rw [List.length_map]] at h
          exact jz_own h
        have hlen18 : (gen :: base :: y).length = 18 := by simp [hy]
        have hrs : (⟨r.toArray⟩ : ByteArray).size = r.length := by show r.toArray.size = _; simp
        clear hx hown
        rw [hlen18]
        by_cases h5 : r.length ≤ 500
        · have h5i : ¬ (500 : Int) < (r.length : Int) := by omega
          obtain ⟨gd, hgd⟩ : ∃ gd : Nat, t0.length + 7 = gd := ⟨_, rfl⟩
          have HS : Hid (hdL ⟨1, t0⟩ = some ⟨gen, base, r, asZ y, asZ y, [], false, gd⟩) := by
            show _ = _
            rw [hdL, if_pos rfl, HX.out]
            simp only
            rw [if_pos h5, ← hgd]
            rfl
          have HYL : Hid ((asZ y).length = 16) := by show _ = _; rw [List.length_map]; exact hy
          obtain ⟨b, off, rfl, hbl, c0⟩ := HI1.out.mem (i := 0) rfl
          obtain ⟨b', off', e2, _, c1⟩ := HI1.out.mem (i := 1) rfl
          obtain ⟨rfl, rfl⟩ : b = b' ∧ off = off' := by cases e2; exact ⟨rfl, rfl⟩
          rw [Nat.add_zero] at c0
          obtain ⟨m0, hm0⟩ : ∃ m : Nat, t0.length = m := ⟨_, rfl⟩
          have hts : (⟨t0.toArray⟩ : ByteArray).size = m0 := by show t0.toArray.size = _; rw [List.size_toArray, hm0]
          have hwg : IntKind.i64.wrap (7 + (m0 : Int)) = (gd : Int) := by rw [IntWalk.i64_in _ ⟨by omega, by omega⟩]; omega
          have HGd : Hid (t0.length + 7 = gd) := hgd
          clear e2 h5 hgd hm0
          go_upto_region 7 with fail
          clear h5i hrs
          refine wp_region_held_drew (S := fun w' => w'.cell? ⟨b, off, none⟩ = some (.int .i64 (gen : Int)) ∧ w'.cell? ⟨b, off + 1, none⟩ = some (.int .i64 (base : Int)) ∧ w'.cell? ⟨fb, fo + 1, none⟩ = some (.string ⟨t0.toArray⟩)) (by kernel_rfl) ⟨c0, c1, k1'⟩ (fun hHeld => ?_)
          refine wpAnyH_take (i := 0) (v := .slice (some ⟨b, off, none⟩) 18 c) rfl (by kernel_rfl) (by kernel_rfl) (by kernel_rfl) (fun _ _ _ h => h) (Or.inl ⟨by rfl, fun w' hSw => by obtain ⟨s0, s1, s2⟩ := hSw; first | (go_simp; done) | (go_simp; rfl)⟩) hHeld ?_
          simp only [Act.put, List.setIfInBounds_toArray, List.set_cons_zero, List.set_cons_succ]
          refine wpAnyH_take (i := 1) (v := .pointer (some ⟨b, off, none⟩)) rfl (by kernel_rfl) (by kernel_rfl) (by kernel_rfl) (fun _ _ _ h => h) (Or.inl ⟨by rfl, fun w' hSw => by obtain ⟨s0, s1, s2⟩ := hSw; first | (go_simp; done) | (go_simp; rfl)⟩) hHeld ?_
          simp only [Act.put, List.setIfInBounds_toArray, List.set_cons_zero, List.set_cons_succ]
          refine wpAnyH_take (i := 2) (v := .int .i64 (gen : Int)) rfl (by kernel_rfl) (by kernel_rfl) (by kernel_rfl) (fun _ _ _ h => h) (Or.inl ⟨by rfl, fun w' hSw => by obtain ⟨s0, s1, s2⟩ := hSw; first | (go_simp; done) | (go_simp; rfl)⟩) hHeld ?_
          simp only [Act.put, List.setIfInBounds_toArray, List.set_cons_zero, List.set_cons_succ]
          refine wpAnyH_take (i := 3) (v := .slice (some ⟨b, off, none⟩) 18 c) rfl (by kernel_rfl) (by kernel_rfl) (by kernel_rfl) (fun _ _ _ h => h) (Or.inl ⟨by rfl, fun w' hSw => by obtain ⟨s0, s1, s2⟩ := hSw; first | (go_simp; done) | (go_simp; rfl)⟩) hHeld ?_
          simp only [Act.put, List.setIfInBounds_toArray, List.set_cons_zero, List.set_cons_succ]
          refine wpAnyH_take (i := 4) (v := .pointer (some ⟨b, off + 1, none⟩)) rfl (by kernel_rfl) (by kernel_rfl) (by kernel_rfl) (fun _ _ _ h => h) (Or.inl ⟨by rfl, fun w' hSw => by obtain ⟨s0, s1, s2⟩ := hSw; first | (go_simp; done) | (go_simp; rfl)⟩) hHeld ?_
          simp only [Act.put, List.setIfInBounds_toArray, List.set_cons_zero, List.set_cons_succ]
          refine wpAnyH_take (i := 5) (v := .int .i64 (base : Int)) rfl (by kernel_rfl) (by kernel_rfl) (by kernel_rfl) (fun _ _ _ h => h) (Or.inl ⟨by rfl, fun w' hSw => by obtain ⟨s0, s1, s2⟩ := hSw; first | (go_simp; done) | (go_simp; rfl)⟩) hHeld ?_
          simp only [Act.put, List.setIfInBounds_toArray, List.set_cons_zero, List.set_cons_succ]
          refine wpAnyH_take (i := 6) (v := .string ⟨r.toArray⟩) rfl (by kernel_rfl) (by kernel_rfl) (by kernel_rfl) (fun _ _ _ h => h) (Or.inl ⟨by rfl, fun w' hSw => by obtain ⟨s0, s1, s2⟩ := hSw; first | (go_simp; done) | (go_simp; rfl)⟩) hHeld ?_
          simp only [Act.put, List.setIfInBounds_toArray, List.set_cons_zero, List.set_cons_succ]
          refine wpAnyH_take (i := 7) (v := .slice (some ⟨fb, fo, none⟩) nf fc) rfl (by kernel_rfl) (by kernel_rfl) (by kernel_rfl) (fun _ _ _ h => h) (Or.inl ⟨by rfl, fun w' hSw => by obtain ⟨s0, s1, s2⟩ := hSw; first | (go_simp; done) | (go_simp; rfl)⟩) hHeld ?_
          simp only [Act.put, List.setIfInBounds_toArray, List.set_cons_zero, List.set_cons_succ]
          refine wpAnyH_take (i := 8) (v := .pointer (some ⟨fb, fo, none⟩)) rfl (by kernel_rfl) (by kernel_rfl) (by kernel_rfl) (fun _ _ _ h => h) (Or.inl ⟨by rfl, fun w' hSw => by obtain ⟨s0, s1, s2⟩ := hSw; first | (go_simp; done) | (go_simp; rfl)⟩) hHeld ?_
          simp only [Act.put, List.setIfInBounds_toArray, List.set_cons_zero, List.set_cons_succ]
          refine wpAnyH_take (i := 9) (v := .pointer (some ⟨fb, fo + 1, none⟩)) rfl (by kernel_rfl) (by kernel_rfl) (by kernel_rfl) (fun _ _ _ h => h) (Or.inl ⟨by rfl, fun w' hSw => by obtain ⟨s0, s1, s2⟩ := hSw; first | (go_simp; done) | (go_simp; rfl)⟩) hHeld ?_
          simp only [Act.put, List.setIfInBounds_toArray, List.set_cons_zero, List.set_cons_succ]
          refine wpAnyH_take (i := 10) (v := .string ⟨t0.toArray⟩) rfl (by kernel_rfl) (by kernel_rfl) (by kernel_rfl) (fun _ _ _ h => h) (Or.inl ⟨by rfl, fun w' hSw => by obtain ⟨s0, s1, s2⟩ := hSw; first | (go_simp; done) | (go_simp; rfl)⟩) hHeld ?_
          simp only [Act.put, List.setIfInBounds_toArray, List.set_cons_zero, List.set_cons_succ]
          refine wpAnyH_take (i := 11) (v := .int .i64 (m0 : Int)) rfl (by kernel_rfl) (by kernel_rfl) (by kernel_rfl) (fun _ _ _ h => h) (Or.inl ⟨by rfl, fun w' hSw => by obtain ⟨s0, s1, s2⟩ := hSw; first | (go_simp; done) | (go_simp; rfl)⟩) hHeld ?_
          simp only [Act.put, List.setIfInBounds_toArray, List.set_cons_zero, List.set_cons_succ]
          refine wpAnyH_take (i := 12) (v := .int .i64 (gd : Int)) rfl (by kernel_rfl) (by kernel_rfl) (by kernel_rfl) (fun _ _ _ h => h) (Or.inl ⟨by rfl, fun w' hSw => by obtain ⟨s0, s1, s2⟩ := hSw; first | (go_simp; done) | (go_simp; rfl)⟩) hHeld ?_
          simp only [Act.put, List.setIfInBounds_toArray, List.set_cons_zero, List.set_cons_succ]
          refine wpAnyH_take (i := 13) (v := .agg #[.int .i64 (gen : Int), .int .i64 (base : Int), .string ⟨r.toArray⟩, .int .i64 0, .int .i64 0, .int .i64 0, .int .i64 0, .int .i64 0, .int .i64 0, .int .i64 0, .int .i64 0, .int .i64 0, .int .i64 0, .int .i64 0, .int .i64 0, .int .i64 0, .int .i64 0, .int .i64 0, .int .i64 0, .int .i64 0, .int .i64 0, .int .i64 0, .int .i64 0, .int .i64 0, .int .i64 0, .int .i64 0, .int .i64 0, .int .i64 0, .int .i64 0, .int .i64 0, .int .i64 0, .int .i64 0, .int .i64 0, .int .i64 0, .int .i64 0, .slice none 0 0, .bool false, .int .i64 (gd : Int)]) rfl (by kernel_rfl) (by kernel_rfl) (by kernel_rfl) (fun _ _ _ h => h) (Or.inl ⟨by rfl, fun w' hSw => by obtain ⟨s0, s1, s2⟩ := hSw; first | (go_simp; done) | (go_simp; rfl)⟩) hHeld ?_
          simp only [Act.put, List.setIfInBounds_toArray, List.set_cons_zero, List.set_cons_succ]
          refine wpAnyH_ready (rs := [14]) (by kernel_rfl) (by simp) ?_
          refine AllReadyH.cons rfl (fun K hK => ?_) AllReadyH.nil
          go_simp
          refine hK.out _ _ (cells_three (w := w2.drew) c0 c1 k1' hbl hfb2 _) (fun hHeld8 => ?_)
          clear hK K
          try simp only [Act.put, List.setIfInBounds_toArray, List.set_cons_zero, List.set_cons_succ]
          refine wpAnyH_ready (rs := [15]) (by kernel_rfl) (by simp) ?_
          refine AllReadyH.cons rfl (fun K hK => ?_) AllReadyH.nil
          rw [if_pos (by rfl)]
          refine wp_store_newN (w := w2.drew) 82 (.tmp 9) (.tmp 66) ?ho ?hd #[.int .i64 0, .int .i64 0, .string ⟨#[]⟩, .int .i64 0, .int .i64 0, .int .i64 0, .int .i64 0, .int .i64 0, .int .i64 0, .int .i64 0, .int .i64 0, .int .i64 0, .int .i64 0, .int .i64 0, .int .i64 0, .int .i64 0, .int .i64 0, .int .i64 0, .int .i64 0, .int .i64 0, .int .i64 0, .int .i64 0, .int .i64 0, .int .i64 0, .int .i64 0, .int .i64 0, .int .i64 0, .int .i64 0, .int .i64 0, .int .i64 0, .int .i64 0, .int .i64 0, .int .i64 0, .int .i64 0, .int .i64 0, .slice none 0 0, .bool false, .int .i64 0] #[.int .i64 (gen : Int), .int .i64 (base : Int), .string ⟨r.toArray⟩, .int .i64 0, .int .i64 0, .int .i64 0, .int .i64 0, .int .i64 0, .int .i64 0, .int .i64 0, .int .i64 0, .int .i64 0, .int .i64 0, .int .i64 0, .int .i64 0, .int .i64 0, .int .i64 0, .int .i64 0, .int .i64 0, .int .i64 0, .int .i64 0, .int .i64 0, .int .i64 0, .int .i64 0, .int .i64 0, .int .i64 0, .int .i64 0, .int .i64 0, .int .i64 0, .int .i64 0, .int .i64 0, .int .i64 0, .int .i64 0, .int .i64 0, .int .i64 0, .slice none 0 0, .bool false, .int .i64 (gd : Int)] ?hx ?hy infoLg rfl ?h1 ?rest
          case ho => rfl
          case hd => rfl
          case hx => rfl
          case hy => rfl
          case h1 => simp [Value.oneCell']
          refine hK.out _ _ (cells_three (w := w2.drew) c0 c1 k1' hbl hfb2 _) (fun hHeld9 => ?_)
          clear hK K hHeld hHeld8
          try simp only [Act.put, List.setIfInBounds_toArray, List.set_cons_zero, List.set_cons_succ]
          refine wpAnyH_done (by kernel_rfl) ?_ _
          have HL3 : Hid (LgAt (w2.drew.alloc (.cells #[.int .i64 (gen : Int), .int .i64 (base : Int), .string ⟨r.toArray⟩, .int .i64 0, .int .i64 0, .int .i64 0, .int .i64 0, .int .i64 0, .int .i64 0, .int .i64 0, .int .i64 0, .int .i64 0, .int .i64 0, .int .i64 0, .int .i64 0, .int .i64 0, .int .i64 0, .int .i64 0, .int .i64 0, .int .i64 0, .int .i64 0, .int .i64 0, .int .i64 0, .int .i64 0, .int .i64 0, .int .i64 0, .int .i64 0, .int .i64 0, .int .i64 0, .int .i64 0, .int .i64 0, .int .i64 0, .int .i64 0, .int .i64 0, .int .i64 0, .slice none 0 0, .bool false, .int .i64 (gd : Int)] 82)) w2.heap.size (lgC gen base r (tabF (asZ y) 0) (List.replicate 16 0) (.slice none 0 0) false gd)) := Deep.blk_alloc_new w2.drew _
          have HB3 : Hid (Below w2.heap.size w2 (w2.drew.alloc (.cells #[.int .i64 (gen : Int), .int .i64 (base : Int), .string ⟨r.toArray⟩, .int .i64 0, .int .i64 0, .int .i64 0, .int .i64 0, .int .i64 0, .int .i64 0, .int .i64 0, .int .i64 0, .int .i64 0, .int .i64 0, .int .i64 0, .int .i64 0, .int .i64 0, .int .i64 0, .int .i64 0, .int .i64 0, .int .i64 0, .int .i64 0, .int .i64 0, .int .i64 0, .int .i64 0, .int .i64 0, .int .i64 0, .int .i64 0, .int .i64 0, .int .i64 0, .int .i64 0, .int .i64 0, .int .i64 0, .int .i64 0, .int .i64 0, .int .i64 0, .slice none 0 0, .bool false, .int .i64 (gd : Int)] 82))) := ((Below.refl _ w2).drew).alloc (Nat.le_refl _) _
          generalize w2.drew.alloc (.cells #[.int .i64 (gen : Int), .int .i64 (base : Int), .string ⟨r.toArray⟩, .int .i64 0, .int .i64 0, .int .i64 0, .int .i64 0, .int .i64 0, .int .i64 0, .int .i64 0, .int .i64 0, .int .i64 0, .int .i64 0, .int .i64 0, .int .i64 0, .int .i64 0, .int .i64 0, .int .i64 0, .int .i64 0, .int .i64 0, .int .i64 0, .int .i64 0, .int .i64 0, .int .i64 0, .int .i64 0, .int .i64 0, .int .i64 0, .int .i64 0, .int .i64 0, .int .i64 0, .int .i64 0, .int .i64 0, .int .i64 0, .int .i64 0, .int .i64 0, .slice none 0 0, .bool false, .int .i64 (gd : Int)] 82) = w3 at HL3 HB3 ⊢
          clear hHeld9 c0 c1 hwg hts k0' k1' g1
          go_wp2_with fail
          go_loopw [67] (fun i wr => ∃ k : Nat, k ≤ 8 ∧ i = .int .i64 k ∧ LgAt wr w2.heap.size (lgC gen base r (tabF (asZ y) k) (List.replicate 16 0) (.slice none 0 0) false gd) ∧ Below w2.heap.size w2 wr) (fun i _ => 8 - (intOf i).toNat)
          case atStart => exact ⟨0, Nat.zero_le _, rfl, HL3.out, HB3.out⟩
          case round =>
            rename World => wr
            obtain ⟨k, hk, rfl, ht, hb⟩ := hrel
            have HT : Hid (LgAt wr w2.heap.size (lgC gen base r (tabF (asZ y) k) (List.replicate 16 0) (.slice none 0 0) false gd)) := ht
            have HB : Hid (Below w2.heap.size w2 wr) := hb
            by_cases hlt : k < 8
            · have hki : (k : Int) < 8 := by omega
              have hyl := HYL.out
              obtain ⟨p, hp⟩ : ∃ p, (asZ y)[2 * k]? = some p := ⟨(asZ y)[2 * k]'(by omega), List.getElem?_eq_getElem _⟩
              obtain ⟨q, hq⟩ : ∃ q, (asZ y)[2 * k + 1]? = some q := ⟨(asZ y)[2 * k + 1]'(by omega), List.getElem?_eq_getElem _⟩
              have HF : Hid (lgC gen base r (tabF (asZ y) (k + 1)) (List.replicate 16 0) (.slice none 0 0) false gd = ((lgC gen base r (tabF (asZ y) k) (List.replicate 16 0) (.slice none 0 0) false gd).set (3 + k * 2) (.int .i64 p)).set (3 + k * 2 + 1) (.int .i64 q)) := by
                show _ = _
                rw [lgC_setF _ (by rw [tabF_len]; omega), Nat.add_assoc 3, lgC_setF _ (by rw [List.length_set, tabF_len]; omega), tabF, if_pos (by omega), hp, hq, Nat.mul_comm 2 k]; rfl
              have hp' : (asZ (gen :: base :: y))[2 + 2 * k]? = some p := by
                rw [Nat.add_comm 2]; exact hp
              have hq' : (asZ (gen :: base :: y))[3 + 2 * k]? = some q := by
                rw [show 3 + 2 * k = (2 * k + 1) + 2 by omega]; exact hq
              obtain ⟨b', off', e', _, c1⟩ := (HI1.out.below hb (Nat.le_refl _)).mem hp'
              obtain ⟨rfl, rfl⟩ : b = b' ∧ off = off' := by cases e'; exact ⟨rfl, rfl⟩
              obtain ⟨b', off', e'', _, c2⟩ := (HI1.out.below hb (Nat.le_refl _)).mem hq'
              obtain ⟨rfl, rfl⟩ : b = b' ∧ off = off' := by cases e''; exact ⟨rfl, rfl⟩
              have f1 := ht.free (3 + k * 2)
              have f2 := ht.free (3 + k * 2 + 1)
              have hLl : (lgC gen base r (tabF (asZ y) k) (List.replicate 16 0) (.slice none 0 0) false gd).length = 38 := lgC_len (tabF_len _ _) (by simp)
              obtain ⟨x1, hx1⟩ : ∃ x, (lgC gen base r (tabF (asZ y) k) (List.replicate 16 0) (.slice none 0 0) false gd)[3 + k * 2]? = some x := ⟨_, List.getElem?_eq_getElem (by omega)⟩
              obtain ⟨x2, hx2⟩ : ∃ x, (lgC gen base r (tabF (asZ y) k) (List.replicate 16 0) (.slice none 0 0) false gd)[3 + k * 2 + 1]? = some x := ⟨_, List.getElem?_eq_getElem (by omega)⟩
              have d1 := ht.cell hx1
              have d2 := ht.cell hx2
              have hg := ht.lt
              have hz := hb.size
              have hbw : b < wr.heap.size := by omega
              have g1 : (0 : Int) ≤ ((2 + 2 * k : Nat) : Int) := by omega
              have g2 : ((2 + 2 * k : Nat) : Int) < 18 := by omega
              have g3 : (0 : Int) ≤ ((3 + 2 * k : Nat) : Int) := by omega
              have g4 : ((3 + 2 * k : Nat) : Int) < 18 := by omega
              clear ht hb hp hq hp' hq' hx1 hx2 e' e'' hLl hyl
              go_wp2_with fail
              go_region
              go_wp2_with fail
              go_roundw
              case rel =>
                refine ⟨k + 1, by omega, by go_num, ?_, ((HB.out.setCell (p := ⟨w2.heap.size, 3 + k * 2, none⟩) (Nat.le_refl _) _).setCell (p := ⟨w2.heap.size, 3 + k * 2 + 1, none⟩) (Nat.le_refl _) _).drew⟩
                rw [HF.out]
                exact (HT.out.put (3 + k * 2) (.int .i64 p)).put (3 + k * 2 + 1) (.int .i64 q)
              case measure => simp [intOf]; omega
            · have hk8 : k = 8 := by omega
              subst hk8
              have ht3 := ht
              rw [tabF_all HYL.out] at ht3
              have HT3 : Hid (LgAt wr w2.heap.size (lgC gen base r (asZ y) (List.replicate 16 0) (.slice none 0 0) false gd)) := ht3
              have hyl : (jzC (asZ y)).length = 16 := by rw [jzC_len]; exact HYL.out
              have HR3 : Hid (wr.rangeAt w2.heap.size 3 (jzC (asZ y))) := HT3.out.range [.int .i64 gen, .int .i64 base, .string ⟨r.toArray⟩] (jzC (asZ y)) _ rfl
              have hLl : (lgC gen base r (asZ y) (List.replicate 16 0) (.slice none 0 0) false gd).length = 38 := lgC_len HYL.out (by simp)
              have HTh : Hid (wr.there w2.heap.size 19 (jzC (asZ y)).toArray.size) := HT3.out.there (o := 19) (n := (jzC (asZ y)).toArray.size) (by rw [hLl]; simp [hyl])
              have HI16 : Hid ((Try.prog.info? 80).map (·.size) = some (jzC (asZ y)).length) := by show _ = _; rw [hyl]; exact infoTb
              have HL4 : Hid (LgAt (wr.setCells w2.heap.size 19 (jzC (asZ y))) w2.heap.size (sC ⟨gen, base, r, asZ y, asZ y, [], false, gd⟩ (.slice none ([] : List (Rv × Option Addr × Nat)).length 0) gd)) := by
                have h := HT3.out.puts (jzC (asZ y)) _ _ 19
                have e := setL_app (.int .i64 gen :: .int .i64 base :: .string ⟨r.toArray⟩ :: jzC (asZ y)) (jzC (List.replicate 16 0)) [.slice none 0 0, .bool false, .int .i64 gd] (jzC (asZ y)) (by rw [hyl]; simp [jzC])
                rw [show (Value.int .i64 gen :: .int .i64 base :: .string ⟨r.toArray⟩ :: jzC (asZ y)).length = 19 by simp [hyl]] at e
                have e2 : lgC gen base r (asZ y) (List.replicate 16 0) (.slice none 0 0) false gd = (.int .i64 gen :: .int .i64 base :: .string ⟨r.toArray⟩ :: jzC (asZ y)) ++ (jzC (List.replicate 16 0) ++ [.slice none 0 0, .bool false, .int .i64 gd]) := rfl
                rw [e2, e] at h
                exact h
              have HZ4 : Hid (LgAt (wr.setCells w2.heap.size 19 (jzC (asZ y))) B zeroC) := ((HL2.out.below HB.out hlB2).aside (Nat.ne_of_lt hlB2) _ _ _)
              have HB4 : Hid (Below B w (wr.setCells w2.heap.size 19 (jzC (asZ y))) ∧ Below w2.heap.size w2 (wr.setCells w2.heap.size 19 (jzC (asZ y)))) := ⟨below_cells (Nat.le_of_lt hlB2) _ _ _ (HB2.out.trans (HB.out.mono (Nat.le_of_lt hlB2))), below_cells (Nat.le_refl _) _ _ _ HB.out⟩
              clear ht ht3 hlt hb hyl hLl
              go_upto_region 14 with (first | refine wpList_load_mid rfl 80 _ rfl w2.heap.size 3 rfl (jzC (asZ y)) _ HR3.out Try.underlying80 rfl HI16.out ?_ | refine wpList_store_mid rfl 80 _ _ rfl w2.heap.size 19 (jzC (asZ y)).toArray rfl rfl HTh.out (by simpa using HI16.out) (all_oneCell_toArray (jzC_one _)) ?_)
              obtain ⟨G, hG⟩ : ∃ G, w2.heap.size = G := ⟨_, rfl⟩
              have HGw : Hid (w2.heap.size = G ∧ B < G) := ⟨hG, by rw [← hG]; exact hlB2⟩
              try simp only [List.toList_toArray]
              rw [hG] at HL4 HZ4 HB4 ⊢
              generalize wr.setCells G 19 (jzC (asZ y)) = w4 at HL4 HZ4 HB4 ⊢
              have HF4w : Hid (FrsAt w4 G (some ⟨fb, fo, none⟩) (⟨1, t0⟩ :: fr)) := by
                have h := HF2.out
                rw [hG] at h
                exact h.below HB4.out.2 (Nat.le_refl _)
              clear hG HT HB HT3 HR3 HTh HI16 HL3 HB3 HI1 hbl
              simp only [Act.put]
              obtain ⟨fr2, fa2, hfr2, hfl, hfr, hrun⟩ := frun_from HF4w.out (c := fc) (by rw [HNF.out.1]; exact HNF.out.2.2) (by rw [HNF.out.1]; have := HNF.out.2.1; omega)
              have hfr2' : fr = fr2 := hfr2.symm
              subst hfr2'
              rw [HNF.out.1] at hrun
              obtain ⟨n2, hn2⟩ : ∃ n, fr.length = n := ⟨_, rfl⟩
              have HN2 : Hid (fr.length = n2) := hn2
              have hn2b : n2 ≤ 1000000000000 := by have := HCnt.out; rw [← hn2]; rw [List.length_cons] at this; omega
              rw [hn2] at hrun
              have HFr : Hid (FrsAt w4 G fa2 fr) := hfr
              have HOK0 : Hid (LOk ⟨gen, base, r, asZ y, asZ y, [], false, gd⟩ (r.length : Nat)) := hd_ok HS.out ht4
              clear hfr hfl hn2
              go_wp2_with fail
              clear hrun
              go_loopw [11, 94] (fun nv i wr => ∃ (j : Nat) (S1 : Lg) (n1 : Int) (va : Option Addr) (vc : Nat) (xs : List (Rv × Option Addr × Nat)), j ≤ n2 ∧ i = .int .i64 j ∧ nv = .string ⟨(textAt S1.text S1.revs S1.revs.length).toArray⟩ ∧ LgIs wr G S1 (S1.good : Int) va vc xs ∧ LOk S1 n1 ∧ logS ((⟨1, t0⟩ : Fr) :: fr) = (walkL S1 n1 (fr.drop j)).1 ∧ FrsAt wr G fa2 fr ∧ LgAt wr B zeroC ∧ Below B w wr) (fun _ i _ => n2 - (intOf i).toNat)
              case atStart => exact ⟨0, ⟨gen, base, r, asZ y, asZ y, [], false, gd⟩, (r.length : Nat), none, 0, [], Nat.zero_le _, rfl, rfl, ⟨HL4.out, rzs_nil _ _, rfl⟩, HOK0.out, by simp [logS, HS.out], HFr.out, HZ4.out, HB4.out.1⟩
              case round =>
                rename World => wr
                obtain ⟨j, S1, n1, va, vc, xs, hj, rfl, rfl, hlg, hok, hfin, hfrs, hz, hb⟩ := hrel
                have HG : Hid (LgIs wr G S1 (S1.good : Int) va vc xs) := hlg
                have HOK : Hid (LOk S1 n1) := hok
                have HFin : Hid (logS ((⟨1, t0⟩ : Fr) :: fr) = (walkL S1 n1 (fr.drop j)).1) := hfin
                have HZ : Hid (LgAt wr B zeroC) := hz
                have HB : Hid (Below B w wr) := hb
                have hF := hok.first
                have hT := hok.table
                have HGB : Hid (B < G) := HGw.out.2
                obtain ⟨tx, htx⟩ : ∃ tx, textAt S1.text S1.revs S1.revs.length = tx := ⟨_, rfl⟩
                have HTX : Hid (textAt S1.text S1.revs S1.revs.length = tx ∧ n1 = (tx.length : Int) ∧ tx.length ≤ 500) := ⟨htx, by rw [← htx]; exact hok.size, by rw [← htx]; exact text_le hok.hist hok.text _⟩
                rw [htx]
                have hE0 : logE (scanL l).1 = 0 := by rw [HFS.out]; simp [logE, HS.out]
                have HStop : Hid (∀ (wz : World), LgIs wz G S1 (S1.good : Int) va vc xs → LgAt wz B zeroC → Below B w wz → S1 = logS (scanL l).1 → ∃ L, wz.rangeAt G 0 L ∧ L.length = 38 ∧ (∀ u ∈ L, u.oneCell' = true) ∧ wz.there B 0 38 ∧ LgAt (wz.setCells B 0 L) B L ∧ ReadIs s.data.toList w (.returned (.tuple #[.agg L.toArray, .int .i64 0])) (wz.setCells B 0 L)) := by
                  intro wz hR hL hB hS
                  obtain ⟨h1, h2, h3⟩ := hR
                  have hlen : (sC S1 (.slice va xs.length vc) (S1.good : Int)).length = 38 := sC_len hF hT
                  refine ⟨sC S1 (.slice va xs.length vc) (S1.good : Int), h1.all, hlen, lgC_one rfl, hL.there (by rw [zeroC_len]; decide), ?_, HP.out _ _ ⟨.inl ⟨hE0, .slice va xs.length vc, xs, by rw [← hS], ?_, by rw [h3, hS]⟩, ?_⟩⟩
                  · have h := hL.puts (sC S1 (.slice va xs.length vc) (S1.good : Int)) _ _ 0
                    rw [setL_all (by rw [hlen, zeroC_len])] at h
                    exact h
                  · rw [HW.out]
                    exact (RzsOwn.cells (Nat.lt_of_lt_of_le HGB.out (Nat.le_succ G)) _ _ _ h2).base (by have := HGB.out; omega)
                  · rw [HW.out]
                    exact below_cells (Nat.le_refl _) _ _ _ hB
                clear hE0 hlg hok hfin hz hb htx
                by_cases hlt : j < n2
                · obtain ⟨⟨fk, ft⟩, hf⟩ : ∃ f, fr[j]? = some f := ⟨fr[j]'(by rw [HN2.out]; exact hlt), List.getElem?_eq_getElem _⟩
                  have HDr : Hid (fr.drop j = ⟨fk, ft⟩ :: fr.drop (j + 1)) := by
                    show _ = _
                    obtain ⟨h1, h2⟩ := List.getElem?_eq_some_iff.1 hf
                    rw [List.drop_eq_getElem_cons h1, h2]
                  obtain ⟨b2, o2, rfl, hb2, k0, k1⟩ := hfrs.mem hf
                  have HY : Hid (FrsAt wr G (some ⟨b2, o2, none⟩) fr) := hfrs
                  have hft : ft.length ≤ 4000 := HF4.out ⟨fk, ft⟩ (List.mem_cons_of_mem _ (List.mem_of_getElem? hf))
                  have hji : (j : Int) < (n2 : Int) := by omega
                  have hj0 : (0 : Int) ≤ (j : Int) := by omega
                  have hglr := HG.out.lt
                  have hb2w : b2 < wr.heap.size := Nat.lt_trans hb2 hglr
                  have HB5 : Hid (Below wr.heap.size wr (wr.alloc (.cells #[.int .i64 fk, .string ⟨ft.toArray⟩] 149))) := (Below.refl _ wr).alloc (Nat.le_refl _) _
                  have HX5 : Hid (FBox (wr.alloc (.cells #[.int .i64 fk, .string ⟨ft.toArray⟩] 149)) wr.heap.size fk ⟨ft.toArray⟩) := fbox_here wr fk _
                  clear hfrs hf
                  go_upto_region 18 with fail
                  generalize wr.alloc (.cells #[.int .i64 fk, .string ⟨ft.toArray⟩] 149) = w5 at HB5 HX5 ⊢
                  obtain ⟨h, hh⟩ : ∃ h, wr.heap.size = h := ⟨_, rfl⟩
                  have HHh : Hid (wr.heap.size = h ∧ G < h) := ⟨hh, by rw [← hh]; exact hglr⟩
                  rw [hh] at HX5 HB5 ⊢
                  have HB5' : Below wr.heap.size wr w5 := by rw [HHh.out.1]; exact HB5.out
                  have HG5 : Hid (LgIs w5 G S1 (S1.good : Int) va vc xs) := HG.out.below HB5'
                  have HZ5 : Hid (LgAt w5 B zeroC) := HZ.out.below HB5' HZ.out.lt
                  have HY5 : Hid (FrsAt w5 G (some ⟨b2, o2, none⟩) fr) := HY.out.below HB5' HY.out.1
                  have HB5w : Hid (Below B w w5) := HB.out.trans (HB5'.mono (Nat.le_of_lt HZ.out.lt))
                  clear hh HB5' HB5 k0 k1 hb2 hb2w hglr
                  have HB5 : Hid (Below B w w5) := HB5w.out
                  clear HB5w
                  obtain ⟨f0, f1, hhl⟩ := HX5.out
                  have hts : (⟨ft.toArray⟩ : ByteArray).size ≤ 9223372036854775807 := by show ft.toArray.size ≤ _; rw [List.size_toArray]; omega
                  have HSo : Hid (∀ w, Calls Try.prog 84 #[.string ⟨ft.toArray⟩, .int .i64 2] w fun e w' => NumsIs (.bool true) (.bool false) 2 ft w e w') := fun w => some_any ⟨ft.toArray⟩ 2 w hts (by decide)
                  clear hts
                  by_cases hk2 : fk = 2
                  · subst hk2
                    go_wp2_with fail
                    with_reducible refine (HSo.out _).mono ?_
                    rintro e w6 ⟨hcase, hb6⟩
                    have HG6 : Hid (LgIs w6 G S1 (S1.good : Int) va vc xs) := HG5.out.below hb6
                    have HZ6 : Hid (LgAt w6 B zeroC) := HZ5.out.below hb6 HZ5.out.lt
                    have HY6 : Hid (FrsAt w6 G (some ⟨b2, o2, none⟩) fr) := HY5.out.below hb6 HY5.out.1
                    have HB6 : Hid (Below B w w6) := HB5.out.trans (hb6.mono (Nat.le_of_lt HZ5.out.lt))
                    have HX6 : Hid (FBox w6 h 2 ⟨ft.toArray⟩) := HX5.out.below hb6
                    clear hb6 f0 f1 hhl
                    obtain ⟨f0, f1, hhl⟩ := HX6.out
                    rcases hcase with ⟨x, rr, a, c, hx, rfl, hown⟩ | ⟨hx, rfl⟩
                    · obtain ⟨p, q, rfl⟩ := two_list (nums_is 2 hx).1
                      have HI6 : Hid (IzAt w6 w6.heap.size a [(p : Int), (q : Int)] c) := jz_own hown
                      have HRx : Hid (∀ d, decL rr = d → revG ft = d.map (fun d => (⟨(p : Nat), (q : Nat), d⟩ : Rv))) := fun d hd => by
                        rw [revG, hx]
                        simp only [hd]
                        rfl
                      have hrl := nums_len hx
                      have hrs : (⟨rr.toArray⟩ : ByteArray).size ≤ 9223372036854775807 := by show rr.toArray.size ≤ _; rw [List.size_toArray]; omega
                      have HDe : Hid (∀ w, Calls Try.prog 85 #[.string ⟨rr.toArray⟩] w fun e w' => DecodesOwn rr w e w') := fun w => RDecodeO_any ⟨rr.toArray⟩ w hrs
                      clear hx hown hrl hrs
                      go_wp2_with fail
                      with_reducible refine (HDe.out _).mono ?_
                      rintro e w7 ⟨hcase, hb7⟩
                      have HG7 : Hid (LgIs w7 G S1 (S1.good : Int) va vc xs) := HG6.out.below hb7
                      have HZ7 : Hid (LgAt w7 B zeroC) := HZ6.out.below hb7 HZ6.out.lt
                      have HY7 : Hid (FrsAt w7 G (some ⟨b2, o2, none⟩) fr) := HY6.out.below hb7 HY6.out.1
                      have HB7 : Hid (Below B w w7) := HB6.out.trans (hb7.mono (Nat.le_of_lt HZ6.out.lt))
                      have HX7 : Hid (FBox w7 h 2 ⟨ft.toArray⟩) := HX6.out.below hb7
                      have HI7 : Hid (IzAt w7 w7.heap.size a [(p : Int), (q : Int)] c) := HI6.out.here hb7 (Nat.le_refl _)
                      have HSz : Hid (w6.heap.size ≤ w7.heap.size) := hb7.size
                      clear hb7 f0 f1 hhl
                      obtain ⟨f0, f1, hhl⟩ := HX7.out
                      obtain ⟨b, off, e1, hbl, c0⟩ := HI7.out.mem (i := 0) rfl
                      obtain ⟨b', off', e2, _, c1⟩ := HI7.out.mem (i := 1) rfl
                      obtain ⟨rfl, rfl⟩ : b = b' ∧ off = off' := by rw [e1] at e2; cases e2; exact ⟨rfl, rfl⟩
                      subst e1
                      rw [Nat.add_zero] at c0
                      clear e2
                      rcases hcase with ⟨d, da, dc, hd, rfl, hpd, hod⟩ | ⟨hd, rfl⟩
                      · have HRv : Hid (revG ft = some ⟨p, q, d⟩) := HRx.out (some d) (dec_some hd)
                        have HPD : Hid (PartsAt w7 w7.heap.size da d) := hpd
                        have HOD : Hid (w7.ownsRow w6.heap.size 138 3 (.slice da d.length dc) d.length (allCells d)) := hod
                        clear hd hpd hod
                        go_wp2_with fail
                        go_region
                        have hb8 : Below w7.heap.size w7 ((w7.alloc (.cells #[.int .i64 (p : Int), .int .i64 (q : Int), .slice da d.length dc] 40)).drew) := ((Below.refl _ w7).alloc (Nat.le_refl _) _).drew
                        have HM8 : Hid (RBox ((w7.alloc (.cells #[.int .i64 (p : Int), .int .i64 (q : Int), .slice da d.length dc] 40)).drew) w7.heap.size ⟨p, q, d⟩ da dc) := rbox_new w7 ⟨p, q, d⟩ da dc
                        have HPD8 : Hid (PartsAt ((w7.alloc (.cells #[.int .i64 (p : Int), .int .i64 (q : Int), .slice da d.length dc] 40)).drew) ((w7.alloc (.cells #[.int .i64 (p : Int), .int .i64 (q : Int), .slice da d.length dc] 40)).drew).heap.size da d) := HPD.out.here hb8 (Nat.le_refl _)
                        have HOD8 : Hid (((w7.alloc (.cells #[.int .i64 (p : Int), .int .i64 (q : Int), .slice da d.length dc] 40)).drew).ownsRow w6.heap.size 138 3 (.slice da d.length dc) d.length (allCells d)) := own_stay HOD.out hb8
                        obtain ⟨w8, hw8⟩ : ∃ w8, ((w7.alloc (.cells #[.int .i64 (p : Int), .int .i64 (q : Int), .slice da d.length dc] 40)).drew) = w8 := ⟨_, rfl⟩
                        rw [hw8] at hb8 HM8 HPD8 HOD8 ⊢
                        clear hw8
                        have HG8 : Hid (LgIs w8 G S1 (S1.good : Int) va vc xs) := HG7.out.below hb8
                        have HZ8 : Hid (LgAt w8 B zeroC) := HZ7.out.below hb8 HZ7.out.lt
                        have HY8 : Hid (FrsAt w8 G (some ⟨b2, o2, none⟩) fr) := HY7.out.below hb8 HY7.out.1
                        have HB8 : Hid (Below B w w8) := HB7.out.trans (hb8.mono (Nat.le_of_lt HZ7.out.lt))
                        have HX8 : Hid (FBox w8 h 2 ⟨ft.toArray⟩) := HX7.out.below hb8
                        obtain ⟨m, hm⟩ : ∃ m, w7.heap.size = m := ⟨_, rfl⟩
                        rw [hm] at HM8 ⊢
                        have HMm : Hid (G < m ∧ h < m ∧ w6.heap.size ≤ m ∧ (Value.slice va xs.length vc).ownBlock ≠ some m) := by
                          rw [← hm]
                          exact ⟨HG7.out.lt, hhl, HSz.out, fun e => by have := (HG7.out.2.1.2.lt _ e).2; omega⟩
                        clear hm hb8 hbl c0 c1 f0 f1 hhl
                        obtain ⟨f0, f1, hhl⟩ := HX8.out
                        obtain ⟨r0, r1, r2, hml⟩ := HM8.out
                        simp only at r0 r1 r2
                        have hxl := HG8.out.len
                        obtain ⟨L, hLL⟩ : ∃ L, sC S1 (.slice va xs.length vc) (S1.good : Int) = L := ⟨_, rfl⟩
                        obtain ⟨yy, hyy⟩ : ∃ yy, nextE S1.table S1.base xs.length (tx.length : Int) ⟨p, q, d⟩ = yy := ⟨_, rfl⟩
                        have HYY : Hid (nextE S1.table S1.base S1.revs.length n1 ⟨p, q, d⟩ = yy) := by show _ = _; rw [← hxl, HTX.out.2.1]; exact hyy
                        have HNx : Hid (∀ w, PartsAt w w.heap.size da d → Calls Try.prog 86 #[.agg L.toArray, .int .i64 (tx.length : Int), .agg #[.int .i64 (p : Int), .int .i64 (q : Int), .slice da d.length dc]] w fun e w' => e = .returned (.int .i64 yy) ∧ Below w.heap.size w w') := fun w hp => by
                          have h := RNext_any L.toArray S1.base xs.length va vc S1.table (tx.length : Int) ⟨p, q, d⟩ da dc w hp (by rw [← hLL]; rfl) (by rw [← hLL, List.getElem?_toArray]; exact (lg_at hF hT).1) (fun k q hk => by rw [← hLL, List.getElem?_toArray]; exact (lg_at hF hT).2.2.2 k q hk) hT (by have := HOK.out.revs; omega)
                          rw [hyy] at h
                          exact h
                        have HA8 : Hid (w8.rangeAt G 0 L ∧ (Try.prog.info? 82).map (·.size) = some L.length) := by
                          show _ ∧ _
                          rw [← hLL]
                          exact ⟨HG8.out.1.all, by rw [sC_len hF hT]; exact infoLg⟩
                        have htl : (⟨tx.toArray⟩ : ByteArray).size = tx.length := by show tx.toArray.size = _; simp
                        clear hLL hyy hxl
                        go_wp2_with (refine wpList_load_on (by rfl) 82 _ rfl G 0 rfl L _ HA8.out.1 Try.underlying82 rfl HA8.out.2 ?_)
                        with_reducible refine (HNx.out _ HPD8.out).mono ?_
                        rintro e w9 ⟨rfl, hb9⟩
                        have HG9 : Hid (LgIs w9 G S1 (S1.good : Int) va vc xs) := HG8.out.below hb9
                        have HZ9 : Hid (LgAt w9 B zeroC) := HZ8.out.below hb9 HZ8.out.lt
                        have HY9 : Hid (FrsAt w9 G (some ⟨b2, o2, none⟩) fr) := HY8.out.below hb9 HY8.out.1
                        have HB9 : Hid (Below B w w9) := HB8.out.trans (hb9.mono (Nat.le_of_lt HZ8.out.lt))
                        have HX9 : Hid (FBox w9 h 2 ⟨ft.toArray⟩) := HX8.out.below hb9
                        have HM9 : Hid (RBox w9 m ⟨p, q, d⟩ da dc) := HM8.out.below hb9
                        have HPD9 : Hid (PartsAt w9 w9.heap.size da d) := HPD8.out.here hb9 (Nat.le_refl _)
                        have HOD9 : Hid (w9.ownsRow w6.heap.size 138 3 (.slice da d.length dc) d.length (allCells d)) := own_stay HOD8.out hb9
                        clear hb9 f0 f1 hhl r0 r1 r2 hml HA8
                        by_cases hy0 : yy = 0
                        · subst hy0
                          obtain ⟨ip, hip, hp0, hp1, hp2⟩ := info_parts infoRev
                          obtain ⟨v1, v2, v3, v4, v5, v6⟩ := next_zero HYY.out
                          obtain ⟨⟨o1, o2, o3, o4⟩, -⟩ := one_zero v1
                          have HONE : Hid (oneE ⟨p, q, d⟩ = 0) := v1
                          have hp7 : p ≤ 7 := by have h : ((p : Nat) : Int) ≤ 7 := o2; omega
                          have HSY : Hid (stepL S1 n1 ⟨2, ft⟩ = some ({ S1 with table := tabPut S1.table (p : Int) (q : Int) (S1.base + (S1.revs.length + 1)), revs := S1.revs ++ [⟨p, q, d⟩], good := S1.good + (ft.length + 7) }, outI d)) := by
                            show _ = _
                            rw [step_two HRv.out, if_pos HYY.out]
                          have hfit : fitsE d (tx.length : Nat) = 0 := by rw [fitsE, if_pos v5, if_pos (by rw [← HTX.out.2.1]; exact v6)]
                          obtain ⟨tx2, htx2⟩ : ∃ t, doL d tx = t := ⟨_, rfl⟩
                          have HT2 : Hid (textAt S1.text (S1.revs ++ [(⟨p, q, d⟩ : Rv)]) (S1.revs ++ [(⟨p, q, d⟩ : Rv)]).length = tx2) := by
                            show _ = _
                            rw [text_more, HTX.out.1]
                            exact htx2
                          have HDo : Hid (∀ w, PartsAt w w.heap.size da d → Calls Try.prog 87 #[.slice da d.length dc, .string ⟨tx.toArray⟩] w fun e w' => e = .returned (.tuple #[.string ⟨tx2.toArray⟩, .int .i64 0]) ∧ Below w.heap.size w w') := fun w hp => by
                            have h := RDo_any da d dc ⟨tx.toArray⟩ w hp (by show tx.toArray.size ≤ _; rw [List.size_toArray]; have := HTX.out.2.2; omega)
                            rw [do_text hfit, htx2, show fitsE d ((⟨tx.toArray⟩ : ByteArray).size : Nat) = 0 from hfit] at h
                            exact h
                          have hxl := HG9.out.len
                          have hr64 := HOK.out.revs
                          have hgd4 := HOK.out.good
                          have hx64 : xs.length ≤ 64 := by omega
                          obtain ⟨mm, hmm⟩ : ∃ m : Int, (S1.base : Int) + ((xs.length : Int) + 1) = m := ⟨_, rfl⟩
                          obtain ⟨fl, hfl⟩ : ∃ n : Nat, ft.length = n := ⟨_, rfl⟩
                          obtain ⟨tt, htt⟩ : ∃ m : Int, (S1.good : Int) + (7 + (fl : Int)) = m := ⟨_, rfl⟩
                          have hg3 : S1.good ≤ 1000000 := by
                            have : (if S1.whole then 7 else 0) ≤ 7 := by split <;> omega
                            omega
                          have HMM : Hid ((S1.base : Int) + ((S1.revs.length : Int) + 1) = mm ∧ ((S1.good + (ft.length + 7) : Nat) : Int) = tt) := ⟨by rw [← hxl]; exact hmm, by rw [← htt, hfl]; omega⟩
                          have hwa : IntKind.i64.wrap ((S1.base : Int) + ((xs.length : Int) + 1)) = mm := by rw [IntWalk.i64_in _ ⟨by omega, by omega⟩]; exact hmm
                          have hwb : wrap64 ((S1.base : Int) + ((xs.length : Int) + 1)) = mm := by rw [IntWalk.wrap64_in _ ⟨by omega, by omega⟩]; exact hmm
                          have hwc : IntKind.i64.wrap ((S1.good : Int) + (7 + (fl : Int))) = tt := by rw [IntWalk.i64_in _ ⟨by omega, by omega⟩]; exact htt
                          have hwd : wrap64 ((S1.good : Int) + (7 + (fl : Int))) = tt := by rw [IntWalk.wrap64_in _ ⟨by omega, by omega⟩]; exact htt
                          have hwe : IntKind.i64.wrap (7 + (fl : Int)) = 7 + (fl : Int) := by rw [IntWalk.i64_in _ ⟨by omega, by omega⟩]
                          have HWW : Hid ((IntKind.i64.wrap ((S1.base : Int) + ((xs.length : Int) + 1)) = mm ∧ wrap64 ((S1.base : Int) + ((xs.length : Int) + 1)) = mm) ∧ (IntKind.i64.wrap ((S1.good : Int) + (7 + (fl : Int))) = tt ∧ wrap64 ((S1.good : Int) + (7 + (fl : Int))) = tt) ∧ IntKind.i64.wrap (7 + (fl : Int)) = 7 + (fl : Int)) := ⟨⟨hwa, hwb⟩, ⟨hwc, hwd⟩, hwe⟩
                          have hfts : (⟨ft.toArray⟩ : ByteArray).size = fl := by show ft.toArray.size = _; rw [List.size_toArray, hfl]
                          have HFTS : Hid ((⟨ft.toArray⟩ : ByteArray).size = fl) := hfts
                          clear hwa hwb hwc hwd hwe hfts hmm htt hfl hg3 hgd4 hr64 hxl v1 v2 v3 v4 v5 v6 o1 o2 o3 o4 hfit htx2
                          go_wp2_with fail
                          with_reducible refine (HDo.out _ HPD9.out).mono ?_
                          rintro e w10 ⟨rfl, hb10⟩
                          have HG10 : Hid (LgIs w10 G S1 (S1.good : Int) va vc xs) := HG9.out.below hb10
                          have HZ10 : Hid (LgAt w10 B zeroC) := HZ9.out.below hb10 HZ9.out.lt
                          have HY10 : Hid (FrsAt w10 G (some ⟨b2, o2, none⟩) fr) := HY9.out.below hb10 HY9.out.1
                          have HB10 : Hid (Below B w w10) := HB9.out.trans (hb10.mono (Nat.le_of_lt HZ9.out.lt))
                          have HX10 : Hid (FBox w10 h 2 ⟨ft.toArray⟩) := HX9.out.below hb10
                          have HM10 : Hid (RBox w10 m ⟨p, q, d⟩ da dc) := HM9.out.below hb10
                          have HOD10 : Hid (w10.ownsRow w6.heap.size 138 3 (.slice da d.length dc) d.length (allCells d)) := own_stay HOD9.out hb10
                          clear hb10
                          obtain ⟨⟨-, c35, -, -⟩, -, -, -⟩ := HG10.out.cells hF hT
                          obtain ⟨r0, r1, r2, hml⟩ := HM10.out
                          simp only at r0 r1 r2
                          have hgl10 := HG10.out.lt
                          have hneG : (Value.slice va xs.length vc).ownBlock ≠ some G := fun e => by
                            have := (HG10.out.2.1.2.lt G e).1
                            omega
                          have hneh : (Value.slice va xs.length vc).ownBlock ≠ some h := fun e => by
                            have h1 := (HG.out.2.1.2.lt h e).2
                            have h2 := HHh.out.1
                            omega
                          have hAs := own_alloc HG10.out.2.1.2 (.cells #[.int .i64 (p : Int), .int .i64 (q : Int), .slice da d.length dc] 40)
                          go_wp2_with (at_builtin; refine wpList_append_own _ rfl _ _ 36 rfl (G + 1) 40 ip _ 3 40 Try.underlying36 hip hp0 hp1 hp2 rfl (by decide) _ _ _ rfl hAs ⟨w10.heap.size, 0, none⟩ 1 1 [.int .i64 (p : Int), .int .i64 (q : Int), .slice da d.length dc] rfl rfl ?c2 (by simp [Value.oneCell']) ?c3 ?c4 ?c5 ?_)
                          case c2 => exact World.news_of_block (cs := #[.int .i64 (p : Int), .int .i64 (q : Int), .slice da d.length dc]) (t := 40) (fr := (0, 0)) (heap_alloc_new w10 _)
                          case c3 => unfold maxLen; omega
                          case c4 => omega
                          case c5 => first | omega | (simp; omega)
                          intro v' w11 hown hgrow _
                          obtain ⟨bo, cb, rfl⟩ := slice_form' hown
                          have hLG : LgAt w11 G (sC S1 (.slice va xs.length vc) (S1.good : Int)) := lg_stands hgrow (HG10.out.1.below ((Below.refl _ w10).alloc (Nat.le_refl _) _) HG10.out.1.lt) hneG
                          obtain ⟨i1, i2, i3, i4⟩ := lg_grown (r := ⟨p, q, d⟩) hF hT HG10.out.1 HM10.out HG10.out.2.1 ⟨HONE.out, rz_base HOD10.out HG6.out.lt⟩ HMm.out.2.2.2 HMm.out.1 hown hgrow
                          have i5 := fbox_grown (i := 35) (u := .slice bo (xs.length + 1) cb) HX10.out hneh HHh.out.2 hgrow
                          have c35' : w11.cell? ⟨G, 35, none⟩ = some (.slice va xs.length vc) := hLG.cell (lg_at hF hT).1
                          have f35' := hLG.free 35
                          have hgl11 := hLG.lt
                          clear hown hgrow hAs hLG c35 r0 r1 r2 hml hneG hneh
                          go_upto_region 28 with fail
                          clear c35' f35' hgl11
                          generalize w11.setCell ⟨G, 35, none⟩ (.slice bo (xs.length + 1) cb) = w12 at i1 i2 i3 i4 i5 ⊢
                          have HI1 : Hid (LgAt w12 G (sC S1 (.slice bo (xs.length + 1) cb) (S1.good : Int))) := i1
                          have HI3 : Hid (RzsOwn w12 (G + 1) (.slice bo (xs.length + 1) cb) (xs ++ [(⟨p, q, d⟩, da, dc)])) := i3
                          have HI4 : Hid (Below G w10 w12) := i4
                          obtain ⟨r0, r1, r2, hml⟩ := i2
                          simp only at r0 r1 r2
                          obtain ⟨f0, f1, hhl⟩ := i5
                          obtain ⟨l35, _, l37, ltab⟩ := lg_at (gen := S1.gen) (base := S1.base) (text := S1.text) (F := S1.first) (T := S1.table) (rv := .slice bo (xs.length + 1) cb) (wh := S1.whole) (gd := (S1.good : Int)) hF hT
                          have d35 : w12.cell? ⟨G, 35, none⟩ = some (.slice bo (xs.length + 1) cb) := i1.cell l35
                          have d37 : w12.cell? ⟨G, 37, none⟩ = some (.int .i64 (S1.good : Int)) := i1.cell l37
                          have d1 : w12.cell? ⟨G, 1, none⟩ = some (.int .i64 S1.base) := i1.cell rfl
                          obtain ⟨y1, hy1⟩ : ∃ y, S1.table[p * 2]? = some y := ⟨_, List.getElem?_eq_getElem (by omega)⟩
                          obtain ⟨y2, hy2⟩ : ∃ y, S1.table[p * 2 + 1]? = some y := ⟨_, List.getElem?_eq_getElem (by omega)⟩
                          have e1 : w12.cell? ⟨G, 19 + p * 2, none⟩ = some (.int .i64 y1) := i1.cell (ltab _ _ hy1)
                          have e2 : w12.cell? ⟨G, 19 + p * 2 + 1, none⟩ = some (.int .i64 y2) := i1.cell (ltab _ _ hy2)
                          have g37 := i1.free 37
                          have g19 := i1.free (19 + p * 2)
                          have g20 := i1.free (19 + p * 2 + 1)
                          have hgl12 := i1.lt
                          have j1 : (0 : Int) ≤ (p : Int) := by omega
                          have j2 : (p : Int) < 8 := by omega
                          obtain ⟨⟨hwa, hwb⟩, ⟨hwc, hwd⟩, hwe⟩ := HWW.out
                          have hfts := HFTS.out
                          have HP7 : Hid (p ≤ 7) := hp7
                          clear i1 i3 i4 hy1 hy2 l35 l37 ltab
                          go_wp2_with fail
                          clear hwa hwb hwc hwd hwe hfts
                          go_roundw
                          case rel =>
                            have hLt := lg_tabbed (k := p) (m := mm) (t := tt) (r := ⟨p, q, d⟩) hF hT HI1.out rfl HP7.out (S1.revs ++ [⟨p, q, d⟩])
                            have hLE : (xs ++ [((⟨p, q, d⟩ : Rv), da, dc)]).length = xs.length + 1 := by rw [List.length_append]; rfl
                            rw [← HMM.out.1, ← HMM.out.2] at hLt
                            refine ⟨j + 1, { S1 with table := tabPut S1.table (p : Int) (q : Int) (S1.base + (S1.revs.length + 1)), revs := S1.revs ++ [⟨p, q, d⟩], good := S1.good + (ft.length + 7) }, outI d, bo, cb, xs ++ [(⟨p, q, d⟩, da, dc)], by omega, by go_num, by show _ = Value.string ⟨(textAt S1.text (S1.revs ++ [(⟨p, q, d⟩ : Rv)]) (S1.revs ++ [(⟨p, q, d⟩ : Rv)]).length).toArray⟩; rw [HT2.out], ⟨?_, ?_, ?_⟩, lstep_ok HOK.out (f := ⟨2, ft⟩) hft HSY.out, ?_, ?_, ?_, ?_⟩
                            · rw [hLE, ← HMM.out.1, ← HMM.out.2]
                              exact hLt
                            · rw [hLE]
                              exact HI3.out.three (Nat.lt_succ_self G) (Nat.lt_succ_self G) (Nat.lt_succ_self G) _ _ _
                            · rw [List.map_append, HG10.out.2.2]; rfl
                            · rw [HFin.out, HDr.out, walk_some _ HSY.out]
                            · exact HY10.out.below (((HI4.out.setCell (p := ⟨G, 19 + p * 2, none⟩) (Nat.le_refl _) _).setCell (p := ⟨G, 19 + p * 2 + 1, none⟩) (Nat.le_refl _) _).setCell (p := ⟨G, 37, none⟩) (Nat.le_refl _) _) (Nat.le_refl _)
                            · exact HZ10.out.below (((HI4.out.setCell (p := ⟨G, 19 + p * 2, none⟩) (Nat.le_refl _) _).setCell (p := ⟨G, 19 + p * 2 + 1, none⟩) (Nat.le_refl _) _).setCell (p := ⟨G, 37, none⟩) (Nat.le_refl _) _) HGB.out
                            · exact (HB10.out.trans (HI4.out.mono (Nat.le_of_lt HGB.out))).setCell (p := ⟨G, 19 + p * 2, none⟩) (Nat.le_of_lt HGB.out) _ |>.setCell (p := ⟨G, 19 + p * 2 + 1, none⟩) (Nat.le_of_lt HGB.out) _ |>.setCell (p := ⟨G, 37, none⟩) (Nat.le_of_lt HGB.out) _
                          case measure => simp [intOf]; omega
                        · have hyb : (yy != 0) = true := by simp [hy0]
                          have HSN : Hid (stepL S1 n1 ⟨2, ft⟩ = none) := by
                            show _ = _
                            rw [step_two HRv.out, HYY.out, if_neg hy0]
                          clear hy0
                          obtain ⟨L, q1, q2, q3, q4, q5, q6⟩ := HStop.out w9 HG9.out HZ9.out HB9.out (by rw [HFS.out, HFin.out, HDr.out, walk_none _ HSN.out])
                          have HQ : Hid (w9.rangeAt G 0 L ∧ (Try.prog.info? 82).map (·.size) = some L.length ∧ L.toArray.all (·.oneCell') = true ∧ w9.there B 0 L.toArray.size ∧ (Try.prog.info? 82).map (·.size) = some L.toArray.size) := ⟨q1, by rw [q2]; exact infoLg, all_oneCell_toArray q3, by rw [List.size_toArray, q2]; exact q4, by rw [List.size_toArray, q2]; exact infoLg⟩
                          have HQ2 : Hid (LgAt (w9.setCells B 0 L) B L ∧ L.length = 38 ∧ ReadIs s.data.toList w (.returned (.tuple #[.agg L.toArray, .int .i64 0])) (w9.setCells B 0 L)) := ⟨q5, q2, q6⟩
                          clear q1 q2 q3 q4 q5 q6
                          go_wp2_with (first | refine wpList_load_mid rfl 82 _ rfl G 0 rfl L _ HQ.out.1 Try.underlying82 rfl HQ.out.2.1 ?_ | refine wpList_store_mid rfl 82 _ _ rfl B 0 L.toArray rfl rfl HQ.out.2.2.2.1 HQ.out.2.2.2.2 HQ.out.2.2.1 ?_)
                          exact bodyPost_ret (v := .tuple #[.agg L.toArray, .int .i64 0]) (HEnd.out _ _ _ HQ2.out.1 HQ2.out.2.1 rfl) rfl HQ2.out.2.2
                      · have HSN : Hid (stepL S1 n1 ⟨2, ft⟩ = none) := step_two_not (by rw [HRx.out none (dec_none hd)]; rfl)
                        clear hd
                        go_wp2_with fail
                        go_region
                        have hb8 : Below w7.heap.size w7 ((w7.alloc (.cells #[.int .i64 (p : Int), .int .i64 (q : Int), .slice none 0 0] 40)).drew) := ((Below.refl _ w7).alloc (Nat.le_refl _) _).drew
                        obtain ⟨w8, hw8⟩ : ∃ w8, ((w7.alloc (.cells #[.int .i64 (p : Int), .int .i64 (q : Int), .slice none 0 0] 40)).drew) = w8 := ⟨_, rfl⟩
                        rw [hw8] at hb8 ⊢
                        clear hw8
                        have HG8 : Hid (LgIs w8 G S1 (S1.good : Int) va vc xs) := HG7.out.below hb8
                        have HZ8 : Hid (LgAt w8 B zeroC) := HZ7.out.below hb8 HZ7.out.lt
                        have HY8 : Hid (FrsAt w8 G (some ⟨b2, o2, none⟩) fr) := HY7.out.below hb8 HY7.out.1
                        have HB8 : Hid (Below B w w8) := HB7.out.trans (hb8.mono (Nat.le_of_lt HZ7.out.lt))
                        have HX8 : Hid (FBox w8 h 2 ⟨ft.toArray⟩) := HX7.out.below hb8
                        clear hb8 hbl c0 c1 f0 f1 hhl
                        obtain ⟨L, q1, q2, q3, q4, q5, q6⟩ := HStop.out w8 HG8.out HZ8.out HB8.out (by rw [HFS.out, HFin.out, HDr.out, walk_none _ HSN.out])
                        have HQ : Hid (w8.rangeAt G 0 L ∧ (Try.prog.info? 82).map (·.size) = some L.length ∧ L.toArray.all (·.oneCell') = true ∧ w8.there B 0 L.toArray.size ∧ (Try.prog.info? 82).map (·.size) = some L.toArray.size) := ⟨q1, by rw [q2]; exact infoLg, all_oneCell_toArray q3, by rw [List.size_toArray, q2]; exact q4, by rw [List.size_toArray, q2]; exact infoLg⟩
                        have HQ2 : Hid (LgAt (w8.setCells B 0 L) B L ∧ L.length = 38 ∧ ReadIs s.data.toList w (.returned (.tuple #[.agg L.toArray, .int .i64 0])) (w8.setCells B 0 L)) := ⟨q5, q2, q6⟩
                        clear q1 q2 q3 q4 q5 q6
                        go_wp2_with (first | refine wpList_load_mid rfl 82 _ rfl G 0 rfl L _ HQ.out.1 Try.underlying82 rfl HQ.out.2.1 ?_ | refine wpList_store_mid rfl 82 _ _ rfl B 0 L.toArray rfl rfl HQ.out.2.2.2.1 HQ.out.2.2.2.2 HQ.out.2.2.1 ?_)
                        exact bodyPost_ret (v := .tuple #[.agg L.toArray, .int .i64 0]) (HEnd.out _ _ _ HQ2.out.1 HQ2.out.2.1 rfl) rfl HQ2.out.2.2
                    · have HSN : Hid (stepL S1 n1 ⟨2, ft⟩ = none) := step_two_not (by rw [revG, hx])
                      clear hx
                      obtain ⟨L, q1, q2, q3, q4, q5, q6⟩ := HStop.out w6 HG6.out HZ6.out HB6.out (by rw [HFS.out, HFin.out, HDr.out, walk_none _ HSN.out])
                      have HQ : Hid (w6.rangeAt G 0 L ∧ (Try.prog.info? 82).map (·.size) = some L.length ∧ L.toArray.all (·.oneCell') = true ∧ w6.there B 0 L.toArray.size ∧ (Try.prog.info? 82).map (·.size) = some L.toArray.size) := ⟨q1, by rw [q2]; exact infoLg, all_oneCell_toArray q3, by rw [List.size_toArray, q2]; exact q4, by rw [List.size_toArray, q2]; exact infoLg⟩
                      have HQ2 : Hid (LgAt (w6.setCells B 0 L) B L ∧ L.length = 38 ∧ ReadIs s.data.toList w (.returned (.tuple #[.agg L.toArray, .int .i64 0])) (w6.setCells B 0 L)) := ⟨q5, q2, q6⟩
                      clear q1 q2 q3 q4 q5 q6
                      go_wp2_with (first | refine wpList_load_mid rfl 82 _ rfl G 0 rfl L _ HQ.out.1 Try.underlying82 rfl HQ.out.2.1 ?_ | refine wpList_store_mid rfl 82 _ _ rfl B 0 L.toArray rfl rfl HQ.out.2.2.2.1 HQ.out.2.2.2.2 HQ.out.2.2.1 ?_)
                      exact bodyPost_ret (v := .tuple #[.agg L.toArray, .int .i64 0]) (HEnd.out _ _ _ HQ2.out.1 HQ2.out.2.1 rfl) rfl HQ2.out.2.2
                  · have hk2b : (fk != 2) = true := by simp [hk2]
                    obtain ⟨⟨c1b, c35, c36, c37⟩, f35, f36, f37⟩ := HG5.out.cells hF hT
                    have hgl5 := HG5.out.lt
                    by_cases h3 : fk = 3
                    · subst h3
                      by_cases h0 : ft = []
                      · subst h0
                        cases hw : S1.whole with
                        | false =>
                          rw [hw] at c36
                          have HSY : Hid (stepL S1 n1 ⟨3, []⟩ = some ({ S1 with whole := true, good := S1.good + 7 }, n1)) := step_three hw
                          have hgd4 := HOK.out.good
                          have hr64 := HOK.out.revs
                          rw [hw] at hgd4
                          have hgg : ((S1.good : Int) + 7) = ((S1.good + 7 : Nat) : Int) := by omega
                          have HGG : Hid (((S1.good : Int) + 7) = ((S1.good + 7 : Nat) : Int)) := hgg
                          have hg31 : S1.good ≤ 2147483647 := by simp at hgd4; omega
                          clear hgg hgd4 hr64
                          go_wp2_with fail
                          go_roundw
                          case rel =>
                            have h2 := HG5.out.whole hF hT ((S1.good : Int) + 7)
                            rw [HGG.out] at h2
                            first | rw [HGG.out] | skip
                            refine ⟨j + 1, { S1 with whole := true, good := S1.good + 7 }, n1, va, vc, xs, by omega, by go_num, by rw [HTX.out.1], h2, lstep_ok HOK.out (f := ⟨3, []⟩) hft HSY.out, ?_, (HY5.out.below (((Below.refl G w5).setCell (p := ⟨G, 36, none⟩) (Nat.le_refl _) _).setCell (p := ⟨G, 37, none⟩) (Nat.le_refl _) _) (Nat.le_refl _)), (HZ5.out.other _ (Nat.ne_of_lt HGB.out)).other _ (Nat.ne_of_lt HGB.out), (HB5.out.setCell (p := ⟨G, 36, none⟩) (Nat.le_of_lt HGB.out) _).setCell (p := ⟨G, 37, none⟩) (Nat.le_of_lt HGB.out) _⟩
                            rw [HFin.out, HDr.out, walk_some _ HSY.out]
                          case measure => simp [intOf]; omega
                        | true =>
                          rw [hw] at c36
                          have HSN : Hid (stepL S1 n1 ⟨3, []⟩ = none) := step_no (by decide) (by rw [hw]; simp)
                          clear hw
                          go_wp2_with fail
                          with_reducible refine (HSo.out _).mono ?_
                          rintro e w6 ⟨hcase, hb6⟩
                          have HG6 : Hid (LgIs w6 G S1 (S1.good : Int) va vc xs) := HG5.out.below hb6
                          have HZ6 : Hid (LgAt w6 B zeroC) := HZ5.out.below hb6 HZ5.out.lt
                          have HY6 : Hid (FrsAt w6 G (some ⟨b2, o2, none⟩) fr) := HY5.out.below hb6 HY5.out.1
                          have HB6 : Hid (Below B w w6) := HB5.out.trans (hb6.mono (Nat.le_of_lt HZ5.out.lt))
                          have HX6 : Hid (FBox w6 h 3 ⟨#[]⟩) := HX5.out.below hb6
                          clear hb6 f0 f1 hhl c1b c35 c36 c37 f35 f36 f37 hgl5
                          obtain ⟨f0, f1, hhl⟩ := HX6.out
                          rcases hcase with ⟨x, rr, a, c, hx, rfl, hown⟩ | ⟨hx, rfl⟩
                          · clear hx hown
                            obtain ⟨L, q1, q2, q3, q4, q5, q6⟩ := HStop.out w6 HG6.out HZ6.out HB6.out (by rw [HFS.out, HFin.out, HDr.out, walk_none _ HSN.out])
                            have HQ : Hid (w6.rangeAt G 0 L ∧ (Try.prog.info? 82).map (·.size) = some L.length ∧ L.toArray.all (·.oneCell') = true ∧ w6.there B 0 L.toArray.size ∧ (Try.prog.info? 82).map (·.size) = some L.toArray.size) := ⟨q1, by rw [q2]; exact infoLg, all_oneCell_toArray q3, by rw [List.size_toArray, q2]; exact q4, by rw [List.size_toArray, q2]; exact infoLg⟩
                            have HQ2 : Hid (LgAt (w6.setCells B 0 L) B L ∧ L.length = 38 ∧ ReadIs s.data.toList w (.returned (.tuple #[.agg L.toArray, .int .i64 0])) (w6.setCells B 0 L)) := ⟨q5, q2, q6⟩
                            clear q1 q2 q3 q4 q5 q6
                            go_wp2_with (first | refine wpList_load_mid rfl 82 _ rfl G 0 rfl L _ HQ.out.1 Try.underlying82 rfl HQ.out.2.1 ?_ | refine wpList_store_mid rfl 82 _ _ rfl B 0 L.toArray rfl rfl HQ.out.2.2.2.1 HQ.out.2.2.2.2 HQ.out.2.2.1 ?_)
                            exact bodyPost_ret (v := .tuple #[.agg L.toArray, .int .i64 0]) (HEnd.out _ _ _ HQ2.out.1 HQ2.out.2.1 rfl) rfl HQ2.out.2.2
                          · clear hx
                            obtain ⟨L, q1, q2, q3, q4, q5, q6⟩ := HStop.out w6 HG6.out HZ6.out HB6.out (by rw [HFS.out, HFin.out, HDr.out, walk_none _ HSN.out])
                            have HQ : Hid (w6.rangeAt G 0 L ∧ (Try.prog.info? 82).map (·.size) = some L.length ∧ L.toArray.all (·.oneCell') = true ∧ w6.there B 0 L.toArray.size ∧ (Try.prog.info? 82).map (·.size) = some L.toArray.size) := ⟨q1, by rw [q2]; exact infoLg, all_oneCell_toArray q3, by rw [List.size_toArray, q2]; exact q4, by rw [List.size_toArray, q2]; exact infoLg⟩
                            have HQ2 : Hid (LgAt (w6.setCells B 0 L) B L ∧ L.length = 38 ∧ ReadIs s.data.toList w (.returned (.tuple #[.agg L.toArray, .int .i64 0])) (w6.setCells B 0 L)) := ⟨q5, q2, q6⟩
                            clear q1 q2 q3 q4 q5 q6
                            go_wp2_with (first | refine wpList_load_mid rfl 82 _ rfl G 0 rfl L _ HQ.out.1 Try.underlying82 rfl HQ.out.2.1 ?_ | refine wpList_store_mid rfl 82 _ _ rfl B 0 L.toArray rfl rfl HQ.out.2.2.2.1 HQ.out.2.2.2.2 HQ.out.2.2.1 ?_)
                            exact bodyPost_ret (v := .tuple #[.agg L.toArray, .int .i64 0]) (HEnd.out _ _ _ HQ2.out.1 HQ2.out.2.1 rfl) rfl HQ2.out.2.2
                      · have hst : ¬ (⟨ft.toArray⟩ : ByteArray).toList = [] := by
                          rw [toList_nil]
                          intro e
                          have e2 : ft.toArray.size = 0 := e
                          rw [List.size_toArray] at e2
                          exact h0 (List.length_eq_zero_iff.1 e2)
                        have hsn : ¬ (⟨ft.toArray⟩ : ByteArray) = ⟨#[]⟩ := by
                          intro e
                          have e2 : ft.toArray = #[] := congrArg ByteArray.data e
                          exact h0 (by simpa using e2)
                        have HSN : Hid (stepL S1 n1 ⟨3, ft⟩ = none) := step_no (by decide) (fun e => h0 e.2.1)
                        go_wp2_with fail
                        with_reducible refine (HSo.out _).mono ?_
                        rintro e w6 ⟨hcase, hb6⟩
                        have HG6 : Hid (LgIs w6 G S1 (S1.good : Int) va vc xs) := HG5.out.below hb6
                        have HZ6 : Hid (LgAt w6 B zeroC) := HZ5.out.below hb6 HZ5.out.lt
                        have HY6 : Hid (FrsAt w6 G (some ⟨b2, o2, none⟩) fr) := HY5.out.below hb6 HY5.out.1
                        have HB6 : Hid (Below B w w6) := HB5.out.trans (hb6.mono (Nat.le_of_lt HZ5.out.lt))
                        have HX6 : Hid (FBox w6 h 3 ⟨ft.toArray⟩) := HX5.out.below hb6
                        clear hb6 f0 f1 hhl c1b c35 c36 c37 f35 f36 f37 hgl5
                        obtain ⟨f0, f1, hhl⟩ := HX6.out
                        rcases hcase with ⟨x, rr, a, c, hx, rfl, hown⟩ | ⟨hx, rfl⟩
                        · clear hx hown
                          obtain ⟨L, q1, q2, q3, q4, q5, q6⟩ := HStop.out w6 HG6.out HZ6.out HB6.out (by rw [HFS.out, HFin.out, HDr.out, walk_none _ HSN.out])
                          have HQ : Hid (w6.rangeAt G 0 L ∧ (Try.prog.info? 82).map (·.size) = some L.length ∧ L.toArray.all (·.oneCell') = true ∧ w6.there B 0 L.toArray.size ∧ (Try.prog.info? 82).map (·.size) = some L.toArray.size) := ⟨q1, by rw [q2]; exact infoLg, all_oneCell_toArray q3, by rw [List.size_toArray, q2]; exact q4, by rw [List.size_toArray, q2]; exact infoLg⟩
                          have HQ2 : Hid (LgAt (w6.setCells B 0 L) B L ∧ L.length = 38 ∧ ReadIs s.data.toList w (.returned (.tuple #[.agg L.toArray, .int .i64 0])) (w6.setCells B 0 L)) := ⟨q5, q2, q6⟩
                          clear q1 q2 q3 q4 q5 q6
                          go_wp2_with (first | refine wpList_load_mid rfl 82 _ rfl G 0 rfl L _ HQ.out.1 Try.underlying82 rfl HQ.out.2.1 ?_ | refine wpList_store_mid rfl 82 _ _ rfl B 0 L.toArray rfl rfl HQ.out.2.2.2.1 HQ.out.2.2.2.2 HQ.out.2.2.1 ?_)
                          exact bodyPost_ret (v := .tuple #[.agg L.toArray, .int .i64 0]) (HEnd.out _ _ _ HQ2.out.1 HQ2.out.2.1 rfl) rfl HQ2.out.2.2
                        · clear hx
                          obtain ⟨L, q1, q2, q3, q4, q5, q6⟩ := HStop.out w6 HG6.out HZ6.out HB6.out (by rw [HFS.out, HFin.out, HDr.out, walk_none _ HSN.out])
                          have HQ : Hid (w6.rangeAt G 0 L ∧ (Try.prog.info? 82).map (·.size) = some L.length ∧ L.toArray.all (·.oneCell') = true ∧ w6.there B 0 L.toArray.size ∧ (Try.prog.info? 82).map (·.size) = some L.toArray.size) := ⟨q1, by rw [q2]; exact infoLg, all_oneCell_toArray q3, by rw [List.size_toArray, q2]; exact q4, by rw [List.size_toArray, q2]; exact infoLg⟩
                          have HQ2 : Hid (LgAt (w6.setCells B 0 L) B L ∧ L.length = 38 ∧ ReadIs s.data.toList w (.returned (.tuple #[.agg L.toArray, .int .i64 0])) (w6.setCells B 0 L)) := ⟨q5, q2, q6⟩
                          clear q1 q2 q3 q4 q5 q6
                          go_wp2_with (first | refine wpList_load_mid rfl 82 _ rfl G 0 rfl L _ HQ.out.1 Try.underlying82 rfl HQ.out.2.1 ?_ | refine wpList_store_mid rfl 82 _ _ rfl B 0 L.toArray rfl rfl HQ.out.2.2.2.1 HQ.out.2.2.2.2 HQ.out.2.2.1 ?_)
                          exact bodyPost_ret (v := .tuple #[.agg L.toArray, .int .i64 0]) (HEnd.out _ _ _ HQ2.out.1 HQ2.out.2.1 rfl) rfl HQ2.out.2.2
                    · have h3b : (fk == 3) = false := by simp [h3]
                      have HSN : Hid (stepL S1 n1 ⟨fk, ft⟩ = none) := step_no hk2 (fun e => h3 e.1)
                      clear h3 hk2
                      go_wp2_with fail
                      with_reducible refine (HSo.out _).mono ?_
                      rintro e w6 ⟨hcase, hb6⟩
                      have HG6 : Hid (LgIs w6 G S1 (S1.good : Int) va vc xs) := HG5.out.below hb6
                      have HZ6 : Hid (LgAt w6 B zeroC) := HZ5.out.below hb6 HZ5.out.lt
                      have HY6 : Hid (FrsAt w6 G (some ⟨b2, o2, none⟩) fr) := HY5.out.below hb6 HY5.out.1
                      have HB6 : Hid (Below B w w6) := HB5.out.trans (hb6.mono (Nat.le_of_lt HZ5.out.lt))
                      have HX6 : Hid (FBox w6 h fk ⟨ft.toArray⟩) := HX5.out.below hb6
                      clear hb6 f0 f1 hhl c1b c35 c36 c37 f35 f36 f37 hgl5
                      obtain ⟨f0, f1, hhl⟩ := HX6.out
                      rcases hcase with ⟨x, rr, a, c, hx, rfl, hown⟩ | ⟨hx, rfl⟩
                      · clear hx hown
                        obtain ⟨L, q1, q2, q3, q4, q5, q6⟩ := HStop.out w6 HG6.out HZ6.out HB6.out (by rw [HFS.out, HFin.out, HDr.out, walk_none _ HSN.out])
                        have HQ : Hid (w6.rangeAt G 0 L ∧ (Try.prog.info? 82).map (·.size) = some L.length ∧ L.toArray.all (·.oneCell') = true ∧ w6.there B 0 L.toArray.size ∧ (Try.prog.info? 82).map (·.size) = some L.toArray.size) := ⟨q1, by rw [q2]; exact infoLg, all_oneCell_toArray q3, by rw [List.size_toArray, q2]; exact q4, by rw [List.size_toArray, q2]; exact infoLg⟩
                        have HQ2 : Hid (LgAt (w6.setCells B 0 L) B L ∧ L.length = 38 ∧ ReadIs s.data.toList w (.returned (.tuple #[.agg L.toArray, .int .i64 0])) (w6.setCells B 0 L)) := ⟨q5, q2, q6⟩
                        clear q1 q2 q3 q4 q5 q6
                        go_wp2_with (first | refine wpList_load_mid rfl 82 _ rfl G 0 rfl L _ HQ.out.1 Try.underlying82 rfl HQ.out.2.1 ?_ | refine wpList_store_mid rfl 82 _ _ rfl B 0 L.toArray rfl rfl HQ.out.2.2.2.1 HQ.out.2.2.2.2 HQ.out.2.2.1 ?_)
                        exact bodyPost_ret (v := .tuple #[.agg L.toArray, .int .i64 0]) (HEnd.out _ _ _ HQ2.out.1 HQ2.out.2.1 rfl) rfl HQ2.out.2.2
                      · clear hx
                        obtain ⟨L, q1, q2, q3, q4, q5, q6⟩ := HStop.out w6 HG6.out HZ6.out HB6.out (by rw [HFS.out, HFin.out, HDr.out, walk_none _ HSN.out])
                        have HQ : Hid (w6.rangeAt G 0 L ∧ (Try.prog.info? 82).map (·.size) = some L.length ∧ L.toArray.all (·.oneCell') = true ∧ w6.there B 0 L.toArray.size ∧ (Try.prog.info? 82).map (·.size) = some L.toArray.size) := ⟨q1, by rw [q2]; exact infoLg, all_oneCell_toArray q3, by rw [List.size_toArray, q2]; exact q4, by rw [List.size_toArray, q2]; exact infoLg⟩
                        have HQ2 : Hid (LgAt (w6.setCells B 0 L) B L ∧ L.length = 38 ∧ ReadIs s.data.toList w (.returned (.tuple #[.agg L.toArray, .int .i64 0])) (w6.setCells B 0 L)) := ⟨q5, q2, q6⟩
                        clear q1 q2 q3 q4 q5 q6
                        go_wp2_with (first | refine wpList_load_mid rfl 82 _ rfl G 0 rfl L _ HQ.out.1 Try.underlying82 rfl HQ.out.2.1 ?_ | refine wpList_store_mid rfl 82 _ _ rfl B 0 L.toArray rfl rfl HQ.out.2.2.2.1 HQ.out.2.2.2.2 HQ.out.2.2.1 ?_)
                        exact bodyPost_ret (v := .tuple #[.agg L.toArray, .int .i64 0]) (HEnd.out _ _ _ HQ2.out.1 HQ2.out.2.1 rfl) rfl HQ2.out.2.2
                · have HDr : Hid (fr.drop j = []) := List.drop_eq_nil_of_le (by rw [HN2.out]; omega)
                  have hji : ¬ (j : Int) < (n2 : Int) := by omega
                  obtain ⟨L, q1, q2, q3, q4, q5, q6⟩ := HStop.out wr HG.out HZ.out HB.out (by rw [HFS.out, HFin.out, HDr.out]; rfl)
                  have HQ : Hid (wr.rangeAt G 0 L ∧ (Try.prog.info? 82).map (·.size) = some L.length ∧ L.toArray.all (·.oneCell') = true ∧ wr.there B 0 L.toArray.size ∧ (Try.prog.info? 82).map (·.size) = some L.toArray.size) := ⟨q1, by rw [q2]; exact infoLg, all_oneCell_toArray q3, by rw [List.size_toArray, q2]; exact q4, by rw [List.size_toArray, q2]; exact infoLg⟩
                  have HQ2 : Hid (LgAt (wr.setCells B 0 L) B L ∧ L.length = 38 ∧ ReadIs s.data.toList w (.returned (.tuple #[.agg L.toArray, .int .i64 0])) (wr.setCells B 0 L)) := ⟨q5, q2, q6⟩
                  clear q1 q2 q3 q4 q5 q6
                  go_wp2_with (first | refine wpList_load_mid rfl 82 _ rfl G 0 rfl L _ HQ.out.1 Try.underlying82 rfl HQ.out.2.1 ?_ | refine wpList_store_mid rfl 82 _ _ rfl B 0 L.toArray rfl rfl HQ.out.2.2.2.1 HQ.out.2.2.2.2 HQ.out.2.2.1 ?_)
                  exact bodyPost_ret (v := .tuple #[.agg L.toArray, .int .i64 0]) (HEnd.out _ _ _ HQ2.out.1 HQ2.out.2.1 rfl) rfl HQ2.out.2.2
        · have h5i : (500 : Int) < (r.length : Int) := by omega
          have HNE : Hid (logE (scanL l).1 = 3) := HNo.out (by
            rw [hdL, if_pos rfl, HX.out]
            simp only
            rw [if_neg h5])
          clear h5
          have HTe : Hid (_ : Prop) := HL2.out.there (o := 0) (n := (#[.int .i64 0, .int .i64 0, .string ⟨#[]⟩, .int .i64 0, .int .i64 0, .int .i64 0, .int .i64 0, .int .i64 0, .int .i64 0, .int .i64 0, .int .i64 0, .int .i64 0, .int .i64 0, .int .i64 0, .int .i64 0, .int .i64 0, .int .i64 0, .int .i64 0, .int .i64 0, .int .i64 0, .int .i64 0, .int .i64 0, .int .i64 0, .int .i64 0, .int .i64 0, .int .i64 0, .int .i64 0, .int .i64 0, .int .i64 0, .int .i64 0, .int .i64 0, .int .i64 0, .int .i64 0, .int .i64 0, .int .i64 0, .slice none 0 0, .bool false, .int .i64 0] : Array Value).size) (by rw [zeroC_len]; decide)
          go_wp2_with (refine wpList_store_mid rfl 82 _ _ rfl B 0 _ rfl rfl HTe.out (by exact infoLg) (by simp [Value.oneCell']) ?_)
          refine bodyPost_ret (v := .tuple #[.agg zeroC.toArray, .int .i64 3]) (HEnd.out _ _ _ (zero_puts HL2.out) zeroC_len rfl) rfl (HP.out _ _ ⟨.inr ⟨by rw [HNE.out]; decide, by rw [HNE.out]⟩, ?_⟩)
          rw [HW.out]
          exact below_cells (Nat.le_refl _) _ _ _ HB2.out
      · have HNE : Hid (logE (scanL l).1 = 3) := HNo.out (by rw [hdL, if_pos rfl, hx])
        clear hx
        have HTe : Hid (_ : Prop) := HL2.out.there (o := 0) (n := (#[.int .i64 0, .int .i64 0, .string ⟨#[]⟩, .int .i64 0, .int .i64 0, .int .i64 0, .int .i64 0, .int .i64 0, .int .i64 0, .int .i64 0, .int .i64 0, .int .i64 0, .int .i64 0, .int .i64 0, .int .i64 0, .int .i64 0, .int .i64 0, .int .i64 0, .int .i64 0, .int .i64 0, .int .i64 0, .int .i64 0, .int .i64 0, .int .i64 0, .int .i64 0, .int .i64 0, .int .i64 0, .int .i64 0, .int .i64 0, .int .i64 0, .int .i64 0, .int .i64 0, .int .i64 0, .int .i64 0, .int .i64 0, .slice none 0 0, .bool false, .int .i64 0] : Array Value).size) (by rw [zeroC_len]; decide)
        go_wp2_with (refine wpList_store_mid rfl 82 _ _ rfl B 0 _ rfl rfl HTe.out (by exact infoLg) (by simp [Value.oneCell']) ?_)
        refine bodyPost_ret (v := .tuple #[.agg zeroC.toArray, .int .i64 3]) (HEnd.out _ _ _ (zero_puts HL2.out) zeroC_len rfl) rfl (HP.out _ _ ⟨.inr ⟨by rw [HNE.out]; decide, by rw [HNE.out]⟩, ?_⟩)
        rw [HW.out]
        exact below_cells (Nat.le_refl _) _ _ _ HB2.out
    · have hk' : (kk != 1) = true := by simp [hk1]
      have HNE : Hid (logE (scanL l).1 = 3) := HNo.out (by rw [hdL, if_neg hk1])
      clear hk1
      rcases hcase with ⟨x, r, a, c, hx, rfl, hown⟩ | ⟨hx, rfl⟩
      · clear hx hown
        have HTe : Hid (_ : Prop) := HL2.out.there (o := 0) (n := (#[.int .i64 0, .int .i64 0, .string ⟨#[]⟩, .int .i64 0, .int .i64 0, .int .i64 0, .int .i64 0, .int .i64 0, .int .i64 0, .int .i64 0, .int .i64 0, .int .i64 0, .int .i64 0, .int .i64 0, .int .i64 0, .int .i64 0, .int .i64 0, .int .i64 0, .int .i64 0, .int .i64 0, .int .i64 0, .int .i64 0, .int .i64 0, .int .i64 0, .int .i64 0, .int .i64 0, .int .i64 0, .int .i64 0, .int .i64 0, .int .i64 0, .int .i64 0, .int .i64 0, .int .i64 0, .int .i64 0, .int .i64 0, .slice none 0 0, .bool false, .int .i64 0] : Array Value).size) (by rw [zeroC_len]; decide)
        go_wp2_with (refine wpList_store_mid rfl 82 _ _ rfl B 0 _ rfl rfl HTe.out (by exact infoLg) (by simp [Value.oneCell']) ?_)
        refine bodyPost_ret (v := .tuple #[.agg zeroC.toArray, .int .i64 3]) (HEnd.out _ _ _ (zero_puts HL2.out) zeroC_len rfl) rfl (HP.out _ _ ⟨.inr ⟨by rw [HNE.out]; decide, by rw [HNE.out]⟩, ?_⟩)
        rw [HW.out]
        exact below_cells (Nat.le_refl _) _ _ _ HB2.out
      · clear hx
        have HTe : Hid (_ : Prop) := HL2.out.there (o := 0) (n := (#[.int .i64 0, .int .i64 0, .string ⟨#[]⟩, .int .i64 0, .int .i64 0, .int .i64 0, .int .i64 0, .int .i64 0, .int .i64 0, .int .i64 0, .int .i64 0, .int .i64 0, .int .i64 0, .int .i64 0, .int .i64 0, .int .i64 0, .int .i64 0, .int .i64 0, .int .i64 0, .int .i64 0, .int .i64 0, .int .i64 0, .int .i64 0, .int .i64 0, .int .i64 0, .int .i64 0, .int .i64 0, .int .i64 0, .int .i64 0, .int .i64 0, .int .i64 0, .int .i64 0, .int .i64 0, .int .i64 0, .int .i64 0, .slice none 0 0, .bool false, .int .i64 0] : Array Value).size) (by rw [zeroC_len]; decide)
        go_wp2_with (refine wpList_store_mid rfl 82 _ _ rfl B 0 _ rfl rfl HTe.out (by exact infoLg) (by simp [Value.oneCell']) ?_)
        refine bodyPost_ret (v := .tuple #[.agg zeroC.toArray, .int .i64 3]) (HEnd.out _ _ _ (zero_puts HL2.out) zeroC_len rfl) rfl (HP.out _ _ ⟨.inr ⟨by rw [HNE.out]; decide, by rw [HNE.out]⟩, ?_⟩)
        rw [HW.out]
        exact below_cells (Nat.le_refl _) _ _ _ HB2.out

end Go.Proofs.Ytgffippimmokiaa
