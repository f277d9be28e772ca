/- What hot's takeRev does. -/
import Derived.Test.YtgffippimmokiaaHotMem
import Derived.Test.YtgffippimmokiaaLogMem
import Derived.Deep.RegionHeld3
import Derived.Deep.AppendLies
import Derived.BigQuiet
import Derived.BigRegion
namespace Go.Proofs.Ytgffippimmokiaa
open Go.RowKit
set_option linter.unusedSimpArgs false
set_option linter.unusedVariables false

theorem rd_held {w w' : World} {g h : Nat} {L : List Value} {n : Int} {r : Rv} {a : Option Addr} {c : Nat} (hl : RdAt w g (L ++ [.int .i64 n])) (hL : L.length = 38) (hr : RBox w h r a c) (hb : Below w.heap.size w w') :
    w'.rangeAt g 0 L ∧ w'.cell? ⟨g, 38, none⟩ = some (.int .i64 n) ∧ w'.cell? ⟨h, 0, none⟩ = some (.int .i64 r.who) ∧ w'.cell? ⟨h, 1, none⟩ = some (.int .i64 r.seq) ∧ w'.cell? ⟨h, 2, none⟩ = some (.slice a r.d.length c) := by
  obtain ⟨r0, r1, r2, _⟩ := hr.below hb
  have h2 := hl.below hb hl.lt
  exact ⟨h2.range [] L [.int .i64 n] rfl, h2.cell (by rw [← hL, List.getElem?_append_right (Nat.le_refl _), Nat.sub_self]; rfl), r0, r1, r2⟩

theorem stands_rd {w w' : World} {row : Option Nat} {k : Nat} {o : Obj} (hg : w.grownBy w' row) (hk : w.heap[k]? = some o) (hr : row ≠ some k) : w'.heap[k]? = some o := by
  obtain ⟨hl, _⟩ := Array.getElem?_eq_some_iff.1 hk
  exact (hg.block k hl (fun e => hr e.symm)).trans hk
theorem rd_grown {w3 w4 : World} {g h gg cap : Nat} {S : Lg} {v : Value} {gd n : Int} {r : Rv} {a : Option Addr} {c : Nat} {xs : List (Rv × Option Addr × Nat)} (hF : S.first.length = 16) (hT : S.table.length = 16)
    (hd : RdAt w3 g (rdC S v gd n)) (hx : RBox w3 h r a c) (hz : RzsOwn w3 (g + 1) v xs) (ho : RzOwn w3 (g + 1) (r, a, c)) (hne : v.ownBlock ≠ some h) (hgh : g < h)
    (hown : w4.ownsRow (g + 1) 40 3 (.slice (some ⟨gg, 0, none⟩) (xs.length + 1) cap) (xs.length + 1) (rvAll xs ++ [.int .i64 r.who, .int .i64 r.seq, .slice a r.d.length c]))
    (hg : (w3.alloc (.cells #[.int .i64 r.who, .int .i64 r.seq, .slice a r.d.length c] 40)).drew.grownBy w4 v.ownBlock) :
    RdAt (w4.setCell ⟨g, 35, none⟩ (.slice (some ⟨gg, 0, none⟩) (xs.length + 1) cap)) g (rdC S (.slice (some ⟨gg, 0, none⟩) (xs.length + 1) cap) gd n) ∧ RBox (w4.setCell ⟨g, 35, none⟩ (.slice (some ⟨gg, 0, none⟩) (xs.length + 1) cap)) h r a c ∧
    RzsOwn (w4.setCell ⟨g, 35, none⟩ (.slice (some ⟨gg, 0, none⟩) (xs.length + 1) cap)) (g + 1) (.slice (some ⟨gg, 0, none⟩) (xs.length + 1) cap) (xs ++ [(r, a, c)]) ∧ Below g w3 (w4.setCell ⟨g, 35, none⟩ (.slice (some ⟨gg, 0, none⟩) (xs.length + 1) cap)) := by
  have hbW : Below w3.heap.size w3 (w3.alloc (.cells #[.int .i64 r.who, .int .i64 r.seq, .slice a r.d.length c] 40)).drew := ((Below.refl _ w3).alloc (Nat.le_refl _) _).drew
  have hzW := hz.below hbW
  have hoW := ho.below hbW
  have hdW := hd.below hbW hd.lt
  have hneg : v.ownBlock ≠ some g := by
    intro e
    have := (hz.2.lt g e).1
    omega
  have hd4 : RdAt w4 g (rdC S v gd n) := stands_rd hg hdW hneg
  have e : (rdC S v gd n).set 35 (.slice (some ⟨gg, 0, none⟩) (xs.length + 1) cap) = rdC S (.slice (some ⟨gg, 0, none⟩) (xs.length + 1) cap) gd n := (lg_set hF hT [.int .i64 n]).1 _
  have hd5 := hd4.put 35 (.slice (some ⟨gg, 0, none⟩) (xs.length + 1) cap)
  rw [e] at hd5
  obtain ⟨x0, x1, x2, x3⟩ := hx.below hbW
  have hgl := hdW.lt
  have o5 := heap_setCell_other w4 ⟨g, 35, none⟩ h (.slice (some ⟨gg, 0, none⟩) (xs.length + 1) cap) (by show h ≠ g; omega)
  have hlW : w3.heap.size ≤ (w3.alloc (.cells #[.int .i64 r.who, .int .i64 r.seq, .slice a r.d.length c] 40)).drew.heap.size := hbW.size
  have far : ∀ i, w4.cell? ⟨h, i, none⟩ = (w3.alloc (.cells #[.int .i64 r.who, .int .i64 r.seq, .slice a r.d.length c] 40)).drew.cell? ⟨h, i, none⟩ := fun i => hg.cell_far ⟨h, i, none⟩ x3 (Ne.symm hne)
  have hsz : (w3.alloc (.cells #[.int .i64 r.who, .int .i64 r.seq, .slice a r.d.length c] 40)).drew.heap.size ≤ w4.heap.size := hg.size
  refine ⟨hd5, ⟨?_, ?_, ?_, ?_⟩, ⟨?_, ?_⟩, ?_⟩
  · rw [World.cell?_of_block o5, far]; exact x0
  · rw [World.cell?_of_block o5, far]; exact x1
  · rw [World.cell?_of_block o5, far]; exact x2
  · have h7 : (w4.setCell ⟨g, 35, none⟩ (.slice (some ⟨gg, 0, none⟩) (xs.length + 1) cap)).heap.size = w4.heap.size := Deep.nblk_setCell _ _ _
    omega
  · intro x hx
    rcases List.mem_append.1 hx with hx | hx
    · exact ((hzW.1 x hx).grown hzW.2 hg).put (Nat.lt_succ_self g) _
    · rw [List.mem_singleton.1 hx]
      exact (hoW.grown hzW.2 hg).put (Nat.lt_succ_self g) _
  · have h := own_put hown (p := ⟨g, 35, none⟩) (Nat.lt_succ_self g) (.slice (some ⟨gg, 0, none⟩) (xs.length + 1) cap)
    have e2 : rvAll (xs ++ [(r, a, c)]) = rvAll xs ++ [.int .i64 r.who, .int .i64 r.seq, .slice a r.d.length c] := by rw [rvAll_app]; rfl
    rw [e2, List.length_append, List.length_singleton]
    exact h
  · exact (below_own' (hbW.mono (Nat.le_of_lt hd.lt)) (rz_base hzW.2 (Nat.le_succ g)) hg (by omega)).setCell (p := ⟨g, 35, none⟩) (Nat.le_refl _) _
theorem rd_tabbed {w : World} {g h k : Nat} {S : Lg} {v : Value} {gd n m : Int} {r : Rv} {a : Option Addr} {c : Nat} {xs : List (Rv × Option Addr × Nat)} {l : List Rv} (hF : S.first.length = 16) (hT : S.table.length = 16)
    (hd : RdAt w g (rdC S v gd n)) (hx : RBox w h r a c) (hz : RzsOwn w (g + 1) v xs) (hgh : g < h) (hk : r.who = (k : Int)) (hk7 : k ≤ 7) :
    RdAt ((w.setCell ⟨g, 19 + k * 2, none⟩ (.int .i64 r.seq)).setCell ⟨g, 19 + k * 2 + 1, none⟩ (.int .i64 m)).drew g (rdC { S with table := tabPut S.table r.who r.seq m, revs := l } v gd n) ∧ RBox ((w.setCell ⟨g, 19 + k * 2, none⟩ (.int .i64 r.seq)).setCell ⟨g, 19 + k * 2 + 1, none⟩ (.int .i64 m)).drew h r a c ∧
    RzsOwn ((w.setCell ⟨g, 19 + k * 2, none⟩ (.int .i64 r.seq)).setCell ⟨g, 19 + k * 2 + 1, none⟩ (.int .i64 m)).drew (g + 1) v xs ∧ Below g w ((w.setCell ⟨g, 19 + k * 2, none⟩ (.int .i64 r.seq)).setCell ⟨g, 19 + k * 2 + 1, none⟩ (.int .i64 m)).drew := by
  have h1 := (hd.put (19 + k * 2) (.int .i64 r.seq)).put (19 + k * 2 + 1) (.int .i64 m)
  have e1 : (rdC S v gd n).set (19 + k * 2) (.int .i64 r.seq) = rdC { S with table := S.table.set (k * 2) r.seq } v gd n := (lg_set hF hT [.int .i64 n]).2.2.2 (k * 2) r.seq (by omega)
  have e2 : (rdC { S with table := S.table.set (k * 2) r.seq } v gd n).set (19 + k * 2 + 1) (.int .i64 m) = rdC { S with table := (S.table.set (k * 2) r.seq).set (k * 2 + 1) m } v gd n := (lg_set hF (by rw [List.length_set]; exact hT) [.int .i64 n]).2.2.2 (k * 2 + 1) m (by omega)
  have e3 : tabPut S.table r.who r.seq m = (S.table.set (k * 2) r.seq).set (k * 2 + 1) m := by rw [tabPut, hk, Int.toNat_natCast, Nat.mul_comm 2 k]
  rw [e1, e2] at h1
  have o5 := heap_setCell_other w ⟨g, 19 + k * 2, none⟩ h (.int .i64 r.seq) (by show h ≠ g; omega)
  have o6 := heap_setCell_other (w.setCell ⟨g, 19 + k * 2, none⟩ (.int .i64 r.seq)) ⟨g, 19 + k * 2 + 1, none⟩ h (.int .i64 m) (by show h ≠ g; omega)
  have o7 := o6.trans o5
  obtain ⟨x0, x1, x2, x3⟩ := hx
  refine ⟨?_, ⟨?_, ?_, ?_, ?_⟩, (hz.put (p := ⟨g, 19 + k * 2, none⟩) (Nat.lt_succ_self g) _).put (p := ⟨g, 19 + k * 2 + 1, none⟩) (Nat.lt_succ_self g) _, (((Below.refl g w).setCell (p := ⟨g, 19 + k * 2, none⟩) (Nat.le_refl _) _).setCell (p := ⟨g, 19 + k * 2 + 1, none⟩) (Nat.le_refl _) _).drew⟩
  · rw [e3]; exact h1
  · exact (World.cell?_of_block o7).trans x0
  · exact (World.cell?_of_block o7).trans x1
  · exact (World.cell?_of_block o7).trans x2
  · have h7 : ((w.setCell ⟨g, 19 + k * 2, none⟩ (.int .i64 r.seq)).setCell ⟨g, 19 + k * 2 + 1, none⟩ (.int .i64 m)).heap.size = w.heap.size := (Deep.nblk_setCell _ _ _).trans (Deep.nblk_setCell _ _ _)
    show h < ((w.setCell ⟨g, 19 + k * 2, none⟩ (.int .i64 r.seq)).setCell ⟨g, 19 + k * 2 + 1, none⟩ (.int .i64 m)).heap.size
    omega
theorem rd_sized {w : World} {g : Nat} {S : Lg} {v : Value} {gd n : Int} (m : Int) (hF : S.first.length = 16) (hT : S.table.length = 16) (hd : RdAt w g (rdC S v gd n)) : RdAt (w.setCell ⟨g, 38, none⟩ (.int .i64 m)) g (rdC S v gd m) := by
  have h := hd.put 38 (.int .i64 m)
  have e : (rdC S v gd n).set 38 (.int .i64 m) = rdC S v gd m := by
    have e0 := sC_len (v := v) (gd := gd) hF hT
    rw [rdC, rdC, List.set_append_right _ _ (by omega), e0]; rfl
  rw [e] at h
  exact h

set_option maxRecDepth 100000 in
set_option maxHeartbeats 8000000 in
theorem takeRev_any (S : Lg) (gd n : Int) (s : ByteArray) (g : Nat) (w : World) (hs : s.size ≤ 9223372036854775807) (h : RdIs w g S gd n) (ok : LOk S n) :
    Calls Try.prog 128 #[.pointer (some ⟨g, 0, none⟩), .string s] w fun e w' => TookIs S gd n ⟨2, s.data.toList⟩ g w e w' := by
  have HR0 : Hid (RdIs w g S gd n) := h
  have HK : Hid (LOk S n) := ok
  have hgl := h.lt
  have HRd : Hid _ := fun w => readRev_any s w hs
  clear h ok
  go_enter Try.func128, Try.ntmps128
  go_wp2_with fail
  with_reducible refine (HRd.out _).mono ?_
  rintro e w1 ⟨hcase, hb1⟩
  have HR1 : Hid (RdIs w1 g S gd n) := HR0.out.below hb1
  have HB1 : Hid (Below g w w1) := hb1.mono (Nat.le_of_lt hgl)
  have hz1 := hb1.size
  rcases hcase with ⟨r, a, c, B, hr, rfl, hB, hown, hparts⟩ | ⟨hr, q, hq, rfl⟩
  · have HO1 : Hid (w1.ownsRow (g + 1) 138 3 (.slice a r.d.length c) r.d.length (allCells r.d)) := rz_base hown (by omega)
    have HP1 : Hid (PartsAt w1 w1.heap.size a r.d) := hparts
    have HG : Hid (stepR S n ⟨2, s.data.toList⟩ = if nextE S.table S.base S.revs.length n r = 0 then some ({ S with table := tabPut S.table r.who r.seq (S.base + (S.revs.length + 1)), revs := S.revs ++ [r] }, outI r.d) else none) := by
      show _ = _
      rw [stepR_two, hr]
    obtain ⟨v, xs, d1, d2, d3⟩ := HR1.out
    have hF := HK.out.first
    have hT := HK.out.table
    have hxl : xs.length = S.revs.length := by rw [← d3, List.length_map]
    have hx64 : xs.length ≤ 64 := by rw [hxl]; exact HK.out.revs
    obtain ⟨va, vc, rfl⟩ := rzs_form d2
    have HN : Hid _ := fun w hp => Next_any (sC S (.slice va xs.length vc) gd).toArray S.base xs.length va vc S.table n r a c w hp rfl (by rw [List.getElem?_toArray]; exact (lg_at hF hT).1) (fun k q hk => by rw [List.getElem?_toArray]; exact (lg_at hF hT).2.2.2 k q hk) hT (by omega)
    have HD1 : Hid (RdAt w1 g (sC S (.slice va xs.length vc) gd ++ [.int .i64 n])) := d1
    have HXS : Hid (RzsOwn w1 (g + 1) (.slice va xs.length vc) xs ∧ xs.map (·.1) = S.revs) := ⟨d2, d3⟩
    have HLn : Hid ((sC S (.slice va xs.length vc) gd).length = 38) := sC_len hF hT
    have HX2 : Hid (RBox (w1.alloc (.cells #[.int .i64 r.who, .int .i64 r.seq, .slice a r.d.length c] 40)) w1.heap.size r a c) := rbox_new w1 r a c
    have HB2 : Hid (Below w1.heap.size w1 (w1.alloc (.cells #[.int .i64 r.who, .int .i64 r.seq, .slice a r.d.length c] 40))) := (Below.refl _ w1).alloc (Nat.le_refl _) _
    clear hr hown hparts d1 d2 d3 hb1
    go_upto_region 2 with fail
    generalize w1.alloc (.cells #[.int .i64 r.who, .int .i64 r.seq, .slice a r.d.length c] 40) = w2 at HX2 HB2 ⊢
    obtain ⟨L, hL⟩ : ∃ L, sC S (.slice va xs.length vc) gd = L := ⟨_, rfl⟩
    have HLE : Hid (sC S (.slice va xs.length vc) gd = L) := hL
    rw [hL] at HN HD1 HLn
    clear hL
    have HD2 : Hid (RdAt w2 g (L ++ [.int .i64 n])) := HD1.out.below HB2.out HD1.out.lt
    obtain ⟨h, hh⟩ : ∃ h, w1.heap.size = h := ⟨_, rfl⟩
    rw [hh] at HX2 ⊢
    have HH : Hid (w1.heap.size = h) := hh
    clear hh
    obtain ⟨q, hq⟩ : ∃ q, nextE S.table S.base xs.length n r = q := ⟨_, rfl⟩
    have HQ : Hid (nextE S.table S.base xs.length n r = q) := hq
    rw [hq] at HN
    clear hq
    have hinfo : (Try.prog.info? 82).map (·.size) = some L.length := by rw [HLn.out]; exact infoLg
    have hgl2 := HD2.out.lt
    have hhl2 := HX2.out.2.2.2
    refine wp_region_held_drew (S := fun w' => w'.rangeAt g 0 L ∧ w'.cell? ⟨g, 38, none⟩ = some (.int .i64 n) ∧ w'.cell? ⟨h, 0, none⟩ = some (.int .i64 r.who) ∧ w'.cell? ⟨h, 1, none⟩ = some (.int .i64 r.seq) ∧ w'.cell? ⟨h, 2, none⟩ = some (.slice a r.d.length c)) (by kernel_rfl) (rd_held HD2.out HLn.out HX2.out (Below.refl _ w2).drew) (fun hHeld => ?_)
    refine wpAnyH_take (i := 0) (v := .int .i64 0) rfl (by kernel_rfl) (by kernel_rfl) (by kernel_rfl) (fun _ _ _ h => h) (Or.inl ⟨by kernel_rfl, fun w' hSw => by obtain ⟨_, s0, s1, s2, s3⟩ := hSw; first | (go_simp; done) | (go_simp; rfl)⟩) hHeld ?_
    simp only [Act.put, List.setIfInBounds_toArray, List.set_cons_zero, List.set_cons_succ]
    refine wpAnyH_take (i := 1) (v := .bool false) rfl (by kernel_rfl) (by kernel_rfl) (by kernel_rfl) (fun _ _ _ h => h) (Or.inl ⟨by kernel_rfl, fun w' hSw => by obtain ⟨_, s0, s1, s2, s3⟩ := hSw; first | (go_simp; done) | (go_simp; rfl)⟩) hHeld ?_
    simp only [Act.put, List.setIfInBounds_toArray, List.set_cons_zero, List.set_cons_succ]
    refine wpAnyH_take (i := 2) (v := .bool false) rfl (by kernel_rfl) (by kernel_rfl) (by kernel_rfl) (fun _ _ _ h => h) (Or.inl ⟨by kernel_rfl, fun w' hSw => by obtain ⟨_, s0, s1, s2, s3⟩ := hSw; first | (go_simp; done) | (go_simp; rfl)⟩) hHeld ?_
    simp only [Act.put, List.setIfInBounds_toArray, List.set_cons_zero, List.set_cons_succ]
    refine wpAnyH_take (i := 3) (v := .pointer (some ⟨g, 0, none⟩)) rfl (by kernel_rfl) (by kernel_rfl) (by kernel_rfl) (fun _ _ _ h => h) (Or.inl ⟨by kernel_rfl, fun w' hSw => by obtain ⟨_, s0, s1, s2, s3⟩ := hSw; first | (go_simp; done) | (go_simp; rfl)⟩) hHeld ?_
    simp only [Act.put, List.setIfInBounds_toArray, List.set_cons_zero, List.set_cons_succ]
    refine wpAnyH_take (i := 4) (v := .pointer (some ⟨g, 0, none⟩)) rfl (by kernel_rfl) (by kernel_rfl) (by kernel_rfl) (fun _ _ _ h => h) (Or.inl ⟨by kernel_rfl, fun w' hSw => by obtain ⟨_, s0, s1, s2, s3⟩ := hSw; first | (go_simp; done) | (go_simp; rfl)⟩) hHeld ?_
    simp only [Act.put, List.setIfInBounds_toArray, List.set_cons_zero, List.set_cons_succ]
    refine wpAnyH_take (i := 5) (v := .pointer (some ⟨g, 0, none⟩)) rfl (by kernel_rfl) (by kernel_rfl) (by kernel_rfl) (fun _ _ _ h => h) (Or.inl ⟨by kernel_rfl, fun w' hSw => by obtain ⟨_, s0, s1, s2, s3⟩ := hSw; first | (go_simp; done) | (go_simp; rfl)⟩) hHeld ?_
    simp only [Act.put, List.setIfInBounds_toArray, List.set_cons_zero, List.set_cons_succ]
    refine wpAnyH_take (i := 6) rfl (by kernel_rfl) (by kernel_rfl) (by kernel_rfl) (fun _ _ _ h => h) (yieldsIf_load_mid (by kernel_rfl) 82 _ rfl g 0 rfl L _ (fun w h => h.1) Try.underlying82 rfl hinfo) hHeld ?_
    simp only [Act.put, List.setIfInBounds_toArray, List.set_cons_zero, List.set_cons_succ]
    refine wpAnyH_take (i := 7) (v := .pointer (some ⟨g, 0, none⟩)) rfl (by kernel_rfl) (by kernel_rfl) (by kernel_rfl) (fun _ _ _ h => h) (Or.inl ⟨by kernel_rfl, fun w' hSw => by obtain ⟨_, s0, s1, s2, s3⟩ := hSw; first | (go_simp; done) | (go_simp; rfl)⟩) hHeld ?_
    simp only [Act.put, List.setIfInBounds_toArray, List.set_cons_zero, List.set_cons_succ]
    refine wpAnyH_take (i := 8) (v := .pointer (some ⟨g, 0, none⟩)) rfl (by kernel_rfl) (by kernel_rfl) (by kernel_rfl) (fun _ _ _ h => h) (Or.inl ⟨by kernel_rfl, fun w' hSw => by obtain ⟨_, s0, s1, s2, s3⟩ := hSw; first | (go_simp; done) | (go_simp; rfl)⟩) hHeld ?_
    simp only [Act.put, List.setIfInBounds_toArray, List.set_cons_zero, List.set_cons_succ]
    refine wpAnyH_take (i := 9) (v := .pointer (some ⟨g, 38, none⟩)) rfl (by kernel_rfl) (by kernel_rfl) (by kernel_rfl) (fun _ _ _ h => h) (Or.inl ⟨by kernel_rfl, fun w' hSw => by obtain ⟨_, s0, s1, s2, s3⟩ := hSw; first | (go_simp; done) | (go_simp; rfl)⟩) hHeld ?_
    simp only [Act.put, List.setIfInBounds_toArray, List.set_cons_zero, List.set_cons_succ]
    refine wpAnyH_take (i := 10) (v := .int .i64 n) rfl (by kernel_rfl) (by kernel_rfl) (by kernel_rfl) (fun _ _ _ h => h) (Or.inl ⟨by kernel_rfl, fun w' hSw => by obtain ⟨_, s0, s1, s2, s3⟩ := hSw; first | (go_simp; done) | (go_simp; rfl)⟩) hHeld ?_
    simp only [Act.put, List.setIfInBounds_toArray, List.set_cons_zero, List.set_cons_succ]
    refine wpAnyH_take (i := 11) (v := .agg #[.int .i64 r.who, .int .i64 r.seq, .slice a r.d.length c]) rfl (by kernel_rfl) (by kernel_rfl) (by kernel_rfl) (fun _ _ _ h => h) (Or.inl ⟨by kernel_rfl, fun w' hSw => by obtain ⟨_, s0, s1, s2, s3⟩ := hSw; first | (go_simp; done) | (go_simp; rfl)⟩) hHeld ?_
    simp only [Act.put, List.setIfInBounds_toArray, List.set_cons_zero, List.set_cons_succ]
    refine wpAnyH_ready (rs := [12]) (by kernel_rfl) (by simp) ?_
    refine AllReadyH.cons rfl (fun K hK => ?_) AllReadyH.nil
    go_simp
    with_reducible refine (HN.out _ (HP1.out.here (HB2.out.drew) (Nat.le_refl _))).mono ?_
    rintro e w3 ⟨rfl, hb3⟩
    have HB3 := went_drew hb3
    go_wp2_with fail
    refine hK.out _ _ (rd_held HD2.out HLn.out HX2.out HB3.out) (fun hHeld2 => ?_)
    clear hK K
    try simp only [Act.put, List.setIfInBounds_toArray, List.set_cons_zero, List.set_cons_succ]
    refine wpAnyH_ready (rs := [13]) (by kernel_rfl) (by simp) ?_
    refine AllReadyH.cons rfl (fun K hK => ?_) AllReadyH.nil
    go_simp
    refine hK.out _ _ (rd_held HD2.out HLn.out HX2.out HB3.out) (fun hHeld13 => ?_)
    clear hK K
    try simp only [Act.put, List.setIfInBounds_toArray, List.set_cons_zero, List.set_cons_succ]
    refine wpAnyH_ready (rs := [14]) (by kernel_rfl) (by simp) ?_
    refine AllReadyH.cons rfl (fun K hK => ?_) AllReadyH.nil
    go_simp
    refine hK.out _ _ (rd_held HD2.out HLn.out HX2.out HB3.out) (fun hHeld14 => ?_)
    clear hK K
    try simp only [Act.put, List.setIfInBounds_toArray, List.set_cons_zero, List.set_cons_succ]
    refine wpAnyH_done (by kernel_rfl) ?_ _
    have HB23 : Hid (Below w1.heap.size w1 w3) := HB2.out.trans (HB3.out.mono HB2.out.size)
    have HD3 : Hid (RdAt w3 g (L ++ [.int .i64 n])) := HD2.out.below HB3.out hgl2
    have HX3 : Hid (RBox w3 h r a c) := HX2.out.below HB3.out
    clear hHeld hHeld2 hHeld13 hHeld14 hb3
    by_cases hq0 : q = 0
    · have hqb : (q != 0) = false := by simp [hq0]
      have HNX : Hid (nextE S.table S.base S.revs.length n r = 0) := by
        show _ = _
        rw [← hxl, HQ.out, hq0]
      have hnx := HNX.out
      obtain ⟨n1, n2, n3, n4, n5, n6⟩ := next_zero hnx
      obtain ⟨⟨o1, o2, o3, o4⟩, _⟩ := one_zero n1
      have HONE : Hid (oneE r = 0) := n1
      obtain ⟨hsm, hsi, hso⟩ := sizes_zero n5
      have HSZ : Hid _ := fun w hp => Sizes_any a r.d c w hp
      rw [hsi, hso, n5] at HSZ
      have HNF : Hid (xs.length < 64 ∧ (S.base : Int) + xs.length < 2147483647) := ⟨by omega, by omega⟩
      obtain ⟨k, hk⟩ : ∃ k : Nat, r.who = (k : Int) := ⟨r.who.toNat, by omega⟩
      have hk8 : k ≤ 7 := by omega
      have HZ3 : Hid (RzsOwn w3 (g + 1) (.slice va xs.length vc) xs ∧ xs.map (·.1) = S.revs) := ⟨HXS.out.1.below HB23.out, HXS.out.2⟩
      have HO3 : Hid (w3.ownsRow (g + 1) 138 3 (.slice a r.d.length c) r.d.length (allCells r.d)) := own_stay HO1.out HB23.out
      have hgl3 := HD3.out.lt
      have hlL := HLn.out
      have c35 : w3.cell? ⟨g, 35, none⟩ = some (.slice va xs.length vc) := HD3.out.cell (by
        rw [← HLE.out, List.getElem?_append_left (by rw [sC_len hF hT]; decide)]
        exact (lg_at hF hT).1)
      have f35 := HD3.out.free 35
      obtain ⟨x0, x1, x2, hhl3⟩ := HX3.out
      obtain ⟨ip, hip, hp0, hp1, hp2⟩ := info_parts infoRev
      have hsl := HZ3.out.1.2
      have hneS : (Value.slice va xs.length vc).ownBlock ≠ some g := by
        intro e
        have := (hsl.lt g e).1
        omega
      have hx63 : xs.length < 64 := HNF.out.1
      have HKk : Hid (r.who = (k : Int)) := hk
      have hgh : g < h := by have := HH.out; have := HR1.out.lt; omega
      have hneh : (Value.slice va xs.length vc).ownBlock ≠ some h := by
        intro e
        have := (HXS.out.1.2.lt h e).2
        have := HH.out
        omega
      have HXL : Hid (xs.length = S.revs.length) := hxl
      clear hq0 hnx hk n1 n2 n3 n4 n5 n6 o1 o2 o3 o4 hsm hsi hso hlL hxl
      go_wp2_with fail
      go_region_law
        ((refine step_append_lies _ (by rfl) _ _ _ (by rfl) (g + 1) 40 ip _ 3 40 Try.underlying36 hip hp0 hp1 hp2 rfl (by omega) (.slice va xs.length vc) xs.length (rvAll xs) (by rfl) ((own_alloc hsl _).drew)
            ⟨w3.heap.size, 0, none⟩ 1 1 [.int .i64 r.who, .int .i64 r.seq, .slice a r.d.length c] (by rfl) (by rfl) (World.news_of_block (cs := #[.int .i64 r.who, .int .i64 r.seq, .slice a r.d.length c]) (t := 40) (fr := (0, 0)) (heap_alloc_new w3 _)) (by simp [Value.oneCell'])
            (by omega) (by unfold maxLen; omega) (by omega) (by simp; omega) (w3.heap.size + 1) (by simp) ?_; intro gg cap1 w4 hown1 hgrow hat hlt; have f1 : w4.frozen? ⟨g, 35, none⟩ = false := ((hgrow.frozen_far ⟨g, 35, none⟩ (by simp; omega) (Ne.symm hneS)).trans (World.frozen?_of_block (w := w3) (Deep.blk_alloc_lt w3 _ g hgl3))).trans f35; have f0 : w4.cell? ⟨g, 35, none⟩ = some (.slice va xs.length vc) := ((hgrow.cell_far ⟨g, 35, none⟩ (by simp; omega) (Ne.symm hneS)).trans (alloc_cell hgl3)).trans c35))
      all_goals
        obtain ⟨hd5, hx5, hz5, hb5⟩ := rd_grown hF hT (by show RdAt w3 g (sC S _ gd ++ [.int .i64 n]); rw [HLE.out]; exact HD3.out) HX3.out HZ3.out.1 ⟨HONE.out, HO3.out⟩ hneh hgh hown1 hgrow
        clear hown1 hgrow hat hlt f0 f1
        generalize w4.setCell ⟨g, 35, none⟩ (.slice (some ⟨gg, 0, none⟩) (xs.length + 1) cap1) = w5 at hd5 hx5 hz5 hb5 ⊢
        have HD5 : Hid (RdAt w5 g (rdC S (.slice (some ⟨gg, 0, none⟩) (xs.length + 1) cap1) gd n)) := hd5
        have HX5 : Hid (RBox w5 h r a c) := hx5
        have HZ5 : Hid (RzsOwn w5 (g + 1) (.slice (some ⟨gg, 0, none⟩) (xs.length + 1) cap1) (xs ++ [(r, a, c)])) := hz5
        have HB5 : Hid (Below g w3 w5) := hb5
        clear x0 x1 x2
        obtain ⟨x0, x1, x2, hhl5⟩ := hx5
        rw [HKk.out] at x0
        have hgl5 := hd5.lt
        have L5 := sC_len (S := S) (v := .slice (some ⟨gg, 0, none⟩) (xs.length + 1) cap1) (gd := gd) hF hT
        obtain ⟨l35, _, _, ltab⟩ := lg_at (gen := S.gen) (base := S.base) (text := S.text) (F := S.first) (T := S.table) (rv := .slice (some ⟨gg, 0, none⟩) (xs.length + 1) cap1) (wh := S.whole) (gd := gd) hF hT
        have d35 : w5.cell? ⟨g, 35, none⟩ = some (.slice (some ⟨gg, 0, none⟩) (xs.length + 1) cap1) := hd5.cell (by rw [rdC, List.getElem?_append_left (by rw [L5]; decide)]; exact l35)
        have d1 : w5.cell? ⟨g, 1, none⟩ = some (.int .i64 S.base) := hd5.cell rfl
        obtain ⟨y1, hy1⟩ : ∃ y, S.table[k * 2]? = some y := ⟨_, List.getElem?_eq_getElem (by omega)⟩
        obtain ⟨y2, hy2⟩ : ∃ y, S.table[k * 2 + 1]? = some y := ⟨_, List.getElem?_eq_getElem (by omega)⟩
        have e1 : w5.cell? ⟨g, 19 + k * 2, none⟩ = some (.int .i64 y1) := hd5.cell (by rw [rdC, List.getElem?_append_left (by rw [L5]; omega)]; exact ltab _ _ hy1)
        have e2 : w5.cell? ⟨g, 19 + k * 2 + 1, none⟩ = some (.int .i64 y2) := hd5.cell (by rw [rdC, List.getElem?_append_left (by rw [L5]; omega)]; exact ltab _ _ hy2)
        have f1 := hd5.free (19 + k * 2)
        have f2 := hd5.free (19 + k * 2 + 1)
        have g1 : (0 : Int) ≤ (k : Int) := by omega
        have g2 : (k : Int) < 8 := by omega
        have hnf := HNF.out.2
        obtain ⟨m, hm⟩ : ∃ m : Int, (S.base : Int) + ((xs.length + 1 : Nat) : Int) = m := ⟨_, rfl⟩
        have hm0 : 0 ≤ m := by omega
        have hm1 : m ≤ 2147483647 := by omega
        have HM : Hid ((S.base : Int) + ((xs.length : Int) + 1) = m) := by show _ = _; omega
        have hwa : IntKind.i64.wrap ((S.base : Int) + ((xs.length : Int) + 1)) = m := by rw [IntWalk.i64_in _ ⟨by omega, by omega⟩]; omega
        clear hm hd5 hz5 hb5 hy1 hy2 l35 ltab hnf
        go_wp2_with fail
        go_region
        clear hwa
        obtain ⟨hd6, hx6, hz6, hb6⟩ := rd_tabbed (m := m) (l := S.revs ++ [r]) hF hT HD5.out HX5.out HZ5.out hgh HKk.out hk8
        obtain ⟨w6, hw6⟩ : ∃ w6, ((w5.setCell ⟨g, 19 + k * 2, none⟩ (.int .i64 r.seq)).setCell ⟨g, 19 + k * 2 + 1, none⟩ (.int .i64 m)).drew = w6 := ⟨_, rfl⟩
        rw [hw6] at hd6 hx6 hz6 hb6
        have HD6 : Hid (RdAt w6 g (rdC { S with table := tabPut S.table r.who r.seq m, revs := S.revs ++ [r] } (.slice (some ⟨gg, 0, none⟩) (xs.length + 1) cap1) gd n)) := hd6
        have HX6 : Hid (RBox w6 h r a c) := hx6
        have HZ6 : Hid (RzsOwn w6 (g + 1) (.slice (some ⟨gg, 0, none⟩) (xs.length + 1) cap1) (xs ++ [(r, a, c)])) := hz6
        have HB6 : Hid (Below g w5 w6) := hb6
        have HP6 : Hid (PartsAt w6 w6.heap.size a r.d) := by
          obtain ⟨a', c', e, p1, p2⟩ := parts_ownC (hz6.1 (r, a, c) (by simp)).2 (one_bound HONE.out)
          simp only [Value.slice.injEq, true_and] at e
          obtain ⟨e1, e2⟩ := e
          show PartsAt _ _ a r.d
          rw [e1]
          exact p1
        clear hd6 hz6 hb6 x0 x1 x2 d35 d1 e1 e2 f1 f2
        obtain ⟨x0, x1, x2, hhl6⟩ := hx6
        have hgl6 := HD6.out.lt
        rw [hw6]
        clear hw6
        go_wp2_with fail
        with_reducible refine (HSZ.out _ HP6.out).mono ?_
        rintro e w7 ⟨rfl, hb7⟩
        have hT6 : (tabPut S.table r.who r.seq m).length = 16 := by rw [tabPut_len]; exact hT
        have HD7 : Hid (RdAt w7 g (rdC { S with table := tabPut S.table r.who r.seq m, revs := S.revs ++ [r] } (.slice (some ⟨gg, 0, none⟩) (xs.length + 1) cap1) gd n)) := HD6.out.below hb7 hgl6
        have HZ7 : Hid (RzsOwn w7 (g + 1) (.slice (some ⟨gg, 0, none⟩) (xs.length + 1) cap1) (xs ++ [(r, a, c)])) := HZ6.out.below hb7
        have HB7 : Hid (Below g w7 w7) := Below.refl g w7
        have HB67 : Hid (Below g w w7) := (((HB1.out.trans (HB23.out.mono (by omega))).trans HB5.out).trans HB6.out).trans (hb7.mono (Nat.le_of_lt hgl6))
        have f38 := HD7.out.free 38
        have L7 := sC_len (S := { S with table := tabPut S.table r.who r.seq m, revs := S.revs ++ [r] }) (v := .slice (some ⟨gg, 0, none⟩) (xs.length + 1) cap1) (gd := gd) hF hT6
        have d38 : w7.cell? ⟨g, 38, none⟩ = some (.int .i64 n) := HD7.out.cell (by rw [rdC, List.getElem?_append_right (by rw [L7]; decide), L7]; rfl)
        have hgl7 := HD7.out.lt
        clear hb7
        go_wp2_with fail
        go_ret
        refine ⟨.inl ⟨{ S with table := tabPut S.table r.who r.seq m, revs := S.revs ++ [r] }, outI r.d, ?_, rfl, _, xs ++ [(r, a, c)], rd_sized (outI r.d) hF hT6 HD7.out, HZ7.out.put (p := ⟨g, 38, none⟩) (Nat.lt_succ_self g) _, by rw [List.map_append, HZ3.out.2]; rfl⟩, HB67.out.setCell (p := ⟨g, 38, none⟩) (Nat.le_refl _) _⟩
        rw [HG.out, if_pos HNX.out, ← HXL.out, HM.out]
    · have hqb : (q != 0) = true := by simp [hq0]
      go_wp2_with fail
      go_ret
      refine ⟨.inr ⟨by rw [HG.out, ← hxl, HQ.out, if_neg hq0], rfl, HR1.out.below HB23.out⟩, HB1.out.trans (HB23.out.mono (by omega))⟩
  · have HG : Hid (stepR S n ⟨2, s.data.toList⟩ = none) := by show _ = _; rw [stepR_two, hr]
    have hq' : (q != 0) = true := by simp [hq]
    clear hr
    go_upto_region 2 with fail
    go_quiet (fail)
    go_wp2_with fail
    go_ret
    refine ⟨.inr ⟨HG.out, rfl, HR1.out.below ?_⟩, ?_⟩
    · exact below_drewN ((Below.refl _ w1).alloc (Nat.le_refl _) _) _
    · exact below_drewN (HB1.out.alloc (by omega) _) _
end Go.Proofs.Ytgffippimmokiaa
