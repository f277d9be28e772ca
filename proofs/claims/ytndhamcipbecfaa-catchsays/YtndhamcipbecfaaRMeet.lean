/- What the document's own Meet answers: the same as package meet's Of. -/
import Derived.Test.YtndhamcipbecfaaMeetOf
import Derived.Test.YtndhamcipbecfaaPlDeltaWalk
import Derived.Test.YtndhamcipbecfaaRSpot
import Derived.Test.YtndhamcipbecfaaDelta
import Derived.Deep.LoopGhost
namespace Go.Proofs.Ytndhamcipbecfaa
open Go.RowKit
set_option linter.unusedSimpArgs false
set_option linter.unusedVariables false

theorem alloc_one (w : World) (o : Obj) : (w.alloc o).drew.heap[w.heap.size]? = some o := heap_alloc_new w o
theorem size_one (w : World) (o : Obj) : (w.alloc o).drew.heap.size = w.heap.size + 1 := Deep.nblk_alloc w o
theorem one_kind (b : Bool) : (3 : Int) - 2 * (b.toNat : Int) = (oneQ b).k := by cases b <;> rfl
/-- a row that lies below -/
theorem own_below3 {w w' : World} {B B' n size : Nat} {e : TypeId} {v : Value} {xs : List Value} (h : w.ownsRow B e size v n xs) (hb : Below B' w w') (hB : w.heap.size ≤ B') : w'.ownsRow B e size v n xs := by
  rcases h.2 with ⟨h1, h2⟩ | ⟨g, cap', cur, h1, h2, h3, h4⟩
  · exact ⟨h.1, .inl ⟨h1, h2⟩⟩
  · exact ⟨h.1, .inr ⟨g, cap', cur, h1, h2, (hb.block g (Nat.lt_of_lt_of_le (lt_of_heap h3) hB)).trans h3, h4⟩⟩

set_option maxRecDepth 20000 in
set_option maxHeartbeats 16000000 in
theorem RMeet_any (a b : Option Addr) (la lb : List Pt) (ca cb : Nat) (w : World) (ha : PartsAt w w.heap.size a la) (hb : PartsAt w w.heap.size b lb) :
    Calls Try.prog 16 #[.slice a la.length ca, .slice b lb.length cb] w fun e w' => ∃ x cx y cy, e = .returned (.tuple #[.slice x (meetL la lb).length cx, .slice y (meetR la lb).length cy, .int .i64 (meetE la lb)]) ∧
      PartsAt w' w'.heap.size x (meetL la lb) ∧ PartsAt w' w'.heap.size y (meetR la lb) ∧ Below w.heap.size w w' := by
  obtain ⟨ip, hip, hp0, hp1, hp2⟩ := info_parts infoPart
  have HA : Hid (PartsAt w w.heap.size a la) := ha
  have HB : Hid (PartsAt w w.heap.size b lb) := hb
  have HE0 : Hid (Below w.heap.size w (w.alloc (.cells #[.slice a la.length ca, .slice b lb.length cb] 23))) := (Below.refl _ _).alloc (Nat.le_refl _) _
  have HA0 : Hid (PartsAt (w.alloc (.cells #[.slice a la.length ca, .slice b lb.length cb] 23)) (w.alloc (.cells #[.slice a la.length ca, .slice b lb.length cb] 23)).heap.size a la) := ha.here HE0.out (Nat.le_refl _)
  clear ha hb
  go_enter Try.func16, Try.ntmps16
  go_wp2_with fail
  refine wp_loop_rounds 3 ?_
  rw [rounds_succ]
  go_wp2_with fail
  refine (Delta_any a la ca _ HA0.out).mono ?_
  rintro e w1 ⟨rfl, hb1⟩
  have HE1 : Hid (Below w.heap.size w w1) := HE0.out.trans (hb1.mono HE0.out.size)
  have s1 : w1.cell? ⟨w.heap.size, 1, none⟩ = some (.slice b lb.length cb) := by
    rw [hb1.cell (p := ⟨w.heap.size, 1, none⟩) (by simp), cell_of_row _ _ _ _ _ _ (Deep.blk_alloc_new w _)]; rfl
  have HB1 : Hid (PartsAt w1 w1.heap.size b lb) := HB.out.here HE1.out (Nat.le_refl _)
  clear hb1
  by_cases z1 : sizesE la = 0
  · have g1 : (sizesE la != 0) = false := by simp [z1]
    have HZ1 : Hid (sizesE la = 0) := z1
    clear z1
    go_wp2_with fail
    rw [rounds_succ]
    go_wp2_with fail
    refine (Delta_any b lb cb _ HB1.out).mono ?_
    rintro e w2 ⟨rfl, hb2⟩
    have HE2 : Hid (Below w.heap.size w w2) := HE1.out.trans (hb2.mono HE1.out.size)
    have HA2 : Hid (PartsAt w2 w2.heap.size a la) := HA.out.here HE2.out (Nat.le_refl _)
    clear hb2 s1
    by_cases z2 : sizesE lb = 0
    · have g2 : (sizesE lb != 0) = false := by simp [z2]
      have HZ2 : Hid (sizesE lb = 0) := z2
      have HSA : Hid (Small la) := (sizes_zero HZ1.out).1
      have HSB : Hid (Small lb) := (sizes_zero z2).1
      clear z2
      go_wp2_with fail
      rw [rounds_succ]
      go_wp2_with fail
      refine (In_any a la ca _ HA2.out HSA.out).mono ?_
      rintro e w3 ⟨rfl, hb3⟩
      have HE3 : Hid (Below w.heap.size w w3) := HE2.out.trans (hb3.mono HE2.out.size)
      have HB3 : Hid (PartsAt w3 w3.heap.size b lb) := HB.out.here HE3.out (Nat.le_refl _)
      clear hb3
      go_wp2_with fail
      refine (In_any b lb cb _ HB3.out HSB.out).mono ?_
      rintro e w4 ⟨rfl, hb4⟩
      have HE4 : Hid (Below w.heap.size w w4) := HE3.out.trans (hb4.mono HE3.out.size)
      have HA4 : Hid (PartsAt w4 w4.heap.size a la) := HA.out.here HE4.out (Nat.le_refl _)
      clear hb4
      by_cases z3 : inI la = inI lb
      · have g3 : (inI la != inI lb) = false := by simp [z3]
        obtain ⟨ga, cna, ia, oa, la1, ma⟩ := delta_facts HZ1.out
        obtain ⟨gb, cnb, ib, ob, lb1, mb⟩ := delta_facts HZ2.out
        have k1 := ofAll_keptlen (l := la) (fun p hp => ⟨(ga p hp).2.1, (ga p hp).2.2.1⟩)
        have k2 := ofAll_keptlen (l := lb) (fun p hp => ⟨(gb p hp).2.1, (gb p hp).2.2.1⟩)
        obtain ⟨n, hn⟩ : ∃ n : Nat, (n : Int) = inI la := ⟨inW (wordL la), by omega⟩
        have pa := places_word ga.kinds
        have pb := places_word gb.kinds
        have sa := places_size (ofAll_len la)
        have sb := places_size (ofAll_len lb)
        rw [pa] at sa
        rw [pb] at sb
        have HRD : Hid _ := meet_road HZ1.out HZ2.out z3 pa pb (ofAll_len la) (ofAll_len lb) (by omega) (by omega)
        have HQ : Hid ((ofAll la).1.length = (ofAll la).2.length + 1 ∧ (ofAll lb).1.length = (ofAll lb).2.length + 1 ∧ (ofAll la).2.length = n ∧ (ofAll lb).2.length = n ∧ (∀ q ∈ (ofAll la).1, q.size ≤ 500) ∧ (∀ q ∈ (ofAll lb).1, q.size ≤ 500)) :=
          ⟨ofAll_len la, ofAll_len lb, by omega, by omega, fun q hq => by have := sa q hq; omega, fun q hq => by have := sb q hq; omega⟩
        have hn5 : n ≤ 500 := by omega
        have HBL : Hid (Bound (leftL (ofAll la).1 (ofAll la).2 (ofAll lb).1 (ofAll lb).2) ∧ Bound (leftR (ofAll la).1 (ofAll la).2 (ofAll lb).1 (ofAll lb).2)) := by
          obtain ⟨⟨g1, g2⟩, ⟨g3, g4⟩, g5, g6⟩ := left_good HQ.out.2.2.2.2.1 HQ.out.2.2.2.2.2 (ofAll la).2 (ofAll lb).2
          exact ⟨small_boundL HRD.out.1.1 (fun p hp => (g1 p hp).1), small_boundL HRD.out.2.1 (fun p hp => (g3 p hp).1)⟩
        clear z3 ga cna ia oa la1 ma gb cnb ib ob lb1 mb k1 k2 hn pa pb sa sb
        go_wp2_with fail
        refine (Of_any a la ca _ HA4.out HSA.out).mono ?_
        rintro e w5 ⟨pv, kv, rfl, hq, hk, hb5⟩
        have HE5 : Hid (Below w.heap.size w w5) := HE4.out.trans (hb5.mono HE4.out.size)
        have HB5 : Hid (PartsAt w5 w5.heap.size b lb) := HB.out.here HE5.out (Nat.le_refl _)
        have HQ5 : Hid (w5.ownsRow w4.heap.size 9 1 pv (ofAll la).1.length ((ofAll la).1.map Value.string)) := hq
        have HK5 : Hid (w5.ownsRow w4.heap.size 4 1 kv (ofAll la).2.length ((ofAll la).2.map Value.bool)) := hk
        clear hq hk hb5
        go_wp2_with fail
        refine (Of_any b lb cb _ HB5.out HSB.out).mono ?_
        rintro e w6 ⟨qv, lv0, rfl, hq, hk, hb6⟩
        have HE6 : Hid (Below w.heap.size w w6) := HE5.out.trans (hb6.mono HE5.out.size)
        have hq5 := own_below3 HQ5.out hb6 (Nat.le_refl _)
        have hk5 := own_below3 HK5.out hb6 (Nat.le_refl _)
        obtain ⟨pa, pc, rfl⟩ := slice_form' hq5
        obtain ⟨ka, kc, rfl⟩ := slice_form' hk5
        obtain ⟨qa, qc, rfl⟩ := slice_form' hq
        obtain ⟨ma, mc, rfl⟩ := slice_form' hk
        generalize (ofAll la).1 = qs at *
        generalize (ofAll la).2 = ks at *
        generalize (ofAll lb).1 = us at *
        generalize (ofAll lb).2 = ls at *
        have HQA : Hid (w6.ownsRow w4.heap.size 9 1 (.slice pa qs.length pc) qs.length (qs.map Value.string)) := hq5
        have HKA : Hid (w6.ownsRow w4.heap.size 4 1 (.slice ka ks.length kc) ks.length (ks.map Value.bool)) := hk5
        have HQB : Hid (w6.ownsRow w5.heap.size 9 1 (.slice qa us.length qc) us.length (us.map Value.string)) := hq
        have HKB : Hid (w6.ownsRow w5.heap.size 4 1 (.slice ma ls.length mc) ls.length (ls.map Value.bool)) := hk
        obtain ⟨w7, HW7⟩ : ∃ w7, Hid ((w6.alloc (.cells #[.slice pa qs.length pc, .slice ka ks.length kc] 68)).alloc (.cells #[.slice qa us.length qc, .slice ma ls.length mc] 68) = w7) := ⟨_, rfl⟩
        have hz7 : w7.heap.size = w6.heap.size + 2 := by rw [← HW7.out]; simp only [Deep.nblk_alloc]
        have HB67 : Hid (Below w6.heap.size w6 w7) := by rw [← HW7.out]; exact ((Below.refl _ _).alloc (Nat.le_refl _) _).alloc (by simp only [Deep.nblk_alloc]; omega) _
        have HC7 : Hid (w7.heap[w6.heap.size]? = some (.cells #[.slice pa qs.length pc, .slice ka ks.length kc] 68 (0, 0)) ∧ w7.heap[w6.heap.size + 1]? = some (.cells #[.slice qa us.length qc, .slice ma ls.length mc] 68 (0, 0))) := by
          rw [← HW7.out]
          refine ⟨?_, ?_⟩
          · rw [Deep.blk_alloc_lt _ _ _ (by simp only [Deep.nblk_alloc]; omega)]; exact Deep.blk_alloc_new _ _
          · have h := Deep.blk_alloc_new (w6.alloc (.cells #[.slice pa qs.length pc, .slice ka ks.length kc] 68)) (.cells #[.slice qa us.length qc, .slice ma ls.length mc] 68)
            simp only [Deep.nblk_alloc] at h
            exact h
        have HE7 : Hid (Below w.heap.size w w7) := HE6.out.trans (HB67.out.mono HE6.out.size)
        have HZ7 : Hid (w7.heap.size = w6.heap.size + 2) := hz7
        clear hq hk hq5 hk5 hb6 hz7
        have y7 : w7.cell? ⟨w6.heap.size, 0, none⟩ = some (.slice pa qs.length pc) := by rw [cell_of_row _ _ _ _ _ _ HC7.out.1]; rfl
        go_upto_region 12 with fail
        rw [HW7.out]
        go_wp2_with fail
        go_loopg [12, 13, 46] n (fun gk lv rv i wr => ∃ (k : Nat) (L R : List Pt), k + gk = n ∧ i = .int .i64 k ∧ LR wr w7.heap.size L R lv rv ∧ L.length ≤ 3 * k ∧ R.length ≤ 3 * k ∧ L ++ leftL (qs.drop k) (ks.drop k) (us.drop k) (ls.drop k) = leftL qs ks us ls ∧ R ++ leftR (qs.drop k) (ks.drop k) (us.drop k) (ls.drop k) = leftR qs ks us ls ∧ Below w7.heap.size w7 wr)
        case atStart => exact ⟨0, [], [], by omega, rfl, LR.start _ _, by simp, by simp, by simp, by simp, Below.refl _ _⟩
        case round =>
          obtain ⟨k, L, R, hk, rfl, hlr, hlL, hlR, htL, htR, hb⟩ := hrel
          have hz := hb.size
          have hz6 := HZ7.out
          obtain ⟨l1, l2, l3, l4, l5, l6⟩ := HQ.out
          obtain ⟨q, z2⟩ : ∃ q, qs[k]? = some q := ⟨qs[k]'(by omega), List.getElem?_eq_getElem _⟩
          obtain ⟨u, y2⟩ : ∃ u, us[k]? = some u := ⟨us[k]'(by omega), List.getElem?_eq_getElem _⟩
          obtain ⟨g, cg, hg, ea1, hga⟩ := own_at HQA.out (show (qs.map Value.string)[k]? = some (.string q) by simp [z2])
          simp only [Value.slice.injEq, true_and] at hg
          obtain ⟨rfl, rfl⟩ := hg
          obtain ⟨g', cg', hg, eb1, hgb⟩ := own_at HQB.out (show (us.map Value.string)[k]? = some (.string u) by simp [y2])
          simp only [Value.slice.injEq, true_and] at hg
          obtain ⟨rfl, rfl⟩ := hg
          have HCL : Hid (∀ W, Below w7.heap.size w7 W → W.cell? ⟨w6.heap.size, 0, none⟩ = some (.slice (some ⟨g, 0, none⟩) qs.length pc) ∧ W.cell? ⟨w6.heap.size, 1, none⟩ = some (.slice ka ks.length kc) ∧ W.cell? ⟨w6.heap.size + 1, 0, none⟩ = some (.slice (some ⟨g', 0, none⟩) us.length qc) ∧ W.cell? ⟨w6.heap.size + 1, 1, none⟩ = some (.slice ma ls.length mc) ∧ W.cell? ⟨g, k, none⟩ = some (.string q) ∧ W.cell? ⟨g', k, none⟩ = some (.string u)) := by
            intro W hW
            have h6 := HB67.out.trans (hW.mono (by omega))
            refine ⟨(hW.cell (p := ⟨w6.heap.size, 0, none⟩) (by show w6.heap.size < _; omega)).trans ?_, (hW.cell (p := ⟨w6.heap.size, 1, none⟩) (by show w6.heap.size < _; omega)).trans ?_, (hW.cell (p := ⟨w6.heap.size + 1, 0, none⟩) (by show w6.heap.size + 1 < _; omega)).trans ?_, (hW.cell (p := ⟨w6.heap.size + 1, 1, none⟩) (by show w6.heap.size + 1 < _; omega)).trans ?_, (h6.cell (p := ⟨g, k, none⟩) hga).trans ea1, (h6.cell (p := ⟨g', k, none⟩) hgb).trans eb1⟩
            · rw [cell_of_row _ _ _ _ _ _ HC7.out.1]; rfl
            · rw [cell_of_row _ _ _ _ _ _ HC7.out.1]; rfl
            · rw [cell_of_row _ _ _ _ _ _ HC7.out.2]; rfl
            · rw [cell_of_row _ _ _ _ _ _ HC7.out.2]; rfl
          obtain ⟨x0, x1, v0, v1, e1, e2⟩ := HCL.out wr hb
          have hb0 : w6.heap.size < wr.heap.size := by omega
          have hb1 : w6.heap.size + 1 < wr.heap.size := by omega
          have hb2 : g < wr.heap.size := by omega
          have hb3 : g' < wr.heap.size := by omega
          have i1 : (k : Int) < (qs.length : Int) := by omega
          have i2 : (k : Int) < (us.length : Int) := by omega
          have q5 := l5 q (List.mem_of_getElem? z2)
          have u5 := l6 u (List.mem_of_getElem? y2)
          obtain ⟨lo, lc, rfl⟩ := slice_form' hlr.l
          obtain ⟨ro, rc, rfl⟩ := slice_form' hlr.r
          have HLR : Hid (LR wr w7.heap.size L R (.slice lo L.length lc) (.slice ro R.length rc)) := hlr
          have HBW : Hid (Below w7.heap.size w7 wr) := hb
          have HT : Hid (L ++ leftL (qs.drop k) (ks.drop k) (us.drop k) (ls.drop k) = leftL qs ks us ls ∧ R ++ leftR (qs.drop k) (ks.drop k) (us.drop k) (ls.drop k) = leftR qs ks us ls) := ⟨htL, htR⟩
          have HZ : Hid (qs[k]? = some q ∧ us[k]? = some u) := ⟨z2, y2⟩
          clear hlr hb htL htR z2 y2 ea1 eb1 l1 l2 l3 l4 l5 l6 hz6 y7
          go_upto_region 15 with fail
          go_cut [12, 46] (fun lv i wc => ∃ lo' lc', lv = .slice (some lo') (L.length + 2) lc' ∧ i = .int .i64 k ∧ LR wc w7.heap.size (L ++ [putQ q, keepQ u]) R lv (.slice ro R.length rc) ∧ Below w7.heap.size w7 wc)
          case first =>
            have hAll := (HLR.out.alloc (.cells #[.int .i64 2, .int .i64 0, .string q, .int .i64 1, .int .i64 u.size, .string ⟨#[]⟩] 43)).drew
            have hNew := alloc_one wr (.cells #[.int .i64 2, .int .i64 0, .string q, .int .i64 1, .int .i64 u.size, .string ⟨#[]⟩] 43)
            go_region_law (first
              | (refine step_append_lies _ (by rfl) _ _ _ (by rfl) w7.heap.size 43 ip _ 3 32 Try.underlying23 hip hp0 hp1 hp2 rfl (by omega) (.slice lo L.length lc) L.length (allCells L) (by rfl) hAll.l
                  ⟨wr.heap.size, 0, none⟩ 2 2 [.int .i64 2, .int .i64 0, .string q, .int .i64 1, .int .i64 u.size, .string ⟨#[]⟩] (by rfl) (by rfl) (World.news_of_block (cs := #[.int .i64 2, .int .i64 0, .string q, .int .i64 1, .int .i64 u.size, .string ⟨#[]⟩]) (t := 43) (fr := (0, 0)) hNew) (by simp [Value.oneCell'])
                  (by omega) (by unfold maxLen; omega) (by omega) (by simp; omega) (wr.heap.size + 1) (by simp) ?_; intro gg cap1 wx hown1 hgrow hat hlt))
            all_goals
              go_wp2_with fail
              refine Met.intro ?_
              try go_simp
              go_step
              (repeat apply Exists.intro)
              refine ⟨?rel, rfl⟩
              case rel => exact ⟨_, cap1, rfl, rfl, hAll.addL (ps := [putQ q, keepQ u]) rfl rfl hown1 hgrow hat (size_one _ _), below_own' (HBW.out.alloc hz _).drew hAll.l hgrow (by rw [size_one]; omega)⟩
          case rest =>
            obtain ⟨lo1, lc1, rfl, rfl, hlr, hb⟩ := hcut
            have hz1 := hb.size
            obtain ⟨x0, x1, v0, v1, e1, e2⟩ := HCL.out wc hb
            have hb0 : w6.heap.size < wc.heap.size := by have := HZ7.out; omega
            have hb1 : w6.heap.size + 1 < wc.heap.size := by have := HZ7.out; omega
            have hb2 : g < wc.heap.size := by have := HZ7.out; omega
            have hb3 : g' < wc.heap.size := by have := HZ7.out; omega
            have HLR1 : Hid (LR wc w7.heap.size (L ++ [putQ q, keepQ u]) R (.slice (some lo1) (L.length + 2) lc1) (.slice ro R.length rc)) := hlr
            have HB1 : Hid (Below w7.heap.size w7 wc) := hb
            obtain ⟨wo, hwo⟩ : ∃ wo, wo = wc := ⟨_, rfl⟩
            subst hwo
            clear hlr hb
            go_upto_region 16 with fail
            go_cut [13, 46] (fun rv i wc => ∃ ro' rc', rv = .slice (some ro') (R.length + 2) rc' ∧ i = .int .i64 k ∧ LR wc w7.heap.size (L ++ [putQ q, keepQ u]) (R ++ [keepQ q, putQ u]) (.slice (some lo1) (L.length + 2) lc1) rv ∧ Below w7.heap.size w7 wc)
            case first =>
              have hAll := (HLR1.out.alloc (.cells #[.int .i64 1, .int .i64 q.size, .string ⟨#[]⟩, .int .i64 2, .int .i64 0, .string u] 43)).drew
              have hNew := alloc_one wo (.cells #[.int .i64 1, .int .i64 q.size, .string ⟨#[]⟩, .int .i64 2, .int .i64 0, .string u] 43)
              go_region_law (first
                | (refine step_append_lies _ (by rfl) _ _ _ (by rfl) w7.heap.size 43 ip _ 3 32 Try.underlying23 hip hp0 hp1 hp2 rfl (by omega) (.slice ro R.length rc) R.length (allCells R) (by rfl) hAll.r
                    ⟨wo.heap.size, 0, none⟩ 2 2 [.int .i64 1, .int .i64 q.size, .string ⟨#[]⟩, .int .i64 2, .int .i64 0, .string u] (by rfl) (by rfl) (World.news_of_block (cs := #[.int .i64 1, .int .i64 q.size, .string ⟨#[]⟩, .int .i64 2, .int .i64 0, .string u]) (t := 43) (fr := (0, 0)) hNew) (by simp [Value.oneCell'])
                    (by omega) (by unfold maxLen; omega) (by omega) (by simp; omega) (wo.heap.size + 1) (by simp) ?_; intro gg cap1 wx hown1 hgrow hat hlt))
              all_goals
                go_wp2_with fail
                refine Met.intro ?_
                try go_simp
                go_step
                (repeat apply Exists.intro)
                refine ⟨?rel, rfl⟩
                case rel => exact ⟨_, cap1, rfl, rfl, hAll.addR (ps := [keepQ q, putQ u]) rfl rfl hown1 hgrow hat (size_one _ _), below_own' (HB1.out.alloc hz1 _).drew hAll.r hgrow (by rw [size_one]; omega)⟩
            case rest =>
              obtain ⟨ro1, rc1, rfl, rfl, hlr, hb⟩ := hcut
              have hz2 := hb.size
              obtain ⟨x0, x1, v0, v1, e1, e2⟩ := HCL.out wc hb
              have hb0 : w6.heap.size < wc.heap.size := by have := HZ7.out; omega
              have hb1 : w6.heap.size + 1 < wc.heap.size := by have := HZ7.out; omega
              have HLR2 : Hid (LR wc w7.heap.size (L ++ [putQ q, keepQ u]) (R ++ [keepQ q, putQ u]) (.slice (some lo1) (L.length + 2) lc1) (.slice (some ro1) (R.length + 2) rc1)) := hlr
              have HB2 : Hid (Below w7.heap.size w7 wc) := hb
              clear hlr hb
              by_cases hkn2 : k = n
              · have hkk : ((k : Int) == (ks.length : Int)) = true := by have := HQ.out.2.2.1; simp; omega
                have HE : Hid (L ++ [putQ q, keepQ u] = leftL qs ks us ls ∧ R ++ [keepQ q, putQ u] = leftR qs ks us ls) := by
                  obtain ⟨t1, t2⟩ := HT.out
                  obtain ⟨l1, l2, l3, l4, l5, l6⟩ := HQ.out
                  obtain ⟨s1, s2⟩ := left_last (ls := ls) HZ.out.1 (by omega : ks.length = k) HZ.out.2
                  rw [s1] at t1
                  rw [s2] at t2
                  exact ⟨t1, t2⟩
                have HEW : Hid (Below w.heap.size w wc) := HE7.out.trans (HB2.out.mono HE7.out.size)
                have hl2 := HLR2.out
                rw [HE.out.1, HE.out.2] at hl2
                have HLL : Hid (L.length + 2 = (leftL qs ks us ls).length ∧ R.length + 2 = (leftR qs ks us ls).length) := by
                  rw [← HE.out.1, ← HE.out.2]; exact ⟨by simp, by simp⟩
                rw [HLL.out.1, HLL.out.2]
                rw [HLL.out.1, HLL.out.2] at hl2
                obtain ⟨LL, HLE⟩ : ∃ LL, Hid (leftL qs ks us ls = LL) := ⟨_, rfl⟩
                obtain ⟨RR, HRE⟩ : ∃ RR, Hid (leftR qs ks us ls = RR) := ⟨_, rfl⟩
                rw [HLE.out, HRE.out] at hl2 HRD HBL ⊢
                obtain ⟨x8, c8, ex8, hp8⟩ := parts_own hl2.l HBL.out.1
                obtain ⟨y8, d8, ey8, hq8⟩ := parts_own hl2.r HBL.out.2
                simp only [Value.slice.injEq, true_and] at ex8 ey8
                obtain ⟨rfl, rfl⟩ := ex8
                obtain ⟨rfl, rfl⟩ := ey8
                have HP8 : Hid (PartsAt wc wc.heap.size (some lo1) LL) := hp8
                have HQ8 : Hid (PartsAt wc wc.heap.size (some ro1) RR) := hq8
                clear hkn2 hl2 hp8 hq8 HE HLL
                go_wp2_with fail
                refine (Of_any (some lo1) LL lc1 _ HP8.out HRD.out.1.1).mono ?_
                rintro e w9 ⟨pv9, kv9, rfl, hq9, hk9, hb9⟩
                have HE9 : Hid (Below w.heap.size w w9) := HEW.out.trans (hb9.mono HEW.out.size)
                have HQ9 : Hid (PartsAt w9 w9.heap.size (some ro1) RR) := HQ8.out.here hb9 (Nat.le_refl _)
                have HPV9 : Hid (w9.ownsRow wc.heap.size 9 1 pv9 (ofAll LL).1.length ((ofAll LL).1.map Value.string)) := hq9
                have HKV9 : Hid (w9.ownsRow wc.heap.size 4 1 kv9 (ofAll LL).2.length ((ofAll LL).2.map Value.bool)) := hk9
                clear hq9 hk9 hb9
                have HOL : Hid ((ofAll LL).1.length = (ofAll LL).2.length + 1 ∧ (ofAll LL).2.length ≤ 800000 ∧ (∀ q ∈ (ofAll LL).1, q.size ≤ 1000000)) := by
                  have h1 := HRD.out.1.1
                  refine ⟨ofAll_len LL, ?_, fun q hq => ?_⟩
                  · have := ofAll_kept h1.2; have := h1.1; omega
                  · have := ofAll_size h1.2 q hq; have := h1.1; omega
                have HOR : Hid ((ofAll RR).1.length = (ofAll RR).2.length + 1 ∧ (ofAll RR).2.length ≤ 800000 ∧ (∀ q ∈ (ofAll RR).1, q.size ≤ 1000000)) := by
                  have h1 := HRD.out.2.1
                  refine ⟨ofAll_len RR, ?_, fun q hq => ?_⟩
                  · have := ofAll_kept h1.2; have := h1.1; omega
                  · have := ofAll_size h1.2 q hq; have := h1.1; omega
                have HDL : Hid (deltaP (ofAll LL).1 (ofAll LL).2 = canonW (meetX (wordL la) (wordL lb)) ∧ deltaP (ofAll RR).1 (ofAll RR).2 = canonW (meetY (wordL la) (wordL lb))) := by
                  obtain ⟨l1, l2, l3, l4, l5, l6⟩ := HQ.out
                  obtain ⟨⟨g1, g2⟩, ⟨g3, g4⟩, g5, g6⟩ := left_good l5 l6 ks ls
                  rw [HLE.out] at g1
                  rw [HRE.out] at g3
                  exact ⟨by rw [deltaP_all g1.kinds]; exact HRD.out.1.2.1, by rw [deltaP_all g3.kinds]; exact HRD.out.2.2.1⟩
                have HBC : Hid (Bound (canonW (meetX (wordL la) (wordL lb))) ∧ Bound (canonW (meetY (wordL la) (wordL lb)))) := by
                  have h1 := (gather_bound HRD.out.1.1).1
                  have h2 := (gather_bound HRD.out.2.1).1
                  rw [HRD.out.1.2.1] at h1
                  rw [HRD.out.2.2.1] at h2
                  exact ⟨h1, h2⟩
                have HSX : Hid (sizesE (canonW (meetX (wordL la) (wordL lb))) = meetE la lb ∧ sizesE (canonW (meetY (wordL la) (wordL lb))) = meetE la lb) := ⟨HRD.out.1.2.2.1, HRD.out.2.2.2.1⟩
                go_wp2_with fail
                refine (PlDelta_any wc.heap.size pv9 kv9 (ofAll LL).1 (ofAll LL).2 _ HPV9.out HKV9.out HOL.out.1 HOL.out.2.1 HOL.out.2.2).mono ?_
                rintro e w10 ⟨ov, rfl, hown, hb10⟩
                rw [HDL.out.1] at hown
                obtain ⟨MX, HMX⟩ : ∃ MX, Hid (canonW (meetX (wordL la) (wordL lb)) = MX) := ⟨_, rfl⟩
                obtain ⟨MY, HMY⟩ : ∃ MY, Hid (canonW (meetY (wordL la) (wordL lb)) = MY) := ⟨_, rfl⟩
                rw [HMX.out] at hown HBC HSX HDL
                rw [HMY.out] at HBC HSX HDL
                obtain ⟨x10, c10, rfl, hp10⟩ := parts_own hown HBC.out.1
                have HE10 : Hid (Below w.heap.size w w10) := HE9.out.trans (hb10.mono HE9.out.size)
                have HQ10 : Hid (PartsAt w10 w10.heap.size (some ro1) RR) := HQ9.out.here hb10 (Nat.le_refl _)
                have HP10 : Hid (PartsAt w10 w10.heap.size x10 MX) := hp10
                clear hown hp10 hb10
                go_wp2_with fail
                refine (Of_any (some ro1) RR rc1 _ HQ10.out HRD.out.2.1).mono ?_
                rintro e w11 ⟨pv11, kv11, rfl, hq11, hk11, hb11⟩
                have HE11 : Hid (Below w.heap.size w w11) := HE10.out.trans (hb11.mono HE10.out.size)
                have HP11 : Hid (PartsAt w11 w11.heap.size x10 MX) := HP10.out.here hb11 (Nat.le_refl _)
                have HPV11 : Hid (w11.ownsRow w10.heap.size 9 1 pv11 (ofAll RR).1.length ((ofAll RR).1.map Value.string)) := hq11
                have HKV11 : Hid (w11.ownsRow w10.heap.size 4 1 kv11 (ofAll RR).2.length ((ofAll RR).2.map Value.bool)) := hk11
                clear hq11 hk11 hb11
                go_wp2_with fail
                refine (PlDelta_any w10.heap.size pv11 kv11 (ofAll RR).1 (ofAll RR).2 _ HPV11.out HKV11.out HOR.out.1 HOR.out.2.1 HOR.out.2.2).mono ?_
                rintro e w12 ⟨ov, rfl, hown, hb12⟩
                rw [HDL.out.2] at hown
                obtain ⟨y12, c12, rfl, hp12⟩ := parts_own hown HBC.out.2
                have HE12 : Hid (Below w.heap.size w w12) := HE11.out.trans (hb12.mono HE11.out.size)
                have HP12 : Hid (PartsAt w12 w12.heap.size x10 MX) := HP11.out.here hb12 (Nat.le_refl _)
                have HY12 : Hid (PartsAt w12 w12.heap.size y12 MY) := hp12
                clear hown hp12 hb12
                have HE13 : Hid (Below w.heap.size w (w12.alloc (.cells #[.slice x10 MX.length c10, .slice y12 MY.length c12] 23))) := HE12.out.alloc HE12.out.size _
                have HP13 : Hid (PartsAt (w12.alloc (.cells #[.slice x10 MX.length c10, .slice y12 MY.length c12] 23)) (w12.alloc (.cells #[.slice x10 MX.length c10, .slice y12 MY.length c12] 23)).heap.size x10 MX) := HP12.out.here ((Below.refl _ _).alloc (Nat.le_refl _) _) (Nat.le_refl _)
                have HY13 : Hid (PartsAt (w12.alloc (.cells #[.slice x10 MX.length c10, .slice y12 MY.length c12] 23)) (w12.alloc (.cells #[.slice x10 MX.length c10, .slice y12 MY.length c12] 23)).heap.size y12 MY) := HY12.out.here ((Below.refl _ _).alloc (Nat.le_refl _) _) (Nat.le_refl _)
                go_wp2_with fail
                refine wp_loop_rounds 3 ?_
                rw [rounds_succ]
                go_wp2_with fail
                refine (Delta_any x10 MX c10 _ HP13.out).mono ?_
                rintro e w14 ⟨rfl, hb14⟩
                have HE14 : Hid (Below w.heap.size w w14) := HE13.out.trans (hb14.mono HE13.out.size)
                have s1 : w14.cell? ⟨w12.heap.size, 1, none⟩ = some (.slice y12 MY.length c12) := by
                  rw [hb14.cell (p := ⟨w12.heap.size, 1, none⟩) (by simp), cell_of_row _ _ _ _ _ _ (Deep.blk_alloc_new w12 _)]; rfl
                have HP14 : Hid (PartsAt w14 w14.heap.size x10 MX) := HP13.out.here hb14 (Nat.le_refl _)
                have HY14 : Hid (PartsAt w14 w14.heap.size y12 MY) := HY13.out.here hb14 (Nat.le_refl _)
                clear hb14
                rw [HSX.out.1]
                by_cases hm : meetE la lb = 0
                · have rm : (meetE la lb != 0) = false := by simp [hm]
                  have HF : Hid (meetL la lb = MX ∧ meetR la lb = MY ∧ meetE la lb = 0) := ⟨by rw [meetL, if_pos hm, HMX.out], by rw [meetR, if_pos hm, HMY.out], hm⟩
                  clear hm
                  go_wp2_with fail
                  rw [rounds_succ]
                  go_wp2_with fail
                  refine (Delta_any y12 MY c12 _ HY14.out).mono ?_
                  rintro e w15 ⟨rfl, hb15⟩
                  have HE15 : Hid (Below w.heap.size w w15) := HE14.out.trans (hb15.mono HE14.out.size)
                  have HP15 : Hid (PartsAt w15 w15.heap.size x10 MX) := HP14.out.here hb15 (Nat.le_refl _)
                  have HY15 : Hid (PartsAt w15 w15.heap.size y12 MY) := HY14.out.here hb15 (Nat.le_refl _)
                  clear hb15
                  rw [HSX.out.2]
                  go_wp2_with fail
                  rw [rounds_succ]
                  go_wp2_with fail
                  go_ret3
                  rw [HF.out.1, HF.out.2.1, HF.out.2.2]
                  exact ⟨x10, c10, y12, c12, rfl, HP15.out, HY15.out, HE15.out⟩
                · have rm : (meetE la lb != 0) = true := by simp [hm]
                  have HF : Hid (meetL la lb = [] ∧ meetR la lb = []) := ⟨by rw [meetL, if_neg hm], by rw [meetR, if_neg hm]⟩
                  clear hm
                  go_wp2_with fail
                  go_ret3
                  rw [HF.out.1, HF.out.2]
                  exact ⟨none, 0, none, 0, rfl, ⟨by simp, Nat.le_refl _, by simp, by simp⟩, ⟨by simp, Nat.le_refl _, by simp, by simp⟩, HE14.out⟩
              · have hkk : ((k : Int) == (ks.length : Int)) = false := by have := HQ.out.2.2.1; simp; omega
                obtain ⟨b0, hb1'⟩ : ∃ b0, ks[k]? = some b0 := ⟨ks[k]'(by have := HQ.out.2.2.1; omega), List.getElem?_eq_getElem _⟩
                obtain ⟨c0, hc1'⟩ : ∃ c0, ls[k]? = some c0 := ⟨ls[k]'(by have := HQ.out.2.2.2.1; omega), List.getElem?_eq_getElem _⟩
                obtain ⟨h1, ch1, hh, ea2, hha⟩ := own_at HKA.out (show (ks.map Value.bool)[k]? = some (.bool b0) by simp [hb1'])
                simp only [Value.slice.injEq, true_and] at hh
                obtain ⟨rfl, rfl⟩ := hh
                obtain ⟨h2, ch2, hh, eb2, hhb⟩ := own_at HKB.out (show (ls.map Value.bool)[k]? = some (.bool c0) by simp [hc1'])
                simp only [Value.slice.injEq, true_and] at hh
                obtain ⟨rfl, rfl⟩ := hh
                have HBO : Hid (∀ W, Below w7.heap.size w7 W → W.cell? ⟨h1, k, none⟩ = some (.bool b0) ∧ W.cell? ⟨h2, k, none⟩ = some (.bool c0) ∧ h1 < W.heap.size ∧ h2 < W.heap.size) := by
                  intro W hW
                  have hz6 := HZ7.out
                  have hz9 := hW.size
                  have h6 := HB67.out.trans (hW.mono (by omega))
                  exact ⟨(h6.cell (p := ⟨h1, k, none⟩) hha).trans ea2, (h6.cell (p := ⟨h2, k, none⟩) hhb).trans eb2, by omega, by omega⟩
                have i3 : (k : Int) < (ks.length : Int) := by have := HQ.out.2.2.1; omega
                have i4 : (k : Int) < (ls.length : Int) := by have := HQ.out.2.2.2.1; omega
                have HS : Hid (leftL qs ks us ls = (L ++ [putQ q, keepQ u]) ++ ((if c0 = true then [oneQ b0] else []) ++ leftL (qs.drop (k + 1)) (ks.drop (k + 1)) (us.drop (k + 1)) (ls.drop (k + 1))) ∧ leftR qs ks us ls = (R ++ [keepQ q, putQ u]) ++ ((if b0 = true then [oneQ c0] else []) ++ leftR (qs.drop (k + 1)) (ks.drop (k + 1)) (us.drop (k + 1)) (ls.drop (k + 1)))) := by
                  obtain ⟨s1, s2⟩ := left_step HZ.out.1 hb1' HZ.out.2 hc1'
                  obtain ⟨t1, t2⟩ := HT.out
                  rw [← t1, ← t2, s1, s2]
                  exact ⟨by simp, by simp⟩
                obtain ⟨f1, f2, f3, f4⟩ := HBO.out wc HB2.out
                clear hb1' hc1' ea2 eb2
                cases b0 with
                | true =>
                 cases c0 with
                 | true =>
                  go_wp2_with fail
                  refine (b2i_any true _).mono ?_
                  rintro e we1 ⟨rfl, hwe1⟩
                  subst we1
                  have hAll1 := HLR2.out.alloc (.cells #[.int .i64 1, .int .i64 1, .string ⟨#[]⟩] 43)
                  have hNew1 := heap_alloc_new wc (.cells #[.int .i64 1, .int .i64 1, .string ⟨#[]⟩] 43)
                  have hOwn1 := hAll1.l
                  simp only [List.length_append, List.length_cons, List.length_nil, Nat.zero_add, Nat.reduceAdd] at hOwn1
                  go_wp2_with (at_builtin; refine wpList_append_lies _ rfl _ _ 23 rfl w7.heap.size 43 ip _ 3 32 Try.underlying23 hip hp0 hp1 hp2 rfl (by decide) _ _ _ rfl hOwn1 ⟨wc.heap.size, 0, none⟩ 1 1 [.int .i64 1, .int .i64 1, .string ⟨#[]⟩] rfl rfl (World.news_of_block (cs := #[.int .i64 1, .int .i64 1, .string ⟨#[]⟩]) (t := 43) (fr := (0, 0)) hNew1) (by simp [Value.oneCell']) (by decide) ?c3 ?c4 ?c5 _ rfl ?_)
                  case c3 => unfold maxLen; omega
                  case c4 => omega
                  case c5 => first | omega | (simp; omega)
                  intro gg1 cap1 wn1 hown1 hgrow1 hat1 hlt1
                  have HN1 : Hid (LR wn1 w7.heap.size ((L ++ [putQ q, keepQ u]) ++ [oneQ true]) (R ++ [keepQ q, putQ u]) (.slice (some ⟨gg1, 0, none⟩) (L.length + 2 + 1) cap1) (.slice (some ro1) (R.length + 2) rc1)) := by
                    have hh := hAll1.addL (ps := [oneQ true]) (m := 1) (g := gg1) (cap := cap1) (w' := wn1) (by rfl) rfl (by simp only [List.length_append, List.length_cons, List.length_nil, Nat.zero_add, Nat.reduceAdd]; exact hown1) hgrow1 hat1 (Deep.nblk_alloc _ _)
                    simp only [List.length_append, List.length_cons, List.length_nil, Nat.zero_add, Nat.reduceAdd] at hh
                    exact hh
                  have HBN1 : Hid (Below w7.heap.size w7 wn1) := below_own' (HB2.out.alloc hz2 _) hAll1.l hgrow1 (by simp only [Deep.nblk_alloc]; omega)
                  have hzz1 := HBN1.out.size
                  obtain ⟨x01, x11, v01, v11, e11, e21⟩ := HCL.out wn1 HBN1.out
                  obtain ⟨f11, f21, f31, f41⟩ := HBO.out wn1 HBN1.out
                  clear hown1 hgrow1 hat1 hlt1 hAll1 hNew1 hOwn1
                  go_wp2_with fail
                  refine (b2i_any true _).mono ?_
                  rintro e we2 ⟨rfl, hwe2⟩
                  subst we2
                  have hAll2 := HN1.out.alloc (.cells #[.int .i64 1, .int .i64 1, .string ⟨#[]⟩] 43)
                  have hNew2 := heap_alloc_new wn1 (.cells #[.int .i64 1, .int .i64 1, .string ⟨#[]⟩] 43)
                  have hOwn2 := hAll2.r
                  simp only [List.length_append, List.length_cons, List.length_nil, Nat.zero_add, Nat.reduceAdd] at hOwn2
                  go_wp2_with (at_builtin; refine wpList_append_lies _ rfl _ _ 23 rfl w7.heap.size 43 ip _ 3 32 Try.underlying23 hip hp0 hp1 hp2 rfl (by decide) _ _ _ rfl hOwn2 ⟨wn1.heap.size, 0, none⟩ 1 1 [.int .i64 1, .int .i64 1, .string ⟨#[]⟩] rfl rfl (World.news_of_block (cs := #[.int .i64 1, .int .i64 1, .string ⟨#[]⟩]) (t := 43) (fr := (0, 0)) hNew2) (by simp [Value.oneCell']) (by decide) ?c3 ?c4 ?c5 _ rfl ?_)
                  case c3 => unfold maxLen; omega
                  case c4 => omega
                  case c5 => first | omega | (simp; omega)
                  intro gg2 cap2 wn2 hown2 hgrow2 hat2 hlt2
                  have HN2 : Hid (LR wn2 w7.heap.size ((L ++ [putQ q, keepQ u]) ++ [oneQ true]) ((R ++ [keepQ q, putQ u]) ++ [oneQ true]) (.slice (some ⟨gg1, 0, none⟩) (L.length + 2 + 1) cap1) (.slice (some ⟨gg2, 0, none⟩) (R.length + 2 + 1) cap2)) := by
                    have hh := hAll2.addR (ps := [oneQ true]) (m := 1) (g := gg2) (cap := cap2) (w' := wn2) (by rfl) rfl (by simp only [List.length_append, List.length_cons, List.length_nil, Nat.zero_add, Nat.reduceAdd]; exact hown2) hgrow2 hat2 (Deep.nblk_alloc _ _)
                    simp only [List.length_append, List.length_cons, List.length_nil, Nat.zero_add, Nat.reduceAdd] at hh
                    exact hh
                  have HBN2 : Hid (Below w7.heap.size w7 wn2) := below_own' (HBN1.out.alloc hzz1 _) hAll2.r hgrow2 (by simp only [Deep.nblk_alloc]; omega)
                  have hzz2 := HBN2.out.size
                  obtain ⟨x02, x12, v02, v12, e12, e22⟩ := HCL.out wn2 HBN2.out
                  obtain ⟨f12, f22, f32, f42⟩ := HBO.out wn2 HBN2.out
                  clear hown2 hgrow2 hat2 hlt2 hAll2 hNew2 hOwn2
                  go_wp2_with fail
                  go_roundg (n - (k + 1))
                  case measure => omega
                  case rel =>
                    refine ⟨k + 1, _, _, by omega, by go_num, HN2.out, by simp; omega, by simp; omega, ?_, ?_, HBN2.out⟩
                    · rw [HS.out.1]; simp
                    · rw [HS.out.2]; simp
                 | false =>
                  go_wp2_with fail
                  refine (b2i_any false _).mono ?_
                  rintro e we1 ⟨rfl, hwe1⟩
                  subst we1
                  have hAll1 := HLR2.out.alloc (.cells #[.int .i64 3, .int .i64 1, .string ⟨#[]⟩] 43)
                  have hNew1 := heap_alloc_new wc (.cells #[.int .i64 3, .int .i64 1, .string ⟨#[]⟩] 43)
                  have hOwn1 := hAll1.r
                  simp only [List.length_append, List.length_cons, List.length_nil, Nat.zero_add, Nat.reduceAdd] at hOwn1
                  go_wp2_with (at_builtin; refine wpList_append_lies _ rfl _ _ 23 rfl w7.heap.size 43 ip _ 3 32 Try.underlying23 hip hp0 hp1 hp2 rfl (by decide) _ _ _ rfl hOwn1 ⟨wc.heap.size, 0, none⟩ 1 1 [.int .i64 3, .int .i64 1, .string ⟨#[]⟩] rfl rfl (World.news_of_block (cs := #[.int .i64 3, .int .i64 1, .string ⟨#[]⟩]) (t := 43) (fr := (0, 0)) hNew1) (by simp [Value.oneCell']) (by decide) ?c3 ?c4 ?c5 _ rfl ?_)
                  case c3 => unfold maxLen; omega
                  case c4 => omega
                  case c5 => first | omega | (simp; omega)
                  intro gg1 cap1 wn1 hown1 hgrow1 hat1 hlt1
                  have HN1 : Hid (LR wn1 w7.heap.size (L ++ [putQ q, keepQ u]) ((R ++ [keepQ q, putQ u]) ++ [oneQ false]) (.slice (some lo1) (L.length + 2) lc1) (.slice (some ⟨gg1, 0, none⟩) (R.length + 2 + 1) cap1)) := by
                    have hh := hAll1.addR (ps := [oneQ false]) (m := 1) (g := gg1) (cap := cap1) (w' := wn1) (by rfl) rfl (by simp only [List.length_append, List.length_cons, List.length_nil, Nat.zero_add, Nat.reduceAdd]; exact hown1) hgrow1 hat1 (Deep.nblk_alloc _ _)
                    simp only [List.length_append, List.length_cons, List.length_nil, Nat.zero_add, Nat.reduceAdd] at hh
                    exact hh
                  have HBN1 : Hid (Below w7.heap.size w7 wn1) := below_own' (HB2.out.alloc hz2 _) hAll1.r hgrow1 (by simp only [Deep.nblk_alloc]; omega)
                  have hzz1 := HBN1.out.size
                  obtain ⟨x01, x11, v01, v11, e11, e21⟩ := HCL.out wn1 HBN1.out
                  obtain ⟨f11, f21, f31, f41⟩ := HBO.out wn1 HBN1.out
                  clear hown1 hgrow1 hat1 hlt1 hAll1 hNew1 hOwn1
                  go_wp2_with fail
                  go_roundg (n - (k + 1))
                  case measure => omega
                  case rel =>
                    refine ⟨k + 1, _, _, by omega, by go_num, HN1.out, by simp; omega, by simp; omega, ?_, ?_, HBN1.out⟩
                    · rw [HS.out.1]; simp
                    · rw [HS.out.2]; simp
                | false =>
                 cases c0 with
                 | true =>
                  go_wp2_with fail
                  refine (b2i_any false _).mono ?_
                  rintro e we1 ⟨rfl, hwe1⟩
                  subst we1
                  have hAll1 := HLR2.out.alloc (.cells #[.int .i64 3, .int .i64 1, .string ⟨#[]⟩] 43)
                  have hNew1 := heap_alloc_new wc (.cells #[.int .i64 3, .int .i64 1, .string ⟨#[]⟩] 43)
                  have hOwn1 := hAll1.l
                  simp only [List.length_append, List.length_cons, List.length_nil, Nat.zero_add, Nat.reduceAdd] at hOwn1
                  go_wp2_with (at_builtin; refine wpList_append_lies _ rfl _ _ 23 rfl w7.heap.size 43 ip _ 3 32 Try.underlying23 hip hp0 hp1 hp2 rfl (by decide) _ _ _ rfl hOwn1 ⟨wc.heap.size, 0, none⟩ 1 1 [.int .i64 3, .int .i64 1, .string ⟨#[]⟩] rfl rfl (World.news_of_block (cs := #[.int .i64 3, .int .i64 1, .string ⟨#[]⟩]) (t := 43) (fr := (0, 0)) hNew1) (by simp [Value.oneCell']) (by decide) ?c3 ?c4 ?c5 _ rfl ?_)
                  case c3 => unfold maxLen; omega
                  case c4 => omega
                  case c5 => first | omega | (simp; omega)
                  intro gg1 cap1 wn1 hown1 hgrow1 hat1 hlt1
                  have HN1 : Hid (LR wn1 w7.heap.size ((L ++ [putQ q, keepQ u]) ++ [oneQ false]) (R ++ [keepQ q, putQ u]) (.slice (some ⟨gg1, 0, none⟩) (L.length + 2 + 1) cap1) (.slice (some ro1) (R.length + 2) rc1)) := by
                    have hh := hAll1.addL (ps := [oneQ false]) (m := 1) (g := gg1) (cap := cap1) (w' := wn1) (by rfl) rfl (by simp only [List.length_append, List.length_cons, List.length_nil, Nat.zero_add, Nat.reduceAdd]; exact hown1) hgrow1 hat1 (Deep.nblk_alloc _ _)
                    simp only [List.length_append, List.length_cons, List.length_nil, Nat.zero_add, Nat.reduceAdd] at hh
                    exact hh
                  have HBN1 : Hid (Below w7.heap.size w7 wn1) := below_own' (HB2.out.alloc hz2 _) hAll1.l hgrow1 (by simp only [Deep.nblk_alloc]; omega)
                  have hzz1 := HBN1.out.size
                  obtain ⟨x01, x11, v01, v11, e11, e21⟩ := HCL.out wn1 HBN1.out
                  obtain ⟨f11, f21, f31, f41⟩ := HBO.out wn1 HBN1.out
                  clear hown1 hgrow1 hat1 hlt1 hAll1 hNew1 hOwn1
                  go_wp2_with fail
                  go_roundg (n - (k + 1))
                  case measure => omega
                  case rel =>
                    refine ⟨k + 1, _, _, by omega, by go_num, HN1.out, by simp; omega, by simp; omega, ?_, ?_, HBN1.out⟩
                    · rw [HS.out.1]; simp
                    · rw [HS.out.2]; simp
                 | false =>
                  go_wp2_with fail
                  go_roundg (n - (k + 1))
                  case measure => omega
                  case rel =>
                    refine ⟨k + 1, _, _, by omega, by go_num, HLR2.out, by simp; omega, by simp; omega, ?_, ?_, HB2.out⟩
                    · rw [HS.out.1]; simp
                    · rw [HS.out.2]; simp
      · have g3 : (inI la != inI lb) = true := by simp [z3]
        have HR : Hid (meetE la lb = 4 ∧ meetL la lb = [] ∧ meetR la lb = []) := by
          have e : meetE la lb = 4 := by rw [meetE, if_pos HZ1.out, if_pos HZ2.out, if_neg z3]
          exact ⟨e, by rw [meetL, if_neg (by omega)], by rw [meetR, if_neg (by omega)]⟩
        clear z3
        go_wp2_with fail
        go_ret3
        rw [HR.out.1, HR.out.2.1, HR.out.2.2]
        exact ⟨none, 0, none, 0, rfl, ⟨by simp, Nat.le_refl _, by simp, by simp⟩, ⟨by simp, Nat.le_refl _, by simp, by simp⟩, HE4.out⟩
    · have g2 : (sizesE lb != 0) = true := by simp [z2]
      have HR : Hid (meetE la lb = sizesE lb ∧ meetL la lb = [] ∧ meetR la lb = []) := by
        have e : meetE la lb = sizesE lb := by rw [meetE, if_pos HZ1.out, if_neg z2]
        exact ⟨e, by rw [meetL, if_neg (by omega)], by rw [meetR, if_neg (by omega)]⟩
      clear z2
      go_wp2_with fail
      go_ret3
      rw [HR.out.1, HR.out.2.1, HR.out.2.2]
      exact ⟨none, 0, none, 0, rfl, ⟨by simp, Nat.le_refl _, by simp, by simp⟩, ⟨by simp, Nat.le_refl _, by simp, by simp⟩, HE2.out⟩
  · have g1 : (sizesE la != 0) = true := by simp [z1]
    have HR : Hid (meetE la lb = sizesE la ∧ meetL la lb = [] ∧ meetR la lb = []) := by
      have e : meetE la lb = sizesE la := by rw [meetE, if_neg z1]
      exact ⟨e, by rw [meetL, if_neg (by omega)], by rw [meetR, if_neg (by omega)]⟩
    clear z1
    go_wp2_with fail
    go_ret3
    rw [HR.out.1, HR.out.2.1, HR.out.2.2]
    exact ⟨none, 0, none, 0, rfl, ⟨by simp, Nat.le_refl _, by simp, by simp⟩, ⟨by simp, Nat.le_refl _, by simp, by simp⟩, HE1.out⟩

end Go.Proofs.Ytndhamcipbecfaa
