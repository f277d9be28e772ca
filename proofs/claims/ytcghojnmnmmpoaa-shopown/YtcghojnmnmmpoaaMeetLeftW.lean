/- What meet.left answers. -/
import Derived.Test.YtcghojnmnmmpoaaMeetLeft
import Derived.Deep.LoopGhost
namespace Go.Proofs.Ytcghojnmnmmpoaa
open Go.RowKit
set_option linter.unusedSimpArgs false
set_option linter.unusedVariables false

set_option maxRecDepth 20000 in
set_option maxHeartbeats 8000000 in
theorem left_any (Ba Bb : Nat) (va vb : Value) (qs us : List ByteArray) (ks ls : List Bool) (n : Nat) (w : World) (hA : w.ownsRow Ba 214 2 va (n + 1) (plcCells (zipPl qs ks))) (hB : w.ownsRow Bb 214 2 vb (n + 1) (plcCells (zipPl us ls)))
    (h1 : qs.length = ks.length + 1) (h2 : us.length = ls.length + 1) (h3 : ks.length = n) (h4 : ls.length = n) (h5 : n ≤ 500) (hq5 : ∀ q ∈ qs, q.size ≤ 500) (hu5 : ∀ q ∈ us, q.size ≤ 500) :
    Calls Try.prog 127 #[va, vb] w fun e w' => ∃ lv rv, e = .returned (.tuple #[lv, rv]) ∧ LR w' w.heap.size (leftL qs ks us ls) (leftR qs ks us ls) lv rv ∧ Below w.heap.size w w' := by
  obtain ⟨ip, hip, hp0, hp1, hp2⟩ := info_parts infoPart
  obtain ⟨q0, c0, z0, _⟩ := zip_at h1 (i := 0) (Nat.zero_le _)
  obtain ⟨u0, d0, y0, _⟩ := zip_at h2 (i := 0) (Nat.zero_le _)
  obtain ⟨ga, ca, rfl, _, _, hga, _⟩ := own_plc hA z0
  obtain ⟨gb, cb, rfl, _, _, hgb, _⟩ := own_plc hB y0
  have HA : Hid (w.ownsRow Ba 214 2 (.slice (some ⟨ga, 0, none⟩) (n + 1) ca) (n + 1) (plcCells (zipPl qs ks))) := hA
  have HB : Hid (w.ownsRow Bb 214 2 (.slice (some ⟨gb, 0, none⟩) (n + 1) cb) (n + 1) (plcCells (zipPl us ls))) := hB
  have HL : Hid (qs.length = ks.length + 1 ∧ us.length = ls.length + 1 ∧ ks.length = n ∧ ls.length = n ∧ (∀ q ∈ qs, q.size ≤ 500) ∧ (∀ q ∈ us, q.size ≤ 500)) := ⟨h1, h2, h3, h4, hq5, hu5⟩
  clear hA hB h1 h2 h3 h4 hq5 hu5 z0 y0
  go_enter Try.func127, Try.ntmps127
  go_wp2_with fail
  go_loopg [4, 5, 13] n (fun gk lv rv i wr => ∃ (k : Nat) (L R : List Pt), k + gk = n ∧ i = .int .i64 k ∧ LR wr w.heap.size L R lv rv ∧ L.length ≤ 3 * k ∧ R.length ≤ 3 * k ∧ L ++ leftL (qs.drop k) (ks.drop k) (us.drop k) (ls.drop k) = leftL qs ks us ls ∧ R ++ leftR (qs.drop k) (ks.drop k) (us.drop k) (ls.drop k) = leftR qs ks us ls ∧ Below w.heap.size w wr)
  case atStart => exact ⟨0, [], [], by omega, rfl, LR.start _ _, by simp, by simp, by simp, by simp, Below.refl _ _⟩
  case round =>
    obtain ⟨k, L, R, hk, rfl, hlr, hlL, hlR, htL, htR, hb⟩ := hrel
    have hz := hb.size
    obtain ⟨l1, l2, l3, l4, l5, l6⟩ := HL.out
    obtain ⟨q, cq, z1, z2, z3⟩ := zip_at l1 (i := k) (by omega)
    obtain ⟨u, cu, y1, y2, y3⟩ := zip_at l2 (i := k) (by omega)
    obtain ⟨g', c', e', ea1, ea2, _⟩ := own_plc HA.out z1
    simp only [Value.slice.injEq, Option.some.injEq, Addr.mk.injEq, and_true, true_and] at e'
    obtain ⟨rfl, rfl⟩ := e'
    obtain ⟨g', c', e', eb1, eb2, _⟩ := own_plc HB.out y1
    simp only [Value.slice.injEq, Option.some.injEq, Addr.mk.injEq, and_true, true_and] at e'
    obtain ⟨rfl, rfl⟩ := e'
    have HEA : Hid (w.cell? ⟨ga, k * 2, none⟩ = some (.string q) ∧ w.cell? ⟨ga, k * 2 + 1, none⟩ = some (.bool cq) ∧ w.cell? ⟨gb, k * 2, none⟩ = some (.string u) ∧ w.cell? ⟨gb, k * 2 + 1, none⟩ = some (.bool cu)) := ⟨ea1, ea2, eb1, eb2⟩
    have a1 : wr.cell? ⟨ga, k * 2, none⟩ = some (.string q) := (hb.cell (p := ⟨ga, k * 2, none⟩) hga).trans ea1
    have a2 : wr.cell? ⟨ga, k * 2 + 1, none⟩ = some (.bool cq) := (hb.cell (p := ⟨ga, k * 2 + 1, none⟩) hga).trans ea2
    have b1 : wr.cell? ⟨gb, k * 2, none⟩ = some (.string u) := (hb.cell (p := ⟨gb, k * 2, none⟩) hgb).trans eb1
    have b2 : wr.cell? ⟨gb, k * 2 + 1, none⟩ = some (.bool cu) := (hb.cell (p := ⟨gb, k * 2 + 1, none⟩) hgb).trans eb2
    have hgaw : ga < wr.heap.size := by omega
    have hgbw : gb < wr.heap.size := by omega
    have hkn : k < n + 1 := by omega
    have q5 := l5 q (List.mem_of_getElem? z2)
    have u5 := l6 u (List.mem_of_getElem? y2)
    obtain ⟨lo, lc, rfl⟩ := slice_form' hlr.l
    obtain ⟨ro, rc, rfl⟩ := slice_form' hlr.r
    have HLR : Hid (LR wr w.heap.size L R (.slice lo L.length lc) (.slice ro R.length rc)) := hlr
    have HBW : Hid (Below w.heap.size w wr) := hb
    have HT : Hid (L ++ leftL (qs.drop k) (ks.drop k) (us.drop k) (ls.drop k) = leftL qs ks us ls ∧ R ++ leftR (qs.drop k) (ks.drop k) (us.drop k) (ls.drop k) = leftR qs ks us ls) := ⟨htL, htR⟩
    have HZ : Hid (qs[k]? = some q ∧ ((k = ks.length ∧ cq = false) ∨ ∃ b, ks[k]? = some b ∧ cq = !b)) := ⟨z2, z3⟩
    have HY : Hid (us[k]? = some u ∧ ((k = ls.length ∧ cu = false) ∨ ∃ b, ls[k]? = some b ∧ cu = !b)) := ⟨y2, y3⟩
    clear hlr hb htL htR z1 z2 z3 y1 y2 y3 ea1 ea2 eb1 eb2 l1 l2 l3 l4 l5 l6
    go_upto_region 5 with fail
    go_cut [4, 13] (fun lv i wc => ∃ lo' lc', lv = .slice (some lo') (L.length + 2) lc' ∧ i = .int .i64 k ∧ LR wc w.heap.size (L ++ [putQ q, keepQ u]) R lv (.slice ro R.length rc) ∧ Below w.heap.size w wc)
    case first =>
      have hAll := (((((HLR.out.alloc (zPlc q cq)).alloc (zPt 2 0 q)).alloc (zPlc u cu)).alloc (zPt 1 u.size ⟨#[]⟩)).alloc (.cells #[.int .i64 2, .int .i64 0, .string q, .int .i64 1, .int .i64 u.size, .string ⟨#[]⟩] 45)).drew
      have hNew := alloc_fifth wr (zPlc q cq) (zPt 2 0 q) (zPlc u cu) (zPt 1 u.size ⟨#[]⟩) (.cells #[.int .i64 2, .int .i64 0, .string q, .int .i64 1, .int .i64 u.size, .string ⟨#[]⟩] 45)
      go_region_law (first
        | (refine step_append_lies _ (by rfl) _ _ _ (by rfl) w.heap.size 45 ip _ 3 32 Try.underlying25 hip hp0 hp1 hp2 rfl (by omega) (.slice lo L.length lc) L.length (allCells L) (by rfl) hAll.l
            ⟨wr.heap.size + 1 + 1 + 1 + 1, 0, none⟩ 2 2 [.int .i64 2, .int .i64 0, .string q, .int .i64 1, .int .i64 u.size, .string ⟨#[]⟩] (by rfl) (by rfl) (World.news_of_block (cs := #[.int .i64 2, .int .i64 0, .string q, .int .i64 1, .int .i64 u.size, .string ⟨#[]⟩]) (t := 45) (fr := (0, 0)) hNew) (by simp [Value.oneCell'])
            (by omega) (by unfold maxLen; omega) (by omega) (by simp; omega) (wr.heap.size + 5) (by simp) ?_; intro gg cap1 w1 hown1 hgrow hat hlt)
        | (go_simp; go_wp2_with (first
            | (go_at_call 146; refine (mput_any q cq _).mono ?_; rintro e w1 ⟨rfl, rfl⟩)
            | (go_at_call 147; refine (mpass_any u cu _ u5).mono ?_; rintro e w1 ⟨rfl, rfl⟩))))
      all_goals
        go_wp2_with fail
        refine Met.intro ?_
        try go_simp
        go_step
        (repeat apply Exists.intro)
        refine ⟨?rel, rfl⟩
        case rel => exact ⟨_, cap1, rfl, rfl, hAll.addL (ps := [putQ q, keepQ u]) rfl rfl hown1 hgrow hat (size_five _ _ _ _ _ _), below_own' (below_five HBW.out hz _ _ _ _ _) hAll.l hgrow (by rw [size_five]; omega)⟩
    case rest =>
      obtain ⟨lo1, lc1, rfl, rfl, hlr, hb⟩ := hcut
      have hz1 := hb.size
      obtain ⟨ea1, ea2, eb1, eb2⟩ := HEA.out
      have a1 : wc.cell? ⟨ga, k * 2, none⟩ = some (.string q) := (hb.cell (p := ⟨ga, k * 2, none⟩) hga).trans ea1
      have a2 : wc.cell? ⟨ga, k * 2 + 1, none⟩ = some (.bool cq) := (hb.cell (p := ⟨ga, k * 2 + 1, none⟩) hga).trans ea2
      have b1 : wc.cell? ⟨gb, k * 2, none⟩ = some (.string u) := (hb.cell (p := ⟨gb, k * 2, none⟩) hgb).trans eb1
      have b2 : wc.cell? ⟨gb, k * 2 + 1, none⟩ = some (.bool cu) := (hb.cell (p := ⟨gb, k * 2 + 1, none⟩) hgb).trans eb2
      have hgaw : ga < wc.heap.size := by omega
      have hgbw : gb < wc.heap.size := by omega
      have HLR1 : Hid (LR wc w.heap.size (L ++ [putQ q, keepQ u]) R (.slice (some lo1) (L.length + 2) lc1) (.slice ro R.length rc)) := hlr
      have HB1 : Hid (Below w.heap.size w wc) := hb
      obtain ⟨wo, hwo⟩ : ∃ wo, wo = wc := ⟨_, rfl⟩
      subst hwo
      clear hlr hb ea1 ea2 eb1 eb2
      go_upto_region 6 with fail
      go_cut [5, 13] (fun rv i wc => ∃ ro' rc', rv = .slice (some ro') (R.length + 2) rc' ∧ i = .int .i64 k ∧ LR wc w.heap.size (L ++ [putQ q, keepQ u]) (R ++ [keepQ q, putQ u]) (.slice (some lo1) (L.length + 2) lc1) rv ∧ Below w.heap.size w wc)
      case first =>
        have hAll := (((((HLR1.out.alloc (zPlc q cq)).alloc (zPt 1 q.size ⟨#[]⟩)).alloc (zPlc u cu)).alloc (zPt 2 0 u)).alloc (.cells #[.int .i64 1, .int .i64 q.size, .string ⟨#[]⟩, .int .i64 2, .int .i64 0, .string u] 45)).drew
        have hNew := alloc_fifth wo (zPlc q cq) (zPt 1 q.size ⟨#[]⟩) (zPlc u cu) (zPt 2 0 u) (.cells #[.int .i64 1, .int .i64 q.size, .string ⟨#[]⟩, .int .i64 2, .int .i64 0, .string u] 45)
        go_region_law (first
          | (refine step_append_lies _ (by rfl) _ _ _ (by rfl) w.heap.size 45 ip _ 3 32 Try.underlying25 hip hp0 hp1 hp2 rfl (by omega) (.slice ro R.length rc) R.length (allCells R) (by rfl) hAll.r
              ⟨wo.heap.size + 1 + 1 + 1 + 1, 0, none⟩ 2 2 [.int .i64 1, .int .i64 q.size, .string ⟨#[]⟩, .int .i64 2, .int .i64 0, .string u] (by rfl) (by rfl) (World.news_of_block (cs := #[.int .i64 1, .int .i64 q.size, .string ⟨#[]⟩, .int .i64 2, .int .i64 0, .string u]) (t := 45) (fr := (0, 0)) hNew) (by simp [Value.oneCell'])
              (by omega) (by unfold maxLen; omega) (by omega) (by simp; omega) (wo.heap.size + 5) (by simp) ?_; intro gg cap1 w1 hown1 hgrow hat hlt)
          | (go_simp; go_wp2_with (first
              | (go_at_call 147; refine (mpass_any q cq _ q5).mono ?_; rintro e w1 ⟨rfl, rfl⟩)
              | (go_at_call 146; refine (mput_any u cu _).mono ?_; rintro e w1 ⟨rfl, rfl⟩))))
        all_goals
          go_wp2_with fail
          refine Met.intro ?_
          try go_simp
          go_step
          (repeat apply Exists.intro)
          refine ⟨?rel, rfl⟩
          case rel => exact ⟨_, cap1, rfl, rfl, hAll.addR (ps := [keepQ q, putQ u]) rfl rfl hown1 hgrow hat (size_five _ _ _ _ _ _), below_own' (below_five HB1.out hz1 _ _ _ _ _) hAll.r hgrow (by rw [size_five]; omega)⟩
      case rest =>
        obtain ⟨ro1, rc1, rfl, rfl, hlr, hb⟩ := hcut
        have hz2 := hb.size
        obtain ⟨ea1, ea2, eb1, eb2⟩ := HEA.out
        have a1 : wc.cell? ⟨ga, k * 2, none⟩ = some (.string q) := (hb.cell (p := ⟨ga, k * 2, none⟩) hga).trans ea1
        have a2 : wc.cell? ⟨ga, k * 2 + 1, none⟩ = some (.bool cq) := (hb.cell (p := ⟨ga, k * 2 + 1, none⟩) hga).trans ea2
        have b1 : wc.cell? ⟨gb, k * 2, none⟩ = some (.string u) := (hb.cell (p := ⟨gb, k * 2, none⟩) hgb).trans eb1
        have b2 : wc.cell? ⟨gb, k * 2 + 1, none⟩ = some (.bool cu) := (hb.cell (p := ⟨gb, k * 2 + 1, none⟩) hgb).trans eb2
        have hgaw : ga < wc.heap.size := by omega
        have hgbw : gb < wc.heap.size := by omega
        have HLR2 : Hid (LR wc w.heap.size (L ++ [putQ q, keepQ u]) (R ++ [keepQ q, putQ u]) (.slice (some lo1) (L.length + 2) lc1) (.slice (some ro1) (R.length + 2) rc1)) := hlr
        have HB2 : Hid (Below w.heap.size w wc) := hb
        clear hlr hb ea1 ea2 eb1 eb2
        by_cases hkn2 : k = n
        · have hkk : ((k : Int) == (n : Int)) = true := by simp [hkn2]
          have HE : Hid (L ++ [putQ q, keepQ u] = leftL qs ks us ls ∧ R ++ [keepQ q, putQ u] = leftR qs ks us ls) := by
            obtain ⟨t1, t2⟩ := HT.out
            obtain ⟨l1, l2, l3, l4, l5, l6⟩ := HL.out
            obtain ⟨s1, s2⟩ := left_last (ls := ls) HZ.out.1 (by omega : ks.length = k) HY.out.1
            rw [s1] at t1
            rw [s2] at t2
            exact ⟨t1, t2⟩
          clear hkn2
          go_wp2_with fail
          go_ret2
          refine ⟨_, _, rfl, ?_, HB2.out⟩
          rw [← HE.out.1, ← HE.out.2]
          exact HLR2.out
        · have hkk : ((k : Int) == (n : Int)) = false := by simp; omega
          obtain ⟨b, hb1, hb2⟩ : ∃ b, ks[k]? = some b ∧ cq = !b := by
            rcases HZ.out.2 with ⟨h, _⟩ | h
            · have := HL.out.2.2.1; omega
            · exact h
          obtain ⟨c, hc1, hc2⟩ : ∃ b, ls[k]? = some b ∧ cu = !b := by
            rcases HY.out.2 with ⟨h, _⟩ | h
            · have := HL.out.2.2.2.1; omega
            · exact h
          have HS : Hid (leftL qs ks us ls = (L ++ [putQ q, keepQ u]) ++ ((if c = true then [oneQ b] else []) ++ leftL (qs.drop (k + 1)) (ks.drop (k + 1)) (us.drop (k + 1)) (ls.drop (k + 1))) ∧ leftR qs ks us ls = (R ++ [keepQ q, putQ u]) ++ ((if b = true then [oneQ c] else []) ++ leftR (qs.drop (k + 1)) (ks.drop (k + 1)) (us.drop (k + 1)) (ls.drop (k + 1)))) := by
            obtain ⟨s1, s2⟩ := left_step HZ.out.1 hb1 HY.out.1 hc1
            obtain ⟨t1, t2⟩ := HT.out
            rw [← t1, ← t2, s1, s2]
            exact ⟨by simp, by simp⟩
          clear hb1 hc1
          subst hb2 hc2
          cases b with
          | true =>
           cases c with
           | true =>
            simp only [Bool.not_true, Bool.not_false] at a2 b2 HEA
            go_wp2_with fail
            refine (mbyte_any q false _).mono ?_
            rintro e we1 ⟨rfl, rfl⟩
            have hAll1 := ((HLR2.out.alloc (zPlc q false)).alloc (zPt 1 1 ⟨#[]⟩)).alloc (.cells #[.int .i64 1, .int .i64 1, .string ⟨#[]⟩] 45)
            have hNew1 := alloc_third wc (zPlc q false) (zPt 1 1 ⟨#[]⟩) (.cells #[.int .i64 1, .int .i64 1, .string ⟨#[]⟩] 45)
            have hOwn1 := hAll1.l
            simp only [List.length_append, List.length_cons, List.length_nil, Nat.zero_add, Nat.reduceAdd] at hOwn1
            go_wp2_with (at_builtin; refine wpList_append_lies _ rfl _ _ 25 rfl w.heap.size 45 ip _ 3 32 Try.underlying25 hip hp0 hp1 hp2 rfl (by decide) _ _ _ rfl hOwn1 ⟨wc.heap.size + 1 + 1, 0, none⟩ 1 1 [.int .i64 1, .int .i64 1, .string ⟨#[]⟩] rfl rfl (World.news_of_block (cs := #[.int .i64 1, .int .i64 1, .string ⟨#[]⟩]) (t := 45) (fr := (0, 0)) hNew1) (by simp [Value.oneCell']) (by decide) ?c3 ?c4 ?c5 _ rfl ?_)
            case c3 => unfold maxLen; omega
            case c4 => omega
            case c5 => first | omega | (simp; omega)
            intro gg1 cap1 w1 hown1 hgrow1 hat1 hlt1
            have HN1 : Hid (LR w1 w.heap.size ((L ++ [putQ q, keepQ u]) ++ [oneQ true]) (R ++ [keepQ q, putQ u]) (.slice (some ⟨gg1, 0, none⟩) (L.length + 2 + 1) cap1) (.slice (some ro1) (R.length + 2) rc1)) := by
              have hh := hAll1.addL (ps := [oneQ true]) (m := 1) (g := gg1) (cap := cap1) (w' := w1) (by rfl) rfl (by simp only [List.length_append, List.length_cons, List.length_nil, Nat.zero_add, Nat.reduceAdd]; exact hown1) hgrow1 hat1 (size_three _ _ _ _)
              simp only [List.length_append, List.length_cons, List.length_nil, Nat.zero_add, Nat.reduceAdd] at hh
              exact hh
            have HBN1 : Hid (Below w.heap.size w w1) := below_own' (mbelow_three HB2.out hz2 _ _ _) hAll1.l hgrow1 (by rw [size_three]; omega)
            have hzz1 := HBN1.out.size
            obtain ⟨ea1, ea2, eb1, eb2⟩ := HEA.out
            have a11 : w1.cell? ⟨ga, k * 2, none⟩ = some (.string q) := (HBN1.out.cell (p := ⟨ga, k * 2, none⟩) hga).trans ea1
            have a21 : w1.cell? ⟨ga, k * 2 + 1, none⟩ = some (.bool (!true)) := (HBN1.out.cell (p := ⟨ga, k * 2 + 1, none⟩) hga).trans ea2
            have b11 : w1.cell? ⟨gb, k * 2, none⟩ = some (.string u) := (HBN1.out.cell (p := ⟨gb, k * 2, none⟩) hgb).trans eb1
            have b21 : w1.cell? ⟨gb, k * 2 + 1, none⟩ = some (.bool (!true)) := (HBN1.out.cell (p := ⟨gb, k * 2 + 1, none⟩) hgb).trans eb2
            simp only [Bool.not_true, Bool.not_false] at a21 b21
            have hga1 : ga < w1.heap.size := by omega
            have hgb1 : gb < w1.heap.size := by omega
            clear hown1 hgrow1 hat1 hlt1 hAll1 hNew1 hOwn1 ea1 ea2 eb1 eb2
            go_wp2_with fail
            refine (mbyte_any u false _).mono ?_
            rintro e we2 ⟨rfl, rfl⟩
            have hAll2 := ((HN1.out.alloc (zPlc u false)).alloc (zPt 1 1 ⟨#[]⟩)).alloc (.cells #[.int .i64 1, .int .i64 1, .string ⟨#[]⟩] 45)
            have hNew2 := alloc_third w1 (zPlc u false) (zPt 1 1 ⟨#[]⟩) (.cells #[.int .i64 1, .int .i64 1, .string ⟨#[]⟩] 45)
            have hOwn2 := hAll2.r
            simp only [List.length_append, List.length_cons, List.length_nil, Nat.zero_add, Nat.reduceAdd] at hOwn2
            go_wp2_with (at_builtin; refine wpList_append_lies _ rfl _ _ 25 rfl w.heap.size 45 ip _ 3 32 Try.underlying25 hip hp0 hp1 hp2 rfl (by decide) _ _ _ rfl hOwn2 ⟨w1.heap.size + 1 + 1, 0, none⟩ 1 1 [.int .i64 1, .int .i64 1, .string ⟨#[]⟩] rfl rfl (World.news_of_block (cs := #[.int .i64 1, .int .i64 1, .string ⟨#[]⟩]) (t := 45) (fr := (0, 0)) hNew2) (by simp [Value.oneCell']) (by decide) ?c3 ?c4 ?c5 _ rfl ?_)
            case c3 => unfold maxLen; omega
            case c4 => omega
            case c5 => first | omega | (simp; omega)
            intro gg2 cap2 w2 hown2 hgrow2 hat2 hlt2
            have HN2 : Hid (LR w2 w.heap.size ((L ++ [putQ q, keepQ u]) ++ [oneQ true]) ((R ++ [keepQ q, putQ u]) ++ [oneQ true]) (.slice (some ⟨gg1, 0, none⟩) (L.length + 2 + 1) cap1) (.slice (some ⟨gg2, 0, none⟩) (R.length + 2 + 1) cap2)) := by
              have hh := hAll2.addR (ps := [oneQ true]) (m := 1) (g := gg2) (cap := cap2) (w' := w2) (by rfl) rfl (by simp only [List.length_append, List.length_cons, List.length_nil, Nat.zero_add, Nat.reduceAdd]; exact hown2) hgrow2 hat2 (size_three _ _ _ _)
              simp only [List.length_append, List.length_cons, List.length_nil, Nat.zero_add, Nat.reduceAdd] at hh
              exact hh
            have HBN2 : Hid (Below w.heap.size w w2) := below_own' (mbelow_three HBN1.out hzz1 _ _ _) hAll2.r hgrow2 (by rw [size_three]; omega)
            have hzz2 := HBN2.out.size
            obtain ⟨ea1, ea2, eb1, eb2⟩ := HEA.out
            have a12 : w2.cell? ⟨ga, k * 2, none⟩ = some (.string q) := (HBN2.out.cell (p := ⟨ga, k * 2, none⟩) hga).trans ea1
            have a22 : w2.cell? ⟨ga, k * 2 + 1, none⟩ = some (.bool (!true)) := (HBN2.out.cell (p := ⟨ga, k * 2 + 1, none⟩) hga).trans ea2
            have b12 : w2.cell? ⟨gb, k * 2, none⟩ = some (.string u) := (HBN2.out.cell (p := ⟨gb, k * 2, none⟩) hgb).trans eb1
            have b22 : w2.cell? ⟨gb, k * 2 + 1, none⟩ = some (.bool (!true)) := (HBN2.out.cell (p := ⟨gb, k * 2 + 1, none⟩) hgb).trans eb2
            simp only [Bool.not_true, Bool.not_false] at a22 b22
            have hga2 : ga < w2.heap.size := by omega
            have hgb2 : gb < w2.heap.size := by omega
            clear hown2 hgrow2 hat2 hlt2 hAll2 hNew2 hOwn2 ea1 ea2 eb1 eb2
            go_wp2_with fail
            go_roundg (n - (k + 1))
            case measure => omega
            case rel =>
              refine ⟨k + 1, _, _, by omega, by go_num, HN2.out, by simp; omega, by simp; omega, ?_, ?_, HBN2.out⟩
              · rw [HS.out.1]; simp
              · rw [HS.out.2]; simp
           | false =>
            simp only [Bool.not_true, Bool.not_false] at a2 b2 HEA
            go_wp2_with fail
            refine (mbyte_any u true _).mono ?_
            rintro e we1 ⟨rfl, rfl⟩
            have hAll1 := ((HLR2.out.alloc (zPlc u true)).alloc (zPt 3 1 ⟨#[]⟩)).alloc (.cells #[.int .i64 3, .int .i64 1, .string ⟨#[]⟩] 45)
            have hNew1 := alloc_third wc (zPlc u true) (zPt 3 1 ⟨#[]⟩) (.cells #[.int .i64 3, .int .i64 1, .string ⟨#[]⟩] 45)
            have hOwn1 := hAll1.r
            simp only [List.length_append, List.length_cons, List.length_nil, Nat.zero_add, Nat.reduceAdd] at hOwn1
            go_wp2_with (at_builtin; refine wpList_append_lies _ rfl _ _ 25 rfl w.heap.size 45 ip _ 3 32 Try.underlying25 hip hp0 hp1 hp2 rfl (by decide) _ _ _ rfl hOwn1 ⟨wc.heap.size + 1 + 1, 0, none⟩ 1 1 [.int .i64 3, .int .i64 1, .string ⟨#[]⟩] rfl rfl (World.news_of_block (cs := #[.int .i64 3, .int .i64 1, .string ⟨#[]⟩]) (t := 45) (fr := (0, 0)) hNew1) (by simp [Value.oneCell']) (by decide) ?c3 ?c4 ?c5 _ rfl ?_)
            case c3 => unfold maxLen; omega
            case c4 => omega
            case c5 => first | omega | (simp; omega)
            intro gg1 cap1 w1 hown1 hgrow1 hat1 hlt1
            have HN1 : Hid (LR w1 w.heap.size (L ++ [putQ q, keepQ u]) ((R ++ [keepQ q, putQ u]) ++ [oneQ false]) (.slice (some lo1) (L.length + 2) lc1) (.slice (some ⟨gg1, 0, none⟩) (R.length + 2 + 1) cap1)) := by
              have hh := hAll1.addR (ps := [oneQ false]) (m := 1) (g := gg1) (cap := cap1) (w' := w1) (by rfl) rfl (by simp only [List.length_append, List.length_cons, List.length_nil, Nat.zero_add, Nat.reduceAdd]; exact hown1) hgrow1 hat1 (size_three _ _ _ _)
              simp only [List.length_append, List.length_cons, List.length_nil, Nat.zero_add, Nat.reduceAdd] at hh
              exact hh
            have HBN1 : Hid (Below w.heap.size w w1) := below_own' (mbelow_three HB2.out hz2 _ _ _) hAll1.r hgrow1 (by rw [size_three]; omega)
            have hzz1 := HBN1.out.size
            obtain ⟨ea1, ea2, eb1, eb2⟩ := HEA.out
            have a11 : w1.cell? ⟨ga, k * 2, none⟩ = some (.string q) := (HBN1.out.cell (p := ⟨ga, k * 2, none⟩) hga).trans ea1
            have a21 : w1.cell? ⟨ga, k * 2 + 1, none⟩ = some (.bool (!true)) := (HBN1.out.cell (p := ⟨ga, k * 2 + 1, none⟩) hga).trans ea2
            have b11 : w1.cell? ⟨gb, k * 2, none⟩ = some (.string u) := (HBN1.out.cell (p := ⟨gb, k * 2, none⟩) hgb).trans eb1
            have b21 : w1.cell? ⟨gb, k * 2 + 1, none⟩ = some (.bool (!false)) := (HBN1.out.cell (p := ⟨gb, k * 2 + 1, none⟩) hgb).trans eb2
            simp only [Bool.not_true, Bool.not_false] at a21 b21
            have hga1 : ga < w1.heap.size := by omega
            have hgb1 : gb < w1.heap.size := by omega
            clear hown1 hgrow1 hat1 hlt1 hAll1 hNew1 hOwn1 ea1 ea2 eb1 eb2
            go_wp2_with fail
            go_roundg (n - (k + 1))
            case measure => omega
            case rel =>
              refine ⟨k + 1, _, _, by omega, by go_num, HN1.out, by simp; omega, by simp; omega, ?_, ?_, HBN1.out⟩
              · rw [HS.out.1]; simp
              · rw [HS.out.2]; simp
          | false =>
           cases c with
           | true =>
            simp only [Bool.not_true, Bool.not_false] at a2 b2 HEA
            go_wp2_with fail
            refine (mbyte_any q true _).mono ?_
            rintro e we1 ⟨rfl, rfl⟩
            have hAll1 := ((HLR2.out.alloc (zPlc q true)).alloc (zPt 3 1 ⟨#[]⟩)).alloc (.cells #[.int .i64 3, .int .i64 1, .string ⟨#[]⟩] 45)
            have hNew1 := alloc_third wc (zPlc q true) (zPt 3 1 ⟨#[]⟩) (.cells #[.int .i64 3, .int .i64 1, .string ⟨#[]⟩] 45)
            have hOwn1 := hAll1.l
            simp only [List.length_append, List.length_cons, List.length_nil, Nat.zero_add, Nat.reduceAdd] at hOwn1
            go_wp2_with (at_builtin; refine wpList_append_lies _ rfl _ _ 25 rfl w.heap.size 45 ip _ 3 32 Try.underlying25 hip hp0 hp1 hp2 rfl (by decide) _ _ _ rfl hOwn1 ⟨wc.heap.size + 1 + 1, 0, none⟩ 1 1 [.int .i64 3, .int .i64 1, .string ⟨#[]⟩] rfl rfl (World.news_of_block (cs := #[.int .i64 3, .int .i64 1, .string ⟨#[]⟩]) (t := 45) (fr := (0, 0)) hNew1) (by simp [Value.oneCell']) (by decide) ?c3 ?c4 ?c5 _ rfl ?_)
            case c3 => unfold maxLen; omega
            case c4 => omega
            case c5 => first | omega | (simp; omega)
            intro gg1 cap1 w1 hown1 hgrow1 hat1 hlt1
            have HN1 : Hid (LR w1 w.heap.size ((L ++ [putQ q, keepQ u]) ++ [oneQ false]) (R ++ [keepQ q, putQ u]) (.slice (some ⟨gg1, 0, none⟩) (L.length + 2 + 1) cap1) (.slice (some ro1) (R.length + 2) rc1)) := by
              have hh := hAll1.addL (ps := [oneQ false]) (m := 1) (g := gg1) (cap := cap1) (w' := w1) (by rfl) rfl (by simp only [List.length_append, List.length_cons, List.length_nil, Nat.zero_add, Nat.reduceAdd]; exact hown1) hgrow1 hat1 (size_three _ _ _ _)
              simp only [List.length_append, List.length_cons, List.length_nil, Nat.zero_add, Nat.reduceAdd] at hh
              exact hh
            have HBN1 : Hid (Below w.heap.size w w1) := below_own' (mbelow_three HB2.out hz2 _ _ _) hAll1.l hgrow1 (by rw [size_three]; omega)
            have hzz1 := HBN1.out.size
            obtain ⟨ea1, ea2, eb1, eb2⟩ := HEA.out
            have a11 : w1.cell? ⟨ga, k * 2, none⟩ = some (.string q) := (HBN1.out.cell (p := ⟨ga, k * 2, none⟩) hga).trans ea1
            have a21 : w1.cell? ⟨ga, k * 2 + 1, none⟩ = some (.bool (!false)) := (HBN1.out.cell (p := ⟨ga, k * 2 + 1, none⟩) hga).trans ea2
            have b11 : w1.cell? ⟨gb, k * 2, none⟩ = some (.string u) := (HBN1.out.cell (p := ⟨gb, k * 2, none⟩) hgb).trans eb1
            have b21 : w1.cell? ⟨gb, k * 2 + 1, none⟩ = some (.bool (!true)) := (HBN1.out.cell (p := ⟨gb, k * 2 + 1, none⟩) hgb).trans eb2
            simp only [Bool.not_true, Bool.not_false] at a21 b21
            have hga1 : ga < w1.heap.size := by omega
            have hgb1 : gb < w1.heap.size := by omega
            clear hown1 hgrow1 hat1 hlt1 hAll1 hNew1 hOwn1 ea1 ea2 eb1 eb2
            go_wp2_with fail
            go_roundg (n - (k + 1))
            case measure => omega
            case rel =>
              refine ⟨k + 1, _, _, by omega, by go_num, HN1.out, by simp; omega, by simp; omega, ?_, ?_, HBN1.out⟩
              · rw [HS.out.1]; simp
              · rw [HS.out.2]; simp
           | false =>
            simp only [Bool.not_true, Bool.not_false] at a2 b2 HEA
            go_wp2_with fail
            go_roundg (n - (k + 1))
            case measure => omega
            case rel =>
              refine ⟨k + 1, _, _, by omega, by go_num, HLR2.out, by simp; omega, by simp; omega, ?_, ?_, HB2.out⟩
              · rw [HS.out.1]; simp
              · rw [HS.out.2]; simp

end Go.Proofs.Ytcghojnmnmmpoaa
