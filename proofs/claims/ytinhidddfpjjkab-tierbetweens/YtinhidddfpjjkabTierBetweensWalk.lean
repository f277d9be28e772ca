/- The law TierBetweens, walked: it answers true. -/
import Derived.Test.YtinhidddfpjjkabTierMem
import Derived.Test.YtinhidddfpjjkabBlkMem
import Derived.Test.YtinhidddfpjjkabRComp
import Derived.Deep.RegionHeld3
namespace Go.Proofs.Ytinhidddfpjjkab
open Go.RowKit
set_option linter.unusedSimpArgs false
set_option linter.unusedVariables false

/-- what is read of a block: its two numbers, its row, its delta -/
def BkHeld (w : World) (gb x y g og n : Nat) (aX : Option Addr) (cX g2 og2 : Nat) (ad : Option Addr) (d : List Pt) (cd : Nat) : Prop :=
  (w.cell? ⟨gb, 0, none⟩ = some (.int .i64 (x : Int)) ∧ w.cell? ⟨gb, 1, none⟩ = some (.int .i64 (y : Int)) ∧ w.cell? ⟨g, og + x, none⟩ = some (.slice aX n cX) ∧ w.cell? ⟨g2, og2 + y, none⟩ = some (.slice ad d.length cd)) ∧
  gb < w.heap.size ∧ g < w.heap.size ∧ g2 < w.heap.size ∧ PartsAt w w.heap.size ad d
theorem BkHeld.below {w w' : World} {gb x y g og n : Nat} {aX : Option Addr} {cX g2 og2 : Nat} {ad : Option Addr} {d : List Pt} {cd : Nat} (h : BkHeld w gb x y g og n aX cX g2 og2 ad d cd) (hb : Below w.heap.size w w') : BkHeld w' gb x y g og n aX cX g2 og2 ad d cd := by
  obtain ⟨⟨c0, c1, c2, c3⟩, h1, h2, h3, h4⟩ := h
  have hz := hb.size
  exact ⟨⟨(hb.cell (p := ⟨gb, _, none⟩) h1).trans c0, (hb.cell (p := ⟨gb, _, none⟩) h1).trans c1, (hb.cell (p := ⟨g, _, none⟩) h2).trans c2, (hb.cell (p := ⟨g2, _, none⟩) h3).trans c3⟩, by omega, by omega, by omega, h4.here hb (Nat.le_refl _)⟩
theorem BkHeld.drew {w : World} {gb x y g og n : Nat} {aX : Option Addr} {cX g2 og2 : Nat} {ad : Option Addr} {d : List Pt} {cd : Nat} (h : BkHeld w gb x y g og n aX cX g2 og2 ad d cd) : BkHeld w.drew gb x y g og n aX cX g2 og2 ad d cd := h.below (Below.refl _ _).drew
set_option maxRecDepth 20000 in
set_option maxHeartbeats 8000000 in
theorem TierBetweens_any (a : Option Addr) (T : List (List (List Pt))) (c : Nat) (i k : Int) (w : World) (hv : TiersAt w w.heap.size a T c) (hcap : T.length ≤ c) :
    Calls Try.prog 4 #[.slice a T.length c, .int .i64 i, .int .i64 k] w fun e w' => e = .returned (.bool true) ∧ Below w.heap.size w w' := by
  have HV : Hid (TiersAt w w.heap.size a T c) := hv
  clear hv
  by_cases hbad : ¬ (0 ≤ i ∧ i < k ∧ k ≤ 64)
  · have HT : Hid (∀ w : World, _) := fun w => TBet_not a T c i k w hbad
    go_enter Try.func4, Try.ntmps4
    go_wp2_with fail
    refine (HT.out _).mono ?_
    rintro e w1 ⟨rfl, hb1⟩
    have HB1 : Hid (Below w.heap.size w w1) := hb1
    clear hb1 HT
    by_cases h1 : i < 0
    · clear hbad
      go_wp2_with fail
      go_ret
      exact ⟨by first | rfl | simp, HB1.out⟩
    · by_cases h2 : k ≤ i
      · clear hbad
        go_wp2_with fail
        go_ret
        exact ⟨by first | rfl | simp, HB1.out⟩
      · have h3 : 64 < k := by omega
        clear hbad
        go_wp2_with fail
        go_ret
        exact ⟨by first | rfl | simp, HB1.out⟩
  · obtain ⟨m, rfl⟩ : ∃ m : Nat, i = (m : Int) := ⟨i.toNat, by omega⟩
    obtain ⟨n, rfl⟩ : ∃ n : Nat, k = (n : Int) := ⟨k.toNat, by omega⟩
    have hmn : m < n := by omega
    have hn : n ≤ 64 := by omega
    have HT : Hid (∀ w : World, TiersAt w w.heap.size a T c → _) := fun w h => TBet_ok a T c m n w h hmn hn
    have HR : Hid (∀ w : World, _) := fun w => RCov_any 65 m n w (by omega) (by omega) hn
    obtain ⟨X, hX⟩ : ∃ X, covL m n = X := ⟨_, rfl⟩
    have HX0 : Hid (X ≠ []) := by
      have ht := cov_is (Nat.le_of_lt hmn) hn
      rw [hX] at ht
      intro h0
      rw [h0] at ht
      have : m = n := ht
      omega
    rw [hX] at HT HR
    obtain ⟨D, hD⟩ : ∃ D, (betT 7 T none X).1 = D := ⟨_, rfl⟩
    obtain ⟨E, hE⟩ : ∃ E, (betT 7 T none X).2 = E := ⟨_, rfl⟩
    have HO : Hid ((D, E) = betT 7 T none X) := by show _ = _; rw [← hD, ← hE]
    rw [hD, hE] at HT
    have g1 : ¬ (m : Int) < 0 := by omega
    have g2 : ¬ (n : Int) ≤ (m : Int) := by omega
    have g3 : ¬ (64 : Int) < (n : Int) := by omega
    clear hbad hX hD hE
    go_enter Try.func4, Try.ntmps4
    go_wp2_with fail
    refine (HT.out _ HV.out).mono ?_
    rintro e w1 ⟨a1, c1, rfl, hp1, _, hb1⟩
    have HB1 : Hid (Below w.heap.size w w1) := hb1
    have HP1 : Hid (PartsAt w1 w1.heap.size a1 D) := hp1
    have HV1 : Hid (TiersAt w1 w1.heap.size a T c) := HV.out.here hb1 (Nat.le_refl _)
    clear hb1 hp1 HT
    go_wp2_with fail
    refine (HR.out _).mono ?_
    rintro e w2 ⟨v2, rfl, ho2, hb2⟩
    obtain ⟨ax, cx, rfl, hn2⟩ := bks_own ho2
    have HB2 : Hid (Below w.heap.size w w2) := HB1.out.trans (hb2.mono HB1.out.size)
    have HP2 : Hid (PartsAt w2 w2.heap.size a1 D) := HP1.out.here hb2 (Nat.le_refl _)
    have HV2 : Hid (TiersAt w2 w2.heap.size a T c) := HV1.out.here hb2 (Nat.le_refl _)
    have HN2 : Hid (BksAt w2 w2.heap.size ax X cx) := hn2
    have hxl : X.length ≤ 9223372036854775807 := Nat.le_trans hn2.1 hn2.2.1
    have hTl : T.length ≤ 9223372036854775807 := Nat.le_trans HV.out.1 HV.out.2.1
    clear hb2 hn2 ho2 HP1 HV1 HR
    go_wp2_with fail
    go_loopw [9, 10, 42] (fun ov ev z wr => ∃ (j : Nat) (o : Option (List Pt)) (ao : Option Addr) (co : Nat), j ≤ X.length ∧ z = .int .i64 j ∧ ev = .int .i64 0 ∧ ov = .slice ao (o.getD []).length co ∧ PartsAt wr wr.heap.size ao (o.getD []) ∧ (D, E) = betT 7 T o (X.drop j) ∧ (o = none ↔ j = 0) ∧ Below w2.heap.size w2 wr) (fun _ _ z _ => X.length - (intOf z).toNat)
    case atStart => exact ⟨0, none, none, 0, Nat.zero_le _, rfl, rfl, rfl, ⟨by simp, Nat.le_refl _, by simp, by simp⟩, HO.out, by simp, Below.refl _ _⟩
    case round =>
      rename World => wr
      obtain ⟨j, o, ao, co, hj, rfl, rfl, rfl, hpo, hOd, hoj, hb⟩ := hrel
      have HB : Hid (Below w2.heap.size w2 wr) := hb
      have HPO : Hid (PartsAt wr wr.heap.size ao (o.getD [])) := hpo
      have HOD : Hid ((D, E) = betT 7 T o (X.drop j)) := hOd
      have HOJ : Hid (o = none ↔ j = 0) := hoj
      have hz := hb.size
      clear hOd hpo hoj
      by_cases hlt : j < X.length
      · obtain ⟨y, hy⟩ : ∃ y, X[j]? = some y := ⟨X[j], List.getElem?_eq_getElem hlt⟩
        have hji : (j : Int) < (X.length : Int) := by omega
        obtain ⟨gx, ogx, e2, hgx, y1, y2⟩ := (HN2.out.here hb (Nat.le_refl _)).mem hy
        subst e2
        obtain ⟨x, z⟩ := y
        simp only at y1 y2
        have hdr : X.drop j = (x, z) :: X.drop (j + 1) := by
          obtain ⟨h1, h2⟩ := List.getElem?_eq_some_iff.1 hy
          rw [List.drop_eq_getElem_cons h1, h2]
        have hbx : Below wr.heap.size wr (wr.alloc (.cells #[.int .i64 (x : Int), .int .i64 (z : Int)] 39)) := (Below.refl _ _).alloc (Nat.le_refl _) _
        obtain ⟨wb, hwb⟩ : ∃ wb, wr.alloc (.cells #[.int .i64 (x : Int), .int .i64 (z : Int)] 39) = wb := ⟨_, rfl⟩
        have hblk : wb.heap[wr.heap.size]? = some (.cells #[.int .i64 (x : Int), .int .i64 (z : Int)] 39 (0, 0)) := by rw [← hwb]; exact Deep.blk_alloc_new wr _
        have hx0 : wb.cell? ⟨wr.heap.size, 0, none⟩ = some (.int .i64 (x : Int)) := Lib.cell_of_heap hblk 0
        have hx1 : wb.cell? ⟨wr.heap.size, 1, none⟩ = some (.int .i64 (z : Int)) := Lib.cell_of_heap hblk 1
        have hwbl : wr.heap.size < wb.heap.size := lt_of_heap hblk
        rw [hwb] at hbx
        have HBx : Hid (Below wr.heap.size wr wb) := hbx
        have HBw : Hid (Below w2.heap.size w2 wb) := hb.trans (hbx.mono hz)
        have HVb : Hid (TiersAt wb wb.heap.size a T c) := HV2.out.here HBw.out (Nat.le_refl _)
        have HWB : Hid (wr.alloc (.cells #[.int .i64 (x : Int), .int .i64 (z : Int)] 39) = wb) := hwb
        rw [hdr] at HOD
        clear hb hbx hwb hy hdr hblk
        go_wp2_with fail
        rw [HWB.out]
        clear y1 y2
        by_cases hfar : T.length ≤ x
        · have HE : Hid (D = [] ∧ E = 7) := by
            have h := HOD.out
            have hbk : blkT T (x, z) = none := blk_far hfar
            rw [betT, hbk] at h
            show D = [] ∧ E = 7
            simpa using h
          have hd : decide ((T.length : Int) ≤ (x : Int)) = true := decide_eq_true (by omega)
          have hfi : (T.length : Int) ≤ (x : Int) := by omega
          obtain ⟨rfl, rfl⟩ := HE.out
          clear hfar HOD
          go_quiet (fail)
          rename Nat => n1
          go_wp2_with fail
          go_ret
          exact ⟨by first | rfl | simp, below_drewN (HB2.out.trans (HBw.out.mono HB2.out.size)) n1⟩
        · obtain ⟨Y, hY⟩ : ∃ Y, T[x]? = some Y := ⟨T[x]'(by omega), List.getElem?_eq_getElem _⟩
          obtain ⟨gt, ot, aY, cY, e1, hgt, t1, t2⟩ := HVb.out.mem hY
          subst e1
          have hyl : Y.length ≤ 9223372036854775807 := Nat.le_trans t2.1 t2.2.1
          have hd : decide (T.length ≤ x) = false := decide_eq_false (by omega)
          have hfi : (x : Int) < (T.length : Int) := by omega
          have hx00 : (0 : Int) ≤ (x : Int) := by omega
          have HY : Hid (T[x]? = some Y) := hY
          have HRY : Hid (RowAt wb wb.heap.size aY Y cY) := t2
          clear t2 hY hfar
          by_cases hout : Y.length ≤ z
          · have HE : Hid (D = [] ∧ E = 7) := by
              have h := HOD.out
              have hbk : blkT T (x, z) = none := blk_out HY.out hout
              rw [betT, hbk] at h
              show D = [] ∧ E = 7
              simpa using h
            have hd2 : decide (Y.length ≤ z) = true := decide_eq_true (by omega)
            have hyi : (Y.length : Int) ≤ (z : Int) := by omega
            obtain ⟨rfl, rfl⟩ := HE.out
            clear HOD hout
            go_quiet (fail)
            rename Nat => n1
            go_wp2_with fail
            go_ret
            exact ⟨by first | rfl | simp, below_drewN (HB2.out.trans (HBw.out.mono HB2.out.size)) n1⟩
          · obtain ⟨d, hdd⟩ : ∃ d, Y[z]? = some d := ⟨Y[z]'(by omega), List.getElem?_eq_getElem _⟩
            obtain ⟨gd, od, ad, cd, e2, hgd, r1, r2, r3⟩ := HRY.out.mem hdd
            subst e2
            have hd2 : decide (Y.length ≤ z) = false := decide_eq_false (by omega)
            have hyi : (z : Int) < (Y.length : Int) := by omega
            have hz00 : (0 : Int) ≤ (z : Int) := by omega
            have HK0 : Hid (BkHeld wb wr.heap.size x z gt ot Y.length (some ⟨gd, od, none⟩) cY gd od ad d cd) := ⟨⟨hx0, hx1, t1, r1⟩, hwbl, hgt, hgd, r2⟩
            have HPb : Hid (PartsAt wb wb.heap.size ao (o.getD [])) := HPO.out.here HBx.out (Nat.le_refl _)
            have HBK : Hid (blkT T (x, z) = some d) := blk_at HY.out hdd
            have HDl : Hid (∀ w : World, PartsAt w w.heap.size ad d → _) := fun w h => Delta_any ad d cd w h
            clear r2 r3 hdd hout HRY HY
            go_quiet (fail)
            rename Nat => n1
            have hbq : Below wb.heap.size wb (wb.drewN n1) := below_drewN (Below.refl _ _) _
            have HK1 : Hid (BkHeld (wb.drewN n1) wr.heap.size x z gt ot Y.length (some ⟨gd, od, none⟩) cY gd od ad d cd) := HK0.out.below hbq
            have HP1 : Hid (PartsAt (wb.drewN n1) (wb.drewN n1).heap.size ao (o.getD [])) := HPb.out.here hbq (Nat.le_refl _)
            have HB1' : Hid (Below w2.heap.size w2 (wb.drewN n1)) := below_drewN HBw.out _
            generalize wb.drewN n1 = w3 at HK1 HP1 HB1' ⊢
            clear hbq hx0 hx1 t1 r1 hd hd2 HK0 HPb
            obtain ⟨⟨x0, x1, x2, x3⟩, x4, x5, x6, x7⟩ := HK1.out
            have HPd : Hid (PartsAt w3 w3.heap.size ad d) := x7
            clear x7
            go_wp2_with fail
            go_region_held3 (fun w' => w'.cell? ⟨wr.heap.size, 0, none⟩ = some (.int .i64 (x : Int)) ∧ w'.cell? ⟨wr.heap.size, 1, none⟩ = some (.int .i64 (z : Int)) ∧ w'.cell? ⟨gt, ot + x, none⟩ = some (.slice (some ⟨gd, od, none⟩) Y.length cY) ∧ w'.cell? ⟨gd, od + z, none⟩ = some (.slice ad d.length cd)) (first | go_keep | exact (HK1.out.drew.below hb4).1) (first | (go_at_call 14; refine (HDl.out _ (HPd.out.here (Below.refl _ _).drew (Nat.le_refl _))).mono ?_; rintro e w4 ⟨rfl, hb4⟩))
            have hbw4 : Below w3.heap.size w3 w4 := ((Below.refl _ w3).drew).trans hb4
            have HK4 : Hid (BkHeld w4 wr.heap.size x z gt ot Y.length (some ⟨gd, od, none⟩) cY gd od ad d cd) := HK1.out.below hbw4
            have HP4 : Hid (PartsAt w4 w4.heap.size ao (o.getD [])) := HP1.out.here hbw4 (Nat.le_refl _)
            have HB4 : Hid (Below w2.heap.size w2 w4) := HB1'.out.trans (hbw4.mono HB1'.out.size)
            clear hb4 hbw4 x0 x1 x2 x3 x4 x5 x6 HPd HP1 HB1' HK1
            by_cases hs : sizesE d = 0
            · rw [hs]
              have HS : Hid (sizesE d = 0) := hs
              clear hs
              obtain ⟨⟨x0, x1, x2, x3⟩, x4, x5, x6, x7⟩ := HK4.out
              have HPd : Hid (PartsAt w4 w4.heap.size ad d) := x7
              have hlast : (⟨wr.heap.size, 0, none⟩ : Addr) = ⟨wr.heap.size, 0, none⟩ := rfl
              clear x7 hlast
              rcases Nat.eq_zero_or_pos j with h0 | h0
              · have ho : o = none := HOJ.out.2 h0
                subst ho
                have HO2 : Hid ((D, E) = betT 7 T (some d) (X.drop (j + 1))) := by
                  have h := HOD.out
                  rw [betT, HBK.out] at h
                  simp only at h
                  rw [if_pos HS.out] at h
                  exact h
                have hj0 : ((j : Int) == 0) = true := by simp [h0]
                clear HOD
                go_wp2_with fail
                go_quiet (fail)
                rename Nat => n2
                have HB5 : Hid (Below w2.heap.size w2 (w4.drewN n2)) := below_drewN HB4.out _
                have HP5 : Hid (PartsAt (w4.drewN n2) (w4.drewN n2).heap.size ad d) := HPd.out.here (below_drewN (Below.refl _ _) _) (Nat.le_refl _)
                clear x0 x1 x2 x3 x4 x5 x6
                go_wp2_with fail
                go_roundw
                case rel => exact ⟨j + 1, some d, ad, cd, by omega, by go_num, rfl, rfl, HP5.out, HO2.out, by simp, HB5.out⟩
                case measure => simp [intOf]; omega
              · obtain ⟨e0, rfl⟩ : ∃ e0, o = some e0 := by
                  cases o with
                  | none => exact absurd (HOJ.out.1 rfl) (by omega)
                  | some e0 => exact ⟨e0, rfl⟩
                have HO2 : Hid ((D, E) = if compE e0 d = 0 then betT 7 T (some (compR e0 d)) (X.drop (j + 1)) else ([], compE e0 d)) := by
                  have h := HOD.out
                  rw [betT, HBK.out] at h
                  simp only at h
                  rw [if_pos HS.out] at h
                  exact h
                have hj0 : ((j : Int) == 0) = false := by simp; omega
                have HPe : Hid (PartsAt w4 w4.heap.size ao e0) := HP4.out
                have HCo : Hid (∀ w : World, PartsAt w w.heap.size ao e0 → PartsAt w w.heap.size ad d → _) := fun w h1 h2 => RComp_any ao ad e0 d co cd w h1 h2
                rw [show (some e0).getD [] = e0 from rfl]
                obtain ⟨F, hF⟩ : ∃ F, compE e0 d = F := ⟨_, rfl⟩
                obtain ⟨G, hG⟩ : ∃ G, compR e0 d = G := ⟨_, rfl⟩
                rw [hF, hG] at HO2 HCo
                clear HOD hF hG HP4
                go_wp2_with fail
                go_region_held3 (fun w' => w'.cell? ⟨wr.heap.size, 0, none⟩ = some (.int .i64 (x : Int)) ∧ w'.cell? ⟨wr.heap.size, 1, none⟩ = some (.int .i64 (z : Int)) ∧ w'.cell? ⟨gt, ot + x, none⟩ = some (.slice (some ⟨gd, od, none⟩) Y.length cY) ∧ w'.cell? ⟨gd, od + z, none⟩ = some (.slice ad d.length cd)) (first | go_keep | exact (HK4.out.drew.below hb5).1) (first | (go_at_call 15; refine (HCo.out _ (HPe.out.here (Below.refl _ _).drew (Nat.le_refl _)) (HPd.out.here (Below.refl _ _).drew (Nat.le_refl _))).mono ?_; rintro e w5 ⟨a5, c5, rfl, hp5, hb5⟩))
                have HB5 : Hid (Below w2.heap.size w2 w5) := HB4.out.trans ((((Below.refl _ w4).drew).trans hb5).mono HB4.out.size)
                have HP5 : Hid (PartsAt w5 w5.heap.size a5 G) := hp5
                clear hb5 hp5 x0 x1 x2 x3 x4 x5 x6
                by_cases hF0 : F = 0
                · subst hF0
                  have HO3 : Hid ((D, E) = betT 7 T (some G) (X.drop (j + 1))) := by have h := HO2.out; rw [if_pos rfl] at h; exact h
                  clear HO2
                  go_wp2_with fail
                  go_roundw
                  case rel => exact ⟨j + 1, some G, a5, c5, by omega, by go_num, rfl, rfl, HP5.out, HO3.out, by simp, HB5.out⟩
                  case measure => simp [intOf]; omega
                · have HE : Hid (D = [] ∧ E = F) := by
                    have h := HO2.out
                    rw [if_neg hF0] at h
                    show D = [] ∧ E = F
                    simpa using h
                  have hF' : (F != 0) = true := by simp [hF0]
                  obtain ⟨rfl, rfl⟩ := HE.out
                  clear HO2 hF0 HE
                  go_wp2_with fail
                  go_ret
                  exact ⟨by first | rfl | simp, HB2.out.trans (HB5.out.mono HB2.out.size)⟩
            · have HE : Hid (D = [] ∧ E = sizesE d) := by
                have h := HOD.out
                rw [betT, HBK.out] at h
                simp only at h
                rw [if_neg hs] at h
                show D = [] ∧ E = sizesE d
                simpa using h
              obtain ⟨rfl, hE⟩ := HE.out
              obtain ⟨S, hS⟩ : ∃ S, sizesE d = S := ⟨_, rfl⟩
              rw [hS] at hE HDl hs
              subst hE
              rw [hS]
              have hs' : (E != 0) = true := by simp [hs]
              obtain ⟨⟨x0, x1, x2, x3⟩, x4, x5, x6, x7⟩ := HK4.out
              have HPd : Hid (PartsAt w4 w4.heap.size ad d) := x7
              clear x7 hS hs HE
              go_wp2_with fail
              go_region_held3 (fun w' => w'.cell? ⟨wr.heap.size, 0, none⟩ = some (.int .i64 (x : Int)) ∧ w'.cell? ⟨wr.heap.size, 1, none⟩ = some (.int .i64 (z : Int)) ∧ w'.cell? ⟨gt, ot + x, none⟩ = some (.slice (some ⟨gd, od, none⟩) Y.length cY) ∧ w'.cell? ⟨gd, od + z, none⟩ = some (.slice ad d.length cd)) (first | go_keep | exact (HK4.out.drew.below hb5).1) (first | (go_at_call 14; refine (HDl.out _ (HPd.out.here (Below.refl _ _).drew (Nat.le_refl _))).mono ?_; rintro e w5 ⟨rfl, hb5⟩))
              have HB5 : Hid (Below w.heap.size w w5) := HB2.out.trans ((HB4.out.trans ((((Below.refl _ w4).drew).trans hb5).mono HB4.out.size)).mono HB2.out.size)
              clear hb5 x0 x1 x2 x3 x4 x5 x6
              go_wp2_with fail
              go_ret
              exact ⟨by first | rfl | simp, HB5.out⟩
      · have hji : ¬ (j : Int) < (X.length : Int) := by omega
        have hj0 : j ≠ 0 := by
          have := List.length_pos_iff.2 HX0.out
          omega
        obtain ⟨e0, rfl⟩ : ∃ e0, o = some e0 := by
          cases o with
          | none => exact absurd (HOJ.out.1 rfl) hj0
          | some e0 => exact ⟨e0, rfl⟩
        have HE : Hid (D = e0 ∧ E = 0) := by
          have h := HOD.out
          rw [List.drop_eq_nil_of_le (by omega)] at h
          have h2 : (D, E) = (e0, 0) := h
          exact ⟨congrArg Prod.fst h2, congrArg Prod.snd h2⟩
        obtain ⟨rfl, rfl⟩ := HE.out
        have HPD : Hid (PartsAt wr wr.heap.size ao D) := HPO.out
        have HPr : Hid (PartsAt wr wr.heap.size a1 D) := HP2.out.here hb (Nat.le_refl _)
        have HBr : Hid (Below w.heap.size w wr) := HB2.out.trans (hb.mono HB2.out.size)
        rw [show (some D).getD [] = D from rfl]
        clear hb HOD HO HE
        go_wp2_with fail
        refine (Same_yes a1 ao D c1 co _ HPr.out HPD.out).mono ?_
        rintro e w4 ⟨rfl, hb4⟩
        have HB4 : Hid (Below w.heap.size w w4) := HBr.out.trans (hb4.mono HBr.out.size)
        clear hb4
        go_wp2_with fail
        go_ret
        exact ⟨by first | rfl | simp, HB4.out⟩
end Go.Proofs.Ytinhidddfpjjkab
