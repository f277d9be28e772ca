/- The walk of the document's own Places.Delta. -/
import Derived.Test.YtinhidddfpjjkabPlDelta
namespace Go.Proofs.Ytinhidddfpjjkab
open Go.RowKit
set_option linter.unusedSimpArgs false
set_option linter.unusedVariables false

set_option maxRecDepth 100000 in
set_option maxHeartbeats 4000000 in
theorem PlDelta_any (B0 : Nat) (pv kv : Value) (qs : List ByteArray) (ks : List Bool) (w : World)
    (hq : w.ownsRow B0 9 1 pv qs.length (qs.map Value.string)) (hk : w.ownsRow B0 4 1 kv ks.length (ks.map Value.bool)) (hlen : qs.length = ks.length + 1) (hks : ks.length ≤ 800000) (hqs : ∀ q ∈ qs, q.size ≤ 1000000) :
    Calls Try.prog 69 #[.agg #[pv, kv]] w fun e w' => ∃ ov, e = .returned ov ∧ w'.ownsRow w.heap.size 58 3 ov (deltaP qs ks).length (allCells (deltaP qs ks)) ∧ Below w.heap.size w w' := by
  obtain ⟨ip, hip, hp0, hp1, hp2⟩ := info_parts infoPart
  obtain ⟨ao, ca, rfl⟩ := slice_form hq
  obtain ⟨bo, cb, rfl⟩ := slice_form hk
  have hmf : ∀ (fn : Fn) (first cap : Array Value) (w : World), (Instr.makeFunc fn first cap).run Try.prog w = .ok (.func fn first cap) w := fun _ _ _ _ => rfl
  have HQ : Hid (w.ownsRow B0 9 1 (.slice ao qs.length ca) qs.length (qs.map Value.string)) := hq
  have HK : Hid (w.ownsRow B0 4 1 (.slice bo ks.length cb) ks.length (ks.map Value.bool)) := hk
  have HL : Hid (qs.length = ks.length + 1) := hlen
  have HQS : Hid (∀ q ∈ qs, q.size ≤ 1000000) := hqs
  clear hq hk hlen hqs
  go_enter Try.func69, Try.ntmps69
  go_wp2_with fail
  go_loopw [14] (fun i wr => ∃ (k : Nat) (ov : Value), k ≤ ks.length ∧ i = .int .i64 k ∧ DAt wr w.heap.size w.heap.size (w.heap.size + 1) (w.heap.size + 1 + 1) (w.heap.size + 1 + 1 + 1) (.slice ao qs.length ca) (.slice bo ks.length cb) (pTo qs ks k) ov ∧ Below w.heap.size w wr) (fun i _ => ks.length - (intOf i).toNat)
  case atStart =>
    exact ⟨0, .slice none 0 0, Nat.zero_le _, rfl, dl_start w _ _, ((((Below.refl _ _).alloc (Nat.le_refl _) _).alloc (by simp) _).alloc (by simp; omega) _).alloc (by simp; omega) _⟩
  case round =>
    obtain ⟨k, ov, hk, rfl, hD, hb⟩ := hrel
    have hz := hb.size
    have x0 : wr.cell? ⟨w.heap.size, 0, none⟩ = some (.slice ao qs.length ca) := by rw [cell_of_row _ _ _ _ _ _ hD.x]; rfl
    have x1 : wr.cell? ⟨w.heap.size, 1, none⟩ = some (.slice bo ks.length cb) := by rw [cell_of_row _ _ _ _ _ _ hD.x]; rfl
    have o0 : wr.cell? ⟨w.heap.size + 1, 0, none⟩ = some ov := by rw [cell_of_row _ _ _ _ _ _ hD.o]; rfl
    have p0 : wr.cell? ⟨w.heap.size + 1 + 1, 0, none⟩ = some (.string ⟨(pTo qs ks k).tx.toArray⟩) := by rw [cell_of_row _ _ _ _ _ _ hD.p]; rfl
    have c0 : wr.cell? ⟨w.heap.size + 1 + 1 + 1, 0, none⟩ = some (.int .i64 (pTo qs ks k).ct) := by rw [cell_of_row _ _ _ _ _ _ hD.c]; rfl
    have p2 : ∀ o, wr.frozen? ⟨w.heap.size + 1 + 1, o, none⟩ = false := fun o => frozen_of_row _ _ _ _ _ hD.p
    have c2 : ∀ o, wr.frozen? ⟨w.heap.size + 1 + 1 + 1, o, none⟩ = false := fun o => frozen_of_row _ _ _ _ _ hD.c
    have hCw : w.heap.size + 1 + 1 + 1 < wr.heap.size := lt_of_heap hD.c
    have HD : Hid (DAt wr w.heap.size w.heap.size (w.heap.size + 1) (w.heap.size + 1 + 1) (w.heap.size + 1 + 1 + 1) (.slice ao qs.length ca) (.slice bo ks.length cb) (pTo qs ks k) ov) := hD
    have HB : Hid (Below w.heap.size w wr) := hb
    have hPB := pTo_B HL.out HQS.out k hk
    obtain ⟨pb1, pb2, pb3, pb4, pb5⟩ := hPB
    have htl : (⟨(pTo qs ks k).tx.toArray⟩ : ByteArray).size = (pTo qs ks k).tx.length := by show (List.toArray _).size = _; simp
    by_cases hlt : k < ks.length
    · obtain ⟨b, hbk⟩ : ∃ b, ks[k]? = some b := ⟨ks[k], List.getElem?_eq_getElem hlt⟩
      obtain ⟨q, hqk⟩ : ∃ q, qs[k]? = some q := ⟨qs[k]'(by have := HL.out; omega), List.getElem?_eq_getElem _⟩
      have hqb := HQS.out q (List.mem_of_getElem? hqk)
      obtain ⟨g, cg, hg, y1, hgw⟩ := own_at HQ.out (show (qs.map Value.string)[k]? = some (.string q) by simp [hqk])
      obtain ⟨h, ch, hh, z1, hhw⟩ := own_at HK.out (show (ks.map Value.bool)[k]? = some (.bool b) by simp [hbk])
      simp only [Value.slice.injEq, true_and] at hg hh
      obtain ⟨rfl, rfl⟩ := hg
      obtain ⟨rfl, rfl⟩ := hh
      have y2 : wr.cell? ⟨g, k, none⟩ = some (.string q) := (hb.cell (p := ⟨g, k, none⟩) hgw).trans y1
      have z2 : wr.cell? ⟨h, k, none⟩ = some (.bool b) := (hb.cell (p := ⟨h, k, none⟩) hhw).trans z1
      have hgr : g < wr.heap.size := by omega
      have hlq : (k : Int) < (qs.length : Int) := by have := HL.out; omega
      have HS : Hid _ := pTo_succ hqk hbk
      have hadd : (⟨(pTo qs ks k).tx.toArray⟩ : ByteArray).size + q.size ≤ 9223372036854775807 := by rw [htl]; omega
      have hsz2 : (⟨(pTo qs ks k).tx.toArray⟩ : ByteArray).size ≤ 9223372036854775807 := by omega
      clear hD hb hbk hqk y1 z1 htl pb5
      cases b
      · go_wp2_with fail
        go_region
        go_wp2_with fail
        go_roundw
        case rel =>
          refine ⟨k + 1, ov, by omega, by go_num, ?_, ?_⟩
          · have h1 := ((HD.out.setP ((pTo qs ks k).tx ++ q.data.toList)).setC ((pTo qs ks k).ct + 1)).drew
            rw [← str_add] at h1
            have h2 : pTo qs ks (k + 1) = ⟨(pTo qs ks k).sl, (pTo qs ks k).tx ++ q.data.toList, (pTo qs ks k).ct + 1⟩ := by rw [HS.out]; rfl
            rw [h2]
            exact h1
          · exact ((HB.out.setCell (p := ⟨w.heap.size + 1 + 1, 0, none⟩) (by simp; omega) _).setCell (p := ⟨w.heap.size + 1 + 1 + 1, 0, none⟩) (by simp; omega) _).drew
        case measure => simp [intOf]; omega
      · have HD1 : Hid (DAt (wr.setCell ⟨w.heap.size + 1 + 1, 0, none⟩ (.string (⟨(pTo qs ks k).tx.toArray⟩ ++ q))).drew w.heap.size w.heap.size (w.heap.size + 1) (w.heap.size + 1 + 1) (w.heap.size + 1 + 1 + 1) (.slice (some ⟨g, 0, none⟩) qs.length ca) (.slice (some ⟨h, 0, none⟩) ks.length cb) ⟨(pTo qs ks k).sl, (pTo qs ks k).tx ++ q.data.toList, (pTo qs ks k).ct⟩ ov) := by
          have h1 := (HD.out.setP ((pTo qs ks k).tx ++ q.data.toList)).drew
          rw [← str_add] at h1
          exact h1
        have HB1 : Hid (Below w.heap.size w (wr.setCell ⟨w.heap.size + 1 + 1, 0, none⟩ (.string (⟨(pTo qs ks k).tx.toArray⟩ ++ q))).drew) := (HB.out.setCell (p := ⟨w.heap.size + 1 + 1, 0, none⟩) (by simp; omega) _).drew
        have HSP : Hid (pTo qs ks (k + 1) = ⟨keepL (settleL (pTo qs ks k).sl ((pTo qs ks k).tx ++ q.data.toList) (pTo qs ks k).ct) 1, [], 0⟩) := by show _ = _; rw [HS.out]; rfl
        go_wp2_with fail
        go_region
        go_wp2_with fail
        refine (gap_any w.heap.size w.heap.size (w.heap.size + 1) (w.heap.size + 1 + 1) (w.heap.size + 1 + 1 + 1) _ _ _ ov _ HD1.out (by simp; omega) (by simp only; omega)).mono ?_
        rintro e w2 ⟨rfl, ov2, hD2, hb2⟩
        have HB2 : Hid (Below w.heap.size w w2) := HB1.out.trans hb2
        simp only at hD2
        have hsl := settle_len (pTo qs ks k).sl ((pTo qs ks k).tx ++ q.data.toList) (pTo qs ks k).ct
        have hpts : ∀ p ∈ settleL (pTo qs ks k).sl ((pTo qs ks k).tx ++ q.data.toList) (pTo qs ks k).ct, 0 ≤ p.n ∧ p.n ≤ (k : Int) := settle_n (pTo_B HL.out HQS.out k hk).pts (pTo_B HL.out HQS.out k hk).ct
        obtain ⟨L, HLD⟩ : ∃ L, Hid (settleL (pTo qs ks k).sl ((pTo qs ks k).tx ++ q.data.toList) (pTo qs ks k).ct = L) := ⟨_, rfl⟩
        rw [HLD.out] at hD2 hsl hpts
        have hO2 : w.heap.size + 1 < w2.heap.size := lt_of_heap hD2.o
        have q0 : w2.cell? ⟨w.heap.size + 1, 0, none⟩ = some ov2 := by rw [cell_of_row _ _ _ _ _ _ hD2.o]; rfl
        have q3 : ∀ o, w2.frozen? ⟨w.heap.size + 1, o, none⟩ = false := fun o => frozen_of_row _ _ _ _ _ hD2.o
        have HD2 : Hid (DAt w2 w.heap.size w.heap.size (w.heap.size + 1) (w.heap.size + 1 + 1) (w.heap.size + 1 + 1 + 1) (.slice (some ⟨g, 0, none⟩) qs.length ca) (.slice (some ⟨h, 0, none⟩) ks.length cb) ⟨L, [], 0⟩ ov2) := hD2
        have hown := hD2.sl
        simp only at hown
        clear hD2 hb2 x0 x1 o0 p0 c0 p2 c2 y2 z2
        by_cases hL : L = []
        · subst hL
          obtain ⟨eo, ce, rfl⟩ := slice_form' hown
          have HKE : Hid (pTo qs ks (k + 1) = ⟨[] ++ [⟨1, 1, ByteArray.empty⟩], [], 0⟩) := by show _ = _; rw [HSP.out, HLD.out]; simp [keepL]
          have hA := HD2.out.alloc (.cells #[.int .i64 1, .int .i64 1, .string ⟨#[]⟩] 58)
          have hAs := hA.sl
          have HA : Hid _ := hA
          simp only at hAs
          clear hA hown
          go_wp2_with (at_builtin; refine wpList_append_own _ rfl _ _ 33 rfl w.heap.size 58 ip _ 3 32 Try.underlying33 hip hp0 hp1 hp2 rfl (by decide) _ _ _ rfl hAs ⟨w2.heap.size, 0, none⟩ 1 1 [.int .i64 1, .int .i64 1, .string ⟨#[]⟩] rfl rfl (World.news_of_block (cs := #[.int .i64 1, .int .i64 1, .string ⟨#[]⟩]) (t := 58) (fr := (0, 0)) (heap_alloc_new w2 _)) (by simp [Value.oneCell']) ?c3 ?c4 ?c5 ?_)
          case c3 => unfold maxLen; simp only [List.length_nil]; omega
          case c4 => simp only [List.length_nil]; omega
          case c5 => first | omega | (simp; omega)
          intro v' w3 hown2 hgrow _
          obtain ⟨g1, g2, g3⟩ := HA.out.at_o hgrow
          have d1 : w3.cell? ⟨w.heap.size + 1, 0, none⟩ = some (.slice eo (List.length ([] : List Pt)) ce) := by rw [cell_of_row _ _ _ _ _ _ g1]; rfl
          have d3 : ∀ o, w3.frozen? ⟨w.heap.size + 1, o, none⟩ = false := fun o => frozen_of_row _ _ _ _ _ g1
          have hO3 : w.heap.size + 1 < w3.heap.size := lt_of_heap g1
          obtain ⟨fo, cf, rfl⟩ := slice_form' hown2
          have HB3 : Hid (Below w.heap.size w w3) := below_own' (HB2.out.alloc (by omega) _) hAs hgrow (by simp; omega)
          have HG : Hid _ := HA.out.grow (l := [] ++ [⟨1, 1, ByteArray.empty⟩]) (own_snoc (t := ByteArray.empty) hown2) hgrow
          clear hown2 hgrow g1 g2 g3 hAs HA
          go_wp2_with fail
          go_roundw
          case rel => exact ⟨k + 1, _, by omega, by go_num, by rw [HKE.out]; exact HG.out, HB3.out.setCell (p := ⟨w.heap.size + 1, 0, none⟩) (by simp) _⟩
          case measure => simp [intOf]; omega
        · obtain ⟨m, p, hlm, hpm, hlast, hdl⟩ := last_of hL
          obtain ⟨n1, n2⟩ := hpts p (List.mem_of_getElem? hpm)
          obtain ⟨g', cap', rfl, hgB, hgw'⟩ := World.ownsRow.form hown (by omega)
          obtain ⟨y0, y1, y2⟩ := allCells_at hpm
          have z0 : w2.cell? ⟨g', m * 3, none⟩ = some (.int .i64 p.k) := by rw [hown.cellAt _ (by omega)]; exact y0
          have z1 : w2.cell? ⟨g', m * 3 + 1, none⟩ = some (.int .i64 p.n) := by rw [hown.cellAt _ (by omega)]; exact y1
          have z3 : ∀ o, w2.frozen? ⟨g', o, none⟩ = false := fun o => hown.frozenAt o
          rw [hlm] at q0
          have hm1 : m ≤ 5000000 := by omega
          by_cases hk1 : p.k = 1
          · have hk' : (p.k == 1) = true := by simp [hk1]
            have HKE : Hid (pTo qs ks (k + 1) = ⟨L.take m ++ [⟨p.k, p.n + 1, p.t⟩], [], 0⟩) := by show _ = _; rw [HSP.out, HLD.out]; simp [keepL, hlast, hk1, hdl]
            have HLM : Hid (L.length = m + 1) := hlm
            have HPM : Hid (L[m]? = some p) := hpm
            clear hk1 hlast hdl hpm y0 y1 y2 hL hown
            go_wp2_with fail
            go_roundw
            case rel => exact ⟨k + 1, _, by omega, by go_num, by rw [HKE.out]; exact HD2.out.bump HLM.out HPM.out, HB2.out.setCell (p := ⟨g', m * 3 + 1, none⟩) hgB _⟩
            case measure => simp [intOf]; omega
          · have hk' : (p.k == 1) = false := by simp [hk1]
            have HKE : Hid (pTo qs ks (k + 1) = ⟨L ++ [⟨1, 1, ByteArray.empty⟩], [], 0⟩) := by show _ = _; rw [HSP.out, HLD.out]; simp [keepL, hlast, hk1]
            have HLM : Hid (L.length = m + 1) := hlm
            have hA := HD2.out.alloc (.cells #[.int .i64 1, .int .i64 1, .string ⟨#[]⟩] 58)
            have hAs := hA.sl
            have HA : Hid _ := hA
            simp only at hAs
            rw [hlm] at hAs
            clear hA hown hk1 hlast hdl hpm y0 y1 y2
            go_wp2_with (at_builtin; refine wpList_append_own _ rfl _ _ 33 rfl w.heap.size 58 ip _ 3 32 Try.underlying33 hip hp0 hp1 hp2 rfl (by decide) _ _ _ rfl hAs ⟨w2.heap.size, 0, none⟩ 1 1 [.int .i64 1, .int .i64 1, .string ⟨#[]⟩] rfl rfl (World.news_of_block (cs := #[.int .i64 1, .int .i64 1, .string ⟨#[]⟩]) (t := 58) (fr := (0, 0)) (heap_alloc_new w2 _)) (by simp [Value.oneCell']) ?c6 ?c7 ?c8 ?_)
            case c6 => unfold maxLen; omega
            case c7 => omega
            case c8 => first | omega | (simp; omega)
            intro v' w3 hown2 hgrow _
            obtain ⟨g1, g2, g3⟩ := HA.out.at_o hgrow
            have d1 : w3.cell? ⟨w.heap.size + 1, 0, none⟩ = some (.slice (some ⟨g', 0, none⟩) L.length cap') := by rw [cell_of_row _ _ _ _ _ _ g1]; rfl
            have d3 : ∀ o, w3.frozen? ⟨w.heap.size + 1, o, none⟩ = false := fun o => frozen_of_row _ _ _ _ _ g1
            have hO3 : w.heap.size + 1 < w3.heap.size := lt_of_heap g1
            obtain ⟨fo, cf, rfl⟩ := slice_form' hown2
            have HB3 : Hid (Below w.heap.size w w3) := below_own' (HB2.out.alloc (by omega) _) hAs hgrow (by simp; omega)
            have HG : Hid _ := HA.out.grow (l := L ++ [⟨1, 1, ByteArray.empty⟩]) (own_snoc (t := ByteArray.empty) (by rw [HLM.out]; exact hown2)) hgrow
            clear hown2 hgrow g1 g2 g3 hAs HA
            go_wp2_with fail
            go_roundw
            case rel => exact ⟨k + 1, _, by omega, by go_num, by rw [HKE.out]; exact HG.out, HB3.out.setCell (p := ⟨w.heap.size + 1, 0, none⟩) (by simp) _⟩
            case measure => simp [intOf]; omega
    · have hkk : k = ks.length := by omega
      subst hkk
      obtain ⟨q, hqk⟩ : ∃ q, qs[ks.length]? = some q := ⟨qs[ks.length]'(by have := HL.out; omega), List.getElem?_eq_getElem _⟩
      have hqb := HQS.out q (List.mem_of_getElem? hqk)
      obtain ⟨g, cg, hg, y1, hgw⟩ := own_at HQ.out (show (qs.map Value.string)[ks.length]? = some (.string q) by simp [hqk])
      simp only [Value.slice.injEq, true_and] at hg
      obtain ⟨rfl, rfl⟩ := hg
      have y2 : wr.cell? ⟨g, ks.length, none⟩ = some (.string q) := (hb.cell (p := ⟨g, ks.length, none⟩) hgw).trans y1
      have hgr : g < wr.heap.size := by omega
      have hlq : (ks.length : Int) < (qs.length : Int) := by have := HL.out; omega
      have HE : Hid _ := deltaP_to HL.out hqk
      have hadd : (⟨(pTo qs ks ks.length).tx.toArray⟩ : ByteArray).size + q.size ≤ 9223372036854775807 := by rw [htl]; omega
      have hsz2 : (⟨(pTo qs ks ks.length).tx.toArray⟩ : ByteArray).size ≤ 9223372036854775807 := by omega
      have HD1 : Hid (DAt (wr.setCell ⟨w.heap.size + 1 + 1, 0, none⟩ (.string (⟨(pTo qs ks ks.length).tx.toArray⟩ ++ q))).drew w.heap.size w.heap.size (w.heap.size + 1) (w.heap.size + 1 + 1) (w.heap.size + 1 + 1 + 1) (.slice (some ⟨g, 0, none⟩) qs.length ca) (.slice bo ks.length cb) ⟨(pTo qs ks ks.length).sl, (pTo qs ks ks.length).tx ++ q.data.toList, (pTo qs ks ks.length).ct⟩ ov) := by
        have h1 := (HD.out.setP ((pTo qs ks ks.length).tx ++ q.data.toList)).drew
        rw [← str_add] at h1
        exact h1
      have HB1 : Hid (Below w.heap.size w (wr.setCell ⟨w.heap.size + 1 + 1, 0, none⟩ (.string (⟨(pTo qs ks ks.length).tx.toArray⟩ ++ q))).drew) := (HB.out.setCell (p := ⟨w.heap.size + 1 + 1, 0, none⟩) (by simp; omega) _).drew
      clear hD hb hqk y1 htl pb5
      go_wp2_with fail
      go_region
      go_wp2_with fail
      refine (gap_any w.heap.size w.heap.size (w.heap.size + 1) (w.heap.size + 1 + 1) (w.heap.size + 1 + 1 + 1) _ _ _ ov _ HD1.out (by simp; omega) (by simp only; omega)).mono ?_
      rintro e w2 ⟨rfl, ov2, hD2, hb2⟩
      have HB2 : Hid (Below w.heap.size w w2) := HB1.out.trans hb2
      simp only at hD2
      obtain ⟨eo, ce, rfl⟩ := slice_form' hD2.sl
      have q0 : w2.cell? ⟨w.heap.size + 1, 0, none⟩ = some (.slice eo (settleL (pTo qs ks ks.length).sl ((pTo qs ks ks.length).tx ++ q.data.toList) (pTo qs ks ks.length).ct).length ce) := by rw [cell_of_row _ _ _ _ _ _ hD2.o]; rfl
      have HSL : Hid _ := hD2.sl
      clear hD2 hb2
      go_wp2_with fail
      go_ret
      exact ⟨_, rfl, by rw [HE.out]; exact HSL.out, HB2.out⟩

end Go.Proofs.Ytinhidddfpjjkab
