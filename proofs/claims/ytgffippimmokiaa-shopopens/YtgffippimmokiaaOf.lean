/- What the document's own Of makes. -/
import Derived.Test.YtgffippimmokiaaGMem
import Derived.Deep.QuietTactic
import Derived.BigQuiet
namespace Go.Proofs.Ytgffippimmokiaa
open Go.RowKit
set_option linter.unusedSimpArgs false
set_option linter.unusedVariables false

theorem infoString : (Try.prog.info? 9).map (fun i => (i.zero, i.size, i.bytes)) = some (some (.string ⟨#[]⟩), 1, 16) := by kernel_rfl
theorem infoBool : (Try.prog.info? 4).map (fun i => (i.zero, i.size, i.bytes)) = some (some (.bool false), 1, 1) := by kernel_rfl

set_option maxHeartbeats 2000000 in
theorem Of_any (a : Option Addr) (l : List Pt) (cap : Nat) (w : World) (hp : PartsAt w w.heap.size a l) (hs : Small l) :
    Calls Try.prog 114 #[.slice a l.length cap] w fun e w' => ∃ pv kv, e = .returned (.agg #[pv, kv]) ∧ w'.ownsRow w.heap.size 9 1 pv (ofAll l).1.length ((ofAll l).1.map Value.string) ∧ w'.ownsRow w.heap.size 4 1 kv (ofAll l).2.length ((ofAll l).2.map Value.bool) ∧ Below w.heap.size w w' := by
  have hl := hs.1
  obtain ⟨is, his, hs0, hs1, hs2⟩ := info_parts infoString
  obtain ⟨ib, hib, hb0, hb1, hb2⟩ := info_parts infoBool
  have HP : Hid (PartsAt w w.heap.size a l) := hp
  have HS : Hid (Small l) := hs
  clear hp hs
  go_enter Try.func114, Try.ntmps114
  go_wp2_with fail
  go_loopw [10] (fun i wr => ∃ (k : Nat) (pv kv : Value), k ≤ l.length ∧ i = .int .i64 k ∧ PlAt wr w.heap.size (w.heap.size + 1 + 1) w.heap.size (ofAll (l.take k)) pv kv ∧ Below w.heap.size w wr) (fun i _ => l.length - (intOf i).toNat)
  case atStart =>
    refine ⟨0, .slice (some ⟨w.heap.size + 1, 0, none⟩) 1 1, .slice none 0 0, Nat.zero_le _, rfl, pl_start w, ?_⟩
    exact (((Below.refl _ _).alloc (Nat.le_refl _) _).alloc (by simp) _).alloc (by simp; omega) _
  case round =>
    obtain ⟨k, pv, kv, hk, rfl, hpl, hb⟩ := hrel
    by_cases hlt : k < l.length
    · obtain ⟨p, hpk⟩ : ∃ p, l[k]? = some p := ⟨l[k], List.getElem?_eq_getElem hlt⟩
      have hpm := List.mem_of_getElem? hpk
      have hpb := HS.out.2 p hpm
      have Hsn : Hid _ := ofAll_snoc hpk
      obtain ⟨b, off, rfl, hblt, c1, c2, c3⟩ := (HP.out.below hb (Nat.le_refl _)).mem hpk
      have hz := hb.size
      have hbw : b < wr.heap.size := by omega
      obtain ⟨hpb1, hpb2, hpb3⟩ := hpb
      have HB : Hid (Below w.heap.size w wr) := hb
      have hX : w.heap.size + 1 + 1 < wr.heap.size := lt_of_heap hpl.cell
      have x0 : wr.cell? ⟨w.heap.size + 1 + 1, 0, none⟩ = some pv := by rw [cell_of_row _ _ _ _ _ _ hpl.cell]; rfl
      have x1 : wr.cell? ⟨w.heap.size + 1 + 1, 1, none⟩ = some kv := by rw [cell_of_row _ _ _ _ _ _ hpl.cell]; rfl
      have hlen := ofAll_len (l.take k)
      have hkl := ofAll_kept (HS.out.take k).2
      have hsz := ofAll_size (HS.out.take k).2
      have htl : (l.take k).length ≤ 1600 := (HS.out.take k).1
      generalize hst : ofAll (l.take k) = st at *
      obtain ⟨qs, ks⟩ := st
      simp only at hlen hkl hsz
      have HPL : Hid (PlAt wr w.heap.size (w.heap.size + 1 + 1) w.heap.size (qs, ks) pv kv) := hpl
      by_cases hk2 : p.k = 2
      · have q2 : (p.k == 2) = true := by simp [hk2]
        obtain ⟨hxl, hv | ⟨g, ca, cur, rfl, hgB, hg, hn, hm, hcur, htake⟩⟩ := hpl.puts
        · exfalso; have := hv.2; simp only at this; omega
        simp only at hxl hn htake x0
        obtain ⟨q, hq⟩ : ∃ q, qs[ks.length]? = some q := ⟨qs[ks.length], List.getElem?_eq_getElem (by omega)⟩
        have hqs := hsz q (List.mem_of_getElem? hq)
        have y0 : wr.cell? ⟨g, ks.length, none⟩ = some (.string q) := by
          have h1 : cur[ks.length]? = some (Value.string q) := by
            have h2 : (cur.toList.take (qs.length * 1))[ks.length]? = some (Value.string q) := by rw [htake]; simp [hq]
            rw [List.getElem?_take] at h2
            split at h2
            · simpa using h2
            · cases h2
          rw [cell_of_row _ _ _ _ _ _ hg]; exact h1
        have y1 : ∀ o, wr.frozen? ⟨g, o, none⟩ = false := fun o => frozen_of_row _ _ _ _ _ hg
        have hgw : g < wr.heap.size := lt_of_heap hg
        rw [hlen] at x0
        have hwm : IntKind.i64.wrap (ks.length : Int) = ks.length := IntWalk.i64_in _ (by omega)
        have hsum : q.size + p.t.size ≤ 9223372036854775807 := by omega
        have HK : Hid (p.k = 2) := hk2
        have HLEN : Hid (qs.length = ks.length + 1) := hlen
        have HQ : Hid (qs[ks.length]? = some q) := hq
        clear hpm hpk hk2 hpl hb hsz hxl hn htake hcur hm hlen hst hq
        go_wp2_with fail
        go_region
        go_wp2_with fail
        go_roundw
        case rel =>
          refine ⟨k + 1, .slice (some ⟨g, 0, none⟩) (ks.length + 1) ca, kv, by omega, by go_num, ?_, ?_⟩
          · have h1 : ofStep (qs, ks) p = (setLast qs p.t, ks) := by simp [ofStep, HK.out]
            rw [Hsn.out, h1]
            have h2 := HPL.out
            rw [HLEN.out] at h2
            exact ((h2.last HLEN.out HQ.out).alloc _).drew
          · refine Below.drew ?_
            exact ((HB.out.setCell (p := ⟨g, ks.length, none⟩) hgB _).alloc (by simpa using hz) _)
        case measure => simp [intOf]; omega
      · have q2 : (p.k == 2) = false := by simp [hk2]
        have HK : Hid (¬ p.k = 2) := hk2
        have HST : Hid _ := hst
        clear hpm hpk hk2 hpl hb hst hsz x0 x1
        obtain ⟨wo, hwo⟩ : ∃ wo, wo = wr := ⟨_, rfl⟩
        subst hwo
        go_wp2_with fail
        go_loopw [31] (fun i w2 => ∃ (j : Nat) (pv' kv' : Value), (j : Int) ≤ p.n ∧ i = .int .i64 j ∧ PlAt w2 w.heap.size (w.heap.size + 1 + 1) w.heap.size (qs ++ List.replicate j ByteArray.empty, ks ++ List.replicate j (p.k == 1)) pv' kv' ∧ Below w.heap.size w w2 ∧
          w2.heap[wo.heap.size]? = some (.cells #[.int .i64 p.k, .int .i64 p.n, .string p.t] 138 (0, 0))) (fun i _ => (p.n - intOf i).toNat)
        case atStart => exact ⟨0, pv, kv, by omega, rfl, by simpa using HPL.out.alloc _, HB.out.alloc hz _, Deep.blk_alloc_new _ _⟩
        case round =>
          obtain ⟨j, pv', kv', hj, rfl, hpl, hb, hbox⟩ := hrel
          have hz2 := hb.size
          by_cases hjl : (j : Int) < p.n
          · have hX2 : w.heap.size + 1 + 1 < wr.heap.size := lt_of_heap hpl.cell
            have hP2 : wo.heap.size < wr.heap.size := lt_of_heap hbox
            have x0 : wr.cell? ⟨w.heap.size + 1 + 1, 0, none⟩ = some pv' := by rw [cell_of_row _ _ _ _ _ _ hpl.cell]; rfl
            have x1 : wr.cell? ⟨w.heap.size + 1 + 1, 1, none⟩ = some kv' := by rw [cell_of_row _ _ _ _ _ _ hpl.cell]; rfl
            have b0 : wr.cell? ⟨wo.heap.size, 0, none⟩ = some (.int .i64 p.k) := by rw [cell_of_row _ _ _ _ _ _ hbox]; rfl
            have HPL2 : Hid (PlAt wr w.heap.size (w.heap.size + 1 + 1) w.heap.size (qs ++ List.replicate j ByteArray.empty, ks ++ List.replicate j (p.k == 1)) pv' kv') := hpl
            have HB2 : Hid (Below w.heap.size w wr) := hb
            have HBX : Hid (wr.heap[wo.heap.size]? = some (.cells #[.int .i64 p.k, .int .i64 p.n, .string p.t] 138 (0, 0))) := hbox
            have hA := hpl.alloc (.cells #[.bool (p.k == 1)] 4)
            have hlk : (ks ++ List.replicate j (p.k == 1)).length + 1 ≤ 2000000 := by simp; omega
            have hlq : (qs ++ List.replicate j ByteArray.empty).length + 1 ≤ 2000000 := by simp; omega
            generalize hqq : qs ++ List.replicate j ByteArray.empty = qs1 at *
            generalize hkk : ks ++ List.replicate j (p.k == 1) = ks1 at *
            have HQQ : Hid _ := hqq
            have HKK : Hid _ := hkk
            have HA : Hid _ := hA
            have hAk := hA.kept
            clear hpl hb hbox hqq hkk hA
            go_wp2_with (at_builtin; refine wpList_append_own _ rfl _ _ 176 rfl w.heap.size 4 ib (.bool false) 1 1 Try.underlying176 hib hb0 hb1 hb2 rfl (by decide) _ _ _ rfl hAk ⟨wr.heap.size, 0, none⟩ 1 1 [.bool (p.k == 1)] rfl rfl (cell_one_new _ _ _) (by simp [Value.oneCell']) ?c3 ?c4 ?c5 ?_)
            case c3 => unfold maxLen; omega
            case c4 => omega
            case c5 => omega
            intro v' w3 hown' hgrow _
            have hX3 := HA.out.at_keep hgrow
            have e0 : w3.cell? ⟨w.heap.size + 1 + 1, 0, none⟩ = some pv' := by rw [cell_of_row _ _ _ _ _ _ hX3]; rfl
            have e1 : w3.cell? ⟨w.heap.size + 1 + 1, 1, none⟩ = some kv' := by rw [cell_of_row _ _ _ _ _ _ hX3]; rfl
            have e2 : ∀ o, w3.frozen? ⟨w.heap.size + 1 + 1, o, none⟩ = false := fun o => frozen_of_row _ _ _ _ _ hX3
            have hX3' : w.heap.size + 1 + 1 < w3.heap.size := lt_of_heap hX3
            have hbox3 := own_block hAk hgrow ((Deep.blk_alloc_lt _ (.cells #[.bool (p.k == 1)] 4) _ hP2).trans HBX.out) (by decide)
            have HB3 : Hid (Below w.heap.size w w3) := below_own (HB2.out.alloc hz2 _) hAk hgrow (by simp; omega)
            obtain ⟨ao, ca, rfl⟩ := slice_form hown'
            have hK := (HA.out.keep hown' hgrow).alloc (.cells #[.string ⟨#[]⟩] 9)
            have hKp := hK.puts
            have HK3 : Hid _ := hK
            have HBX3 : Hid (w3.heap[wo.heap.size]? = some (.cells #[.int .i64 p.k, .int .i64 p.n, .string p.t] 138 (0, 0))) := hbox3
            have hP3 : wo.heap.size < w3.heap.size := lt_of_heap hbox3
            clear hK hown' hgrow hAk hX3 x0 x1 b0 hbox3 HA
            go_wp2_with (at_builtin; refine wpList_append_own _ rfl _ _ 46 rfl w.heap.size 9 is (.string ⟨#[]⟩) 1 16 Try.underlying46 his hs0 hs1 hs2 rfl (by decide) _ _ _ rfl hKp ⟨w3.heap.size, 0, none⟩ 1 1 [.string ⟨#[]⟩] rfl rfl ?c6 (by simp [Value.oneCell']) ?c7 ?c8 ?c9 ?_)
            case c7 => unfold maxLen; omega
            case c8 => omega
            case c9 => omega
            intro v2 w4 hown2 hgrow2 _
            have hX4 := HK3.out.at_put hgrow2
            have g0 : w4.cell? ⟨w.heap.size + 1 + 1, 0, none⟩ = some pv' := by rw [cell_of_row _ _ _ _ _ _ hX4]; rfl
            have g2 : ∀ o, w4.frozen? ⟨w.heap.size + 1 + 1, o, none⟩ = false := fun o => frozen_of_row _ _ _ _ _ hX4
            have hX4' : w.heap.size + 1 + 1 < w4.heap.size := lt_of_heap hX4
            have hne : wo.heap.size ≠ w.heap.size + 1 + 1 := by omega
            have hbox4 := own_block hKp hgrow2 ((Deep.blk_alloc_lt _ (.cells #[.string ⟨#[]⟩] 9) _ (by simpa using hP3)).trans ((Deep.blk_setCell_other _ _ _ _ hne).trans HBX3.out)) (by decide)
            have HB4 : Hid (Below w.heap.size w w4) := below_own ((HB3.out.setCell (p := ⟨w.heap.size + 1 + 1, 1, none⟩) (by simp; omega) _).alloc (by simp; omega) _) hKp hgrow2 (by simp; omega)
            obtain ⟨co, cc, rfl⟩ := slice_form hown2
            have HK4 : Hid _ := HK3.out.put hown2 hgrow2
            have HBX4 : Hid (w4.heap[wo.heap.size]? = some (.cells #[.int .i64 p.k, .int .i64 p.n, .string p.t] 138 (0, 0))) := hbox4
            clear hown2 hgrow2 hKp hX4 e0 e1 hbox4 HK3 e2
            go_wp2_with fail
            go_roundw
            case rel =>
              refine ⟨j + 1, .slice co (qs1.length + 1) cc, .slice ao (ks1.length + 1) ca, by omega, by go_num, ?_, HB4.out.setCell (p := ⟨w.heap.size + 1 + 1, 0, none⟩) (by simp; omega) _, (Deep.blk_setCell_other _ _ _ _ hne).trans HBX4.out⟩
              have h1 := HK4.out
              rw [List.replicate_succ', List.replicate_succ', ← List.append_assoc, ← List.append_assoc, HQQ.out, HKK.out]
              exact h1
            case measure => simp [intOf]; omega
          · have hjn : j = p.n.toNat := by omega
            have h1 : ofStep (qs, ks) p = (qs ++ List.replicate j ByteArray.empty, ks ++ List.replicate j (p.k == 1)) := by
              have h2 : decide (p.k = 1) = (p.k == 1) := by rw [Bool.eq_iff_iff]; simp
              simp only [ofStep, HK.out, if_false, hjn, h2]
            have HN : Hid (PlAt wr w.heap.size (w.heap.size + 1 + 1) w.heap.size (ofAll (l.take (k + 1))) pv' kv') := by show PlAt _ _ _ _ _ _ _; rw [Hsn.out, h1]; exact hpl
            have HB2 : Hid (Below w.heap.size w wr) := hb
            clear h1 hpl hb hbox hjn
            go_wp2_with fail
            go_roundw
            case rel => exact ⟨k + 1, pv', kv', by omega, by go_num, HN.out, HB2.out⟩
            case measure => simp [intOf]; omega
    · have x0 : wr.cell? ⟨w.heap.size + 1 + 1, 0, none⟩ = some pv := by rw [cell_of_row _ _ _ _ _ _ hpl.cell]; rfl
      have x1 : wr.cell? ⟨w.heap.size + 1 + 1, 1, none⟩ = some kv := by rw [cell_of_row _ _ _ _ _ _ hpl.cell]; rfl
      have r0 : wr.cell? ⟨w.heap.size, 0, none⟩ = some (.slice none 0 0) := by rw [cell_of_row _ _ _ _ _ _ hpl.res]; rfl
      have r1 : wr.cell? ⟨w.heap.size, 1, none⟩ = some (.slice none 0 0) := by rw [cell_of_row _ _ _ _ _ _ hpl.res]; rfl
      have r2 : ∀ o, wr.frozen? ⟨w.heap.size, o, none⟩ = false := fun o => frozen_of_row _ _ _ _ _ hpl.res
      have hkl : l.take k = l := List.take_of_length_le (by omega)
      rw [hkl] at hpl
      obtain ⟨ao, ca, rfl⟩ := slice_form hpl.puts
      obtain ⟨bo, cb, rfl⟩ := slice_form hpl.kept
      have HPL : Hid (PlAt wr w.heap.size (w.heap.size + 1 + 1) w.heap.size (ofAll l) (.slice ao (ofAll l).1.length ca) (.slice bo (ofAll l).2.length cb)) := hpl
      have HB : Hid (Below w.heap.size w wr) := hb
      clear hpl hb hkl
      go_wp2_with fail
      have hR1 := set_at (o := 0) (v := .slice ao (ofAll l).1.length ca) HPL.out.res
      have hR2 := set_at (o := 1) (v := .slice bo (ofAll l).2.length cb) hR1
      have p1 := HPL.out.puts.kept (grown_set wr w.heap.size 0 (.slice ao (ofAll l).1.length ca)) (.inr (own_ne HPL.out.puts HPL.out.res (by decide)))
      have k1 := HPL.out.kept.kept (grown_set wr w.heap.size 0 (.slice ao (ofAll l).1.length ca)) (.inr (own_ne HPL.out.kept HPL.out.res (by decide)))
      have p2 := p1.kept (grown_set _ w.heap.size 1 (.slice bo (ofAll l).2.length cb)) (.inr (own_ne p1 hR1 (by decide)))
      have k2 := k1.kept (grown_set _ w.heap.size 1 (.slice bo (ofAll l).2.length cb)) (.inr (own_ne k1 hR1 (by decide)))
      refine bodyPost_ret (v := .agg #[.slice ao (ofAll l).1.length ca, .slice bo (ofAll l).2.length cb]) ?_ rfl ⟨_, _, rfl, p2, k2, ?_⟩
      · exact results_cell_row Try.results114 _ _ w.heap.size 178 #[.slice ao (ofAll l).1.length ca, .slice bo (ofAll l).2.length cb] (0, 0) _ rfl hR2 Try.underlying178 rfl (by kernel_rfl)
      · exact (HB.out.setCell (p := ⟨w.heap.size, 0, none⟩) (Nat.le_refl _) _).setCell (p := ⟨w.heap.size, 1, none⟩) (Nat.le_refl _) _

end Go.Proofs.Ytgffippimmokiaa
