/- The walk of the document's own 'made'. -/
import Derived.Test.YtinhidddfpjjkabMade
import Derived.Deep.DeepCutAuto
namespace Go.Proofs.Ytinhidddfpjjkab
open Go.RowKit
set_option linter.unusedSimpArgs false
set_option linter.unusedVariables false

theorem ext_eq (s : ByteArray) (a b : Nat) : s.extract a b = ⟨((s.data.toList.drop a).take (b - a)).toArray⟩ := by
  rw [← Lib.extract_data s a b]
theorem ext_to (s : ByteArray) (a : Nat) : s.extract a s.size = ⟨(s.data.toList.drop a).toArray⟩ := by
  have h : s.data.toList.length = s.size := Array.length_toList
  rw [ext_eq, List.take_of_length_le (by rw [List.length_drop, h]; omega)]
theorem three (w : World) (A B C : Obj) : (((w.alloc A).alloc B).alloc C).heap[w.heap.size]? = some A ∧ (((w.alloc A).alloc B).alloc C).heap[w.heap.size + 1]? = some B ∧ (((w.alloc A).alloc B).alloc C).heap[w.heap.size + 1 + 1]? = some C ∧ Below w.heap.size w (((w.alloc A).alloc B).alloc C) := by
  have e1 : (w.alloc A).heap.size = w.heap.size + 1 := Deep.nblk_alloc _ _
  have e2 : ((w.alloc A).alloc B).heap.size = w.heap.size + 1 + 1 := by rw [Deep.nblk_alloc, e1]
  refine ⟨?_, ?_, ?_, (((Below.refl _ _).alloc (Nat.le_refl _) _).alloc (by rw [e1]; omega) _).alloc (by rw [e2]; omega) _⟩
  · rw [Deep.blk_alloc_lt _ _ _ (by omega), Deep.blk_alloc_lt _ _ _ (by omega)]; exact Deep.blk_alloc_new _ _
  · rw [Deep.blk_alloc_lt _ _ _ (by omega), ← e1]; exact Deep.blk_alloc_new _ _
  · rw [← e2]; exact Deep.blk_alloc_new _ _
theorem md_start {W : World} {B X g1 g2 n : Nat} (bx : B ≤ X) (b1 : B ≤ g1) (b2 : B ≤ g2)
    (hx : W.heap[X]? = some (.cells #[.slice (some ⟨g1, 0, none⟩) (n + 1) (n + 1), .slice (some ⟨g2, 0, none⟩) n n] 80 (0, 0)))
    (hq : W.heap[g1]? = some (.cells (madeCells #[.string ⟨#[]⟩] (n + 1)) 9 (0, 0))) (hk : W.heap[g2]? = some (.cells (madeCells #[.bool false] n) 4 (0, 0))) (hn : n ≤ 500) :
    MdAt W B X g1 g2 (List.replicate (n + 1) ByteArray.empty) (List.replicate n false) := by
  have s1 : (madeCells #[Value.string ⟨#[]⟩] (n + 1)).size = n + 1 := size_madeCells _ _
  have s2 : (madeCells #[Value.bool false] n).size = n := size_madeCells _ _
  refine ⟨bx, by simpa using hx, ?_, ?_⟩
  · rw [List.length_replicate]
    refine ⟨by simp, .inr ⟨g1, n + 1, _, rfl, b1, hq, Nat.le_refl _, by unfold maxLen; omega, by rw [s1]; omega, ?_⟩⟩
    rw [toList_madeCells_one, List.take_of_length_le (by simp), List.map_replicate]
    rfl
  · rw [List.length_replicate]
    refine ⟨by simp, .inr ⟨g2, n, _, rfl, b2, hk, Nat.le_refl _, by unfold maxLen; omega, by rw [s2]; omega, ?_⟩⟩
    rw [toList_madeCells_one, List.take_of_length_le (by simp), List.map_replicate]

set_option maxRecDepth 100000 in
set_option maxHeartbeats 4000000 in
theorem made_any (B0 : Nat) (n : Nat) (kept : List (Nat × Nat)) (kv : Value) (text : ByteArray) (w : World) (hk : w.ownsRow B0 83 2 kv kept.length (prCells kept)) (hn : n ≤ 500) (ht : text.size ≤ 1000) (hkl : kept.length ≤ 500) (hok : KeptOK n text.data.toList.length kept 0 0) :
    Calls Try.prog 47 #[.int .i64 n, kv, .string text] w fun e w' => ∃ ov, e = .returned ov ∧ w'.ownsRow w.heap.size 58 3 ov (madeL n kept text.data.toList).length (allCells (madeL n kept text.data.toList)) ∧ Below w.heap.size w w' := by
  have hmk1 : ∀ w : World, (Instr.makeSlice 27 (.int .i64 ((n : Int) + 1)) (.int .i64 ((n : Int) + 1))).run Try.prog w = .ok (.slice (some ⟨w.heap.size, 0, none⟩) (n + 1) (n + 1)) (w.alloc (.cells (madeCells #[.string ⟨#[]⟩] (n + 1)) 9)) := fun w => by
    have h := run_make_row' (P := Try.prog) 27 9 (.string ⟨#[]⟩) 16 Try.underlying27 infoString rfl .i64 .i64 (n + 1) (by omega) (by omega) w
    rw [show ((n + 1 : Nat) : Int) = (n : Int) + 1 by omega] at h
    exact h
  have hmk2 := fun (w : World) => run_make_row' (P := Try.prog) 78 4 (.bool false) 1 Try.underlying78 infoBool rfl .i64 .i64 n (by omega) (by omega) w
  obtain ⟨ko, kc, rfl⟩ := slice_form' hk
  have HK : Hid (w.ownsRow B0 83 2 (.slice ko kept.length kc) kept.length (prCells kept)) := hk
  have HOK : Hid (KeptOK n text.data.toList.length kept 0 0) := hok
  clear hk hok
  go_enter Try.func47, Try.ntmps47
  go_upto_region 1 with fail
  go_cut [7] (fun x wc => ∃ X g1 g2 : Nat, x = .pointer (some ⟨X, 0, none⟩) ∧ MdAt wc w.heap.size X g1 g2 (List.replicate (n + 1) ByteArray.empty) (List.replicate n false) ∧ Below w.heap.size w wc)
  case first =>
    go_region
    all_goals go_wp2_with fail
    all_goals go_meet
    case rel => (have t := three w (.cells (madeCells #[.string ⟨#[]⟩] (n + 1)) 9) (.cells (madeCells #[.bool false] n) 4) (.cells #[.slice (some ⟨w.heap.size, 0, none⟩) (n + 1) (n + 1), .slice (some ⟨w.heap.size + 1, 0, none⟩) n n] 80); exact ⟨w.heap.size + 1 + 1, w.heap.size, w.heap.size + 1, rfl, (md_start (by omega) (by omega) (by omega) t.2.2.1 t.1 t.2.1 hn).drew, t.2.2.2.drew⟩)
    case rel => (have t := three w (.cells (madeCells #[.string ⟨#[]⟩] (n + 1)) 9) (.cells #[.slice (some ⟨w.heap.size, 0, none⟩) (n + 1) (n + 1), .slice (some ⟨w.heap.size + 1 + 1, 0, none⟩) n n] 80) (.cells (madeCells #[.bool false] n) 4); exact ⟨w.heap.size + 1, w.heap.size, w.heap.size + 1 + 1, rfl, (md_start (by omega) (by omega) (by omega) t.2.1 t.1 t.2.2.1 hn).drew, t.2.2.2.drew⟩)
    case rel => (have t := three w (.cells (madeCells #[.bool false] n) 4) (.cells (madeCells #[.string ⟨#[]⟩] (n + 1)) 9) (.cells #[.slice (some ⟨w.heap.size + 1, 0, none⟩) (n + 1) (n + 1), .slice (some ⟨w.heap.size, 0, none⟩) n n] 80); exact ⟨w.heap.size + 1 + 1, w.heap.size + 1, w.heap.size, rfl, (md_start (by omega) (by omega) (by omega) t.2.2.1 t.2.1 t.1 hn).drew, t.2.2.2.drew⟩)
    case rel => (have t := three w (.cells (madeCells #[.bool false] n) 4) (.cells #[.slice (some ⟨w.heap.size + 1 + 1, 0, none⟩) (n + 1) (n + 1), .slice (some ⟨w.heap.size, 0, none⟩) n n] 80) (.cells (madeCells #[.string ⟨#[]⟩] (n + 1)) 9); exact ⟨w.heap.size + 1, w.heap.size + 1 + 1, w.heap.size, rfl, (md_start (by omega) (by omega) (by omega) t.2.1 t.2.2.1 t.1 hn).drew, t.2.2.2.drew⟩)
    case rel => (have t := three w (.cells #[.slice (some ⟨w.heap.size + 1, 0, none⟩) (n + 1) (n + 1), .slice (some ⟨w.heap.size + 1 + 1, 0, none⟩) n n] 80) (.cells (madeCells #[.string ⟨#[]⟩] (n + 1)) 9) (.cells (madeCells #[.bool false] n) 4); exact ⟨w.heap.size, w.heap.size + 1, w.heap.size + 1 + 1, rfl, (md_start (by omega) (by omega) (by omega) t.1 t.2.1 t.2.2.1 hn).drew, t.2.2.2.drew⟩)
    case rel => (have t := three w (.cells #[.slice (some ⟨w.heap.size + 1 + 1, 0, none⟩) (n + 1) (n + 1), .slice (some ⟨w.heap.size + 1, 0, none⟩) n n] 80) (.cells (madeCells #[.bool false] n) 4) (.cells (madeCells #[.string ⟨#[]⟩] (n + 1)) 9); exact ⟨w.heap.size, w.heap.size + 1 + 1, w.heap.size + 1, rfl, (md_start (by omega) (by omega) (by omega) t.1 t.2.2.1 t.2.1 hn).drew, t.2.2.2.drew⟩)
  case rest =>
    obtain ⟨X, g1, g2, rfl, hM, hb⟩ := hcut
    have HM0 : Hid (MdAt wc w.heap.size X g1 g2 (List.replicate (n + 1) ByteArray.empty) (List.replicate n false)) := hM
    have HB0 : Hid (Below w.heap.size w wc) := hb
    have HI0 : Hid (MInv n text.data.toList kept 0 0 0 (List.replicate (n + 1) ByteArray.empty) (List.replicate n false)) := MInv.start HOK.out
    clear hM hb hmk1 hmk2
    go_wp2_with fail
    go_loopw [8, 9, 20] (fun av fv i wr => ∃ (k a f : Nat) (Q : List ByteArray) (K : List Bool), k ≤ kept.length ∧ i = .int .i64 k ∧ av = .int .i64 a ∧ fv = .int .i64 f ∧ MdAt wr w.heap.size X g1 g2 Q K ∧ MInv n text.data.toList kept k a f Q K ∧ Below w.heap.size w wr) (fun _ _ i _ => kept.length - (intOf i).toNat)
    case atStart => exact ⟨0, 0, 0, _, _, Nat.zero_le _, rfl, rfl, rfl, HM0.out, HI0.out, HB0.out⟩
    case round =>
      obtain ⟨k, a, f, Q, K, hk, rfl, rfl, rfl, hM, hI, hb⟩ := hrel
      have hz := hb.size
      have htl : text.data.toList.length = text.size := Array.length_toList
      have x0 : wr.cell? ⟨X, 0, none⟩ = some (.slice (some ⟨g1, 0, none⟩) Q.length Q.length) := by rw [cell_of_row _ _ _ _ _ _ hM.x]; rfl
      have x1 : wr.cell? ⟨X, 1, none⟩ = some (.slice (some ⟨g2, 0, none⟩) K.length K.length) := by rw [cell_of_row _ _ _ _ _ _ hM.x]; rfl
      have hX : X < wr.heap.size := lt_of_heap hM.x
      have hg1 : g1 < wr.heap.size := hM.bq.2
      have hg2 : g2 < wr.heap.size := hM.bk.2
      have hB1 := hM.bq.1
      have hB2 := hM.bk.1
      have hX1 : ¬ X = g1 := fun e => own_ne hM.q hM.x (by decide) (by rw [e]; rfl)
      have hX2 : ¬ X = g2 := fun e => own_ne hM.k hM.x (by decide) (by rw [e]; rfl)
      have h12 : ¬ g2 = g1 := by
        have h := own_ne2 hM.k hM.q (by decide)
        rcases h with h | h
        · cases h
        · exact fun e => h (by rw [e]; rfl)
      by_cases hlt : k < kept.length
      · obtain ⟨p, hpk⟩ : ∃ p, kept[k]? = some p := ⟨kept[k], List.getElem?_eq_getElem hlt⟩
        obtain ⟨i, j⟩ := p
        obtain ⟨s1, s2, s3, s4, s5, s6, s7⟩ := hI.step hpk
        obtain ⟨gk, ck, hgk, y0, y1, hgkw⟩ := pr_at HK.out hpk
        simp only [Value.slice.injEq, true_and] at hgk
        obtain ⟨rfl, rfl⟩ := hgk
        have z0 : wr.cell? ⟨gk, k * 2, none⟩ = some (.int .i64 (i : Int)) := (hb.cell (p := ⟨gk, k * 2, none⟩) hgkw).trans y0
        have z1 : wr.cell? ⟨gk, k * 2 + 1, none⟩ = some (.int .i64 (j : Int)) := (hb.cell (p := ⟨gk, k * 2 + 1, none⟩) hgkw).trans y1
        have hgkr : gk < wr.heap.size := by omega
        obtain ⟨q0, hq0⟩ : ∃ q0, Q[f]? = some q0 := ⟨Q[f]'(by omega), List.getElem?_eq_getElem _⟩
        obtain ⟨b0, hb0⟩ : ∃ b0, K[i]? = some b0 := ⟨K[i]'(by omega), List.getElem?_eq_getElem _⟩
        have v0 : wr.cell? ⟨g1, f, none⟩ = some (.string q0) := by rw [hM.q.cellAt f (by omega)]; simp [hq0]
        have v1 : wr.cell? ⟨g2, i, none⟩ = some (.bool b0) := by rw [hM.k.cellAt i (by omega)]; simp [hb0]
        have w0 : ∀ o, wr.frozen? ⟨g1, o, none⟩ = false := fun o => hM.q.frozenAt o
        have w1 : ∀ o, wr.frozen? ⟨g2, o, none⟩ = false := fun o => hM.k.frozenAt o
        have HI2 : Hid (MInv n text.data.toList kept (k + 1) (j + 1) (i + 1) (Q.set f ⟨((text.data.toList.drop a).take (j - a)).toArray⟩) (K.set i true)) := s7
        have HM : Hid (MdAt wr w.heap.size X g1 g2 Q K) := hM
        have HB : Hid (Below w.heap.size w wr) := hb
        rw [htl] at s4
        clear hM hI hb y0 y1 s7 hpk hq0 hb0
        go_wp2_with fail
        go_region
        go_wp2_with fail
        go_region
        go_wp2_with fail
        go_roundw
        case rel =>
          refine ⟨k + 1, j + 1, i + 1, _, _, by omega, by go_num, by go_num, by go_num, ?_, HI2.out, ?_⟩
          · rw [← ext_eq]
            exact (((HM.out.setQ f (text.extract a j)).setK i true).alloc _).drew.drew
          · exact ((((HB.out.setCell (p := ⟨g1, f, none⟩) hB1 _).setCell (p := ⟨g2, i, none⟩) hB2 _).alloc (by simpa using hz) _).drew).drew
        case measure => simp [intOf]; omega
      · have hkk : k = kept.length := by omega
        subst hkk
        obtain ⟨d1, d2, d3, d4, d5, d6, d7⟩ := hI.done
        rw [htl] at d1
        have v0 : wr.cell? ⟨g1, f, none⟩ = some (.string ByteArray.empty) := by rw [hM.q.cellAt f (by omega)]; simp [d5]
        have w0 : ∀ o, wr.frozen? ⟨g1, o, none⟩ = false := fun o => hM.q.frozenAt o
        have HM2 : Hid (MdAt ((wr.setCell ⟨g1, f, none⟩ (.string (text.extract a text.size))).drew) w.heap.size X g1 g2 (sufQ n text.data.toList kept 0 0) (sufK n kept 0)) := by
          have h := (hM.setQ f (text.extract a text.size)).drew
          rw [ext_to] at h ⊢
          rw [d6, d7] at h
          exact h
        have HQL : Hid (Q.length = (sufQ n text.data.toList kept 0 0).length ∧ K.length = (sufK n kept 0).length) := ⟨by rw [← d6, List.length_set], by rw [d7]⟩
        have HB : Hid (Below w.heap.size w ((wr.setCell ⟨g1, f, none⟩ (.string (text.extract a text.size))).drew)) := (hb.setCell (p := ⟨g1, f, none⟩) hB1 _).drew
        have HLN : Hid ((sufQ n text.data.toList kept 0 0).length = (sufK n kept 0).length + 1 ∧ (sufK n kept 0).length ≤ 800000 ∧ ∀ q ∈ sufQ n text.data.toList kept 0 0, q.size ≤ 1000000) := by
          obtain ⟨l1, l2, l3⟩ := sufQ_len (text := text.data.toList) HOK.out
          refine ⟨by omega, by omega, fun q hq => ?_⟩
          have := sufQ_size q hq
          omega
        have HQN : Hid ((sufQ n text.data.toList kept 0 0).length = n + 1 ∧ (sufK n kept 0).length = n) := by
          obtain ⟨l1, l2, l3⟩ := sufQ_len (text := text.data.toList) HOK.out
          exact ⟨by omega, by omega⟩
        have HQ3 : Hid ((wr.setCell ⟨g1, f, none⟩ (.string (text.extract a text.size))).drew.ownsRow w.heap.size 9 1 (.slice (some ⟨g1, 0, none⟩) (n + 1) (n + 1)) (sufQ n text.data.toList kept 0 0).length ((sufQ n text.data.toList kept 0 0).map Value.string)) := by
          have h := HM2.out.q
          rw [HQN.out.1] at h
          show World.ownsRow _ _ _ _ _ _ _
          rw [HQN.out.1]
          exact h
        have HK3 : Hid ((wr.setCell ⟨g1, f, none⟩ (.string (text.extract a text.size))).drew.ownsRow w.heap.size 4 1 (.slice (some ⟨g2, 0, none⟩) n n) (sufK n kept 0).length ((sufK n kept 0).map Value.bool)) := by
          have h := HM2.out.k
          rw [HQN.out.2] at h
          show World.ownsRow _ _ _ _ _ _ _
          rw [HQN.out.2]
          exact h
        have HMD : Hid (deltaP (sufQ n text.data.toList kept 0 0) (sufK n kept 0) = madeL n kept text.data.toList) := made_delta HOK.out
        clear hM hI hb d6 d7 d5
        go_wp2_with fail
        go_region
        go_wp2_with fail
        refine (PlDelta_any w.heap.size _ _ (sufQ n text.data.toList kept 0 0) (sufK n kept 0) _ HQ3.out HK3.out HLN.out.1 HLN.out.2.1 HLN.out.2.2).mono ?_
        rintro e w2 ⟨ov, rfl, hown, hb2⟩
        rw [HMD.out] at hown
        obtain ⟨oo, oc, rfl⟩ := slice_form' hown
        have hz2 : w.heap.size ≤ (wr.setCell ⟨g1, f, none⟩ (.string (text.extract a text.size))).drew.heap.size := HB.out.size
        have HO2 : Hid (w2.ownsRow w.heap.size 58 3 (.slice oo (madeL n kept text.data.toList).length oc) (madeL n kept text.data.toList).length (allCells (madeL n kept text.data.toList))) := by
          rcases hown.2 with ⟨h1, h2⟩ | ⟨g, cap, cur, h1, h2, h3⟩
          · exact ⟨hown.1, .inl ⟨h1, h2⟩⟩
          · exact ⟨hown.1, .inr ⟨g, cap, cur, h1, Nat.le_trans hz2 h2, h3⟩⟩
        have HB2 : Hid (Below w.heap.size w w2) := HB.out.trans (hb2.mono hz2)
        clear hown hb2 hz2
        go_wp2_with fail
        go_ret
        exact ⟨_, rfl, HO2.out, HB2.out⟩

end Go.Proofs.Ytinhidddfpjjkab
