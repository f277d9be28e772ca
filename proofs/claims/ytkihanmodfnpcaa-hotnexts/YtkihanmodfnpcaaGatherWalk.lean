/- What package part's gather answers. -/
import Derived.Test.YtkihanmodfnpcaaKeep
namespace Go.Proofs.Ytkihanmodfnpcaa
open Go.RowKit
set_option linter.unusedSimpArgs false
set_option linter.unusedVariables false

set_option maxHeartbeats 400000 in
theorem keep_zero (G : Nat) (w : World) :
    Calls Try.prog 66 #[.pointer (some ⟨G, 0, none⟩), .int .i64 0] w fun e w' => e = .returned (.tuple #[]) ∧ w' = w := by
  go_enter Try.func66, Try.ntmps66
  go_wp2_with fail
  exact bodyPost_ret (v := .tuple #[]) (by simp [results, Try.results66, go_sem]) rfl ⟨rfl, rfl⟩

set_option maxHeartbeats 2000000 in
theorem gather_any (a : Option Addr) (l : List Pt) (cap : Nat) (w : World) (hp : PartsAt w w.heap.size a l) (hs : Small l) (hk : ∀ p ∈ l, p.k = 1 ∨ p.k = 2 ∨ p.k = 3) :
    Calls Try.prog 54 #[.slice a l.length cap] w fun e w' => ∃ sv, e = .returned sv ∧ w'.ownsRow w.heap.size 71 3 sv (gatherL l).length (allCells (gatherL l)) ∧ Below w.heap.size w w' := by
  have hl := hs.1
  obtain ⟨ib, hib, hb0, hb1, hb2⟩ := info_parts infoByte
  have HP : Hid (PartsAt w w.heap.size a l) := hp
  have HS : Hid (Small l) := hs
  have HKD : Hid (∀ p ∈ l, p.k = 1 ∨ p.k = 2 ∨ p.k = 3) := hk
  clear hp hs hk
  go_enter Try.func54, Try.ntmps54
  go_wp2_with fail
  go_loopw [8] (fun i wr => ∃ (k : Nat) (sv tv : Value), k ≤ l.length ∧ i = .int .i64 k ∧ GAt wr w.heap.size w.heap.size (gAll (l.take k)) sv tv ∧ Below w.heap.size w wr) (fun i _ => l.length - (intOf i).toNat)
  case atStart => exact ⟨0, .slice none 0 0, .slice none 0 0, Nat.zero_le _, rfl, ⟨Nat.le_refl _, Deep.blk_alloc_new _ _, World.ownsRow_nil _ _ _ _, World.ownsRow_nil _ _ _ _⟩, (Below.refl _ _).alloc (Nat.le_refl _) _⟩
  case round =>
    obtain ⟨k, sv, tv, hk, rfl, hA, hb⟩ := hrel
    by_cases hlt : k < l.length
    · obtain ⟨p, hpk⟩ : ∃ p, l[k]? = some p := ⟨l[k], List.getElem?_eq_getElem hlt⟩
      have hpm := List.mem_of_getElem? hpk
      obtain ⟨hpb1, hpb2, hpb3⟩ := HS.out.2 p hpm
      have hkd := HKD.out p hpm
      have Hsn : Hid _ := gAll_snoc hpk
      have hgb : GB (gAll (l.take k)) k := by
        have h1 := gAll_B (HS.out.take k).2
        rw [List.length_take, Nat.min_eq_left (by omega)] at h1
        exact h1
      obtain ⟨b, off, rfl, hblt, c1, c2, c3⟩ := (HP.out.below hb (Nat.le_refl _)).mem hpk
      have hz := hb.size
      have hbw : b < wr.heap.size := by omega
      have HB : Hid (Below w.heap.size w wr) := hb
      have hG : w.heap.size < wr.heap.size := lt_of_heap hA.cell
      obtain ⟨st, HST⟩ : ∃ st, Hid (gAll (l.take k) = st) := ⟨_, rfl⟩
      rw [HST.out] at hA hgb
      have HA : Hid (GAt wr w.heap.size w.heap.size st sv tv) := hA
      have HGB : Hid (GB st k) := hgb
      have hgt := hgb.tx
      have hgc := hgb.ct
      have hgc0 := hgb.ct0
      rcases hkd with hk1 | hk2 | hk3
      · have q1 : (p.k == 1) = true := by simp [hk1]
        have HK : Hid (p.k = 1) := hk1
        clear hk1 hA hb hpm hpk hgb
        by_cases hn : p.n = 0
        · have HE : Hid (gStep st p = st) := by show _ = _; simp [gStep, HK.out, hn]
          have HN : Hid (p.n = 0) := hn
          clear hn
          go_wp2_with fail
          rw [HN.out]
          refine (keep_zero _ _).mono ?_
          rintro e w2 ⟨rfl, rfl⟩
          go_wp2_with fail
          go_roundw
          case rel => exact ⟨k + 1, sv, tv, by omega, by go_num, by rw [Hsn.out, HST.out, HE.out]; exact HA.out.alloc _, HB.out.alloc hz _⟩
          case measure => simp [intOf]; omega
        · have HE : Hid (gStep st p = ⟨keepL (settleL st.sl st.tx st.ct) p.n, [], 0⟩) := by show _ = _; simp [gStep, HK.out, hn]
          go_wp2_with fail
          refine (keep_any w.heap.size w.heap.size st k sv tv p.n _ (HA.out.alloc _) (by simp; omega) HGB.out (by omega) (by omega) hpb2).mono ?_
          rintro e w2 ⟨rfl, sv2, tv2, hA2, hb2⟩
          have HA2 : Hid _ := hA2
          have HB2 : Hid (Below w.heap.size w w2) := (HB.out.alloc hz _).trans hb2
          clear hA2 hb2
          go_wp2_with fail
          go_roundw
          case rel => exact ⟨k + 1, sv2, tv2, by omega, by go_num, by rw [Hsn.out, HST.out, HE.out]; exact HA2.out, HB2.out⟩
          case measure => simp [intOf]; omega
      · have q1 : (p.k == 1) = false := by simp [hk2]
        have q2 : (p.k == 2) = true := by simp [hk2]
        have HE : Hid (gStep st p = ⟨st.sl, st.tx ++ p.t.data.toList, st.ct⟩) := by show _ = _; simp [gStep, hk2]
        have x1 : wr.cell? ⟨w.heap.size, 1, none⟩ = some tv := by rw [cell_of_row _ _ _ _ _ _ hA.cell]; rfl
        have hA1 := hA.alloc (.cells #[.int .i64 p.k, .int .i64 p.n, .string p.t] 71)
        have hAt := hA1.tx
        have HA1 : Hid _ := hA1
        clear hk2 hA hb hpm hpk hA1 hgb
        go_wp2_with (at_builtin; refine Lib.wpList_append_own_string _ rfl _ _ 100 9 rfl w.heap.size 5 ib Try.underlying100 Try.underlying9 hib hb0 hb1 hb2 _ _ _ rfl hAt p.t rfl ?c3 ?c4 ?c5 ?_)
        case c3 => unfold maxLen; omega
        case c4 => omega
        case c5 => first | omega | (simp; omega)
        intro v' w2 hown2 hgrow _
        have hG2 := HA1.out.at_tx hgrow
        have d1 : w2.cell? ⟨w.heap.size, 1, none⟩ = some tv := by rw [cell_of_row _ _ _ _ _ _ hG2]; rfl
        have d3 : ∀ o, w2.frozen? ⟨w.heap.size, o, none⟩ = false := fun o => frozen_of_row _ _ _ _ _ hG2
        have hG2' : w.heap.size < w2.heap.size := lt_of_heap hG2
        obtain ⟨bo, cb, rfl⟩ := slice_form' hown2
        have HB2 : Hid (Below w.heap.size w w2) := below_own' (HB.out.alloc hz _) hAt hgrow (by simp; omega)
        have htl : p.t.data.toList.length = p.t.size := Array.length_toList
        have HG : Hid _ := HA1.out.set1 (t := st.tx ++ p.t.data.toList) (tv' := .slice bo (st.tx.length + p.t.size) cb) (by rw [List.length_append, htl, Lib.byteCells_append, ← Lib.strCells_eq]; exact hown2) hgrow
        clear hown2 hgrow hG2 hAt HA1 htl
        go_wp2_with fail
        go_roundw
        case rel =>
          refine ⟨k + 1, sv, .slice bo (st.tx.length + p.t.size) cb, by omega, by go_num, ?_, ?_⟩
          · rw [Hsn.out, HST.out, HE.out]
            exact HG.out
          · exact HB2.out.setCell (p := ⟨w.heap.size, 1, none⟩) (Nat.le_refl _) _
        case measure => simp [intOf]; omega
      · have q1 : (p.k == 1) = false := by simp [hk3]
        have q2 : (p.k == 2) = false := by simp [hk3]
        have q3 : (p.k == 3) = true := by simp [hk3]
        have HE : Hid (gStep st p = ⟨st.sl, st.tx, st.ct + p.n⟩) := by show _ = _; simp [gStep, hk3]
        have x2 : wr.cell? ⟨w.heap.size, 2, none⟩ = some (.int .i64 st.ct) := by rw [cell_of_row _ _ _ _ _ _ hA.cell]; rfl
        have x3 : ∀ o, wr.frozen? ⟨w.heap.size, o, none⟩ = false := fun o => frozen_of_row _ _ _ _ _ hA.cell
        clear hk3 hA hb hpm hpk hgb
        go_wp2_with fail
        go_roundw
        case rel =>
          refine ⟨k + 1, sv, tv, by omega, by go_num, ?_, ?_⟩
          · rw [Hsn.out, HST.out, HE.out]
            exact (HA.out.set2 _).alloc _
          · exact (HB.out.setCell (p := ⟨w.heap.size, 2, none⟩) (Nat.le_refl _) _).alloc (by simpa using hz) _
        case measure => simp [intOf]; omega
    · have hkl : l.take k = l := List.take_of_length_le (by omega)
      rw [hkl] at hA
      have hgb := gAll_B HS.out.2
      have hz := hb.size
      have HA : Hid (GAt wr w.heap.size w.heap.size (gAll l) sv tv) := hA
      have HB : Hid (Below w.heap.size w wr) := hb
      have HGB : Hid (GB (gAll l) l.length) := hgb
      clear hA hb hkl hgb
      go_wp2_with fail
      refine (settle_any w.heap.size w.heap.size (gAll l) sv tv _ HA.out hz (by have := HGB.out.len; omega) (by have := HGB.out.tx; omega)).mono ?_
      rintro e w2 ⟨rfl, sv2, tv2, hA2, hb2⟩
      have x0 : w2.cell? ⟨w.heap.size, 0, none⟩ = some sv2 := by rw [cell_of_row _ _ _ _ _ _ hA2.cell]; rfl
      obtain ⟨ao, ca, rfl⟩ := slice_form' hA2.sl
      have HA2 : Hid _ := hA2.sl
      have HB2 : Hid (Below w.heap.size w w2) := HB.out.trans hb2
      clear hA2 hb2
      go_wp2_with fail
      go_ret
      exact ⟨_, rfl, HA2.out, HB2.out⟩

end Go.Proofs.Ytkihanmodfnpcaa
