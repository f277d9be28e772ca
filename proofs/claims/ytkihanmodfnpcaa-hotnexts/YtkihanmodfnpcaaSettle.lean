/- What the gatherer's settle does. -/
import Derived.Test.YtkihanmodfnpcaaGMem
import Derived.Deep.RegionLaw
import Derived.Deep.AppendLies
import Derived.Deep.DrawnRows
import Derived.Deep.DeepCutAuto
namespace Go.Proofs.Ytkihanmodfnpcaa
open Go.RowKit
set_option linter.unusedSimpArgs false
set_option linter.unusedVariables false
attribute [local go_sem ↓] Go.wp_at_zero Go.wp_at_succ

def putL (sl : List Pt) (tx : List UInt8) : List Pt := sl ++ (if tx = [] then [] else [⟨2, 0, ⟨tx.toArray⟩⟩])
theorem putL_nil (sl : List Pt) : putL sl [] = sl := by simp [putL]
theorem putL_some {sl : List Pt} {tx : List UInt8} (h : tx ≠ []) : putL sl tx = sl ++ [⟨2, 0, ⟨tx.toArray⟩⟩] := by simp [putL, h]
theorem settle_put_zero {sl : List Pt} {tx : List UInt8} {ct : Int} (h : ¬ 0 < ct) : settleL sl tx ct = putL sl tx := by simp [settleL, putL, h]
theorem settle_put_pos {sl : List Pt} {tx : List UInt8} {ct : Int} (h : 0 < ct) : settleL sl tx ct = putL sl tx ++ [⟨3, ct, ByteArray.empty⟩] := by simp [settleL, putL, h]
theorem putL_len (sl : List Pt) (tx : List UInt8) : (putL sl tx).length ≤ sl.length + 1 := by unfold putL; split <;> simp

set_option maxRecDepth 100000 in
set_option maxHeartbeats 4000000 in
theorem settle_any (B G : Nat) (s : GSt) (sv tv : Value) (w : World) (h : GAt w B G s sv tv) (hB : B ≤ w.heap.size) (hlen : s.sl.length ≤ 10000) (htl : s.tx.length ≤ 1000000) :
    Calls Try.prog 67 #[.pointer (some ⟨G, 0, none⟩)] w fun e w' => e = .returned (.tuple #[]) ∧ ∃ sv' tv', GAt w' B G ⟨settleL s.sl s.tx s.ct, [], 0⟩ sv' tv' ∧ Below B w w' := by
  obtain ⟨ip, hip, hp0, hp1, hp2⟩ := info_parts infoPart
  have c0 : w.cell? ⟨G, 0, none⟩ = some sv := by rw [cell_of_row _ _ _ _ _ _ h.cell]; rfl
  have c1 : w.cell? ⟨G, 1, none⟩ = some tv := by rw [cell_of_row _ _ _ _ _ _ h.cell]; rfl
  have c3 : ∀ o, w.frozen? ⟨G, o, none⟩ = false := fun o => frozen_of_row _ _ _ _ _ h.cell
  have hG : G < w.heap.size := lt_of_heap h.cell
  obtain ⟨ta, tc, rfl⟩ := slice_form' h.tx
  have H : Hid (GAt w B G s sv (.slice ta s.tx.length tc)) := h
  have hpl := putL_len s.sl s.tx
  clear h
  go_enter Try.func67, Try.ntmps67
  go_upto_if 7 with fail
  go_cut [] (fun wc => ∃ sv1, GAt wc B G ⟨putL s.sl s.tx, s.tx, s.ct⟩ sv1 (.slice ta s.tx.length tc) ∧ Below B w wc)
  case first =>
    by_cases htx : s.tx = []
    · have hz : s.tx.length = 0 := by rw [htx]; rfl
      have HX : Hid (s.tx = []) := htx
      clear htx
      go_wp2_with fail
      go_meet
      case rel => exact ⟨sv, by rw [HX.out, putL_nil, ← HX.out]; exact H.out, Below.refl _ _⟩
    · have hpos : 0 < s.tx.length := List.length_pos_iff.2 htx
      obtain ⟨g, cap, hgv, hgB, hgw⟩ := World.ownsRow.form H.out.tx hpos
      simp only [Value.slice.injEq, true_and] at hgv
      obtain ⟨rfl, rfl⟩ := hgv
      have hcv1 : (convert 100 9 (.slice (some ⟨g, 0, none⟩) s.tx.length tc)).run Try.prog w.drew = .ok (.string ⟨s.tx.toArray⟩) w.drew :=
        run_convert_bytes_back w.drew 100 9 5 ⟨g, 0, none⟩ tc s.tx Try.underlying100 Try.underlying5 Try.underlying9 (fun j hj => text_at H.out.tx j hj)
      have hneS : sv.ownBlock ≠ some G := own_ne' H.out.sl H.out.cell (by decide)
      have hsl := H.out.sl
      have HX : Hid (s.tx ≠ []) := htx
      clear htx
      go_wp2_with fail
      go_region_law
        ((refine step_append_lies _ (by rfl) _ _ _ (by rfl) B 71 ip _ 3 32 Try.underlying40 hip hp0 hp1 hp2 rfl (by omega) sv s.sl.length (allCells s.sl) (by rfl) ((own_alloc hsl _).drew)
            ⟨w.heap.size, 0, none⟩ 1 1 [.int .i64 2, .int .i64 0, .string ⟨s.tx.toArray⟩] (by rfl) (by rfl) (World.news_of_block (cs := #[.int .i64 2, .int .i64 0, .string ⟨s.tx.toArray⟩]) (t := 71) (fr := (0, 0)) (heap_alloc_new w _)) (by simp [Value.oneCell'])
            (by omega) (by unfold maxLen; omega) (by omega) (by simp; omega) (w.heap.size + 1) (by simp) ?_; intro gg cap1 w1 hown1 hgrow hat hlt; have f1 : w1.frozen? ⟨G, 0, none⟩ = false := ((hgrow.frozen_far ⟨G, 0, none⟩ (by simp; omega) (Ne.symm hneS)).trans (World.frozen?_of_block (w := w) (Deep.blk_alloc_lt w _ G hG))).trans (c3 0); have f0 : w1.cell? ⟨G, 0, none⟩ = some sv := ((hgrow.cell_far ⟨G, 0, none⟩ (by simp; omega) (Ne.symm hneS)).trans (alloc_cell hG)).trans c0))
      all_goals
        go_wp2_with fail
        go_meet
        case rel =>
          refine ⟨.slice (some ⟨gg, 0, none⟩) (s.sl.length + 1) cap1, ?_, ?_⟩
          · have h2 := ((H.out.alloc (.cells #[.int .i64 2, .int .i64 0, .string ⟨s.tx.toArray⟩] 71)).drew).grow (l := putL s.sl s.tx) (by rw [putL_some HX.out]; exact own_snoc hown1) hgrow
            exact h2
          · exact (below_own' (((Below.refl B w).alloc hB _).drew) ((own_alloc hsl _).drew) hgrow (by simp; omega)).setCell (p := ⟨G, 0, none⟩) H.out.bg _
  case rest =>
    obtain ⟨sv1, h1, hb1⟩ := hcut
    have hz1 := hb1.size
    have d0 : wc.cell? ⟨G, 0, none⟩ = some sv1 := by rw [cell_of_row _ _ _ _ _ _ h1.cell]; rfl
    have d2 : wc.cell? ⟨G, 2, none⟩ = some (.int .i64 s.ct) := by rw [cell_of_row _ _ _ _ _ _ h1.cell]; rfl
    have d3 : ∀ o, wc.frozen? ⟨G, o, none⟩ = false := fun o => frozen_of_row _ _ _ _ _ h1.cell
    have hG1 : G < wc.heap.size := lt_of_heap h1.cell
    have H1 : Hid (GAt wc B G ⟨putL s.sl s.tx, s.tx, s.ct⟩ sv1 (.slice ta s.tx.length tc)) := h1
    have HB1 : Hid (Below B w wc) := hb1
    clear h1 hb1 c0 c1 c3 H
    go_upto_if 27 with fail
    go_cut [] (fun wd => ∃ sv2, GAt wd B G ⟨settleL s.sl s.tx s.ct, s.tx, s.ct⟩ sv2 (.slice ta s.tx.length tc) ∧ Below B w wd)
    case first =>
      by_cases hct : 0 < s.ct
      · have hneS : sv1.ownBlock ≠ some G := own_ne' H1.out.sl H1.out.cell (by decide)
        have hsl := H1.out.sl
        simp only at hsl
        go_wp2_with fail
        go_region_law
          ((refine step_append_lies _ (by rfl) _ _ _ (by rfl) B 71 ip _ 3 32 Try.underlying40 hip hp0 hp1 hp2 rfl (by omega) sv1 (putL s.sl s.tx).length (allCells (putL s.sl s.tx)) (by rfl) ((own_alloc hsl _).drew)
              ⟨wc.heap.size, 0, none⟩ 1 1 [.int .i64 3, .int .i64 s.ct, .string ⟨#[]⟩] (by rfl) (by rfl) (World.news_of_block (cs := #[.int .i64 3, .int .i64 s.ct, .string ⟨#[]⟩]) (t := 71) (fr := (0, 0)) (heap_alloc_new wc _)) (by simp [Value.oneCell'])
              (by omega) (by unfold maxLen; omega) (by omega) (by simp; omega) (wc.heap.size + 1) (by simp) ?_; intro gg cap1 w1 hown1 hgrow hat hlt; have f1 : w1.frozen? ⟨G, 0, none⟩ = false := ((hgrow.frozen_far ⟨G, 0, none⟩ (by simp; omega) (Ne.symm hneS)).trans (World.frozen?_of_block (w := wc) (Deep.blk_alloc_lt wc _ G hG1))).trans (d3 0); have f0 : w1.cell? ⟨G, 0, none⟩ = some sv1 := ((hgrow.cell_far ⟨G, 0, none⟩ (by simp; omega) (Ne.symm hneS)).trans (alloc_cell hG1)).trans d0))
        all_goals
          go_wp2_with fail
          go_meet
          case rel =>
            refine ⟨.slice (some ⟨gg, 0, none⟩) ((putL s.sl s.tx).length + 1) cap1, ?_, ?_⟩
            · have h2 := ((H1.out.alloc (.cells #[.int .i64 3, .int .i64 s.ct, .string ⟨#[]⟩] 71)).drew).grow (l := settleL s.sl s.tx s.ct) (by rw [settle_put_pos hct]; exact own_snoc (t := ByteArray.empty) hown1) hgrow
              exact h2
            · exact (below_own' ((HB1.out.alloc (by omega) _).drew) ((own_alloc hsl _).drew) hgrow (by simp; omega)).setCell (p := ⟨G, 0, none⟩) H1.out.bg _
      · go_wp2_with fail
        go_meet
        case rel => exact ⟨sv1, by rw [settle_put_zero (by omega)]; exact H1.out, HB1.out⟩
    case rest =>
      obtain ⟨sv2, h2, hb2⟩ := hcut
      have hz2 := hb2.size
      have e1 : wc.cell? ⟨G, 1, none⟩ = some (.slice ta s.tx.length tc) := by rw [cell_of_row _ _ _ _ _ _ h2.cell]; rfl
      have e2 : wc.cell? ⟨G, 2, none⟩ = some (.int .i64 s.ct) := by rw [cell_of_row _ _ _ _ _ _ h2.cell]; rfl
      have e3 : ∀ o, wc.frozen? ⟨G, o, none⟩ = false := fun o => frozen_of_row _ _ _ _ _ h2.cell
      have hG2 : G < wc.heap.size := lt_of_heap h2.cell
      have H2 : Hid (GAt wc B G ⟨settleL s.sl s.tx s.ct, s.tx, s.ct⟩ sv2 (.slice ta s.tx.length tc)) := h2
      have HB2 : Hid (Below B w wc) := hb2
      clear h2 hb2
      go_wp2_with fail
      go_end0
      refine ⟨rfl, sv2, .slice ta 0 tc, ?_, ?_⟩
      · exact (H2.out.set1 (w' := wc) (t := []) (own_zero H2.out.tx) (World.grownBy.refl _ _)).set2 0
      · exact (HB2.out.setCell (p := ⟨G, 1, none⟩) H2.out.bg _).setCell (p := ⟨G, 2, none⟩) H2.out.bg _

end Go.Proofs.Ytkihanmodfnpcaa
