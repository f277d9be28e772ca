/- What the gatherer's settle does. -/
import Derived.Test.YtgffippimmokiaaGMem
import Derived.Deep.RegionLaw
import Derived.Deep.AppendLies
import Derived.Deep.DrawnRows
import Derived.Deep.DeepCutAuto
import Derived.Test.YtgffippimmokiaaPure
namespace Go.Proofs.Ytgffippimmokiaa
open Go.RowKit
set_option linter.unusedSimpArgs false
set_option linter.unusedVariables false
attribute [local go_sem ↓] Go.wp_at_zero Go.wp_at_succ

def putL (sl : List Pt) (tx : List UInt8) : List Pt := sl ++ (if tx = [] then [] else [⟨2, 0, ⟨tx.toArray⟩⟩])
theorem putL_nil (sl : List Pt) : putL sl [] = sl := by simp [putL]
theorem putL_some {sl : List Pt} {tx : List UInt8} (h : tx ≠ []) : putL sl tx = sl ++ [⟨2, 0, ⟨tx.toArray⟩⟩] := by simp [putL, h]
theorem settle_put_zero {sl : List Pt} {tx : List UInt8} {ct : Int} (h : ¬ 0 < ct) : settleL sl tx ct = putL sl tx := by simp [settleL, putL, h]
theorem settle_put_pos {sl : List Pt} {tx : List UInt8} {ct : Int} (h : 0 < ct) : settleL sl tx ct = putL sl tx ++ [⟨3, ct, ByteArray.empty⟩] := by simp [settleL, putL, h]
theorem putL_len (sl : List Pt) (tx : List UInt8) : (putL sl tx).length ≤ sl.length + 1 := by unfold putL; split <;> simp

set_option maxRecDepth 100000 in
set_option maxHeartbeats 4000000 in
theorem settle_any (B G : Nat) (s : GSt) (sv tv : Value) (w : World) (h : GAt w B G s sv tv) (hB : B ≤ w.heap.size) (hlen : s.sl.length ≤ 10000) (htl : s.tx.length ≤ 1000000) :
    Calls Try.prog 141 #[.pointer (some ⟨G, 0, none⟩)] w fun e w' => e = .returned (.tuple #[]) ∧ ∃ sv' tv', GAt w' B G ⟨settleL s.sl s.tx s.ct, [], 0⟩ sv' tv' ∧ Below B w w' := by
  obtain ⟨ip, hip, hp0, hp1, hp2⟩ := info_parts infoPart
  have c0 : w.cell? ⟨G, 0, none⟩ = some sv := by rw [cell_of_row _ _ _ _ _ _ h.cell]; rfl
  have c1 : w.cell? ⟨G, 1, none⟩ = some tv := by rw [cell_of_row _ _ _ _ _ _ h.cell]; rfl
  have c3 : ∀ o, w.frozen? ⟨G, o, none⟩ = false := fun o => frozen_of_row _ _ _ _ _ h.cell
  have hG : G < w.heap.size := lt_of_heap h.cell
  obtain ⟨ta, tc, rfl⟩ := slice_form' h.tx
  have H : Hid (GAt w B G s sv (.slice ta s.tx.length tc)) := h
  have hpl := putL_len s.sl s.tx
  clear h
  go_enter Try.func141, Try.ntmps141
  go_upto_if 7 with fail
  go_cut [] (fun wc => ∃ sv1, GAt wc B G ⟨putL s.sl s.tx, s.tx, s.ct⟩ sv1 (.slice ta s.tx.length tc) ∧ Below B w wc)
  case first =>
    by_cases htx : s.tx = []
    · have hz : s.tx.length = 0 := by rw [htx]; rfl
      have HX : Hid (s.tx = []) := htx
      clear htx
      go_wp2_with fail
      go_meet
      case rel => exact ⟨sv, by rw [HX.out, putL_nil, ← HX.out]; exact H.out, Below.refl _ _⟩
    · have hpos : 0 < s.tx.length := List.length_pos_iff.2 htx
      obtain ⟨g, cap, hgv, hgB, hgw⟩ := World.ownsRow.form H.out.tx hpos
      simp only [Value.slice.injEq, true_and] at hgv
      obtain ⟨rfl, rfl⟩ := hgv
      have hcv1 : (convert 134 9 (.slice (some ⟨g, 0, none⟩) s.tx.length tc)).run Try.prog w.drew = .ok (.string ⟨s.tx.toArray⟩) w.drew :=
        run_convert_bytes_back w.drew 134 9 5 ⟨g, 0, none⟩ tc s.tx Try.underlying134 Try.underlying5 Try.underlying9 (fun j hj => text_at H.out.tx j hj)
      have hneS : sv.ownBlock ≠ some G := own_ne' H.out.sl H.out.cell (by decide)
      have hsl := H.out.sl
      have HX : Hid (s.tx ≠ []) := htx
      clear htx
      go_wp2_with fail
      go_region_law
        ((refine step_append_lies _ (by rfl) _ _ _ (by rfl) B 138 ip _ 3 32 Try.underlying38 hip hp0 hp1 hp2 rfl (by omega) sv s.sl.length (allCells s.sl) (by rfl) ((own_alloc hsl _).drew)
            ⟨w.heap.size, 0, none⟩ 1 1 [.int .i64 2, .int .i64 0, .string ⟨s.tx.toArray⟩] (by rfl) (by rfl) (World.news_of_block (cs := #[.int .i64 2, .int .i64 0, .string ⟨s.tx.toArray⟩]) (t := 138) (fr := (0, 0)) (heap_alloc_new w _)) (by simp [Value.oneCell'])
            (by omega) (by unfold maxLen; omega) (by omega) (by simp; omega) (w.heap.size + 1) (by simp) ?_; intro gg cap1 w1 hown1 hgrow hat hlt; have f1 : w1.frozen? ⟨G, 0, none⟩ = false := ((hgrow.frozen_far ⟨G, 0, none⟩ (by simp; omega) (Ne.symm hneS)).trans (World.frozen?_of_block (w := w) (Deep.blk_alloc_lt w _ G hG))).trans (c3 0); have f0 : w1.cell? ⟨G, 0, none⟩ = some sv := ((hgrow.cell_far ⟨G, 0, none⟩ (by simp; omega) (Ne.symm hneS)).trans (alloc_cell hG)).trans c0))
      all_goals
        go_wp2_with fail
        go_meet
        case rel =>
          refine ⟨.slice (some ⟨gg, 0, none⟩) (s.sl.length + 1) cap1, ?_, ?_⟩
          · have h2 := ((H.out.alloc (.cells #[.int .i64 2, .int .i64 0, .string ⟨s.tx.toArray⟩] 138)).drew).grow (l := putL s.sl s.tx) (by rw [putL_some HX.out]; exact own_snoc hown1) hgrow
            exact h2
          · exact (below_own' (((Below.refl B w).alloc hB _).drew) ((own_alloc hsl _).drew) hgrow (by simp; omega)).setCell (p := ⟨G, 0, none⟩) H.out.bg _
  case rest =>
    obtain ⟨sv1, h1, hb1⟩ := hcut
    have hz1 := hb1.size
    have d0 : wc.cell? ⟨G, 0, none⟩ = some sv1 := by rw [cell_of_row _ _ _ _ _ _ h1.cell]; rfl
    have d2 : wc.cell? ⟨G, 2, none⟩ = some (.int .i64 s.ct) := by rw [cell_of_row _ _ _ _ _ _ h1.cell]; rfl
    have d3 : ∀ o, wc.frozen? ⟨G, o, none⟩ = false := fun o => frozen_of_row _ _ _ _ _ h1.cell
    have hG1 : G < wc.heap.size := lt_of_heap h1.cell
    have H1 : Hid (GAt wc B G ⟨putL s.sl s.tx, s.tx, s.ct⟩ sv1 (.slice ta s.tx.length tc)) := h1
    have HB1 : Hid (Below B w wc) := hb1
    clear h1 hb1 c0 c1 c3 H
    go_upto_if 27 with fail
    go_cut [] (fun wd => ∃ sv2, GAt wd B G ⟨settleL s.sl s.tx s.ct, s.tx, s.ct⟩ sv2 (.slice ta s.tx.length tc) ∧ Below B w wd)
    case first =>
      by_cases hct : 0 < s.ct
      · have hneS : sv1.ownBlock ≠ some G := own_ne' H1.out.sl H1.out.cell (by decide)
        have hsl := H1.out.sl
        simp only at hsl
        go_wp2_with fail
        go_region_law
          ((refine step_append_lies _ (by rfl) _ _ _ (by rfl) B 138 ip _ 3 32 Try.underlying38 hip hp0 hp1 hp2 rfl (by omega) sv1 (putL s.sl s.tx).length (allCells (putL s.sl s.tx)) (by rfl) ((own_alloc hsl _).drew)
              ⟨wc.heap.size, 0, none⟩ 1 1 [.int .i64 3, .int .i64 s.ct, .string ⟨#[]⟩] (by rfl) (by rfl) (World.news_of_block (cs := #[.int .i64 3, .int .i64 s.ct, .string ⟨#[]⟩]) (t := 138) (fr := (0, 0)) (heap_alloc_new wc _)) (by simp [Value.oneCell'])
              (by omega) (by unfold maxLen; omega) (by omega) (by simp; omega) (wc.heap.size + 1) (by simp) ?_; intro gg cap1 w1 hown1 hgrow hat hlt; have f1 : w1.frozen? ⟨G, 0, none⟩ = false := ((hgrow.frozen_far ⟨G, 0, none⟩ (by simp; omega) (Ne.symm hneS)).trans (World.frozen?_of_block (w := wc) (Deep.blk_alloc_lt wc _ G hG1))).trans (d3 0); have f0 : w1.cell? ⟨G, 0, none⟩ = some sv1 := ((hgrow.cell_far ⟨G, 0, none⟩ (by simp; omega) (Ne.symm hneS)).trans (alloc_cell hG1)).trans d0))
        all_goals
          go_wp2_with fail
          go_meet
          case rel =>
            refine ⟨.slice (some ⟨gg, 0, none⟩) ((putL s.sl s.tx).length + 1) cap1, ?_, ?_⟩
            · have h2 := ((H1.out.alloc (.cells #[.int .i64 3, .int .i64 s.ct, .string ⟨#[]⟩] 138)).drew).grow (l := settleL s.sl s.tx s.ct) (by rw [settle_put_pos hct]; exact own_snoc (t := ByteArray.empty) hown1) hgrow
              exact h2
            · exact (below_own' ((HB1.out.alloc (by omega) _).drew) ((own_alloc hsl _).drew) hgrow (by simp; omega)).setCell (p := ⟨G, 0, none⟩) H1.out.bg _
      · go_wp2_with fail
        go_meet
        case rel => exact ⟨sv1, by rw [settle_put_zero (by omega)]; exact H1.out, HB1.out⟩
    case rest =>
      obtain ⟨sv2, h2, hb2⟩ := hcut
      have hz2 := hb2.size
      have e1 : wc.cell? ⟨G, 1, none⟩ = some (.slice ta s.tx.length tc) := by rw [cell_of_row _ _ _ _ _ _ h2.cell]; rfl
      have e2 : wc.cell? ⟨G, 2, none⟩ = some (.int .i64 s.ct) := by rw [cell_of_row _ _ _ _ _ _ h2.cell]; rfl
      have e3 : ∀ o, wc.frozen? ⟨G, o, none⟩ = false := fun o => frozen_of_row _ _ _ _ _ h2.cell
      have hG2 : G < wc.heap.size := lt_of_heap h2.cell
      have H2 : Hid (GAt wc B G ⟨settleL s.sl s.tx s.ct, s.tx, s.ct⟩ sv2 (.slice ta s.tx.length tc)) := h2
      have HB2 : Hid (Below B w wc) := hb2
      clear h2 hb2
      go_wp2_with fail
      go_end0
      refine ⟨rfl, sv2, .slice ta 0 tc, ?_, ?_⟩
      · exact (H2.out.set1 (w' := wc) (t := []) (own_zero H2.out.tx) (World.grownBy.refl _ _)).set2 0
      · exact (HB2.out.setCell (p := ⟨G, 1, none⟩) H2.out.bg _).setCell (p := ⟨G, 2, none⟩) H2.out.bg _

end Go.Proofs.Ytgffippimmokiaa

/- What the gatherer's keep does. -/
namespace Go.Proofs.Ytgffippimmokiaa
open Go.RowKit
set_option linter.unusedSimpArgs false
set_option linter.unusedVariables false

theorem last_of {L : List Pt} (h : L ≠ []) : ∃ (m : Nat) (p : Pt), L.length = m + 1 ∧ L[m]? = some p ∧ L.getLast? = some p ∧ L.dropLast = L.take m := by
  have hl : 0 < L.length := List.length_pos_iff.2 h
  refine ⟨L.length - 1, L[L.length - 1], by omega, List.getElem?_eq_getElem _, ?_, ?_⟩
  · rw [List.getLast?_eq_getElem?]; exact List.getElem?_eq_getElem _
  · rw [List.dropLast_eq_take]
theorem allCells_set {L : List Pt} {m : Nat} {p : Pt} {x : Int} (hl : L.length = m + 1) (h : L[m]? = some p) : (allCells L).set (m * 3 + 1) (.int .i64 x) = allCells (L.take m ++ [⟨p.k, x, p.t⟩]) := by
  have h1 : L = L.take m ++ [p] := by rw [← take_snoc h, List.take_of_length_le (by omega)]
  have h2 : (L.take m).length = m := by rw [List.length_take]; omega
  generalize hT : L.take m = T at *
  subst h1
  rw [allCells_append, allCells_append, List.set_append]
  have h3 := allCells_length T
  rw [if_neg (by omega), h3, h2, show m * 3 + 1 - m * 3 = 1 by omega]
  rfl

theorem GAt.bump {w : World} {B G : Nat} {L : List Pt} {t : List UInt8} {c : Int} {g cap m : Nat} {tv : Value} {p : Pt} {x : Int} (h : GAt w B G ⟨L, t, c⟩ (.slice (some ⟨g, 0, none⟩) L.length cap) tv) (hl : L.length = m + 1) (hp : L[m]? = some p) :
    GAt (w.setCell ⟨g, m * 3 + 1, none⟩ (.int .i64 x)) B G ⟨L.take m ++ [⟨p.k, x, p.t⟩], t, c⟩ (.slice (some ⟨g, 0, none⟩) L.length cap) tv := by
  have hgG : g ≠ G := fun e => own_ne' h.sl h.cell (by decide) (by rw [e]; rfl)
  have h2 := (h.sl.stored (m * 3 + 1) (.int .i64 x)).1
  have h3 : (L.take m ++ [Pt.mk p.k x p.t]).length = L.length := by rw [List.length_append, List.length_take]; simp only [List.length_cons, List.length_nil]; omega
  refine ⟨h.bg, ?_, ?_, ?_⟩
  · rw [Deep.blk_setCell_other _ _ _ _ (fun e => hgG e.symm)]; exact h.cell
  · simp only [h3]
    rw [← allCells_set hl hp]
    exact h2
  · exact h.tx.kept (grown_set w g (m * 3 + 1) (.int .i64 x)) (own_ne2' h.tx h.sl (by decide))

set_option maxHeartbeats 2000000 in
theorem keep_any (B G : Nat) (s : GSt) (m0 : Nat) (sv tv : Value) (n : Int) (w : World) (h : GAt w B G s sv tv) (hB : B ≤ w.heap.size) (hg : GB s m0) (hm : m0 ≤ 1600) (hn0 : 0 < n) (hn1 : n ≤ 500) :
    Calls Try.prog 140 #[.pointer (some ⟨G, 0, none⟩), .int .i64 n] w fun e w' => e = .returned (.tuple #[]) ∧ ∃ sv' tv', GAt w' B G ⟨keepL (settleL s.sl s.tx s.ct) n, [], 0⟩ sv' tv' ∧ Below B w w' := by
  obtain ⟨ip, hip, hp0, hp1, hp2⟩ := info_parts infoPart
  have h1 := hg.len
  have h2 := hg.tx
  have hsl := settle_len s.sl s.tx s.ct
  have hpts := settle_pts hg.pts hg.tx hg.ct
  have H : Hid (GAt w B G s sv tv) := h
  have hne : (n == 0) = false := by simp; omega
  clear h hg
  go_enter Try.func140, Try.ntmps140
  go_wp2_with fail
  refine (settle_any B G s sv tv _ H.out hB (by omega) (by omega)).mono ?_
  rintro e w1 ⟨rfl, sv1, tv1, hA, hb⟩
  obtain ⟨L, HLD⟩ : ∃ L, Hid (settleL s.sl s.tx s.ct = L) := ⟨_, rfl⟩
  rw [HLD.out] at hA hsl hpts
  have hz := hb.size
  have hG : G < w1.heap.size := lt_of_heap hA.cell
  have c0 : w1.cell? ⟨G, 0, none⟩ = some sv1 := by rw [cell_of_row _ _ _ _ _ _ hA.cell]; rfl
  have c3 : ∀ o, w1.frozen? ⟨G, o, none⟩ = false := fun o => frozen_of_row _ _ _ _ _ hA.cell
  have HA : Hid (GAt w1 B G ⟨L, [], 0⟩ sv1 tv1) := hA
  have HB : Hid (Below B w w1) := hb
  have hown := hA.sl
  simp only at hown
  clear hA hb H
  by_cases hL : L = []
  · subst hL
    obtain ⟨ao, cap, rfl⟩ := slice_form' hown
    have HK : Hid (keepL (settleL s.sl s.tx s.ct) n = [] ++ [⟨1, n, ByteArray.empty⟩]) := by show _ = _; rw [HLD.out]; simp [keepL]
    have hA1 := HA.out.alloc (.cells #[.int .i64 1, .int .i64 n, .string ⟨#[]⟩] 138)
    have hAs := hA1.sl
    have HA1 : Hid _ := hA1
    simp only at hAs
    clear hA1
    go_wp2_with (at_builtin; refine wpList_append_own _ rfl _ _ 38 rfl B 138 ip _ 3 32 Try.underlying38 hip hp0 hp1 hp2 rfl (by decide) _ _ _ rfl hAs ⟨w1.heap.size, 0, none⟩ 1 1 [.int .i64 1, .int .i64 n, .string ⟨#[]⟩] rfl rfl (World.news_of_block (cs := #[.int .i64 1, .int .i64 n, .string ⟨#[]⟩]) (t := 138) (fr := (0, 0)) (heap_alloc_new w1 _)) (by simp [Value.oneCell']) ?c3 ?c4 ?c5 ?_)
    case c3 => unfold maxLen; simp only [List.length_nil]; omega
    case c4 => simp only [List.length_nil]; omega
    case c5 => first | omega | (simp; omega)
    intro v' w2 hown2 hgrow _
    have hG2 := HA1.out.at_sl hgrow
    have d0 : w2.cell? ⟨G, 0, none⟩ = some (.slice ao (List.length ([] : List Pt)) cap) := by rw [cell_of_row _ _ _ _ _ _ hG2]; rfl
    have d3 : ∀ o, w2.frozen? ⟨G, o, none⟩ = false := fun o => frozen_of_row _ _ _ _ _ hG2
    have hG2' : G < w2.heap.size := lt_of_heap hG2
    obtain ⟨bo, cb, rfl⟩ := slice_form' hown2
    have HB2 : Hid (Below B w w2) := below_own' (HB.out.alloc (by omega) _) hAs hgrow (by simp; omega)
    have HG : Hid _ := HA1.out.grow (l := [] ++ [⟨1, n, ByteArray.empty⟩]) (own_snoc (t := ByteArray.empty) hown2) hgrow
    clear hown2 hgrow hG2 hAs HA1
    go_wp2_with fail
    go_end0
    exact ⟨rfl, ⟨_, _, by rw [HK.out]; exact HG.out⟩, HB2.out.setCell (p := ⟨G, 0, none⟩) HA.out.bg _⟩
  · obtain ⟨m, p, hlm, hpm, hlast, hdl⟩ := last_of hL
    have hpB := hpts p (List.mem_of_getElem? hpm)
    obtain ⟨g, cap, rfl, hgB, hgw⟩ := World.ownsRow.form hown (by omega)
    obtain ⟨y0, y1, y2⟩ := allCells_at hpm
    have z0 : w1.cell? ⟨g, m * 3, none⟩ = some (.int .i64 p.k) := by rw [hown.cellAt _ (by omega)]; exact y0
    have z1 : w1.cell? ⟨g, m * 3 + 1, none⟩ = some (.int .i64 p.n) := by rw [hown.cellAt _ (by omega)]; exact y1
    have z3 : ∀ o, w1.frozen? ⟨g, o, none⟩ = false := fun o => hown.frozenAt o
    obtain ⟨q1, q2, q3, q4⟩ := hpB
    rw [hlm] at c0
    have hm1 : m ≤ 20000 := by omega
    by_cases hk : p.k = 1
    · have hk' : (p.k == 1) = true := by simp [hk]
      have HK : Hid (keepL (settleL s.sl s.tx s.ct) n = L.take m ++ [⟨p.k, p.n + n, p.t⟩]) := by show _ = _; rw [HLD.out]; simp [keepL, hlast, hk, hdl]
      have HLM : Hid (L.length = m + 1) := hlm
      have HPM : Hid (L[m]? = some p) := hpm
      clear hk hlast hdl hpm y0 y1 y2 hL hown
      go_wp2_with fail
      refine bodyPost_ret (v := .tuple #[]) (by simp [results, Try.results140, go_sem]) rfl ⟨rfl, _, _, by rw [HK.out]; exact HA.out.bump HLM.out HPM.out, HB.out.setCell (p := ⟨g, m * 3 + 1, none⟩) hgB _⟩
    · have hk' : (p.k == 1) = false := by simp [hk]
      obtain ⟨ao, hao⟩ : ∃ ao, ao = some (⟨g, 0, none⟩ : Addr) := ⟨_, rfl⟩
      have HK : Hid (keepL (settleL s.sl s.tx s.ct) n = L ++ [⟨1, n, ByteArray.empty⟩]) := by show _ = _; rw [HLD.out]; simp [keepL, hlast, hk]
      clear hk hlast hdl hpm y0 y1 y2 hown
      have hA1 := HA.out.alloc (.cells #[.int .i64 1, .int .i64 n, .string ⟨#[]⟩] 138)
      have hAs := hA1.sl
      have HA1 : Hid _ := hA1
      simp only at hAs
      rw [hlm] at hAs
      have HLM : Hid (L.length = m + 1) := hlm
      clear hA1
      go_wp2_with (at_builtin; refine wpList_append_own _ rfl _ _ 38 rfl B 138 ip _ 3 32 Try.underlying38 hip hp0 hp1 hp2 rfl (by decide) _ _ _ rfl hAs ⟨w1.heap.size, 0, none⟩ 1 1 [.int .i64 1, .int .i64 n, .string ⟨#[]⟩] rfl rfl (World.news_of_block (cs := #[.int .i64 1, .int .i64 n, .string ⟨#[]⟩]) (t := 138) (fr := (0, 0)) (heap_alloc_new w1 _)) (by simp [Value.oneCell']) ?c3 ?c4 ?c5 ?_)
      case c3 => unfold maxLen; omega
      case c4 => omega
      case c5 => first | omega | (simp; omega)
      intro v' w2 hown2 hgrow _
      have hG2 := HA1.out.at_sl hgrow
      have d0 : w2.cell? ⟨G, 0, none⟩ = some (.slice (some ⟨g, 0, none⟩) L.length cap) := by rw [cell_of_row _ _ _ _ _ _ hG2]; rfl
      have d3 : ∀ o, w2.frozen? ⟨G, o, none⟩ = false := fun o => frozen_of_row _ _ _ _ _ hG2
      have hG2' : G < w2.heap.size := lt_of_heap hG2
      obtain ⟨bo, cb, rfl⟩ := slice_form' hown2
      have HB2 : Hid (Below B w w2) := below_own' (HB.out.alloc (by omega) _) hAs hgrow (by simp; omega)
      have HG : Hid _ := HA1.out.grow (l := L ++ [⟨1, n, ByteArray.empty⟩]) (own_snoc (t := ByteArray.empty) (by rw [HLM.out]; exact hown2)) hgrow
      clear hown2 hgrow hG2 hAs HA1
      go_wp2_with fail
      go_end0
      exact ⟨rfl, ⟨_, _, by rw [HK.out]; exact HG.out⟩, HB2.out.setCell (p := ⟨G, 0, none⟩) HA.out.bg _⟩

end Go.Proofs.Ytgffippimmokiaa

/- What package part's gather answers. -/
namespace Go.Proofs.Ytgffippimmokiaa
open Go.RowKit
set_option linter.unusedSimpArgs false
set_option linter.unusedVariables false

set_option maxHeartbeats 400000 in
theorem keep_zero (G : Nat) (w : World) :
    Calls Try.prog 140 #[.pointer (some ⟨G, 0, none⟩), .int .i64 0] w fun e w' => e = .returned (.tuple #[]) ∧ w' = w := by
  go_enter Try.func140, Try.ntmps140
  go_wp2_with fail
  exact bodyPost_ret (v := .tuple #[]) (by simp [results, Try.results140, go_sem]) rfl ⟨rfl, rfl⟩

set_option maxHeartbeats 2000000 in
theorem gather_any (a : Option Addr) (l : List Pt) (cap : Nat) (w : World) (hp : PartsAt w w.heap.size a l) (hs : Small l) (hk : ∀ p ∈ l, p.k = 1 ∨ p.k = 2 ∨ p.k = 3) :
    Calls Try.prog 124 #[.slice a l.length cap] w fun e w' => ∃ sv, e = .returned sv ∧ w'.ownsRow w.heap.size 138 3 sv (gatherL l).length (allCells (gatherL l)) ∧ Below w.heap.size w w' := by
  have hl := hs.1
  obtain ⟨ib, hib, hb0, hb1, hb2⟩ := info_parts infoByte
  have HP : Hid (PartsAt w w.heap.size a l) := hp
  have HS : Hid (Small l) := hs
  have HKD : Hid (∀ p ∈ l, p.k = 1 ∨ p.k = 2 ∨ p.k = 3) := hk
  clear hp hs hk
  go_enter Try.func124, Try.ntmps124
  go_wp2_with fail
  go_loopw [8] (fun i wr => ∃ (k : Nat) (sv tv : Value), k ≤ l.length ∧ i = .int .i64 k ∧ GAt wr w.heap.size w.heap.size (gAll (l.take k)) sv tv ∧ Below w.heap.size w wr) (fun i _ => l.length - (intOf i).toNat)
  case atStart => exact ⟨0, .slice none 0 0, .slice none 0 0, Nat.zero_le _, rfl, ⟨Nat.le_refl _, Deep.blk_alloc_new _ _, World.ownsRow_nil _ _ _ _, World.ownsRow_nil _ _ _ _⟩, (Below.refl _ _).alloc (Nat.le_refl _) _⟩
  case round =>
    obtain ⟨k, sv, tv, hk, rfl, hA, hb⟩ := hrel
    by_cases hlt : k < l.length
    · obtain ⟨p, hpk⟩ : ∃ p, l[k]? = some p := ⟨l[k], List.getElem?_eq_getElem hlt⟩
      have hpm := List.mem_of_getElem? hpk
      obtain ⟨hpb1, hpb2, hpb3⟩ := HS.out.2 p hpm
      have hkd := HKD.out p hpm
      have Hsn : Hid _ := gAll_snoc hpk
      have hgb : GB (gAll (l.take k)) k := by
        have h1 := gAll_B (HS.out.take k).2
        rw [List.length_take, Nat.min_eq_left (by omega)] at h1
        exact h1
      obtain ⟨b, off, rfl, hblt, c1, c2, c3⟩ := (HP.out.below hb (Nat.le_refl _)).mem hpk
      have hz := hb.size
      have hbw : b < wr.heap.size := by omega
      have HB : Hid (Below w.heap.size w wr) := hb
      have hG : w.heap.size < wr.heap.size := lt_of_heap hA.cell
      obtain ⟨st, HST⟩ : ∃ st, Hid (gAll (l.take k) = st) := ⟨_, rfl⟩
      rw [HST.out] at hA hgb
      have HA : Hid (GAt wr w.heap.size w.heap.size st sv tv) := hA
      have HGB : Hid (GB st k) := hgb
      have hgt := hgb.tx
      have hgc := hgb.ct
      have hgc0 := hgb.ct0
      rcases hkd with hk1 | hk2 | hk3
      · have q1 : (p.k == 1) = true := by simp [hk1]
        have HK : Hid (p.k = 1) := hk1
        clear hk1 hA hb hpm hpk hgb
        by_cases hn : p.n = 0
        · have HE : Hid (gStep st p = st) := by show _ = _; simp [gStep, HK.out, hn]
          have HN : Hid (p.n = 0) := hn
          clear hn
          go_wp2_with fail
          rw [HN.out]
          refine (keep_zero _ _).mono ?_
          rintro e w2 ⟨rfl, rfl⟩
          go_wp2_with fail
          go_roundw
          case rel => exact ⟨k + 1, sv, tv, by omega, by go_num, by rw [Hsn.out, HST.out, HE.out]; exact HA.out.alloc _, HB.out.alloc hz _⟩
          case measure => simp [intOf]; omega
        · have HE : Hid (gStep st p = ⟨keepL (settleL st.sl st.tx st.ct) p.n, [], 0⟩) := by show _ = _; simp [gStep, HK.out, hn]
          go_wp2_with fail
          refine (keep_any w.heap.size w.heap.size st k sv tv p.n _ (HA.out.alloc _) (by simp; omega) HGB.out (by omega) (by omega) hpb2).mono ?_
          rintro e w2 ⟨rfl, sv2, tv2, hA2, hb2⟩
          have HA2 : Hid _ := hA2
          have HB2 : Hid (Below w.heap.size w w2) := (HB.out.alloc hz _).trans hb2
          clear hA2 hb2
          go_wp2_with fail
          go_roundw
          case rel => exact ⟨k + 1, sv2, tv2, by omega, by go_num, by rw [Hsn.out, HST.out, HE.out]; exact HA2.out, HB2.out⟩
          case measure => simp [intOf]; omega
      · have q1 : (p.k == 1) = false := by simp [hk2]
        have q2 : (p.k == 2) = true := by simp [hk2]
        have HE : Hid (gStep st p = ⟨st.sl, st.tx ++ p.t.data.toList, st.ct⟩) := by show _ = _; simp [gStep, hk2]
        have x1 : wr.cell? ⟨w.heap.size, 1, none⟩ = some tv := by rw [cell_of_row _ _ _ _ _ _ hA.cell]; rfl
        have hA1 := hA.alloc (.cells #[.int .i64 p.k, .int .i64 p.n, .string p.t] 138)
        have hAt := hA1.tx
        have HA1 : Hid _ := hA1
        clear hk2 hA hb hpm hpk hA1 hgb
        go_wp2_with (at_builtin; refine Lib.wpList_append_own_string _ rfl _ _ 134 9 rfl w.heap.size 5 ib Try.underlying134 Try.underlying9 hib hb0 hb1 hb2 _ _ _ rfl hAt p.t rfl ?c3 ?c4 ?c5 ?_)
        case c3 => unfold maxLen; omega
        case c4 => omega
        case c5 => first | omega | (simp; omega)
        intro v' w2 hown2 hgrow _
        have hG2 := HA1.out.at_tx hgrow
        have d1 : w2.cell? ⟨w.heap.size, 1, none⟩ = some tv := by rw [cell_of_row _ _ _ _ _ _ hG2]; rfl
        have d3 : ∀ o, w2.frozen? ⟨w.heap.size, o, none⟩ = false := fun o => frozen_of_row _ _ _ _ _ hG2
        have hG2' : w.heap.size < w2.heap.size := lt_of_heap hG2
        obtain ⟨bo, cb, rfl⟩ := slice_form' hown2
        have HB2 : Hid (Below w.heap.size w w2) := below_own' (HB.out.alloc hz _) hAt hgrow (by simp; omega)
        have htl : p.t.data.toList.length = p.t.size := Array.length_toList
        have HG : Hid _ := HA1.out.set1 (t := st.tx ++ p.t.data.toList) (tv' := .slice bo (st.tx.length + p.t.size) cb) (by rw [List.length_append, htl, Lib.byteCells_append, ← Lib.strCells_eq]; exact hown2) hgrow
        clear hown2 hgrow hG2 hAt HA1 htl
        go_wp2_with fail
        go_roundw
        case rel =>
          refine ⟨k + 1, sv, .slice bo (st.tx.length + p.t.size) cb, by omega, by go_num, ?_, ?_⟩
          · rw [Hsn.out, HST.out, HE.out]
            exact HG.out
          · exact HB2.out.setCell (p := ⟨w.heap.size, 1, none⟩) (Nat.le_refl _) _
        case measure => simp [intOf]; omega
      · have q1 : (p.k == 1) = false := by simp [hk3]
        have q2 : (p.k == 2) = false := by simp [hk3]
        have q3 : (p.k == 3) = true := by simp [hk3]
        have HE : Hid (gStep st p = ⟨st.sl, st.tx, st.ct + p.n⟩) := by show _ = _; simp [gStep, hk3]
        have x2 : wr.cell? ⟨w.heap.size, 2, none⟩ = some (.int .i64 st.ct) := by rw [cell_of_row _ _ _ _ _ _ hA.cell]; rfl
        have x3 : ∀ o, wr.frozen? ⟨w.heap.size, o, none⟩ = false := fun o => frozen_of_row _ _ _ _ _ hA.cell
        clear hk3 hA hb hpm hpk hgb
        go_wp2_with fail
        go_roundw
        case rel =>
          refine ⟨k + 1, sv, tv, by omega, by go_num, ?_, ?_⟩
          · rw [Hsn.out, HST.out, HE.out]
            exact (HA.out.set2 _).alloc _
          · exact (HB.out.setCell (p := ⟨w.heap.size, 2, none⟩) (Nat.le_refl _) _).alloc (by simpa using hz) _
        case measure => simp [intOf]; omega
    · have hkl : l.take k = l := List.take_of_length_le (by omega)
      rw [hkl] at hA
      have hgb := gAll_B HS.out.2
      have hz := hb.size
      have HA : Hid (GAt wr w.heap.size w.heap.size (gAll l) sv tv) := hA
      have HB : Hid (Below w.heap.size w wr) := hb
      have HGB : Hid (GB (gAll l) l.length) := hgb
      clear hA hb hkl hgb
      go_wp2_with fail
      refine (settle_any w.heap.size w.heap.size (gAll l) sv tv _ HA.out hz (by have := HGB.out.len; omega) (by have := HGB.out.tx; omega)).mono ?_
      rintro e w2 ⟨rfl, sv2, tv2, hA2, hb2⟩
      have x0 : w2.cell? ⟨w.heap.size, 0, none⟩ = some sv2 := by rw [cell_of_row _ _ _ _ _ _ hA2.cell]; rfl
      obtain ⟨ao, ca, rfl⟩ := slice_form' hA2.sl
      have HA2 : Hid _ := hA2.sl
      have HB2 : Hid (Below w.heap.size w w2) := HB.out.trans hb2
      clear hA2 hb2
      go_wp2_with fail
      go_ret
      exact ⟨_, rfl, HA2.out, HB2.out⟩

end Go.Proofs.Ytgffippimmokiaa

/- What checkLoose and the document's own look at loose parts answer; and Norm. -/
namespace Go.Proofs.Ytgffippimmokiaa
open Go.RowKit
set_option linter.unusedSimpArgs false
set_option linter.unusedVariables false

def looseP (p : Pt) : Int := if formedB p.k p.n p.t = true then (if 500 < widthI p.k p.n p.t then 2 else 0) else 3
def looseS : List Pt → Int
  | [] => 0
  | p :: r => if looseP p = 0 then looseS r else looseP p
def looseE (l : List Pt) : Int := if 1600 < l.length then 2 else looseS l

theorem loose_stop {l : List Pt} {i : Nat} {p : Pt} {R : Int} (h : l[i]? = some p) (hR : looseS (l.drop i) = R) (he : looseP p ≠ 0) : looseP p = R := by
  rw [drop_cons h] at hR
  simpa [looseS, he] using hR
theorem loose_on {l : List Pt} {i : Nat} {p : Pt} {R : Int} (h : l[i]? = some p) (hR : looseS (l.drop i) = R) (he : looseP p = 0) : looseS (l.drop (i + 1)) = R := by
  rw [drop_cons h] at hR
  simpa [looseS, he] using hR

theorem loose_part {p : Pt} (h : looseP p = 0) : (p.k = 1 ∨ p.k = 2 ∨ p.k = 3) ∧ 0 ≤ p.n ∧ p.n ≤ 500 ∧ p.t.size ≤ 500 ∧ (p.k = 2 → p.n = 0) ∧ (p.k ≠ 2 → p.t.size = 0) := by
  unfold looseP at h
  split at h
  · rename_i h1
    split at h
    · omega
    · rename_i h2
      unfold formedB at h1
      unfold widthI at h2
      split at h1 <;> simp only [Bool.and_eq_true, decide_eq_true_eq] at h1 <;> split at h2 <;> omega
  · omega
theorem loose_all {l : List Pt} (h : looseS l = 0) : ∀ p ∈ l, (p.k = 1 ∨ p.k = 2 ∨ p.k = 3) ∧ 0 ≤ p.n ∧ p.n ≤ 500 ∧ p.t.size ≤ 500 ∧ (p.k = 2 → p.n = 0) ∧ (p.k ≠ 2 → p.t.size = 0) := by
  induction l with
  | nil => simp
  | cons q r ih =>
    unfold looseS at h
    split at h
    · intro p hp
      rcases List.mem_cons.1 hp with rfl | hp
      · exact loose_part (by assumption)
      · exact ih h p hp
    · contradiction
theorem loose_small {l : List Pt} (h : looseE l = 0) : Small l ∧ ∀ p ∈ l, (p.k = 1 ∨ p.k = 2 ∨ p.k = 3) ∧ (p.k = 2 → p.n = 0) := by
  unfold looseE at h
  split at h
  · omega
  · have h1 := loose_all h
    exact ⟨⟨by omega, fun p hp => ⟨(h1 p hp).2.1, (h1 p hp).2.2.1, (h1 p hp).2.2.2.1⟩⟩, fun p hp => ⟨(h1 p hp).1, (h1 p hp).2.2.2.2.1⟩⟩

set_option maxHeartbeats 1000000 in
theorem checkLoose_any (a : Option Addr) (l : List Pt) (cap : Nat) (w : World) (hp : PartsAt w w.heap.size a l) :
    Calls Try.prog 123 #[.slice a l.length cap] w fun e w' => e = .returned (.int .i64 (looseE l)) ∧ Below w.heap.size w w' := by
  have hl := hp.1
  by_cases hbig : 1600 < l.length
  · have Hpe : Hid (2 = looseE l) := by show 2 = looseE l; simp [looseE, hbig]
    go_enter Try.func123, Try.ntmps123
    go_wp2
    go_ret
    exact ⟨ret_int Hpe.out, Below.refl _ _⟩
  · have Hpe : Hid (looseS l = looseE l) := by show looseS l = looseE l; simp [looseE, hbig]
    go_enter Try.func123, Try.ntmps123
    go_wp2
    go_loopw [10] (fun i wr => ∃ k : Nat, k ≤ l.length ∧ i = .int .i64 k ∧ looseS (l.drop k) = looseS l ∧ Below w.heap.size w wr) (fun i _ => l.length - (intOf i).toNat)
    case atStart => exact ⟨0, Nat.zero_le _, rfl, rfl, Below.refl _ _⟩
    case round =>
      obtain ⟨k, hk, rfl, hsc, hb⟩ := hrel
      by_cases hlt : k < l.length
      · obtain ⟨p, hpk⟩ : ∃ p, l[k]? = some p := ⟨l[k], List.getElem?_eq_getElem hlt⟩
        obtain ⟨hpb1, hpb2, hpb3, hpb4, hpb5⟩ := hp.2.2.1 p (List.mem_of_getElem? hpk)
        have Hstop : Hid _ := loose_stop hpk hsc
        have Hon : Hid _ := loose_on hpk hsc
        obtain ⟨b, off, rfl, hblt, c1, c2, c3⟩ := (hp.below hb (Nat.le_refl _)).mem hpk
        have HB : Hid _ := hb
        have hz := hb.size
        clear hp hpk hb hsc
        go_wp2_with fail
        refine (formed_any p.k p.n p.t _).mono ?_
        rintro e w1 ⟨rfl, hb1⟩
        obtain ⟨hc, hf⟩ := bcell hb1
        have hz1 : wr.heap.size + 1 ≤ w1.heap.size := by have := hb1.size; simpa using this
        have HB1 : Hid (Below w.heap.size w w1) := (HB.out.alloc hz _).trans (hb1.mono (by simp; omega))
        clear hb1
        cases hfm : formedB p.k p.n p.t
        · have HE : Hid (looseP p = 3) := by show _ = _; simp [looseP, hfm]
          go_wp2_with fail
          go_ret
          exact ⟨ret_int (by rw [← Hpe.out, ← Hstop.out (by rw [HE.out]; omega), HE.out]), HB1.out⟩
        · have HE : Hid (looseP p = if 500 < widthI p.k p.n p.t then 2 else 0) := by show _ = _; simp [looseP, hfm]
          go_wp2_with fail
          refine (width_any p.k p.n p.t _ (by omega)).mono ?_
          rintro e w2 ⟨rfl, hb2⟩
          have HB2 : Hid (Below w.heap.size w w2) := HB1.out.trans (hb2.mono (by omega))
          clear hb2
          by_cases hg : 500 < widthI p.k p.n p.t
          · go_wp2_with fail
            go_ret
            exact ⟨ret_int (by rw [← Hpe.out, ← Hstop.out (by rw [HE.out, if_pos hg]; omega), HE.out, if_pos hg]), HB2.out⟩
          · go_wp2_with fail
            go_roundw
            case rel => exact ⟨k + 1, by omega, by go_num, Hon.out (by rw [HE.out, if_neg (by omega)]), HB2.out⟩
            case measure => simp [intOf]; omega
      · have hnil : l.drop k = [] := List.drop_eq_nil_of_le (by omega)
        rw [hnil] at hsc
        have Hsc : Hid _ := hsc
        clear hsc hnil
        go_wp2
        go_ret
        exact ⟨ret_int (by rw [← Hpe.out, ← Hsc.out]; rfl), hb⟩

/-- the answer of Norm: the error, and the delta -/
def normE (l : List Pt) : Int := if looseE l = 0 then (if sizesE (gatherL l) = 0 then 0 else 2) else looseE l
def normL (l : List Pt) : List Pt := if normE l = 0 then gatherL l else []

theorem gather_bound {l : List Pt} (h : Small l) : Bound (gatherL l) ∧ (gatherL l).length ≤ 5000 := by
  have hb := gAll_B h.2
  have h1 := settle_pts hb.pts hb.tx hb.ct
  have h2 := settle_len (gAll l).sl (gAll l).tx (gAll l).ct
  have h3 := hb.len
  have h4 := h.1
  refine ⟨⟨?_, fun p hp => ?_⟩, ?_⟩
  · unfold gatherL; omega
  · obtain ⟨q1, q2, q3, q4⟩ := h1 p hp
    exact ⟨by omega, by omega, by omega, by omega, by omega⟩
  · unfold gatherL; omega

set_option maxHeartbeats 1000000 in
theorem Norm_any (a : Option Addr) (l : List Pt) (cap : Nat) (w : World) (hp : PartsAt w w.heap.size a l) :
    Calls Try.prog 104 #[.slice a l.length cap] w fun e w' => ∃ a' c', e = .returned (.tuple #[.slice a' (normL l).length c', .int .i64 (normE l)]) ∧ PartsAt w' w'.heap.size a' (normL l) ∧ Below w.heap.size w w' := by
  have HP : Hid (PartsAt w w.heap.size a l) := hp
  clear hp
  go_enter Try.func104, Try.ntmps104
  go_wp2_with fail
  refine (checkLoose_any a l cap _ HP.out).mono ?_
  rintro e w1 ⟨rfl, hb1⟩
  have HP1 : Hid (PartsAt w1 w1.heap.size a l) := HP.out.here hb1 (Nat.le_refl _)
  by_cases h0 : looseE l = 0
  · obtain ⟨hsm, hkd⟩ := loose_small h0
    have h0' : (looseE l != 0) = false := by simp [h0]
    have HE : Hid (normE l = if sizesE (gatherL l) = 0 then 0 else 2) := by show _ = _; simp [normE, h0]
    have HSM : Hid (Small l) := hsm
    have HKD : Hid (∀ p ∈ l, p.k = 1 ∨ p.k = 2 ∨ p.k = 3) := fun p hp => (hkd p hp).1
    have HGB : Hid (Bound (gatherL l)) := (gather_bound hsm).1
    have HB1 : Hid (Below w.heap.size w w1) := hb1
    clear h0 hsm hkd hb1
    go_wp2_with fail
    refine (gather_any a l cap _ HP1.out HSM.out HKD.out).mono ?_
    rintro e w2 ⟨sv, rfl, hown, hb2⟩
    obtain ⟨a2, c2, rfl, hp2⟩ := parts_own hown HGB.out
    have HP2 : Hid (PartsAt w2 w2.heap.size a2 (gatherL l)) := hp2
    have HB2 : Hid (Below w.heap.size w w2) := HB1.out.trans (hb2.mono HB1.out.size)
    clear hown hp2 hb2
    go_wp2_with fail
    refine (Check_any a2 (gatherL l) c2 _ HP2.out).mono ?_
    rintro e w3 ⟨rfl, hb3⟩
    have HP3 : Hid (PartsAt w3 w3.heap.size a2 (gatherL l)) := HP2.out.here hb3 (Nat.le_refl _)
    have HB3 : Hid (Below w.heap.size w w3) := HB2.out.trans (hb3.mono HB2.out.size)
    clear hb3
    by_cases hz : sizesE (gatherL l) = 0
    · have hz' : (sizesE (gatherL l) != 0) = false := by simp [hz]
      have HN : Hid (normE l = 0 ∧ normL l = gatherL l) := by
        have h1 : normE l = 0 := by rw [HE.out, if_pos hz]
        exact ⟨h1, by simp [normL, h1]⟩
      clear hz
      go_wp2_with fail
      go_ret2
      exact ⟨a2, c2, by rw [HN.out.1, HN.out.2]; rfl, by rw [HN.out.2]; exact HP3.out, HB3.out⟩
    · have hz' : (sizesE (gatherL l) != 0) = true := by simp [hz]
      have HN : Hid (normE l = 2 ∧ normL l = []) := by
        have h1 : normE l = 2 := by rw [HE.out, if_neg hz]
        exact ⟨h1, by simp [normL, h1]⟩
      clear hz
      go_wp2_with fail
      go_ret2
      exact ⟨none, 0, by rw [HN.out.1, HN.out.2]; rfl, by rw [HN.out.2]; exact ⟨by simp, Nat.le_refl _, by simp, by simp⟩, HB3.out⟩
  · have h0' : (looseE l != 0) = true := by simp [h0]
    have HN : Hid (normE l = looseE l ∧ normL l = []) := by
      have h1 : normE l = looseE l := by simp [normE, h0]
      exact ⟨h1, by simp [normL, h1, h0]⟩
    have HB1 : Hid (Below w.heap.size w w1) := hb1
    clear h0 hb1
    go_wp2_with fail
    go_ret2
    exact ⟨none, 0, by rw [HN.out.1, HN.out.2]; rfl, by rw [HN.out.2]; exact ⟨by simp, Nat.le_refl _, by simp, by simp⟩, HB1.out⟩

end Go.Proofs.Ytgffippimmokiaa
