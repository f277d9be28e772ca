/- What the gatherer's keep does. -/
import Derived.Test.YtkihanmodfnpcaaSettle
namespace Go.Proofs.Ytkihanmodfnpcaa
open Go.RowKit
set_option linter.unusedSimpArgs false
set_option linter.unusedVariables false

theorem last_of {L : List Pt} (h : L ≠ []) : ∃ (m : Nat) (p : Pt), L.length = m + 1 ∧ L[m]? = some p ∧ L.getLast? = some p ∧ L.dropLast = L.take m := by
  have hl : 0 < L.length := List.length_pos_iff.2 h
  refine ⟨L.length - 1, L[L.length - 1], by omega, List.getElem?_eq_getElem _, ?_, ?_⟩
  · rw [List.getLast?_eq_getElem?]; exact List.getElem?_eq_getElem _
  · rw [List.dropLast_eq_take]
theorem allCells_set {L : List Pt} {m : Nat} {p : Pt} {x : Int} (hl : L.length = m + 1) (h : L[m]? = some p) : (allCells L).set (m * 3 + 1) (.int .i64 x) = allCells (L.take m ++ [⟨p.k, x, p.t⟩]) := by
  have h1 : L = L.take m ++ [p] := by rw [← take_snoc h, List.take_of_length_le (by omega)]
  have h2 : (L.take m).length = m := by rw [List.length_take]; omega
  generalize hT : L.take m = T at *
  subst h1
  rw [allCells_append, allCells_append, List.set_append]
  have h3 := allCells_length T
  rw [if_neg (by omega), h3, h2, show m * 3 + 1 - m * 3 = 1 by omega]
  rfl

theorem GAt.bump {w : World} {B G : Nat} {L : List Pt} {t : List UInt8} {c : Int} {g cap m : Nat} {tv : Value} {p : Pt} {x : Int} (h : GAt w B G ⟨L, t, c⟩ (.slice (some ⟨g, 0, none⟩) L.length cap) tv) (hl : L.length = m + 1) (hp : L[m]? = some p) :
    GAt (w.setCell ⟨g, m * 3 + 1, none⟩ (.int .i64 x)) B G ⟨L.take m ++ [⟨p.k, x, p.t⟩], t, c⟩ (.slice (some ⟨g, 0, none⟩) L.length cap) tv := by
  have hgG : g ≠ G := fun e => own_ne' h.sl h.cell (by decide) (by rw [e]; rfl)
  have h2 := (h.sl.stored (m * 3 + 1) (.int .i64 x)).1
  have h3 : (L.take m ++ [Pt.mk p.k x p.t]).length = L.length := by rw [List.length_append, List.length_take]; simp only [List.length_cons, List.length_nil]; omega
  refine ⟨h.bg, ?_, ?_, ?_⟩
  · rw [Deep.blk_setCell_other _ _ _ _ (fun e => hgG e.symm)]; exact h.cell
  · simp only [h3]
    rw [← allCells_set hl hp]
    exact h2
  · exact h.tx.kept (grown_set w g (m * 3 + 1) (.int .i64 x)) (own_ne2' h.tx h.sl (by decide))

set_option maxHeartbeats 2000000 in
theorem keep_any (B G : Nat) (s : GSt) (m0 : Nat) (sv tv : Value) (n : Int) (w : World) (h : GAt w B G s sv tv) (hB : B ≤ w.heap.size) (hg : GB s m0) (hm : m0 ≤ 1600) (hn0 : 0 < n) (hn1 : n ≤ 500) :
    Calls Try.prog 66 #[.pointer (some ⟨G, 0, none⟩), .int .i64 n] w fun e w' => e = .returned (.tuple #[]) ∧ ∃ sv' tv', GAt w' B G ⟨keepL (settleL s.sl s.tx s.ct) n, [], 0⟩ sv' tv' ∧ Below B w w' := by
  obtain ⟨ip, hip, hp0, hp1, hp2⟩ := info_parts infoPart
  have h1 := hg.len
  have h2 := hg.tx
  have hsl := settle_len s.sl s.tx s.ct
  have hpts := settle_pts hg.pts hg.tx hg.ct
  have H : Hid (GAt w B G s sv tv) := h
  have hne : (n == 0) = false := by simp; omega
  clear h hg
  go_enter Try.func66, Try.ntmps66
  go_wp2_with fail
  refine (settle_any B G s sv tv _ H.out hB (by omega) (by omega)).mono ?_
  rintro e w1 ⟨rfl, sv1, tv1, hA, hb⟩
  obtain ⟨L, HLD⟩ : ∃ L, Hid (settleL s.sl s.tx s.ct = L) := ⟨_, rfl⟩
  rw [HLD.out] at hA hsl hpts
  have hz := hb.size
  have hG : G < w1.heap.size := lt_of_heap hA.cell
  have c0 : w1.cell? ⟨G, 0, none⟩ = some sv1 := by rw [cell_of_row _ _ _ _ _ _ hA.cell]; rfl
  have c3 : ∀ o, w1.frozen? ⟨G, o, none⟩ = false := fun o => frozen_of_row _ _ _ _ _ hA.cell
  have HA : Hid (GAt w1 B G ⟨L, [], 0⟩ sv1 tv1) := hA
  have HB : Hid (Below B w w1) := hb
  have hown := hA.sl
  simp only at hown
  clear hA hb H
  by_cases hL : L = []
  · subst hL
    obtain ⟨ao, cap, rfl⟩ := slice_form' hown
    have HK : Hid (keepL (settleL s.sl s.tx s.ct) n = [] ++ [⟨1, n, ByteArray.empty⟩]) := by show _ = _; rw [HLD.out]; simp [keepL]
    have hA1 := HA.out.alloc (.cells #[.int .i64 1, .int .i64 n, .string ⟨#[]⟩] 71)
    have hAs := hA1.sl
    have HA1 : Hid _ := hA1
    simp only at hAs
    clear hA1
    go_wp2_with (at_builtin; refine wpList_append_own _ rfl _ _ 40 rfl B 71 ip _ 3 32 Try.underlying40 hip hp0 hp1 hp2 rfl (by decide) _ _ _ rfl hAs ⟨w1.heap.size, 0, none⟩ 1 1 [.int .i64 1, .int .i64 n, .string ⟨#[]⟩] rfl rfl (World.news_of_block (cs := #[.int .i64 1, .int .i64 n, .string ⟨#[]⟩]) (t := 71) (fr := (0, 0)) (heap_alloc_new w1 _)) (by simp [Value.oneCell']) ?c3 ?c4 ?c5 ?_)
    case c3 => unfold maxLen; simp only [List.length_nil]; omega
    case c4 => simp only [List.length_nil]; omega
    case c5 => first | omega | (simp; omega)
    intro v' w2 hown2 hgrow _
    have hG2 := HA1.out.at_sl hgrow
    have d0 : w2.cell? ⟨G, 0, none⟩ = some (.slice ao (List.length ([] : List Pt)) cap) := by rw [cell_of_row _ _ _ _ _ _ hG2]; rfl
    have d3 : ∀ o, w2.frozen? ⟨G, o, none⟩ = false := fun o => frozen_of_row _ _ _ _ _ hG2
    have hG2' : G < w2.heap.size := lt_of_heap hG2
    obtain ⟨bo, cb, rfl⟩ := slice_form' hown2
    have HB2 : Hid (Below B w w2) := below_own' (HB.out.alloc (by omega) _) hAs hgrow (by simp; omega)
    have HG : Hid _ := HA1.out.grow (l := [] ++ [⟨1, n, ByteArray.empty⟩]) (own_snoc (t := ByteArray.empty) hown2) hgrow
    clear hown2 hgrow hG2 hAs HA1
    go_wp2_with fail
    go_end0
    exact ⟨rfl, ⟨_, _, by rw [HK.out]; exact HG.out⟩, HB2.out.setCell (p := ⟨G, 0, none⟩) HA.out.bg _⟩
  · obtain ⟨m, p, hlm, hpm, hlast, hdl⟩ := last_of hL
    have hpB := hpts p (List.mem_of_getElem? hpm)
    obtain ⟨g, cap, rfl, hgB, hgw⟩ := World.ownsRow.form hown (by omega)
    obtain ⟨y0, y1, y2⟩ := allCells_at hpm
    have z0 : w1.cell? ⟨g, m * 3, none⟩ = some (.int .i64 p.k) := by rw [hown.cellAt _ (by omega)]; exact y0
    have z1 : w1.cell? ⟨g, m * 3 + 1, none⟩ = some (.int .i64 p.n) := by rw [hown.cellAt _ (by omega)]; exact y1
    have z3 : ∀ o, w1.frozen? ⟨g, o, none⟩ = false := fun o => hown.frozenAt o
    obtain ⟨q1, q2, q3, q4⟩ := hpB
    rw [hlm] at c0
    have hm1 : m ≤ 20000 := by omega
    by_cases hk : p.k = 1
    · have hk' : (p.k == 1) = true := by simp [hk]
      have HK : Hid (keepL (settleL s.sl s.tx s.ct) n = L.take m ++ [⟨p.k, p.n + n, p.t⟩]) := by show _ = _; rw [HLD.out]; simp [keepL, hlast, hk, hdl]
      have HLM : Hid (L.length = m + 1) := hlm
      have HPM : Hid (L[m]? = some p) := hpm
      clear hk hlast hdl hpm y0 y1 y2 hL hown
      go_wp2_with fail
      refine bodyPost_ret (v := .tuple #[]) (by simp [results, Try.results66, go_sem]) rfl ⟨rfl, _, _, by rw [HK.out]; exact HA.out.bump HLM.out HPM.out, HB.out.setCell (p := ⟨g, m * 3 + 1, none⟩) hgB _⟩
    · have hk' : (p.k == 1) = false := by simp [hk]
      obtain ⟨ao, hao⟩ : ∃ ao, ao = some (⟨g, 0, none⟩ : Addr) := ⟨_, rfl⟩
      have HK : Hid (keepL (settleL s.sl s.tx s.ct) n = L ++ [⟨1, n, ByteArray.empty⟩]) := by show _ = _; rw [HLD.out]; simp [keepL, hlast, hk]
      clear hk hlast hdl hpm y0 y1 y2 hown
      have hA1 := HA.out.alloc (.cells #[.int .i64 1, .int .i64 n, .string ⟨#[]⟩] 71)
      have hAs := hA1.sl
      have HA1 : Hid _ := hA1
      simp only at hAs
      rw [hlm] at hAs
      have HLM : Hid (L.length = m + 1) := hlm
      clear hA1
      go_wp2_with (at_builtin; refine wpList_append_own _ rfl _ _ 40 rfl B 71 ip _ 3 32 Try.underlying40 hip hp0 hp1 hp2 rfl (by decide) _ _ _ rfl hAs ⟨w1.heap.size, 0, none⟩ 1 1 [.int .i64 1, .int .i64 n, .string ⟨#[]⟩] rfl rfl (World.news_of_block (cs := #[.int .i64 1, .int .i64 n, .string ⟨#[]⟩]) (t := 71) (fr := (0, 0)) (heap_alloc_new w1 _)) (by simp [Value.oneCell']) ?c3 ?c4 ?c5 ?_)
      case c3 => unfold maxLen; omega
      case c4 => omega
      case c5 => first | omega | (simp; omega)
      intro v' w2 hown2 hgrow _
      have hG2 := HA1.out.at_sl hgrow
      have d0 : w2.cell? ⟨G, 0, none⟩ = some (.slice (some ⟨g, 0, none⟩) L.length cap) := by rw [cell_of_row _ _ _ _ _ _ hG2]; rfl
      have d3 : ∀ o, w2.frozen? ⟨G, o, none⟩ = false := fun o => frozen_of_row _ _ _ _ _ hG2
      have hG2' : G < w2.heap.size := lt_of_heap hG2
      obtain ⟨bo, cb, rfl⟩ := slice_form' hown2
      have HB2 : Hid (Below B w w2) := below_own' (HB.out.alloc (by omega) _) hAs hgrow (by simp; omega)
      have HG : Hid _ := HA1.out.grow (l := L ++ [⟨1, n, ByteArray.empty⟩]) (own_snoc (t := ByteArray.empty) (by rw [HLM.out]; exact hown2)) hgrow
      clear hown2 hgrow hG2 hAs HA1
      go_wp2_with fail
      go_end0
      exact ⟨rfl, ⟨_, _, by rw [HK.out]; exact HG.out⟩, HB2.out.setCell (p := ⟨G, 0, none⟩) HA.out.bg _⟩

end Go.Proofs.Ytkihanmodfnpcaa
