/- What the document's own Places.Delta has in memory while it goes; and its gap. -/
import Derived.Test.YtinhidddfpjjkabSettle
import Derived.Deep.DeepCutAuto
namespace Go.Proofs.Ytinhidddfpjjkab
open Go.RowKit
set_option linter.unusedSimpArgs false
set_option linter.unusedVariables false
set_option maxRecDepth 20000

structure DAt (w : World) (B X O P C : Nat) (pv kv : Value) (s : GSt) (ov : Value) : Prop where
  bx : B ≤ X
  bo : B ≤ O
  bp : B ≤ P
  bc : B ≤ C
  x : w.heap[X]? = some (.cells #[pv, kv] 80 (0, 0))
  o : w.heap[O]? = some (.cells #[ov] 33 (0, 0))
  p : w.heap[P]? = some (.cells #[.string ⟨s.tx.toArray⟩] 9 (0, 0))
  c : w.heap[C]? = some (.cells #[.int .i64 s.ct] 3 (0, 0))
  sl : w.ownsRow B 58 3 ov s.sl.length (allCells s.sl)

theorem blk_ne {w : World} {a b : Nat} {c c' : Array Value} {t t' : TypeId} {f f' : Nat × Nat} (h : w.heap[a]? = some (.cells c t f)) (h' : w.heap[b]? = some (.cells c' t' f')) (ht : t ≠ t') : a ≠ b := by
  intro e; subst e; rw [h] at h'; simp only [Option.some.injEq, Obj.cells.injEq] at h'; exact ht h'.2.1

section
variable {w w' : World} {B X O P C : Nat} {pv kv : Value} {s : GSt} {ov : Value}

theorem DAt.alloc (h : DAt w B X O P C pv kv s ov) (ob : Obj) : DAt (w.alloc ob) B X O P C pv kv s ov :=
  ⟨h.bx, h.bo, h.bp, h.bc, (Deep.blk_alloc_lt w ob X (lt_of_heap h.x)).trans h.x, (Deep.blk_alloc_lt w ob O (lt_of_heap h.o)).trans h.o, (Deep.blk_alloc_lt w ob P (lt_of_heap h.p)).trans h.p, (Deep.blk_alloc_lt w ob C (lt_of_heap h.c)).trans h.c, own_alloc h.sl ob⟩
theorem DAt.drew (h : DAt w B X O P C pv kv s ov) : DAt w.drew B X O P C pv kv s ov := ⟨h.bx, h.bo, h.bp, h.bc, h.x, h.o, h.p, h.c, h.sl⟩

/-- out grew -/
theorem DAt.grow {ov' : Value} {l : List Pt} (h : DAt w B X O P C pv kv s ov) (ho : w'.ownsRow B 58 3 ov' l.length (allCells l)) (hg : w.grownBy w' ov.ownBlock) :
    DAt (w'.setCell ⟨O, 0, none⟩ ov') B X O P C pv kv ⟨l, s.tx, s.ct⟩ ov' := by
  have keep : ∀ {k : Nat} {c : Array Value} {t : TypeId} {f : Nat × Nat}, w.heap[k]? = some (.cells c t f) → t ≠ 58 → w'.heap[k]? = some (.cells c t f) := fun hk ht => (hg.block _ (lt_of_heap hk) (fun e => own_ne' h.sl hk ht e.symm)).trans hk
  have hx := keep h.x (by decide)
  have hoo := keep h.o (by decide)
  have hp := keep h.p (by decide)
  have hc := keep h.c (by decide)
  refine ⟨h.bx, h.bo, h.bp, h.bc, ?_, ?_, ?_, ?_, ?_⟩
  · rw [Deep.blk_setCell_other _ _ _ _ (blk_ne hx hoo (by decide))]; exact hx
  · rw [set_at hoo]; rfl
  · rw [Deep.blk_setCell_other _ _ _ _ (blk_ne hp hoo (by decide))]; exact hp
  · rw [Deep.blk_setCell_other _ _ _ _ (blk_ne hc hoo (by decide))]; exact hc
  · exact ho.kept (grown_set w' O 0 ov') (.inr (own_ne' ho hoo (by decide)))
theorem DAt.at_o (h : DAt w B X O P C pv kv s ov) (hg : w.grownBy w' ov.ownBlock) : w'.heap[O]? = some (.cells #[ov] 33 (0, 0)) ∧ w'.heap[P]? = some (.cells #[.string ⟨s.tx.toArray⟩] 9 (0, 0)) ∧ w'.heap[C]? = some (.cells #[.int .i64 s.ct] 3 (0, 0)) := by
  have keep : ∀ {k : Nat} {c : Array Value} {t : TypeId} {f : Nat × Nat}, w.heap[k]? = some (.cells c t f) → t ≠ 58 → w'.heap[k]? = some (.cells c t f) := fun hk ht => (hg.block _ (lt_of_heap hk) (fun e => own_ne' h.sl hk ht e.symm)).trans hk
  exact ⟨keep h.o (by decide), keep h.p (by decide), keep h.c (by decide)⟩
theorem DAt.setP (h : DAt w B X O P C pv kv s ov) (t : List UInt8) : DAt (w.setCell ⟨P, 0, none⟩ (.string ⟨t.toArray⟩)) B X O P C pv kv ⟨s.sl, t, s.ct⟩ ov := by
  refine ⟨h.bx, h.bo, h.bp, h.bc, ?_, ?_, ?_, ?_, ?_⟩
  · rw [Deep.blk_setCell_other _ _ _ _ (blk_ne h.x h.p (by decide))]; exact h.x
  · rw [Deep.blk_setCell_other _ _ _ _ (blk_ne h.o h.p (by decide))]; exact h.o
  · rw [set_at h.p]; rfl
  · rw [Deep.blk_setCell_other _ _ _ _ (blk_ne h.c h.p (by decide))]; exact h.c
  · exact h.sl.kept (grown_set w P 0 _) (.inr (own_ne' h.sl h.p (by decide)))
theorem DAt.setC (h : DAt w B X O P C pv kv s ov) (c : Int) : DAt (w.setCell ⟨C, 0, none⟩ (.int .i64 c)) B X O P C pv kv ⟨s.sl, s.tx, c⟩ ov := by
  refine ⟨h.bx, h.bo, h.bp, h.bc, ?_, ?_, ?_, ?_, ?_⟩
  · rw [Deep.blk_setCell_other _ _ _ _ (blk_ne h.x h.c (by decide))]; exact h.x
  · rw [Deep.blk_setCell_other _ _ _ _ (blk_ne h.o h.c (by decide))]; exact h.o
  · rw [Deep.blk_setCell_other _ _ _ _ (blk_ne h.p h.c (by decide))]; exact h.p
  · rw [set_at h.c]; rfl
  · exact h.sl.kept (grown_set w C 0 _) (.inr (own_ne' h.sl h.c (by decide)))
end

set_option maxHeartbeats 4000000 in
theorem gap_any (B X O P C : Nat) (pv kv : Value) (s : GSt) (ov : Value) (w : World) (h : DAt w B X O P C pv kv s ov) (hB : B ≤ w.heap.size) (hlen : s.sl.length ≤ 100000000) :
    Calls Try.prog 81 #[.pointer (some ⟨P, 0, none⟩), .pointer (some ⟨O, 0, none⟩), .pointer (some ⟨C, 0, none⟩)] w fun e w' => e = .returned (.tuple #[]) ∧ ∃ ov', DAt w' B X O P C pv kv ⟨settleL s.sl s.tx s.ct, [], 0⟩ ov' ∧ Below B w w' := by
  obtain ⟨ip, hip, hp0, hp1, hp2⟩ := info_parts infoPart
  have c0 : w.cell? ⟨P, 0, none⟩ = some (.string ⟨s.tx.toArray⟩) := by rw [cell_of_row _ _ _ _ _ _ h.p]; rfl
  have c1 : w.cell? ⟨O, 0, none⟩ = some ov := by rw [cell_of_row _ _ _ _ _ _ h.o]; rfl
  have c2 : w.cell? ⟨C, 0, none⟩ = some (.int .i64 s.ct) := by rw [cell_of_row _ _ _ _ _ _ h.c]; rfl
  have f0 : ∀ o, w.frozen? ⟨P, o, none⟩ = false := fun o => frozen_of_row _ _ _ _ _ h.p
  have f1 : ∀ o, w.frozen? ⟨O, o, none⟩ = false := fun o => frozen_of_row _ _ _ _ _ h.o
  have f2 : ∀ o, w.frozen? ⟨C, o, none⟩ = false := fun o => frozen_of_row _ _ _ _ _ h.c
  have hP : P < w.heap.size := lt_of_heap h.p
  have hO : O < w.heap.size := lt_of_heap h.o
  have hC : C < w.heap.size := lt_of_heap h.c
  have n1 : ¬ P = O := blk_ne h.p h.o (by decide)
  have n2 : ¬ P = C := blk_ne h.p h.c (by decide)
  have n3 : ¬ O = C := blk_ne h.o h.c (by decide)
  have H : Hid (DAt w B X O P C pv kv s ov) := h
  obtain ⟨ao, ca, rfl⟩ := slice_form' h.sl
  clear h
  have hpl := putL_len s.sl s.tx
  go_enter Try.func81, Try.ntmps81
  go_upto_if 4 with fail
  go_cut [] (fun wc => ∃ ov1, DAt wc B X O P C pv kv ⟨putL s.sl s.tx, s.tx, s.ct⟩ ov1 ∧ Below B w wc)
  case first =>
    cases hE : s.tx.isEmpty
    · have htx : s.tx ≠ [] := fun e => by simp [e] at hE
      have hA := H.out.alloc (.cells #[.int .i64 2, .int .i64 0, .string ⟨s.tx.toArray⟩] 58)
      have hAs := hA.sl
      have HA : Hid _ := hA
      have HX : Hid (s.tx ≠ []) := htx
      clear hA htx hE
      go_wp2_with (at_builtin; refine wpList_append_own _ rfl _ _ 33 rfl B 58 ip _ 3 32 Try.underlying33 hip hp0 hp1 hp2 rfl (by decide) _ _ _ rfl hAs ⟨w.heap.size, 0, none⟩ 1 1 [.int .i64 2, .int .i64 0, .string ⟨s.tx.toArray⟩] rfl rfl (World.news_of_block (cs := #[.int .i64 2, .int .i64 0, .string ⟨s.tx.toArray⟩]) (t := 58) (fr := (0, 0)) (heap_alloc_new w _)) (by simp [Value.oneCell']) ?c3 ?c4 ?c5 ?_)
      case c3 => unfold maxLen; omega
      case c4 => omega
      case c5 => first | omega | (simp; omega)
      intro v' w2 hown2 hgrow _
      obtain ⟨g1, g2, g3⟩ := HA.out.at_o hgrow
      have d1 : w2.cell? ⟨O, 0, none⟩ = some (.slice ao s.sl.length ca) := by rw [cell_of_row _ _ _ _ _ _ g1]; rfl
      have d3 : ∀ o, w2.frozen? ⟨O, o, none⟩ = false := fun o => frozen_of_row _ _ _ _ _ g1
      have hO2 : O < w2.heap.size := lt_of_heap g1
      obtain ⟨bo, cb, rfl⟩ := slice_form' hown2
      have HB2 : Hid (Below B w w2) := below_own' ((Below.refl B w).alloc hB _) hAs hgrow (by simp; omega)
      have HG : Hid _ := HA.out.grow (l := putL s.sl s.tx) (by rw [putL_some HX.out]; exact own_snoc hown2) hgrow
      clear hown2 hgrow g1 g2 g3 hAs HA
      go_wp2_with fail
      go_meet
      case rel => exact ⟨_, HG.out, HB2.out.setCell (p := ⟨O, 0, none⟩) H.out.bo _⟩
    · have HX : Hid (s.tx = []) := List.isEmpty_iff.1 hE
      clear hE
      go_wp2_with fail
      go_meet
      case rel => exact ⟨_, by rw [HX.out, putL_nil, ← HX.out]; exact H.out, Below.refl _ _⟩
  case rest =>
    obtain ⟨ov1, h1, hb1⟩ := hcut
    obtain ⟨ao1, ca1, rfl⟩ := slice_form' h1.sl
    simp only at h1
    have hz1 := hb1.size
    have d1 : wc.cell? ⟨O, 0, none⟩ = some (.slice ao1 (putL s.sl s.tx).length ca1) := by rw [cell_of_row _ _ _ _ _ _ h1.o]; rfl
    have d2 : wc.cell? ⟨C, 0, none⟩ = some (.int .i64 s.ct) := by rw [cell_of_row _ _ _ _ _ _ h1.c]; rfl
    have e1 : ∀ o, wc.frozen? ⟨O, o, none⟩ = false := fun o => frozen_of_row _ _ _ _ _ h1.o
    have hO1 : O < wc.heap.size := lt_of_heap h1.o
    have hC1 : C < wc.heap.size := lt_of_heap h1.c
    have H1 : Hid (DAt wc B X O P C pv kv ⟨putL s.sl s.tx, s.tx, s.ct⟩ (.slice ao1 (putL s.sl s.tx).length ca1)) := h1
    have HB1 : Hid (Below B w wc) := hb1
    clear h1 hb1 c0 c1 c2 f0 f1 f2 H
    go_upto_if 11 with fail
    go_cut [] (fun wd => ∃ ov2, DAt wd B X O P C pv kv ⟨settleL s.sl s.tx s.ct, s.tx, s.ct⟩ ov2 ∧ Below B w wd)
    case first =>
      by_cases hct : 0 < s.ct
      · have hA := H1.out.alloc (.cells #[.int .i64 3, .int .i64 s.ct, .string ⟨#[]⟩] 58)
        have hAs := hA.sl
        simp only at hAs
        have HA : Hid _ := hA
        clear hA
        go_wp2_with (at_builtin; refine wpList_append_own _ rfl _ _ 33 rfl B 58 ip _ 3 32 Try.underlying33 hip hp0 hp1 hp2 rfl (by decide) _ _ _ rfl hAs ⟨wc.heap.size, 0, none⟩ 1 1 [.int .i64 3, .int .i64 s.ct, .string ⟨#[]⟩] rfl rfl (World.news_of_block (cs := #[.int .i64 3, .int .i64 s.ct, .string ⟨#[]⟩]) (t := 58) (fr := (0, 0)) (heap_alloc_new wc _)) (by simp [Value.oneCell']) ?c6 ?c7 ?c8 ?_)
        case c6 => unfold maxLen; omega
        case c7 => omega
        case c8 => first | omega | (simp; omega)
        intro v' w2 hown2 hgrow _
        obtain ⟨g1, g2, g3⟩ := HA.out.at_o hgrow
        have k1 : w2.cell? ⟨O, 0, none⟩ = some (.slice ao1 (putL s.sl s.tx).length ca1) := by rw [cell_of_row _ _ _ _ _ _ g1]; rfl
        have k3 : ∀ o, w2.frozen? ⟨O, o, none⟩ = false := fun o => frozen_of_row _ _ _ _ _ g1
        have hO2 : O < w2.heap.size := lt_of_heap g1
        obtain ⟨bo, cb, rfl⟩ := slice_form' hown2
        have HB2 : Hid (Below B w w2) := below_own' (HB1.out.alloc (by omega) _) hAs hgrow (by simp; omega)
        have HG : Hid _ := HA.out.grow (l := settleL s.sl s.tx s.ct) (by rw [settle_put_pos hct]; exact own_snoc (t := ByteArray.empty) hown2) hgrow
        clear hown2 hgrow g1 g2 g3 hAs HA
        go_wp2_with fail
        go_meet
        case rel => exact ⟨_, HG.out, HB2.out.setCell (p := ⟨O, 0, none⟩) H1.out.bo _⟩
      · go_wp2_with fail
        go_meet
        case rel => exact ⟨_, by rw [settle_put_zero (by omega)]; exact H1.out, HB1.out⟩
    case rest =>
      obtain ⟨ov2, h2, hb2⟩ := hcut
      have hz2 := hb2.size
      have m0 : wc.cell? ⟨P, 0, none⟩ = some (.string ⟨s.tx.toArray⟩) := by rw [cell_of_row _ _ _ _ _ _ h2.p]; rfl
      have m2 : wc.cell? ⟨C, 0, none⟩ = some (.int .i64 s.ct) := by rw [cell_of_row _ _ _ _ _ _ h2.c]; rfl
      have e0 : ∀ o, wc.frozen? ⟨P, o, none⟩ = false := fun o => frozen_of_row _ _ _ _ _ h2.p
      have e2 : ∀ o, wc.frozen? ⟨C, o, none⟩ = false := fun o => frozen_of_row _ _ _ _ _ h2.c
      have hP2 : P < wc.heap.size := lt_of_heap h2.p
      have hC2 : C < wc.heap.size := lt_of_heap h2.c
      have H2 : Hid (DAt wc B X O P C pv kv ⟨settleL s.sl s.tx s.ct, s.tx, s.ct⟩ ov2) := h2
      have HB2 : Hid (Below B w wc) := hb2
      clear h2 hb2
      go_wp2_with fail
      go_end0
      exact ⟨rfl, ov2, (H2.out.setP []).setC 0, (HB2.out.setCell (p := ⟨P, 0, none⟩) H2.out.bp _).setCell (p := ⟨C, 0, none⟩) H2.out.bc _⟩

end Go.Proofs.Ytinhidddfpjjkab
