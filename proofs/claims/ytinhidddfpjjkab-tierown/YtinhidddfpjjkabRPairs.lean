/- The bytes that places keep, as the document's own road tells them: where each was, and where it is. -/
import Derived.Test.YtinhidddfpjjkabPlDeltaWalk
import Derived.Test.YtinhidddfpjjkabMeetL
namespace Go.Proofs.Ytinhidddfpjjkab
open Go.RowKit
set_option linter.unusedSimpArgs false
set_option linter.unusedVariables false

/-- a list of pairs that a call has made itself -/
def prCells (l : List (Nat × Nat)) : List Value := l.flatMap (fun p => [.int .i64 (p.1 : Int), .int .i64 (p.2 : Int)])
theorem prCells_app (a b : List (Nat × Nat)) : prCells (a ++ b) = prCells a ++ prCells b := by simp [prCells]
theorem prCells_len (l : List (Nat × Nat)) : (prCells l).length = l.length * 2 := by
  induction l with
  | nil => rfl
  | cons p r ih => simp only [prCells, List.flatMap_cons, List.length_append, List.length_cons, List.length_nil] at ih ⊢; omega
theorem prCells_at {l : List (Nat × Nat)} {i : Nat} {p : Nat × Nat} (h : l[i]? = some p) : (prCells l)[i * 2]? = some (.int .i64 (p.1 : Int)) ∧ (prCells l)[i * 2 + 1]? = some (.int .i64 (p.2 : Int)) := by
  induction l generalizing i with
  | nil => simp at h
  | cons q r ih =>
    have e : prCells (q :: r) = .int .i64 (q.1 : Int) :: .int .i64 (q.2 : Int) :: prCells r := rfl
    cases i with
    | zero => simp at h; subst h; rw [e]; exact ⟨rfl, rfl⟩
    | succ j =>
      have := ih (i := j) (by simpa using h)
      rw [e, show (j + 1) * 2 = j * 2 + 1 + 1 by omega]
      refine ⟨?_, ?_⟩
      · simpa using this.1
      · rw [show j * 2 + 1 + 1 + 1 = (j * 2 + 1) + 1 + 1 by omega]; simpa using this.2
theorem infoPair : (Try.prog.info? 83).map (fun i => (i.zero, i.size, i.bytes)) = some (some (.agg #[.int .i64 0, .int .i64 0]), 2, 16) := by kernel_rfl
theorem pr_snoc {w : World} {B : Nat} {v : Value} {l : List (Nat × Nat)} {i k : Nat} (h : w.ownsRow B 83 2 v (l.length + 1) (prCells l ++ [.int .i64 (i : Int), .int .i64 (k : Int)])) : w.ownsRow B 83 2 v (l ++ [(i, k)]).length (prCells (l ++ [(i, k)])) := by
  rw [prCells_app, List.length_append]; exact h
theorem pr_at {w : World} {B n : Nat} {v : Value} {l : List (Nat × Nat)} {j : Nat} {p : Nat × Nat} (h : w.ownsRow B 83 2 v n (prCells l)) (hj : l[j]? = some p) : ∃ g cap, v = .slice (some ⟨g, 0, none⟩) n cap ∧ w.cell? ⟨g, j * 2, none⟩ = some (.int .i64 (p.1 : Int)) ∧ w.cell? ⟨g, j * 2 + 1, none⟩ = some (.int .i64 (p.2 : Int)) ∧ g < w.heap.size := by
  have h1 := h.1
  rw [prCells_len] at h1
  have hl := (List.getElem?_eq_some_iff.1 hj).1
  obtain ⟨c1, c2⟩ := prCells_at hj
  rcases h.2 with ⟨_, h0⟩ | ⟨g, cap, cur, rfl, _, hc, _⟩
  · omega
  · exact ⟨g, cap, rfl, by rw [h.cellAt _ (by omega)]; exact c1, by rw [h.cellAt _ (by omega)]; exact c2, lt_of_heap hc⟩

set_option maxRecDepth 20000 in
set_option maxHeartbeats 4000000 in
theorem pairs_any (B0 : Nat) (pv kv : Value) (qs : List ByteArray) (ks : List Bool) (w : World)
    (hq : w.ownsRow B0 9 1 pv qs.length (qs.map Value.string)) (hk : w.ownsRow B0 4 1 kv ks.length (ks.map Value.bool)) (hlen : qs.length = ks.length + 1) (hks : ks.length ≤ 800000) (hqs : ∀ q ∈ qs, q.size ≤ 800000) :
    Calls Try.prog 46 #[.agg #[pv, kv]] w fun e w' => ∃ ov, e = .returned ov ∧ w'.ownsRow w.heap.size 83 2 ov (pairsP qs ks 0 0).length (prCells (pairsP qs ks 0 0)) ∧ Below w.heap.size w w' := by
  obtain ⟨ip, hip, hp0, hp1, hp2⟩ := info_parts infoPair
  obtain ⟨ao, ca, rfl⟩ := slice_form hq
  obtain ⟨bo, cb, rfl⟩ := slice_form hk
  have HQ : Hid (w.ownsRow B0 9 1 (.slice ao qs.length ca) qs.length (qs.map Value.string)) := hq
  have HK : Hid (w.ownsRow B0 4 1 (.slice bo ks.length cb) ks.length (ks.map Value.bool)) := hk
  have HL : Hid (qs.length = ks.length + 1) := hlen
  have HQS : Hid (∀ q ∈ qs, q.size ≤ 800000) := hqs
  clear hq hk hlen hqs
  go_enter Try.func46, Try.ntmps46
  go_wp2_with fail
  go_loopw [3, 4, 10] (fun v t i wr => ∃ (k tt : Nat) (out : List (Nat × Nat)), k ≤ ks.length ∧ i = .int .i64 k ∧ t = .int .i64 tt ∧ tt ≤ 800001 * k ∧ out.length ≤ k ∧ wr.ownsRow (w.heap.size + 1) 83 2 v out.length (prCells out) ∧ out ++ pairsP (qs.drop k) (ks.drop k) k tt = pairsP qs ks 0 0 ∧ Below (w.heap.size + 1) (w.alloc (.cells #[.slice ao qs.length ca, .slice bo ks.length cb] 80)) wr) (fun _ _ i _ => ks.length - (intOf i).toNat)
  case atStart => exact ⟨0, 0, [], Nat.zero_le _, rfl, rfl, by simp, by simp, World.ownsRow_nil _ _ _ _, by simp, Below.refl _ _⟩
  case round =>
    obtain ⟨k, tt, out, hk, rfl, rfl, hto, hol, hown, hpr, hb⟩ := hrel
    have hz := hb.size
    rw [show (w.alloc (.cells #[.slice ao qs.length ca, .slice bo ks.length cb] 80)).heap.size = w.heap.size + 1 from Deep.nblk_alloc _ _] at hz
    have x0 : wr.cell? ⟨w.heap.size, 0, none⟩ = some (.slice ao qs.length ca) := (hb.cell (p := ⟨w.heap.size, 0, none⟩) (by simp)).trans (by rw [cell_of_row _ _ _ _ _ _ (Deep.blk_alloc_new w _)]; rfl)
    have HB : Hid (Below (w.heap.size + 1) (w.alloc (.cells #[.slice ao qs.length ca, .slice bo ks.length cb] 80)) wr) := hb
    have hbw : Below w.heap.size w wr := ((Below.refl _ _).alloc (Nat.le_refl _) _).trans (hb.mono (by omega))
    by_cases hlt : k < ks.length
    · obtain ⟨b, hbk⟩ : ∃ b, ks[k]? = some b := ⟨ks[k], List.getElem?_eq_getElem hlt⟩
      obtain ⟨q, hqk⟩ : ∃ q, qs[k]? = some q := ⟨qs[k]'(by have := HL.out; omega), List.getElem?_eq_getElem _⟩
      have hqb := HQS.out q (List.mem_of_getElem? hqk)
      obtain ⟨g, cg, hg, y1, hgw⟩ := own_at HQ.out (show (qs.map Value.string)[k]? = some (.string q) by simp [hqk])
      obtain ⟨h, ch, hh, z1, hhw⟩ := own_at HK.out (show (ks.map Value.bool)[k]? = some (.bool b) by simp [hbk])
      simp only [Value.slice.injEq, true_and] at hg hh
      obtain ⟨rfl, rfl⟩ := hg
      obtain ⟨rfl, rfl⟩ := hh
      have y2 : wr.cell? ⟨g, k, none⟩ = some (.string q) := (hbw.cell (p := ⟨g, k, none⟩) hgw).trans y1
      have z2 : wr.cell? ⟨h, k, none⟩ = some (.bool b) := (hbw.cell (p := ⟨h, k, none⟩) hhw).trans z1
      have hlq : (k : Int) < (qs.length : Int) := by have := HL.out; omega
      have hps := pairsP_step (t := tt) hqk hbk
      have HPS : Hid _ := hps
      have HPR : Hid (out ++ pairsP (qs.drop k) (ks.drop k) k tt = pairsP qs ks 0 0) := hpr
      obtain ⟨eo, ce, rfl⟩ := slice_form' hown
      have HO : Hid (wr.ownsRow (w.heap.size + 1) 83 2 (.slice eo out.length ce) out.length (prCells out)) := hown
      clear hb hbk hqk y1 z1 hps hpr hbw
      cases b
      · clear hown
        go_wp2_with fail
        go_roundw
        case rel =>
          refine ⟨k + 1, tt + q.size, out, by omega, by go_num, by rw [Int.natCast_add], by omega, by omega, HO.out, ?_, HB.out⟩
          rw [← HPR.out, HPS.out]; simp
        case measure => simp [intOf]; omega
      · have hAs := own_alloc hown (.cells #[.int .i64 (k : Int), .int .i64 ((tt : Int) + (q.size : Int))] 83)
        clear hown
        go_wp2_with (at_builtin; refine wpList_append_own _ rfl _ _ 77 rfl (w.heap.size + 1) 83 ip _ 2 16 Try.underlying77 hip hp0 hp1 hp2 rfl (by decide) _ _ _ rfl hAs ⟨wr.heap.size, 0, none⟩ 1 1 [.int .i64 (k : Int), .int .i64 ((tt : Int) + (q.size : Int))] rfl rfl (World.news_of_block (cs := #[.int .i64 (k : Int), .int .i64 ((tt : Int) + (q.size : Int))]) (t := 83) (fr := (0, 0)) (heap_alloc_new wr _)) (by simp [Value.oneCell']) ?c3 ?c4 ?c5 ?_)
        case c3 => unfold maxLen; omega
        case c4 => omega
        case c5 => first | omega | (simp; omega)
        intro v' w2 hown2 hgrow _
        obtain ⟨fo, cf, rfl⟩ := slice_form' hown2
        have HB2 : Hid (Below (w.heap.size + 1) (w.alloc (.cells #[.slice (some ⟨g, 0, none⟩) qs.length ca, .slice (some ⟨h, 0, none⟩) ks.length cb] 80)) w2) := below_own' (HB.out.alloc hz _) hAs hgrow (by simp; omega)
        have HO2 : Hid (w2.ownsRow (w.heap.size + 1) 83 2 (.slice fo (out.length + 1) cf) (out ++ [(k, tt + q.size)]).length (prCells (out ++ [(k, tt + q.size)]))) := pr_snoc (by rw [Int.natCast_add]; exact hown2)
        clear hown2 hgrow hAs
        go_wp2_with fail
        go_roundw
        case rel =>
          refine ⟨k + 1, tt + q.size + 1, out ++ [(k, tt + q.size)], by omega, by go_num, by simp, by omega, by simp; omega, HO2.out, ?_, HB2.out⟩
          rw [← HPR.out, HPS.out]; simp
        case measure => simp [intOf]; omega
    · have hkk : k = ks.length := by omega
      subst hkk
      have hfin : out = pairsP qs ks 0 0 := by
        rw [← hpr, List.drop_length]
        have : pairsP (qs.drop ks.length) [] ks.length tt = [] := by cases qs.drop ks.length <;> rfl
        rw [this, List.append_nil]
      obtain ⟨eo, ce, rfl⟩ := slice_form' hown
      have HO : Hid (wr.ownsRow (w.heap.size + 1) 83 2 (.slice eo out.length ce) out.length (prCells out)) := hown
      have HF : Hid (out = pairsP qs ks 0 0) := hfin
      have HBW : Hid (Below w.heap.size w wr) := hbw
      clear hown hb hpr hfin hbw
      go_wp2_with fail
      go_ret
      refine ⟨_, rfl, ?_, HBW.out⟩
      rw [← HF.out]
      rcases HO.out.2 with ⟨h1, h2⟩ | ⟨g, cap, cur, h1, h2, h3⟩
      · exact ⟨HO.out.1, .inl ⟨h1, h2⟩⟩
      · exact ⟨HO.out.1, .inr ⟨g, cap, cur, h1, by omega, h3⟩⟩

end Go.Proofs.Ytinhidddfpjjkab
