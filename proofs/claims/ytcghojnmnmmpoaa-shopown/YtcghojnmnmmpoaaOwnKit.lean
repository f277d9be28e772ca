/- What the law on shared memory asks: roomy, filledUp, spoil, mark, and Clone. -/
import Derived.Test.YtcghojnmnmmpoaaOwns
import Derived.OwnWalk
import Derived.Deep.RegionWith
namespace Go.Proofs.Ytcghojnmnmmpoaa
open Go.RowKit
set_option linter.unusedSimpArgs false
set_option linter.unusedVariables false

theorem allCells_one (l : List Pt) : ∀ u ∈ allCells l, u.oneCell' = true := by
  intro u hu
  simp only [allCells, List.mem_flatMap, ptCells, List.mem_cons, List.mem_nil_iff, or_false] at hu
  obtain ⟨p, _, rfl | rfl | rfl⟩ := hu <;> rfl
theorem parts_nil {w : World} {B : Nat} {l : List Pt} (h : PartsAt w B none l) : l.length = 0 := by
  obtain ⟨_, _, _, h4⟩ := h
  rcases Nat.eq_zero_or_pos l.length with h0 | h0
  · exact h0
  · obtain ⟨_, _, e, _⟩ := h4 (List.length_pos_iff.1 h0)
    cases e
theorem parts_cells {w : World} {B : Nat} {ad : Addr} {l : List Pt} (h : PartsAt w B (some ad) l) : ∀ j u, (allCells l)[j]? = some u → w.cell? (ad.add j) = some u := by
  intro j u hj
  have hjl := (List.getElem?_eq_some_iff.1 hj).1
  rw [allCells_length] at hjl
  obtain ⟨p, hp⟩ : ∃ p, l[j / 3]? = some p := ⟨l[j / 3]'(by omega), List.getElem?_eq_getElem _⟩
  obtain ⟨b, off, e, _, c1, c2, c3⟩ := h.mem hp
  obtain rfl := Option.some.inj e
  obtain ⟨a1, a2, a3⟩ := allCells_at hp
  rw [Go.WideShapes.add_plain]
  rcases (show j = j / 3 * 3 ∨ j = j / 3 * 3 + 1 ∨ j = j / 3 * 3 + 2 by omega) with h1 | h1 | h1
  · rw [h1] at hj; rw [a1] at hj; rw [h1, c1]; exact hj
  · rw [h1] at hj; rw [a2] at hj; rw [h1, ← Nat.add_assoc, c2]; exact hj
  · rw [h1] at hj; rw [a3] at hj; rw [h1, ← Nat.add_assoc, c3]; exact hj

abbrev mrk : ByteArray := ⟨#[109, 97, 114, 107]⟩
theorem grow_set {w wr : World} {g o : Nat} {v : Value} (h : w.grownBy wr (some g)) : w.grownBy (wr.setCell ⟨g, o, none⟩ v) (some g) :=
  ⟨h.os, h.tape, h.output, by have := h.size; simpa [World.setCell] using this, fun k hk hne => (Deep.blk_setCell_other wr _ v k (fun e => hne (by rw [e]))).trans (h.block k hk hne)⟩
theorem set_sz (cs : Array Value) (o : Nat) (v : Value) : (cs.setIfInBounds o v).size = cs.size := by simp

set_option maxHeartbeats 2000000 in
theorem spoil_any (B n : Nat) (v : Value) (xs : List Value) (x : Int) (w : World) (hv : w.ownsRow B 45 3 v n xs) :
    Calls Try.prog 22 #[v, .agg #[.int .i64 x, .int .i64 0, .string ⟨#[]⟩]] w fun e w' => e = .returned (.tuple #[]) ∧ w.grownBy w' v.ownBlock := by
  rcases hv.2 with ⟨rfl, rfl⟩ | ⟨g, cap, cur, rfl, hB, hg, hn, hm, hcs, htk⟩
  · go_enter Try.func22, Try.ntmps22
    go_wp2_with fail
    refine wp_loop_rounds 1 ?_
    rw [rounds_succ]
    go_wp2_with fail
    go_end0
    exact ⟨rfl, grown_alloc _ _ _⟩
  · have HG : Hid (w.heap[g]? = some (.cells cur 45 (0, 0))) := hg
    have hgw : g < w.heap.size := lt_of_heap hg
    have hcap : cap ≤ 9223372036854775807 := hm
    have HCS : Hid (cur.size = cap * 3) := hcs
    clear hv hg htk hcs
    go_enter Try.func22, Try.ntmps22
    go_wp2_with fail
    go_loopw [11] (fun i wr => ∃ (k : Nat) (cur' : Array Value), k ≤ cap ∧ i = .int .i64 k ∧ wr.heap[g]? = some (.cells cur' 45 (0, 0)) ∧ cur'.size = cap * 3 ∧ wr.heap[w.heap.size]? = some (.cells #[.int .i64 x, .int .i64 0, .string ⟨#[]⟩] 45 (0, 0)) ∧ w.grownBy wr (some g)) (fun i _ => cap - (intOf i).toNat)
    case atStart => exact ⟨0, cur, Nat.zero_le _, rfl, (Deep.blk_alloc_lt _ _ _ hgw).trans HG.out, HCS.out, Deep.blk_alloc_new _ _, grown_alloc _ _ _⟩
    case round =>
      obtain ⟨k, cur', hk, rfl, hgc, hsz, hbox, hgr⟩ := hrel
      by_cases hlt : k < cap
      · have hgw2 : g < wr.heap.size := lt_of_heap hgc
        have hxw : w.heap.size < wr.heap.size := lt_of_heap hbox
        obtain ⟨u0, hu0⟩ : ∃ u, cur'[k * 3]? = some u := ⟨cur'[k * 3]'(by omega), Array.getElem?_eq_getElem _⟩
        obtain ⟨u1, hu1⟩ : ∃ u, cur'[k * 3 + 1]? = some u := ⟨cur'[k * 3 + 1]'(by omega), Array.getElem?_eq_getElem _⟩
        obtain ⟨u2, hu2⟩ : ∃ u, cur'[k * 3 + 2]? = some u := ⟨cur'[k * 3 + 2]'(by omega), Array.getElem?_eq_getElem _⟩
        have c0 : wr.cell? ⟨g, k * 3, none⟩ = some u0 := by rw [cell_of_row _ _ _ _ _ _ hgc]; exact hu0
        have c1 : wr.cell? ⟨g, k * 3 + 1, none⟩ = some u1 := by rw [cell_of_row _ _ _ _ _ _ hgc]; exact hu1
        have c2 : wr.cell? ⟨g, k * 3 + 2, none⟩ = some u2 := by rw [cell_of_row _ _ _ _ _ _ hgc]; exact hu2
        have f0 : ∀ o, wr.frozen? ⟨g, o, none⟩ = false := fun o => frozen_of_row _ _ _ _ _ hgc
        have b0 : wr.cell? ⟨w.heap.size, 0, none⟩ = some (.int .i64 x) := by rw [cell_of_row _ _ _ _ _ _ hbox]; rfl
        have b1 : wr.cell? ⟨w.heap.size, 1, none⟩ = some (.int .i64 0) := by rw [cell_of_row _ _ _ _ _ _ hbox]; rfl
        have b2 : wr.cell? ⟨w.heap.size, 2, none⟩ = some (.string ⟨#[]⟩) := by rw [cell_of_row _ _ _ _ _ _ hbox]; rfl
        have HGC : Hid (wr.heap[g]? = some (.cells cur' 45 (0, 0))) := hgc
        have HSZ : Hid (cur'.size = cap * 3) := hsz
        have HBX : Hid (wr.heap[w.heap.size]? = some (.cells #[.int .i64 x, .int .i64 0, .string ⟨#[]⟩] 45 (0, 0))) := hbox
        have HGR : Hid (w.grownBy wr (some g)) := hgr
        have hgx : g ≠ w.heap.size := by omega
        clear hgc hsz hbox hgr hu0 hu1 hu2
        go_wp2_with fail
        go_roundw
        case rel =>
          refine ⟨k + 1, ((cur'.setIfInBounds (k * 3) (.int .i64 x)).setIfInBounds (k * 3 + 1) (.int .i64 0)).setIfInBounds (k * 3 + 2) (.string ⟨#[]⟩), by omega, by go_num, ?_, ?_, ?_, ?_⟩
          · exact set_at (set_at (set_at HGC.out))
          · rw [set_sz, set_sz, set_sz]; exact HSZ.out
          · rw [Deep.blk_setCell_other _ _ _ _ (fun e => hgx e.symm), Deep.blk_setCell_other _ _ _ _ (fun e => hgx e.symm), Deep.blk_setCell_other _ _ _ _ (fun e => hgx e.symm)]; exact HBX.out
          · exact grow_set (grow_set (grow_set HGR.out))
        case measure => simp [intOf]; omega
      · have HGR : Hid (w.grownBy wr (some g)) := hgr
        clear hgr hgc hsz hbox
        go_wp2_with fail
        go_end0
        exact ⟨rfl, HGR.out⟩

theorem onil_is (w : World) : (binOp BinOp.eql 25 (Value.slice none 0 0) (Value.slice none 0 0)).run Try.prog w = .ok (.bool true) w := by kernel_rfl
theorem nil_not (a : Addr) (n c : Nat) (w : World) : (binOp BinOp.eql 25 (Value.slice (some a) n c) (Value.slice none 0 0)).run Try.prog w = .ok (.bool false) w := by kernel_rfl
set_option maxHeartbeats 1000000 in
theorem clone_any (B : Nat) (v : Value) (l : List Pt) (w : World) (hv : w.ownsRow B 45 3 v l.length (allCells l)) (hb : Bound l) (hl : l.length ≤ 1600) :
    Calls Try.prog 20 #[v] w fun e w' => ∃ v', e = .returned v' ∧ w'.ownsRow w.heap.size 45 3 v' l.length (allCells l) ∧ Below w.heap.size w w' := by
  obtain ⟨ip, hip, hp0, hp1, hp2⟩ := info_parts infoPart
  rcases hv.2 with ⟨rfl, h0⟩ | ⟨g, cap, cur, rfl, hB, hg, hn, hm, hcs, htk⟩
  · have : l = [] := List.length_eq_zero_iff.1 h0
    subst this
    have hq := onil_is
    go_enter Try.func20, Try.ntmps20
    go_wp2_with fail
    go_ret
    exact ⟨.slice none 0 0, rfl, World.ownsRow_nil _ _ _ _, Below.refl _ _⟩
  · obtain ⟨a1, c1, e1, hp⟩ := parts_own hv hb
    simp only [Value.slice.injEq, true_and] at e1
    obtain ⟨rfl, rfl⟩ := e1
    have HB0 : Hid (Below w.heap.size w (w.alloc (.cells #[] 45))) := (Below.refl _ _).alloc (Nat.le_refl _) _
    have HP : Hid (PartsAt (w.alloc (.cells #[] 45)) (w.alloc (.cells #[] 45)).heap.size (some ⟨g, 0, none⟩) l) := hp.here HB0.out (Nat.le_refl _)
    have HO : Hid ((w.alloc (.cells #[] 45)).ownsRow w.heap.size 45 3 (.slice (some ⟨w.heap.size, 0, none⟩) 0 0) 0 []) :=
      ⟨rfl, .inr ⟨w.heap.size, 0, #[], rfl, Nat.le_refl _, Deep.blk_alloc_new _ _, Nat.le_refl _, by unfold maxLen; omega, rfl, rfl⟩⟩
    clear hv hb hB hg hn hm hcs htk hp
    go_enter Try.func20, Try.ntmps20
    have hq := fun w => nil_not ⟨g, 0, none⟩ l.length cap w
    go_wp2_with (at_builtin; refine wpList_append_own _ rfl _ _ 25 rfl w.heap.size 45 ip _ 3 32 Try.underlying25 hip hp0 hp1 hp2 rfl (by decide) _ _ _ rfl HO.out ⟨g, 0, none⟩ l.length cap (allCells l) rfl (allCells_length l) (parts_cells HP.out) (allCells_one l) ?c3 ?c4 ?c5 ?_)
    case c3 => unfold maxLen; omega
    case c4 => omega
    case c5 => simp
    intro v' w2 hown hgrow _
    obtain ⟨bo, cb, rfl⟩ := slice_form' hown
    have HO2 : Hid (w2.ownsRow w.heap.size 45 3 (.slice bo (0 + l.length) cb) l.length (allCells l)) := by
      have h := hown
      simp only [Nat.zero_add, List.nil_append] at h ⊢
      exact h
    have HB2 : Hid (Below w.heap.size w w2) := below_own' HB0.out HO.out hgrow (by simp)
    clear hown hgrow
    go_wp2_with fail
    go_ret
    exact ⟨_, rfl, by simpa using HO2.out, HB2.out⟩

end Go.Proofs.Ytcghojnmnmmpoaa
