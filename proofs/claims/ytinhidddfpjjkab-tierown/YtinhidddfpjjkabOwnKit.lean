/- What the law on shared memory asks: roomy, filledUp, spoil, mark, and Clone. -/
import Derived.Test.YtinhidddfpjjkabOwns
import Derived.OwnWalk
import Derived.Deep.RegionWith
namespace Go.Proofs.Ytinhidddfpjjkab
open Go.RowKit
set_option linter.unusedSimpArgs false
set_option linter.unusedVariables false

theorem allCells_one (l : List Pt) : ∀ u ∈ allCells l, u.oneCell' = true := by
  intro u hu
  simp only [allCells, List.mem_flatMap, ptCells, List.mem_cons, List.mem_nil_iff, or_false] at hu
  obtain ⟨p, _, rfl | rfl | rfl⟩ := hu <;> rfl
theorem parts_nil {w : World} {B : Nat} {l : List Pt} (h : PartsAt w B none l) : l.length = 0 := by
  obtain ⟨_, _, _, h4⟩ := h
  rcases Nat.eq_zero_or_pos l.length with h0 | h0
  · exact h0
  · obtain ⟨_, _, e, _⟩ := h4 (List.length_pos_iff.1 h0)
    cases e
theorem parts_cells {w : World} {B : Nat} {ad : Addr} {l : List Pt} (h : PartsAt w B (some ad) l) : ∀ j u, (allCells l)[j]? = some u → w.cell? (ad.add j) = some u := by
  intro j u hj
  have hjl := (List.getElem?_eq_some_iff.1 hj).1
  rw [allCells_length] at hjl
  obtain ⟨p, hp⟩ : ∃ p, l[j / 3]? = some p := ⟨l[j / 3]'(by omega), List.getElem?_eq_getElem _⟩
  obtain ⟨b, off, e, _, c1, c2, c3⟩ := h.mem hp
  obtain rfl := Option.some.inj e
  obtain ⟨a1, a2, a3⟩ := allCells_at hp
  rw [Go.WideShapes.add_plain]
  rcases (show j = j / 3 * 3 ∨ j = j / 3 * 3 + 1 ∨ j = j / 3 * 3 + 2 by omega) with h1 | h1 | h1
  · rw [h1] at hj; rw [a1] at hj; rw [h1, c1]; exact hj
  · rw [h1] at hj; rw [a2] at hj; rw [h1, ← Nat.add_assoc, c2]; exact hj
  · rw [h1] at hj; rw [a3] at hj; rw [h1, ← Nat.add_assoc, c3]; exact hj

abbrev mrk : ByteArray := ⟨#[109, 97, 114, 107]⟩
set_option maxHeartbeats 400000 in
theorem mark_any (w : World) : Calls Try.prog 25 #[] w fun e w' => e = .returned (.agg #[.int .i64 9, .int .i64 0, .string mrk]) ∧ w' = w.alloc (.cells #[.int .i64 9, .int .i64 0, .string mrk] 58) := by
  go_enter Try.func25, Try.ntmps25
  go_wp2
  exact bodyPost_ret (v := .agg #[.int .i64 9, .int .i64 0, .string mrk]) (by simp [results, Try.results25, go_sem]) rfl ⟨rfl, rfl⟩

theorem grow_set {w wr : World} {g o : Nat} {v : Value} (h : w.grownBy wr (some g)) : w.grownBy (wr.setCell ⟨g, o, none⟩ v) (some g) :=
  ⟨h.os, h.tape, h.output, by have := h.size; simpa [World.setCell] using this, fun k hk hne => (Deep.blk_setCell_other wr _ v k (fun e => hne (by rw [e]))).trans (h.block k hk hne)⟩
theorem set_sz (cs : Array Value) (o : Nat) (v : Value) : (cs.setIfInBounds o v).size = cs.size := by simp

set_option maxHeartbeats 2000000 in
theorem spoil_any (B n : Nat) (v : Value) (xs : List Value) (x : Int) (w : World) (hv : w.ownsRow B 58 3 v n xs) :
    Calls Try.prog 28 #[v, .agg #[.int .i64 x, .int .i64 0, .string ⟨#[]⟩]] w fun e w' => e = .returned (.tuple #[]) ∧ w.grownBy w' v.ownBlock := by
  rcases hv.2 with ⟨rfl, rfl⟩ | ⟨g, cap, cur, rfl, hB, hg, hn, hm, hcs, htk⟩
  · go_enter Try.func28, Try.ntmps28
    go_wp2_with fail
    refine wp_loop_rounds 1 ?_
    rw [rounds_succ]
    go_wp2_with fail
    go_end0
    exact ⟨rfl, grown_alloc _ _ _⟩
  · have HG : Hid (w.heap[g]? = some (.cells cur 58 (0, 0))) := hg
    have hgw : g < w.heap.size := lt_of_heap hg
    have hcap : cap ≤ 9223372036854775807 := hm
    have HCS : Hid (cur.size = cap * 3) := hcs
    clear hv hg htk hcs
    go_enter Try.func28, Try.ntmps28
    go_wp2_with fail
    go_loopw [11] (fun i wr => ∃ (k : Nat) (cur' : Array Value), k ≤ cap ∧ i = .int .i64 k ∧ wr.heap[g]? = some (.cells cur' 58 (0, 0)) ∧ cur'.size = cap * 3 ∧ wr.heap[w.heap.size]? = some (.cells #[.int .i64 x, .int .i64 0, .string ⟨#[]⟩] 58 (0, 0)) ∧ w.grownBy wr (some g)) (fun i _ => cap - (intOf i).toNat)
    case atStart => exact ⟨0, cur, Nat.zero_le _, rfl, (Deep.blk_alloc_lt _ _ _ hgw).trans HG.out, HCS.out, Deep.blk_alloc_new _ _, grown_alloc _ _ _⟩
    case round =>
      obtain ⟨k, cur', hk, rfl, hgc, hsz, hbox, hgr⟩ := hrel
      by_cases hlt : k < cap
      · have hgw2 : g < wr.heap.size := lt_of_heap hgc
        have hxw : w.heap.size < wr.heap.size := lt_of_heap hbox
        obtain ⟨u0, hu0⟩ : ∃ u, cur'[k * 3]? = some u := ⟨cur'[k * 3]'(by omega), Array.getElem?_eq_getElem _⟩
        obtain ⟨u1, hu1⟩ : ∃ u, cur'[k * 3 + 1]? = some u := ⟨cur'[k * 3 + 1]'(by omega), Array.getElem?_eq_getElem _⟩
        obtain ⟨u2, hu2⟩ : ∃ u, cur'[k * 3 + 2]? = some u := ⟨cur'[k * 3 + 2]'(by omega), Array.getElem?_eq_getElem _⟩
        have c0 : wr.cell? ⟨g, k * 3, none⟩ = some u0 := by rw [cell_of_row _ _ _ _ _ _ hgc]; exact hu0
        have c1 : wr.cell? ⟨g, k * 3 + 1, none⟩ = some u1 := by rw [cell_of_row _ _ _ _ _ _ hgc]; exact hu1
        have c2 : wr.cell? ⟨g, k * 3 + 2, none⟩ = some u2 := by rw [cell_of_row _ _ _ _ _ _ hgc]; exact hu2
        have f0 : ∀ o, wr.frozen? ⟨g, o, none⟩ = false := fun o => frozen_of_row _ _ _ _ _ hgc
        have b0 : wr.cell? ⟨w.heap.size, 0, none⟩ = some (.int .i64 x) := by rw [cell_of_row _ _ _ _ _ _ hbox]; rfl
        have b1 : wr.cell? ⟨w.heap.size, 1, none⟩ = some (.int .i64 0) := by rw [cell_of_row _ _ _ _ _ _ hbox]; rfl
        have b2 : wr.cell? ⟨w.heap.size, 2, none⟩ = some (.string ⟨#[]⟩) := by rw [cell_of_row _ _ _ _ _ _ hbox]; rfl
        have HGC : Hid (wr.heap[g]? = some (.cells cur' 58 (0, 0))) := hgc
        have HSZ : Hid (cur'.size = cap * 3) := hsz
        have HBX : Hid (wr.heap[w.heap.size]? = some (.cells #[.int .i64 x, .int .i64 0, .string ⟨#[]⟩] 58 (0, 0))) := hbox
        have HGR : Hid (w.grownBy wr (some g)) := hgr
        have hgx : g ≠ w.heap.size := by omega
        clear hgc hsz hbox hgr hu0 hu1 hu2
        go_wp2_with fail
        go_roundw
        case rel =>
          refine ⟨k + 1, ((cur'.setIfInBounds (k * 3) (.int .i64 x)).setIfInBounds (k * 3 + 1) (.int .i64 0)).setIfInBounds (k * 3 + 2) (.string ⟨#[]⟩), by omega, by go_num, ?_, ?_, ?_, ?_⟩
          · exact set_at (set_at (set_at HGC.out))
          · rw [set_sz, set_sz, set_sz]; exact HSZ.out
          · rw [Deep.blk_setCell_other _ _ _ _ (fun e => hgx e.symm), Deep.blk_setCell_other _ _ _ _ (fun e => hgx e.symm), Deep.blk_setCell_other _ _ _ _ (fun e => hgx e.symm)]; exact HBX.out
          · exact grow_set (grow_set (grow_set HGR.out))
        case measure => simp [intOf]; omega
      · have HGR : Hid (w.grownBy wr (some g)) := hgr
        clear hgr hgc hsz hbox
        go_wp2_with fail
        go_end0
        exact ⟨rfl, HGR.out⟩

set_option maxRecDepth 20000 in
set_option maxHeartbeats 2000000 in
theorem roomy_any (a : Option Addr) (l : List Pt) (cap : Nat) (w : World) (hp : PartsAt w w.heap.size a l) (ha : a = none → cap = 0) (hl : l.length * 32 ≤ 140737488351232) :
    Calls Try.prog 24 #[.slice a l.length cap, .agg #[.int .i64 9, .int .i64 0, .string mrk]] w fun e w' => ∃ g cur, e = .returned (.slice (some ⟨g, 0, none⟩) l.length (l.length + 3)) ∧ w.heap.size ≤ g ∧ w'.heap[g]? = some (.cells cur 58 (0, 0)) ∧ cur.size = (l.length + 3) * 3 ∧
      cur.toList.take (l.length * 3) = allCells l ∧ (∀ j, j < 3 → cur[(l.length + j) * 3]? = some (.int .i64 9) ∧ cur[(l.length + j) * 3 + 1]? = some (.int .i64 0) ∧ cur[(l.length + j) * 3 + 2]? = some (.string mrk)) ∧ Below w.heap.size w w' := by
  obtain ⟨ip, hip, hp0, hp1, hp2⟩ := info_parts infoPart
  have HP : Hid (PartsAt w w.heap.size a l) := hp
  have HN : Hid (a = none → l.length = 0 ∧ cap = 0) := fun e => by subst e; exact ⟨parts_nil hp, ha rfl⟩
  have hbb : ip.bytes * (l.length + 3) ≤ 281474976710656 := by rw [hp2]; omega
  clear hp ha
  go_enter Try.func24, Try.ntmps24
  go_wp2_with (at_make; refine wpList_make_own _ rfl _ _ 33 rfl w.heap.size 58 ip _ 3 Try.underlying33 hip hp0 hp1 .i64 .i64 _ (l.length + 3) rfl rfl ?m1 hbb ?m2 ?m3 ?_)
  case m1 => go_num
  case m2 => unfold maxLen; omega
  case m3 => simp
  intro w1 hown hgrow
  have HB0 : Hid (Below w.heap.size w (w.alloc (.cells #[.int .i64 9, .int .i64 0, .string mrk] 58))) := (Below.refl _ _).alloc (Nat.le_refl _) _
  have HB1 : Hid (Below w.heap.size w w1) := HB0.out.grown hgrow (by simp) (fun k hk => by simp at hk)
  have HX1 : Hid (w1.heap[w.heap.size]? = some (.cells #[.int .i64 9, .int .i64 0, .string mrk] 58 (0, 0))) := (hgrow.block w.heap.size (by simp) (by simp)).trans (Deep.blk_alloc_new _ _)
  have HP1 : Hid (PartsAt w1 w1.heap.size a l) := HP.out.here HB1.out (Nat.le_refl _)
  try simp only [Deep.nblk_alloc] at hown
  have HO1 : Hid (w1.ownsRow w.heap.size 58 3 (.slice (some ⟨w.heap.size + 1, 0, none⟩) 0 (l.length + 3)) 0 []) := hown
  clear hown hgrow
  go_wp2_with (at_builtin; refine wpList_append_fits_any _ rfl _ _ 33 rfl w.heap.size 58 ip 3 Try.underlying33 hip hp1 (w.heap.size + 1) 0 (l.length + 3) [] rfl HO1.out a l.length cap (allCells l) rfl (allCells_length l) HN.out ?c1 (allCells_one l) ?c2 ?_)
  case c1 => intro ad e j u hj; subst e; exact parts_cells HP1.out j u hj
  case c2 => omega
  intro w2 hown hgrow
  have HB2 : Hid (Below w.heap.size w w2) := HB1.out.grown hgrow HB1.out.size (fun k hk => by simp only [Option.some.injEq] at hk; omega)
  have HX2 : Hid (w2.heap[w.heap.size]? = some (.cells #[.int .i64 9, .int .i64 0, .string mrk] 58 (0, 0))) := (hgrow.block w.heap.size (lt_of_heap HX1.out) (by simp only [ne_eq, Option.some.injEq]; omega)).trans HX1.out
  obtain ⟨cur, HC⟩ : ∃ cur : Array Value, Hid (w2.heap[w.heap.size + 1]? = some (.cells cur 58 (0, 0)) ∧ cur.size = (l.length + 3) * 3 ∧ cur.toList.take (l.length * 3) = allCells l) := by
    rcases hown.2 with ⟨h1, _⟩ | ⟨g, cap', cur, h1, hB, hg, hn, hm, hcs, htk⟩
    · simp at h1
    · simp only [Value.slice.injEq, Option.some.injEq, Addr.mk.injEq, and_true] at h1
      obtain ⟨⟨rfl, _⟩, _, rfl⟩ := h1
      exact ⟨cur, hg, hcs, by simpa using htk⟩
  clear hown hgrow
  go_wp2_with fail
  go_loopw [13] (fun i wr => ∃ (k : Nat) (cur : Array Value), k ≤ 3 ∧ i = .int .i64 k ∧ wr.heap[w.heap.size + 1]? = some (.cells cur 58 (0, 0)) ∧ cur.size = (l.length + 3) * 3 ∧ cur.toList.take (l.length * 3) = allCells l ∧ (∀ j, j < k → cur[(l.length + j) * 3]? = some (.int .i64 9) ∧ cur[(l.length + j) * 3 + 1]? = some (.int .i64 0) ∧ cur[(l.length + j) * 3 + 2]? = some (.string mrk)) ∧ wr.heap[w.heap.size]? = some (.cells #[.int .i64 9, .int .i64 0, .string mrk] 58 (0, 0)) ∧ Below w.heap.size w wr) (fun i _ => 3 - (intOf i).toNat)
  case atStart => exact ⟨0, cur, Nat.zero_le _, rfl, HC.out.1, HC.out.2.1, HC.out.2.2, fun j hj => by omega, HX2.out, HB2.out⟩
  case round =>
    obtain ⟨k, cur, hk, rfl, hgc, hsz, htk, hmk, hbox, hb⟩ := hrel
    have hz := hb.size
    by_cases hlt : k < 3
    · have hgw2 : w.heap.size + 1 < wr.heap.size := lt_of_heap hgc
      have hxw : w.heap.size < wr.heap.size := lt_of_heap hbox
      obtain ⟨u0, hu0⟩ : ∃ u, cur[(l.length + k) * 3]? = some u := ⟨cur[(l.length + k) * 3]'(by omega), Array.getElem?_eq_getElem _⟩
      obtain ⟨u1, hu1⟩ : ∃ u, cur[(l.length + k) * 3 + 1]? = some u := ⟨cur[(l.length + k) * 3 + 1]'(by omega), Array.getElem?_eq_getElem _⟩
      obtain ⟨u2, hu2⟩ : ∃ u, cur[(l.length + k) * 3 + 2]? = some u := ⟨cur[(l.length + k) * 3 + 2]'(by omega), Array.getElem?_eq_getElem _⟩
      have c0 : wr.cell? ⟨w.heap.size + 1, (l.length + k) * 3, none⟩ = some u0 := by rw [cell_of_row _ _ _ _ _ _ hgc]; exact hu0
      have c1 : wr.cell? ⟨w.heap.size + 1, (l.length + k) * 3 + 1, none⟩ = some u1 := by rw [cell_of_row _ _ _ _ _ _ hgc]; exact hu1
      have c2 : wr.cell? ⟨w.heap.size + 1, (l.length + k) * 3 + 2, none⟩ = some u2 := by rw [cell_of_row _ _ _ _ _ _ hgc]; exact hu2
      have f0 : ∀ o, wr.frozen? ⟨w.heap.size + 1, o, none⟩ = false := fun o => frozen_of_row _ _ _ _ _ hgc
      have b0 : wr.cell? ⟨w.heap.size, 0, none⟩ = some (.int .i64 9) := by rw [cell_of_row _ _ _ _ _ _ hbox]; rfl
      have b1 : wr.cell? ⟨w.heap.size, 1, none⟩ = some (.int .i64 0) := by rw [cell_of_row _ _ _ _ _ _ hbox]; rfl
      have b2 : wr.cell? ⟨w.heap.size, 2, none⟩ = some (.string mrk) := by rw [cell_of_row _ _ _ _ _ _ hbox]; rfl
      have HGC : Hid (wr.heap[w.heap.size + 1]? = some (.cells cur 58 (0, 0))) := hgc
      have HSZ : Hid (cur.size = (l.length + 3) * 3) := hsz
      have HBX : Hid (wr.heap[w.heap.size]? = some (.cells #[.int .i64 9, .int .i64 0, .string mrk] 58 (0, 0))) := hbox
      have HTK : Hid (cur.toList.take (l.length * 3) = allCells l) := htk
      have HMK : Hid (∀ j, j < k → cur[(l.length + j) * 3]? = some (.int .i64 9) ∧ cur[(l.length + j) * 3 + 1]? = some (.int .i64 0) ∧ cur[(l.length + j) * 3 + 2]? = some (.string mrk)) := hmk
      have HB : Hid (Below w.heap.size w wr) := hb
      have i1 : (l.length : Int) + (k : Int) < (l.length : Int) + 3 := by omega
      clear hgc hsz hbox hb hu0 hu1 hu2 htk hmk
      go_wp2_with fail
      go_region
      all_goals
        go_wp2_with fail
        go_roundw
      case rel =>
        refine ⟨k + 1, ((cur.setIfInBounds ((l.length + k) * 3) (.int .i64 9)).setIfInBounds ((l.length + k) * 3 + 1) (.int .i64 0)).setIfInBounds ((l.length + k) * 3 + 2) (.string mrk), by omega, by go_num, ?_, ?_, ?_, ?_, ?_, ?_⟩
        · exact set_at (set_at (set_at HGC.out))
        · rw [set_sz, set_sz, set_sz]; exact HSZ.out
        · rw [Array.toList_setIfInBounds, Array.toList_setIfInBounds, Array.toList_setIfInBounds, List.take_set_of_le (by omega), List.take_set_of_le (by omega), List.take_set_of_le (by omega)]; exact HTK.out
        · intro j hj
          have hsz := HSZ.out
          by_cases hjk : j = k
          · subst hjk
            refine ⟨?_, ?_, ?_⟩
            · rw [Array.getElem?_setIfInBounds_ne (by omega), Array.getElem?_setIfInBounds_ne (by omega), Array.getElem?_setIfInBounds_self_of_lt (by omega)]
            · rw [Array.getElem?_setIfInBounds_ne (by omega), Array.getElem?_setIfInBounds_self_of_lt (by rw [set_sz]; omega)]
            · rw [Array.getElem?_setIfInBounds_self_of_lt (by rw [set_sz, set_sz]; omega)]
          · obtain ⟨h0, h1, h2⟩ := HMK.out j (by omega)
            refine ⟨?_, ?_, ?_⟩
            · rw [Array.getElem?_setIfInBounds_ne (by omega), Array.getElem?_setIfInBounds_ne (by omega), Array.getElem?_setIfInBounds_ne (by omega)]; exact h0
            · rw [Array.getElem?_setIfInBounds_ne (by omega), Array.getElem?_setIfInBounds_ne (by omega), Array.getElem?_setIfInBounds_ne (by omega)]; exact h1
            · rw [Array.getElem?_setIfInBounds_ne (by omega), Array.getElem?_setIfInBounds_ne (by omega), Array.getElem?_setIfInBounds_ne (by omega)]; exact h2
        · show ((wr.setCell _ _).setCell _ _ |>.setCell _ _).heap[w.heap.size]? = _
          rw [Deep.blk_setCell_other _ _ _ _ (by show w.heap.size ≠ w.heap.size + 1; omega), Deep.blk_setCell_other _ _ _ _ (by show w.heap.size ≠ w.heap.size + 1; omega), Deep.blk_setCell_other _ _ _ _ (by show w.heap.size ≠ w.heap.size + 1; omega)]; exact HBX.out
        · exact (((HB.out.setCell (p := ⟨w.heap.size + 1, (l.length + k) * 3, none⟩) (by show w.heap.size ≤ w.heap.size + 1; omega) _).setCell (p := ⟨w.heap.size + 1, (l.length + k) * 3 + 1, none⟩) (by show w.heap.size ≤ w.heap.size + 1; omega) _).setCell (p := ⟨w.heap.size + 1, (l.length + k) * 3 + 2, none⟩) (by show w.heap.size ≤ w.heap.size + 1; omega) _).drew
      case measure => simp [intOf]; omega
    · have hk3 : k = 3 := by omega
      subst hk3
      have HF : Hid (wr.heap[w.heap.size + 1]? = some (.cells cur 58 (0, 0)) ∧ cur.size = (l.length + 3) * 3 ∧ cur.toList.take (l.length * 3) = allCells l ∧ (∀ j, j < 3 → cur[(l.length + j) * 3]? = some (.int .i64 9) ∧ cur[(l.length + j) * 3 + 1]? = some (.int .i64 0) ∧ cur[(l.length + j) * 3 + 2]? = some (.string mrk)) ∧ Below w.heap.size w wr) := ⟨hgc, hsz, htk, hmk, hb⟩
      clear hgc hsz htk hmk hbox hb
      go_wp2_with fail
      go_ret
      exact ⟨w.heap.size + 1, cur, rfl, by omega, HF.out⟩

set_option maxHeartbeats 2000000 in
theorem filled_any (g n : Nat) (cur : Array Value) (w : World) (hg : w.heap[g]? = some (.cells cur 58 (0, 0))) (hn : n ≤ 4611686018427387904) (hmk : ∀ j, j < 3 → cur[(n + j) * 3]? = some (.int .i64 9) ∧ cur[(n + j) * 3 + 1]? = some (.int .i64 0) ∧ cur[(n + j) * 3 + 2]? = some (.string mrk)) :
    Calls Try.prog 27 #[.slice (some ⟨g, 0, none⟩) n (n + 3)] w fun e w' => e = .returned (.bool true) ∧ Below w.heap.size w w' := by
  have HG : Hid (w.heap[g]? = some (.cells cur 58 (0, 0))) := hg
  have HMK : Hid (∀ j, j < 3 → cur[(n + j) * 3]? = some (.int .i64 9) ∧ cur[(n + j) * 3 + 1]? = some (.int .i64 0) ∧ cur[(n + j) * 3 + 2]? = some (.string mrk)) := hmk
  have hgw : g < w.heap.size := lt_of_heap hg
  clear hg hmk
  go_enter Try.func27, Try.ntmps27
  go_wp2_with fail
  rw [show n + 3 - n = 3 by omega]
  go_loopw [12] (fun i wr => ∃ (k : Nat), k ≤ 3 ∧ i = .int .i64 k ∧ Below w.heap.size w wr) (fun i _ => 3 - (intOf i).toNat)
  case atStart => exact ⟨0, Nat.zero_le _, rfl, Below.refl _ _⟩
  case round =>
    obtain ⟨k, hk, rfl, hb⟩ := hrel
    have hz := hb.size
    by_cases hlt : k < 3
    · have hgc := (hb.block g hgw).trans HG.out
      obtain ⟨m0, m1, m2⟩ := HMK.out k hlt
      have c0 : wr.cell? ⟨g, n * 3 + k * 3, none⟩ = some (.int .i64 9) := by rw [cell_of_row _ _ _ _ _ _ hgc, show n * 3 + k * 3 = (n + k) * 3 by omega]; exact m0
      have c1 : wr.cell? ⟨g, n * 3 + k * 3 + 1, none⟩ = some (.int .i64 0) := by rw [cell_of_row _ _ _ _ _ _ hgc, show n * 3 + k * 3 = (n + k) * 3 by omega]; exact m1
      have c2 : wr.cell? ⟨g, n * 3 + k * 3 + 2, none⟩ = some (.string mrk) := by rw [cell_of_row _ _ _ _ _ _ hgc, show n * 3 + k * 3 = (n + k) * 3 by omega]; exact m2
      have HB : Hid (Below w.heap.size w wr) := hb
      have hgw2 : g < wr.heap.size := lt_of_heap hgc
      clear hgc m0 m1 m2 hb
      go_wp2_with fail
      go_region_with (go_at_call 25; refine (mark_any _).mono ?_; rintro e w1 ⟨rfl, rfl⟩)
      all_goals
        go_wp2_with fail
        go_roundw
        case rel => first | exact ⟨k + 1, by omega, by go_num, ((HB.out.alloc hz _).alloc (by simp; omega) _).drew⟩ | ((repeat apply Exists.intro); exact ⟨⟨k + 1, by omega, by go_num, ((HB.out.alloc hz _).alloc (by simp; omega) _).drew⟩, rfl⟩)
        case measure => simp [intOf]; omega
    · have HB : Hid (Below w.heap.size w wr) := hb
      clear hb
      go_wp2_with fail
      go_ret
      exact ⟨rfl, HB.out⟩

theorem nil_is (w : World) : (binOp BinOp.eql 33 (Value.slice none 0 0) (Value.slice none 0 0)).run Try.prog w = .ok (.bool true) w := by kernel_rfl
theorem nil_not (a : Addr) (n c : Nat) (w : World) : (binOp BinOp.eql 33 (Value.slice (some a) n c) (Value.slice none 0 0)).run Try.prog w = .ok (.bool false) w := by kernel_rfl

end Go.Proofs.Ytinhidddfpjjkab
