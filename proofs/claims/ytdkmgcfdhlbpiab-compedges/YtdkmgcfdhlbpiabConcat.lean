/- slices.Concat of two lists of parts, and what the laws' beside and put answer. -/
import Derived.Test.YtdkmgcfdhlbpiabGMem
import Derived.Test.YtdkmgcfdhlbpiabLoose
import Derived.Lib.AppendZeros
import Derived.LoopN
import Derived.ProofKit
namespace Go.Proofs.Ytdkmgcfdhlbpiab
open Go.RowKit
set_option linter.unusedSimpArgs false
set_option linter.unusedVariables false

set_option maxHeartbeats 400000 in
theorem Grow_zero (w : World) :
    Calls Try.prog 27 #[.slice none 0 0, .int .i64 0] w fun e w' => e = .returned (.slice none 0 0) ∧ w' = w := by
  go_enter Try.func27, Try.ntmps27
  go_wp2_with fail
  go_ret
  exact ⟨rfl, rfl⟩

set_option maxHeartbeats 1000000 in
theorem Grow_pos (n : Nat) (w : World) (hn : 0 < n) (hb : n * 32 ≤ 281474976710656) :
    Calls Try.prog 27 #[.slice none 0 0, .int .i64 n] w fun e w' => ∃ cap, e = .returned (.slice (some ⟨w.heap.size, 0, none⟩) 0 cap) ∧ n ≤ cap ∧ w'.ownsRow w.heap.size 28 3 (.slice (some ⟨w.heap.size, 0, none⟩) 0 cap) 0 [] ∧ Below w.heap.size w w' := by
  obtain ⟨ip, hip, hp0, hp1, hp2⟩ := info_parts infoPart
  have hr := Lib.run_append_nil_zeros (P := Try.prog) w 22 3 22 28 ip _ .i64 .i64 Try.underlying22 Try.underlying3 hip hp0 n hn (by rw [hp1]; omega) (by omega) (by rw [hp2]; exact hb)
  have hge := grownCap_ge w n 0 28
  have hmx := grownCap_le_maxLen w n 0 28 (by unfold maxLen; omega)
  generalize grownCap w n 0 28 = gc at hr hge hmx
  have HR : Hid _ := hr
  clear hr
  go_enter Try.func27, Try.ntmps27
  go_wp2_with (at_builtin; refine Lib.wpList_append_run _ rfl _ _ 22 3 rfl _ _ rfl rfl _ _ HR.out ?_)
  go_ret
  refine ⟨gc, rfl, hge, ⟨rfl, .inr ⟨w.heap.size, gc, _, rfl, Nat.le_refl _, Deep.blk_alloc_new _ _, Nat.zero_le _, hmx, ?_, by simp⟩⟩, ?_⟩
  · rw [Array.size_append, size_zeroCells, size_zeroCells]
    show n * 3 + (gc - n) * 3 = gc * 3
    omega
  · first | exact ((Below.refl _ _).alloc (Nat.le_refl _) _).drew | exact (Below.refl _ _).drew.alloc (Nat.le_refl _) _

theorem allCells_one (l : List Pt) : ∀ u ∈ allCells l, u.oneCell' = true := by
  intro u hu
  simp only [allCells, List.mem_flatMap, ptCells, List.mem_cons, List.mem_nil_iff, or_false] at hu
  obtain ⟨p, _, rfl | rfl | rfl⟩ := hu <;> rfl
theorem parts_nil {w : World} {B : Nat} {l : List Pt} (h : PartsAt w B none l) : l.length = 0 := by
  obtain ⟨_, _, _, h4⟩ := h
  rcases Nat.eq_zero_or_pos l.length with h0 | h0
  · exact h0
  · obtain ⟨_, _, e, _⟩ := h4 (List.length_pos_iff.1 h0)
    cases e
theorem parts_cells {w : World} {B : Nat} {ad : Addr} {l : List Pt} (h : PartsAt w B (some ad) l) : ∀ j u, (allCells l)[j]? = some u → w.cell? (ad.add j) = some u := by
  intro j u hj
  have hjl := (List.getElem?_eq_some_iff.1 hj).1
  rw [allCells_length] at hjl
  obtain ⟨p, hp⟩ : ∃ p, l[j / 3]? = some p := ⟨l[j / 3]'(by omega), List.getElem?_eq_getElem _⟩
  obtain ⟨b, off, e, _, c1, c2, c3⟩ := h.mem hp
  obtain rfl := Option.some.inj e
  obtain ⟨a1, a2, a3⟩ := allCells_at hp
  rw [Go.WideShapes.add_plain]
  rcases (show j = j / 3 * 3 ∨ j = j / 3 * 3 + 1 ∨ j = j / 3 * 3 + 2 by omega) with h1 | h1 | h1
  · rw [h1] at hj; rw [a1] at hj; rw [h1, c1]; exact hj
  · rw [h1] at hj; rw [a2] at hj; rw [h1, ← Nat.add_assoc, c2]; exact hj
  · rw [h1] at hj; rw [a3] at hj; rw [h1, ← Nat.add_assoc, c3]; exact hj

set_option maxHeartbeats 4000000 in
theorem Concat_any (a b : Option Addr) (la lb : List Pt) (ca cb S : Nat) (w : World) (hS : w.heap[S]? = some (.cells #[.slice a la.length ca, .slice b lb.length cb] 22 (0, 0))) (ha : PartsAt w w.heap.size a la) (hb : PartsAt w w.heap.size b lb)
    (ha0 : a = none → ca = 0) (hb0 : b = none → cb = 0) (hla : la.length * 32 ≤ 140737488351232) (hlb : lb.length * 32 ≤ 140737488351232) :
    Calls Try.prog 16 #[.slice (some ⟨S, 0, none⟩) 2 2] w fun e w' => ∃ v, e = .returned v ∧ w'.ownsRow w.heap.size 28 3 v (la ++ lb).length (allCells (la ++ lb)) ∧ Below w.heap.size w w' := by
  obtain ⟨ip, hip, hp0, hp1, hp2⟩ := info_parts infoPart
  have s0 : w.cell? ⟨S, 0, none⟩ = some (.slice a la.length ca) := by rw [cell_of_row _ _ _ _ _ _ hS]; rfl
  have s1 : w.cell? ⟨S, 1, none⟩ = some (.slice b lb.length cb) := by rw [cell_of_row _ _ _ _ _ _ hS]; rfl
  have hSw : S < w.heap.size := lt_of_heap hS
  have HA : Hid (PartsAt w w.heap.size a la) := ha
  have HB : Hid (PartsAt w w.heap.size b lb) := hb
  have HA0 : Hid (a = none → ca = 0) := ha0
  have HB0 : Hid (b = none → cb = 0) := hb0
  clear ha hb ha0 hb0
  go_enter Try.func16, Try.ntmps16
  go_wp2_with fail
  refine wp_loop_rounds 3 ?_
  rw [rounds_succ]
  go_wp2_with fail
  rw [rounds_succ]
  go_wp2_with fail
  rw [rounds_succ]
  go_wp2_with fail
  by_cases hz : la.length + lb.length = 0
  · have e1 : la = [] := List.length_eq_zero_iff.1 (by omega)
    have e2 : lb = [] := List.length_eq_zero_iff.1 (by omega)
    subst e1 e2
    simp only [List.length_nil] at s0 s1 ⊢
    refine (Grow_zero _).mono ?_
    rintro e w2 ⟨rfl, rfl⟩
    have hnil := World.ownsRow_nil w2 w2.heap.size 28 3
    have hfin : ∀ (w' : World), w'.ownsRow w2.heap.size 28 3 (.slice none 0 0) (([] : List Pt) ++ []).length (allCells ([] ++ [])) := fun w' => World.ownsRow_nil w' _ _ _
    have HFIN : Hid _ := hfin
    clear hfin
    go_wp2_with fail
    refine wp_loop_rounds 3 ?_
    rw [rounds_succ]
    cases a with
    | none =>
      have hca := HA0.out rfl
      subst hca
      go_wp2_with (at_builtin; refine wpList_append_own_none rfl _ _ 22 rfl w2.heap.size 28 ip 3 Try.underlying22 hip (.slice none 0 0) 0 [] rfl hnil rfl ?_)
      rw [rounds_succ]
      cases b with
      | none =>
        have hcb := HB0.out rfl
        subst hcb
        go_wp2_with (at_builtin; refine wpList_append_own_none rfl _ _ 22 rfl w2.heap.size 28 ip 3 Try.underlying22 hip (.slice none 0 0) 0 [] rfl hnil rfl ?_)
        rw [rounds_succ]
        go_wp2_with fail
        go_ret
        exact ⟨_, rfl, HFIN.out _, Below.refl _ _⟩
      | some bd =>
        go_wp2_with (at_builtin; refine wpList_append_own _ rfl _ _ 22 rfl w2.heap.size 28 ip _ 3 32 Try.underlying22 hip hp0 hp1 hp2 rfl (by decide) (.slice none 0 0) 0 [] rfl hnil bd 0 cb [] rfl rfl (by simp) (by simp) (by decide) (by decide) (Nat.le_refl _) ?_)
        intro v' w3 hown3 hgr3 hv3
        have hv : v' = .slice none 0 0 := by simpa using hv3
        subst hv
        have HB3 : Hid (Below w2.heap.size w2 w3) := (Below.refl _ _).grown hgr3 (Nat.le_refl _) (fun k hk => by simp [Value.ownBlock] at hk)
        clear hv3
        go_wp2_with fail
        rw [rounds_succ]
        go_wp2_with fail
        go_ret
        exact ⟨_, rfl, HFIN.out _, HB3.out⟩
    | some ad =>
      go_wp2_with (at_builtin; refine wpList_append_own _ rfl _ _ 22 rfl w2.heap.size 28 ip _ 3 32 Try.underlying22 hip hp0 hp1 hp2 rfl (by decide) (.slice none 0 0) 0 [] rfl hnil ad 0 ca [] rfl rfl (by simp) (by simp) (by decide) (by decide) (Nat.le_refl _) ?_)
      intro v' w3 hown3 hgr3 hv3
      have hv : v' = .slice none 0 0 := by simpa using hv3
      subst hv
      have hb3 : Below w2.heap.size w2 w3 := (Below.refl _ _).grown hgr3 (Nat.le_refl _) (fun k hk => by simp [Value.ownBlock] at hk)
      have HB3 : Hid (Below w2.heap.size w2 w3) := hb3
      have u1 : w3.cell? ⟨S, 1, none⟩ = some (.slice b 0 cb) := (hb3.cell (p := ⟨S, 1, none⟩) hSw).trans s1
      have hz3 := hb3.size
      have hnil3 := World.ownsRow_nil w3 w2.heap.size 28 3
      clear hv3 hb3 hown3 hgr3
      go_wp2_with fail
      rw [rounds_succ]
      cases b with
      | none =>
        have hcb := HB0.out rfl
        subst hcb
        go_wp2_with (at_builtin; refine wpList_append_own_none rfl _ _ 22 rfl w2.heap.size 28 ip 3 Try.underlying22 hip (.slice none 0 0) 0 [] rfl hnil3 rfl ?_)
        rw [rounds_succ]
        go_wp2_with fail
        go_ret
        exact ⟨_, rfl, HFIN.out _, HB3.out⟩
      | some bd =>
        go_wp2_with (at_builtin; refine wpList_append_own _ rfl _ _ 22 rfl w2.heap.size 28 ip _ 3 32 Try.underlying22 hip hp0 hp1 hp2 rfl (by decide) (.slice none 0 0) 0 [] rfl hnil3 bd 0 cb [] rfl rfl (by simp) (by simp) (by decide) (by decide) hz3 ?_)
        intro v' w4 hown4 hgr4 hv4
        have hv : v' = .slice none 0 0 := by simpa using hv4
        subst hv
        have HB4 : Hid (Below w2.heap.size w2 w4) := HB3.out.grown hgr4 hz3 (fun k hk => by simp [Value.ownBlock] at hk)
        clear hv4
        go_wp2_with fail
        rw [rounds_succ]
        go_wp2_with fail
        go_ret
        exact ⟨_, rfl, HFIN.out _, HB4.out⟩
  · rw [show ((la.length : Int) + (lb.length : Int)) = ((la.length + lb.length : Nat) : Int) from by omega]
    refine (Grow_pos (la.length + lb.length) _ (by omega) (by omega)).mono ?_
    rintro e w2 ⟨cap, rfl, hcap, hown, hbe⟩
    have hc := (bcell hbe).1
    have hz2 := hbe.size
    have t0 : w2.cell? ⟨S, 0, none⟩ = some (.slice a la.length ca) := (hc S 0 hSw).trans s0
    have t1 : w2.cell? ⟨S, 1, none⟩ = some (.slice b lb.length cb) := (hc S 1 hSw).trans s1
    have hg2 : w.heap.size < w2.heap.size := (hown.lt _ rfl).2
    have HBE : Hid (Below w.heap.size w w2) := hbe
    have HA2 := HA.out.below hbe (Nat.le_refl _)
    have ha1 := fun ad (h : a = some ad) => parts_cells (by rw [← h]; exact HA2)
    have hao : a = none → la.length = 0 ∧ ca = 0 := fun h => ⟨parts_nil (by rw [← h]; exact HA2), HA0.out h⟩
    clear hc hbe HA2
    go_wp2_with fail
    refine wp_loop_rounds 3 ?_
    rw [rounds_succ]
    go_wp2_with (at_builtin; refine wpList_append_fits_any _ rfl _ _ 22 rfl w.heap.size 28 ip 3 Try.underlying22 hip hp1 w.heap.size 0 cap [] rfl hown a la.length ca (allCells la) rfl (allCells_length la) hao ha1 (allCells_one la) (by omega) ?_)
    intro w3 hown3 hgr3
    have hb3 : Below w.heap.size w w3 := HBE.out.grown hgr3 hz2 (fun k hk => by simp at hk; omega)
    have HB3 : Hid (Below w.heap.size w w3) := hb3
    have u1 : w3.cell? ⟨S, 1, none⟩ = some (.slice b lb.length cb) := (hb3.cell (p := ⟨S, 1, none⟩) hSw).trans s1
    have HB2 := HB.out.below hb3 (Nat.le_refl _)
    have hb1 := fun ad (h : b = some ad) => parts_cells (by rw [← h]; exact HB2)
    have hbo : b = none → lb.length = 0 ∧ cb = 0 := fun h => ⟨parts_nil (by rw [← h]; exact HB2), HB0.out h⟩
    have hz3 := hb3.size
    have hown3' : w3.ownsRow w.heap.size 28 3 (.slice (some ⟨w.heap.size, 0, none⟩) la.length cap) la.length (allCells la) := by simpa using hown3
    clear hb3 HB2 hgr3 ha1 hao hown hown3
    go_wp2_with fail
    rw [rounds_succ]
    go_wp2_with (at_builtin; refine wpList_append_fits_any _ rfl _ _ 22 rfl w.heap.size 28 ip 3 Try.underlying22 hip hp1 w.heap.size la.length cap (allCells la) rfl hown3' b lb.length cb (allCells lb) rfl (allCells_length lb) hbo hb1 (allCells_one lb) (by omega) ?_)
    intro w4 hown4 hgr4
    have HB4 : Hid (Below w.heap.size w w4) := HB3.out.grown hgr4 hz3 (fun k hk => by simp at hk; omega)
    have HO4 : Hid (w4.ownsRow w.heap.size 28 3 (.slice (some ⟨w.heap.size, 0, none⟩) (la.length + lb.length) cap) (la ++ lb).length (allCells (la ++ lb))) := by
      show World.ownsRow _ _ _ _ _ _ _
      rw [List.length_append, allCells_append]; exact hown4
    clear hown4 hgr4
    go_wp2_with fail
    rw [rounds_succ]
    go_wp2_with fail
    go_ret
    exact ⟨_, rfl, HO4.out, HB4.out⟩

end Go.Proofs.Ytdkmgcfdhlbpiab
