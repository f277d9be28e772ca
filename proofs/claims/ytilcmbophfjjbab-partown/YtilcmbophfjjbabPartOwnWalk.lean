/- The law PartOwn, walked: it answers true. -/
import Derived.Test.YtilcmbophfjjbabOwnKit
import Derived.Test.YtilcmbophfjjbabSame
import Derived.Test.YtilcmbophfjjbabBesideWalk
namespace Go.Proofs.Ytilcmbophfjjbab
open Go.RowKit
set_option linter.unusedSimpArgs false
set_option linter.unusedVariables false

theorem infoSl : (Try.prog.info? 22).map (fun i => (i.zero, i.size, i.bytes)) = some (some (.slice none 0 0), 1, 24) := by kernel_rfl
theorem own_ne3 {w : World} {B B' n n' size size' : Nat} {e t : TypeId} {v v' : Value} {xs xs' : List Value} (h : w.ownsRow B e size v n xs) (h' : w.ownsRow B' t size' v' n' xs') (ht : t ≠ e) : v.ownBlock = none ∨ v.ownBlock ≠ v'.ownBlock := by
  rcases h'.2 with ⟨rfl, _⟩ | ⟨g', cap, cur, rfl, _, hc, _⟩
  · rcases h.2 with ⟨rfl, _⟩ | ⟨g, cap, cur, rfl, _⟩
    · left; rfl
    · right; simp [Value.ownBlock]
  · right; exact own_ne' h hc ht
theorem bound_nil : Bound [] := ⟨by simp, by simp⟩
theorem bound_of {l : List Pt} (h : sizesE l = 0) : Bound l ∧ l.length ≤ 1600 := by
  obtain ⟨h1, h2⟩ := sizes_zero h
  have hR := sizes_right h
  refine ⟨⟨by have := h1.1; omega, fun p hp => ?_⟩, h1.1⟩
  have h3 := h1.2 p hp
  have h4 := (hR p hp).1
  exact ⟨by omega, by omega, by omega, by omega, by omega⟩
theorem bound_norm (l : List Pt) : Bound (normL l) ∧ (normL l).length ≤ 1600 := by
  by_cases h : normE l = 0
  · exact bound_of (norm_word h).1
  · rw [normL, if_neg h]; exact ⟨bound_nil, by simp⟩
theorem bound_comp (a b : List Pt) : Bound (compR a b) ∧ (compR a b).length ≤ 1600 := by
  by_cases h : compE a b = 0
  · obtain ⟨r, _, _, h1, _, _, h2, _⟩ := comp_facts h
    rw [h2]; exact bound_of h1
  · rw [compR, if_neg h]; exact ⟨bound_nil, by simp⟩
theorem bound_meet (a b : List Pt) : (Bound (meetL a b) ∧ (meetL a b).length ≤ 1600) ∧ (Bound (meetR a b) ∧ (meetR a b).length ≤ 1600) := by
  by_cases h : meetE a b = 0
  · obtain ⟨h1, h2, _⟩ := meet_facts h
    exact ⟨bound_of h1, bound_of h2⟩
  · rw [meetL, if_neg h, meetR, if_neg h]; exact ⟨⟨bound_nil, by simp⟩, bound_nil, by simp⟩
theorem parts_of {w : World} {B c : Nat} {ao : Option Addr} {l : List Pt} (h : w.ownsRow B 27 3 (.slice ao l.length c) l.length (allCells l)) (hb : Bound l) : PartsAt w w.heap.size ao l := by
  obtain ⟨a1, c1, e1, hp⟩ := parts_own h hb
  simp only [Value.slice.injEq, true_and] at e1
  obtain ⟨rfl, rfl⟩ := e1
  exact hp
theorem same_own {la : List Pt} (a b : Option Addr) (ca cb : Nat) (w : World) (ha : PartsAt w w.heap.size a la) (hb : PartsAt w w.heap.size b la) :
    Calls Try.prog 14 #[.slice a la.length ca, .slice b la.length cb] w fun e w' => e = .returned (.bool true) ∧ Below w.heap.size w w' := Same_yes a b la ca cb w ha hb
theorem markB_any (w : World) : Calls Try.prog 24 #[] w fun e w' => e = .returned (.agg #[.int .i64 9, .int .i64 0, .string mrk]) ∧ Below w.heap.size w w' :=
  (mark_any w).mono fun e w' ⟨h1, h2⟩ => ⟨h1, by rw [h2]; exact (Below.refl _ _).alloc (Nat.le_refl _) _⟩
/-- a cell of a row of lists -/
theorem want_at {w : World} {B n c : Nat} {ao : Option Addr} {xs : List Value} (h : w.ownsRow B 22 1 (.slice ao n c) n xs) {j : Nat} {u : Value} (hj : xs[j]? = some u) : ∃ g, ao = some ⟨g, 0, none⟩ ∧ w.cell? ⟨g, j, none⟩ = some u ∧ g < w.heap.size := by
  have hl := (List.getElem?_eq_some_iff.1 hj).1
  have h1 := h.1
  rcases h.2 with ⟨_, h0⟩ | ⟨g, cap, cur, e, _, hc, _⟩
  · omega
  · simp only [Value.slice.injEq, true_and] at e
    exact ⟨g, e.1, by rw [(show w.ownsRow B 22 1 (.slice (some ⟨g, 0, none⟩) n c) n xs by rw [← e.1]; exact h).cellAt j (by omega)]; exact hj, lt_of_heap hc⟩
theorem room_own {w : World} {B g : Nat} {l : List Pt} {cur : Array Value} (hg : w.heap[g]? = some (.cells cur 27 (0, 0))) (hB : B ≤ g) (hs : cur.size = (l.length + 3) * 3) (ht : cur.toList.take (l.length * 3) = allCells l) (hl : l.length * 32 ≤ 140737488351232) :
    w.ownsRow B 27 3 (.slice (some ⟨g, 0, none⟩) l.length (l.length + 3)) l.length (allCells l) :=
  ⟨allCells_length l, .inr ⟨g, l.length + 3, cur, rfl, hB, hg, by omega, by unfold maxLen; omega, hs, ht⟩⟩
theorem litNa : normE [⟨2, 0, ⟨#[97]⟩⟩] = 0 ∧ normL [⟨2, 0, ⟨#[97]⟩⟩] = [⟨2, 0, ⟨#[97]⟩⟩] := ⟨by decide, rfl⟩
theorem norm_lit (a : Option Addr) (w : World) (h : PartsAt w w.heap.size a [⟨2, 0, ⟨#[97]⟩⟩]) :
    Calls Try.prog 25 #[.slice a 1 1] w fun e w' => ∃ a' c', e = .returned (.tuple #[.slice a' 1 c', .int .i64 0]) ∧ PartsAt w' w'.heap.size a' [⟨2, 0, ⟨#[97]⟩⟩] ∧ Below w.heap.size w w' := by
  have h1 := NormC_any a [⟨2, 0, ⟨#[97]⟩⟩] 1 w h
  rw [litNa.1, litNa.2] at h1
  exact h1.mono fun e w' ⟨a', c', k1, k2, k3, k4⟩ => ⟨a', c', k1, k2, k4⟩
theorem same_lit (a b : Option Addr) (ca cb : Nat) (w : World) (ha : PartsAt w w.heap.size a [⟨2, 0, ⟨#[97]⟩⟩]) (hb : PartsAt w w.heap.size b [⟨2, 0, ⟨#[97]⟩⟩]) :
    Calls Try.prog 14 #[.slice a 1 ca, .slice b 1 cb] w fun e w' => e = .returned (.bool true) ∧ Below w.heap.size w w' := Same_yes a b [⟨2, 0, ⟨#[97]⟩⟩] ca cb w ha hb

set_option maxRecDepth 100000 in
set_option maxHeartbeats 16000000 in
theorem PartOwn_any (a : Option Addr) (la : List Pt) (ca : Nat) (b : Option Addr) (lb : List Pt) (cb : Nat) (w : World) (h_a : PartsAt w w.heap.size a la) (h_b : PartsAt w w.heap.size b lb)
    (n_a : a = none → ca = 0) (n_b : b = none → cb = 0) (s_a : la.length * 32 ≤ 140737488351232) (s_b : lb.length * 32 ≤ 140737488351232) :
    Calls Try.prog 7 #[.slice a la.length ca, .slice b lb.length cb] w fun e w' => e = .returned (.bool true) ∧ Below w.heap.size w w' := by
  obtain ⟨ip, hip, hp0, hp1, hp2⟩ := info_parts infoSl
  have HE0 : Hid (Below w.heap.size w w) := Below.refl _ _
  have HA : Hid (PartsAt w w.heap.size a la) := h_a
  have HB : Hid (PartsAt w w.heap.size b lb) := h_b
  have BA : Hid (Bound la) := ⟨h_a.1, h_a.2.2.1⟩
  have BB : Hid (Bound lb) := ⟨h_b.1, h_b.2.2.1⟩
  have NA : Hid (a = none → ca = 0) := n_a
  have NB : Hid (b = none → cb = 0) := n_b
  clear h_a h_b n_a n_b
  go_enter Try.func7, Try.ntmps7
  go_wp2_with fail
  refine (markB_any _).mono ?_
  rintro e w1 ⟨rfl, hb⟩
  have HE1 : Hid (Below w.heap.size w w1) := HE0.out.trans (hb.mono HE0.out.size)
  have z1 := hb.size
  clear hb
  have P1 : Hid (PartsAt w1 w1.heap.size a la) := HA.out.here HE1.out (Nat.le_refl _)
  go_wp2_with fail
  refine (roomy_any a la ca _ P1.out NA.out s_a).mono ?_
  rintro e w2 ⟨gx, curx, rfl, hg1, hg2, hg3, hg4, hg5, hb⟩
  have HE2 : Hid (Below w.heap.size w w2) := HE1.out.trans (hb.mono HE1.out.size)
  have z2 := hb.size
  clear hb
  have F_x : Hid (∀ j, j < 3 → curx[(la.length + j) * 3]? = some (.int .i64 9) ∧ curx[(la.length + j) * 3 + 1]? = some (.int .i64 0) ∧ curx[(la.length + j) * 3 + 2]? = some (.string mrk)) := hg5
  have K2_x : Hid (w2.heap[gx]? = some (.cells curx 27 (0, 0))) := hg2
  have O2_x : Hid (w2.ownsRow w1.heap.size 27 3 (.slice (some ⟨gx, 0, none⟩) (la).length (la.length + 3)) (la).length (allCells (la))) := room_own hg2 hg1 hg3 hg4 s_a
  have I_x : Hid (Iv (.slice (some ⟨gx, 0, none⟩) (la).length (la.length + 3)) w1.heap.size w2.heap.size) := iv_own O2_x.out
  clear hg1 hg2 hg3 hg4 hg5
  go_wp2_with fail
  refine (markB_any _).mono ?_
  rintro e w3 ⟨rfl, hb⟩
  have HE3 : Hid (Below w.heap.size w w3) := HE2.out.trans (hb.mono HE2.out.size)
  have z3 := hb.size
  have O3_x : Hid (w3.ownsRow w1.heap.size 27 3 (.slice (some ⟨gx, 0, none⟩) (la).length (la.length + 3)) (la).length (allCells (la))) := own_belowO O2_x.out hb (Nat.le_refl _)
  have K3_x : Hid (w3.heap[gx]? = some (.cells curx 27 (0, 0))) := (hb.block gx (lt_of_heap K2_x.out)).trans K2_x.out
  clear hb
  have P3 : Hid (PartsAt w3 w3.heap.size b lb) := HB.out.here HE3.out (Nat.le_refl _)
  go_wp2_with fail
  refine (roomy_any b lb cb _ P3.out NB.out s_b).mono ?_
  rintro e w4 ⟨gy, cury, rfl, hg1, hg2, hg3, hg4, hg5, hb⟩
  have HE4 : Hid (Below w.heap.size w w4) := HE3.out.trans (hb.mono HE3.out.size)
  have z4 := hb.size
  have O4_x : Hid (w4.ownsRow w1.heap.size 27 3 (.slice (some ⟨gx, 0, none⟩) (la).length (la.length + 3)) (la).length (allCells (la))) := own_belowO O3_x.out hb (Nat.le_refl _)
  have K4_x : Hid (w4.heap[gx]? = some (.cells curx 27 (0, 0))) := (hb.block gx (lt_of_heap K3_x.out)).trans K3_x.out
  clear hb
  have F_y : Hid (∀ j, j < 3 → cury[(lb.length + j) * 3]? = some (.int .i64 9) ∧ cury[(lb.length + j) * 3 + 1]? = some (.int .i64 0) ∧ cury[(lb.length + j) * 3 + 2]? = some (.string mrk)) := hg5
  have K4_y : Hid (w4.heap[gy]? = some (.cells cury 27 (0, 0))) := hg2
  have O4_y : Hid (w4.ownsRow w3.heap.size 27 3 (.slice (some ⟨gy, 0, none⟩) (lb).length (lb.length + 3)) (lb).length (allCells (lb))) := room_own hg2 hg1 hg3 hg4 s_b
  have I_y : Hid (Iv (.slice (some ⟨gy, 0, none⟩) (lb).length (lb.length + 3)) w3.heap.size w4.heap.size) := iv_own O4_y.out
  clear hg1 hg2 hg3 hg4 hg5
  go_wp2_with fail
  refine (NormO_any (some ⟨gx, 0, none⟩) la (la.length + 3) _ (parts_of O4_x.out BA.out)).mono ?_
  rintro e w5 ⟨vn, rfl, ho, hb⟩
  have HE5 : Hid (Below w.heap.size w w5) := HE4.out.trans (hb.mono HE4.out.size)
  have z5 := hb.size
  have O5_x : Hid (w5.ownsRow w1.heap.size 27 3 (.slice (some ⟨gx, 0, none⟩) (la).length (la.length + 3)) (la).length (allCells (la))) := own_belowO O4_x.out hb (Nat.le_refl _)
  have O5_y : Hid (w5.ownsRow w3.heap.size 27 3 (.slice (some ⟨gy, 0, none⟩) (lb).length (lb.length + 3)) (lb).length (allCells (lb))) := own_belowO O4_y.out hb (Nat.le_refl _)
  have K5_x : Hid (w5.heap[gx]? = some (.cells curx 27 (0, 0))) := (hb.block gx (lt_of_heap K4_x.out)).trans K4_x.out
  have K5_y : Hid (w5.heap[gy]? = some (.cells cury 27 (0, 0))) := (hb.block gy (lt_of_heap K4_y.out)).trans K4_y.out
  clear hb
  obtain ⟨xn, cn, en, _⟩ := parts_own ho (bound_norm la).1
  subst en
  have O5_n : Hid (w5.ownsRow w4.heap.size 27 3 (.slice xn (normL la).length cn) (normL la).length (allCells (normL la))) := ho
  clear ho
  have I_n : Hid (Iv (.slice xn (normL la).length cn) w4.heap.size w5.heap.size) := iv_own O5_n.out
  go_wp2_with fail
  refine (CompO_any (some ⟨gx, 0, none⟩) (some ⟨gy, 0, none⟩) la lb (la.length + 3) (lb.length + 3) _ (parts_of O5_x.out BA.out) (parts_of O5_y.out BB.out) (by omega)).mono ?_
  rintro e w6 ⟨vd, rfl, ho, hb⟩
  have HE6 : Hid (Below w.heap.size w w6) := HE5.out.trans (hb.mono HE5.out.size)
  have z6 := hb.size
  have O6_x : Hid (w6.ownsRow w1.heap.size 27 3 (.slice (some ⟨gx, 0, none⟩) (la).length (la.length + 3)) (la).length (allCells (la))) := own_belowO O5_x.out hb (Nat.le_refl _)
  have O6_y : Hid (w6.ownsRow w3.heap.size 27 3 (.slice (some ⟨gy, 0, none⟩) (lb).length (lb.length + 3)) (lb).length (allCells (lb))) := own_belowO O5_y.out hb (Nat.le_refl _)
  have O6_n : Hid (w6.ownsRow w4.heap.size 27 3 (.slice xn (normL la).length cn) (normL la).length (allCells (normL la))) := own_belowO O5_n.out hb (Nat.le_refl _)
  have K6_x : Hid (w6.heap[gx]? = some (.cells curx 27 (0, 0))) := (hb.block gx (lt_of_heap K5_x.out)).trans K5_x.out
  have K6_y : Hid (w6.heap[gy]? = some (.cells cury 27 (0, 0))) := (hb.block gy (lt_of_heap K5_y.out)).trans K5_y.out
  clear hb
  obtain ⟨xd, cd, ed, _⟩ := parts_own ho (bound_comp la lb).1
  subst ed
  have O6_d : Hid (w6.ownsRow w5.heap.size 27 3 (.slice xd (compR la lb).length cd) (compR la lb).length (allCells (compR la lb))) := ho
  clear ho
  have I_d : Hid (Iv (.slice xd (compR la lb).length cd) w5.heap.size w6.heap.size) := iv_own O6_d.out
  go_wp2_with fail
  refine (MeetO_any (some ⟨gx, 0, none⟩) (some ⟨gy, 0, none⟩) la lb (la.length + 3) (lb.length + 3) _ (parts_of O6_x.out BA.out) (parts_of O6_y.out BB.out)).mono ?_
  rintro e w7 ⟨vp, vq, M, rfl, ⟨hM, hM2⟩, hIv, ho, hq, hb⟩
  have HE7 : Hid (Below w.heap.size w w7) := HE6.out.trans (hb.mono HE6.out.size)
  have z7 := hb.size
  have O7_x : Hid (w7.ownsRow w1.heap.size 27 3 (.slice (some ⟨gx, 0, none⟩) (la).length (la.length + 3)) (la).length (allCells (la))) := own_belowO O6_x.out hb (Nat.le_refl _)
  have O7_y : Hid (w7.ownsRow w3.heap.size 27 3 (.slice (some ⟨gy, 0, none⟩) (lb).length (lb.length + 3)) (lb).length (allCells (lb))) := own_belowO O6_y.out hb (Nat.le_refl _)
  have O7_n : Hid (w7.ownsRow w4.heap.size 27 3 (.slice xn (normL la).length cn) (normL la).length (allCells (normL la))) := own_belowO O6_n.out hb (Nat.le_refl _)
  have O7_d : Hid (w7.ownsRow w5.heap.size 27 3 (.slice xd (compR la lb).length cd) (compR la lb).length (allCells (compR la lb))) := own_belowO O6_d.out hb (Nat.le_refl _)
  have K7_x : Hid (w7.heap[gx]? = some (.cells curx 27 (0, 0))) := (hb.block gx (lt_of_heap K6_x.out)).trans K6_x.out
  have K7_y : Hid (w7.heap[gy]? = some (.cells cury 27 (0, 0))) := (hb.block gy (lt_of_heap K6_y.out)).trans K6_y.out
  clear hb
  obtain ⟨xp, cp, ep, _⟩ := parts_own ho (bound_meet la lb).1.1
  subst ep
  have O7_p : Hid (w7.ownsRow w6.heap.size 27 3 (.slice xp (meetL la lb).length cp) (meetL la lb).length (allCells (meetL la lb))) := ho
  clear ho
  have I_p : Hid (Iv (.slice xp (meetL la lb).length cp) w6.heap.size M) := hIv
  clear hIv
  obtain ⟨xq, cq, eq, _⟩ := parts_own hq (bound_meet la lb).2.1
  subst eq
  have O7_q : Hid (w7.ownsRow M 27 3 (.slice xq (meetR la lb).length cq) (meetR la lb).length (allCells (meetR la lb))) := hq
  clear hq
  have I_q : Hid (Iv (.slice xq (meetR la lb).length cq) M w7.heap.size) := iv_own O7_q.out
  have P7_a : Hid (PartsAt w7 w7.heap.size a la) := HA.out.here HE7.out (Nat.le_refl _)
  go_wp2_with fail
  refine (same_own (some ⟨gx, 0, none⟩) a (la.length + 3) ca _ (parts_of O7_x.out BA.out) P7_a.out).mono ?_
  rintro e w8 ⟨rfl, hb⟩
  have HE8 : Hid (Below w.heap.size w w8) := HE7.out.trans (hb.mono HE7.out.size)
  have z8 := hb.size
  have O8_x : Hid (w8.ownsRow w1.heap.size 27 3 (.slice (some ⟨gx, 0, none⟩) (la).length (la.length + 3)) (la).length (allCells (la))) := own_belowO O7_x.out hb (Nat.le_refl _)
  have O8_y : Hid (w8.ownsRow w3.heap.size 27 3 (.slice (some ⟨gy, 0, none⟩) (lb).length (lb.length + 3)) (lb).length (allCells (lb))) := own_belowO O7_y.out hb (Nat.le_refl _)
  have O8_n : Hid (w8.ownsRow w4.heap.size 27 3 (.slice xn (normL la).length cn) (normL la).length (allCells (normL la))) := own_belowO O7_n.out hb (Nat.le_refl _)
  have O8_d : Hid (w8.ownsRow w5.heap.size 27 3 (.slice xd (compR la lb).length cd) (compR la lb).length (allCells (compR la lb))) := own_belowO O7_d.out hb (Nat.le_refl _)
  have O8_p : Hid (w8.ownsRow w6.heap.size 27 3 (.slice xp (meetL la lb).length cp) (meetL la lb).length (allCells (meetL la lb))) := own_belowO O7_p.out hb (Nat.le_refl _)
  have O8_q : Hid (w8.ownsRow M 27 3 (.slice xq (meetR la lb).length cq) (meetR la lb).length (allCells (meetR la lb))) := own_belowO O7_q.out hb (Nat.le_refl _)
  have K8_x : Hid (w8.heap[gx]? = some (.cells curx 27 (0, 0))) := (hb.block gx (lt_of_heap K7_x.out)).trans K7_x.out
  have K8_y : Hid (w8.heap[gy]? = some (.cells cury 27 (0, 0))) := (hb.block gy (lt_of_heap K7_y.out)).trans K7_y.out
  clear hb
  have P8_b : Hid (PartsAt w8 w8.heap.size b lb) := HB.out.here HE8.out (Nat.le_refl _)
  go_wp2_with fail
  refine (same_own (some ⟨gy, 0, none⟩) b (lb.length + 3) cb _ (parts_of O8_y.out BB.out) P8_b.out).mono ?_
  rintro e w9 ⟨rfl, hb⟩
  have HE9 : Hid (Below w.heap.size w w9) := HE8.out.trans (hb.mono HE8.out.size)
  have z9 := hb.size
  have O9_x : Hid (w9.ownsRow w1.heap.size 27 3 (.slice (some ⟨gx, 0, none⟩) (la).length (la.length + 3)) (la).length (allCells (la))) := own_belowO O8_x.out hb (Nat.le_refl _)
  have O9_y : Hid (w9.ownsRow w3.heap.size 27 3 (.slice (some ⟨gy, 0, none⟩) (lb).length (lb.length + 3)) (lb).length (allCells (lb))) := own_belowO O8_y.out hb (Nat.le_refl _)
  have O9_n : Hid (w9.ownsRow w4.heap.size 27 3 (.slice xn (normL la).length cn) (normL la).length (allCells (normL la))) := own_belowO O8_n.out hb (Nat.le_refl _)
  have O9_d : Hid (w9.ownsRow w5.heap.size 27 3 (.slice xd (compR la lb).length cd) (compR la lb).length (allCells (compR la lb))) := own_belowO O8_d.out hb (Nat.le_refl _)
  have O9_p : Hid (w9.ownsRow w6.heap.size 27 3 (.slice xp (meetL la lb).length cp) (meetL la lb).length (allCells (meetL la lb))) := own_belowO O8_p.out hb (Nat.le_refl _)
  have O9_q : Hid (w9.ownsRow M 27 3 (.slice xq (meetR la lb).length cq) (meetR la lb).length (allCells (meetR la lb))) := own_belowO O8_q.out hb (Nat.le_refl _)
  have K9_x : Hid (w9.heap[gx]? = some (.cells curx 27 (0, 0))) := (hb.block gx (lt_of_heap K8_x.out)).trans K8_x.out
  have K9_y : Hid (w9.heap[gy]? = some (.cells cury 27 (0, 0))) := (hb.block gy (lt_of_heap K8_y.out)).trans K8_y.out
  clear hb
  go_wp2_with fail
  refine (filled_any gx la.length curx _ K9_x.out (by omega) F_x.out).mono ?_
  rintro e w10 ⟨rfl, hb⟩
  have HE10 : Hid (Below w.heap.size w w10) := HE9.out.trans (hb.mono HE9.out.size)
  have z10 := hb.size
  have O10_x : Hid (w10.ownsRow w1.heap.size 27 3 (.slice (some ⟨gx, 0, none⟩) (la).length (la.length + 3)) (la).length (allCells (la))) := own_belowO O9_x.out hb (Nat.le_refl _)
  have O10_y : Hid (w10.ownsRow w3.heap.size 27 3 (.slice (some ⟨gy, 0, none⟩) (lb).length (lb.length + 3)) (lb).length (allCells (lb))) := own_belowO O9_y.out hb (Nat.le_refl _)
  have O10_n : Hid (w10.ownsRow w4.heap.size 27 3 (.slice xn (normL la).length cn) (normL la).length (allCells (normL la))) := own_belowO O9_n.out hb (Nat.le_refl _)
  have O10_d : Hid (w10.ownsRow w5.heap.size 27 3 (.slice xd (compR la lb).length cd) (compR la lb).length (allCells (compR la lb))) := own_belowO O9_d.out hb (Nat.le_refl _)
  have O10_p : Hid (w10.ownsRow w6.heap.size 27 3 (.slice xp (meetL la lb).length cp) (meetL la lb).length (allCells (meetL la lb))) := own_belowO O9_p.out hb (Nat.le_refl _)
  have O10_q : Hid (w10.ownsRow M 27 3 (.slice xq (meetR la lb).length cq) (meetR la lb).length (allCells (meetR la lb))) := own_belowO O9_q.out hb (Nat.le_refl _)
  have K10_x : Hid (w10.heap[gx]? = some (.cells curx 27 (0, 0))) := (hb.block gx (lt_of_heap K9_x.out)).trans K9_x.out
  have K10_y : Hid (w10.heap[gy]? = some (.cells cury 27 (0, 0))) := (hb.block gy (lt_of_heap K9_y.out)).trans K9_y.out
  clear hb
  go_wp2_with fail
  refine (filled_any gy lb.length cury _ K10_y.out (by omega) F_y.out).mono ?_
  rintro e w11 ⟨rfl, hb⟩
  have HE11 : Hid (Below w.heap.size w w11) := HE10.out.trans (hb.mono HE10.out.size)
  have z11 := hb.size
  have O11_x : Hid (w11.ownsRow w1.heap.size 27 3 (.slice (some ⟨gx, 0, none⟩) (la).length (la.length + 3)) (la).length (allCells (la))) := own_belowO O10_x.out hb (Nat.le_refl _)
  have O11_y : Hid (w11.ownsRow w3.heap.size 27 3 (.slice (some ⟨gy, 0, none⟩) (lb).length (lb.length + 3)) (lb).length (allCells (lb))) := own_belowO O10_y.out hb (Nat.le_refl _)
  have O11_n : Hid (w11.ownsRow w4.heap.size 27 3 (.slice xn (normL la).length cn) (normL la).length (allCells (normL la))) := own_belowO O10_n.out hb (Nat.le_refl _)
  have O11_d : Hid (w11.ownsRow w5.heap.size 27 3 (.slice xd (compR la lb).length cd) (compR la lb).length (allCells (compR la lb))) := own_belowO O10_d.out hb (Nat.le_refl _)
  have O11_p : Hid (w11.ownsRow w6.heap.size 27 3 (.slice xp (meetL la lb).length cp) (meetL la lb).length (allCells (meetL la lb))) := own_belowO O10_p.out hb (Nat.le_refl _)
  have O11_q : Hid (w11.ownsRow M 27 3 (.slice xq (meetR la lb).length cq) (meetR la lb).length (allCells (meetR la lb))) := own_belowO O10_q.out hb (Nat.le_refl _)
  have K11_x : Hid (w11.heap[gx]? = some (.cells curx 27 (0, 0))) := (hb.block gx (lt_of_heap K10_x.out)).trans K10_x.out
  have K11_y : Hid (w11.heap[gy]? = some (.cells cury 27 (0, 0))) := (hb.block gy (lt_of_heap K10_y.out)).trans K10_y.out
  clear hb
  have HE12 : Hid (Below w.heap.size w (w11.alloc (.cells #[.slice xn (normL la).length cn, .slice xd (compR la lb).length cd, .slice xp (meetL la lb).length cp, .slice xq (meetR la lb).length cq] 22))) := HE11.out.alloc HE11.out.size _
  have O12_x : Hid ((w11.alloc (.cells #[.slice xn (normL la).length cn, .slice xd (compR la lb).length cd, .slice xp (meetL la lb).length cp, .slice xq (meetR la lb).length cq] 22)).ownsRow w1.heap.size 27 3 (.slice (some ⟨gx, 0, none⟩) (la).length (la.length + 3)) (la).length (allCells (la))) := own_alloc O11_x.out _
  have O12_y : Hid ((w11.alloc (.cells #[.slice xn (normL la).length cn, .slice xd (compR la lb).length cd, .slice xp (meetL la lb).length cp, .slice xq (meetR la lb).length cq] 22)).ownsRow w3.heap.size 27 3 (.slice (some ⟨gy, 0, none⟩) (lb).length (lb.length + 3)) (lb).length (allCells (lb))) := own_alloc O11_y.out _
  have O12_n : Hid ((w11.alloc (.cells #[.slice xn (normL la).length cn, .slice xd (compR la lb).length cd, .slice xp (meetL la lb).length cp, .slice xq (meetR la lb).length cq] 22)).ownsRow w4.heap.size 27 3 (.slice xn (normL la).length cn) (normL la).length (allCells (normL la))) := own_alloc O11_n.out _
  have O12_d : Hid ((w11.alloc (.cells #[.slice xn (normL la).length cn, .slice xd (compR la lb).length cd, .slice xp (meetL la lb).length cp, .slice xq (meetR la lb).length cq] 22)).ownsRow w5.heap.size 27 3 (.slice xd (compR la lb).length cd) (compR la lb).length (allCells (compR la lb))) := own_alloc O11_d.out _
  have O12_p : Hid ((w11.alloc (.cells #[.slice xn (normL la).length cn, .slice xd (compR la lb).length cd, .slice xp (meetL la lb).length cp, .slice xq (meetR la lb).length cq] 22)).ownsRow w6.heap.size 27 3 (.slice xp (meetL la lb).length cp) (meetL la lb).length (allCells (meetL la lb))) := own_alloc O11_p.out _
  have O12_q : Hid ((w11.alloc (.cells #[.slice xn (normL la).length cn, .slice xd (compR la lb).length cd, .slice xp (meetL la lb).length cp, .slice xq (meetR la lb).length cq] 22)).ownsRow M 27 3 (.slice xq (meetR la lb).length cq) (meetR la lb).length (allCells (meetR la lb))) := own_alloc O11_q.out _
  have K12_all : Hid ((w11.alloc (.cells #[.slice xn (normL la).length cn, .slice xd (compR la lb).length cd, .slice xp (meetL la lb).length cp, .slice xq (meetR la lb).length cq] 22)).heap[w11.heap.size]? = some (.cells #[.slice xn (normL la).length cn, .slice xd (compR la lb).length cd, .slice xp (meetL la lb).length cp, .slice xq (meetR la lb).length cq] 22 (0, 0))) := Deep.blk_alloc_new _ _
  have zz12 : (w11.alloc (.cells #[.slice xn (normL la).length cn, .slice xd (compR la lb).length cd, .slice xp (meetL la lb).length cp, .slice xq (meetR la lb).length cq] 22)).heap.size = w11.heap.size + 1 := Deep.nblk_alloc _ _
  have WN12 : Hid ((w11.alloc (.cells #[.slice xn (normL la).length cn, .slice xd (compR la lb).length cd, .slice xp (meetL la lb).length cp, .slice xq (meetR la lb).length cq] 22)).ownsRow (w11.heap.size + 1) 22 1 (.slice none 0 0) 0 []) := World.ownsRow_nil _ _ _ _
  go_wp2_with fail
  refine wp_loop_rounds 5 ?_
  rw [rounds_succ]
  go_wp2_with fail
  refine (clone_any w4.heap.size (.slice xn (normL la).length cn) (normL la) _ O12_n.out (bound_norm la).1 (bound_norm la).2).mono ?_
  rintro e w13 ⟨vc, rfl, ho, hb⟩
  have HE13 : Hid (Below w.heap.size w w13) := HE12.out.trans (hb.mono HE12.out.size)
  have z13 := hb.size
  have O13_x : Hid (w13.ownsRow w1.heap.size 27 3 (.slice (some ⟨gx, 0, none⟩) (la).length (la.length + 3)) (la).length (allCells (la))) := own_belowO O12_x.out hb (Nat.le_refl _)
  have O13_y : Hid (w13.ownsRow w3.heap.size 27 3 (.slice (some ⟨gy, 0, none⟩) (lb).length (lb.length + 3)) (lb).length (allCells (lb))) := own_belowO O12_y.out hb (Nat.le_refl _)
  have O13_n : Hid (w13.ownsRow w4.heap.size 27 3 (.slice xn (normL la).length cn) (normL la).length (allCells (normL la))) := own_belowO O12_n.out hb (Nat.le_refl _)
  have O13_d : Hid (w13.ownsRow w5.heap.size 27 3 (.slice xd (compR la lb).length cd) (compR la lb).length (allCells (compR la lb))) := own_belowO O12_d.out hb (Nat.le_refl _)
  have O13_p : Hid (w13.ownsRow w6.heap.size 27 3 (.slice xp (meetL la lb).length cp) (meetL la lb).length (allCells (meetL la lb))) := own_belowO O12_p.out hb (Nat.le_refl _)
  have O13_q : Hid (w13.ownsRow M 27 3 (.slice xq (meetR la lb).length cq) (meetR la lb).length (allCells (meetR la lb))) := own_belowO O12_q.out hb (Nat.le_refl _)
  have K13_all : Hid (w13.heap[w11.heap.size]? = some (.cells #[.slice xn (normL la).length cn, .slice xd (compR la lb).length cd, .slice xp (meetL la lb).length cp, .slice xq (meetR la lb).length cq] 22 (0, 0))) := (hb.block w11.heap.size (lt_of_heap K12_all.out)).trans K12_all.out
  have WN13 : Hid (w13.ownsRow (w11.heap.size + 1) 22 1 (.slice none 0 0) 0 []) := own_belowO WN12.out hb (Nat.le_refl _)
  clear hb
  obtain ⟨xk0, ck0, ek0, _⟩ := parts_own ho (bound_norm la).1
  subst ek0
  have O13_k0 : Hid (w13.ownsRow (w11.alloc (.cells #[.slice xn (normL la).length cn, .slice xd (compR la lb).length cd, .slice xp (meetL la lb).length cp, .slice xq (meetR la lb).length cq] 22)).heap.size 27 3 (.slice xk0 (normL la).length ck0) (normL la).length (allCells (normL la))) := ho
  clear ho
  have I_k0 : Hid (Iv (.slice xk0 (normL la).length ck0) (w11.alloc (.cells #[.slice xn (normL la).length cn, .slice xd (compR la lb).length cd, .slice xp (meetL la lb).length cp, .slice xq (meetR la lb).length cq] 22)).heap.size w13.heap.size) := iv_own O13_k0.out
  have hAs := own_alloc WN13.out (.cells #[.slice xk0 (normL la).length ck0] 22)
  have hNew := heap_alloc_new w13 (.cells #[.slice xk0 (normL la).length ck0] 22)
  go_wp2_with (at_builtin; refine wpList_append_own _ rfl _ _ 52 rfl (w11.heap.size + 1) 22 ip _ 1 24 Try.underlying52 hip hp0 hp1 hp2 rfl (by decide) _ _ _ rfl hAs ⟨w13.heap.size, 0, none⟩ 1 1 [.slice xk0 (normL la).length ck0] rfl rfl (World.news_of_block (cs := #[.slice xk0 (normL la).length ck0]) (t := 22) (fr := (0, 0)) hNew) (by simp [Value.oneCell']) ?d3 ?d4 ?d5 ?_)
  case d3 => unfold maxLen; omega
  case d4 => omega
  case d5 => simp only [Deep.nblk_alloc]; omega
  intro vw w14 hown hgr _
  obtain ⟨ow0, cw0, ew⟩ := slice_form' hown
  subst ew
  have HE14 : Hid (Below w.heap.size w w14) := below_own' (HE13.out.alloc HE13.out.size _) (own_base hAs (by have := HE13.out.size; omega)) hgr (by have := HE13.out.size; simp only [Deep.nblk_alloc]; omega)
  have z14 : w13.heap.size ≤ w14.heap.size := by have := hgr.size; simp only [Deep.nblk_alloc] at this; omega
  have O14_x : Hid (w14.ownsRow w1.heap.size 27 3 (.slice (some ⟨gx, 0, none⟩) (la).length (la.length + 3)) (la).length (allCells (la))) := (own_alloc O13_x.out (.cells #[.slice xk0 (normL la).length ck0] 22)).kept hgr (own_ne3 O13_x.out WN13.out (by decide))
  have O14_y : Hid (w14.ownsRow w3.heap.size 27 3 (.slice (some ⟨gy, 0, none⟩) (lb).length (lb.length + 3)) (lb).length (allCells (lb))) := (own_alloc O13_y.out (.cells #[.slice xk0 (normL la).length ck0] 22)).kept hgr (own_ne3 O13_y.out WN13.out (by decide))
  have O14_n : Hid (w14.ownsRow w4.heap.size 27 3 (.slice xn (normL la).length cn) (normL la).length (allCells (normL la))) := (own_alloc O13_n.out (.cells #[.slice xk0 (normL la).length ck0] 22)).kept hgr (own_ne3 O13_n.out WN13.out (by decide))
  have O14_d : Hid (w14.ownsRow w5.heap.size 27 3 (.slice xd (compR la lb).length cd) (compR la lb).length (allCells (compR la lb))) := (own_alloc O13_d.out (.cells #[.slice xk0 (normL la).length ck0] 22)).kept hgr (own_ne3 O13_d.out WN13.out (by decide))
  have O14_p : Hid (w14.ownsRow w6.heap.size 27 3 (.slice xp (meetL la lb).length cp) (meetL la lb).length (allCells (meetL la lb))) := (own_alloc O13_p.out (.cells #[.slice xk0 (normL la).length ck0] 22)).kept hgr (own_ne3 O13_p.out WN13.out (by decide))
  have O14_q : Hid (w14.ownsRow M 27 3 (.slice xq (meetR la lb).length cq) (meetR la lb).length (allCells (meetR la lb))) := (own_alloc O13_q.out (.cells #[.slice xk0 (normL la).length ck0] 22)).kept hgr (own_ne3 O13_q.out WN13.out (by decide))
  have O14_k0 : Hid (w14.ownsRow (w11.alloc (.cells #[.slice xn (normL la).length cn, .slice xd (compR la lb).length cd, .slice xp (meetL la lb).length cp, .slice xq (meetR la lb).length cq] 22)).heap.size 27 3 (.slice xk0 (normL la).length ck0) (normL la).length (allCells (normL la))) := (own_alloc O13_k0.out (.cells #[.slice xk0 (normL la).length ck0] 22)).kept hgr (own_ne3 O13_k0.out WN13.out (by decide))
  have K14_all : Hid (w14.heap[w11.heap.size]? = some (.cells #[.slice xn (normL la).length cn, .slice xd (compR la lb).length cd, .slice xp (meetL la lb).length cp, .slice xq (meetR la lb).length cq] 22 (0, 0))) := (hgr.block w11.heap.size (by simp only [Deep.nblk_alloc]; have := lt_of_heap K13_all.out; omega) (fun e => by have := (WN13.out.lt _ e.symm).1; omega)).trans ((Deep.blk_alloc_lt _ _ _ (lt_of_heap K13_all.out)).trans K13_all.out)
  have WN14 : Hid (w14.ownsRow (w11.heap.size + 1) 22 1 (.slice ow0 1 cw0) 1 [.slice xk0 (normL la).length ck0]) := by
    show World.ownsRow _ _ _ _ _ _ _
    simpa using hown
  clear hown hgr hAs hNew
  go_wp2_with fail
  rw [rounds_succ]
  have al14 : w14.cell? ⟨w11.heap.size, 1, none⟩ = some (.slice xd (compR la lb).length cd) := by rw [cell_of_row _ _ _ _ _ _ K14_all.out]; rfl
  go_wp2_with fail
  refine (clone_any w5.heap.size (.slice xd (compR la lb).length cd) (compR la lb) _ O14_d.out (bound_comp la lb).1 (bound_comp la lb).2).mono ?_
  rintro e w15 ⟨vc, rfl, ho, hb⟩
  have HE15 : Hid (Below w.heap.size w w15) := HE14.out.trans (hb.mono HE14.out.size)
  have z15 := hb.size
  have O15_x : Hid (w15.ownsRow w1.heap.size 27 3 (.slice (some ⟨gx, 0, none⟩) (la).length (la.length + 3)) (la).length (allCells (la))) := own_belowO O14_x.out hb (Nat.le_refl _)
  have O15_y : Hid (w15.ownsRow w3.heap.size 27 3 (.slice (some ⟨gy, 0, none⟩) (lb).length (lb.length + 3)) (lb).length (allCells (lb))) := own_belowO O14_y.out hb (Nat.le_refl _)
  have O15_n : Hid (w15.ownsRow w4.heap.size 27 3 (.slice xn (normL la).length cn) (normL la).length (allCells (normL la))) := own_belowO O14_n.out hb (Nat.le_refl _)
  have O15_d : Hid (w15.ownsRow w5.heap.size 27 3 (.slice xd (compR la lb).length cd) (compR la lb).length (allCells (compR la lb))) := own_belowO O14_d.out hb (Nat.le_refl _)
  have O15_p : Hid (w15.ownsRow w6.heap.size 27 3 (.slice xp (meetL la lb).length cp) (meetL la lb).length (allCells (meetL la lb))) := own_belowO O14_p.out hb (Nat.le_refl _)
  have O15_q : Hid (w15.ownsRow M 27 3 (.slice xq (meetR la lb).length cq) (meetR la lb).length (allCells (meetR la lb))) := own_belowO O14_q.out hb (Nat.le_refl _)
  have O15_k0 : Hid (w15.ownsRow (w11.alloc (.cells #[.slice xn (normL la).length cn, .slice xd (compR la lb).length cd, .slice xp (meetL la lb).length cp, .slice xq (meetR la lb).length cq] 22)).heap.size 27 3 (.slice xk0 (normL la).length ck0) (normL la).length (allCells (normL la))) := own_belowO O14_k0.out hb (Nat.le_refl _)
  have K15_all : Hid (w15.heap[w11.heap.size]? = some (.cells #[.slice xn (normL la).length cn, .slice xd (compR la lb).length cd, .slice xp (meetL la lb).length cp, .slice xq (meetR la lb).length cq] 22 (0, 0))) := (hb.block w11.heap.size (lt_of_heap K14_all.out)).trans K14_all.out
  have WN15 : Hid (w15.ownsRow (w11.heap.size + 1) 22 1 (.slice ow0 1 cw0) 1 [.slice xk0 (normL la).length ck0]) := own_belowO WN14.out hb (Nat.le_refl _)
  clear hb
  obtain ⟨xk1, ck1, ek1, _⟩ := parts_own ho (bound_comp la lb).1
  subst ek1
  have O15_k1 : Hid (w15.ownsRow w14.heap.size 27 3 (.slice xk1 (compR la lb).length ck1) (compR la lb).length (allCells (compR la lb))) := ho
  clear ho
  have I_k1 : Hid (Iv (.slice xk1 (compR la lb).length ck1) w14.heap.size w15.heap.size) := iv_own O15_k1.out
  have hAs := own_alloc WN15.out (.cells #[.slice xk1 (compR la lb).length ck1] 22)
  have hNew := heap_alloc_new w15 (.cells #[.slice xk1 (compR la lb).length ck1] 22)
  go_wp2_with (at_builtin; refine wpList_append_own _ rfl _ _ 52 rfl (w11.heap.size + 1) 22 ip _ 1 24 Try.underlying52 hip hp0 hp1 hp2 rfl (by decide) _ _ _ rfl hAs ⟨w15.heap.size, 0, none⟩ 1 1 [.slice xk1 (compR la lb).length ck1] rfl rfl (World.news_of_block (cs := #[.slice xk1 (compR la lb).length ck1]) (t := 22) (fr := (0, 0)) hNew) (by simp [Value.oneCell']) ?d3 ?d4 ?d5 ?_)
  case d3 => unfold maxLen; omega
  case d4 => omega
  case d5 => simp only [Deep.nblk_alloc]; omega
  intro vw w16 hown hgr _
  obtain ⟨ow1, cw1, ew⟩ := slice_form' hown
  subst ew
  have HE16 : Hid (Below w.heap.size w w16) := below_own' (HE15.out.alloc HE15.out.size _) (own_base hAs (by have := HE15.out.size; omega)) hgr (by have := HE15.out.size; simp only [Deep.nblk_alloc]; omega)
  have z16 : w15.heap.size ≤ w16.heap.size := by have := hgr.size; simp only [Deep.nblk_alloc] at this; omega
  have O16_x : Hid (w16.ownsRow w1.heap.size 27 3 (.slice (some ⟨gx, 0, none⟩) (la).length (la.length + 3)) (la).length (allCells (la))) := (own_alloc O15_x.out (.cells #[.slice xk1 (compR la lb).length ck1] 22)).kept hgr (own_ne3 O15_x.out WN15.out (by decide))
  have O16_y : Hid (w16.ownsRow w3.heap.size 27 3 (.slice (some ⟨gy, 0, none⟩) (lb).length (lb.length + 3)) (lb).length (allCells (lb))) := (own_alloc O15_y.out (.cells #[.slice xk1 (compR la lb).length ck1] 22)).kept hgr (own_ne3 O15_y.out WN15.out (by decide))
  have O16_n : Hid (w16.ownsRow w4.heap.size 27 3 (.slice xn (normL la).length cn) (normL la).length (allCells (normL la))) := (own_alloc O15_n.out (.cells #[.slice xk1 (compR la lb).length ck1] 22)).kept hgr (own_ne3 O15_n.out WN15.out (by decide))
  have O16_d : Hid (w16.ownsRow w5.heap.size 27 3 (.slice xd (compR la lb).length cd) (compR la lb).length (allCells (compR la lb))) := (own_alloc O15_d.out (.cells #[.slice xk1 (compR la lb).length ck1] 22)).kept hgr (own_ne3 O15_d.out WN15.out (by decide))
  have O16_p : Hid (w16.ownsRow w6.heap.size 27 3 (.slice xp (meetL la lb).length cp) (meetL la lb).length (allCells (meetL la lb))) := (own_alloc O15_p.out (.cells #[.slice xk1 (compR la lb).length ck1] 22)).kept hgr (own_ne3 O15_p.out WN15.out (by decide))
  have O16_q : Hid (w16.ownsRow M 27 3 (.slice xq (meetR la lb).length cq) (meetR la lb).length (allCells (meetR la lb))) := (own_alloc O15_q.out (.cells #[.slice xk1 (compR la lb).length ck1] 22)).kept hgr (own_ne3 O15_q.out WN15.out (by decide))
  have O16_k0 : Hid (w16.ownsRow (w11.alloc (.cells #[.slice xn (normL la).length cn, .slice xd (compR la lb).length cd, .slice xp (meetL la lb).length cp, .slice xq (meetR la lb).length cq] 22)).heap.size 27 3 (.slice xk0 (normL la).length ck0) (normL la).length (allCells (normL la))) := (own_alloc O15_k0.out (.cells #[.slice xk1 (compR la lb).length ck1] 22)).kept hgr (own_ne3 O15_k0.out WN15.out (by decide))
  have O16_k1 : Hid (w16.ownsRow w14.heap.size 27 3 (.slice xk1 (compR la lb).length ck1) (compR la lb).length (allCells (compR la lb))) := (own_alloc O15_k1.out (.cells #[.slice xk1 (compR la lb).length ck1] 22)).kept hgr (own_ne3 O15_k1.out WN15.out (by decide))
  have K16_all : Hid (w16.heap[w11.heap.size]? = some (.cells #[.slice xn (normL la).length cn, .slice xd (compR la lb).length cd, .slice xp (meetL la lb).length cp, .slice xq (meetR la lb).length cq] 22 (0, 0))) := (hgr.block w11.heap.size (by simp only [Deep.nblk_alloc]; have := lt_of_heap K15_all.out; omega) (fun e => by have := (WN15.out.lt _ e.symm).1; omega)).trans ((Deep.blk_alloc_lt _ _ _ (lt_of_heap K15_all.out)).trans K15_all.out)
  have WN16 : Hid (w16.ownsRow (w11.heap.size + 1) 22 1 (.slice ow1 2 cw1) 2 [.slice xk0 (normL la).length ck0, .slice xk1 (compR la lb).length ck1]) := by
    show World.ownsRow _ _ _ _ _ _ _
    simpa using hown
  clear hown hgr hAs hNew
  go_wp2_with fail
  rw [rounds_succ]
  have al16 : w16.cell? ⟨w11.heap.size, 2, none⟩ = some (.slice xp (meetL la lb).length cp) := by rw [cell_of_row _ _ _ _ _ _ K16_all.out]; rfl
  go_wp2_with fail
  refine (clone_any w6.heap.size (.slice xp (meetL la lb).length cp) (meetL la lb) _ O16_p.out (bound_meet la lb).1.1 (bound_meet la lb).1.2).mono ?_
  rintro e w17 ⟨vc, rfl, ho, hb⟩
  have HE17 : Hid (Below w.heap.size w w17) := HE16.out.trans (hb.mono HE16.out.size)
  have z17 := hb.size
  have O17_x : Hid (w17.ownsRow w1.heap.size 27 3 (.slice (some ⟨gx, 0, none⟩) (la).length (la.length + 3)) (la).length (allCells (la))) := own_belowO O16_x.out hb (Nat.le_refl _)
  have O17_y : Hid (w17.ownsRow w3.heap.size 27 3 (.slice (some ⟨gy, 0, none⟩) (lb).length (lb.length + 3)) (lb).length (allCells (lb))) := own_belowO O16_y.out hb (Nat.le_refl _)
  have O17_n : Hid (w17.ownsRow w4.heap.size 27 3 (.slice xn (normL la).length cn) (normL la).length (allCells (normL la))) := own_belowO O16_n.out hb (Nat.le_refl _)
  have O17_d : Hid (w17.ownsRow w5.heap.size 27 3 (.slice xd (compR la lb).length cd) (compR la lb).length (allCells (compR la lb))) := own_belowO O16_d.out hb (Nat.le_refl _)
  have O17_p : Hid (w17.ownsRow w6.heap.size 27 3 (.slice xp (meetL la lb).length cp) (meetL la lb).length (allCells (meetL la lb))) := own_belowO O16_p.out hb (Nat.le_refl _)
  have O17_q : Hid (w17.ownsRow M 27 3 (.slice xq (meetR la lb).length cq) (meetR la lb).length (allCells (meetR la lb))) := own_belowO O16_q.out hb (Nat.le_refl _)
  have O17_k0 : Hid (w17.ownsRow (w11.alloc (.cells #[.slice xn (normL la).length cn, .slice xd (compR la lb).length cd, .slice xp (meetL la lb).length cp, .slice xq (meetR la lb).length cq] 22)).heap.size 27 3 (.slice xk0 (normL la).length ck0) (normL la).length (allCells (normL la))) := own_belowO O16_k0.out hb (Nat.le_refl _)
  have O17_k1 : Hid (w17.ownsRow w14.heap.size 27 3 (.slice xk1 (compR la lb).length ck1) (compR la lb).length (allCells (compR la lb))) := own_belowO O16_k1.out hb (Nat.le_refl _)
  have K17_all : Hid (w17.heap[w11.heap.size]? = some (.cells #[.slice xn (normL la).length cn, .slice xd (compR la lb).length cd, .slice xp (meetL la lb).length cp, .slice xq (meetR la lb).length cq] 22 (0, 0))) := (hb.block w11.heap.size (lt_of_heap K16_all.out)).trans K16_all.out
  have WN17 : Hid (w17.ownsRow (w11.heap.size + 1) 22 1 (.slice ow1 2 cw1) 2 [.slice xk0 (normL la).length ck0, .slice xk1 (compR la lb).length ck1]) := own_belowO WN16.out hb (Nat.le_refl _)
  clear hb
  obtain ⟨xk2, ck2, ek2, _⟩ := parts_own ho (bound_meet la lb).1.1
  subst ek2
  have O17_k2 : Hid (w17.ownsRow w16.heap.size 27 3 (.slice xk2 (meetL la lb).length ck2) (meetL la lb).length (allCells (meetL la lb))) := ho
  clear ho
  have I_k2 : Hid (Iv (.slice xk2 (meetL la lb).length ck2) w16.heap.size w17.heap.size) := iv_own O17_k2.out
  have hAs := own_alloc WN17.out (.cells #[.slice xk2 (meetL la lb).length ck2] 22)
  have hNew := heap_alloc_new w17 (.cells #[.slice xk2 (meetL la lb).length ck2] 22)
  go_wp2_with (at_builtin; refine wpList_append_own _ rfl _ _ 52 rfl (w11.heap.size + 1) 22 ip _ 1 24 Try.underlying52 hip hp0 hp1 hp2 rfl (by decide) _ _ _ rfl hAs ⟨w17.heap.size, 0, none⟩ 1 1 [.slice xk2 (meetL la lb).length ck2] rfl rfl (World.news_of_block (cs := #[.slice xk2 (meetL la lb).length ck2]) (t := 22) (fr := (0, 0)) hNew) (by simp [Value.oneCell']) ?d3 ?d4 ?d5 ?_)
  case d3 => unfold maxLen; omega
  case d4 => omega
  case d5 => simp only [Deep.nblk_alloc]; omega
  intro vw w18 hown hgr _
  obtain ⟨ow2, cw2, ew⟩ := slice_form' hown
  subst ew
  have HE18 : Hid (Below w.heap.size w w18) := below_own' (HE17.out.alloc HE17.out.size _) (own_base hAs (by have := HE17.out.size; omega)) hgr (by have := HE17.out.size; simp only [Deep.nblk_alloc]; omega)
  have z18 : w17.heap.size ≤ w18.heap.size := by have := hgr.size; simp only [Deep.nblk_alloc] at this; omega
  have O18_x : Hid (w18.ownsRow w1.heap.size 27 3 (.slice (some ⟨gx, 0, none⟩) (la).length (la.length + 3)) (la).length (allCells (la))) := (own_alloc O17_x.out (.cells #[.slice xk2 (meetL la lb).length ck2] 22)).kept hgr (own_ne3 O17_x.out WN17.out (by decide))
  have O18_y : Hid (w18.ownsRow w3.heap.size 27 3 (.slice (some ⟨gy, 0, none⟩) (lb).length (lb.length + 3)) (lb).length (allCells (lb))) := (own_alloc O17_y.out (.cells #[.slice xk2 (meetL la lb).length ck2] 22)).kept hgr (own_ne3 O17_y.out WN17.out (by decide))
  have O18_n : Hid (w18.ownsRow w4.heap.size 27 3 (.slice xn (normL la).length cn) (normL la).length (allCells (normL la))) := (own_alloc O17_n.out (.cells #[.slice xk2 (meetL la lb).length ck2] 22)).kept hgr (own_ne3 O17_n.out WN17.out (by decide))
  have O18_d : Hid (w18.ownsRow w5.heap.size 27 3 (.slice xd (compR la lb).length cd) (compR la lb).length (allCells (compR la lb))) := (own_alloc O17_d.out (.cells #[.slice xk2 (meetL la lb).length ck2] 22)).kept hgr (own_ne3 O17_d.out WN17.out (by decide))
  have O18_p : Hid (w18.ownsRow w6.heap.size 27 3 (.slice xp (meetL la lb).length cp) (meetL la lb).length (allCells (meetL la lb))) := (own_alloc O17_p.out (.cells #[.slice xk2 (meetL la lb).length ck2] 22)).kept hgr (own_ne3 O17_p.out WN17.out (by decide))
  have O18_q : Hid (w18.ownsRow M 27 3 (.slice xq (meetR la lb).length cq) (meetR la lb).length (allCells (meetR la lb))) := (own_alloc O17_q.out (.cells #[.slice xk2 (meetL la lb).length ck2] 22)).kept hgr (own_ne3 O17_q.out WN17.out (by decide))
  have O18_k0 : Hid (w18.ownsRow (w11.alloc (.cells #[.slice xn (normL la).length cn, .slice xd (compR la lb).length cd, .slice xp (meetL la lb).length cp, .slice xq (meetR la lb).length cq] 22)).heap.size 27 3 (.slice xk0 (normL la).length ck0) (normL la).length (allCells (normL la))) := (own_alloc O17_k0.out (.cells #[.slice xk2 (meetL la lb).length ck2] 22)).kept hgr (own_ne3 O17_k0.out WN17.out (by decide))
  have O18_k1 : Hid (w18.ownsRow w14.heap.size 27 3 (.slice xk1 (compR la lb).length ck1) (compR la lb).length (allCells (compR la lb))) := (own_alloc O17_k1.out (.cells #[.slice xk2 (meetL la lb).length ck2] 22)).kept hgr (own_ne3 O17_k1.out WN17.out (by decide))
  have O18_k2 : Hid (w18.ownsRow w16.heap.size 27 3 (.slice xk2 (meetL la lb).length ck2) (meetL la lb).length (allCells (meetL la lb))) := (own_alloc O17_k2.out (.cells #[.slice xk2 (meetL la lb).length ck2] 22)).kept hgr (own_ne3 O17_k2.out WN17.out (by decide))
  have K18_all : Hid (w18.heap[w11.heap.size]? = some (.cells #[.slice xn (normL la).length cn, .slice xd (compR la lb).length cd, .slice xp (meetL la lb).length cp, .slice xq (meetR la lb).length cq] 22 (0, 0))) := (hgr.block w11.heap.size (by simp only [Deep.nblk_alloc]; have := lt_of_heap K17_all.out; omega) (fun e => by have := (WN17.out.lt _ e.symm).1; omega)).trans ((Deep.blk_alloc_lt _ _ _ (lt_of_heap K17_all.out)).trans K17_all.out)
  have WN18 : Hid (w18.ownsRow (w11.heap.size + 1) 22 1 (.slice ow2 3 cw2) 3 [.slice xk0 (normL la).length ck0, .slice xk1 (compR la lb).length ck1, .slice xk2 (meetL la lb).length ck2]) := by
    show World.ownsRow _ _ _ _ _ _ _
    simpa using hown
  clear hown hgr hAs hNew
  go_wp2_with fail
  rw [rounds_succ]
  have al18 : w18.cell? ⟨w11.heap.size, 3, none⟩ = some (.slice xq (meetR la lb).length cq) := by rw [cell_of_row _ _ _ _ _ _ K18_all.out]; rfl
  go_wp2_with fail
  refine (clone_any M (.slice xq (meetR la lb).length cq) (meetR la lb) _ O18_q.out (bound_meet la lb).2.1 (bound_meet la lb).2.2).mono ?_
  rintro e w19 ⟨vc, rfl, ho, hb⟩
  have HE19 : Hid (Below w.heap.size w w19) := HE18.out.trans (hb.mono HE18.out.size)
  have z19 := hb.size
  have O19_x : Hid (w19.ownsRow w1.heap.size 27 3 (.slice (some ⟨gx, 0, none⟩) (la).length (la.length + 3)) (la).length (allCells (la))) := own_belowO O18_x.out hb (Nat.le_refl _)
  have O19_y : Hid (w19.ownsRow w3.heap.size 27 3 (.slice (some ⟨gy, 0, none⟩) (lb).length (lb.length + 3)) (lb).length (allCells (lb))) := own_belowO O18_y.out hb (Nat.le_refl _)
  have O19_n : Hid (w19.ownsRow w4.heap.size 27 3 (.slice xn (normL la).length cn) (normL la).length (allCells (normL la))) := own_belowO O18_n.out hb (Nat.le_refl _)
  have O19_d : Hid (w19.ownsRow w5.heap.size 27 3 (.slice xd (compR la lb).length cd) (compR la lb).length (allCells (compR la lb))) := own_belowO O18_d.out hb (Nat.le_refl _)
  have O19_p : Hid (w19.ownsRow w6.heap.size 27 3 (.slice xp (meetL la lb).length cp) (meetL la lb).length (allCells (meetL la lb))) := own_belowO O18_p.out hb (Nat.le_refl _)
  have O19_q : Hid (w19.ownsRow M 27 3 (.slice xq (meetR la lb).length cq) (meetR la lb).length (allCells (meetR la lb))) := own_belowO O18_q.out hb (Nat.le_refl _)
  have O19_k0 : Hid (w19.ownsRow (w11.alloc (.cells #[.slice xn (normL la).length cn, .slice xd (compR la lb).length cd, .slice xp (meetL la lb).length cp, .slice xq (meetR la lb).length cq] 22)).heap.size 27 3 (.slice xk0 (normL la).length ck0) (normL la).length (allCells (normL la))) := own_belowO O18_k0.out hb (Nat.le_refl _)
  have O19_k1 : Hid (w19.ownsRow w14.heap.size 27 3 (.slice xk1 (compR la lb).length ck1) (compR la lb).length (allCells (compR la lb))) := own_belowO O18_k1.out hb (Nat.le_refl _)
  have O19_k2 : Hid (w19.ownsRow w16.heap.size 27 3 (.slice xk2 (meetL la lb).length ck2) (meetL la lb).length (allCells (meetL la lb))) := own_belowO O18_k2.out hb (Nat.le_refl _)
  have K19_all : Hid (w19.heap[w11.heap.size]? = some (.cells #[.slice xn (normL la).length cn, .slice xd (compR la lb).length cd, .slice xp (meetL la lb).length cp, .slice xq (meetR la lb).length cq] 22 (0, 0))) := (hb.block w11.heap.size (lt_of_heap K18_all.out)).trans K18_all.out
  have WN19 : Hid (w19.ownsRow (w11.heap.size + 1) 22 1 (.slice ow2 3 cw2) 3 [.slice xk0 (normL la).length ck0, .slice xk1 (compR la lb).length ck1, .slice xk2 (meetL la lb).length ck2]) := own_belowO WN18.out hb (Nat.le_refl _)
  clear hb
  obtain ⟨xk3, ck3, ek3, _⟩ := parts_own ho (bound_meet la lb).2.1
  subst ek3
  have O19_k3 : Hid (w19.ownsRow w18.heap.size 27 3 (.slice xk3 (meetR la lb).length ck3) (meetR la lb).length (allCells (meetR la lb))) := ho
  clear ho
  have I_k3 : Hid (Iv (.slice xk3 (meetR la lb).length ck3) w18.heap.size w19.heap.size) := iv_own O19_k3.out
  have hAs := own_alloc WN19.out (.cells #[.slice xk3 (meetR la lb).length ck3] 22)
  have hNew := heap_alloc_new w19 (.cells #[.slice xk3 (meetR la lb).length ck3] 22)
  go_wp2_with (at_builtin; refine wpList_append_own _ rfl _ _ 52 rfl (w11.heap.size + 1) 22 ip _ 1 24 Try.underlying52 hip hp0 hp1 hp2 rfl (by decide) _ _ _ rfl hAs ⟨w19.heap.size, 0, none⟩ 1 1 [.slice xk3 (meetR la lb).length ck3] rfl rfl (World.news_of_block (cs := #[.slice xk3 (meetR la lb).length ck3]) (t := 22) (fr := (0, 0)) hNew) (by simp [Value.oneCell']) ?d3 ?d4 ?d5 ?_)
  case d3 => unfold maxLen; omega
  case d4 => omega
  case d5 => simp only [Deep.nblk_alloc]; omega
  intro vw w20 hown hgr _
  obtain ⟨ow3, cw3, ew⟩ := slice_form' hown
  subst ew
  have HE20 : Hid (Below w.heap.size w w20) := below_own' (HE19.out.alloc HE19.out.size _) (own_base hAs (by have := HE19.out.size; omega)) hgr (by have := HE19.out.size; simp only [Deep.nblk_alloc]; omega)
  have z20 : w19.heap.size ≤ w20.heap.size := by have := hgr.size; simp only [Deep.nblk_alloc] at this; omega
  have O20_x : Hid (w20.ownsRow w1.heap.size 27 3 (.slice (some ⟨gx, 0, none⟩) (la).length (la.length + 3)) (la).length (allCells (la))) := (own_alloc O19_x.out (.cells #[.slice xk3 (meetR la lb).length ck3] 22)).kept hgr (own_ne3 O19_x.out WN19.out (by decide))
  have O20_y : Hid (w20.ownsRow w3.heap.size 27 3 (.slice (some ⟨gy, 0, none⟩) (lb).length (lb.length + 3)) (lb).length (allCells (lb))) := (own_alloc O19_y.out (.cells #[.slice xk3 (meetR la lb).length ck3] 22)).kept hgr (own_ne3 O19_y.out WN19.out (by decide))
  have O20_n : Hid (w20.ownsRow w4.heap.size 27 3 (.slice xn (normL la).length cn) (normL la).length (allCells (normL la))) := (own_alloc O19_n.out (.cells #[.slice xk3 (meetR la lb).length ck3] 22)).kept hgr (own_ne3 O19_n.out WN19.out (by decide))
  have O20_d : Hid (w20.ownsRow w5.heap.size 27 3 (.slice xd (compR la lb).length cd) (compR la lb).length (allCells (compR la lb))) := (own_alloc O19_d.out (.cells #[.slice xk3 (meetR la lb).length ck3] 22)).kept hgr (own_ne3 O19_d.out WN19.out (by decide))
  have O20_p : Hid (w20.ownsRow w6.heap.size 27 3 (.slice xp (meetL la lb).length cp) (meetL la lb).length (allCells (meetL la lb))) := (own_alloc O19_p.out (.cells #[.slice xk3 (meetR la lb).length ck3] 22)).kept hgr (own_ne3 O19_p.out WN19.out (by decide))
  have O20_q : Hid (w20.ownsRow M 27 3 (.slice xq (meetR la lb).length cq) (meetR la lb).length (allCells (meetR la lb))) := (own_alloc O19_q.out (.cells #[.slice xk3 (meetR la lb).length ck3] 22)).kept hgr (own_ne3 O19_q.out WN19.out (by decide))
  have O20_k0 : Hid (w20.ownsRow (w11.alloc (.cells #[.slice xn (normL la).length cn, .slice xd (compR la lb).length cd, .slice xp (meetL la lb).length cp, .slice xq (meetR la lb).length cq] 22)).heap.size 27 3 (.slice xk0 (normL la).length ck0) (normL la).length (allCells (normL la))) := (own_alloc O19_k0.out (.cells #[.slice xk3 (meetR la lb).length ck3] 22)).kept hgr (own_ne3 O19_k0.out WN19.out (by decide))
  have O20_k1 : Hid (w20.ownsRow w14.heap.size 27 3 (.slice xk1 (compR la lb).length ck1) (compR la lb).length (allCells (compR la lb))) := (own_alloc O19_k1.out (.cells #[.slice xk3 (meetR la lb).length ck3] 22)).kept hgr (own_ne3 O19_k1.out WN19.out (by decide))
  have O20_k2 : Hid (w20.ownsRow w16.heap.size 27 3 (.slice xk2 (meetL la lb).length ck2) (meetL la lb).length (allCells (meetL la lb))) := (own_alloc O19_k2.out (.cells #[.slice xk3 (meetR la lb).length ck3] 22)).kept hgr (own_ne3 O19_k2.out WN19.out (by decide))
  have O20_k3 : Hid (w20.ownsRow w18.heap.size 27 3 (.slice xk3 (meetR la lb).length ck3) (meetR la lb).length (allCells (meetR la lb))) := (own_alloc O19_k3.out (.cells #[.slice xk3 (meetR la lb).length ck3] 22)).kept hgr (own_ne3 O19_k3.out WN19.out (by decide))
  have K20_all : Hid (w20.heap[w11.heap.size]? = some (.cells #[.slice xn (normL la).length cn, .slice xd (compR la lb).length cd, .slice xp (meetL la lb).length cp, .slice xq (meetR la lb).length cq] 22 (0, 0))) := (hgr.block w11.heap.size (by simp only [Deep.nblk_alloc]; have := lt_of_heap K19_all.out; omega) (fun e => by have := (WN19.out.lt _ e.symm).1; omega)).trans ((Deep.blk_alloc_lt _ _ _ (lt_of_heap K19_all.out)).trans K19_all.out)
  have WN20 : Hid (w20.ownsRow (w11.heap.size + 1) 22 1 (.slice ow3 4 cw3) 4 [.slice xk0 (normL la).length ck0, .slice xk1 (compR la lb).length ck1, .slice xk2 (meetL la lb).length ck2, .slice xk3 (meetR la lb).length ck3]) := by
    show World.ownsRow _ _ _ _ _ _ _
    simpa using hown
  clear hown hgr hAs hNew
  go_wp2_with fail
  rw [rounds_succ]
  go_wp2_with fail
  refine (spoil_any w1.heap.size _ _ _ 7 _ O20_x.out).mono ?_
  rintro e w21 ⟨rfl, hgr⟩
  have HE21 : Hid (Below w.heap.size w w21) := HE20.out.grown hgr HE20.out.size (fun k hk => by have := (I_x.out k hk).1; omega)
  have z21 := hgr.size
  have O21_y : Hid (w21.ownsRow w3.heap.size 27 3 (.slice (some ⟨gy, 0, none⟩) (lb).length (lb.length + 3)) (lb).length (allCells (lb))) := O20_y.out.kept hgr (iv_ne I_y.out I_x.out (by omega))
  have O21_n : Hid (w21.ownsRow w4.heap.size 27 3 (.slice xn (normL la).length cn) (normL la).length (allCells (normL la))) := O20_n.out.kept hgr (iv_ne I_n.out I_x.out (by omega))
  have O21_d : Hid (w21.ownsRow w5.heap.size 27 3 (.slice xd (compR la lb).length cd) (compR la lb).length (allCells (compR la lb))) := O20_d.out.kept hgr (iv_ne I_d.out I_x.out (by omega))
  have O21_p : Hid (w21.ownsRow w6.heap.size 27 3 (.slice xp (meetL la lb).length cp) (meetL la lb).length (allCells (meetL la lb))) := O20_p.out.kept hgr (iv_ne I_p.out I_x.out (by omega))
  have O21_q : Hid (w21.ownsRow M 27 3 (.slice xq (meetR la lb).length cq) (meetR la lb).length (allCells (meetR la lb))) := O20_q.out.kept hgr (iv_ne I_q.out I_x.out (by omega))
  have O21_k0 : Hid (w21.ownsRow (w11.alloc (.cells #[.slice xn (normL la).length cn, .slice xd (compR la lb).length cd, .slice xp (meetL la lb).length cp, .slice xq (meetR la lb).length cq] 22)).heap.size 27 3 (.slice xk0 (normL la).length ck0) (normL la).length (allCells (normL la))) := O20_k0.out.kept hgr (iv_ne I_k0.out I_x.out (by omega))
  have O21_k1 : Hid (w21.ownsRow w14.heap.size 27 3 (.slice xk1 (compR la lb).length ck1) (compR la lb).length (allCells (compR la lb))) := O20_k1.out.kept hgr (iv_ne I_k1.out I_x.out (by omega))
  have O21_k2 : Hid (w21.ownsRow w16.heap.size 27 3 (.slice xk2 (meetL la lb).length ck2) (meetL la lb).length (allCells (meetL la lb))) := O20_k2.out.kept hgr (iv_ne I_k2.out I_x.out (by omega))
  have O21_k3 : Hid (w21.ownsRow w18.heap.size 27 3 (.slice xk3 (meetR la lb).length ck3) (meetR la lb).length (allCells (meetR la lb))) := O20_k3.out.kept hgr (iv_ne I_k3.out I_x.out (by omega))
  have K21_all : Hid (w21.heap[w11.heap.size]? = some (.cells #[.slice xn (normL la).length cn, .slice xd (compR la lb).length cd, .slice xp (meetL la lb).length cp, .slice xq (meetR la lb).length cq] 22 (0, 0))) := (hgr.block w11.heap.size (lt_of_heap K20_all.out) (fun e => own_ne' O20_x.out K20_all.out (by decide) e.symm)).trans K20_all.out
  have WN21 : Hid (w21.ownsRow (w11.heap.size + 1) 22 1 (.slice ow3 4 cw3) 4 [.slice xk0 (normL la).length ck0, .slice xk1 (compR la lb).length ck1, .slice xk2 (meetL la lb).length ck2, .slice xk3 (meetR la lb).length ck3]) := WN20.out.kept hgr (own_ne3 WN20.out O20_x.out (by decide))
  clear hgr
  go_wp2_with fail
  refine (spoil_any w3.heap.size _ _ _ 8 _ O21_y.out).mono ?_
  rintro e w22 ⟨rfl, hgr⟩
  have HE22 : Hid (Below w.heap.size w w22) := HE21.out.grown hgr HE21.out.size (fun k hk => by have := (I_y.out k hk).1; omega)
  have z22 := hgr.size
  have O22_n : Hid (w22.ownsRow w4.heap.size 27 3 (.slice xn (normL la).length cn) (normL la).length (allCells (normL la))) := O21_n.out.kept hgr (iv_ne I_n.out I_y.out (by omega))
  have O22_d : Hid (w22.ownsRow w5.heap.size 27 3 (.slice xd (compR la lb).length cd) (compR la lb).length (allCells (compR la lb))) := O21_d.out.kept hgr (iv_ne I_d.out I_y.out (by omega))
  have O22_p : Hid (w22.ownsRow w6.heap.size 27 3 (.slice xp (meetL la lb).length cp) (meetL la lb).length (allCells (meetL la lb))) := O21_p.out.kept hgr (iv_ne I_p.out I_y.out (by omega))
  have O22_q : Hid (w22.ownsRow M 27 3 (.slice xq (meetR la lb).length cq) (meetR la lb).length (allCells (meetR la lb))) := O21_q.out.kept hgr (iv_ne I_q.out I_y.out (by omega))
  have O22_k0 : Hid (w22.ownsRow (w11.alloc (.cells #[.slice xn (normL la).length cn, .slice xd (compR la lb).length cd, .slice xp (meetL la lb).length cp, .slice xq (meetR la lb).length cq] 22)).heap.size 27 3 (.slice xk0 (normL la).length ck0) (normL la).length (allCells (normL la))) := O21_k0.out.kept hgr (iv_ne I_k0.out I_y.out (by omega))
  have O22_k1 : Hid (w22.ownsRow w14.heap.size 27 3 (.slice xk1 (compR la lb).length ck1) (compR la lb).length (allCells (compR la lb))) := O21_k1.out.kept hgr (iv_ne I_k1.out I_y.out (by omega))
  have O22_k2 : Hid (w22.ownsRow w16.heap.size 27 3 (.slice xk2 (meetL la lb).length ck2) (meetL la lb).length (allCells (meetL la lb))) := O21_k2.out.kept hgr (iv_ne I_k2.out I_y.out (by omega))
  have O22_k3 : Hid (w22.ownsRow w18.heap.size 27 3 (.slice xk3 (meetR la lb).length ck3) (meetR la lb).length (allCells (meetR la lb))) := O21_k3.out.kept hgr (iv_ne I_k3.out I_y.out (by omega))
  have K22_all : Hid (w22.heap[w11.heap.size]? = some (.cells #[.slice xn (normL la).length cn, .slice xd (compR la lb).length cd, .slice xp (meetL la lb).length cp, .slice xq (meetR la lb).length cq] 22 (0, 0))) := (hgr.block w11.heap.size (lt_of_heap K21_all.out) (fun e => own_ne' O21_y.out K21_all.out (by decide) e.symm)).trans K21_all.out
  have WN22 : Hid (w22.ownsRow (w11.heap.size + 1) 22 1 (.slice ow3 4 cw3) 4 [.slice xk0 (normL la).length ck0, .slice xk1 (compR la lb).length ck1, .slice xk2 (meetL la lb).length ck2, .slice xk3 (meetR la lb).length ck3]) := WN21.out.kept hgr (own_ne3 WN21.out O21_y.out (by decide))
  clear hgr
  go_wp2_with fail
  refine wp_loop_rounds 5 ?_
  rw [rounds_succ]
  have al22 : w22.cell? ⟨w11.heap.size, 0, none⟩ = some (.slice xn (normL la).length cn) := by rw [cell_of_row _ _ _ _ _ _ K22_all.out]; rfl
  have hgl22 := lt_of_heap K22_all.out
  obtain ⟨gw0, egw0, wa22, hgw22⟩ := want_at WN22.out (j := 0) (u := (.slice xk0 (normL la).length ck0)) rfl
  subst egw0
  go_wp2_with fail
  refine (same_own xn xk0 cn ck0 _ (parts_of O22_n.out (bound_norm la).1) (parts_of O22_k0.out (bound_norm la).1)).mono ?_
  rintro e w23 ⟨rfl, hb⟩
  have HE23 : Hid (Below w.heap.size w w23) := HE22.out.trans (hb.mono HE22.out.size)
  have z23 := hb.size
  have O23_n : Hid (w23.ownsRow w4.heap.size 27 3 (.slice xn (normL la).length cn) (normL la).length (allCells (normL la))) := own_belowO O22_n.out hb (Nat.le_refl _)
  have O23_d : Hid (w23.ownsRow w5.heap.size 27 3 (.slice xd (compR la lb).length cd) (compR la lb).length (allCells (compR la lb))) := own_belowO O22_d.out hb (Nat.le_refl _)
  have O23_p : Hid (w23.ownsRow w6.heap.size 27 3 (.slice xp (meetL la lb).length cp) (meetL la lb).length (allCells (meetL la lb))) := own_belowO O22_p.out hb (Nat.le_refl _)
  have O23_q : Hid (w23.ownsRow M 27 3 (.slice xq (meetR la lb).length cq) (meetR la lb).length (allCells (meetR la lb))) := own_belowO O22_q.out hb (Nat.le_refl _)
  have O23_k0 : Hid (w23.ownsRow (w11.alloc (.cells #[.slice xn (normL la).length cn, .slice xd (compR la lb).length cd, .slice xp (meetL la lb).length cp, .slice xq (meetR la lb).length cq] 22)).heap.size 27 3 (.slice xk0 (normL la).length ck0) (normL la).length (allCells (normL la))) := own_belowO O22_k0.out hb (Nat.le_refl _)
  have O23_k1 : Hid (w23.ownsRow w14.heap.size 27 3 (.slice xk1 (compR la lb).length ck1) (compR la lb).length (allCells (compR la lb))) := own_belowO O22_k1.out hb (Nat.le_refl _)
  have O23_k2 : Hid (w23.ownsRow w16.heap.size 27 3 (.slice xk2 (meetL la lb).length ck2) (meetL la lb).length (allCells (meetL la lb))) := own_belowO O22_k2.out hb (Nat.le_refl _)
  have O23_k3 : Hid (w23.ownsRow w18.heap.size 27 3 (.slice xk3 (meetR la lb).length ck3) (meetR la lb).length (allCells (meetR la lb))) := own_belowO O22_k3.out hb (Nat.le_refl _)
  have K23_all : Hid (w23.heap[w11.heap.size]? = some (.cells #[.slice xn (normL la).length cn, .slice xd (compR la lb).length cd, .slice xp (meetL la lb).length cp, .slice xq (meetR la lb).length cq] 22 (0, 0))) := (hb.block w11.heap.size (lt_of_heap K22_all.out)).trans K22_all.out
  have WN23 : Hid (w23.ownsRow (w11.heap.size + 1) 22 1 (.slice (some ⟨gw0, 0, none⟩) 4 cw3) 4 [.slice xk0 (normL la).length ck0, .slice xk1 (compR la lb).length ck1, .slice xk2 (meetL la lb).length ck2, .slice xk3 (meetR la lb).length ck3]) := own_belowO WN22.out hb (Nat.le_refl _)
  clear hb
  have hgl23 := lt_of_heap K23_all.out
  go_wp2_with fail
  refine (spoil_any w4.heap.size _ _ _ 5 _ O23_n.out).mono ?_
  rintro e w24 ⟨rfl, hgr⟩
  have HE24 : Hid (Below w.heap.size w w24) := HE23.out.grown hgr HE23.out.size (fun k hk => by have := (I_n.out k hk).1; omega)
  have z24 := hgr.size
  have O24_d : Hid (w24.ownsRow w5.heap.size 27 3 (.slice xd (compR la lb).length cd) (compR la lb).length (allCells (compR la lb))) := O23_d.out.kept hgr (iv_ne I_d.out I_n.out (by omega))
  have O24_p : Hid (w24.ownsRow w6.heap.size 27 3 (.slice xp (meetL la lb).length cp) (meetL la lb).length (allCells (meetL la lb))) := O23_p.out.kept hgr (iv_ne I_p.out I_n.out (by omega))
  have O24_q : Hid (w24.ownsRow M 27 3 (.slice xq (meetR la lb).length cq) (meetR la lb).length (allCells (meetR la lb))) := O23_q.out.kept hgr (iv_ne I_q.out I_n.out (by omega))
  have O24_k0 : Hid (w24.ownsRow (w11.alloc (.cells #[.slice xn (normL la).length cn, .slice xd (compR la lb).length cd, .slice xp (meetL la lb).length cp, .slice xq (meetR la lb).length cq] 22)).heap.size 27 3 (.slice xk0 (normL la).length ck0) (normL la).length (allCells (normL la))) := O23_k0.out.kept hgr (iv_ne I_k0.out I_n.out (by omega))
  have O24_k1 : Hid (w24.ownsRow w14.heap.size 27 3 (.slice xk1 (compR la lb).length ck1) (compR la lb).length (allCells (compR la lb))) := O23_k1.out.kept hgr (iv_ne I_k1.out I_n.out (by omega))
  have O24_k2 : Hid (w24.ownsRow w16.heap.size 27 3 (.slice xk2 (meetL la lb).length ck2) (meetL la lb).length (allCells (meetL la lb))) := O23_k2.out.kept hgr (iv_ne I_k2.out I_n.out (by omega))
  have O24_k3 : Hid (w24.ownsRow w18.heap.size 27 3 (.slice xk3 (meetR la lb).length ck3) (meetR la lb).length (allCells (meetR la lb))) := O23_k3.out.kept hgr (iv_ne I_k3.out I_n.out (by omega))
  have K24_all : Hid (w24.heap[w11.heap.size]? = some (.cells #[.slice xn (normL la).length cn, .slice xd (compR la lb).length cd, .slice xp (meetL la lb).length cp, .slice xq (meetR la lb).length cq] 22 (0, 0))) := (hgr.block w11.heap.size (lt_of_heap K23_all.out) (fun e => own_ne' O23_n.out K23_all.out (by decide) e.symm)).trans K23_all.out
  have WN24 : Hid (w24.ownsRow (w11.heap.size + 1) 22 1 (.slice (some ⟨gw0, 0, none⟩) 4 cw3) 4 [.slice xk0 (normL la).length ck0, .slice xk1 (compR la lb).length ck1, .slice xk2 (meetL la lb).length ck2, .slice xk3 (meetR la lb).length ck3]) := WN23.out.kept hgr (own_ne3 WN23.out O23_n.out (by decide))
  clear hgr
  go_wp2_with fail
  go_loopw [20] (fun kk wr => ∃ (j : Nat), 1 ≤ j ∧ j ≤ 4 ∧ kk = .int .i64 j ∧ Below w24.heap.size w24 wr) (fun kk _ => 4 - (intOf kk).toNat)
  case atStart => exact ⟨1, by omega, by omega, by first | rfl | go_num, Below.refl _ _⟩
  case round =>
    obtain ⟨j, hj1, hj2, rfl, hbi⟩ := hrel
    by_cases hj : j = 1
    · subst hj
      have kal := (hbi.block w11.heap.size (lt_of_heap K24_all.out)).trans K24_all.out
      have al : wr.cell? ⟨w11.heap.size, 1, none⟩ = some (.slice xd (compR la lb).length cd) := by rw [cell_of_row _ _ _ _ _ _ kal]; rfl
      have hgl := lt_of_heap kal
      have wnt := own_belowO WN24.out hbi (Nat.le_refl _)
      obtain ⟨gwj, egwj, wa, hgwj⟩ := want_at wnt (j := 1) (u := (.slice xk1 (compR la lb).length ck1)) rfl
      simp only [Option.some.injEq, Addr.mk.injEq, and_true] at egwj
      subst egwj
      have HX : Hid (PartsAt wr.drew wr.drew.heap.size xd (compR la lb)) := (parts_of (own_belowO O24_d.out hbi (Nat.le_refl _)) (bound_comp la lb).1).here (Below.refl _ _).drew (Nat.le_refl _)
      have HY : Hid (PartsAt wr.drew wr.drew.heap.size xk1 (compR la lb)) := (parts_of (own_belowO O24_k1.out hbi (Nat.le_refl _)) (bound_comp la lb).1).here (Below.refl _ _).drew (Nat.le_refl _)
      have HBI : Hid (Below w24.heap.size w24 wr) := hbi
      clear kal wnt hbi hj1 hj2
      go_wp2_with fail
      go_region_with (go_at_call 14; refine (same_own xd xk1 cd ck1 _ HX.out HY.out).mono ?_; rintro e wy ⟨rfl, hby⟩)
      all_goals
        have HBY : Hid (Below w24.heap.size w24 wy) := HBI.out.drew.trans (hby.mono HBI.out.size)
        clear hby
        go_wp2_with fail
        go_roundw
        case rel => first | exact ⟨2, by omega, by omega, by first | rfl | go_num, HBY.out⟩ | ((repeat apply Exists.intro); exact ⟨⟨2, by omega, by omega, by first | rfl | go_num, HBY.out⟩, rfl⟩)
        case measure => simp [intOf]
    by_cases hj : j = 2
    · subst hj
      have kal := (hbi.block w11.heap.size (lt_of_heap K24_all.out)).trans K24_all.out
      have al : wr.cell? ⟨w11.heap.size, 2, none⟩ = some (.slice xp (meetL la lb).length cp) := by rw [cell_of_row _ _ _ _ _ _ kal]; rfl
      have hgl := lt_of_heap kal
      have wnt := own_belowO WN24.out hbi (Nat.le_refl _)
      obtain ⟨gwj, egwj, wa, hgwj⟩ := want_at wnt (j := 2) (u := (.slice xk2 (meetL la lb).length ck2)) rfl
      simp only [Option.some.injEq, Addr.mk.injEq, and_true] at egwj
      subst egwj
      have HX : Hid (PartsAt wr.drew wr.drew.heap.size xp (meetL la lb)) := (parts_of (own_belowO O24_p.out hbi (Nat.le_refl _)) (bound_meet la lb).1.1).here (Below.refl _ _).drew (Nat.le_refl _)
      have HY : Hid (PartsAt wr.drew wr.drew.heap.size xk2 (meetL la lb)) := (parts_of (own_belowO O24_k2.out hbi (Nat.le_refl _)) (bound_meet la lb).1.1).here (Below.refl _ _).drew (Nat.le_refl _)
      have HBI : Hid (Below w24.heap.size w24 wr) := hbi
      clear kal wnt hbi hj1 hj2
      go_wp2_with fail
      go_region_with (go_at_call 14; refine (same_own xp xk2 cp ck2 _ HX.out HY.out).mono ?_; rintro e wy ⟨rfl, hby⟩)
      all_goals
        have HBY : Hid (Below w24.heap.size w24 wy) := HBI.out.drew.trans (hby.mono HBI.out.size)
        clear hby
        go_wp2_with fail
        go_roundw
        case rel => first | exact ⟨3, by omega, by omega, by first | rfl | go_num, HBY.out⟩ | ((repeat apply Exists.intro); exact ⟨⟨3, by omega, by omega, by first | rfl | go_num, HBY.out⟩, rfl⟩)
        case measure => simp [intOf]
    by_cases hj : j = 3
    · subst hj
      have kal := (hbi.block w11.heap.size (lt_of_heap K24_all.out)).trans K24_all.out
      have al : wr.cell? ⟨w11.heap.size, 3, none⟩ = some (.slice xq (meetR la lb).length cq) := by rw [cell_of_row _ _ _ _ _ _ kal]; rfl
      have hgl := lt_of_heap kal
      have wnt := own_belowO WN24.out hbi (Nat.le_refl _)
      obtain ⟨gwj, egwj, wa, hgwj⟩ := want_at wnt (j := 3) (u := (.slice xk3 (meetR la lb).length ck3)) rfl
      simp only [Option.some.injEq, Addr.mk.injEq, and_true] at egwj
      subst egwj
      have HX : Hid (PartsAt wr.drew wr.drew.heap.size xq (meetR la lb)) := (parts_of (own_belowO O24_q.out hbi (Nat.le_refl _)) (bound_meet la lb).2.1).here (Below.refl _ _).drew (Nat.le_refl _)
      have HY : Hid (PartsAt wr.drew wr.drew.heap.size xk3 (meetR la lb)) := (parts_of (own_belowO O24_k3.out hbi (Nat.le_refl _)) (bound_meet la lb).2.1).here (Below.refl _ _).drew (Nat.le_refl _)
      have HBI : Hid (Below w24.heap.size w24 wr) := hbi
      clear kal wnt hbi hj1 hj2
      go_wp2_with fail
      go_region_with (go_at_call 14; refine (same_own xq xk3 cq ck3 _ HX.out HY.out).mono ?_; rintro e wy ⟨rfl, hby⟩)
      all_goals
        have HBY : Hid (Below w24.heap.size w24 wy) := HBI.out.drew.trans (hby.mono HBI.out.size)
        clear hby
        go_wp2_with fail
        go_roundw
        case rel => first | exact ⟨4, by omega, by omega, by first | rfl | go_num, HBY.out⟩ | ((repeat apply Exists.intro); exact ⟨⟨4, by omega, by omega, by first | rfl | go_num, HBY.out⟩, rfl⟩)
        case measure => simp [intOf]
    have hj4 : j = 4 := by omega
    subst hj4
    have HBI : Hid (Below w24.heap.size w24 wr) := hbi
    clear hj1 hj2
    obtain ⟨w25, hw25⟩ : ∃ w25, w25 = wr := ⟨_, rfl⟩
    subst hw25
    have HE25 : Hid (Below w.heap.size w w25) := HE24.out.trans (HBI.out.mono HE24.out.size)
    have z25 := HBI.out.size
    have O25_d : Hid (w25.ownsRow w5.heap.size 27 3 (.slice xd (compR la lb).length cd) (compR la lb).length (allCells (compR la lb))) := own_belowO O24_d.out hbi (Nat.le_refl _)
    have O25_p : Hid (w25.ownsRow w6.heap.size 27 3 (.slice xp (meetL la lb).length cp) (meetL la lb).length (allCells (meetL la lb))) := own_belowO O24_p.out hbi (Nat.le_refl _)
    have O25_q : Hid (w25.ownsRow M 27 3 (.slice xq (meetR la lb).length cq) (meetR la lb).length (allCells (meetR la lb))) := own_belowO O24_q.out hbi (Nat.le_refl _)
    have O25_k1 : Hid (w25.ownsRow w14.heap.size 27 3 (.slice xk1 (compR la lb).length ck1) (compR la lb).length (allCells (compR la lb))) := own_belowO O24_k1.out hbi (Nat.le_refl _)
    have O25_k2 : Hid (w25.ownsRow w16.heap.size 27 3 (.slice xk2 (meetL la lb).length ck2) (meetL la lb).length (allCells (meetL la lb))) := own_belowO O24_k2.out hbi (Nat.le_refl _)
    have O25_k3 : Hid (w25.ownsRow w18.heap.size 27 3 (.slice xk3 (meetR la lb).length ck3) (meetR la lb).length (allCells (meetR la lb))) := own_belowO O24_k3.out hbi (Nat.le_refl _)
    have K25_all : Hid (w25.heap[w11.heap.size]? = some (.cells #[.slice xn (normL la).length cn, .slice xd (compR la lb).length cd, .slice xp (meetL la lb).length cp, .slice xq (meetR la lb).length cq] 22 (0, 0))) := (hbi.block w11.heap.size (lt_of_heap K24_all.out)).trans K24_all.out
    have WN25 : Hid (w25.ownsRow (w11.heap.size + 1) 22 1 (.slice (some ⟨gw0, 0, none⟩) 4 cw3) 4 [.slice xk0 (normL la).length ck0, .slice xk1 (compR la lb).length ck1, .slice xk2 (meetL la lb).length ck2, .slice xk3 (meetR la lb).length ck3]) := own_belowO WN24.out hbi (Nat.le_refl _)
    clear hbi
    go_wp2_with fail
    rw [rounds_succ]
    have al25 : w25.cell? ⟨w11.heap.size, 1, none⟩ = some (.slice xd (compR la lb).length cd) := by rw [cell_of_row _ _ _ _ _ _ K25_all.out]; rfl
    have hgl25 := lt_of_heap K25_all.out
    obtain ⟨gw1, egw1, wa25, hgw25⟩ := want_at WN25.out (j := 1) (u := (.slice xk1 (compR la lb).length ck1)) rfl
    simp only [Option.some.injEq, Addr.mk.injEq, and_true] at egw1
    subst egw1
    go_wp2_with fail
    refine (same_own xd xk1 cd ck1 _ (parts_of O25_d.out (bound_comp la lb).1) (parts_of O25_k1.out (bound_comp la lb).1)).mono ?_
    rintro e w26 ⟨rfl, hb⟩
    have HE26 : Hid (Below w.heap.size w w26) := HE25.out.trans (hb.mono HE25.out.size)
    have z26 := hb.size
    have O26_d : Hid (w26.ownsRow w5.heap.size 27 3 (.slice xd (compR la lb).length cd) (compR la lb).length (allCells (compR la lb))) := own_belowO O25_d.out hb (Nat.le_refl _)
    have O26_p : Hid (w26.ownsRow w6.heap.size 27 3 (.slice xp (meetL la lb).length cp) (meetL la lb).length (allCells (meetL la lb))) := own_belowO O25_p.out hb (Nat.le_refl _)
    have O26_q : Hid (w26.ownsRow M 27 3 (.slice xq (meetR la lb).length cq) (meetR la lb).length (allCells (meetR la lb))) := own_belowO O25_q.out hb (Nat.le_refl _)
    have O26_k1 : Hid (w26.ownsRow w14.heap.size 27 3 (.slice xk1 (compR la lb).length ck1) (compR la lb).length (allCells (compR la lb))) := own_belowO O25_k1.out hb (Nat.le_refl _)
    have O26_k2 : Hid (w26.ownsRow w16.heap.size 27 3 (.slice xk2 (meetL la lb).length ck2) (meetL la lb).length (allCells (meetL la lb))) := own_belowO O25_k2.out hb (Nat.le_refl _)
    have O26_k3 : Hid (w26.ownsRow w18.heap.size 27 3 (.slice xk3 (meetR la lb).length ck3) (meetR la lb).length (allCells (meetR la lb))) := own_belowO O25_k3.out hb (Nat.le_refl _)
    have K26_all : Hid (w26.heap[w11.heap.size]? = some (.cells #[.slice xn (normL la).length cn, .slice xd (compR la lb).length cd, .slice xp (meetL la lb).length cp, .slice xq (meetR la lb).length cq] 22 (0, 0))) := (hb.block w11.heap.size (lt_of_heap K25_all.out)).trans K25_all.out
    have WN26 : Hid (w26.ownsRow (w11.heap.size + 1) 22 1 (.slice (some ⟨gw0, 0, none⟩) 4 cw3) 4 [.slice xk0 (normL la).length ck0, .slice xk1 (compR la lb).length ck1, .slice xk2 (meetL la lb).length ck2, .slice xk3 (meetR la lb).length ck3]) := own_belowO WN25.out hb (Nat.le_refl _)
    clear hb
    have hgl26 := lt_of_heap K26_all.out
    go_wp2_with fail
    refine (spoil_any w5.heap.size _ _ _ 5 _ O26_d.out).mono ?_
    rintro e w27 ⟨rfl, hgr⟩
    have HE27 : Hid (Below w.heap.size w w27) := HE26.out.grown hgr HE26.out.size (fun k hk => by have := (I_d.out k hk).1; omega)
    have z27 := hgr.size
    have O27_p : Hid (w27.ownsRow w6.heap.size 27 3 (.slice xp (meetL la lb).length cp) (meetL la lb).length (allCells (meetL la lb))) := O26_p.out.kept hgr (iv_ne I_p.out I_d.out (by omega))
    have O27_q : Hid (w27.ownsRow M 27 3 (.slice xq (meetR la lb).length cq) (meetR la lb).length (allCells (meetR la lb))) := O26_q.out.kept hgr (iv_ne I_q.out I_d.out (by omega))
    have O27_k1 : Hid (w27.ownsRow w14.heap.size 27 3 (.slice xk1 (compR la lb).length ck1) (compR la lb).length (allCells (compR la lb))) := O26_k1.out.kept hgr (iv_ne I_k1.out I_d.out (by omega))
    have O27_k2 : Hid (w27.ownsRow w16.heap.size 27 3 (.slice xk2 (meetL la lb).length ck2) (meetL la lb).length (allCells (meetL la lb))) := O26_k2.out.kept hgr (iv_ne I_k2.out I_d.out (by omega))
    have O27_k3 : Hid (w27.ownsRow w18.heap.size 27 3 (.slice xk3 (meetR la lb).length ck3) (meetR la lb).length (allCells (meetR la lb))) := O26_k3.out.kept hgr (iv_ne I_k3.out I_d.out (by omega))
    have K27_all : Hid (w27.heap[w11.heap.size]? = some (.cells #[.slice xn (normL la).length cn, .slice xd (compR la lb).length cd, .slice xp (meetL la lb).length cp, .slice xq (meetR la lb).length cq] 22 (0, 0))) := (hgr.block w11.heap.size (lt_of_heap K26_all.out) (fun e => own_ne' O26_d.out K26_all.out (by decide) e.symm)).trans K26_all.out
    have WN27 : Hid (w27.ownsRow (w11.heap.size + 1) 22 1 (.slice (some ⟨gw0, 0, none⟩) 4 cw3) 4 [.slice xk0 (normL la).length ck0, .slice xk1 (compR la lb).length ck1, .slice xk2 (meetL la lb).length ck2, .slice xk3 (meetR la lb).length ck3]) := WN26.out.kept hgr (own_ne3 WN26.out O26_d.out (by decide))
    clear hgr
    go_wp2_with fail
    go_loopw [20] (fun kk wr => ∃ (j : Nat), 2 ≤ j ∧ j ≤ 4 ∧ kk = .int .i64 j ∧ Below w27.heap.size w27 wr) (fun kk _ => 4 - (intOf kk).toNat)
    case atStart => exact ⟨2, by omega, by omega, by first | rfl | go_num, Below.refl _ _⟩
    case round =>
      obtain ⟨j, hj1, hj2, rfl, hbi⟩ := hrel
      by_cases hj : j = 2
      · subst hj
        have kal := (hbi.block w11.heap.size (lt_of_heap K27_all.out)).trans K27_all.out
        have al : wr.cell? ⟨w11.heap.size, 2, none⟩ = some (.slice xp (meetL la lb).length cp) := by rw [cell_of_row _ _ _ _ _ _ kal]; rfl
        have hgl := lt_of_heap kal
        have wnt := own_belowO WN27.out hbi (Nat.le_refl _)
        obtain ⟨gwj, egwj, wa, hgwj⟩ := want_at wnt (j := 2) (u := (.slice xk2 (meetL la lb).length ck2)) rfl
        simp only [Option.some.injEq, Addr.mk.injEq, and_true] at egwj
        subst egwj
        have HX : Hid (PartsAt wr.drew wr.drew.heap.size xp (meetL la lb)) := (parts_of (own_belowO O27_p.out hbi (Nat.le_refl _)) (bound_meet la lb).1.1).here (Below.refl _ _).drew (Nat.le_refl _)
        have HY : Hid (PartsAt wr.drew wr.drew.heap.size xk2 (meetL la lb)) := (parts_of (own_belowO O27_k2.out hbi (Nat.le_refl _)) (bound_meet la lb).1.1).here (Below.refl _ _).drew (Nat.le_refl _)
        have HBI : Hid (Below w27.heap.size w27 wr) := hbi
        clear kal wnt hbi hj1 hj2
        go_wp2_with fail
        go_region_with (go_at_call 14; refine (same_own xp xk2 cp ck2 _ HX.out HY.out).mono ?_; rintro e wy ⟨rfl, hby⟩)
        all_goals
          have HBY : Hid (Below w27.heap.size w27 wy) := HBI.out.drew.trans (hby.mono HBI.out.size)
          clear hby
          go_wp2_with fail
          go_roundw
          case rel => first | exact ⟨3, by omega, by omega, by first | rfl | go_num, HBY.out⟩ | ((repeat apply Exists.intro); exact ⟨⟨3, by omega, by omega, by first | rfl | go_num, HBY.out⟩, rfl⟩)
          case measure => simp [intOf]
      by_cases hj : j = 3
      · subst hj
        have kal := (hbi.block w11.heap.size (lt_of_heap K27_all.out)).trans K27_all.out
        have al : wr.cell? ⟨w11.heap.size, 3, none⟩ = some (.slice xq (meetR la lb).length cq) := by rw [cell_of_row _ _ _ _ _ _ kal]; rfl
        have hgl := lt_of_heap kal
        have wnt := own_belowO WN27.out hbi (Nat.le_refl _)
        obtain ⟨gwj, egwj, wa, hgwj⟩ := want_at wnt (j := 3) (u := (.slice xk3 (meetR la lb).length ck3)) rfl
        simp only [Option.some.injEq, Addr.mk.injEq, and_true] at egwj
        subst egwj
        have HX : Hid (PartsAt wr.drew wr.drew.heap.size xq (meetR la lb)) := (parts_of (own_belowO O27_q.out hbi (Nat.le_refl _)) (bound_meet la lb).2.1).here (Below.refl _ _).drew (Nat.le_refl _)
        have HY : Hid (PartsAt wr.drew wr.drew.heap.size xk3 (meetR la lb)) := (parts_of (own_belowO O27_k3.out hbi (Nat.le_refl _)) (bound_meet la lb).2.1).here (Below.refl _ _).drew (Nat.le_refl _)
        have HBI : Hid (Below w27.heap.size w27 wr) := hbi
        clear kal wnt hbi hj1 hj2
        go_wp2_with fail
        go_region_with (go_at_call 14; refine (same_own xq xk3 cq ck3 _ HX.out HY.out).mono ?_; rintro e wy ⟨rfl, hby⟩)
        all_goals
          have HBY : Hid (Below w27.heap.size w27 wy) := HBI.out.drew.trans (hby.mono HBI.out.size)
          clear hby
          go_wp2_with fail
          go_roundw
          case rel => first | exact ⟨4, by omega, by omega, by first | rfl | go_num, HBY.out⟩ | ((repeat apply Exists.intro); exact ⟨⟨4, by omega, by omega, by first | rfl | go_num, HBY.out⟩, rfl⟩)
          case measure => simp [intOf]
      have hj4 : j = 4 := by omega
      subst hj4
      have HBI : Hid (Below w27.heap.size w27 wr) := hbi
      clear hj1 hj2
      obtain ⟨w28, hw28⟩ : ∃ w28, w28 = wr := ⟨_, rfl⟩
      subst hw28
      have HE28 : Hid (Below w.heap.size w w28) := HE27.out.trans (HBI.out.mono HE27.out.size)
      have z28 := HBI.out.size
      have O28_p : Hid (w28.ownsRow w6.heap.size 27 3 (.slice xp (meetL la lb).length cp) (meetL la lb).length (allCells (meetL la lb))) := own_belowO O27_p.out hbi (Nat.le_refl _)
      have O28_q : Hid (w28.ownsRow M 27 3 (.slice xq (meetR la lb).length cq) (meetR la lb).length (allCells (meetR la lb))) := own_belowO O27_q.out hbi (Nat.le_refl _)
      have O28_k2 : Hid (w28.ownsRow w16.heap.size 27 3 (.slice xk2 (meetL la lb).length ck2) (meetL la lb).length (allCells (meetL la lb))) := own_belowO O27_k2.out hbi (Nat.le_refl _)
      have O28_k3 : Hid (w28.ownsRow w18.heap.size 27 3 (.slice xk3 (meetR la lb).length ck3) (meetR la lb).length (allCells (meetR la lb))) := own_belowO O27_k3.out hbi (Nat.le_refl _)
      have K28_all : Hid (w28.heap[w11.heap.size]? = some (.cells #[.slice xn (normL la).length cn, .slice xd (compR la lb).length cd, .slice xp (meetL la lb).length cp, .slice xq (meetR la lb).length cq] 22 (0, 0))) := (hbi.block w11.heap.size (lt_of_heap K27_all.out)).trans K27_all.out
      have WN28 : Hid (w28.ownsRow (w11.heap.size + 1) 22 1 (.slice (some ⟨gw0, 0, none⟩) 4 cw3) 4 [.slice xk0 (normL la).length ck0, .slice xk1 (compR la lb).length ck1, .slice xk2 (meetL la lb).length ck2, .slice xk3 (meetR la lb).length ck3]) := own_belowO WN27.out hbi (Nat.le_refl _)
      clear hbi
      go_wp2_with fail
      rw [rounds_succ]
      have al28 : w28.cell? ⟨w11.heap.size, 2, none⟩ = some (.slice xp (meetL la lb).length cp) := by rw [cell_of_row _ _ _ _ _ _ K28_all.out]; rfl
      have hgl28 := lt_of_heap K28_all.out
      obtain ⟨gw2, egw2, wa28, hgw28⟩ := want_at WN28.out (j := 2) (u := (.slice xk2 (meetL la lb).length ck2)) rfl
      simp only [Option.some.injEq, Addr.mk.injEq, and_true] at egw2
      subst egw2
      go_wp2_with fail
      refine (same_own xp xk2 cp ck2 _ (parts_of O28_p.out (bound_meet la lb).1.1) (parts_of O28_k2.out (bound_meet la lb).1.1)).mono ?_
      rintro e w29 ⟨rfl, hb⟩
      have HE29 : Hid (Below w.heap.size w w29) := HE28.out.trans (hb.mono HE28.out.size)
      have z29 := hb.size
      have O29_p : Hid (w29.ownsRow w6.heap.size 27 3 (.slice xp (meetL la lb).length cp) (meetL la lb).length (allCells (meetL la lb))) := own_belowO O28_p.out hb (Nat.le_refl _)
      have O29_q : Hid (w29.ownsRow M 27 3 (.slice xq (meetR la lb).length cq) (meetR la lb).length (allCells (meetR la lb))) := own_belowO O28_q.out hb (Nat.le_refl _)
      have O29_k2 : Hid (w29.ownsRow w16.heap.size 27 3 (.slice xk2 (meetL la lb).length ck2) (meetL la lb).length (allCells (meetL la lb))) := own_belowO O28_k2.out hb (Nat.le_refl _)
      have O29_k3 : Hid (w29.ownsRow w18.heap.size 27 3 (.slice xk3 (meetR la lb).length ck3) (meetR la lb).length (allCells (meetR la lb))) := own_belowO O28_k3.out hb (Nat.le_refl _)
      have K29_all : Hid (w29.heap[w11.heap.size]? = some (.cells #[.slice xn (normL la).length cn, .slice xd (compR la lb).length cd, .slice xp (meetL la lb).length cp, .slice xq (meetR la lb).length cq] 22 (0, 0))) := (hb.block w11.heap.size (lt_of_heap K28_all.out)).trans K28_all.out
      have WN29 : Hid (w29.ownsRow (w11.heap.size + 1) 22 1 (.slice (some ⟨gw0, 0, none⟩) 4 cw3) 4 [.slice xk0 (normL la).length ck0, .slice xk1 (compR la lb).length ck1, .slice xk2 (meetL la lb).length ck2, .slice xk3 (meetR la lb).length ck3]) := own_belowO WN28.out hb (Nat.le_refl _)
      clear hb
      have hgl29 := lt_of_heap K29_all.out
      go_wp2_with fail
      refine (spoil_any w6.heap.size _ _ _ 5 _ O29_p.out).mono ?_
      rintro e w30 ⟨rfl, hgr⟩
      have HE30 : Hid (Below w.heap.size w w30) := HE29.out.grown hgr HE29.out.size (fun k hk => by have := (I_p.out k hk).1; omega)
      have z30 := hgr.size
      have O30_q : Hid (w30.ownsRow M 27 3 (.slice xq (meetR la lb).length cq) (meetR la lb).length (allCells (meetR la lb))) := O29_q.out.kept hgr (iv_ne I_q.out I_p.out (by omega))
      have O30_k2 : Hid (w30.ownsRow w16.heap.size 27 3 (.slice xk2 (meetL la lb).length ck2) (meetL la lb).length (allCells (meetL la lb))) := O29_k2.out.kept hgr (iv_ne I_k2.out I_p.out (by omega))
      have O30_k3 : Hid (w30.ownsRow w18.heap.size 27 3 (.slice xk3 (meetR la lb).length ck3) (meetR la lb).length (allCells (meetR la lb))) := O29_k3.out.kept hgr (iv_ne I_k3.out I_p.out (by omega))
      have K30_all : Hid (w30.heap[w11.heap.size]? = some (.cells #[.slice xn (normL la).length cn, .slice xd (compR la lb).length cd, .slice xp (meetL la lb).length cp, .slice xq (meetR la lb).length cq] 22 (0, 0))) := (hgr.block w11.heap.size (lt_of_heap K29_all.out) (fun e => own_ne' O29_p.out K29_all.out (by decide) e.symm)).trans K29_all.out
      have WN30 : Hid (w30.ownsRow (w11.heap.size + 1) 22 1 (.slice (some ⟨gw0, 0, none⟩) 4 cw3) 4 [.slice xk0 (normL la).length ck0, .slice xk1 (compR la lb).length ck1, .slice xk2 (meetL la lb).length ck2, .slice xk3 (meetR la lb).length ck3]) := WN29.out.kept hgr (own_ne3 WN29.out O29_p.out (by decide))
      clear hgr
      go_wp2_with fail
      go_loopw [20] (fun kk wr => ∃ (j : Nat), 3 ≤ j ∧ j ≤ 4 ∧ kk = .int .i64 j ∧ Below w30.heap.size w30 wr) (fun kk _ => 4 - (intOf kk).toNat)
      case atStart => exact ⟨3, by omega, by omega, by first | rfl | go_num, Below.refl _ _⟩
      case round =>
        obtain ⟨j, hj1, hj2, rfl, hbi⟩ := hrel
        by_cases hj : j = 3
        · subst hj
          have kal := (hbi.block w11.heap.size (lt_of_heap K30_all.out)).trans K30_all.out
          have al : wr.cell? ⟨w11.heap.size, 3, none⟩ = some (.slice xq (meetR la lb).length cq) := by rw [cell_of_row _ _ _ _ _ _ kal]; rfl
          have hgl := lt_of_heap kal
          have wnt := own_belowO WN30.out hbi (Nat.le_refl _)
          obtain ⟨gwj, egwj, wa, hgwj⟩ := want_at wnt (j := 3) (u := (.slice xk3 (meetR la lb).length ck3)) rfl
          simp only [Option.some.injEq, Addr.mk.injEq, and_true] at egwj
          subst egwj
          have HX : Hid (PartsAt wr.drew wr.drew.heap.size xq (meetR la lb)) := (parts_of (own_belowO O30_q.out hbi (Nat.le_refl _)) (bound_meet la lb).2.1).here (Below.refl _ _).drew (Nat.le_refl _)
          have HY : Hid (PartsAt wr.drew wr.drew.heap.size xk3 (meetR la lb)) := (parts_of (own_belowO O30_k3.out hbi (Nat.le_refl _)) (bound_meet la lb).2.1).here (Below.refl _ _).drew (Nat.le_refl _)
          have HBI : Hid (Below w30.heap.size w30 wr) := hbi
          clear kal wnt hbi hj1 hj2
          go_wp2_with fail
          go_region_with (go_at_call 14; refine (same_own xq xk3 cq ck3 _ HX.out HY.out).mono ?_; rintro e wy ⟨rfl, hby⟩)
          all_goals
            have HBY : Hid (Below w30.heap.size w30 wy) := HBI.out.drew.trans (hby.mono HBI.out.size)
            clear hby
            go_wp2_with fail
            go_roundw
            case rel => first | exact ⟨4, by omega, by omega, by first | rfl | go_num, HBY.out⟩ | ((repeat apply Exists.intro); exact ⟨⟨4, by omega, by omega, by first | rfl | go_num, HBY.out⟩, rfl⟩)
            case measure => simp [intOf]
        have hj4 : j = 4 := by omega
        subst hj4
        have HBI : Hid (Below w30.heap.size w30 wr) := hbi
        clear hj1 hj2
        obtain ⟨w31, hw31⟩ : ∃ w31, w31 = wr := ⟨_, rfl⟩
        subst hw31
        have HE31 : Hid (Below w.heap.size w w31) := HE30.out.trans (HBI.out.mono HE30.out.size)
        have z31 := HBI.out.size
        have O31_q : Hid (w31.ownsRow M 27 3 (.slice xq (meetR la lb).length cq) (meetR la lb).length (allCells (meetR la lb))) := own_belowO O30_q.out hbi (Nat.le_refl _)
        have O31_k3 : Hid (w31.ownsRow w18.heap.size 27 3 (.slice xk3 (meetR la lb).length ck3) (meetR la lb).length (allCells (meetR la lb))) := own_belowO O30_k3.out hbi (Nat.le_refl _)
        have K31_all : Hid (w31.heap[w11.heap.size]? = some (.cells #[.slice xn (normL la).length cn, .slice xd (compR la lb).length cd, .slice xp (meetL la lb).length cp, .slice xq (meetR la lb).length cq] 22 (0, 0))) := (hbi.block w11.heap.size (lt_of_heap K30_all.out)).trans K30_all.out
        have WN31 : Hid (w31.ownsRow (w11.heap.size + 1) 22 1 (.slice (some ⟨gw0, 0, none⟩) 4 cw3) 4 [.slice xk0 (normL la).length ck0, .slice xk1 (compR la lb).length ck1, .slice xk2 (meetL la lb).length ck2, .slice xk3 (meetR la lb).length ck3]) := own_belowO WN30.out hbi (Nat.le_refl _)
        clear hbi
        go_wp2_with fail
        rw [rounds_succ]
        have al31 : w31.cell? ⟨w11.heap.size, 3, none⟩ = some (.slice xq (meetR la lb).length cq) := by rw [cell_of_row _ _ _ _ _ _ K31_all.out]; rfl
        have hgl31 := lt_of_heap K31_all.out
        obtain ⟨gw3, egw3, wa31, hgw31⟩ := want_at WN31.out (j := 3) (u := (.slice xk3 (meetR la lb).length ck3)) rfl
        simp only [Option.some.injEq, Addr.mk.injEq, and_true] at egw3
        subst egw3
        go_wp2_with fail
        refine (same_own xq xk3 cq ck3 _ (parts_of O31_q.out (bound_meet la lb).2.1) (parts_of O31_k3.out (bound_meet la lb).2.1)).mono ?_
        rintro e w32 ⟨rfl, hb⟩
        have HE32 : Hid (Below w.heap.size w w32) := HE31.out.trans (hb.mono HE31.out.size)
        have z32 := hb.size
        have O32_q : Hid (w32.ownsRow M 27 3 (.slice xq (meetR la lb).length cq) (meetR la lb).length (allCells (meetR la lb))) := own_belowO O31_q.out hb (Nat.le_refl _)
        have O32_k3 : Hid (w32.ownsRow w18.heap.size 27 3 (.slice xk3 (meetR la lb).length ck3) (meetR la lb).length (allCells (meetR la lb))) := own_belowO O31_k3.out hb (Nat.le_refl _)
        have K32_all : Hid (w32.heap[w11.heap.size]? = some (.cells #[.slice xn (normL la).length cn, .slice xd (compR la lb).length cd, .slice xp (meetL la lb).length cp, .slice xq (meetR la lb).length cq] 22 (0, 0))) := (hb.block w11.heap.size (lt_of_heap K31_all.out)).trans K31_all.out
        have WN32 : Hid (w32.ownsRow (w11.heap.size + 1) 22 1 (.slice (some ⟨gw0, 0, none⟩) 4 cw3) 4 [.slice xk0 (normL la).length ck0, .slice xk1 (compR la lb).length ck1, .slice xk2 (meetL la lb).length ck2, .slice xk3 (meetR la lb).length ck3]) := own_belowO WN31.out hb (Nat.le_refl _)
        clear hb
        have hgl32 := lt_of_heap K32_all.out
        go_wp2_with fail
        refine (spoil_any M _ _ _ 5 _ O32_q.out).mono ?_
        rintro e w33 ⟨rfl, hgr⟩
        have HE33 : Hid (Below w.heap.size w w33) := HE32.out.grown hgr HE32.out.size (fun k hk => by have := (I_q.out k hk).1; omega)
        have z33 := hgr.size
        have O33_k3 : Hid (w33.ownsRow w18.heap.size 27 3 (.slice xk3 (meetR la lb).length ck3) (meetR la lb).length (allCells (meetR la lb))) := O32_k3.out.kept hgr (iv_ne I_k3.out I_q.out (by omega))
        have K33_all : Hid (w33.heap[w11.heap.size]? = some (.cells #[.slice xn (normL la).length cn, .slice xd (compR la lb).length cd, .slice xp (meetL la lb).length cp, .slice xq (meetR la lb).length cq] 22 (0, 0))) := (hgr.block w11.heap.size (lt_of_heap K32_all.out) (fun e => own_ne' O32_q.out K32_all.out (by decide) e.symm)).trans K32_all.out
        have WN33 : Hid (w33.ownsRow (w11.heap.size + 1) 22 1 (.slice (some ⟨gw0, 0, none⟩) 4 cw3) 4 [.slice xk0 (normL la).length ck0, .slice xk1 (compR la lb).length ck1, .slice xk2 (meetL la lb).length ck2, .slice xk3 (meetR la lb).length ck3]) := WN32.out.kept hgr (own_ne3 WN32.out O32_q.out (by decide))
        clear hgr
        go_wp2_with fail
        go_loopw [20] (fun kk wr => ∃ (j : Nat), 4 ≤ j ∧ j ≤ 4 ∧ kk = .int .i64 j ∧ Below w33.heap.size w33 wr) (fun kk _ => 4 - (intOf kk).toNat)
        case atStart => exact ⟨4, by omega, by omega, by first | rfl | go_num, Below.refl _ _⟩
        case round =>
          obtain ⟨j, hj1, hj2, rfl, hbi⟩ := hrel
          have hj4 : j = 4 := by omega
          subst hj4
          have HBI : Hid (Below w33.heap.size w33 wr) := hbi
          clear hj1 hj2
          obtain ⟨w34, hw34⟩ : ∃ w34, w34 = wr := ⟨_, rfl⟩
          subst hw34
          have HE34 : Hid (Below w.heap.size w w34) := HE33.out.trans (HBI.out.mono HE33.out.size)
          have z34 := HBI.out.size
          have K34_all : Hid (w34.heap[w11.heap.size]? = some (.cells #[.slice xn (normL la).length cn, .slice xd (compR la lb).length cd, .slice xp (meetL la lb).length cp, .slice xq (meetR la lb).length cq] 22 (0, 0))) := (hbi.block w11.heap.size (lt_of_heap K33_all.out)).trans K33_all.out
          have WN34 : Hid (w34.ownsRow (w11.heap.size + 1) 22 1 (.slice (some ⟨gw0, 0, none⟩) 4 cw3) 4 [.slice xk0 (normL la).length ck0, .slice xk1 (compR la lb).length ck1, .slice xk2 (meetL la lb).length ck2, .slice xk3 (meetR la lb).length ck3]) := own_belowO WN33.out hbi (Nat.le_refl _)
          clear hbi
          go_wp2_with fail
          rw [rounds_succ]
          go_wp2_with fail
          refine (put_any ⟨#[97]⟩ _ (by decide)).mono ?_
          rintro e w35 ⟨rfl, h0, hb⟩
          have HE35 : Hid (Below w.heap.size w w35) := HE34.out.trans (hb.mono HE34.out.size)
          have z35 := hb.size
          have K35_all : Hid (w35.heap[w11.heap.size]? = some (.cells #[.slice xn (normL la).length cn, .slice xd (compR la lb).length cd, .slice xp (meetL la lb).length cp, .slice xq (meetR la lb).length cq] 22 (0, 0))) := (hb.block w11.heap.size (lt_of_heap K34_all.out)).trans K34_all.out
          have WN35 : Hid (w35.ownsRow (w11.heap.size + 1) 22 1 (.slice (some ⟨gw0, 0, none⟩) 4 cw3) 4 [.slice xk0 (normL la).length ck0, .slice xk1 (compR la lb).length ck1, .slice xk2 (meetL la lb).length ck2, .slice xk3 (meetR la lb).length ck3]) := own_belowO WN34.out hb (Nat.le_refl _)
          have QP35 : Hid (PartsAt w35 w35.heap.size (some ⟨w34.heap.size, 0, none⟩) [⟨2, 0, ⟨#[97]⟩⟩]) := h0
          clear hb h0
          go_wp2_with fail
          refine (norm_lit _ _ QP35.out).mono ?_
          rintro e w36 ⟨xz, cz, rfl, h0, hb⟩
          have HE36 : Hid (Below w.heap.size w w36) := HE35.out.trans (hb.mono HE35.out.size)
          have z36 := hb.size
          have K36_all : Hid (w36.heap[w11.heap.size]? = some (.cells #[.slice xn (normL la).length cn, .slice xd (compR la lb).length cd, .slice xp (meetL la lb).length cp, .slice xq (meetR la lb).length cq] 22 (0, 0))) := (hb.block w11.heap.size (lt_of_heap K35_all.out)).trans K35_all.out
          have WN36 : Hid (w36.ownsRow (w11.heap.size + 1) 22 1 (.slice (some ⟨gw0, 0, none⟩) 4 cw3) 4 [.slice xk0 (normL la).length ck0, .slice xk1 (compR la lb).length ck1, .slice xk2 (meetL la lb).length ck2, .slice xk3 (meetR la lb).length ck3]) := own_belowO WN35.out hb (Nat.le_refl _)
          have QZ36 : Hid (PartsAt w36 w36.heap.size xz [⟨2, 0, ⟨#[97]⟩⟩]) := h0
          clear hb h0
          go_wp2_with fail
          refine (put_any ⟨#[97]⟩ _ (by decide)).mono ?_
          rintro e w37 ⟨rfl, h0, hb⟩
          have HE37 : Hid (Below w.heap.size w w37) := HE36.out.trans (hb.mono HE36.out.size)
          have z37 := hb.size
          have K37_all : Hid (w37.heap[w11.heap.size]? = some (.cells #[.slice xn (normL la).length cn, .slice xd (compR la lb).length cd, .slice xp (meetL la lb).length cp, .slice xq (meetR la lb).length cq] 22 (0, 0))) := (hb.block w11.heap.size (lt_of_heap K36_all.out)).trans K36_all.out
          have WN37 : Hid (w37.ownsRow (w11.heap.size + 1) 22 1 (.slice (some ⟨gw0, 0, none⟩) 4 cw3) 4 [.slice xk0 (normL la).length ck0, .slice xk1 (compR la lb).length ck1, .slice xk2 (meetL la lb).length ck2, .slice xk3 (meetR la lb).length ck3]) := own_belowO WN36.out hb (Nat.le_refl _)
          have QP37 : Hid (PartsAt w37 w37.heap.size (some ⟨w36.heap.size, 0, none⟩) [⟨2, 0, ⟨#[97]⟩⟩]) := h0
          have QY37 : Hid (PartsAt w37 w37.heap.size xz [⟨2, 0, ⟨#[97]⟩⟩]) := QZ36.out.here hb (Nat.le_refl _)
          clear hb h0
          go_wp2_with fail
          refine (same_lit xz _ cz 1 _ QY37.out QP37.out).mono ?_
          rintro e w38 ⟨rfl, hb⟩
          have HE38 : Hid (Below w.heap.size w w38) := HE37.out.trans (hb.mono HE37.out.size)
          have z38 := hb.size
          have K38_all : Hid (w38.heap[w11.heap.size]? = some (.cells #[.slice xn (normL la).length cn, .slice xd (compR la lb).length cd, .slice xp (meetL la lb).length cp, .slice xq (meetR la lb).length cq] 22 (0, 0))) := (hb.block w11.heap.size (lt_of_heap K37_all.out)).trans K37_all.out
          have WN38 : Hid (w38.ownsRow (w11.heap.size + 1) 22 1 (.slice (some ⟨gw0, 0, none⟩) 4 cw3) 4 [.slice xk0 (normL la).length ck0, .slice xk1 (compR la lb).length ck1, .slice xk2 (meetL la lb).length ck2, .slice xk3 (meetR la lb).length ck3]) := own_belowO WN37.out hb (Nat.le_refl _)
          clear hb
          go_wp2_with fail
          go_ret
          exact ⟨rfl, HE38.out⟩

end Go.Proofs.Ytilcmbophfjjbab
