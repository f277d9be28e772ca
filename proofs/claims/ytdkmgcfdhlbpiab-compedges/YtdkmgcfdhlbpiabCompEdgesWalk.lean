/- The law CompEdges, walked: it answers true. -/
import Derived.Test.YtdkmgcfdhlbpiabLawKit
namespace Go.Proofs.Ytdkmgcfdhlbpiab
open Go.RowKit
set_option linter.unusedSimpArgs false
set_option linter.unusedVariables false

theorem scan2 {a : Int} {p q : Pt} (h1 : stepE a p = 0) (h2 : stepE p.k q = 0) : scanE a [p, q] = 0 :=
  scan_app (l := [p]) (r := [q]) |>.2 ⟨scan_one.2 h1, scan_one.2 h2⟩
theorem self_str (s : ByteArray) : (⟨s.data.toList.toArray⟩ : ByteArray) = s := by cases s; simp
theorem step_putS {e : Int} {s : ByteArray} (he : e = 0 ∨ e = 1) (h0 : 0 < s.size) (h5 : s.size ≤ 500) : stepE e (putP s) = 0 := by
  have hl : s.data.toList.length = s.size := Array.length_toList
  have h := step_put0 (e := e) (t := s.data.toList) he (fun x => by rw [x] at hl; simp at hl; omega) (by omega)
  rw [self_str] at h
  exact h
theorem word_put (s : ByteArray) (l : List Pt) : wordL (putP s :: l) = s.data.toList.map .P ++ wordL l := by simp [wordL, wordP, putP]
theorem word_keepP (n : Int) (l : List Pt) : wordL (keepP n :: l) = List.replicate n.toNat .K ++ wordL l := by simp [wordL, wordP, keepP]
theorem word_cutP (n : Int) (l : List Pt) : wordL (cutP n :: l) = List.replicate n.toNat .X ++ wordL l := by simp [wordL, wordP, cutP]
theorem sz_put {s : ByteArray} (h0 : 0 < s.size) (h5 : s.size ≤ 500) : sizesE [putP s] = 0 :=
  sizes_of_scan (scan_one.2 (step_putS (.inl rfl) h0 h5)) (by simp [inI, putP]) (by simp [outI, putP]; omega)
theorem sz_cut {n : Int} (h0 : 0 < n) (h5 : n ≤ 500) : sizesE [cutP n] = 0 :=
  sizes_of_scan (scan_one.2 (step_cut0 (by omega) h0 h5)) (by simp [inI, cutP]; omega) (by simp [outI, cutP])
theorem edges {s t : ByteArray} (hs : 0 < s.size) (ht : 0 < t.size) (h : s.size + t.size ≤ 500) :
    (compE [putP s] [keepP s.size, putP t] = 0 ∧ compL [putP s] [keepP s.size, putP t] = [putP (s ++ t)]) ∧ (compE [putP s] [cutP s.size] = 0 ∧ compL [putP s] [cutP s.size] = []) ∧
    (compE [putP s] [putP t, cutP s.size] = 0 ∧ compL [putP s] [putP t, cutP s.size] = [putP t]) := by
  have hsl : s.data.toList.length = s.size := Array.length_toList
  have z1 := sz_put hs (by omega)
  have z2 : sizesE [keepP s.size, putP t] = 0 := sizes_of_scan (scan2 (step_keep0 (by omega) (by omega) (by omega)) (step_putS (.inr rfl) ht (by omega))) (by simp [inI, keepP, putP]; omega) (by simp [outI, keepP, putP]; omega)
  have z3 : sizesE [cutP s.size] = 0 := sz_cut (by omega) (by omega)
  have z4 : sizesE [putP t, cutP s.size] = 0 := sizes_of_scan (scan2 (step_putS (.inl rfl) ht (by omega)) (step_cut0 (by simp [putP]) (by omega) (by omega))) (by simp [inI, cutP, putP]; omega) (by simp [outI, cutP, putP]; omega)
  have z5 : sizesE [putP (s ++ t)] = 0 := sz_put (by rw [ByteArray.size_append]; omega) (by rw [ByteArray.size_append]; omega)
  have z6 := sz_put ht (by omega)
  have w0 : wordL [] = [] := rfl
  refine ⟨⟨comp_is z1 z2 (by simp [outI, inI, putP, keepP]), ?_⟩, ⟨comp_is z1 z3 (by simp [outI, inI, putP, cutP]), ?_⟩, ⟨comp_is z1 z4 (by simp [outI, inI, putP, cutP]), ?_⟩⟩
  · have hc : Cmp (wordL [putP s]) (wordL [keepP s.size, putP t]) (wordL [putP (s ++ t)]) := by
      rw [word_put, word_keepP, word_put, word_put, w0, data_append, List.map_append, List.append_nil, List.append_nil, List.append_nil, show ((s.size : Int)).toNat = s.data.toList.length by omega]
      have h1 := (Cmp.nil.puts t.data.toList).pks s.data.toList
      simpa using h1
    rw [comp_cmp z1 hc, (delta_facts z5).2.1]
  · have hc : Cmp (wordL [putP s]) (wordL [cutP s.size]) (wordL []) := by
      rw [word_put, word_cutP, w0, List.append_nil, List.append_nil, show ((s.size : Int)).toNat = s.data.toList.length by omega]
      have h1 := Cmp.nil.pxs s.data.toList
      simpa using h1
    rw [comp_cmp z1 hc]; rfl
  · have hc : Cmp (wordL [putP s]) (wordL [putP t, cutP s.size]) (wordL [putP t]) := by
      rw [word_put, word_put, word_cutP, word_put, w0, List.append_nil, List.append_nil, List.append_nil, show ((s.size : Int)).toNat = s.data.toList.length by omega]
      have h1 := (Cmp.nil.pxs s.data.toList).puts t.data.toList
      simpa using h1
    rw [comp_cmp z1 hc, (delta_facts z6).2.1]
theorem edgesN {n : Int} (h1 : 1 ≤ n) (h5 : n ≤ 497) : compE [cutP n, keepP 3] [cutP 3] = 0 ∧ compL [cutP n, keepP 3] [cutP 3] = [cutP (n + 3)] := by
  have z1 : sizesE [cutP n, keepP 3] = 0 := sizes_of_scan (scan2 (step_cut0 (by omega) (by omega) (by omega)) (step_keep0 (by simp [cutP]) (by omega) (by omega))) (by simp [inI, cutP, keepP]; omega) (by simp [outI, cutP, keepP])
  have z2 : sizesE [cutP 3] = 0 := sz_cut (by omega) (by omega)
  have z3 : sizesE [cutP (n + 3)] = 0 := sz_cut (by omega) (by omega)
  have w0 : wordL [] = [] := rfl
  refine ⟨comp_is z1 z2 (by simp [outI, inI, cutP, keepP]), ?_⟩
  have hc : Cmp (wordL [cutP n, keepP 3]) (wordL [cutP 3]) (wordL [cutP (n + 3)]) := by
    rw [word_cutP, word_keepP, word_cutP, word_cutP, w0, List.append_nil, List.append_nil, List.append_nil, show (n + 3).toNat = n.toNat + 3 by omega, ← List.replicate_append_replicate]
    have h1 := (Cmp.nil.kxs 3).cuts n.toNat
    simpa using h1
  rw [comp_cmp z1 hc, (delta_facts z3).2.1]
theorem SameE (p : Pt) (a' : Option Addr) (c' : Nat) (y : Addr) (cy : Nat) (w : World) (hx : PartsAt w w.heap.size a' [p]) (hy : PartsAt w w.heap.size (some y) [p]) :
    Calls Try.prog 9 #[.slice a' 1 c', .slice (some y) 1 cy] w fun e w' => e = .returned (.bool true) ∧ Below w.heap.size w w' :=
  Same_yes a' (some y) [p] c' cy w hx hy
theorem Same2 (p q : Pt) (a' : Option Addr) (c' : Nat) (y : Addr) (w : World) (hx : PartsAt w w.heap.size a' [p, q]) (hy : PartsAt w w.heap.size (some y) [p, q]) :
    Calls Try.prog 9 #[.slice a' 2 c', .slice (some y) 2 2] w fun e w' => e = .returned (.bool true) ∧ Below w.heap.size w w' :=
  Same_yes a' (some y) [p, q] c' 2 w hx hy
theorem Comp0 (w : World) : Calls Try.prog 6 #[.slice none 0 0, .slice none 0 0] w fun e w' => ∃ a' c', e = .returned (.tuple #[.slice a' 0 c', .int .i64 0]) ∧ Below w.heap.size w w' :=
  (show Calls Try.prog 6 #[.slice none 0 0, .slice none 0 0] w _ from comp_lit litN.1 litN.2 none none 0 0 w (parts_none (Nat.le_refl _)) (parts_none (Nat.le_refl _)) (by decide)).mono (fun e w' ⟨a', c', h1, h2, h3, h4⟩ => ⟨a', c', h1, h4⟩)
theorem Comp11 {p q r s : Pt} (h : compE [p] [q] = 0 ∧ compL [p] [q] = [r, s]) (x y : Addr) (w : World) (hx : PartsAt w w.heap.size (some x) [p]) (hy : PartsAt w w.heap.size (some y) [q]) :
    Calls Try.prog 6 #[.slice (some x) 1 1, .slice (some y) 1 1] w fun e w' => ∃ a' c', e = .returned (.tuple #[.slice a' 2 c', .int .i64 0]) ∧ PartsAt w' w'.heap.size a' [r, s] ∧ Below w.heap.size w w' :=
  (show Calls Try.prog 6 #[.slice (some x) 1 1, .slice (some y) 1 1] w _ from comp_lit h.1 h.2 (some x) (some y) 1 1 w hx hy (by simp)).mono (fun e w' ⟨a', c', h1, h2, h3, h4⟩ => ⟨a', c', h1, h2, h4⟩)
theorem Comp12 {p q q' r : Pt} (h : compE [p] [q, q'] = 0 ∧ compL [p] [q, q'] = [r]) (x y : Addr) (w : World) (hx : PartsAt w w.heap.size (some x) [p]) (hy : PartsAt w w.heap.size (some y) [q, q']) :
    Calls Try.prog 6 #[.slice (some x) 1 1, .slice (some y) 2 2] w fun e w' => ∃ a' c', e = .returned (.tuple #[.slice a' 1 c', .int .i64 0]) ∧ PartsAt w' w'.heap.size a' [r] ∧ Below w.heap.size w w' :=
  (show Calls Try.prog 6 #[.slice (some x) 1 1, .slice (some y) 2 2] w _ from comp_lit h.1 h.2 (some x) (some y) 1 2 w hx hy (by simp)).mono (fun e w' ⟨a', c', h1, h2, h3, h4⟩ => ⟨a', c', h1, h2, h4⟩)
theorem Comp10 {p q : Pt} (h : compE [p] [q] = 0 ∧ compL [p] [q] = []) (x y : Addr) (w : World) (hx : PartsAt w w.heap.size (some x) [p]) (hy : PartsAt w w.heap.size (some y) [q]) :
    Calls Try.prog 6 #[.slice (some x) 1 1, .slice (some y) 1 1] w fun e w' => ∃ a' c', e = .returned (.tuple #[.slice a' 0 c', .int .i64 0]) ∧ Below w.heap.size w w' :=
  (show Calls Try.prog 6 #[.slice (some x) 1 1, .slice (some y) 1 1] w _ from comp_lit h.1 h.2 (some x) (some y) 1 1 w hx hy (by simp)).mono (fun e w' ⟨a', c', h1, h2, h3, h4⟩ => ⟨a', c', h1, h4⟩)
theorem Comp21 {p p' q r : Pt} (h : compE [p, p'] [q] = 0 ∧ compL [p, p'] [q] = [r]) (x y : Addr) (w : World) (hx : PartsAt w w.heap.size (some x) [p, p']) (hy : PartsAt w w.heap.size (some y) [q]) :
    Calls Try.prog 6 #[.slice (some x) 2 2, .slice (some y) 1 1] w fun e w' => ∃ a' c', e = .returned (.tuple #[.slice a' 1 c', .int .i64 0]) ∧ PartsAt w' w'.heap.size a' [r] ∧ Below w.heap.size w w' :=
  (show Calls Try.prog 6 #[.slice (some x) 2 2, .slice (some y) 1 1] w _ from comp_lit h.1 h.2 (some x) (some y) 2 1 w hx hy (by simp)).mono (fun e w' ⟨a', c', h1, h2, h3, h4⟩ => ⟨a', c', h1, h2, h4⟩)
theorem CompAny21 (p p' q : Pt) (x y : Addr) (w : World) (hx : PartsAt w w.heap.size (some x) [p, p']) (hy : PartsAt w w.heap.size (some y) [q]) :
    Calls Try.prog 6 #[.slice (some x) 2 2, .slice (some y) 1 1] w fun e w' => ∃ a' n c' f, e = .returned (.tuple #[.slice a' n c', .int .i64 f]) ∧ Below w.heap.size w w' :=
  (show Calls Try.prog 6 #[.slice (some x) 2 2, .slice (some y) 1 1] w _ from CompOf_any (some x) (some y) [p, p'] [q] 2 1 w hx hy (by simp)).mono (fun e w' ⟨a', c', h1, h2, h3, h4⟩ => ⟨a', _, c', _, h1, h4⟩)

set_option maxHeartbeats 400000 in
theorem Within_any (k : Int) (m : Nat) (w : World) (hm : 0 < m) (h5 : m ≤ 9223372036854775807) :
    Calls Try.prog 12 #[.int .i64 k, .int .i64 m] w fun e w' => ∃ r : Nat, e = .returned (.int .i64 r) ∧ r < m ∧ w' = w := by
  go_enter Try.func12, Try.ntmps12
  have hx0 : 0 ≤ (IntKind.u64.wrap k).tmod (m : Int) := Int.tmod_nonneg _ (by rw [IntKind.wrap_u64]; omega)
  have hx1 : (IntKind.u64.wrap k).tmod (m : Int) < m := Int.tmod_lt_of_pos _ (by omega)
  have hx2 : wrap64 ((IntKind.u64.wrap k).tmod (m : Int)) = (IntKind.u64.wrap k).tmod (m : Int) := IntWalk.wrap64_in _ ⟨by omega, by omega⟩
  have HX : Hid (0 ≤ (IntKind.u64.wrap k).tmod (m : Int) ∧ (IntKind.u64.wrap k).tmod (m : Int) < m ∧ wrap64 ((IntKind.u64.wrap k).tmod (m : Int)) = (IntKind.u64.wrap k).tmod (m : Int)) := ⟨hx0, hx1, hx2⟩
  clear hx0 hx1 hx2
  go_wp2
  go_ret
  obtain ⟨h0, h1, h2⟩ := HX.out
  exact ⟨((IntKind.u64.wrap k).tmod (m : Int)).toNat, ret_int (by rw [h2]; omega), by omega, rfl⟩

set_option maxRecDepth 100000 in
set_option maxHeartbeats 8000000 in
theorem CompEdges_any (s t : ByteArray) (n : Int) (w : World) (hs : s.size ≤ 140737488355328) (ht : t.size ≤ 140737488355328) :
    Calls Try.prog 5 #[.string s, .string t, .int .i64 n] w fun e w' => e = .returned (.bool true) ∧ Below w.heap.size w w' := by
  go_enter Try.func5, Try.ntmps5
  go_wp2_with fail
  refine (Comp0 _).mono ?_
  rintro e w1 ⟨a1, c1, rfl, hb1⟩
  have HE1 : Hid (Below w.heap.size w (w1.alloc (.cells #[.int .i64 3, .int .i64 2, .string ⟨#[]⟩] 28))) := hb1.alloc hb1.size _
  have HP1 : Hid (PartsAt (w1.alloc (.cells #[.int .i64 3, .int .i64 2, .string ⟨#[]⟩] 28)) (w1.alloc (.cells #[.int .i64 3, .int .i64 2, .string ⟨#[]⟩] 28)).heap.size (some ⟨w1.heap.size, 0, none⟩) [cutP 2]) := lit_at w1 _ (small_bound (by decide)) _ rfl
  clear hb1
  go_wp2_with fail
  refine (put_any ⟨#[97]⟩ _ (by decide)).mono ?_
  rintro e w2 ⟨rfl, hp2, hb2⟩
  have HE2 : Hid (Below w.heap.size w w2) := HE1.out.trans (hb2.mono HE1.out.size)
  have HQ2 : Hid (PartsAt w2 w2.heap.size (some ⟨w1.heap.size, 0, none⟩) [cutP 2]) := HP1.out.here hb2 (Nat.le_refl _)
  rw [show (w1.alloc (.cells #[.int .i64 3, .int .i64 2, .string ⟨#[]⟩] 28)).heap.size = w1.heap.size + 1 from Deep.nblk_alloc _ _] at hp2 ⊢
  have HP2 : Hid (PartsAt w2 w2.heap.size (some ⟨w1.heap.size + 1, 0, none⟩) [putP ⟨#[97]⟩]) := hp2
  clear hp2 hb2
  go_wp2_with fail
  refine (Comp11 litE _ _ _ HQ2.out HP2.out).mono ?_
  rintro e w3 ⟨a3, c3, rfl, hp3, hb3⟩
  have HE3 : Hid (Below w.heap.size w (w3.alloc (.cells #[.int .i64 2, .int .i64 0, .string ⟨#[97]⟩, .int .i64 3, .int .i64 2, .string ⟨#[]⟩] 28))) := (HE2.out.trans (hb3.mono HE2.out.size)).alloc (Nat.le_trans HE2.out.size hb3.size) _
  have HP3 : Hid (PartsAt (w3.alloc (.cells #[.int .i64 2, .int .i64 0, .string ⟨#[97]⟩, .int .i64 3, .int .i64 2, .string ⟨#[]⟩] 28)) (w3.alloc (.cells #[.int .i64 2, .int .i64 0, .string ⟨#[97]⟩, .int .i64 3, .int .i64 2, .string ⟨#[]⟩] 28)).heap.size a3 [putP ⟨#[97]⟩, cutP 2]) := hp3.here ((Below.refl _ _).alloc (Nat.le_refl _) _) (Nat.le_refl _)
  have HL3 : Hid (PartsAt (w3.alloc (.cells #[.int .i64 2, .int .i64 0, .string ⟨#[97]⟩, .int .i64 3, .int .i64 2, .string ⟨#[]⟩] 28)) (w3.alloc (.cells #[.int .i64 2, .int .i64 0, .string ⟨#[97]⟩, .int .i64 3, .int .i64 2, .string ⟨#[]⟩] 28)).heap.size (some ⟨w3.heap.size, 0, none⟩) [putP ⟨#[97]⟩, cutP 2]) := lit_at w3 _ (small_bound (by decide)) _ rfl
  clear hp3 hb3
  go_wp2_with fail
  refine (Same2 _ _ a3 c3 _ _ HP3.out HL3.out).mono ?_
  rintro e w4 ⟨rfl, hb4⟩
  have HE4 : Hid (Below w.heap.size w w4) := HE3.out.trans (hb4.mono HE3.out.size)
  clear hb4
  by_cases hs0 : s.size = 0
  · have q1 : s.toList.isEmpty = true := by rw [empty_size]; simp [hs0]
    go_wp2_with fail
    go_ret
    exact ⟨rfl, HE4.out⟩
  · have q1 : s.toList.isEmpty = false := by rw [empty_size]; simp [hs0]
    by_cases ht0 : t.size = 0
    · have q2 : t.toList.isEmpty = true := by rw [empty_size]; simp [ht0]
      go_wp2_with fail
      go_ret
      exact ⟨rfl, HE4.out⟩
    · have q2 : t.toList.isEmpty = false := by rw [empty_size]; simp [ht0]
      by_cases h5 : s.size + t.size ≤ 500
      · have HED : Hid ((compE [putP s] [keepP s.size, putP t] = 0 ∧ compL [putP s] [keepP s.size, putP t] = [putP (s ++ t)]) ∧ (compE [putP s] [cutP s.size] = 0 ∧ compL [putP s] [cutP s.size] = []) ∧
            (compE [putP s] [putP t, cutP s.size] = 0 ∧ compL [putP s] [putP t, cutP s.size] = [putP t])) := edges (by omega) (by omega) h5
        have q3 : ¬ (500 : Int) < (s.size : Int) + (t.size : Int) := by omega
        have hs5 : s.size ≤ 500 := by omega
        have ht5 : t.size ≤ 500 := by omega
        have hsp : 0 < s.size := by omega
        have hst : (s ++ t).size ≤ 9223372036854775807 := by rw [ByteArray.size_append]; omega
        have BKT : Hid (Bound [keepP s.size, putP t]) := ⟨by simp, by intro p hp; simp at hp; rcases hp with rfl | rfl <;> exact ⟨by simp [keepP, putP]; try omega, by simp [keepP, putP]; try omega, by simp [keepP, putP]; try omega, by simp [keepP, putP], by simp [keepP, putP]⟩⟩
        have BCS : Hid (Bound [cutP s.size]) := ⟨by simp, by intro p hp; simp at hp; subst hp; exact ⟨by simp [cutP], by simp [cutP]; try omega, by simp [cutP]; try omega, by simp [cutP], by simp [cutP]⟩⟩
        have BTC : Hid (Bound [putP t, cutP s.size]) := ⟨by simp, by intro p hp; simp at hp; rcases hp with rfl | rfl <;> exact ⟨by simp [cutP, putP]; try omega, by simp [cutP, putP]; try omega, by simp [cutP, putP]; try omega, by simp [cutP, putP], by simp [cutP, putP]⟩⟩
        clear hs0 ht0
        go_wp2_with fail
        refine (put_any s _ (by omega)).mono ?_
        rintro e w5 ⟨rfl, hp5, hb5⟩
        have HE5 : Hid (Below w.heap.size w (w5.alloc (.cells #[.int .i64 1, .int .i64 s.size, .string ⟨#[]⟩, .int .i64 2, .int .i64 0, .string t] 28))) := (HE4.out.trans (hb5.mono HE4.out.size)).alloc (Nat.le_trans HE4.out.size hb5.size) _
        have HP5 : Hid (PartsAt (w5.alloc (.cells #[.int .i64 1, .int .i64 s.size, .string ⟨#[]⟩, .int .i64 2, .int .i64 0, .string t] 28)) (w5.alloc (.cells #[.int .i64 1, .int .i64 s.size, .string ⟨#[]⟩, .int .i64 2, .int .i64 0, .string t] 28)).heap.size (some ⟨w4.heap.size, 0, none⟩) [putP s]) := hp5.here ((Below.refl _ _).alloc (Nat.le_refl _) _) (Nat.le_refl _)
        have HL5 : Hid (PartsAt (w5.alloc (.cells #[.int .i64 1, .int .i64 s.size, .string ⟨#[]⟩, .int .i64 2, .int .i64 0, .string t] 28)) (w5.alloc (.cells #[.int .i64 1, .int .i64 s.size, .string ⟨#[]⟩, .int .i64 2, .int .i64 0, .string t] 28)).heap.size (some ⟨w5.heap.size, 0, none⟩) [keepP s.size, putP t]) := lit_at w5 _ BKT.out _ rfl
        clear hp5 hb5
        go_wp2_with fail
        refine (Comp12 HED.out.1 _ _ _ HP5.out HL5.out).mono ?_
        rintro e w6 ⟨a6, c6, rfl, hp6, hb6⟩
        have HE6 : Hid (Below w.heap.size w w6) := HE5.out.trans (hb6.mono HE5.out.size)
        have HD6 : Hid (PartsAt w6 w6.heap.size a6 [putP (s ++ t)]) := hp6
        clear hp6 hb6
        go_wp2_with fail
        refine (put_any s _ (by omega)).mono ?_
        rintro e w7 ⟨rfl, hp7, hb7⟩
        have HE7 : Hid (Below w.heap.size w (w7.alloc (.cells #[.int .i64 3, .int .i64 s.size, .string ⟨#[]⟩] 28))) := (HE6.out.trans (hb7.mono HE6.out.size)).alloc (Nat.le_trans HE6.out.size hb7.size) _
        have HD7 : Hid (PartsAt (w7.alloc (.cells #[.int .i64 3, .int .i64 s.size, .string ⟨#[]⟩] 28)) (w7.alloc (.cells #[.int .i64 3, .int .i64 s.size, .string ⟨#[]⟩] 28)).heap.size a6 [putP (s ++ t)]) := (HD6.out.here hb7 (Nat.le_refl _)).here ((Below.refl _ _).alloc (Nat.le_refl _) _) (Nat.le_refl _)
        have HP7 : Hid (PartsAt (w7.alloc (.cells #[.int .i64 3, .int .i64 s.size, .string ⟨#[]⟩] 28)) (w7.alloc (.cells #[.int .i64 3, .int .i64 s.size, .string ⟨#[]⟩] 28)).heap.size (some ⟨w6.heap.size, 0, none⟩) [putP s]) := hp7.here ((Below.refl _ _).alloc (Nat.le_refl _) _) (Nat.le_refl _)
        have HL7 : Hid (PartsAt (w7.alloc (.cells #[.int .i64 3, .int .i64 s.size, .string ⟨#[]⟩] 28)) (w7.alloc (.cells #[.int .i64 3, .int .i64 s.size, .string ⟨#[]⟩] 28)).heap.size (some ⟨w7.heap.size, 0, none⟩) [cutP s.size]) := lit_at w7 _ BCS.out _ rfl
        clear hp7 hb7
        go_wp2_with fail
        refine (Comp10 HED.out.2.1 _ _ _ HP7.out HL7.out).mono ?_
        rintro e w8 ⟨a8, c8, rfl, hb8⟩
        have HE8 : Hid (Below w.heap.size w w8) := HE7.out.trans (hb8.mono HE7.out.size)
        have HD8 : Hid (PartsAt w8 w8.heap.size a6 [putP (s ++ t)]) := HD7.out.here hb8 (Nat.le_refl _)
        clear hb8
        go_wp2_with fail
        refine (put_any s _ (by omega)).mono ?_
        rintro e w9 ⟨rfl, hp9, hb9⟩
        have HE9 : Hid (Below w.heap.size w (w9.alloc (.cells #[.int .i64 2, .int .i64 0, .string t, .int .i64 3, .int .i64 s.size, .string ⟨#[]⟩] 28))) := (HE8.out.trans (hb9.mono HE8.out.size)).alloc (Nat.le_trans HE8.out.size hb9.size) _
        have HD9 : Hid (PartsAt (w9.alloc (.cells #[.int .i64 2, .int .i64 0, .string t, .int .i64 3, .int .i64 s.size, .string ⟨#[]⟩] 28)) (w9.alloc (.cells #[.int .i64 2, .int .i64 0, .string t, .int .i64 3, .int .i64 s.size, .string ⟨#[]⟩] 28)).heap.size a6 [putP (s ++ t)]) := (HD8.out.here hb9 (Nat.le_refl _)).here ((Below.refl _ _).alloc (Nat.le_refl _) _) (Nat.le_refl _)
        have HP9 : Hid (PartsAt (w9.alloc (.cells #[.int .i64 2, .int .i64 0, .string t, .int .i64 3, .int .i64 s.size, .string ⟨#[]⟩] 28)) (w9.alloc (.cells #[.int .i64 2, .int .i64 0, .string t, .int .i64 3, .int .i64 s.size, .string ⟨#[]⟩] 28)).heap.size (some ⟨w8.heap.size, 0, none⟩) [putP s]) := hp9.here ((Below.refl _ _).alloc (Nat.le_refl _) _) (Nat.le_refl _)
        have HL9 : Hid (PartsAt (w9.alloc (.cells #[.int .i64 2, .int .i64 0, .string t, .int .i64 3, .int .i64 s.size, .string ⟨#[]⟩] 28)) (w9.alloc (.cells #[.int .i64 2, .int .i64 0, .string t, .int .i64 3, .int .i64 s.size, .string ⟨#[]⟩] 28)).heap.size (some ⟨w9.heap.size, 0, none⟩) [putP t, cutP s.size]) := lit_at w9 _ BTC.out _ rfl
        clear hp9 hb9
        go_wp2_with fail
        refine (Comp12 HED.out.2.2 _ _ _ HP9.out HL9.out).mono ?_
        rintro e w10 ⟨a10, c10, rfl, hp10, hb10⟩
        have HE10 : Hid (Below w.heap.size w w10) := HE9.out.trans (hb10.mono HE9.out.size)
        have HD10 : Hid (PartsAt w10 w10.heap.size a6 [putP (s ++ t)]) := HD9.out.here hb10 (Nat.le_refl _)
        have HY10 : Hid (PartsAt w10 w10.heap.size a10 [putP t]) := hp10
        clear hp10 hb10
        go_wp2_with fail
        refine (Within_any n s.size _ hsp (by omega)).mono ?_
        rintro e w11 ⟨r, rfl, hr, rfl⟩
        have HDA : Hid (PartsAt ((w11.alloc (.cells #[.int .i64 3, .int .i64 ((r : Int) + 1), .string ⟨#[]⟩, .int .i64 1, .int .i64 3, .string ⟨#[]⟩] 28)).alloc (.cells #[.int .i64 3, .int .i64 3, .string ⟨#[]⟩] 28)) ((w11.alloc (.cells #[.int .i64 3, .int .i64 ((r : Int) + 1), .string ⟨#[]⟩, .int .i64 1, .int .i64 3, .string ⟨#[]⟩] 28)).alloc (.cells #[.int .i64 3, .int .i64 3, .string ⟨#[]⟩] 28)).heap.size a6 [putP (s ++ t)]) := (HD10.out.here ((Below.refl _ _).alloc (Nat.le_refl _) _) (Nat.le_refl _)).here ((Below.refl _ _).alloc (Nat.le_refl _) _) (Nat.le_refl _)
        have HYA : Hid (PartsAt ((w11.alloc (.cells #[.int .i64 3, .int .i64 ((r : Int) + 1), .string ⟨#[]⟩, .int .i64 1, .int .i64 3, .string ⟨#[]⟩] 28)).alloc (.cells #[.int .i64 3, .int .i64 3, .string ⟨#[]⟩] 28)) ((w11.alloc (.cells #[.int .i64 3, .int .i64 ((r : Int) + 1), .string ⟨#[]⟩, .int .i64 1, .int .i64 3, .string ⟨#[]⟩] 28)).alloc (.cells #[.int .i64 3, .int .i64 3, .string ⟨#[]⟩] 28)).heap.size a10 [putP t]) := (HY10.out.here ((Below.refl _ _).alloc (Nat.le_refl _) _) (Nat.le_refl _)).here ((Below.refl _ _).alloc (Nat.le_refl _) _) (Nat.le_refl _)
        have BCK : Hid (Bound [cutP ((r : Int) + 1), keepP 3]) := ⟨by simp, by intro p hp; simp at hp; rcases hp with rfl | rfl <;> exact ⟨by simp [cutP, keepP], by simp [cutP, keepP]; try omega, by simp [cutP, keepP]; try omega, by simp [cutP, keepP], by simp [cutP, keepP]⟩⟩
        have BC3 : Hid (Bound [cutP ((r : Int) + 1 + 3)]) := ⟨by simp, by intro p hp; simp at hp; subst hp; exact ⟨by simp [cutP], by simp [cutP]; try omega, by simp [cutP]; try omega, by simp [cutP], by simp [cutP]⟩⟩
        have HX1 : Hid (PartsAt ((w11.alloc (.cells #[.int .i64 3, .int .i64 ((r : Int) + 1), .string ⟨#[]⟩, .int .i64 1, .int .i64 3, .string ⟨#[]⟩] 28)).alloc (.cells #[.int .i64 3, .int .i64 3, .string ⟨#[]⟩] 28)) ((w11.alloc (.cells #[.int .i64 3, .int .i64 ((r : Int) + 1), .string ⟨#[]⟩, .int .i64 1, .int .i64 3, .string ⟨#[]⟩] 28)).alloc (.cells #[.int .i64 3, .int .i64 3, .string ⟨#[]⟩] 28)).heap.size (some ⟨w11.heap.size, 0, none⟩) [cutP ((r : Int) + 1), keepP 3]) := (lit_at w11 _ BCK.out _ rfl).here ((Below.refl _ _).alloc (Nat.le_refl _) _) (Nat.le_refl _)
        have HX2 : Hid (PartsAt ((w11.alloc (.cells #[.int .i64 3, .int .i64 ((r : Int) + 1), .string ⟨#[]⟩, .int .i64 1, .int .i64 3, .string ⟨#[]⟩] 28)).alloc (.cells #[.int .i64 3, .int .i64 3, .string ⟨#[]⟩] 28)) ((w11.alloc (.cells #[.int .i64 3, .int .i64 ((r : Int) + 1), .string ⟨#[]⟩, .int .i64 1, .int .i64 3, .string ⟨#[]⟩] 28)).alloc (.cells #[.int .i64 3, .int .i64 3, .string ⟨#[]⟩] 28)).heap.size (some ⟨w11.heap.size + 1, 0, none⟩) [cutP 3]) := by
          have h := lit_at (w11.alloc (.cells #[.int .i64 3, .int .i64 ((r : Int) + 1), .string ⟨#[]⟩, .int .i64 1, .int .i64 3, .string ⟨#[]⟩] 28)) [cutP 3] (small_bound (by decide)) _ rfl
          rw [show (w11.alloc (.cells #[.int .i64 3, .int .i64 ((r : Int) + 1), .string ⟨#[]⟩, .int .i64 1, .int .i64 3, .string ⟨#[]⟩] 28)).heap.size = w11.heap.size + 1 from Deep.nblk_alloc _ _] at h
          exact h
        have HEA : Hid (Below w.heap.size w ((w11.alloc (.cells #[.int .i64 3, .int .i64 ((r : Int) + 1), .string ⟨#[]⟩, .int .i64 1, .int .i64 3, .string ⟨#[]⟩] 28)).alloc (.cells #[.int .i64 3, .int .i64 3, .string ⟨#[]⟩] 28))) := (HE10.out.alloc HE10.out.size _).alloc (by have := HE10.out.size; simp; omega) _
        by_cases h7 : (r : Int) + 1 ≤ 497
        · have q7 : ¬ (497 : Int) < (r : Int) + 1 := by omega
          have HEN : Hid (compE [cutP ((r : Int) + 1), keepP 3] [cutP 3] = 0 ∧ compL [cutP ((r : Int) + 1), keepP 3] [cutP 3] = [cutP ((r : Int) + 1 + 3)]) := edgesN (by omega) h7
          go_wp2_with fail
          refine (Comp21 HEN.out _ _ _ HX1.out HX2.out).mono ?_
          rintro e w12 ⟨a12, c12, rfl, hp12, hb12⟩
          have HE12 : Hid (Below w.heap.size w w12) := HEA.out.trans (hb12.mono HEA.out.size)
          have HZ12 : Hid (PartsAt w12 w12.heap.size a12 [cutP ((r : Int) + 1 + 3)]) := hp12
          have HD12 : Hid (PartsAt w12 w12.heap.size a6 [putP (s ++ t)]) := HDA.out.here hb12 (Nat.le_refl _)
          have HY12 : Hid (PartsAt w12 w12.heap.size a10 [putP t]) := HYA.out.here hb12 (Nat.le_refl _)
          clear hp12 hb12
          go_wp2_with fail
          refine (put_any (s ++ t) _ hst).mono ?_
          rintro e w13 ⟨rfl, hp13, hb13⟩
          have HE13 : Hid (Below w.heap.size w w13) := HE12.out.trans (hb13.mono HE12.out.size)
          have HP13 : Hid (PartsAt w13 w13.heap.size (some ⟨w12.heap.size, 0, none⟩) [putP (s ++ t)]) := hp13
          have HD13 : Hid (PartsAt w13 w13.heap.size a6 [putP (s ++ t)]) := HD12.out.here hb13 (Nat.le_refl _)
          have HY13 : Hid (PartsAt w13 w13.heap.size a10 [putP t]) := HY12.out.here hb13 (Nat.le_refl _)
          have HZ13 : Hid (PartsAt w13 w13.heap.size a12 [cutP ((r : Int) + 1 + 3)]) := HZ12.out.here hb13 (Nat.le_refl _)
          clear hp13 hb13
          go_wp2_with fail
          refine (SameE _ a6 c6 _ 1 _ HD13.out HP13.out).mono ?_
          rintro e w14 ⟨rfl, hb14⟩
          have HE14 : Hid (Below w.heap.size w w14) := HE13.out.trans (hb14.mono HE13.out.size)
          have HY14 : Hid (PartsAt w14 w14.heap.size a10 [putP t]) := HY13.out.here hb14 (Nat.le_refl _)
          have HZ14 : Hid (PartsAt w14 w14.heap.size a12 [cutP ((r : Int) + 1 + 3)]) := HZ13.out.here hb14 (Nat.le_refl _)
          clear hb14
          go_wp2_with fail
          refine (put_any t _ (by omega)).mono ?_
          rintro e w15 ⟨rfl, hp15, hb15⟩
          have HE15 : Hid (Below w.heap.size w w15) := HE14.out.trans (hb15.mono HE14.out.size)
          have HP15 : Hid (PartsAt w15 w15.heap.size (some ⟨w14.heap.size, 0, none⟩) [putP t]) := hp15
          have HY15 : Hid (PartsAt w15 w15.heap.size a10 [putP t]) := HY14.out.here hb15 (Nat.le_refl _)
          have HZ15 : Hid (PartsAt w15 w15.heap.size a12 [cutP ((r : Int) + 1 + 3)]) := HZ14.out.here hb15 (Nat.le_refl _)
          clear hp15 hb15
          go_wp2_with fail
          refine (SameE _ a10 c10 _ 1 _ HY15.out HP15.out).mono ?_
          rintro e w16 ⟨rfl, hb16⟩
          have HE16 : Hid (Below w.heap.size w (w16.alloc (.cells #[.int .i64 3, .int .i64 ((r : Int) + 1 + 3), .string ⟨#[]⟩] 28))) := (HE15.out.trans (hb16.mono HE15.out.size)).alloc (Nat.le_trans HE15.out.size hb16.size) _
          have HZ16 : Hid (PartsAt (w16.alloc (.cells #[.int .i64 3, .int .i64 ((r : Int) + 1 + 3), .string ⟨#[]⟩] 28)) (w16.alloc (.cells #[.int .i64 3, .int .i64 ((r : Int) + 1 + 3), .string ⟨#[]⟩] 28)).heap.size a12 [cutP ((r : Int) + 1 + 3)]) := (HZ15.out.here hb16 (Nat.le_refl _)).here ((Below.refl _ _).alloc (Nat.le_refl _) _) (Nat.le_refl _)
          have HM16 : Hid (PartsAt (w16.alloc (.cells #[.int .i64 3, .int .i64 ((r : Int) + 1 + 3), .string ⟨#[]⟩] 28)) (w16.alloc (.cells #[.int .i64 3, .int .i64 ((r : Int) + 1 + 3), .string ⟨#[]⟩] 28)).heap.size (some ⟨w16.heap.size, 0, none⟩) [cutP ((r : Int) + 1 + 3)]) := lit_at w16 _ BC3.out _ rfl
          clear hb16
          go_wp2_with fail
          refine (SameE _ a12 c12 _ 1 _ HZ16.out HM16.out).mono ?_
          rintro e w17 ⟨rfl, hb17⟩
          have HE17 : Hid (Below w.heap.size w w17) := HE16.out.trans (hb17.mono HE16.out.size)
          clear hb17
          go_wp2_with fail
          go_ret
          exact ⟨rfl, HE17.out⟩
        · have q7 : (497 : Int) < (r : Int) + 1 := by omega
          go_wp2_with fail
          refine (CompAny21 _ _ _ _ _ _ HX1.out HX2.out).mono ?_
          rintro e w12 ⟨a12, n12, c12, f12, rfl, hb12⟩
          have HE12 : Hid (Below w.heap.size w w12) := HEA.out.trans (hb12.mono HEA.out.size)
          have HD12 : Hid (PartsAt w12 w12.heap.size a6 [putP (s ++ t)]) := HDA.out.here hb12 (Nat.le_refl _)
          have HY12 : Hid (PartsAt w12 w12.heap.size a10 [putP t]) := HYA.out.here hb12 (Nat.le_refl _)
          clear hb12
          go_wp2_with fail
          refine (put_any (s ++ t) _ hst).mono ?_
          rintro e w13 ⟨rfl, hp13, hb13⟩
          have HE13 : Hid (Below w.heap.size w w13) := HE12.out.trans (hb13.mono HE12.out.size)
          have HP13 : Hid (PartsAt w13 w13.heap.size (some ⟨w12.heap.size, 0, none⟩) [putP (s ++ t)]) := hp13
          have HD13 : Hid (PartsAt w13 w13.heap.size a6 [putP (s ++ t)]) := HD12.out.here hb13 (Nat.le_refl _)
          have HY13 : Hid (PartsAt w13 w13.heap.size a10 [putP t]) := HY12.out.here hb13 (Nat.le_refl _)
          clear hp13 hb13
          go_wp2_with fail
          refine (SameE _ a6 c6 _ 1 _ HD13.out HP13.out).mono ?_
          rintro e w14 ⟨rfl, hb14⟩
          have HE14 : Hid (Below w.heap.size w w14) := HE13.out.trans (hb14.mono HE13.out.size)
          have HY14 : Hid (PartsAt w14 w14.heap.size a10 [putP t]) := HY13.out.here hb14 (Nat.le_refl _)
          clear hb14
          go_wp2_with fail
          refine (put_any t _ (by omega)).mono ?_
          rintro e w15 ⟨rfl, hp15, hb15⟩
          have HE15 : Hid (Below w.heap.size w w15) := HE14.out.trans (hb15.mono HE14.out.size)
          have HP15 : Hid (PartsAt w15 w15.heap.size (some ⟨w14.heap.size, 0, none⟩) [putP t]) := hp15
          have HY15 : Hid (PartsAt w15 w15.heap.size a10 [putP t]) := HY14.out.here hb15 (Nat.le_refl _)
          clear hp15 hb15
          go_wp2_with fail
          refine (SameE _ a10 c10 _ 1 _ HY15.out HP15.out).mono ?_
          rintro e w16 ⟨rfl, hb16⟩
          have HE16 : Hid (Below w.heap.size w w16) := HE15.out.trans (hb16.mono HE15.out.size)
          clear hb16
          go_wp2_with fail
          go_ret
          exact ⟨rfl, HE16.out⟩
      · have q3 : (500 : Int) < (s.size : Int) + (t.size : Int) := by omega
        go_wp2_with fail
        go_ret
        exact ⟨rfl, HE4.out⟩

end Go.Proofs.Ytdkmgcfdhlbpiab
