/- What a move leaves as it was. -/
import Derived.Test.YtcghojnmnmmpoaaShRun
namespace Go.Proofs.Ytcghojnmnmmpoaa
open Go.RowKit
set_option linter.unusedSimpArgs false
set_option linter.unusedVariables false

theorem change_facts {S : Sh} {a b : List Rv} {m : Nat} (h : ShInv S a b m) (h3 : S.stage = 3) : (changeS S).log.base = S.floor ∧ (changeS S).log.gen = S.log.gen + 1 ∧ (changeS S).log.revs = S.log.revs.drop (S.floor - S.log.base) ∧ (changeS S).log.text = flX S ∧ (changeS S).log.table = S.log.table ∧ S.log.base ≤ S.floor ∧ S.floor ≤ headN S := by
  obtain ⟨a', b', e1, e2, e3, hfr⟩ := change_log h h3
  obtain ⟨hg, hb, hf, y0, y1, _⟩ := h.oth.three h3
  obtain ⟨f1, f2, f3, f4, f5⟩ := h.floor hg hb hf
  obtain ⟨g1, g2, g3, g4, g5, g6, g7⟩ := add_facts (a' ++ b') (headS (S.log.gen + 1) S.floor (flT S) (flX S))
  have e : (changeS S).log = logS (scanL S.o.data.toList).1 := rfl
  rw [e, e3]
  refine ⟨?_, ?_, ?_, ?_, ?_, hb, hf⟩
  · show (addL _ _).base = _
    rw [g2]; rfl
  · show (addL _ _).gen = _
    rw [g3]; rfl
  · show (addL _ _).revs = _
    rw [g1, ← e1]; rfl
  · show (addL _ _).text = _
    rw [g4]; rfl
  · show (addL _ _).table = _
    rw [e1]
    exact f4
theorem text_same {S T : Sh} (h : T.log = S.log) (k : Int) : shTextR T k = shTextR S k := by
  unfold shTextR hasE headN
  rw [h]
theorem head_same {S T : Sh} (h : T.log = S.log) : headN T = headN S := by
  unfold headN
  rw [h]
/-- what a step leaves -/
structure Said (S T : Sh) : Prop where
  head : headN T = headN S
  base : S.log.base ≤ T.log.base
  text : ∀ k : Nat, T.log.base ≤ k → k ≤ headN S → shTextR T (k : Int) = shTextR S (k : Int)
  table : T.log.table = S.log.table
theorem said_same {S T : Sh} (h : T.log = S.log) : Said S T := ⟨head_same h, by rw [h]; exact Nat.le_refl _, fun k _ _ => text_same h k, by rw [h]⟩
theorem step_said {S : Sh} (h : SGood S) : Said S (stepS S) := by
  obtain ⟨a, b, m, h, _⟩ := h
  unfold stepS
  split
  · exact said_same (head_revs S)
  · split
    · exact said_same (next_revs S)
    · split
      · rename_i h3
        obtain ⟨e1, e2, e3, e4, e5, e6, e7⟩ := change_facts h h3
        have hfk : S.floor - S.log.base ≤ S.log.revs.length := by unfold headN at e7; omega
        have hhd : headN (changeS S) = headN S := by
          unfold headN at e7 ⊢
          rw [e1, e3, List.length_drop]
          omega
        refine ⟨hhd, by rw [e1]; exact e6, fun k k1 k2 => ?_, e5⟩
        rw [shText_of k1 (by rw [hhd]; exact k2), e1, e3, e4]
        rw [e1] at k1
        rw [shText_of (by omega) k2]
        unfold flX
        rw [textAt_from _ _ _ _ hfk, show S.floor - S.log.base + (k - S.floor) = k - S.log.base by omega]
      · split
        · exact said_same (over_revs S)
        · exact said_same rfl
theorem add_said {S : Sh} (h : SGood S) {r : Rv} (h0 : addE S r = 0) : headN (addT S r) = headN S + 1 ∧ (addT S r).log.base = S.log.base ∧ (∀ k : Nat, S.log.base ≤ k → k ≤ headN S → shTextR (addT S r) (k : Int) = shTextR S (k : Int)) := by
  have e : addT S r = addS S r := by rw [addT, if_pos h0]
  have hb : (addS S r).log.base = S.log.base := rfl
  have hr : (addS S r).log.revs = S.log.revs ++ [r] := rfl
  have hx : (addS S r).log.text = S.log.text := rfl
  have hh : headN (addS S r) = headN S + 1 := by
    unfold headN
    rw [hb, hr, List.length_append, List.length_singleton]
    omega
  rw [e]
  refine ⟨hh, hb, fun k k1 k2 => ?_⟩
  rw [shText_of (by rw [hb]; exact k1) (by rw [hh]; omega), shText_of k1 k2, hb, hr, hx]
  exact textAt_pre _ _ _ _ (by unfold headN at k2; omega)
/-- how far a move from the first log has come -/
def MvSt (S : Sh) (fl n : Nat) : Prop :=
  (S.stage = 1 ∧ n = 0 ∧ S.floor = fl ∧ S.said = fl ∧ S.log.base = 0 ∧ S.log.gen = 1 ∧ fl ≤ headN S) ∨
  (S.stage = 2 ∧ n = 1 + (S.said - fl) ∧ fl ≤ S.said ∧ S.said ≤ headN S ∧ S.floor = fl ∧ S.log.base = 0 ∧ S.log.gen = 1) ∨
  (S.stage = 3 ∧ n ≤ 66 ∧ S.floor = fl ∧ S.log.base = 0 ∧ S.log.gen = 1) ∨
  (S.stage = 4 ∧ n ≤ 67 ∧ S.log.base = fl ∧ S.log.gen = 2) ∨ (S.stage = 0 ∧ n ≤ 68 ∧ S.log.base = fl ∧ S.log.gen = 2)
theorem MvSt.bound {S : Sh} {fl n : Nat} (h : MvSt S fl n) (hg : SGood S) : n ≤ 68 := by
  have hb := hg.bounds
  rcases h with h | h | h | h | h
  · omega
  · obtain ⟨_, h1, h2, h3, _, h4, _⟩ := h
    have : headN S = S.log.revs.length := by unfold headN; omega
    omega
  · omega
  · omega
  · omega
theorem disk_stage (S : Sh) (c o : ByteArray) (x y : Int) (n : Nat) : ({ S.disk c x o y with stage := n } : Sh).stage = n ∧ ({ S.disk c x o y with stage := n } : Sh).floor = S.floor ∧ ({ S.disk c x o y with stage := n } : Sh).said = S.said := ⟨rfl, rfl, rfl⟩
theorem head_stage (S : Sh) : (stepHead S).stage = 2 ∧ (stepHead S).floor = S.floor ∧ (stepHead S).said = S.said := by
  unfold stepHead
  generalize headB S = q
  exact disk_stage S _ _ _ _ _
theorem next_stage (S : Sh) : (S.said = headN S → (stepNext S).stage = 3 ∧ (stepNext S).floor = S.floor) ∧ (S.said ≠ headN S → (stepNext S).stage = S.stage ∧ (stepNext S).floor = S.floor ∧ (stepNext S).said = S.said + 1) := by
  unfold stepNext
  refine ⟨fun h => ?_, fun h => ?_⟩
  · rw [if_pos h]; exact ⟨rfl, rfl⟩
  · rw [if_neg h]; exact ⟨rfl, rfl, rfl⟩
theorem mv_step {S : Sh} (hg : SGood S) {fl n : Nat} (h : MvSt S fl n) (h0 : S.stage ≠ 0) : MvSt (stepS S) fl (n + 1) := by
  have hb := hg.bounds
  rcases h with ⟨h1, h2, h3, h4, h5, h6, h7⟩ | ⟨h1, h2, h3, h4, h5, h6, h7⟩ | ⟨h1, h2, h3, h4, h5⟩ | ⟨h1, h2, h3, h4⟩ | ⟨h1, _⟩
  · have e : stepS S = stepHead S := by unfold stepS; rw [if_pos h1]
    obtain ⟨g1, g2, g3⟩ := head_stage S
    have g4 := head_revs S
    rw [e]
    exact .inr (.inl ⟨g1, by rw [g3]; omega, by rw [g3]; omega, by rw [g3, head_same g4]; omega, by rw [g2]; exact h3, by rw [g4]; exact h5, by rw [g4]; exact h6⟩)
  · have e : stepS S = stepNext S := by unfold stepS; rw [if_neg (by omega), if_pos h1]
    have g4 := next_revs S
    obtain ⟨g1, g2⟩ := next_stage S
    have hr : headN S = S.log.revs.length := by unfold headN; omega
    rw [e]
    by_cases hs : S.said = headN S
    · obtain ⟨g5, g6⟩ := g1 hs
      exact .inr (.inr (.inl ⟨g5, by omega, by rw [g6]; exact h5, by rw [g4]; exact h6, by rw [g4]; exact h7⟩))
    · obtain ⟨g5, g6, g7⟩ := g2 hs
      exact .inr (.inl ⟨by rw [g5]; exact h1, by rw [g7]; omega, by rw [g7]; omega, by rw [g7, head_same g4]; omega, by rw [g6]; exact h5, by rw [g4]; exact h6, by rw [g4]; exact h7⟩)
  · have e : stepS S = changeS S := by unfold stepS; rw [if_neg (by omega), if_neg (by omega), if_pos h1]
    obtain ⟨a, b, m, hi, _⟩ := hg
    obtain ⟨e1, e2, _⟩ := change_facts hi h1
    rw [e]
    exact .inr (.inr (.inr (.inl ⟨rfl, by omega, by rw [e1]; exact h3, by rw [e2]; omega⟩)))
  · have e : stepS S = overS S := by unfold stepS; rw [if_neg (by omega), if_neg (by omega), if_neg (by omega), if_pos h1]
    have g4 := over_revs S
    rw [e]
    exact .inr (.inr (.inr (.inr ⟨rfl, by omega, by rw [g4]; exact h3, by rw [g4]; exact h4⟩)))
  · exact absurd h1 h0
theorem mv_add {S : Sh} (hg : SGood S) {fl n : Nat} (h : MvSt S fl n) (r : Rv) : MvSt (addT S r) fl n := by
  obtain ⟨s1, s2, s3, s4, s5, s6, s7⟩ := addT_same S r
  have hh : headN S ≤ headN (addT S r) := by
    by_cases h0 : addE S r = 0
    · have := (add_said hg h0).1; omega
    · have e : addT S r = S := by rw [addT, if_neg h0]
      rw [e]; exact Nat.le_refl _
  unfold MvSt at h ⊢
  rw [s1, s3, s4, s5, s6]
  rcases h with ⟨h1, h2, h3, h4, h5, h6, h7⟩ | ⟨h1, h2, h3, h4, h5, h6, h7⟩ | h | h | h
  · exact .inl ⟨h1, h2, h3, h4, h5, h6, by omega⟩
  · exact .inr (.inl ⟨h1, h2, h3, by omega, h5, h6, h7⟩)
  · exact .inr (.inr (.inl h))
  · exact .inr (.inr (.inr (.inl h)))
  · exact .inr (.inr (.inr (.inr h)))
theorem stepB_yes {S : Sh} (hg : SGood S) (h : S.stage ≠ 0) : stepB S = true := by
  obtain ⟨a, b, m, hi, _⟩ := hg
  have := hi.oth.stage
  unfold stepB
  exact decide_eq_true (by omega)
theorem stepB_no {S : Sh} (h : S.stage = 0) : stepB S = false := by
  unfold stepB
  exact decide_eq_false (by omega)
/-- the texts, as they were told -/
structure Told (S : Sh) (T : List ByteArray) : Prop where
  len : T.length = headN S + 1
  text : ∀ k : Nat, S.log.base ≤ k → k ≤ headN S → T[k]? = some ⟨(shTextR S (k : Int)).toArray⟩
theorem told_step {S : Sh} {T : List ByteArray} (hg : SGood S) (h : Told S T) : Told (stepS S) T := by
  obtain ⟨h1, h2, h3, _⟩ := step_said hg
  refine ⟨by rw [h1]; exact h.len, fun k k1 k2 => ?_⟩
  rw [h1] at k2
  rw [h3 k k1 k2]
  exact h.text k (by omega) k2
theorem told_not {S : Sh} {T : List ByteArray} (h : Told S T) {r : Rv} (h0 : addE S r ≠ 0) : Told (addT S r) T := by
  have e : addT S r = S := by rw [addT, if_neg h0]
  rw [e]; exact h
theorem told_add {S : Sh} {T : List ByteArray} (hg : SGood S) (h : Told S T) {r : Rv} (h0 : addE S r = 0) : Told (addT S r) (T ++ [⟨(shTextR (addT S r) ((headN S + 1 : Nat) : Int)).toArray⟩]) := by
  obtain ⟨h1, h2, h3⟩ := add_said hg h0
  refine ⟨by rw [h1, List.length_append, h.len]; rfl, fun k k1 k2 => ?_⟩
  rw [h1] at k2
  rw [h2] at k1
  by_cases hk : k ≤ headN S
  · rw [List.getElem?_append_left (by rw [h.len]; omega), h3 k k1 hk]
    exact h.text k k1 hk
  · have e : k = headN S + 1 := by omega
    rw [e, List.getElem?_append_right (by rw [h.len]; exact Nat.le_refl _), h.len, Nat.sub_self]
    rfl
/-- a row of texts that grows does nothing to an archive -/
theorem SG.grown {w w' : World} {g B n : Nat} {S : Sh} {v : Value} {xs : List Value} (h : SG w g S) (ho : w.ownsRow B 9 1 v n xs) (hg : w.grownBy w' v.ownBlock) : SG w' g S := by
  refine ⟨?_, h.2⟩
  obtain ⟨u, ys, hof⟩ := h.1
  have hne := own_ne' ho hof.1 (by decide)
  rcases ho.2 with ⟨rfl, _⟩ | ⟨k, cap, cur, rfl, _, hc, _⟩
  · exact ShIs.below ⟨u, ys, hof⟩ ⟨hg.os, hg.tape, hg.output, hg.size, fun j hj => hg.block j hj (by simp [Value.ownBlock])⟩
  · exact ShIs.aside ⟨u, ys, hof⟩ hc (by decide) (by decide) (fun e => hne (by simp [Value.ownBlock, e])) hg
theorem fill_one2 (w : World) (ad : Addr) (hp : PartsAt w w.heap.size (some ad) [⟨2, 0, ⟨#[97]⟩⟩]) : Calls Try.prog 9 #[.slice (some ⟨w.heap.size, 0, none⟩) 1 1] (w.alloc (.cells #[.int .i64 1, .int .i64 1, .slice (some ad) 1 1] 27)) fun e w' => ∃ g, e = .returned (.pointer (some ⟨g, 0, none⟩)) ∧ w.heap.size ≤ g ∧ SG w' g (fillS [oneRv]) ∧ Below w.heap.size w w' := by
  have hb : Below w.heap.size w (w.alloc (.cells #[.int .i64 1, .int .i64 1, .slice (some ad) 1 1] 27)) := (Below.refl _ w).alloc (Nat.le_refl _) _
  refine (Filled_any (some ⟨w.heap.size, 0, none⟩) [oneRv] 1 _ (revs_one w oneRv ⟨⟨by decide, by decide⟩, ⟨by decide, by decide⟩⟩ (some ad) 1 hp ⟨Nat.le_refl _, fun e => by cases e⟩)).mono ?_
  rintro e w' ⟨g, h1, h2, h3, h4⟩
  exact ⟨g, h1, Nat.le_trans hb.size h2, h3, hb.trans (h4.mono hb.size)⟩
end Go.Proofs.Ytcghojnmnmmpoaa
