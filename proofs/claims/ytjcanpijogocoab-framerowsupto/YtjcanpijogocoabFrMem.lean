/- A list of frames as it lies in memory; rows of frames of the call's own. -/
import Derived.Test.YtjcanpijogocoabFrameKit
import Derived.Test.YtjcanpijogocoabScanP
import Derived.OwnWalk
import Derived.Laws.OwnMore
namespace Go.Proofs.Ytjcanpijogocoab
open Go.RowKit
set_option linter.unusedSimpArgs false
set_option linter.unusedVariables false

/-- the frames l lie from address a on, below block B -/
def FrsAt (w : World) (B : Nat) (a : Option Addr) (l : List Fr) : Prop :=
  B ≤ w.heap.size ∧ (l ≠ [] → ∃ b off, a = some ⟨b, off, none⟩ ∧ b < B ∧ ∀ i f, l[i]? = some f → w.cell? ⟨b, off + i * 2, none⟩ = some (.int .i64 f.k) ∧ w.cell? ⟨b, off + i * 2 + 1, none⟩ = some (.string ⟨f.t.toArray⟩))
theorem FrsAt.below {w w' : World} {B B' : Nat} {a : Option Addr} {l : List Fr} (h : FrsAt w B a l) (hb : Below B' w w') (hB : B ≤ B') : FrsAt w' B a l := by
  obtain ⟨h1, h2⟩ := h
  refine ⟨Nat.le_trans h1 hb.size, fun hn => ?_⟩
  obtain ⟨b, off, ha, hlt, hc⟩ := h2 hn
  have hlt' : b < B' := Nat.lt_of_lt_of_le hlt hB
  refine ⟨b, off, ha, hlt, fun i f hi => ?_⟩
  obtain ⟨c1, c2⟩ := hc i f hi
  exact ⟨(hb.cell (p := ⟨b, _, none⟩) hlt').trans c1, (hb.cell (p := ⟨b, _, none⟩) hlt').trans c2⟩
theorem FrsAt.wider {w : World} {B B' : Nat} {a : Option Addr} {l : List Fr} (h : FrsAt w B a l) (h1 : B ≤ B') (h2 : B' ≤ w.heap.size) : FrsAt w B' a l := by
  refine ⟨h2, fun hn => ?_⟩
  obtain ⟨b, off, ha, hlt, hc⟩ := h.2 hn
  exact ⟨b, off, ha, by omega, hc⟩
theorem FrsAt.here {w w' : World} {B B' : Nat} {a : Option Addr} {l : List Fr} (h : FrsAt w B a l) (hb : Below B' w w') (hB : B ≤ B') : FrsAt w' w'.heap.size a l :=
  (h.below hb hB).wider (h.below hb hB).1 (Nat.le_refl _)
theorem FrsAt.mem {w : World} {B : Nat} {a : Option Addr} {l : List Fr} (h : FrsAt w B a l) {i : Nat} {f : Fr} (hi : l[i]? = some f) :
    ∃ b off, a = some ⟨b, off, none⟩ ∧ b < B ∧ w.cell? ⟨b, off + i * 2, none⟩ = some (.int .i64 f.k) ∧ w.cell? ⟨b, off + i * 2 + 1, none⟩ = some (.string ⟨f.t.toArray⟩) := by
  obtain ⟨b, off, ha, hlt, hc⟩ := h.2 (fun e => by subst e; simp at hi)
  exact ⟨b, off, ha, hlt, hc i f hi⟩
def frAll (l : List Fr) : List Value := l.flatMap (fun f => [.int .i64 f.k, .string ⟨f.t.toArray⟩])
theorem frAll_cons (f : Fr) (l : List Fr) : frAll (f :: l) = .int .i64 f.k :: .string ⟨f.t.toArray⟩ :: frAll l := rfl
theorem frAll_append (a b : List Fr) : frAll (a ++ b) = frAll a ++ frAll b := by simp [frAll]
theorem frAll_length (l : List Fr) : (frAll l).length = l.length * 2 := by
  induction l with
  | nil => rfl
  | cons f l ih => rw [frAll_cons]; simp only [List.length_cons, ih]; omega
theorem frAll_one (l : List Fr) : ∀ u ∈ frAll l, u.oneCell' = true := by
  intro u hu
  simp only [frAll, List.mem_flatMap] at hu
  obtain ⟨f, _, hu⟩ := hu
  simp only [List.mem_cons, List.not_mem_nil, or_false] at hu
  rcases hu with rfl | rfl <;> rfl
theorem frAll_at {l : List Fr} {i : Nat} {f : Fr} (h : l[i]? = some f) : (frAll l)[i * 2]? = some (.int .i64 f.k) ∧ (frAll l)[i * 2 + 1]? = some (.string ⟨f.t.toArray⟩) := by
  induction l generalizing i with
  | nil => simp at h
  | cons g l ih =>
    cases i with
    | zero =>
      simp at h
      subst h
      simp [frAll_cons]
    | succ j =>
      have h2 := ih (i := j) (by simpa using h)
      rw [frAll_cons, show (j + 1) * 2 = j * 2 + 1 + 1 by omega]
      refine ⟨by simpa using h2.1, ?_⟩
      rw [show j * 2 + 1 + 1 + 1 = (j * 2 + 1) + 1 + 1 by omega]
      simpa using h2.2
theorem frs_own {w : World} {B : Nat} {v : Value} {l : List Fr} (h : w.ownsRow B 23 2 v l.length (frAll l)) : ∃ a cap, v = .slice a l.length cap ∧ FrsAt w w.heap.size a l := by
  rcases h.2 with ⟨rfl, h0⟩ | ⟨g, cap, cur, rfl, hB, hg, hn, hm, hc, ht⟩
  · have : l = [] := List.length_eq_zero_iff.1 h0
    subst this
    exact ⟨none, 0, rfl, Nat.le_refl _, by simp⟩
  · refine ⟨some ⟨g, 0, none⟩, cap, rfl, Nat.le_refl _, fun _ => ⟨g, 0, rfl, lt_of_heap hg, fun i f hi => ?_⟩⟩
    obtain ⟨c1, c2⟩ := frAll_at hi
    have hil := (List.getElem?_eq_some_iff.1 hi).1
    refine ⟨?_, ?_⟩
    · rw [Nat.zero_add, h.cellAt _ (by omega)]; exact c1
    · rw [Nat.zero_add, h.cellAt _ (by omega)]; exact c2
theorem fr_snoc {w : World} {B : Nat} {v : Value} {l : List Fr} {f : Fr} (h : w.ownsRow B 23 2 v (l.length + 1) (frAll l ++ [.int .i64 f.k, .string ⟨f.t.toArray⟩])) : w.ownsRow B 23 2 v (l ++ [f]).length (frAll (l ++ [f])) := by
  rw [frAll_append, List.length_append]; exact h
theorem infoFrame : (Try.prog.info? 23).map (fun i => (i.zero, i.size, i.bytes)) = some (some (.agg #[.int .i64 0, .string ⟨#[]⟩]), 2, 24) := by kernel_rfl
set_option maxRecDepth 10000 in
theorem unlike_frame (k : Int) (t : ByteArray) (w : World) : (binOp .neq 23 (.agg #[.int .i64 k, .string t]) (.agg #[.int .i64 k, .string t])).run Try.prog w = .ok (.bool false) w := by
  have h := same_frame k k t t w
  rw [run_eql_struct] at h
  rw [run_neq_struct]
  cases hq : (Op.equalIn 10000 23 (.agg #[.int .i64 k, .string t]) (.agg #[.int .i64 k, .string t])).run Try.prog w with
  | ok b w' =>
    rw [hq] at h
    simp only [Result.andThen, Result.ok.injEq, Value.bool.injEq] at h
    obtain ⟨h1, rfl⟩ := h
    subst h1
    simp [Result.andThen]
  | halt x w' => rw [hq] at h; simp [Result.andThen] at h

set_option maxRecDepth 10000 in
set_option maxHeartbeats 1000000 in
theorem EqFr_yes (a b : Option Addr) (l : List Fr) (ca cb : Nat) (w : World) (hl : l.length ≤ 9223372036854775807) (ha : FrsAt w w.heap.size a l) (hb : FrsAt w w.heap.size b l) :
    Calls Try.prog 11 #[.slice a l.length ca, .slice b l.length cb] w fun e w' => e = .returned (.bool true) ∧ Below w.heap.size w w' := by
  go_enter Try.func11, Try.ntmps11
  go_wp2_with fail
  go_loopw [13] (fun i wr => ∃ k : Nat, k ≤ l.length ∧ i = .int .i64 k ∧ Below w.heap.size w wr) (fun i _ => l.length - (intOf i).toNat)
  case atStart => exact ⟨0, Nat.zero_le _, rfl, Below.refl _ _⟩
  case round =>
    rename World => wr
    obtain ⟨k, hk, rfl, hbe⟩ := hrel
    by_cases hlt : k < l.length
    · obtain ⟨f, hf⟩ : ∃ f, l[k]? = some f := ⟨l[k], List.getElem?_eq_getElem hlt⟩
      obtain ⟨b1, o1, rfl, hb1, c1, c2⟩ := (ha.below hbe (Nat.le_refl _)).mem hf
      obtain ⟨b2, o2, rfl, hb2, d1, d2⟩ := (hb.below hbe (Nat.le_refl _)).mem hf
      have hne := unlike_frame f.k ⟨f.t.toArray⟩
      have hki : (k : Int) < (l.length : Int) := by omega
      have HB : Hid (Below w.heap.size w wr) := hbe
      clear hf ha hb hbe
      go_wp2_with fail
      go_quiet (fail)
      go_wp2_with fail
      go_roundw
      case rel => exact ⟨k + 1, by omega, by go_num, below_drewN HB.out _⟩
      case measure => simp [intOf]; omega
    · go_wp2_with fail
      go_ret
      exact ⟨rfl, hbe⟩
end Go.Proofs.Ytjcanpijogocoab
