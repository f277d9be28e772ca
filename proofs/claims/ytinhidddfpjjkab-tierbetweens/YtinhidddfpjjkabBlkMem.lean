/- Blocks as they lie in memory; rows of blocks of the call's own; two such rows held against each other. -/
import Derived.Test.YtinhidddfpjjkabPtOwn
import Derived.Laws.OwnMore
import Derived.Laws.StructEq
import Derived.Laws.Entries
import Derived.Deep.QuietTactic
import Derived.BigQuiet
namespace Go.Proofs.Ytinhidddfpjjkab
open Go.RowKit
set_option linter.unusedSimpArgs false
set_option linter.unusedVariables false

/-- the blocks l (level, number) lie from address a on, below block B, with room for c -/
def BksAt (w : World) (B : Nat) (a : Option Addr) (l : List (Nat × Nat)) (c : Nat) : Prop :=
  l.length ≤ c ∧ c ≤ 9223372036854775807 ∧ B ≤ w.heap.size ∧ (l ≠ [] → ∃ b off, a = some ⟨b, off, none⟩ ∧ b < B ∧ ∀ (i : Nat) (f : Nat × Nat), l[i]? = some f → w.cell? ⟨b, off + i * 2, none⟩ = some (.int .i64 (f.1 : Int)) ∧ w.cell? ⟨b, off + i * 2 + 1, none⟩ = some (.int .i64 (f.2 : Int)))
theorem BksAt.below {w w' : World} {B B' : Nat} {a : Option Addr} {l : List (Nat × Nat)} {c : Nat} (h : BksAt w B a l c) (hb : Below B' w w') (hB : B ≤ B') : BksAt w' B a l c := by
  obtain ⟨h1, h0, h2, h3⟩ := h
  refine ⟨h1, h0, Nat.le_trans h2 hb.size, fun hn => ?_⟩
  obtain ⟨b, off, ha, hlt, hc⟩ := h3 hn
  have hlt' : b < B' := Nat.lt_of_lt_of_le hlt hB
  exact ⟨b, off, ha, hlt, fun i f hi => ⟨(hb.cell (p := ⟨b, _, none⟩) hlt').trans (hc i f hi).1, (hb.cell (p := ⟨b, _, none⟩) hlt').trans (hc i f hi).2⟩⟩
theorem BksAt.wider {w : World} {B B' : Nat} {a : Option Addr} {l : List (Nat × Nat)} {c : Nat} (h : BksAt w B a l c) (h1 : B ≤ B') (h2 : B' ≤ w.heap.size) : BksAt w B' a l c :=
  ⟨h.1, h.2.1, h2, fun hn => by
    obtain ⟨b, off, ha, hlt, hc⟩ := h.2.2.2 hn
    exact ⟨b, off, ha, by omega, hc⟩⟩
theorem BksAt.here {w w' : World} {B B' : Nat} {a : Option Addr} {l : List (Nat × Nat)} {c : Nat} (h : BksAt w B a l c) (hb : Below B' w w') (hB : B ≤ B') : BksAt w' w'.heap.size a l c :=
  (h.below hb hB).wider (h.below hb hB).2.2.1 (Nat.le_refl _)
theorem BksAt.mem {w : World} {B : Nat} {a : Option Addr} {l : List (Nat × Nat)} {c : Nat} (h : BksAt w B a l c) {i : Nat} {f : Nat × Nat} (hi : l[i]? = some f) :
    ∃ b off, a = some ⟨b, off, none⟩ ∧ b < B ∧ w.cell? ⟨b, off + i * 2, none⟩ = some (.int .i64 (f.1 : Int)) ∧ w.cell? ⟨b, off + i * 2 + 1, none⟩ = some (.int .i64 (f.2 : Int)) := by
  obtain ⟨b, off, ha, hlt, hc⟩ := h.2.2.2 (fun e => by subst e; simp at hi)
  exact ⟨b, off, ha, hlt, hc i f hi⟩
theorem bks_nil (w : World) (B : Nat) (hB : B ≤ w.heap.size) : BksAt w B none [] 0 := ⟨by simp, by simp, hB, by simp⟩
def blkAll (l : List (Nat × Nat)) : List Value := l.flatMap (fun f => [.int .i64 (f.1 : Int), .int .i64 (f.2 : Int)])
theorem blkAll_cons (f : Nat × Nat) (l : List (Nat × Nat)) : blkAll (f :: l) = .int .i64 (f.1 : Int) :: .int .i64 (f.2 : Int) :: blkAll l := rfl
theorem blkAll_append (a b : List (Nat × Nat)) : blkAll (a ++ b) = blkAll a ++ blkAll b := by simp [blkAll]
theorem blkAll_length (l : List (Nat × Nat)) : (blkAll l).length = l.length * 2 := by
  induction l with
  | nil => rfl
  | cons f l ih => rw [blkAll_cons]; simp only [List.length_cons, ih]; omega
theorem blkAll_one (l : List (Nat × Nat)) : ∀ u ∈ blkAll l, u.oneCell' = true := by
  intro u hu
  simp only [blkAll, List.mem_flatMap] at hu
  obtain ⟨f, _, hu⟩ := hu
  simp only [List.mem_cons, List.not_mem_nil, or_false] at hu
  rcases hu with rfl | rfl <;> rfl
theorem blkAll_at {l : List (Nat × Nat)} {i : Nat} {f : Nat × Nat} (h : l[i]? = some f) : (blkAll l)[i * 2]? = some (.int .i64 (f.1 : Int)) ∧ (blkAll l)[i * 2 + 1]? = some (.int .i64 (f.2 : Int)) := by
  induction l generalizing i with
  | nil => simp at h
  | cons g l ih =>
    cases i with
    | zero =>
      simp at h
      subst h
      simp [blkAll_cons]
    | succ j =>
      have h2 := ih (i := j) (by simpa using h)
      rw [blkAll_cons, show (j + 1) * 2 = j * 2 + 1 + 1 by omega]
      refine ⟨by simpa using h2.1, ?_⟩
      rw [show j * 2 + 1 + 1 + 1 = (j * 2 + 1) + 1 + 1 by omega]
      simpa using h2.2
theorem bks_own {w : World} {B : Nat} {v : Value} {l : List (Nat × Nat)} (h : w.ownsRow B 39 2 v l.length (blkAll l)) : ∃ a c, v = .slice a l.length c ∧ BksAt w w.heap.size a l c := by
  rcases h.2 with ⟨rfl, h0⟩ | ⟨g, cap, cur, rfl, hB, hg, hn, hm, hc, ht⟩
  · have : l = [] := List.length_eq_zero_iff.1 h0
    subst this
    exact ⟨none, 0, rfl, bks_nil w _ (Nat.le_refl _)⟩
  · refine ⟨some ⟨g, 0, none⟩, cap, rfl, hn, by simp only [maxLen] at hm; omega, Nat.le_refl _, fun _ => ⟨g, 0, rfl, lt_of_heap hg, fun i f hi => ?_⟩⟩
    obtain ⟨c1, c2⟩ := blkAll_at hi
    have hil := (List.getElem?_eq_some_iff.1 hi).1
    refine ⟨?_, ?_⟩
    · rw [Nat.zero_add, h.cellAt _ (by omega)]; exact c1
    · rw [Nat.zero_add, h.cellAt _ (by omega)]; exact c2
theorem bks_form {w : World} {B n : Nat} {v : Value} {xs : List Value} (h : w.ownsRow B 39 2 v n xs) : ∃ ao cap, v = .slice ao n cap := by
  rcases h.2 with ⟨rfl, rfl⟩ | ⟨g, cap, cur, rfl, _⟩
  · exact ⟨none, 0, rfl⟩
  · exact ⟨_, _, rfl⟩
theorem bk_snoc {w : World} {B : Nat} {v : Value} {l : List (Nat × Nat)} {x y : Nat} (h : w.ownsRow B 39 2 v (l.length + 1) (blkAll l ++ [.int .i64 (x : Int), .int .i64 (y : Int)])) : w.ownsRow B 39 2 v (l ++ [(x, y)]).length (blkAll (l ++ [(x, y)])) := by
  rw [blkAll_append, List.length_append]; exact h
theorem bks_below {w w0 w' : World} {B n : Nat} {v : Value} {xs : List Value} (hb : Below B w0 w) (h : w.ownsRow B 39 2 v n xs) (hg : w.grownBy w' v.ownBlock) (hB : B ≤ w.heap.size) : Below B w0 w' :=
  hb.grown hg hB (fun k hk => (h.lt k hk).1)
theorem BksAt.cells {w : World} {B : Nat} {ad : Addr} {l : List (Nat × Nat)} {c : Nat} (h : BksAt w B (some ad) l c) : ∀ j u, (blkAll l)[j]? = some u → w.cell? (ad.add j) = some u := by
  intro j u hu
  have hj := (List.getElem?_eq_some_iff.1 hu).1
  rw [blkAll_length] at hj
  obtain ⟨f, hf⟩ : ∃ f, l[j / 2]? = some f := ⟨l[j / 2]'(by omega), List.getElem?_eq_getElem _⟩
  obtain ⟨b, off, e, _, c1, c2⟩ := h.mem hf
  obtain rfl := Option.some.inj e
  obtain ⟨d1, d2⟩ := blkAll_at hf
  rw [Addr.add_lit]
  rcases (by omega : j = j / 2 * 2 ∨ j = j / 2 * 2 + 1) with e | e
  · rw [← e] at c1 d1; rw [c1, ← hu, d1]
  · rw [Nat.add_assoc, ← e] at c2; rw [← e] at d2; rw [c2, ← hu, d2]
theorem bks_lit (w : World) (l : List (Nat × Nat)) (hx : l.length ≤ 100) : BksAt (w.alloc (.cells (blkAll l).toArray 39)) (w.heap.size + 1) (some ⟨w.heap.size, 0, none⟩) l l.length := by
  have h : (w.alloc (.cells (blkAll l).toArray 39)).heap[w.heap.size]? = some (.cells (blkAll l).toArray 39 (0, 0)) := Deep.blk_alloc_new w _
  refine ⟨Nat.le_refl _, by omega, by rw [Deep.nblk_alloc]; exact Nat.le_refl _, fun _ => ⟨_, 0, rfl, by omega, fun i f hi => ?_⟩⟩
  obtain ⟨c1, c2⟩ := blkAll_at hi
  rw [Nat.zero_add, Lib.cell_of_heap h, Lib.cell_of_heap h]
  exact ⟨by simpa using c1, by simpa using c2⟩
theorem infoBlk : (Try.prog.info? 39).map (fun i => (i.zero, i.size, i.bytes)) = some (some (.agg #[.int .i64 0, .int .i64 0]), 2, 16) := by kernel_rfl
theorem sizeBlk : ∀ w : World, (sizeOf (Try.prog.elem 36)).run Try.prog w = .ok 2 w := fun w => by kernel_rfl
theorem elemBlk : Try.prog.underlying 36 = some (.slice (Try.prog.elem 36)) := by kernel_rfl
theorem BksAt.drop {w : World} {B : Nat} {a : Option Addr} {l : List (Nat × Nat)} {c : Nat} (h : BksAt w B a l c) (k : Nat) : BksAt w B (if c = k then a else a.map (·.add (k * 2))) (l.drop k) (c - k) := by
  obtain ⟨h1, h0, h2, h3⟩ := h
  refine ⟨by rw [List.length_drop]; omega, by omega, h2, fun hn => ?_⟩
  have hkl : k < l.length := by
    rcases Nat.lt_or_ge k l.length with h | h
    · exact h
    · exact absurd (List.drop_eq_nil_of_le h) hn
  obtain ⟨b, off, ha, hlt, hc⟩ := h3 (fun e => by subst e; simp at hn)
  subst ha
  refine ⟨b, off + k * 2, by rw [if_neg (by omega)]; simp [Addr.add], hlt, fun i f hi => ?_⟩
  rw [List.getElem?_drop] at hi
  rw [show off + k * 2 + i * 2 = off + (k + i) * 2 by omega]
  exact hc (k + i) f hi
/-- l[k:] -/
theorem bks_from {w : World} {B : Nat} {a : Option Addr} {l : List (Nat × Nat)} {c : Nat} (h : BksAt w B a l c) {k : Nat} (hk : k ≤ l.length) (n : Int) (hn : n = (k : Int)) :
    ∃ y a2, y = l.drop k ∧ BksAt w B a2 y (c - k) ∧ ∀ w' : World, (Instr.slice 36 (.slice a l.length c) (some (.int .i64 n)) none none).run Try.prog w' = .ok (.slice a2 y.length (c - k)) w' := by
  subst hn
  refine ⟨_, _, rfl, h.drop k, fun w' => ?_⟩
  have hc := h.1
  rw [run_slice_l w' 36 a l.length c elemBlk .i64 (k : Int) (by omega) (by omega), sizeBlk]
  simp only [Result.andThen, sliced, Int.toNat_natCast]
  rw [List.length_drop]
end Go.Proofs.Ytinhidddfpjjkab
