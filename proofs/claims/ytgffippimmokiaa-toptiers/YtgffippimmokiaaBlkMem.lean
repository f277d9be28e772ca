/- Blocks as they lie in memory; rows of blocks of the call's own; two such rows held against each other. -/
import Derived.Test.YtgffippimmokiaaPtOwn
import Derived.Laws.OwnMore
import Derived.Laws.StructEq
import Derived.Laws.Entries
import Derived.Deep.QuietTactic
import Derived.BigQuiet
import Derived.Test.YtgffippimmokiaaTierL
namespace Go.Proofs.Ytgffippimmokiaa
open Go.RowKit
set_option linter.unusedSimpArgs false
set_option linter.unusedVariables false

/-- the blocks l (level, number) lie from address a on, below block B, with room for c -/
def BksAt (w : World) (B : Nat) (a : Option Addr) (l : List (Nat × Nat)) (c : Nat) : Prop :=
  l.length ≤ c ∧ c ≤ 9223372036854775807 ∧ B ≤ w.heap.size ∧ (l ≠ [] → ∃ b off, a = some ⟨b, off, none⟩ ∧ b < B ∧ ∀ (i : Nat) (f : Nat × Nat), l[i]? = some f → w.cell? ⟨b, off + i * 2, none⟩ = some (.int .i64 (f.1 : Int)) ∧ w.cell? ⟨b, off + i * 2 + 1, none⟩ = some (.int .i64 (f.2 : Int)))
theorem BksAt.below {w w' : World} {B B' : Nat} {a : Option Addr} {l : List (Nat × Nat)} {c : Nat} (h : BksAt w B a l c) (hb : Below B' w w') (hB : B ≤ B') : BksAt w' B a l c := by
  obtain ⟨h1, h0, h2, h3⟩ := h
  refine ⟨h1, h0, Nat.le_trans h2 hb.size, fun hn => ?_⟩
  obtain ⟨b, off, ha, hlt, hc⟩ := h3 hn
  have hlt' : b < B' := Nat.lt_of_lt_of_le hlt hB
  exact ⟨b, off, ha, hlt, fun i f hi => ⟨(hb.cell (p := ⟨b, _, none⟩) hlt').trans (hc i f hi).1, (hb.cell (p := ⟨b, _, none⟩) hlt').trans (hc i f hi).2⟩⟩
theorem BksAt.wider {w : World} {B B' : Nat} {a : Option Addr} {l : List (Nat × Nat)} {c : Nat} (h : BksAt w B a l c) (h1 : B ≤ B') (h2 : B' ≤ w.heap.size) : BksAt w B' a l c :=
  ⟨h.1, h.2.1, h2, fun hn => by
    obtain ⟨b, off, ha, hlt, hc⟩ := h.2.2.2 hn
    exact ⟨b, off, ha, by omega, hc⟩⟩
theorem BksAt.here {w w' : World} {B B' : Nat} {a : Option Addr} {l : List (Nat × Nat)} {c : Nat} (h : BksAt w B a l c) (hb : Below B' w w') (hB : B ≤ B') : BksAt w' w'.heap.size a l c :=
  (h.below hb hB).wider (h.below hb hB).2.2.1 (Nat.le_refl _)
theorem BksAt.mem {w : World} {B : Nat} {a : Option Addr} {l : List (Nat × Nat)} {c : Nat} (h : BksAt w B a l c) {i : Nat} {f : Nat × Nat} (hi : l[i]? = some f) :
    ∃ b off, a = some ⟨b, off, none⟩ ∧ b < B ∧ w.cell? ⟨b, off + i * 2, none⟩ = some (.int .i64 (f.1 : Int)) ∧ w.cell? ⟨b, off + i * 2 + 1, none⟩ = some (.int .i64 (f.2 : Int)) := by
  obtain ⟨b, off, ha, hlt, hc⟩ := h.2.2.2 (fun e => by subst e; simp at hi)
  exact ⟨b, off, ha, hlt, hc i f hi⟩
theorem bks_nil (w : World) (B : Nat) (hB : B ≤ w.heap.size) : BksAt w B none [] 0 := ⟨by simp, by simp, hB, by simp⟩
def blkAll (l : List (Nat × Nat)) : List Value := l.flatMap (fun f => [.int .i64 (f.1 : Int), .int .i64 (f.2 : Int)])
theorem blkAll_cons (f : Nat × Nat) (l : List (Nat × Nat)) : blkAll (f :: l) = .int .i64 (f.1 : Int) :: .int .i64 (f.2 : Int) :: blkAll l := rfl
theorem blkAll_append (a b : List (Nat × Nat)) : blkAll (a ++ b) = blkAll a ++ blkAll b := by simp [blkAll]
theorem blkAll_length (l : List (Nat × Nat)) : (blkAll l).length = l.length * 2 := by
  induction l with
  | nil => rfl
  | cons f l ih => rw [blkAll_cons]; simp only [List.length_cons, ih]; omega
theorem blkAll_one (l : List (Nat × Nat)) : ∀ u ∈ blkAll l, u.oneCell' = true := by
  intro u hu
  simp only [blkAll, List.mem_flatMap] at hu
  obtain ⟨f, _, hu⟩ := hu
  simp only [List.mem_cons, List.not_mem_nil, or_false] at hu
  rcases hu with rfl | rfl <;> rfl
theorem blkAll_at {l : List (Nat × Nat)} {i : Nat} {f : Nat × Nat} (h : l[i]? = some f) : (blkAll l)[i * 2]? = some (.int .i64 (f.1 : Int)) ∧ (blkAll l)[i * 2 + 1]? = some (.int .i64 (f.2 : Int)) := by
  induction l generalizing i with
  | nil => simp at h
  | cons g l ih =>
    cases i with
    | zero =>
      simp at h
      subst h
      simp [blkAll_cons]
    | succ j =>
      have h2 := ih (i := j) (by simpa using h)
      rw [blkAll_cons, show (j + 1) * 2 = j * 2 + 1 + 1 by omega]
      refine ⟨by simpa using h2.1, ?_⟩
      rw [show j * 2 + 1 + 1 + 1 = (j * 2 + 1) + 1 + 1 by omega]
      simpa using h2.2
theorem bks_own {w : World} {B : Nat} {v : Value} {l : List (Nat × Nat)} (h : w.ownsRow B 130 2 v l.length (blkAll l)) : ∃ a c, v = .slice a l.length c ∧ BksAt w w.heap.size a l c := by
  rcases h.2 with ⟨rfl, h0⟩ | ⟨g, cap, cur, rfl, hB, hg, hn, hm, hc, ht⟩
  · have : l = [] := List.length_eq_zero_iff.1 h0
    subst this
    exact ⟨none, 0, rfl, bks_nil w _ (Nat.le_refl _)⟩
  · refine ⟨some ⟨g, 0, none⟩, cap, rfl, hn, by simp only [maxLen] at hm; omega, Nat.le_refl _, fun _ => ⟨g, 0, rfl, lt_of_heap hg, fun i f hi => ?_⟩⟩
    obtain ⟨c1, c2⟩ := blkAll_at hi
    have hil := (List.getElem?_eq_some_iff.1 hi).1
    refine ⟨?_, ?_⟩
    · rw [Nat.zero_add, h.cellAt _ (by omega)]; exact c1
    · rw [Nat.zero_add, h.cellAt _ (by omega)]; exact c2
theorem bks_form {w : World} {B n : Nat} {v : Value} {xs : List Value} (h : w.ownsRow B 130 2 v n xs) : ∃ ao cap, v = .slice ao n cap := by
  rcases h.2 with ⟨rfl, rfl⟩ | ⟨g, cap, cur, rfl, _⟩
  · exact ⟨none, 0, rfl⟩
  · exact ⟨_, _, rfl⟩
theorem bk_snoc {w : World} {B : Nat} {v : Value} {l : List (Nat × Nat)} {x y : Nat} (h : w.ownsRow B 130 2 v (l.length + 1) (blkAll l ++ [.int .i64 (x : Int), .int .i64 (y : Int)])) : w.ownsRow B 130 2 v (l ++ [(x, y)]).length (blkAll (l ++ [(x, y)])) := by
  rw [blkAll_append, List.length_append]; exact h
theorem bks_below {w w0 w' : World} {B n : Nat} {v : Value} {xs : List Value} (hb : Below B w0 w) (h : w.ownsRow B 130 2 v n xs) (hg : w.grownBy w' v.ownBlock) (hB : B ≤ w.heap.size) : Below B w0 w' :=
  hb.grown hg hB (fun k hk => (h.lt k hk).1)
theorem BksAt.cells {w : World} {B : Nat} {ad : Addr} {l : List (Nat × Nat)} {c : Nat} (h : BksAt w B (some ad) l c) : ∀ j u, (blkAll l)[j]? = some u → w.cell? (ad.add j) = some u := by
  intro j u hu
  have hj := (List.getElem?_eq_some_iff.1 hu).1
  rw [blkAll_length] at hj
  obtain ⟨f, hf⟩ : ∃ f, l[j / 2]? = some f := ⟨l[j / 2]'(by omega), List.getElem?_eq_getElem _⟩
  obtain ⟨b, off, e, _, c1, c2⟩ := h.mem hf
  obtain rfl := Option.some.inj e
  obtain ⟨d1, d2⟩ := blkAll_at hf
  rw [Addr.add_lit]
  rcases (by omega : j = j / 2 * 2 ∨ j = j / 2 * 2 + 1) with e | e
  · rw [← e] at c1 d1; rw [c1, ← hu, d1]
  · rw [Nat.add_assoc, ← e] at c2; rw [← e] at d2; rw [c2, ← hu, d2]
theorem bks_lit (w : World) (l : List (Nat × Nat)) (hx : l.length ≤ 100) : BksAt (w.alloc (.cells (blkAll l).toArray 130)) (w.heap.size + 1) (some ⟨w.heap.size, 0, none⟩) l l.length := by
  have h : (w.alloc (.cells (blkAll l).toArray 130)).heap[w.heap.size]? = some (.cells (blkAll l).toArray 130 (0, 0)) := Deep.blk_alloc_new w _
  refine ⟨Nat.le_refl _, by omega, by rw [Deep.nblk_alloc]; exact Nat.le_refl _, fun _ => ⟨_, 0, rfl, by omega, fun i f hi => ?_⟩⟩
  obtain ⟨c1, c2⟩ := blkAll_at hi
  rw [Nat.zero_add, Lib.cell_of_heap h, Lib.cell_of_heap h]
  exact ⟨by simpa using c1, by simpa using c2⟩
theorem infoBlk : (Try.prog.info? 130).map (fun i => (i.zero, i.size, i.bytes)) = some (some (.agg #[.int .i64 0, .int .i64 0]), 2, 16) := by kernel_rfl
theorem sizeBlk : ∀ w : World, (sizeOf (Try.prog.elem 71)).run Try.prog w = .ok 2 w := fun w => by kernel_rfl
theorem elemBlk : Try.prog.underlying 71 = some (.slice (Try.prog.elem 71)) := by kernel_rfl
theorem BksAt.drop {w : World} {B : Nat} {a : Option Addr} {l : List (Nat × Nat)} {c : Nat} (h : BksAt w B a l c) (k : Nat) : BksAt w B (if c = k then a else a.map (·.add (k * 2))) (l.drop k) (c - k) := by
  obtain ⟨h1, h0, h2, h3⟩ := h
  refine ⟨by rw [List.length_drop]; omega, by omega, h2, fun hn => ?_⟩
  have hkl : k < l.length := by
    rcases Nat.lt_or_ge k l.length with h | h
    · exact h
    · exact absurd (List.drop_eq_nil_of_le h) hn
  obtain ⟨b, off, ha, hlt, hc⟩ := h3 (fun e => by subst e; simp at hn)
  subst ha
  refine ⟨b, off + k * 2, by rw [if_neg (by omega)]; simp [Addr.add], hlt, fun i f hi => ?_⟩
  rw [List.getElem?_drop] at hi
  rw [show off + k * 2 + i * 2 = off + (k + i) * 2 by omega]
  exact hc (k + i) f hi
/-- l[k:] -/
theorem bks_from {w : World} {B : Nat} {a : Option Addr} {l : List (Nat × Nat)} {c : Nat} (h : BksAt w B a l c) {k : Nat} (hk : k ≤ l.length) (n : Int) (hn : n = (k : Int)) :
    ∃ y a2, y = l.drop k ∧ BksAt w B a2 y (c - k) ∧ ∀ w' : World, (Instr.slice 71 (.slice a l.length c) (some (.int .i64 n)) none none).run Try.prog w' = .ok (.slice a2 y.length (c - k)) w' := by
  subst hn
  refine ⟨_, _, rfl, h.drop k, fun w' => ?_⟩
  have hc := h.1
  rw [run_slice_l w' 71 a l.length c elemBlk .i64 (k : Int) (by omega) (by omega), sizeBlk]
  simp only [Result.andThen, sliced, Int.toNat_natCast]
  rw [List.length_drop]
end Go.Proofs.Ytgffippimmokiaa

/- Blocks: how many there are, and the way from the left: no program in it. -/
namespace Go.Proofs.Ytgffippimmokiaa
set_option linter.unusedSimpArgs false
set_option linter.unusedVariables false

/-- how many bits a length has -/
def bitsN (n : Nat) : Nat := ((List.range 7).filter (fun b => decide (2 ^ b < n))).length
theorem bits_iff {n b : Nat} (h : n ≤ 64) (hb : b ≤ 6) : b < bitsN n ↔ 2 ^ b < n := by
  have H : ∀ n ∈ List.range 65, ∀ b ∈ List.range 7, (b < bitsN n ↔ 2 ^ b < n) := by decide +kernel
  exact H n (List.mem_range.2 (by omega)) b (List.mem_range.2 (by omega))
theorem cov_few {i k : Nat} (h1 : i ≤ k) (h2 : k ≤ 64) : (covL i k).length ≤ 2 * bitsN (k - i) + 1 := by
  have H : ∀ k ∈ List.range 65, ∀ i ∈ List.range 65, i ≤ k → (covL i k).length ≤ 2 * bitsN (k - i) + 1 := by decide +kernel
  exact H k (List.mem_range.2 (by omega)) i (List.mem_range.2 (by omega)) h1
/-- the greatest block that may begin here -/
def leftLvl (i k : Nat) : Option Nat := [6, 5, 4, 3, 2, 1, 0].find? (fun v => decide (i % 2 ^ v = 0 ∧ i + 2 ^ v ≤ k))
def leftF : Nat → Nat → Nat → List (Nat × Nat)
  | 0, _, _ => []
  | f + 1, i, k => match leftLvl i k with
    | none => []
    | some v => (v, i / 2 ^ v) :: leftF f (i + 2 ^ v) k
/-- from the left one comes to the same blocks -/
theorem left_is {i k : Nat} (h1 : i ≤ k) (h2 : k ≤ 64) : leftF 64 i k = covL i k := by
  have H : ∀ k ∈ List.range 65, ∀ i ∈ List.range 65, i ≤ k → leftF 64 i k = covL i k := by decide +kernel
  exact H k (List.mem_range.2 (by omega)) i (List.mem_range.2 (by omega)) h1
end Go.Proofs.Ytgffippimmokiaa

/- The program's Cover: the blocks from the left. -/
namespace Go.Proofs.Ytgffippimmokiaa
open Go.RowKit
set_option linter.unusedSimpArgs false
set_option linter.unusedVariables false

theorem gr_next {i k v : Nat} (hk : k ≤ 64) (hik : i < k) (hv : v ≤ 6) (h1 : i % 2 ^ v = 0) (h2 : i &&& 2 ^ v = 0) (h3 : i + 2 * 2 ^ v ≤ k) : i % 2 ^ (v + 1) = 0 ∧ i + 2 ^ (v + 1) ≤ k ∧ v + 1 ≤ 6 := by
  have H : ∀ k ∈ List.range 65, ∀ i ∈ List.range k, ∀ v ∈ List.range 7, i % 2 ^ v = 0 → i &&& 2 ^ v = 0 → i + 2 * 2 ^ v ≤ k → (i % 2 ^ (v + 1) = 0 ∧ i + 2 ^ (v + 1) ≤ k ∧ v + 1 ≤ 6) := by decide +kernel
  exact H k (List.mem_range.2 (by omega)) i (List.mem_range.2 hik) v (List.mem_range.2 (by omega)) h1 h2 h3
theorem gr_end {i k v : Nat} (hk : k ≤ 64) (hik : i < k) (hv : v ≤ 6) (h1 : i % 2 ^ v = 0) (h2 : i + 2 ^ v ≤ k) (h3 : ¬ (i &&& 2 ^ v = 0 ∧ i + 2 * 2 ^ v ≤ k)) : leftLvl i k = some v := by
  have H : ∀ k ∈ List.range 65, ∀ i ∈ List.range k, ∀ v ∈ List.range 7, i % 2 ^ v = 0 → i + 2 ^ v ≤ k → ¬ (i &&& 2 ^ v = 0 ∧ i + 2 * 2 ^ v ≤ k) → leftLvl i k = some v := by decide +kernel
  exact H k (List.mem_range.2 (by omega)) i (List.mem_range.2 hik) v (List.mem_range.2 (by omega)) h1 h2 h3
theorem pow_six {v : Nat} (hv : v ≤ 6) : 2 ^ v ≤ 64 ∧ 1 ≤ 2 ^ v := by
  rcases (show v = 0 ∨ v = 1 ∨ v = 2 ∨ v = 3 ∨ v = 4 ∨ v = 5 ∨ v = 6 by omega) with rfl | rfl | rfl | rfl | rfl | rfl | rfl <;> decide
theorem and_pow {i v : Nat} (hi : i ≤ 64) (hv : v ≤ 6) : bits .and .i64 (i : Int) ((2 ^ v : Nat) : Int) = ((i &&& 2 ^ v : Nat) : Int) := by
  have H : ∀ i ∈ List.range 65, ∀ v ∈ List.range 7, bits .and .i64 (i : Int) ((2 ^ v : Nat) : Int) = ((i &&& 2 ^ v : Nat) : Int) := by decide +kernel
  exact H i (List.mem_range.2 (by omega)) v (List.mem_range.2 (by omega))
/-- the shifts of a walk: 1 << v, 2 << v, n >> v, b << v -/
theorem shl_one {v p : Nat} (hv : v ≤ 6) (hp : 2 ^ v = p) : wrap64 ((2 : Int) ^ v) = (p : Int) := by
  subst hp
  rcases (show v = 0 ∨ v = 1 ∨ v = 2 ∨ v = 3 ∨ v = 4 ∨ v = 5 ∨ v = 6 by omega) with rfl | rfl | rfl | rfl | rfl | rfl | rfl <;> decide +kernel
theorem shl_two {v p : Nat} (hv : v ≤ 6) (hp : 2 ^ v = p) : wrap64 (2 * (2 : Int) ^ v) = 2 * (p : Int) := by
  subst hp
  rcases (show v = 0 ∨ v = 1 ∨ v = 2 ∨ v = 3 ∨ v = 4 ∨ v = 5 ∨ v = 6 by omega) with rfl | rfl | rfl | rfl | rfl | rfl | rfl <;> decide +kernel
theorem shr_num (n v q : Nat) (hq : n / 2 ^ v = q) : (n : Int) / 2 ^ v = (q : Int) := by subst hq; simp
set_option maxHeartbeats 2000000 in
theorem greatest_any (i k : Nat) (w : World) (hk : k ≤ 64) (hik : i < k) :
    Calls Try.prog 76 #[.int .i64 (i : Int), .int .i64 (k : Int)] w fun e w' => ∃ v : Nat, e = .returned (.int .i64 (v : Int)) ∧ leftLvl i k = some v ∧ w' = w := by
  go_enter Try.func76, Try.ntmps76
  go_wp2_with fail
  go_loopw [5] (fun x wr => ∃ v : Nat, v ≤ 6 ∧ x = .int .i64 v ∧ i % 2 ^ v = 0 ∧ i + 2 ^ v ≤ k ∧ wr = w) (fun x _ => 7 - (intOf x).toNat)
  case atStart => exact ⟨0, by omega, rfl, by omega, by omega, rfl⟩
  case round =>
    rename World => wr
    obtain ⟨v, hv, rfl, h1, h2, hwr⟩ := hrel
    subst hwr
    obtain ⟨p6, p1⟩ := pow_six hv
    have HN : Hid _ := gr_next hk hik hv h1
    have HE : Hid _ := gr_end hk hik hv h1 h2
    have ha := and_pow (show i ≤ 64 by omega) hv
    obtain ⟨m, hm⟩ : ∃ m, i &&& 2 ^ v = m := ⟨_, rfl⟩
    rw [hm] at HN HE ha
    obtain ⟨p, hp⟩ : ∃ p, 2 ^ v = p := ⟨_, rfl⟩
    have s1 := shl_one hv hp
    have s2 := shl_two hv hp
    rw [hp] at p6 p1 ha HN HE
    have hi : i ≤ 64 := by omega
    clear h1 h2 hm hp
    by_cases hm0 : m = 0
    · have e1 : ((m : Int) == 0) = true := by simp [hm0]
      by_cases h3 : i + 2 * p ≤ k
      · have h3i : (i : Int) + 2 * (p : Int) ≤ (k : Int) := by omega
        obtain ⟨n1, n2, n3⟩ := HN.out hm0 h3
        have HN2 : Hid (i % 2 ^ (v + 1) = 0 ∧ i + 2 ^ (v + 1) ≤ k ∧ v + 1 ≤ 6) := ⟨n1, n2, n3⟩
        clear n1 n2 n3 HE HN hm0
        go_wp2_with fail
        go_roundw
        case rel => exact ⟨v + 1, HN2.out.2.2, by go_num, HN2.out.1, HN2.out.2.1, by first | rfl | trivial⟩
        case measure => have := HN2.out.2.2; simp [intOf]; omega
      · have h3i : ¬ (i : Int) + 2 * (p : Int) ≤ (k : Int) := by omega
        have HE2 : Hid (leftLvl i k = some v) := HE.out (fun h => h3 h.2)
        clear HN HE hm0
        go_wp2_with fail
        go_ret
        exact ⟨v, rfl, HE2.out, by first | rfl | trivial⟩
    · have e1 : ((m : Int) == 0) = false := by simp [hm0]
      have HE2 : Hid (leftLvl i k = some v) := HE.out (fun h => hm0 h.1)
      clear HN HE hm0
      go_wp2_with fail
      go_ret
      exact ⟨v, rfl, HE2.out, by first | rfl | trivial⟩
theorem left_lvl {i k v : Nat} (h : leftLvl i k = some v) : v ≤ 6 ∧ i + 2 ^ v ≤ k := by
  have h1 := List.find?_some h
  have h2 := List.mem_of_find?_eq_some h
  simp only [decide_eq_true_eq] at h1
  refine ⟨?_, h1.2⟩
  simp only [List.mem_cons, List.not_mem_nil, or_false] at h2
  omega
theorem left_end (f k : Nat) : leftF f k k = [] := by
  cases f with
  | zero => rfl
  | succ f =>
    rw [leftF]
    cases h : leftLvl k k with
    | none => rfl
    | some v =>
      have := (left_lvl h).2
      have hp : 0 < 2 ^ v := Nat.two_pow_pos v
      omega
theorem left_next {f j k v : Nat} (h : leftLvl j k = some v) : leftF (f + 1) j k = (v, j / 2 ^ v) :: leftF f (j + 2 ^ v) k := by
  rw [leftF, h]
theorem left_len : ∀ (f i k : Nat), (leftF f i k).length ≤ f := by
  intro f
  induction f with
  | zero => intro i k; exact Nat.le_refl _
  | succ f ih =>
    intro i k
    rw [leftF]
    cases leftLvl i k with
    | none => exact Nat.zero_le _
    | some v => rw [List.length_cons]; exact Nat.succ_le_succ (ih _ _)
/-- Cover's error -/
def covE (i k : Int) : Int := if i < 0 ∨ k < i ∨ 64 < k then 1 else 0
set_option maxHeartbeats 4000000 in
theorem Cover_ok (i k : Nat) (w : World) (hik : i ≤ k) (hk : k ≤ 64) :
    Calls Try.prog 32 #[.int .i64 (i : Int), .int .i64 (k : Int)] w fun e w' => ∃ a c, e = .returned (.tuple #[.slice a (covL i k).length c, .int .i64 0]) ∧ BksAt w' w'.heap.size a (covL i k) c ∧ Below w.heap.size w w' := by
  obtain ⟨ip, hip, hp0, hp1, hp2⟩ := info_parts infoBlk
  rw [← left_is hik hk]
  have g1 : ¬ (i : Int) < 0 := by omega
  have g2 : ¬ (k : Int) < (i : Int) := by omega
  have g3 : ¬ (64 : Int) < (k : Int) := by omega
  go_enter Try.func32, Try.ntmps32
  go_wp2_with fail
  go_loopw [0, 6] (fun x v wr => ∃ (j f : Nat) (xs : List (Nat × Nat)), j ≤ k ∧ k - j ≤ f ∧ f ≤ 64 ∧ x = .int .i64 j ∧ leftF 64 i k = xs ++ leftF f j k ∧ xs.length ≤ 64 ∧ wr.ownsRow w.heap.size 130 2 v xs.length (blkAll xs) ∧ Below w.heap.size w wr) (fun x _ _ => k - (intOf x).toNat)
  case atStart => exact ⟨i, 64, [], hik, by omega, Nat.le_refl _, rfl, rfl, by simp, World.ownsRow_nil _ _ _ _, Below.refl _ _⟩
  case round =>
    rename World => wr
    obtain ⟨j, f, xs, hj, hf, hf4, rfl, hx, hxl, hown, hb⟩ := hrel
    obtain ⟨ao, ca, rfl⟩ := bks_form hown
    have hz := hb.size
    have HO : Hid (wr.ownsRow w.heap.size 130 2 (.slice ao xs.length ca) xs.length (blkAll xs)) := hown
    have HB : Hid (Below w.heap.size w wr) := hb
    have HX : Hid (leftF 64 i k = xs ++ leftF f j k) := hx
    clear hown hb hx
    by_cases hlt : j < k
    · have hji : (j : Int) < (k : Int) := by omega
      clear g1 g2 g3
      go_wp2_with fail
      refine (greatest_any j k _ hk hlt).mono ?_
      rintro e w1 ⟨v, rfl, hv, we⟩
      subst we
      obtain ⟨v6, v7⟩ := left_lvl hv
      obtain ⟨p6, p1⟩ := pow_six v6
      obtain ⟨f, rfl⟩ : ∃ f', f = f' + 1 := ⟨f - 1, by omega⟩
      have HX2 : Hid (leftF 64 i k = (xs ++ [(v, j / 2 ^ v)]) ++ leftF f (j + 2 ^ v) k) := by
        show _ = _
        rw [HX.out, left_next hv, List.append_assoc]; rfl
      obtain ⟨p, hp⟩ : ∃ p, 2 ^ v = p := ⟨_, rfl⟩
      have HS1 : Hid (wrap64 ((2 : Int) ^ v) = (p : Int)) := shl_one v6 hp
      obtain ⟨q, hq⟩ : ∃ q, j / 2 ^ v = q := ⟨_, rfl⟩
      have HS2 : Hid ((j : Int) / 2 ^ v = (q : Int)) := shr_num j v q hq
      rw [hq, hp] at HX2
      rw [hp] at v7 p6 p1
      obtain ⟨P, hP⟩ : ∃ P : Int, P = (p : Int) := ⟨_, rfl⟩
      have p7 : 0 ≤ P ∧ P ≤ 64 ∧ (j : Int) + P ≤ 64 := by omega
      obtain ⟨p7, p8, p9⟩ := p7
      have HP : Hid (P = (p : Int)) := hP
      have HV7 : Hid (j + p ≤ k ∧ 1 ≤ p) := ⟨v7, p1⟩
      have hql : xs.length < 64 := by
        have h1 := left_len 64 i k
        rw [HX2.out, List.length_append, List.length_append] at h1
        have h2 : ([(v, q)] : List (Nat × Nat)).length = 1 := rfl
        omega
      have hA := World.ownsRow.alloc HO.out (.cells #[.int .i64 (v : Int), .int .i64 (q : Int)] 130)
      have s2 := HS2.out
      clear HX hq hp hv hP v7 p6 p1
      go_wp2_with (at_builtin; refine wpList_append_own _ rfl _ _ 71 rfl w.heap.size 130 ip _ 2 16 Try.underlying71 hip hp0 hp1 hp2 rfl (by decide) _ _ _ rfl hA ⟨w1.heap.size, 0, none⟩ 1 1 [.int .i64 (v : Int), .int .i64 (q : Int)] rfl rfl (bks_lit w1 [(v, q)] (by simp)).cells (by simp [Value.oneCell']) ?c3 ?c4 ?c5 ?_)
      case c3 => unfold maxLen; omega
      case c4 => omega
      case c5 => first | omega | (simp; omega)
      intro v' w3 hown2 hgrow _
      have HB4 : Hid (Below w.heap.size w w3) := bks_below (HB.out.alloc hz _) hA hgrow (by simp; omega)
      have HO3 : Hid (w3.ownsRow w.heap.size 130 2 v' (xs ++ [(v, q)]).length (blkAll (xs ++ [(v, q)]))) := bk_snoc hown2
      have hw : wrap64 ((j : Int) + (p : Int)) = (j : Int) + (p : Int) := by have := HV7.out.1; exact IntWalk.wrap64_in ((j : Int) + (p : Int)) ⟨by omega, by omega⟩
      have s1 := HS1.out
      clear hown2 hgrow hA s2 p7 p8 p9 HP
      go_wp2_with fail
      simp only [hw]
      clear s1 hw
      have v7 := HV7.out
      go_roundw
      case rel => exact ⟨j + p, f, xs ++ [(v, q)], v7.1, by omega, by omega, by first | rfl | simp, HX2.out, by simp; omega, HO3.out, HB4.out⟩
      case measure => simp [intOf]; omega
    · obtain rfl : j = k := by omega
      have HX2 : Hid (leftF 64 i j = xs) := by show _ = _; rw [HX.out, left_end, List.append_nil]
      obtain ⟨a1, c1, e1, hn⟩ := bks_own HO.out
      simp only [Value.slice.injEq, true_and] at e1
      obtain ⟨rfl, rfl⟩ := e1
      have HN : Hid (BksAt wr wr.heap.size ao xs ca) := hn
      clear hn
      go_wp2_with fail
      go_ret2
      rw [HX2.out]
      exact ⟨ao, ca, rfl, HN.out, HB.out⟩
theorem Cover_not (i k : Int) (w : World) (h : covE i k ≠ 0) :
    Calls Try.prog 32 #[.int .i64 i, .int .i64 k] w fun e w' => e = .returned (.tuple #[.slice none 0 0, .int .i64 1]) ∧ w' = w := by
  rw [covE] at h
  have h' : i < 0 ∨ k < i ∨ 64 < k := by
    by_cases hh : i < 0 ∨ k < i ∨ 64 < k
    · exact hh
    · rw [if_neg hh] at h; exact absurd rfl h
  clear h
  go_enter Try.func32, Try.ntmps32
  by_cases h1 : i < 0
  · clear h'
    go_wp2_with fail
    go_ret2
    exact ⟨rfl, rfl⟩
  · by_cases h2 : k < i
    · clear h'
      go_wp2_with fail
      go_ret2
      exact ⟨rfl, rfl⟩
    · have h3 : 64 < k := by omega
      clear h'
      go_wp2_with fail
      go_ret2
      exact ⟨rfl, rfl⟩
end Go.Proofs.Ytgffippimmokiaa
