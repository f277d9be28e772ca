/- A history as it lies in memory: revisions, and the deltas that they hold. -/
import Derived.Test.YtjfeaedjifpahaaRevL
import Derived.Test.YtjfeaedjifpahaaRoom
import Derived.Test.YtjfeaedjifpahaaHKit
namespace Go.Proofs.Ytjfeaedjifpahaa
open Go.RowKit
set_option linter.unusedSimpArgs false
set_option linter.unusedVariables false

def wide (n : Int) : Prop := -9223372036854775808 ≤ n ∧ n ≤ 9223372036854775807
/-- a revision at an address -/
def RvAt (w : World) (B b off : Nat) (r : Rv) (a : Option Addr) (c : Nat) : Prop :=
  w.cell? ⟨b, off, none⟩ = some (.int .i64 r.who) ∧ w.cell? ⟨b, off + 1, none⟩ = some (.int .i64 r.seq) ∧ w.cell? ⟨b, off + 2, none⟩ = some (.slice a r.d.length c) ∧ PartsAt w B a r.d ∧ Room a r.d c
/-- the revisions l lie from address a on, and their deltas, below block B -/
def RevsAt (w : World) (B : Nat) (a : Option Addr) (l : List Rv) : Prop :=
  l.length ≤ 9223372036854775807 ∧ B ≤ w.heap.size ∧ (∀ r ∈ l, wide r.who ∧ wide r.seq) ∧
  (l ≠ [] → ∃ b off, a = some ⟨b, off, none⟩ ∧ b < B ∧ ∀ i r, l[i]? = some r → ∃ ai ci, RvAt w B b (off + i * 3) r ai ci)
theorem RvAt.below {w w' : World} {B B' b off : Nat} {r : Rv} {a : Option Addr} {c : Nat} (h : RvAt w B b off r a c) (hb : Below B' w w') (hB : B ≤ B') (hlt : b < B) : RvAt w' B b off r a c := by
  obtain ⟨h1, h2, h3, h4, h5⟩ := h
  have hlt' : b < B' := Nat.lt_of_lt_of_le hlt hB
  exact ⟨(hb.cell (p := ⟨b, _, none⟩) hlt').trans h1, (hb.cell (p := ⟨b, _, none⟩) hlt').trans h2, (hb.cell (p := ⟨b, _, none⟩) hlt').trans h3, h4.below hb hB, h5⟩
theorem RevsAt.below {w w' : World} {B B' : Nat} {a : Option Addr} {l : List Rv} (h : RevsAt w B a l) (hb : Below B' w w') (hB : B ≤ B') : RevsAt w' B a l := by
  obtain ⟨h1, h2, h3, h4⟩ := h
  refine ⟨h1, Nat.le_trans h2 hb.size, h3, fun hn => ?_⟩
  obtain ⟨b, off, ha, hlt, hc⟩ := h4 hn
  refine ⟨b, off, ha, hlt, fun i r hi => ?_⟩
  obtain ⟨ai, ci, hr⟩ := hc i r hi
  exact ⟨ai, ci, hr.below hb hB hlt⟩
theorem PartsAt.wider {w : World} {B B' : Nat} {a : Option Addr} {l : List Pt} (h : PartsAt w B a l) (h1 : B ≤ B') (h2 : B' ≤ w.heap.size) : PartsAt w B' a l :=
  ⟨h.1, h2, h.2.2.1, fun hn => by
    obtain ⟨b, off, ha, hlt, hc⟩ := h.2.2.2 hn
    exact ⟨b, off, ha, by omega, hc⟩⟩
theorem RevsAt.wider {w : World} {B B' : Nat} {a : Option Addr} {l : List Rv} (h : RevsAt w B a l) (h1 : B ≤ B') (h2 : B' ≤ w.heap.size) : RevsAt w B' a l :=
  ⟨h.1, h2, h.2.2.1, fun hn => by
    obtain ⟨b, off, ha, hlt, hc⟩ := h.2.2.2 hn
    refine ⟨b, off, ha, by omega, fun i r hi => ?_⟩
    obtain ⟨ai, ci, r1, r2, r3, r4, r5⟩ := hc i r hi
    exact ⟨ai, ci, r1, r2, r3, r4.wider h1 h2, r5⟩⟩
theorem RevsAt.here {w w' : World} {B B' : Nat} {a : Option Addr} {l : List Rv} (h : RevsAt w B a l) (hb : Below B' w w') (hB : B ≤ B') : RevsAt w' w'.heap.size a l :=
  (h.below hb hB).wider (h.below hb hB).2.1 (Nat.le_refl _)
theorem RevsAt.mem {w : World} {B : Nat} {a : Option Addr} {l : List Rv} (h : RevsAt w B a l) {i : Nat} {r : Rv} (hi : l[i]? = some r) :
    ∃ b off ai ci, a = some ⟨b, off, none⟩ ∧ b < B ∧ RvAt w B b (off + i * 3) r ai ci := by
  obtain ⟨b, off, ha, hlt, hc⟩ := h.2.2.2 (fun e => by subst e; simp at hi)
  obtain ⟨ai, ci, hr⟩ := hc i r hi
  exact ⟨b, off, ai, ci, ha, hlt, hr⟩
/-- a revision in a block of its own -/
theorem rv_box {w : World} {r : Rv} {a : Option Addr} {c : Nat} (hp : PartsAt w w.heap.size a r.d) (hr : Room a r.d c) :
    RvAt (w.alloc (.cells #[.int .i64 r.who, .int .i64 r.seq, .slice a r.d.length c] 25)) w.heap.size w.heap.size 0 r a c := by
  have h : (w.alloc (.cells #[.int .i64 r.who, .int .i64 r.seq, .slice a r.d.length c] 25)).heap[w.heap.size]? = some (.cells #[.int .i64 r.who, .int .i64 r.seq, .slice a r.d.length c] 25 (0, 0)) := Deep.blk_alloc_new w _
  exact ⟨Lib.cell_of_heap h 0, Lib.cell_of_heap h 1, Lib.cell_of_heap h 2, hp.below ((Below.refl _ w).alloc (Nat.le_refl _) _) (Nat.le_refl _), hr⟩
/-- a beginning, and the rest -/
theorem RevsAt.take {w : World} {B : Nat} {a : Option Addr} {l : List Rv} (h : RevsAt w B a l) (k : Nat) : RevsAt w B a (l.take k) := by
  obtain ⟨h1, h2, h3, h4⟩ := h
  refine ⟨by rw [List.length_take]; omega, h2, fun r hr => h3 r (List.mem_of_mem_take hr), fun hn => ?_⟩
  obtain ⟨b, off, ha, hlt, hc⟩ := h4 (fun e => by subst e; simp at hn)
  refine ⟨b, off, ha, hlt, fun i r hi => hc i r ?_⟩
  rw [List.getElem?_take] at hi
  split at hi
  · exact hi
  · cases hi
theorem RevsAt.drop {w : World} {B : Nat} {a : Option Addr} {l : List Rv} (h : RevsAt w B a l) (k c : Nat) (hc : l.length ≤ c) : RevsAt w B (if c = k then a else a.map (·.add (k * 3))) (l.drop k) := by
  obtain ⟨h1, h2, h3, h4⟩ := h
  refine ⟨by rw [List.length_drop]; omega, h2, fun r hr => h3 r (List.mem_of_mem_drop hr), fun hn => ?_⟩
  have hkl : k < l.length := by
    rcases Nat.lt_or_ge k l.length with h | h
    · exact h
    · exact absurd (List.drop_eq_nil_of_le h) hn
  obtain ⟨b, off, ha, hlt, hcell⟩ := h4 (fun e => by subst e; simp at hn)
  subst ha
  refine ⟨b, off + k * 3, by rw [if_neg (by omega)]; simp [Addr.add], hlt, fun i r hi => ?_⟩
  rw [List.getElem?_drop] at hi
  obtain ⟨ai, ci, hr⟩ := hcell (k + i) r hi
  rw [show off + k * 3 + i * 3 = off + (k + i) * 3 by omega]
  exact ⟨ai, ci, hr⟩
theorem Try.sizeRev : ∀ w : World, (sizeOf (Try.prog.elem 22)).run Try.prog w = .ok 3 w := fun w => by kernel_rfl
theorem elemRev : Try.prog.underlying 22 = some (.slice (Try.prog.elem 22)) := by kernel_rfl
/-- l[:k] -/
theorem run_to {w : World} {B : Nat} {a : Option Addr} {l : List Rv} (h : RevsAt w B a l) {c k : Nat} (hc : l.length ≤ c) (hk : k ≤ l.length) :
    ∃ l2, l2 = l.take k ∧ l2.length = k ∧ RevsAt w B a l2 ∧ ∀ w' : World, (Instr.slice 22 (.slice a l.length c) none (some (.int .i64 (k : Int))) none).run Try.prog w' = .ok (.slice a l2.length c) w' := by
  refine ⟨_, rfl, by rw [List.length_take]; omega, h.take k, fun w' => ?_⟩
  rw [run_slice_h w' 22 a l.length c elemRev .i64 (k : Int) (by omega) (by omega), Try.sizeRev]
  simp only [Result.andThen, sliced, Int.toNat_natCast]
  rw [List.length_take, Nat.min_eq_left hk]
  cases a <;> simp [Addr.add]
/-- l[k:] -/
theorem run_from {w : World} {B : Nat} {a : Option Addr} {l : List Rv} (h : RevsAt w B a l) {c k : Nat} (hc : l.length ≤ c) (hk : k ≤ l.length) :
    ∃ l2 a2, l2 = l.drop k ∧ l2.length = l.length - k ∧ l2.length ≤ c - k ∧ RevsAt w B a2 l2 ∧ ∀ w' : World, (Instr.slice 22 (.slice a l.length c) (some (.int .i64 (k : Int))) none none).run Try.prog w' = .ok (.slice a2 l2.length (c - k)) w' := by
  refine ⟨_, _, rfl, by rw [List.length_drop], by rw [List.length_drop]; omega, h.drop k c hc, fun w' => ?_⟩
  rw [run_slice_l w' 22 a l.length c elemRev .i64 (k : Int) (by omega) (by omega), Try.sizeRev]
  simp only [Result.andThen, sliced, Int.toNat_natCast]
  rw [List.length_drop]
/-- l[i:k] -/
theorem run_mid {w : World} {B : Nat} {a : Option Addr} {l : List Rv} (h : RevsAt w B a l) {c i k : Nat} (hc : l.length ≤ c) (hi : i ≤ k) (hk : k ≤ l.length) :
    ∃ l2 a2, l2 = (l.take k).drop i ∧ l2.length = k - i ∧ RevsAt w B a2 l2 ∧ ∀ w' : World, (Instr.slice 22 (.slice a l.length c) (some (.int .i64 (i : Int))) (some (.int .i64 (k : Int))) none).run Try.prog w' = .ok (.slice a2 l2.length (c - i)) w' := by
  refine ⟨_, _, rfl, by rw [List.length_drop, List.length_take]; omega, (h.take k).drop i c (by rw [List.length_take]; omega), fun w' => ?_⟩
  rw [run_slice_lh w' 22 a l.length c elemRev .i64 .i64 (i : Int) (k : Int) (by omega) (by omega) (by omega), Try.sizeRev]
  simp only [Result.andThen, sliced, Int.toNat_natCast]
  rw [List.length_drop, List.length_take, Nat.min_eq_left hk]
/-- a revision in a block of its own, held -/
def RBox (w : World) (g : Nat) (r : Rv) (a : Option Addr) (c : Nat) : Prop :=
  w.cell? ⟨g, 0, none⟩ = some (.int .i64 r.who) ∧ w.cell? ⟨g, 1, none⟩ = some (.int .i64 r.seq) ∧ w.cell? ⟨g, 2, none⟩ = some (.slice a r.d.length c) ∧ g < w.heap.size
theorem RBox.below {w w' : World} {g : Nat} {r : Rv} {a : Option Addr} {c : Nat} (h : RBox w g r a c) (hb : Below w.heap.size w w') : RBox w' g r a c := by
  obtain ⟨h1, h2, h3, h4⟩ := h
  have h6 := hb.block g h4
  refine ⟨?_, ?_, ?_, Nat.lt_of_lt_of_le h4 hb.size⟩
  · rw [World.cell?_of_block h6]; exact h1
  · rw [World.cell?_of_block h6]; exact h2
  · rw [World.cell?_of_block h6]; exact h3
theorem rbox_new (w : World) (r : Rv) (a : Option Addr) (c : Nat) : RBox (w.alloc (.cells #[.int .i64 r.who, .int .i64 r.seq, .slice a r.d.length c] 25)) w.heap.size r a c := by
  have h : (w.alloc (.cells #[.int .i64 r.who, .int .i64 r.seq, .slice a r.d.length c] 25)).heap[w.heap.size]? = some (.cells #[.int .i64 r.who, .int .i64 r.seq, .slice a r.d.length c] 25 (0, 0)) := Deep.blk_alloc_new w _
  exact ⟨Lib.cell_of_heap h 0, Lib.cell_of_heap h 1, Lib.cell_of_heap h 2, lt_of_heap h⟩
/-- all that is wanted of a revision in a block of its own, while functions are called -/
def RHeld (w0 : World) (B g : Nat) (r : Rv) (a : Option Addr) (c : Nat) (w : World) : Prop := RBox w g r a c ∧ PartsAt w B a r.d ∧ Below B w0 w ∧ B ≤ w.heap.size
theorem RHeld.all {w0 w : World} {B g : Nat} {r : Rv} {a : Option Addr} {c : Nat} (h : RHeld w0 B g r a c w) :
    w.cell? ⟨g, 0, none⟩ = some (.int .i64 r.who) ∧ w.cell? ⟨g, 1, none⟩ = some (.int .i64 r.seq) ∧ w.cell? ⟨g, 2, none⟩ = some (.slice a r.d.length c) ∧ RHeld w0 B g r a c w := ⟨h.1.1, h.1.2.1, h.1.2.2.1, h⟩
theorem RHeld.next {w0 w w' : World} {B g : Nat} {r : Rv} {a : Option Addr} {c : Nat} (h : RHeld w0 B g r a c w) (hb : Below w.heap.size w w') : RHeld w0 B g r a c w' :=
  ⟨h.1.below hb, h.2.1.below hb h.2.2.2, h.2.2.1.trans (hb.mono h.2.2.2), Nat.le_trans h.2.2.2 hb.size⟩
theorem RHeld.keep {w0 w w' : World} {B g : Nat} {r : Rv} {a : Option Addr} {c : Nat} (h : RHeld w0 B g r a c w) (hb : Below w.heap.size w w') :
    w'.cell? ⟨g, 0, none⟩ = some (.int .i64 r.who) ∧ w'.cell? ⟨g, 1, none⟩ = some (.int .i64 r.seq) ∧ w'.cell? ⟨g, 2, none⟩ = some (.slice a r.d.length c) ∧ RHeld w0 B g r a c w' := (h.next hb).all
theorem RHeld.parts {w0 w : World} {B g : Nat} {r : Rv} {a : Option Addr} {c : Nat} (h : RHeld w0 B g r a c w) : PartsAt w w.heap.size a r.d := h.2.1.here (Below.refl _ _) h.2.2.2
theorem RHeld.drew {w0 w : World} {B g : Nat} {r : Rv} {a : Option Addr} {c : Nat} (h : RHeld w0 B g r a c w) : RHeld w0 B g r a c w.drew := ⟨h.1, h.2.1, h.2.2.1.drew, h.2.2.2⟩
theorem rheld_new {w0 w : World} {B : Nat} {r : Rv} {a : Option Addr} {c : Nat} (hp : PartsAt w B a r.d) (hb : Below B w0 w) (hB : B ≤ w.heap.size) :
    RHeld w0 B w.heap.size r a c (w.alloc (.cells #[.int .i64 r.who, .int .i64 r.seq, .slice a r.d.length c] 25)) :=
  ⟨rbox_new w r a c, hp.below ((Below.refl _ w).alloc (Nat.le_refl _) _) hB, hb.alloc hB _, by rw [Deep.nblk_alloc]; omega⟩
end Go.Proofs.Ytjfeaedjifpahaa
