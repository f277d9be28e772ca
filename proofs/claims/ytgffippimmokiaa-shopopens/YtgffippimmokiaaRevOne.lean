/- The room that a list of parts has. -/
import Derived.Test.YtgffippimmokiaaPtOwn
import Derived.Test.YtgffippimmokiaaRevL
import Derived.Test.YtgffippimmokiaaDelta
namespace Go.Proofs.Ytgffippimmokiaa
open Go.RowKit
set_option linter.unusedSimpArgs false
set_option linter.unusedVariables false

/-- the room that a list has: nil has none -/
def Room (a : Option Addr) (l : List Pt) (c : Nat) : Prop := l.length ≤ c ∧ (a = none → c = 0)
theorem room_nil : Room none [] 0 := ⟨Nat.le_refl _, fun _ => rfl⟩
theorem parts_ownC {w : World} {B : Nat} {v : Value} {l : List Pt} (h : w.ownsRow B 138 3 v l.length (allCells l)) (hb : Bound l) : ∃ a cap, v = .slice a l.length cap ∧ PartsAt w w.heap.size a l ∧ Room a l cap := by
  rcases h.2 with ⟨rfl, h0⟩ | ⟨g, cap, cur, rfl, hB, hg, hn, hm, hc, ht⟩
  · have : l = [] := List.length_eq_zero_iff.1 h0
    subst this
    exact ⟨none, 0, rfl, ⟨by simp, Nat.le_refl _, by simp, by simp⟩, room_nil⟩
  · refine ⟨some ⟨g, 0, none⟩, cap, rfl, ⟨hb.1, Nat.le_refl _, hb.2, fun _ => ⟨g, 0, rfl, (Array.getElem?_eq_some_iff.1 hg).1, fun i p hi => ?_⟩⟩, hn, fun e => by cases e⟩
    obtain ⟨c1, c2, c3⟩ := allCells_at hi
    have hil := (List.getElem?_eq_some_iff.1 hi).1
    refine ⟨?_, ?_, ?_⟩
    · rw [Nat.zero_add, h.cellAt _ (by omega)]; exact c1
    · rw [Nat.zero_add, h.cellAt _ (by omega)]; exact c2
    · rw [Nat.zero_add, h.cellAt _ (by omega)]; exact c3

end Go.Proofs.Ytgffippimmokiaa

/- A history as it lies in memory: revisions, and the deltas that they hold. -/
namespace Go.Proofs.Ytgffippimmokiaa
open Go.RowKit
set_option linter.unusedSimpArgs false
set_option linter.unusedVariables false

def wide (n : Int) : Prop := -9223372036854775808 ≤ n ∧ n ≤ 9223372036854775807
/-- a revision at an address -/
def RvAt (w : World) (B b off : Nat) (r : Rv) (a : Option Addr) (c : Nat) : Prop :=
  w.cell? ⟨b, off, none⟩ = some (.int .i64 r.who) ∧ w.cell? ⟨b, off + 1, none⟩ = some (.int .i64 r.seq) ∧ w.cell? ⟨b, off + 2, none⟩ = some (.slice a r.d.length c) ∧ PartsAt w B a r.d ∧ Room a r.d c
/-- the revisions l lie from address a on, and their deltas, below block B -/
def RevsAt (w : World) (B : Nat) (a : Option Addr) (l : List Rv) : Prop :=
  l.length ≤ 9223372036854775807 ∧ B ≤ w.heap.size ∧ (∀ r ∈ l, wide r.who ∧ wide r.seq) ∧
  (l ≠ [] → ∃ b off, a = some ⟨b, off, none⟩ ∧ b < B ∧ ∀ i r, l[i]? = some r → ∃ ai ci, RvAt w B b (off + i * 3) r ai ci)
theorem RvAt.below {w w' : World} {B B' b off : Nat} {r : Rv} {a : Option Addr} {c : Nat} (h : RvAt w B b off r a c) (hb : Below B' w w') (hB : B ≤ B') (hlt : b < B) : RvAt w' B b off r a c := by
  obtain ⟨h1, h2, h3, h4, h5⟩ := h
  have hlt' : b < B' := Nat.lt_of_lt_of_le hlt hB
  exact ⟨(hb.cell (p := ⟨b, _, none⟩) hlt').trans h1, (hb.cell (p := ⟨b, _, none⟩) hlt').trans h2, (hb.cell (p := ⟨b, _, none⟩) hlt').trans h3, h4.below hb hB, h5⟩
theorem RevsAt.below {w w' : World} {B B' : Nat} {a : Option Addr} {l : List Rv} (h : RevsAt w B a l) (hb : Below B' w w') (hB : B ≤ B') : RevsAt w' B a l := by
  obtain ⟨h1, h2, h3, h4⟩ := h
  refine ⟨h1, Nat.le_trans h2 hb.size, h3, fun hn => ?_⟩
  obtain ⟨b, off, ha, hlt, hc⟩ := h4 hn
  refine ⟨b, off, ha, hlt, fun i r hi => ?_⟩
  obtain ⟨ai, ci, hr⟩ := hc i r hi
  exact ⟨ai, ci, hr.below hb hB hlt⟩
theorem PartsAt.wider {w : World} {B B' : Nat} {a : Option Addr} {l : List Pt} (h : PartsAt w B a l) (h1 : B ≤ B') (h2 : B' ≤ w.heap.size) : PartsAt w B' a l :=
  ⟨h.1, h2, h.2.2.1, fun hn => by
    obtain ⟨b, off, ha, hlt, hc⟩ := h.2.2.2 hn
    exact ⟨b, off, ha, by omega, hc⟩⟩
theorem RevsAt.wider {w : World} {B B' : Nat} {a : Option Addr} {l : List Rv} (h : RevsAt w B a l) (h1 : B ≤ B') (h2 : B' ≤ w.heap.size) : RevsAt w B' a l :=
  ⟨h.1, h2, h.2.2.1, fun hn => by
    obtain ⟨b, off, ha, hlt, hc⟩ := h.2.2.2 hn
    refine ⟨b, off, ha, by omega, fun i r hi => ?_⟩
    obtain ⟨ai, ci, r1, r2, r3, r4, r5⟩ := hc i r hi
    exact ⟨ai, ci, r1, r2, r3, r4.wider h1 h2, r5⟩⟩
theorem RevsAt.here {w w' : World} {B B' : Nat} {a : Option Addr} {l : List Rv} (h : RevsAt w B a l) (hb : Below B' w w') (hB : B ≤ B') : RevsAt w' w'.heap.size a l :=
  (h.below hb hB).wider (h.below hb hB).2.1 (Nat.le_refl _)
theorem RevsAt.mem {w : World} {B : Nat} {a : Option Addr} {l : List Rv} (h : RevsAt w B a l) {i : Nat} {r : Rv} (hi : l[i]? = some r) :
    ∃ b off ai ci, a = some ⟨b, off, none⟩ ∧ b < B ∧ RvAt w B b (off + i * 3) r ai ci := by
  obtain ⟨b, off, ha, hlt, hc⟩ := h.2.2.2 (fun e => by subst e; simp at hi)
  obtain ⟨ai, ci, hr⟩ := hc i r hi
  exact ⟨b, off, ai, ci, ha, hlt, hr⟩
/-- a revision in a block of its own -/
theorem rv_box {w : World} {r : Rv} {a : Option Addr} {c : Nat} (hp : PartsAt w w.heap.size a r.d) (hr : Room a r.d c) :
    RvAt (w.alloc (.cells #[.int .i64 r.who, .int .i64 r.seq, .slice a r.d.length c] 40)) w.heap.size w.heap.size 0 r a c := by
  have h : (w.alloc (.cells #[.int .i64 r.who, .int .i64 r.seq, .slice a r.d.length c] 40)).heap[w.heap.size]? = some (.cells #[.int .i64 r.who, .int .i64 r.seq, .slice a r.d.length c] 40 (0, 0)) := Deep.blk_alloc_new w _
  exact ⟨Lib.cell_of_heap h 0, Lib.cell_of_heap h 1, Lib.cell_of_heap h 2, hp.below ((Below.refl _ w).alloc (Nat.le_refl _) _) (Nat.le_refl _), hr⟩
/-- a beginning, and the rest -/
theorem RevsAt.take {w : World} {B : Nat} {a : Option Addr} {l : List Rv} (h : RevsAt w B a l) (k : Nat) : RevsAt w B a (l.take k) := by
  obtain ⟨h1, h2, h3, h4⟩ := h
  refine ⟨by rw [List.length_take]; omega, h2, fun r hr => h3 r (List.mem_of_mem_take hr), fun hn => ?_⟩
  obtain ⟨b, off, ha, hlt, hc⟩ := h4 (fun e => by subst e; simp at hn)
  refine ⟨b, off, ha, hlt, fun i r hi => hc i r ?_⟩
  rw [List.getElem?_take] at hi
  split at hi
  · exact hi
  · cases hi
theorem RevsAt.drop {w : World} {B : Nat} {a : Option Addr} {l : List Rv} (h : RevsAt w B a l) (k c : Nat) (hc : l.length ≤ c) : RevsAt w B (if c = k then a else a.map (·.add (k * 3))) (l.drop k) := by
  obtain ⟨h1, h2, h3, h4⟩ := h
  refine ⟨by rw [List.length_drop]; omega, h2, fun r hr => h3 r (List.mem_of_mem_drop hr), fun hn => ?_⟩
  have hkl : k < l.length := by
    rcases Nat.lt_or_ge k l.length with h | h
    · exact h
    · exact absurd (List.drop_eq_nil_of_le h) hn
  obtain ⟨b, off, ha, hlt, hcell⟩ := h4 (fun e => by subst e; simp at hn)
  subst ha
  refine ⟨b, off + k * 3, by rw [if_neg (by omega)]; simp [Addr.add], hlt, fun i r hi => ?_⟩
  rw [List.getElem?_drop] at hi
  obtain ⟨ai, ci, hr⟩ := hcell (k + i) r hi
  rw [show off + k * 3 + i * 3 = off + (k + i) * 3 by omega]
  exact ⟨ai, ci, hr⟩
theorem Try.sizeRev : ∀ w : World, (sizeOf (Try.prog.elem 36)).run Try.prog w = .ok 3 w := fun w => by kernel_rfl
theorem elemRev : Try.prog.underlying 36 = some (.slice (Try.prog.elem 36)) := by kernel_rfl
/-- l[:k] -/
theorem run_to {w : World} {B : Nat} {a : Option Addr} {l : List Rv} (h : RevsAt w B a l) {c k : Nat} (hc : l.length ≤ c) (hk : k ≤ l.length) :
    ∃ l2, l2 = l.take k ∧ l2.length = k ∧ RevsAt w B a l2 ∧ ∀ w' : World, (Instr.slice 36 (.slice a l.length c) none (some (.int .i64 (k : Int))) none).run Try.prog w' = .ok (.slice a l2.length c) w' := by
  refine ⟨_, rfl, by rw [List.length_take]; omega, h.take k, fun w' => ?_⟩
  rw [run_slice_h w' 36 a l.length c elemRev .i64 (k : Int) (by omega) (by omega), Try.sizeRev]
  simp only [Result.andThen, sliced, Int.toNat_natCast]
  rw [List.length_take, Nat.min_eq_left hk]
  cases a <;> simp [Addr.add]
/-- l[k:] -/
theorem run_from {w : World} {B : Nat} {a : Option Addr} {l : List Rv} (h : RevsAt w B a l) {c k : Nat} (hc : l.length ≤ c) (hk : k ≤ l.length) :
    ∃ l2 a2, l2 = l.drop k ∧ l2.length = l.length - k ∧ l2.length ≤ c - k ∧ RevsAt w B a2 l2 ∧ ∀ w' : World, (Instr.slice 36 (.slice a l.length c) (some (.int .i64 (k : Int))) none none).run Try.prog w' = .ok (.slice a2 l2.length (c - k)) w' := by
  refine ⟨_, _, rfl, by rw [List.length_drop], by rw [List.length_drop]; omega, h.drop k c hc, fun w' => ?_⟩
  rw [run_slice_l w' 36 a l.length c elemRev .i64 (k : Int) (by omega) (by omega), Try.sizeRev]
  simp only [Result.andThen, sliced, Int.toNat_natCast]
  rw [List.length_drop]
/-- l[i:k] -/
theorem run_mid {w : World} {B : Nat} {a : Option Addr} {l : List Rv} (h : RevsAt w B a l) {c i k : Nat} (hc : l.length ≤ c) (hi : i ≤ k) (hk : k ≤ l.length) :
    ∃ l2 a2, l2 = (l.take k).drop i ∧ l2.length = k - i ∧ RevsAt w B a2 l2 ∧ ∀ w' : World, (Instr.slice 36 (.slice a l.length c) (some (.int .i64 (i : Int))) (some (.int .i64 (k : Int))) none).run Try.prog w' = .ok (.slice a2 l2.length (c - i)) w' := by
  refine ⟨_, _, rfl, by rw [List.length_drop, List.length_take]; omega, (h.take k).drop i c (by rw [List.length_take]; omega), fun w' => ?_⟩
  rw [run_slice_lh w' 36 a l.length c elemRev .i64 .i64 (i : Int) (k : Int) (by omega) (by omega) (by omega), Try.sizeRev]
  simp only [Result.andThen, sliced, Int.toNat_natCast]
  rw [List.length_drop, List.length_take, Nat.min_eq_left hk]
/-- a revision in a block of its own, held -/
def RBox (w : World) (g : Nat) (r : Rv) (a : Option Addr) (c : Nat) : Prop :=
  w.cell? ⟨g, 0, none⟩ = some (.int .i64 r.who) ∧ w.cell? ⟨g, 1, none⟩ = some (.int .i64 r.seq) ∧ w.cell? ⟨g, 2, none⟩ = some (.slice a r.d.length c) ∧ g < w.heap.size
theorem RBox.below {w w' : World} {g : Nat} {r : Rv} {a : Option Addr} {c : Nat} (h : RBox w g r a c) (hb : Below w.heap.size w w') : RBox w' g r a c := by
  obtain ⟨h1, h2, h3, h4⟩ := h
  have h6 := hb.block g h4
  refine ⟨?_, ?_, ?_, Nat.lt_of_lt_of_le h4 hb.size⟩
  · rw [World.cell?_of_block h6]; exact h1
  · rw [World.cell?_of_block h6]; exact h2
  · rw [World.cell?_of_block h6]; exact h3
theorem rbox_new (w : World) (r : Rv) (a : Option Addr) (c : Nat) : RBox (w.alloc (.cells #[.int .i64 r.who, .int .i64 r.seq, .slice a r.d.length c] 40)) w.heap.size r a c := by
  have h : (w.alloc (.cells #[.int .i64 r.who, .int .i64 r.seq, .slice a r.d.length c] 40)).heap[w.heap.size]? = some (.cells #[.int .i64 r.who, .int .i64 r.seq, .slice a r.d.length c] 40 (0, 0)) := Deep.blk_alloc_new w _
  exact ⟨Lib.cell_of_heap h 0, Lib.cell_of_heap h 1, Lib.cell_of_heap h 2, lt_of_heap h⟩
/-- all that is wanted of a revision in a block of its own, while functions are called -/
def RHeld (w0 : World) (B g : Nat) (r : Rv) (a : Option Addr) (c : Nat) (w : World) : Prop := RBox w g r a c ∧ PartsAt w B a r.d ∧ Below B w0 w ∧ B ≤ w.heap.size
theorem RHeld.all {w0 w : World} {B g : Nat} {r : Rv} {a : Option Addr} {c : Nat} (h : RHeld w0 B g r a c w) :
    w.cell? ⟨g, 0, none⟩ = some (.int .i64 r.who) ∧ w.cell? ⟨g, 1, none⟩ = some (.int .i64 r.seq) ∧ w.cell? ⟨g, 2, none⟩ = some (.slice a r.d.length c) ∧ RHeld w0 B g r a c w := ⟨h.1.1, h.1.2.1, h.1.2.2.1, h⟩
theorem RHeld.next {w0 w w' : World} {B g : Nat} {r : Rv} {a : Option Addr} {c : Nat} (h : RHeld w0 B g r a c w) (hb : Below w.heap.size w w') : RHeld w0 B g r a c w' :=
  ⟨h.1.below hb, h.2.1.below hb h.2.2.2, h.2.2.1.trans (hb.mono h.2.2.2), Nat.le_trans h.2.2.2 hb.size⟩
theorem RHeld.keep {w0 w w' : World} {B g : Nat} {r : Rv} {a : Option Addr} {c : Nat} (h : RHeld w0 B g r a c w) (hb : Below w.heap.size w w') :
    w'.cell? ⟨g, 0, none⟩ = some (.int .i64 r.who) ∧ w'.cell? ⟨g, 1, none⟩ = some (.int .i64 r.seq) ∧ w'.cell? ⟨g, 2, none⟩ = some (.slice a r.d.length c) ∧ RHeld w0 B g r a c w' := (h.next hb).all
theorem RHeld.parts {w0 w : World} {B g : Nat} {r : Rv} {a : Option Addr} {c : Nat} (h : RHeld w0 B g r a c w) : PartsAt w w.heap.size a r.d := h.2.1.here (Below.refl _ _) h.2.2.2
theorem RHeld.drew {w0 w : World} {B g : Nat} {r : Rv} {a : Option Addr} {c : Nat} (h : RHeld w0 B g r a c w) : RHeld w0 B g r a c w.drew := ⟨h.1, h.2.1, h.2.2.1.drew, h.2.2.2⟩
theorem rheld_new {w0 w : World} {B : Nat} {r : Rv} {a : Option Addr} {c : Nat} (hp : PartsAt w B a r.d) (hb : Below B w0 w) (hB : B ≤ w.heap.size) :
    RHeld w0 B w.heap.size r a c (w.alloc (.cells #[.int .i64 r.who, .int .i64 r.seq, .slice a r.d.length c] 40)) :=
  ⟨rbox_new w r a c, hp.below ((Below.refl _ w).alloc (Nat.le_refl _) _) hB, hb.alloc hB _, by rw [Deep.nblk_alloc]; omega⟩
end Go.Proofs.Ytgffippimmokiaa

/- What revs.One, the document's Rev, revs.made and revs.Check answer. -/
namespace Go.Proofs.Ytgffippimmokiaa
open Go.RowKit
set_option linter.unusedSimpArgs false
set_option linter.unusedVariables false

set_option maxRecDepth 20000 in
set_option maxHeartbeats 1000000 in
theorem One_any (r : Rv) (a : Option Addr) (c : Nat) (w : World) (hp : PartsAt w w.heap.size a r.d) :
    Calls Try.prog 92 #[.agg #[.int .i64 r.who, .int .i64 r.seq, .slice a r.d.length c]] w fun e w' => e = .returned (.int .i64 (oneE r)) ∧ Below w.heap.size w w' := by
  have HP : Hid (PartsAt w w.heap.size a r.d) := hp
  clear hp
  by_cases h1 : r.who < 0
  · have hE : oneE r = 1 := by rw [oneE, if_pos (by omega)]
    rw [hE]; clear hE
    go_enter Try.func92, Try.ntmps92
    go_wp2_with fail
    go_ret
    exact ⟨rfl, (Below.refl _ _).alloc (Nat.le_refl _) _⟩
  · by_cases h2 : 7 < r.who
    · have hE : oneE r = 1 := by rw [oneE, if_pos (by omega)]
      rw [hE]; clear hE
      go_enter Try.func92, Try.ntmps92
      go_wp2_with fail
      go_ret
      exact ⟨rfl, (Below.refl _ _).alloc (Nat.le_refl _) _⟩
    · by_cases h3 : r.seq < 0
      · have hE : oneE r = 1 := by rw [oneE, if_pos (by omega)]
        rw [hE]; clear hE
        go_enter Try.func92, Try.ntmps92
        go_wp2_with fail
        go_ret
        exact ⟨rfl, (Below.refl _ _).alloc (Nat.le_refl _) _⟩
      · by_cases h4 : 2147483647 < r.seq
        · have hE : oneE r = 1 := by rw [oneE, if_pos (by omega)]
          rw [hE]; clear hE
          go_enter Try.func92, Try.ntmps92
          go_wp2_with fail
          go_ret
          exact ⟨rfl, (Below.refl _ _).alloc (Nat.le_refl _) _⟩
        · have hE : oneE r = sizesE r.d := by rw [oneE, if_neg (by omega)]
          rw [hE]; clear hE
          go_enter Try.func92, Try.ntmps92
          go_wp2_with fail
          refine (Check_any a r.d c _ (HP.out.here ((Below.refl _ w).alloc (Nat.le_refl _) _) (Nat.le_refl _))).mono ?_
          rintro e w1 ⟨rfl, hb1⟩
          have HB1 : Hid (Below w.heap.size w w1) := ((Below.refl _ w).alloc (Nat.le_refl _) _).trans (hb1.mono (by simp))
          clear hb1
          go_wp2_with fail
          go_ret
          exact ⟨rfl, HB1.out⟩

set_option maxRecDepth 20000 in
set_option maxHeartbeats 1000000 in
theorem RRev_any (r : Rv) (a : Option Addr) (c : Nat) (w : World) (hp : PartsAt w w.heap.size a r.d) :
    Calls Try.prog 88 #[.agg #[.int .i64 r.who, .int .i64 r.seq, .slice a r.d.length c]] w fun e w' => e = .returned (.int .i64 (oneE r)) ∧ Below w.heap.size w w' := by
  have HP : Hid (PartsAt w w.heap.size a r.d) := hp
  clear hp
  by_cases h1 : r.who < 0
  · have hE : oneE r = 1 := by rw [oneE, if_pos (by omega)]
    rw [hE]; clear hE
    go_enter Try.func88, Try.ntmps88
    go_wp2_with fail
    go_ret
    exact ⟨rfl, (Below.refl _ _).alloc (Nat.le_refl _) _⟩
  · by_cases h2 : 7 < r.who
    · have hE : oneE r = 1 := by rw [oneE, if_pos (by omega)]
      rw [hE]; clear hE
      go_enter Try.func88, Try.ntmps88
      go_wp2_with fail
      go_ret
      exact ⟨rfl, (Below.refl _ _).alloc (Nat.le_refl _) _⟩
    · by_cases h3 : r.seq < 0
      · have hE : oneE r = 1 := by rw [oneE, if_pos (by omega)]
        rw [hE]; clear hE
        go_enter Try.func88, Try.ntmps88
        go_wp2_with fail
        go_ret
        exact ⟨rfl, (Below.refl _ _).alloc (Nat.le_refl _) _⟩
      · by_cases h4 : 2147483647 < r.seq
        · have hE : oneE r = 1 := by rw [oneE, if_pos (by omega)]
          rw [hE]; clear hE
          go_enter Try.func88, Try.ntmps88
          go_wp2_with fail
          go_ret
          exact ⟨rfl, (Below.refl _ _).alloc (Nat.le_refl _) _⟩
        · have hE : oneE r = sizesE r.d := by rw [oneE, if_neg (by omega)]
          rw [hE]; clear hE
          go_enter Try.func88, Try.ntmps88
          go_wp2_with fail
          refine (Delta_any a r.d c _ (HP.out.here ((Below.refl _ w).alloc (Nat.le_refl _) _) (Nat.le_refl _))).mono ?_
          rintro e w1 ⟨rfl, hb1⟩
          have HB1 : Hid (Below w.heap.size w w1) := ((Below.refl _ w).alloc (Nat.le_refl _) _).trans (hb1.mono (by simp))
          clear hb1
          go_wp2_with fail
          go_ret
          exact ⟨rfl, HB1.out⟩

set_option maxHeartbeats 1000000 in
theorem rmade_any (r : Rv) (a : Option Addr) (c : Nat) (w : World) (hp : PartsAt w w.heap.size a r.d) :
    Calls Try.prog 100 #[.agg #[.int .i64 r.who, .int .i64 r.seq, .slice a r.d.length c]] w fun e w' => e = .returned (.int .i64 (sizesOut r.d)) ∧ Below w.heap.size w w' := by
  have HP : Hid (PartsAt w w.heap.size a r.d) := hp
  clear hp
  go_enter Try.func100, Try.ntmps100
  go_wp2_with fail
  refine (Sizes_any a r.d c _ (HP.out.here ((Below.refl _ w).alloc (Nat.le_refl _) _) (Nat.le_refl _))).mono ?_
  rintro e w1 ⟨rfl, hb1⟩
  have HB1 : Hid (Below w.heap.size w w1) := ((Below.refl _ w).alloc (Nat.le_refl _) _).trans (hb1.mono (by simp))
  clear hb1
  go_wp2_with fail
  go_ret
  exact ⟨rfl, HB1.out⟩

theorem ret_err {a b : Int} (h : a = b) : Ending.returned (.int .i64 a) = .returned (.int .i64 b) := by rw [h]

set_option maxRecDepth 20000 in
set_option maxHeartbeats 2000000 in
theorem RevCheck_any (s : ByteArray) (a : Option Addr) (l : List Rv) (cap : Nat) (w : World) (hl : RevsAt w w.heap.size a l) (hs : s.size ≤ 9223372036854775807) :
    Calls Try.prog 68 #[.string s, .slice a l.length cap] w fun e w' => e = .returned (.int .i64 (checkE s.data.toList l)) ∧ Below w.heap.size w w' := by
  have hsl : s.data.toList.length = s.size := Array.length_toList
  have hll := hl.1
  by_cases h1 : 500 < s.size
  · have hE : checkE s.data.toList l = 2 := by rw [checkE, if_pos (by omega)]
    rw [hE]; clear hE hsl
    have h1' : (500 : Int) < (s.size : Int) := by omega
    go_enter Try.func68, Try.ntmps68
    go_wp2_with fail
    go_ret
    exact ⟨rfl, Below.refl _ _⟩
  · have h1' : ¬ (500 : Int) < (s.size : Int) := by omega
    by_cases h2 : 64 < l.length
    · have hE : checkE s.data.toList l = 2 := by rw [checkE, if_pos (by omega)]
      rw [hE]; clear hE hsl
      have h2' : (64 : Int) < (l.length : Int) := by omega
      go_enter Try.func68, Try.ntmps68
      go_wp2_with fail
      go_ret
      exact ⟨rfl, Below.refl _ _⟩
    · have h2' : ¬ (64 : Int) < (l.length : Int) := by omega
      have HL : Hid (RevsAt w w.heap.size a l) := hl
      have HSL : Hid (s.data.toList.length = s.size) := hsl
      have HE : Hid (checkE s.data.toList l = histE s.data.toList l) := by show _ = _; rw [checkE, if_neg (by omega)]
      clear hl hsl
      go_enter Try.func68, Try.ntmps68
      go_wp2_with fail
      go_loopw [5, 22] (fun n i wr => ∃ (k : Nat) (t : List UInt8) (m : Int), k ≤ l.length ∧ i = .int .i64 k ∧ n = .int .i64 m ∧ m = t.length ∧ t.length ≤ 500 ∧ histE t (l.drop k) = histE s.data.toList l ∧ Below w.heap.size w wr) (fun _ i _ => l.length - (intOf i).toNat)
      case atStart => exact ⟨0, s.data.toList, _, Nat.zero_le _, rfl, rfl, by rw [HSL.out], by rw [HSL.out]; omega, rfl, Below.refl _ _⟩
      case round =>
        obtain ⟨k, t, m, hk, rfl, rfl, hm, ht5, hh, hb⟩ := hrel
        by_cases hlt : k < l.length
        · obtain ⟨r, hrk⟩ : ∃ r, l[k]? = some r := ⟨l[k], List.getElem?_eq_getElem hlt⟩
          have hki : (k : Int) < (l.length : Int) := by omega
          obtain ⟨b, off, ai, ci, rfl, hblt, c1, c2, c3, hpd, hrm⟩ := (HL.out.below hb (Nat.le_refl _)).mem hrk
          have hz := hb.size
          have hbw : b < wr.heap.size := by omega
          have HD : Hid (PartsAt wr w.heap.size ai r.d) := hpd
          have HB : Hid (Below w.heap.size w wr) := hb
          have HH : Hid (histE s.data.toList l = histE t (r :: l.drop (k + 1))) := by show _ = _; rw [← hh, drop_rv hrk]
          have HM : Hid (m = (t.length : Int)) := hm
          have HT : Hid (t.length ≤ 500) := ht5
          have hHB1 : Below w.heap.size w (wr.alloc (.cells #[.int .i64 r.who, .int .i64 r.seq, .slice ai r.d.length ci] 40)) := HB.out.alloc hz _
          have HD1 : Hid (PartsAt (wr.alloc (.cells #[.int .i64 r.who, .int .i64 r.seq, .slice ai r.d.length ci] 40)) w.heap.size ai r.d) := hpd.below ((Below.refl _ wr).alloc (Nat.le_refl _) _) hz
          have HB1 : Hid _ := hHB1
          clear hb hh hm ht5 hpd hrm hrk hHB1
          go_wp2_with fail
          refine (One_any r ai ci _ (HD1.out.here (Below.refl _ _) (Nat.le_refl _))).mono ?_
          rintro e w2 ⟨rfl, hb2⟩
          have HX2 : Hid (RBox w2 wr.heap.size r ai ci) := (rbox_new wr r ai ci).below hb2
          obtain ⟨x0, x1, x2, x3⟩ := HX2.out
          have hz2 : wr.heap.size + 1 ≤ w2.heap.size := by have := hb2.size; simpa using this
          have HB2 : Hid (Below w.heap.size w w2) := HB1.out.trans (hb2.mono (by simp; omega))
          have HD2 : Hid (PartsAt w2 w.heap.size ai r.d) := HD1.out.below hb2 (by simp; omega)
          clear hb2
          by_cases hO : oneE r = 0
          · have hO' : (oneE r != 0) = false := by simp [hO]
            have HO : Hid (oneE r = 0) := hO
            have HZ : Hid _ := (one_zero hO).2
            clear hO
            go_wp2_with fail
            clear x0 x1 x2 x3
            refine (Fits_any ai r.d ci _ _ (HD2.out.here (Below.refl _ _) (by omega))).mono ?_
            rintro e w3 ⟨rfl, hb3⟩
            obtain ⟨y0, y1, y2, y3⟩ := HX2.out.below hb3
            have hz3 := hb3.size
            have HB3 : Hid (Below w.heap.size w w3) := HB2.out.trans (hb3.mono (by omega))
            have HD3 : Hid (PartsAt w3 w.heap.size ai r.d) := HD2.out.below hb3 (by omega)
            clear hb3
            by_cases hF : fitsE r.d m = 0
            · have hF' : (fitsE r.d m != 0) = false := by simp [hF]
              have HF : Hid (fitsE r.d m = 0) := hF
              clear hF
              go_wp2_with fail
              refine (rmade_any r ai ci _ (HD3.out.here (Below.refl _ _) (by omega))).mono ?_
              rintro e w4 ⟨rfl, hb4⟩
              have HB4 : Hid (Below w.heap.size w w4) := HB3.out.trans (hb4.mono (by omega))
              clear hb4
              go_wp2_with fail
              go_roundw
              case rel =>
                have hF := HF.out
                rw [HM.out] at hF
                obtain ⟨f1, f2⟩ := fits_zero hF
                obtain ⟨o1, o2⟩ := do_out f1 f2
                refine ⟨k + 1, doL r.d t, _, by omega, by go_num, rfl, by rw [(sizes_zero f1).2.2, o1], o2, ?_, HB4.out⟩
                rw [HH.out, histE, if_pos HO.out, if_pos hF]
              case measure => simp [intOf]; omega
            · have hF' : (fitsE r.d m != 0) = true := by simp [hF]
              have HF : Hid (¬ fitsE r.d m = 0) := hF
              clear hF
              go_wp2_with fail
              go_ret
              refine ⟨ret_err ?_, HB3.out⟩
              have hF := HF.out
              rw [HM.out] at hF
              rw [HE.out, HH.out, histE, if_pos HO.out, if_neg hF, HM.out]
          · have hO' : (oneE r != 0) = true := by simp [hO]
            have HO : Hid (¬ oneE r = 0) := hO
            clear hO
            go_wp2_with fail
            go_ret
            exact ⟨ret_err (by rw [HE.out, HH.out, histE, if_neg HO.out]), HB2.out⟩
        · have hki : ¬ (k : Int) < (l.length : Int) := by omega
          have HH : Hid (0 = histE s.data.toList l) := by show _ = _; rw [← hh, List.drop_eq_nil_of_le (by omega)]; rfl
          clear hh
          go_wp2_with fail
          go_ret
          exact ⟨ret_err (by rw [HE.out, ← HH.out]), hb⟩
end Go.Proofs.Ytgffippimmokiaa
