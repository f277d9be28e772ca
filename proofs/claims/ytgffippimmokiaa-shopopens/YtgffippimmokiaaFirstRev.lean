/- A history of one revision that is written out. -/
import Derived.Test.YtgffippimmokiaaRevOne
import Derived.Test.YtgffippimmokiaaPtOwn
import Derived.Deep.Heap
namespace Go.Proofs.Ytgffippimmokiaa
open Go.RowKit
set_option linter.unusedSimpArgs false
set_option linter.unusedVariables false

/-- a revision, in a block behind its delta -/
theorem revs_one (w : World) (r : Rv) (hd : wide r.who ∧ wide r.seq) (a : Option Addr) (c : Nat) (hp : PartsAt w w.heap.size a r.d) (hr : Room a r.d c) :
    RevsAt (w.alloc (.cells #[.int .i64 r.who, .int .i64 r.seq, .slice a r.d.length c] 40)) (w.alloc (.cells #[.int .i64 r.who, .int .i64 r.seq, .slice a r.d.length c] 40)).heap.size (some ⟨w.heap.size, 0, none⟩) [r] := by
  have hz : (w.alloc (.cells #[.int .i64 r.who, .int .i64 r.seq, .slice a r.d.length c] 40)).heap.size = w.heap.size + 1 := Deep.nblk_alloc _ _
  refine ⟨by simp, Nat.le_refl _, fun q hq => by simp at hq; subst hq; exact hd, fun _ => ⟨w.heap.size, 0, rfl, by rw [hz]; omega, fun i q hi => ?_⟩⟩
  obtain rfl : i = 0 := by
    have := (List.getElem?_eq_some_iff.1 hi).1
    simpa using this
  obtain rfl : r = q := by simpa using hi
  obtain ⟨r1, r2, r3, r4, r5⟩ := rv_box hp hr
  refine ⟨a, c, r1, r2, r3, ?_, r5⟩
  exact r4.wider (by rw [hz]; omega) (Nat.le_refl _)
end Go.Proofs.Ytgffippimmokiaa

/- What the laws' own put answers. -/
namespace Go.Proofs.Ytgffippimmokiaa
open Go.RowKit
set_option linter.unusedSimpArgs false
set_option linter.unusedVariables false

set_option maxHeartbeats 400000 in
theorem put_any (s : ByteArray) (w : World) (hs : s.size ≤ 9223372036854775807) :
    Calls Try.prog 49 #[.string s] w fun e w' => e = .returned (.slice (some ⟨w.heap.size, 0, none⟩) 1 1) ∧ PartsAt w' w'.heap.size (some ⟨w.heap.size, 0, none⟩) [⟨2, 0, s⟩] ∧ Below w.heap.size w w' := by
  go_enter Try.func49, Try.ntmps49
  go_wp2
  go_ret
  have h2 := parts_lit w [⟨2, 0, s⟩] ⟨by simp, by intro p hp; simp at hp; subst hp; exact ⟨hs, by simp, by simp, by simp, by simp⟩⟩
  refine ⟨rfl, ?_, (Below.refl _ _).alloc (Nat.le_refl _) _⟩
  rw [show (w.alloc (.cells #[.int .i64 2, .int .i64 0, .string s] 138)).heap.size = w.heap.size + 1 from Deep.nblk_alloc _ _]
  exact h2

end Go.Proofs.Ytgffippimmokiaa

/- What the laws' own first answers: a revision that puts a text. -/
namespace Go.Proofs.Ytgffippimmokiaa
open Go.RowKit
set_option linter.unusedSimpArgs false
set_option linter.unusedVariables false

/-- the cells of a revision's own block, behind a call -/
theorem rcell_kept {w w1 : World} (hb : Below (w.alloc (.cells #[.int .i64 0, .int .i64 0, .slice none 0 0] 40)).heap.size (w.alloc (.cells #[.int .i64 0, .int .i64 0, .slice none 0 0] 40)) w1) :
    (∀ o, w1.frozen? ⟨w.heap.size, o, none⟩ = false) ∧ w1.cell? ⟨w.heap.size, 0, none⟩ = some (.int .i64 0) ∧ w1.cell? ⟨w.heap.size, 1, none⟩ = some (.int .i64 0) ∧ w1.cell? ⟨w.heap.size, 2, none⟩ = some (.slice none 0 0) ∧ w.heap.size < w1.heap.size := by
  have h : (w.alloc (.cells #[.int .i64 0, .int .i64 0, .slice none 0 0] 40)).heap[w.heap.size]? = some (.cells #[.int .i64 0, .int .i64 0, .slice none 0 0] 40 (0, 0)) := Deep.blk_alloc_new w _
  have h1 := (hb.block w.heap.size (lt_of_heap h)).trans h
  exact ⟨fun o => by simp [World.frozen?, h1], Lib.cell_of_heap h1 0, Lib.cell_of_heap h1 1, Lib.cell_of_heap h1 2, lt_of_heap h1⟩
set_option maxHeartbeats 1000000 in
theorem first_any (s : ByteArray) (w : World) (hs : s.size ≤ 9223372036854775807) :
    Calls Try.prog 13 #[.string s] w fun e w' => ∃ ad, e = .returned (.agg #[.int .i64 1, .int .i64 1, .slice (some ad) 1 1]) ∧ PartsAt w' w'.heap.size (some ad) [⟨2, 0, s⟩] ∧ Below w.heap.size w w' := by
  have H0 : Hid (Below w.heap.size w (w.alloc (.cells #[.int .i64 0, .int .i64 0, .slice none 0 0] 40))) := (Below.refl _ w).alloc (Nat.le_refl _) _
  go_enter Try.func13, Try.ntmps13
  go_wp2_with fail
  refine (put_any s _ hs).mono ?_
  rintro e w1 ⟨rfl, hp, hb⟩
  obtain ⟨f0, d0, d1, d2, d3⟩ := rcell_kept hb
  have HB : Hid (Below w.heap.size w w1) := H0.out.trans (hb.mono H0.out.size)
  have hz : w.heap.size + 1 ≤ w1.heap.size := by omega
  rw [show (w.alloc (.cells #[.int .i64 0, .int .i64 0, .slice none 0 0] 40)).heap.size = w.heap.size + 1 from Deep.nblk_alloc _ _] at hp
  rw [show (w.alloc (.cells #[.int .i64 0, .int .i64 0, .slice none 0 0] 40)).heap.size = w.heap.size + 1 from Deep.nblk_alloc _ _]
  have HP : Hid (PartsAt w1 w1.heap.size (some ⟨w.heap.size + 1, 0, none⟩) [⟨2, 0, s⟩]) := hp
  clear hp hb
  go_wp2_with fail
  refine bodyPost_ret (v := .agg #[.int .i64 1, .int .i64 1, .slice (some ⟨w.heap.size + 1, 0, none⟩) 1 1]) (by simp [results, Try.results13, go_sem, *]) rfl ⟨_, rfl, ?_, ?_⟩
  · obtain ⟨q1, q2, q3, q4⟩ := HP.out
    refine ⟨q1, Nat.le_refl _, q3, fun hn => ?_⟩
    obtain ⟨b, off, ha, hlt, hcs⟩ := q4 hn
    simp only [Option.some.injEq, Addr.mk.injEq, and_true] at ha
    obtain ⟨rfl, rfl⟩ := ha
    have hsame : (((w1.setCell ⟨w.heap.size, 0, none⟩ (.int .i64 1)).setCell ⟨w.heap.size, 1, none⟩ (.int .i64 1)).setCell ⟨w.heap.size, 2, none⟩ (.slice (some ⟨w.heap.size + 1, 0, none⟩) 1 1)).heap[w.heap.size + 1]? = w1.heap[w.heap.size + 1]? := by
      rw [Deep.blk_setCell_other _ _ _ _ (by simp), Deep.blk_setCell_other _ _ _ _ (by simp), Deep.blk_setCell_other _ _ _ _ (by simp)]
    refine ⟨_, _, rfl, by simpa [World.setCell] using hlt, fun i p hi => ?_⟩
    obtain ⟨k1, k2, k3⟩ := hcs i p hi
    exact ⟨(World.cell?_of_block (a := ⟨w.heap.size + 1, _, none⟩) hsame).trans k1, (World.cell?_of_block (a := ⟨w.heap.size + 1, _, none⟩) hsame).trans k2, (World.cell?_of_block (a := ⟨w.heap.size + 1, _, none⟩) hsame).trans k3⟩
  · exact ((HB.out.setCell (p := ⟨w.heap.size, 0, none⟩) (Nat.le_refl _) _).setCell (p := ⟨w.heap.size, 1, none⟩) (Nat.le_refl _) _).setCell (p := ⟨w.heap.size, 2, none⟩) (Nat.le_refl _) _
end Go.Proofs.Ytgffippimmokiaa
