/- An archive, as the laws call it. -/
import Derived.Test.YtgffippimmokiaaShSteps
import Derived.Test.YtgffippimmokiaaShNew
import Derived.Test.YtgffippimmokiaaFirstRev
import Derived.Test.YtgffippimmokiaaPtOwn
namespace Go.Proofs.Ytgffippimmokiaa
open Go.RowKit
set_option linter.unusedSimpArgs false
set_option linter.unusedVariables false

/-- what holds of an archive at any time, whatever was said so far -/
def SGood (S : Sh) : Prop := ∃ a b m, ShInv S a b m ∧ m ≤ S.log.revs.length
/-- an archive of which that holds, in a block -/
def SG (w : World) (g : Nat) (S : Sh) : Prop := ShIs w g S ∧ SGood S
theorem SG.below {w w' : World} {g : Nat} {S : Sh} (h : SG w g S) (hb : Below w.heap.size w w') : SG w' g S := ⟨h.1.below hb, h.2⟩
theorem SG.lt {w : World} {g : Nat} {S : Sh} (h : SG w g S) : g < w.heap.size := h.1.lt
theorem good_new : SGood newS := ⟨[], [], 0, inv_new, Nat.zero_le _⟩
theorem SGood.ok {S : Sh} (h : SGood S) : ShOk S := by
  obtain ⟨a, b, m, h, _⟩ := h
  exact h.ok
theorem SGood.lok {S : Sh} (h : SGood S) : ∃ n, LOk S.log n := h.ok.log
theorem SGood.bounds {S : Sh} (h : SGood S) : S.log.revs.length ≤ 64 ∧ headN S ≤ 2147483647 ∧ S.safe ≤ headN S ∧ S.log.base ≤ headN S := by
  obtain ⟨a, b, m, h, _⟩ := h
  exact ⟨h.lok.revs, h.lok.ends, h.head.2, by unfold headN; omega⟩
theorem good_add {S : Sh} (h : SGood S) (r : Rv) : SGood (addT S r) := by
  unfold addT
  split
  · rename_i hE
    obtain ⟨a, b, m, h, hm⟩ := h
    refine ⟨a, b ++ [r], m + 1, inv_add h hm hE, ?_⟩
    show m + 1 ≤ (S.log.revs ++ [r]).length
    rw [List.length_append, List.length_singleton]; omega
  · exact h
theorem good_sync {S : Sh} (h : SGood S) : SGood (syncS S) := by
  obtain ⟨a, b, m, h, hm⟩ := h
  exact ⟨a, b, m, inv_sync h, hm⟩
theorem keepS_revs (S : Sh) (r : Int) : (keepS S r).log = S.log := by unfold keepS; split <;> rfl
theorem good_keep {S : Sh} (h : SGood S) (r : Int) : SGood (keepS S r) := by
  obtain ⟨a, b, m, h, hm⟩ := h
  exact ⟨a, b, m, inv_keep h r, by rw [keepS_revs]; exact hm⟩
theorem next_revs (S : Sh) : (stepNext S).log = S.log := by unfold stepNext; split <;> rfl
theorem disk_log (S : Sh) (c o : ByteArray) (x y : Int) (n : Nat) : ({ S.disk c x o y with stage := n } : Sh).log = S.log := rfl
theorem head_revs (S : Sh) : (stepHead S).log = S.log := by
  unfold stepHead
  generalize headB S = q
  exact disk_log S _ _ _ _ _
theorem over_revs (S : Sh) : (overS S).log = S.log := rfl
theorem good_step {S : Sh} (h : SGood S) : SGood (stepS S) := by
  obtain ⟨a, b, m, h, hm⟩ := h
  unfold stepS
  split
  · rename_i h1; exact ⟨a, b, m, inv_head h h1, by rw [head_revs]; exact hm⟩
  · split
    · rename_i h2; exact ⟨a, b, m, inv_next h h2, by rw [next_revs]; exact hm⟩
    · split
      · rename_i h3
        obtain ⟨a', b', h', _⟩ := inv_change h h3
        exact ⟨a', b', 0, h', Nat.zero_le _⟩
      · split
        · exact ⟨a, b, m, inv_over h, by rw [over_revs]; exact hm⟩
        · exact ⟨a, b, m, h, hm⟩
theorem GNew (w : World) : Calls Try.prog 23 #[] w fun e w' => ∃ g, e = .returned (.pointer (some ⟨g, 0, none⟩)) ∧ w.heap.size ≤ g ∧ SG w' g newS ∧ Below w.heap.size w w' :=
  (New_any w).mono fun e w' ⟨g, h1, h2, h3, h4⟩ => ⟨g, h1, h2, ⟨h3, good_new⟩, h4⟩
theorem GAdd (S : Sh) (r : Rv) (a : Option Addr) (c g : Nat) (w : World) (h : SG w g S) (hp : PartsFar w g a r.d) :
    Calls Try.prog 19 #[.pointer (some ⟨g, 0, none⟩), .agg #[.int .i64 r.who, .int .i64 r.seq, .slice a r.d.length c]] w fun e w' => e = .returned (.tuple #[.int .i64 (addN S r), .int .i64 (addE S r)]) ∧ SG w' g (addT S r) ∧ Aside g w w' := by
  obtain ⟨a', b', m, hi, hm⟩ := h.2
  exact (ShAdd_any S r a c g w h.1 hi.ok hp hi.rooms.1 hi.rooms.2).mono fun e w' ⟨h1, h2, h3⟩ => ⟨h1, ⟨h2, good_add h.2 r⟩, h3⟩
theorem GSync (S : Sh) (g : Nat) (w : World) (h : SG w g S) :
    Calls Try.prog 24 #[.pointer (some ⟨g, 0, none⟩)] w fun e w' => e = .returned (.tuple #[]) ∧ SG w' g (syncS S) ∧ Aside g w w' :=
  (ShSync_any S g w h.1 h.2.ok).mono fun e w' ⟨h1, h2, h3⟩ => ⟨h1, ⟨h2, good_sync h.2⟩, h3⟩
theorem GKeep (S : Sh) (r : Int) (g : Nat) (w : World) (h : SG w g S) :
    Calls Try.prog 15 #[.pointer (some ⟨g, 0, none⟩), .int .i64 r] w fun e w' => e = .returned (.int .i64 (kpE S r)) ∧ SG w' g (keepS S r) ∧ Aside g w w' :=
  (ShKeep_any S r g w h.1 h.2.ok).mono fun e w' ⟨h1, h2, h3⟩ => ⟨h1, ⟨h2, good_keep h.2 r⟩, h3⟩
theorem GStep (S : Sh) (g : Nat) (w : World) (h : SG w g S) :
    Calls Try.prog 16 #[.pointer (some ⟨g, 0, none⟩)] w fun e w' => e = .returned (.bool (stepB S)) ∧ SG w' g (stepS S) ∧ Aside g w w' := by
  obtain ⟨a', b', m, hi, hm⟩ := h.2
  exact (ShStep_any S g w h.1 hi.ok hi.step).mono fun e w' ⟨h1, h2, h3⟩ => ⟨h1, ⟨h2, good_step h.2⟩, h3⟩
theorem GHead (S : Sh) (g : Nat) (w : World) (h : SG w g S) :
    Calls Try.prog 14 #[.pointer (some ⟨g, 0, none⟩)] w fun e w' => e = .returned (.int .i64 (headN S : Nat)) ∧ Below w.heap.size w w' := ShHead_any S g w h.1 h.2.bounds.1 h.2.bounds.2.1
theorem GText (S : Sh) (r : Int) (g : Nat) (w : World) (h : SG w g S) :
    Calls Try.prog 18 #[.pointer (some ⟨g, 0, none⟩), .int .i64 r] w fun e w' => e = .returned (.tuple #[.string ⟨(shTextR S r).toArray⟩, .int .i64 (hasE S r)]) ∧ Below w.heap.size w w' := ShText_any S r g w h.1 h.2.lok
/-- the revision that the laws begin with -/
def oneRv : Rv := ⟨1, 1, [⟨2, 0, ⟨#[97]⟩⟩]⟩
theorem one_add : addE newS oneRv = 0 := by
  rw [newS_is]; rfl
theorem one_said : shTextR (addT newS oneRv) 1 = [97] ∧ hasE (addT newS oneRv) 1 = 0 ∧ addN newS oneRv = 1 := by
  have h := one_add
  refine ⟨?_, ?_, ?_⟩
  · rw [addT, if_pos h]
    rw [newS_is]
    rfl
  · rw [addT, if_pos h]
    rw [newS_is]
    rfl
  · rw [addN, if_pos h, newS_is]
    rfl
set_option maxHeartbeats 400000 in
theorem tput_any (s : ByteArray) (w : World) (hs : s.size ≤ 9223372036854775807) :
    Calls Try.prog 73 #[.string s] w fun e w' => e = .returned (.slice (some ⟨w.heap.size, 0, none⟩) 1 1) ∧ w'.ownsRow w.heap.size 138 3 (.slice (some ⟨w.heap.size, 0, none⟩) 1 1) 1 (allCells [⟨2, 0, s⟩]) ∧ Below w.heap.size w w' := by
  go_enter Try.func73, Try.ntmps73
  go_wp2_with fail
  go_ret
  exact ⟨rfl, World.ownsRow_lit w (allCells [⟨2, 0, s⟩]).toArray 1 (Nat.le_refl _) (by decide) (by simp [allCells_length]), (Below.refl _ _).alloc (Nat.le_refl _) _⟩
set_option maxRecDepth 20000 in
set_option maxHeartbeats 2000000 in
theorem begun_any (w : World) : Calls Try.prog 30 #[] w fun e w' => e = .returned (.bool true) ∧ Below w.heap.size w w' := by
  have HN : Hid _ := fun w => GNew w
  have HT : Hid _ := fun w => tput_any ⟨#[97]⟩ w (by decide)
  go_enter Try.func30, Try.ntmps30
  go_wp2_with fail
  with_reducible refine (HN.out _).mono ?_
  rintro e w1 ⟨g, rfl, hg, hs1, hb1⟩
  have HS1 : Hid (SG w1 g newS) := hs1
  have HB1 : Hid (Below w.heap.size w w1 ∧ w.heap.size ≤ g) := ⟨hb1, hg⟩
  clear hs1 hb1 hg
  go_wp2_with fail
  with_reducible refine (HT.out _).mono ?_
  rintro e w2 ⟨rfl, hp2, hb2⟩
  have HS2 : Hid (SG w2 g newS) := HS1.out.below hb2
  have HB2 : Hid (Below w.heap.size w w2) := HB1.out.1.trans (hb2.mono HB1.out.1.size)
  have HA : Hid (∀ ad : Addr, ad = ⟨w1.heap.size, 0, none⟩ → Calls Try.prog 19 #[.pointer (some ⟨g, 0, none⟩), .agg #[.int .i64 1, .int .i64 1, .slice (some ad) 1 1]] w2 fun e w' => e = .returned (.tuple #[.int .i64 1, .int .i64 0]) ∧ SG w' g (addT newS oneRv) ∧ Aside g w2 w') := by
    intro ad had
    have h := GAdd newS oneRv (some ad) 1 g w2 HS2.out (by
      intro w' ha
      have h3 : w2.ownsRow w1.heap.size 138 3 (.slice (some ad) 1 1) 1 (allCells oneRv.d) := by rw [had]; exact hp2
      obtain ⟨v, xs, hof⟩ := HS2.out.1
      have h4 := h3.kept ha (.inr (own_ne' h3 hof.1 (by decide)))
      obtain ⟨a, c, e, p1⟩ := parts_own (l := oneRv.d) h4 ⟨by decide, by decide⟩
      simp only [Value.slice.injEq, true_and] at e
      obtain ⟨e1, _⟩ := e
      rw [e1]
      exact p1)
    rw [one_add, one_said.2.2] at h
    exact h
  clear hp2 hb2
  go_wp2_with fail
  with_reducible refine (HA.out _ rfl).mono ?_
  rintro e w3 ⟨rfl, hs3, ha3⟩
  have HS3 : Hid (SG w3 g (addT newS oneRv)) := hs3
  have HB3 : Hid (Below w.heap.size w w3) := HB2.out.trans (ha3.below HB1.out.2 HB2.out.size)
  have HTx : Hid (∀ w, SG w g (addT newS oneRv) → Calls Try.prog 18 #[.pointer (some ⟨g, 0, none⟩), .int .i64 1] w fun e w' => e = .returned (.tuple #[.string ⟨#[97]⟩, .int .i64 0]) ∧ Below w.heap.size w w') := by
    intro w h
    have h2 := GText (addT newS oneRv) 1 g w h
    rw [one_said.1, one_said.2.1] at h2
    exact h2
  clear hs3 ha3
  go_wp2_with fail
  with_reducible refine (HTx.out _ HS3.out).mono ?_
  rintro e w4 ⟨rfl, hb4⟩
  have HB4 : Hid (Below w.heap.size w w4) := HB3.out.trans (hb4.mono HB3.out.size)
  clear hb4
  go_wp2_with fail
  go_ret
  exact ⟨rfl, HB4.out⟩
end Go.Proofs.Ytgffippimmokiaa

/- What Within answers, where no part of a text is about. -/
namespace Go.Proofs.Ytgffippimmokiaa
open Go.RowKit
set_option linter.unusedSimpArgs false
set_option linter.unusedVariables false

set_option maxHeartbeats 1000000 in
theorem Within3_any (k : Int) (m : Nat) (w : World) (hm : 0 < m) (h5 : m ≤ 9223372036854775807) :
    Calls Try.prog 17 #[.int .i64 k, .int .i64 m] w fun e w' => ∃ r : Nat, e = .returned (.int .i64 r) ∧ r < m ∧ w' = w := by
  go_enter Try.func17, Try.ntmps17
  have hx0 : 0 ≤ (IntKind.u64.wrap k).tmod (m : Int) := Int.tmod_nonneg _ (by rw [IntKind.wrap_u64]; omega)
  have hx1 : (IntKind.u64.wrap k).tmod (m : Int) < m := Int.tmod_lt_of_pos _ (by omega)
  have hx2 : wrap64 ((IntKind.u64.wrap k).tmod (m : Int)) = (IntKind.u64.wrap k).tmod (m : Int) := IntWalk.wrap64_in _ ⟨by omega, by omega⟩
  have HX : Hid (0 ≤ (IntKind.u64.wrap k).tmod (m : Int) ∧ (IntKind.u64.wrap k).tmod (m : Int) < m ∧ wrap64 ((IntKind.u64.wrap k).tmod (m : Int)) = (IntKind.u64.wrap k).tmod (m : Int)) := ⟨hx0, hx1, hx2⟩
  clear hx0 hx1 hx2
  go_wp2
  go_ret
  obtain ⟨h0, h1, h2⟩ := HX.out
  exact ⟨((IntKind.u64.wrap k).tmod (m : Int)).toNat, congrArg (fun z => Ending.returned (.int .i64 z)) (by rw [h2]; omega), by omega, rfl⟩
end Go.Proofs.Ytgffippimmokiaa
