/- An archive, as the laws call it. -/
import Derived.Test.YtgffippimmokiaaShSteps
import Derived.Test.YtgffippimmokiaaShNew
import Derived.Test.YtgffippimmokiaaFirstRev
import Derived.Test.YtgffippimmokiaaShDo
import Derived.Test.YtgffippimmokiaaFrameKit
import Derived.Test.YtgffippimmokiaaRevOne
namespace Go.Proofs.Ytgffippimmokiaa
open Go.RowKit
set_option linter.unusedSimpArgs false
set_option linter.unusedVariables false

/-- what holds of an archive at any time, whatever was said so far -/
def SGood (S : Sh) : Prop := ∃ a b m, ShInv S a b m ∧ m ≤ S.log.revs.length
/-- an archive of which that holds, in a block -/
def SG (w : World) (g : Nat) (S : Sh) : Prop := ShIs w g S ∧ SGood S
theorem SG.below {w w' : World} {g : Nat} {S : Sh} (h : SG w g S) (hb : Below w.heap.size w w') : SG w' g S := ⟨h.1.below hb, h.2⟩
theorem SG.lt {w : World} {g : Nat} {S : Sh} (h : SG w g S) : g < w.heap.size := h.1.lt
theorem good_new : SGood newS := ⟨[], [], 0, inv_new, Nat.zero_le _⟩
theorem SGood.ok {S : Sh} (h : SGood S) : ShOk S := by
  obtain ⟨a, b, m, h, _⟩ := h
  exact h.ok
theorem SGood.lok {S : Sh} (h : SGood S) : ∃ n, LOk S.log n := h.ok.log
theorem SGood.bounds {S : Sh} (h : SGood S) : S.log.revs.length ≤ 64 ∧ headN S ≤ 2147483647 ∧ S.safe ≤ headN S ∧ S.log.base ≤ headN S := by
  obtain ⟨a, b, m, h, _⟩ := h
  exact ⟨h.lok.revs, h.lok.ends, h.head.2, by unfold headN; omega⟩
theorem good_add {S : Sh} (h : SGood S) (r : Rv) : SGood (addT S r) := by
  unfold addT
  split
  · rename_i hE
    obtain ⟨a, b, m, h, hm⟩ := h
    refine ⟨a, b ++ [r], m + 1, inv_add h hm hE, ?_⟩
    show m + 1 ≤ (S.log.revs ++ [r]).length
    rw [List.length_append, List.length_singleton]; omega
  · exact h
theorem good_sync {S : Sh} (h : SGood S) : SGood (syncS S) := by
  obtain ⟨a, b, m, h, hm⟩ := h
  exact ⟨a, b, m, inv_sync h, hm⟩
theorem keepS_revs (S : Sh) (r : Int) : (keepS S r).log = S.log := by unfold keepS; split <;> rfl
theorem good_keep {S : Sh} (h : SGood S) (r : Int) : SGood (keepS S r) := by
  obtain ⟨a, b, m, h, hm⟩ := h
  exact ⟨a, b, m, inv_keep h r, by rw [keepS_revs]; exact hm⟩
theorem next_revs (S : Sh) : (stepNext S).log = S.log := by unfold stepNext; split <;> rfl
theorem disk_log (S : Sh) (c o : ByteArray) (x y : Int) (n : Nat) : ({ S.disk c x o y with stage := n } : Sh).log = S.log := rfl
theorem head_revs (S : Sh) : (stepHead S).log = S.log := by
  unfold stepHead
  generalize headB S = q
  exact disk_log S _ _ _ _ _
theorem over_revs (S : Sh) : (overS S).log = S.log := rfl
theorem good_step {S : Sh} (h : SGood S) : SGood (stepS S) := by
  obtain ⟨a, b, m, h, hm⟩ := h
  unfold stepS
  split
  · rename_i h1; exact ⟨a, b, m, inv_head h h1, by rw [head_revs]; exact hm⟩
  · split
    · rename_i h2; exact ⟨a, b, m, inv_next h h2, by rw [next_revs]; exact hm⟩
    · split
      · rename_i h3
        obtain ⟨a', b', h', _⟩ := inv_change h h3
        exact ⟨a', b', 0, h', Nat.zero_le _⟩
      · split
        · exact ⟨a, b, m, inv_over h, by rw [over_revs]; exact hm⟩
        · exact ⟨a, b, m, h, hm⟩
theorem GNew (w : World) : Calls Try.prog 23 #[] w fun e w' => ∃ g, e = .returned (.pointer (some ⟨g, 0, none⟩)) ∧ w.heap.size ≤ g ∧ SG w' g newS ∧ Below w.heap.size w w' :=
  (New_any w).mono fun e w' ⟨g, h1, h2, h3, h4⟩ => ⟨g, h1, h2, ⟨h3, good_new⟩, h4⟩
theorem GAdd (S : Sh) (r : Rv) (a : Option Addr) (c g : Nat) (w : World) (h : SG w g S) (hp : PartsFar w g a r.d) :
    Calls Try.prog 19 #[.pointer (some ⟨g, 0, none⟩), .agg #[.int .i64 r.who, .int .i64 r.seq, .slice a r.d.length c]] w fun e w' => e = .returned (.tuple #[.int .i64 (addN S r), .int .i64 (addE S r)]) ∧ SG w' g (addT S r) ∧ Aside g w w' := by
  obtain ⟨a', b', m, hi, hm⟩ := h.2
  exact (ShAdd_any S r a c g w h.1 hi.ok hp hi.rooms.1 hi.rooms.2).mono fun e w' ⟨h1, h2, h3⟩ => ⟨h1, ⟨h2, good_add h.2 r⟩, h3⟩
theorem GSync (S : Sh) (g : Nat) (w : World) (h : SG w g S) :
    Calls Try.prog 24 #[.pointer (some ⟨g, 0, none⟩)] w fun e w' => e = .returned (.tuple #[]) ∧ SG w' g (syncS S) ∧ Aside g w w' :=
  (ShSync_any S g w h.1 h.2.ok).mono fun e w' ⟨h1, h2, h3⟩ => ⟨h1, ⟨h2, good_sync h.2⟩, h3⟩
theorem GKeep (S : Sh) (r : Int) (g : Nat) (w : World) (h : SG w g S) :
    Calls Try.prog 15 #[.pointer (some ⟨g, 0, none⟩), .int .i64 r] w fun e w' => e = .returned (.int .i64 (kpE S r)) ∧ SG w' g (keepS S r) ∧ Aside g w w' :=
  (ShKeep_any S r g w h.1 h.2.ok).mono fun e w' ⟨h1, h2, h3⟩ => ⟨h1, ⟨h2, good_keep h.2 r⟩, h3⟩
theorem GStep (S : Sh) (g : Nat) (w : World) (h : SG w g S) :
    Calls Try.prog 16 #[.pointer (some ⟨g, 0, none⟩)] w fun e w' => e = .returned (.bool (stepB S)) ∧ SG w' g (stepS S) ∧ Aside g w w' := by
  obtain ⟨a', b', m, hi, hm⟩ := h.2
  exact (ShStep_any S g w h.1 hi.ok hi.step).mono fun e w' ⟨h1, h2, h3⟩ => ⟨h1, ⟨h2, good_step h.2⟩, h3⟩
theorem GHead (S : Sh) (g : Nat) (w : World) (h : SG w g S) :
    Calls Try.prog 14 #[.pointer (some ⟨g, 0, none⟩)] w fun e w' => e = .returned (.int .i64 (headN S : Nat)) ∧ Below w.heap.size w w' := ShHead_any S g w h.1 h.2.bounds.1 h.2.bounds.2.1
theorem GText (S : Sh) (r : Int) (g : Nat) (w : World) (h : SG w g S) :
    Calls Try.prog 18 #[.pointer (some ⟨g, 0, none⟩), .int .i64 r] w fun e w' => e = .returned (.tuple #[.string ⟨(shTextR S r).toArray⟩, .int .i64 (hasE S r)]) ∧ Below w.heap.size w w' := ShText_any S r g w h.1 h.2.lok
/-- the revision that the laws begin with -/
def oneRv : Rv := ⟨1, 1, [⟨2, 0, ⟨#[97]⟩⟩]⟩
theorem one_add : addE newS oneRv = 0 := by
  rw [newS_is]; rfl
theorem one_said : shTextR (addT newS oneRv) 1 = [97] ∧ hasE (addT newS oneRv) 1 = 0 ∧ addN newS oneRv = 1 := by
  have h := one_add
  refine ⟨?_, ?_, ?_⟩
  · rw [addT, if_pos h]
    rw [newS_is]
    rfl
  · rw [addT, if_pos h]
    rw [newS_is]
    rfl
  · rw [addN, if_pos h, newS_is]
    rfl
set_option maxHeartbeats 400000 in
theorem tput_any (s : ByteArray) (w : World) (hs : s.size ≤ 9223372036854775807) :
    Calls Try.prog 73 #[.string s] w fun e w' => e = .returned (.slice (some ⟨w.heap.size, 0, none⟩) 1 1) ∧ w'.ownsRow w.heap.size 138 3 (.slice (some ⟨w.heap.size, 0, none⟩) 1 1) 1 (allCells [⟨2, 0, s⟩]) ∧ Below w.heap.size w w' := by
  go_enter Try.func73, Try.ntmps73
  go_wp2_with fail
  go_ret
  exact ⟨rfl, World.ownsRow_lit w (allCells [⟨2, 0, s⟩]).toArray 1 (Nat.le_refl _) (by decide) (by simp [allCells_length]), (Below.refl _ _).alloc (Nat.le_refl _) _⟩
set_option maxRecDepth 20000 in
set_option maxHeartbeats 2000000 in
theorem begun_any (w : World) : Calls Try.prog 30 #[] w fun e w' => e = .returned (.bool true) ∧ Below w.heap.size w w' := by
  have HN : Hid _ := fun w => GNew w
  have HT : Hid _ := fun w => tput_any ⟨#[97]⟩ w (by decide)
  go_enter Try.func30, Try.ntmps30
  go_wp2_with fail
  with_reducible refine (HN.out _).mono ?_
  rintro e w1 ⟨g, rfl, hg, hs1, hb1⟩
  have HS1 : Hid (SG w1 g newS) := hs1
  have HB1 : Hid (Below w.heap.size w w1 ∧ w.heap.size ≤ g) := ⟨hb1, hg⟩
  clear hs1 hb1 hg
  go_wp2_with fail
  with_reducible refine (HT.out _).mono ?_
  rintro e w2 ⟨rfl, hp2, hb2⟩
  have HS2 : Hid (SG w2 g newS) := HS1.out.below hb2
  have HB2 : Hid (Below w.heap.size w w2) := HB1.out.1.trans (hb2.mono HB1.out.1.size)
  have HA : Hid (∀ ad : Addr, ad = ⟨w1.heap.size, 0, none⟩ → Calls Try.prog 19 #[.pointer (some ⟨g, 0, none⟩), .agg #[.int .i64 1, .int .i64 1, .slice (some ad) 1 1]] w2 fun e w' => e = .returned (.tuple #[.int .i64 1, .int .i64 0]) ∧ SG w' g (addT newS oneRv) ∧ Aside g w2 w') := by
    intro ad had
    have h := GAdd newS oneRv (some ad) 1 g w2 HS2.out (by
      intro w' ha
      have h3 : w2.ownsRow w1.heap.size 138 3 (.slice (some ad) 1 1) 1 (allCells oneRv.d) := by rw [had]; exact hp2
      obtain ⟨v, xs, hof⟩ := HS2.out.1
      have h4 := h3.kept ha (.inr (own_ne' h3 hof.1 (by decide)))
      obtain ⟨a, c, e, p1⟩ := parts_own (l := oneRv.d) h4 ⟨by decide, by decide⟩
      simp only [Value.slice.injEq, true_and] at e
      obtain ⟨e1, _⟩ := e
      rw [e1]
      exact p1)
    rw [one_add, one_said.2.2] at h
    exact h
  clear hp2 hb2
  go_wp2_with fail
  with_reducible refine (HA.out _ rfl).mono ?_
  rintro e w3 ⟨rfl, hs3, ha3⟩
  have HS3 : Hid (SG w3 g (addT newS oneRv)) := hs3
  have HB3 : Hid (Below w.heap.size w w3) := HB2.out.trans (ha3.below HB1.out.2 HB2.out.size)
  have HTx : Hid (∀ w, SG w g (addT newS oneRv) → Calls Try.prog 18 #[.pointer (some ⟨g, 0, none⟩), .int .i64 1] w fun e w' => e = .returned (.tuple #[.string ⟨#[97]⟩, .int .i64 0]) ∧ Below w.heap.size w w') := by
    intro w h
    have h2 := GText (addT newS oneRv) 1 g w h
    rw [one_said.1, one_said.2.1] at h2
    exact h2
  clear hs3 ha3
  go_wp2_with fail
  with_reducible refine (HTx.out _ HS3.out).mono ?_
  rintro e w4 ⟨rfl, hb4⟩
  have HB4 : Hid (Below w.heap.size w w4) := HB3.out.trans (hb4.mono HB3.out.size)
  clear hb4
  go_wp2_with fail
  go_ret
  exact ⟨rfl, HB4.out⟩
end Go.Proofs.Ytgffippimmokiaa

/- An archive behind a crash. -/
namespace Go.Proofs.Ytgffippimmokiaa
open Go.RowKit
set_option linter.unusedSimpArgs false
set_option linter.unusedVariables false

theorem slot_good {gen base : Nat} {F : List Int} {t : List UInt8} {a b : List Rv} (h : ∀ f ∈ slotF gen base F t a true b, frOk f = true) : rowN (slotF gen base F t a true b) ≤ 4007 * ((a ++ b).length + 1) + 7 := by
  have e8 : ∀ (A B : List Fr) (x : Fr), rowN (x :: (A ++ doneFr :: B)) = rowN (x :: (A ++ B)) + 7 := by
    intro A B x
    have q1 : x :: (A ++ doneFr :: B) = [x] ++ (A ++ ([doneFr] ++ B)) := rfl
    have q2 : x :: (A ++ B) = [x] ++ (A ++ B) := rfl
    rw [q1, q2, rowN_app, rowN_app, rowN_app, rowN_app, rowN_app]
    have : rowN [doneFr] = 7 := rfl
    omega
  have h9 : rowN (slotF gen base F t a true b) = rowN (slotF gen base F t (a ++ b) false []) + 7 := by
    unfold slotF
    rw [if_pos rfl, e8]
    simp
  have hfr2 : ∀ f ∈ slotF gen base F t (a ++ b) false [], frOk f = true := by
    intro f hf
    refine h f ?_
    unfold slotF at hf ⊢
    simp only [Bool.false_eq_true, if_false, List.append_nil, if_true, List.map_append, List.mem_cons, List.mem_append] at hf ⊢
    rcases hf with hf | hf | hf
    · exact .inl hf
    · exact .inr (.inl hf)
    · exact .inr (.inr (.inr hf))
  have h8 := rowN_le hfr2
  have h7 := slotF_len0 gen base F t (a ++ b)
  omega
/-- an archive that was just opened -/
def freshS (gen base : Nat) (F : List Int) (t : List UInt8) (a b : List Rv) (c : ByteArray) (cur : Nat) : Sh :=
  { c := c, x := c.size, o := ⟨#[]⟩, y := 0, cur := cur, log := { addL (headS gen base F t) (a ++ b) with whole := true, good := rowN (slotF gen base F t a true b) }, safe := base + (a ++ b).length, stage := 0, floor := 0, said := 0 }
theorem inv_fresh {gen base : Nat} {F : List Int} {t : List UInt8} {a b : List Rv} {c : ByteArray} {cur : Nat} (hg : gen ≤ 2147483647) (hb : base ≤ 2147483647) (hF : TabOk F) (ht : t.length ≤ 500) (hm : mayL (headS gen base F t) (t.length : Nat) (a ++ b)) (hcur : cur ≤ 1)
    (hc : c.data.toList = rowL (slotF gen base F t a true b)) : ShInv (freshS gen base F t a b c cur) a b 0 ∧ headN (freshS gen base F t a b c cur) = base + (a ++ b).length ∧ (freshS gen base F t a b c cur).log.revs = a ++ b ∧ (freshS gen base F t a b c cur).log.text = t ∧ (freshS gen base F t a b c cur).log.base = base := by
  obtain ⟨g1, g2, g3, g4, g5, g6, g7⟩ := add_facts (a ++ b) (headS gen base F t)
  obtain ⟨r1, r2, r3⟩ := slot_read (w := true) hg hb hF ht hm (fun e => by cases e)
  have hs : c.size = rowN (slotF gen base F t a true b) := by rw [← size_list, hc, row_len]
  have e1 : (freshS gen base F t a b c cur).log.revs = a ++ b := by
    show (addL _ _).revs = _
    rw [g1]; rfl
  have e2 : (freshS gen base F t a b c cur).log.base = base := g2
  have e3 : (freshS gen base F t a b c cur).log.gen = gen := g3
  have e4 : (freshS gen base F t a b c cur).log.text = t := g4
  have e5 : (freshS gen base F t a b c cur).log.first = F := g5
  have eh : hdS (freshS gen base F t a b c cur) = headS gen base F t := by
    unfold hdS
    rw [e2, e3, e4, e5]
  have ec : ∀ b2, curF (freshS gen base F t a b c cur) a b2 = slotF gen base F t a true b2 := by
    intro b2
    unfold curF
    rw [e2, e3, e4, e5]
  have ehd : headN (freshS gen base F t a b c cur) = base + (a ++ b).length := by
    unfold headN
    rw [e1, e2]
  refine ⟨⟨hcur, by rw [e3]; exact hg, by rw [e2]; exact hb, by rw [e5]; exact hF, by rw [e4]; exact ht, e1, ?_, ?_, ?_, rfl, ?_, ⟨b.length, Nat.le_refl _, ?_, ?_⟩, Int.le_refl _, ?_⟩, ehd, e1, e4, e2⟩
  · rw [eh, e4]; exact hm
  · rw [eh]; rfl
  · rw [ec]; exact hc
  · rw [e1]; exact slot_good r3
  · rw [List.take_length, ec]
    show _ ≤ (c.size : Int)
    rw [hs]; exact Int.le_refl _
  · show base + (a ++ b).length ≤ _
    rw [e2, List.length_append]
    omega
  · exact ⟨by show 0 ≤ 4; omega, fun _ => ⟨rfl, rfl⟩, (fun e => by cases e), (fun e => by cases e), (fun e => by cases e), (fun e => by cases e)⟩
/-- what is opened, whatever there was -/
def Fresh (X : Sh) : Prop := ∃ gen base F t a b c k, X = freshS gen base F t a b c k ∧ gen ≤ 2147483647 ∧ base ≤ 2147483647 ∧ TabOk F ∧ t.length ≤ 500 ∧ mayL (headS gen base F t) (t.length : Nat) (a ++ b) ∧ k ≤ 1 ∧ c.data.toList = rowL (slotF gen base F t a true b)
theorem Fresh.inv {X : Sh} (h : Fresh X) : ∃ a b, ShInv X a b 0 := by
  obtain ⟨gen, base, F, t, a, b, c, k, e, h1, h2, h3, h4, h5, h6, h7⟩ := h
  rw [e]
  exact ⟨a, b, (inv_fresh h1 h2 h3 h4 h5 h6 h7).1⟩
/-- which of two slots is opened -/
theorem pick {P Q : List UInt8} (h1 : logE (scanL P).1 = 0) (h2 : (logS (scanL P).1).whole = true) (h3 : logE (scanL Q).1 = 0 → (logS (scanL Q).1).whole = true → (logS (scanL Q).1).gen < (logS (scanL P).1).gen) :
    newN P Q = (0, logS (scanL P).1) ∧ newN Q P = (1, logS (scanL P).1) := by
  have e0 : ∀ k, stepN k P (0, nilLg) = (k, logS (scanL P).1) := fun k => by rw [stepN, if_pos ⟨h1, h2, .inl rfl⟩]
  refine ⟨?_, ?_⟩
  · rw [newN, e0, stepN, if_neg]
    rintro ⟨q1, q2, q3⟩
    have q4 := h3 q1 q2
    rcases q3 with q3 | q3
    · rw [h2] at q3; cases q3
    · have q3 : (logS (scanL P).1).gen < (logS (scanL Q).1).gen := q3
      omega
  · rw [newN]
    rcases step_facts 0 Q (0, nilLg) with e | ⟨e, q1, q2⟩
    · rw [e, e0]
    · rw [e, stepN, if_pos ⟨h1, h2, .inr (h3 q1 q2)⟩]
theorem extract_list (b : ByteArray) (k : Nat) : (b.extract 0 k).data.toList = b.data.toList.take k := by simp
theorem openS_of {p q c : ByteArray} {k : Nat} {gen base : Nat} {F : List Int} {t : List UInt8} {a b : List Rv} (hn : newN p.data.toList q.data.toList = (k, { addL (headS gen base F t) (a ++ b) with whole := true, good := rowN (slotF gen base F t a true b) }))
    (hc : (if k = 0 then p else q).extract 0 (rowN (slotF gen base F t a true b)) = c) (hs : c.size = rowN (slotF gen base F t a true b)) : openS p q = freshS gen base F t a b c k := by
  obtain ⟨g1, g2, _⟩ := add_facts (a ++ b) (headS gen base F t)
  unfold openS freshS
  rw [hn]
  simp only
  rw [hc, hs]
  have e1 : (addL (headS gen base F t) (a ++ b)).revs.length = (a ++ b).length := by rw [g1]; rfl
  have e2 : (addL (headS gen base F t) (a ++ b)).base = base := g2
  rw [e1, e2]
theorem row_take_at {fs : List Fr} {j : Nat} : (rowL fs).take (rowN (fs.take j)) = rowL (fs.take j) := by
  have e : rowL fs = rowL (fs.take j) ++ rowL (fs.drop j) := by rw [← row_app, List.take_append_drop]
  rw [e, List.take_append_of_le_length (by rw [row_len]; exact Nat.le_refl _), List.take_of_length_le (by rw [row_len]; exact Nat.le_refl _)]
theorem slot_cut {gen base : Nat} {F : List Int} {t : List UInt8} {a b : List Rv} (j : Nat) : slotF gen base F t a true (b.take j) = (slotF gen base F t a true b).take (a.length + 2 + j) := by
  rw [slot_beg (by omega), show a.length + 2 + j - a.length - 2 = j by omega]
/-- what is opened of a slot that is whole, behind a cut -/
theorem open_kept {p q d : ByteArray} {k kc j gen base : Nat} {F : List Int} {t : List UInt8} {a b : List Rv} (hn : newN p.data.toList q.data.toList = (k, { addL (headS gen base F t) (a ++ b.take j) with whole := true, good := rowN (slotF gen base F t a true (b.take j)) }))
    (hp : (if k = 0 then p else q) = d.extract 0 kc) (hd : d.data.toList = rowL (slotF gen base F t a true b)) (hj : rowN (slotF gen base F t a true (b.take j)) ≤ kc) (hk : k ≤ 1) (hg : gen ≤ 2147483647) (hb : base ≤ 2147483647) (hF : TabOk F) (ht : t.length ≤ 500)
    (hm : mayL (headS gen base F t) (t.length : Nat) (a ++ b)) :
    ∃ c, openS p q = freshS gen base F t a (b.take j) c k ∧ Fresh (openS p q) ∧ c.data.toList = rowL (slotF gen base F t a true (b.take j)) ∧ ShInv (freshS gen base F t a (b.take j) c k) a (b.take j) 0 := by
  have hcl : ((d.extract 0 kc).extract 0 (rowN (slotF gen base F t a true (b.take j)))).data.toList = rowL (slotF gen base F t a true (b.take j)) := by
    rw [extract_list, extract_list, hd, List.take_take, Nat.min_eq_left hj]
    rw [slot_cut]
    exact row_take_at
  have hmb : mayL (headS gen base F t) (t.length : Nat) (a ++ b.take j) := by
    have e : a ++ b = (a ++ b.take j) ++ b.drop j := by rw [List.append_assoc, List.take_append_drop]
    rw [e] at hm
    exact ((may_app _ _ _ _).1 hm).1
  have e := openS_of hn (by rw [hp]) (by rw [← size_list, hcl, row_len])
  exact ⟨_, e, ⟨gen, base, F, t, a, b.take j, _, k, e, hg, hb, hF, ht, hmb, hk, hcl⟩, hcl, (inv_fresh hg hb hF ht hmb hk hcl).1⟩
/-- what was opened is opened again -/
theorem Fresh.again {X : Sh} (h : Fresh X) : X.cur ≤ 1 ∧ X.x = X.c.size ∧ X.o = ⟨#[]⟩ ∧ X.y = 0 ∧ (X.cur = 0 → (newN X.c.data.toList []).2.whole = true ∧ openS X.c ⟨#[]⟩ = X) ∧ (X.cur = 1 → (newN [] X.c.data.toList).2.whole = true ∧ openS ⟨#[]⟩ X.c = X) := by
  obtain ⟨gen, base, F, t, a, b, c, k, rfl, h1, h2, h3, h4, h5, h6, h7⟩ := h
  obtain ⟨r1, r2, r3⟩ := slot_read (w := true) h1 h2 h3 h4 h5 (fun e => by cases e)
  have hcs : c.size = rowN (slotF gen base F t a true b) := by rw [← size_list, h7, row_len]
  have hex : c.extract 0 (rowN (slotF gen base F t a true b)) = c := by
    rw [← hcs]
    apply ByteArray.ext
    simp
  obtain ⟨g1, g2⟩ := pick (P := rowL (slotF gen base F t a true b)) (Q := []) r1 (by rw [r2]) (fun e => absurd e (by decide))
  rw [r2, ← h7] at g1 g2
  refine ⟨h6, rfl, rfl, rfl, fun h0 => ?_, fun h0 => ?_⟩
  · have h0 : k = 0 := h0
    subst h0
    exact ⟨by show (newN c.data.toList []).2.whole = true; rw [g1], openS_of g1 (by rw [if_pos rfl]; exact hex) hcs⟩
  · have h0 : k = 1 := h0
    subst h0
    exact ⟨by show (newN [] c.data.toList).2.whole = true; rw [g2], openS_of g2 (by rw [if_neg (by omega)]; exact hex) hcs⟩
/-- the other slot behind a cut: not newer, or whole, with what was safe -/
theorem oth_read {S : Sh} {a b : List Rv} {m : Nat} (h : ShInv S a b m) {ko : Nat} (o1 : S.y ≤ (ko : Int)) :
    (logE (scanL (S.o.data.toList.take ko)).1 = 0 → (logS (scanL (S.o.data.toList.take ko)).1).whole = true → (logS (scanL (S.o.data.toList.take ko)).1).gen < S.log.gen) ∨
    (S.log.gen < 2147483647 ∧ S.log.base ≤ S.floor ∧ S.floor ≤ headN S ∧ ∃ a' b' j, a' ++ b' = S.log.revs.drop (S.floor - S.log.base) ∧ S.o.data.toList = rowL (othF S a' true b') ∧ j ≤ b'.length ∧ S.safe ≤ S.floor + a'.length + j ∧ rowN (othF S a' true (b'.take j)) ≤ ko ∧
      logE (scanL (S.o.data.toList.take ko)).1 = 0 ∧ logS (scanL (S.o.data.toList.take ko)).1 = { addL (headS (S.log.gen + 1) S.floor (flT S) (flX S)) (a' ++ b'.take j) with whole := true, good := rowN (othF S a' true (b'.take j)) }) := by
  have hst := h.oth.stage
  rcases (by omega : S.stage = 0 ∨ S.stage = 1 ∨ S.stage = 2 ∨ S.stage = 3 ∨ S.stage = 4) with h0 | h0 | h0 | h0 | h0
  · left
    rw [(h.oth.zero h0).1]
    intro e
    exact absurd e (by show ¬ logE (scanL (([] : List UInt8).take ko)).1 = 0; rw [List.take_nil]; decide)
  · left
    rw [(h.oth.one h0).1]
    intro e
    exact absurd e (by show ¬ logE (scanL (([] : List UInt8).take ko)).1 = 0; rw [List.take_nil]; decide)
  · left
    obtain ⟨_, hg, hb, hfs, hsh, hd⟩ := h.oth.two h0
    obtain ⟨f1, f2, f3, f4, f5⟩ := h.floor hg hb (by omega)
    have hm : mayL (headS (S.log.gen + 1) S.floor (flT S) (flX S)) ((flX S).length : Nat) ((S.log.revs.drop (S.floor - S.log.base)).take (S.said - S.floor)) := by
      rw [← List.take_append_drop (S.said - S.floor) (S.log.revs.drop (S.floor - S.log.base))] at f3
      exact ((may_app _ _ _ _).1 f3).1
    rw [hd]
    intro e1 e2
    rcases slot_torn (by omega) f5 f1 f2 hm ko with e | e
    · exact absurd e1 e
    · have e2 : (logS (scanL ((rowL (slotF (S.log.gen + 1) S.floor (flT S) (flX S) ((S.log.revs.drop (S.floor - S.log.base)).take (S.said - S.floor)) false [])).take ko)).1).whole = true := e2
      rw [e] at e2; cases e2
  · obtain ⟨hg, hb, hf, y0, y1, a', b', e1, e2, i, hi, hx, hs⟩ := h.oth.three h0
    obtain ⟨f1, f2, f3, f4, f5⟩ := h.floor hg hb hf
    rw [← e1] at f3
    obtain ⟨_, _, hfr⟩ := slot_read (w := true) (by omega) f5 f1 f2 f3 (fun e => by cases e)
    obtain ⟨n, n1, n2, n3, n4⟩ := row_pre hfr ko
    have hlen := slotF_len (S.log.gen + 1) S.floor (flT S) (flX S) a' b'
    rw [e2]
    by_cases hn : a'.length + 2 ≤ n
    · right
      have hcut := slot_beg (gen := S.log.gen + 1) (base := S.floor) (F := flT S) (text := flX S) (b := b') hn
      have hmb : mayL (headS (S.log.gen + 1) S.floor (flT S) (flX S)) ((flX S).length : Nat) (a' ++ b'.take (n - a'.length - 2)) := by
        have e : a' ++ b' = (a' ++ b'.take (n - a'.length - 2)) ++ b'.drop (n - a'.length - 2) := by rw [List.append_assoc, List.take_append_drop]
        rw [e] at f3
        exact ((may_app _ _ _ _).1 f3).1
      obtain ⟨r1, r2, r3⟩ := slot_read (w := true) (by omega) f5 f1 f2 hmb (fun e => by cases e)
      have hsc := scan_row (r := []) (by decide) _ r3
      rw [List.append_nil] at hsc
      rw [hsc] at r1 r2
      refine ⟨hg, hb, hf, a', b', n - a'.length - 2, e1, rfl, by omega, ?_, ?_, ?_, ?_⟩
      · rcases hx with hx | hx
        · omega
        · have h9 := n4 (a'.length + 2 + i) (by omega) (by
            rw [slot_beg (by omega), show a'.length + 2 + i - a'.length - 2 = i by omega]
            unfold othF at hx
            omega)
          omega
      · unfold othF
        rw [← hcut]; exact n3
      · unfold othF
        rw [n2, hcut]; exact r1
      · unfold othF
        rw [n2, hcut]; exact r2
    · left
      intro q1 q2
      have q1 : logE (scanL ((rowL (slotF (S.log.gen + 1) S.floor (flT S) (flX S) a' true b')).take ko)).1 = 0 := q1
      have q2 : (logS (scanL ((rowL (slotF (S.log.gen + 1) S.floor (flT S) (flX S) a' true b')).take ko)).1).whole = true := q2
      rw [n2] at q1 q2
      rcases slot_take (S.log.gen + 1) S.floor (flT S) (flX S) a' true b' n with e | ⟨j, j1, j2, e⟩ | ⟨_, j, j1, e⟩ | e
      · rw [e] at q1; exact absurd q1 (by decide)
      · rw [e] at q2
        have hmb : mayL (headS (S.log.gen + 1) S.floor (flT S) (flX S)) ((flX S).length : Nat) (a'.take j ++ []) := by
          rw [List.append_nil]
          have e3 : a' ++ b' = a'.take j ++ (a'.drop j ++ b') := by rw [← List.append_assoc, List.take_append_drop]
          rw [e3] at f3
          exact ((may_app _ _ _ _).1 f3).1
        obtain ⟨_, r2, r3⟩ := slot_read (w := false) (by omega) f5 f1 f2 hmb (fun _ => rfl)
        have hsc := scan_row (r := []) (by decide) _ r3
        rw [List.append_nil] at hsc
        rw [hsc] at r2
        rw [r2] at q2
        cases q2
      · omega
      · have h9 := congrArg List.length e
        rw [List.length_take, hlen] at h9
        omega
  · left
    obtain ⟨hg, y0, y1, hm, base, F, t, a', b', e2, hfr, hhd, hl⟩ := h.oth.four h0
    obtain ⟨n, n1, n2, n3, n4⟩ := row_pre hfr ko
    rw [e2]
    intro q1 q2
    rw [n2] at q1 ⊢
    cases n with
    | zero => exact absurd q1 (by rw [List.take_zero]; decide)
    | succ n =>
      have e : (slotF (S.log.gen - 1) base F t a' true b').take (n + 1) = headF (S.log.gen - 1) base F t :: ((a'.map revFr ++ (if true then doneFr :: b'.map revFr else [])).take n) := rfl
      rw [e]
      have e3 : logS (headF (S.log.gen - 1) base F t :: ((a'.map revFr ++ (if true then doneFr :: b'.map revFr else [])).take n)) = (walkL (headS (S.log.gen - 1) base F t) ((headS (S.log.gen - 1) base F t).text.length : Nat) ((a'.map revFr ++ (if true then doneFr :: b'.map revFr else [])).take n)).1 := by
        rw [logS, hhd]
      rw [e3, (walk_grew _ _ _).1]
      show S.log.gen - 1 < S.log.gen
      omega
/-- the text at a revision, as one goes on from a later text -/
theorem textAt_from (k : Nat) : ∀ (l : List Rv) (s : List UInt8) (j : Nat), k ≤ l.length → textAt (textAt s l k) (l.drop k) j = textAt s l (k + j) := by
  induction k with
  | zero => intro l s j _; rw [text_zero, List.drop_zero, Nat.zero_add]
  | succ k ih =>
    intro l s j h
    cases l with
    | nil => simp at h
    | cons r l =>
      rw [show k + 1 + j = (k + j) + 1 by omega]
      exact ih l (doL r.d s) j (by simpa using h)
theorem textAt_cut (k : Nat) (l l2 : List Rv) (s : List UInt8) (h : k ≤ l.length) (h2 : l2 = l.take l2.length) (hk : k ≤ l2.length) : textAt s l2 k = textAt s l k := by
  have e : l = l2 ++ l.drop l2.length := by
    have := List.take_append_drop l2.length l
    rw [← h2] at this
    exact this.symm
  rw [e]
  exact (textAt_pre k l2 _ s hk).symm
theorem shText_of {S : Sh} {k : Nat} (h1 : S.log.base ≤ k) (h2 : k ≤ headN S) : shTextR S (k : Int) = textAt S.log.text S.log.revs (k - S.log.base) := by
  have h3 : k - S.log.base ≤ S.log.revs.length := by unfold headN at h2; omega
  have h4 := (shTextR_ok (S := S) h3).1
  rw [show S.log.base + (k - S.log.base) = k by omega] at h4
  exact h4
/-- behind a crash at any time -/
theorem crash_open {S : Sh} {a b : List Rv} {m : Nat} (h : ShInv S a b m) {kc ko : Nat} (c1 : S.x ≤ (kc : Int)) (o1 : S.y ≤ (ko : Int)) {p q : ByteArray}
    (hpq : (S.cur = 0 → p = S.c.extract 0 kc ∧ q = S.o.extract 0 ko) ∧ (S.cur = 1 → p = S.o.extract 0 ko ∧ q = S.c.extract 0 kc)) :
    (newN p.data.toList q.data.toList).2.whole = true ∧ Fresh (openS p q) ∧ (S.safe = headN S → (openS p q).log.table = S.log.table) ∧ S.safe ≤ headN (openS p q) ∧ headN (openS p q) ≤ headN S ∧ (openS p q).safe = headN (openS p q) ∧ (openS p q).stage = 0 ∧
    (∀ k, S.log.base ≤ k → (openS p q).log.base ≤ k → k ≤ headN (openS p q) → shTextR (openS p q) (k : Int) = shTextR S (k : Int)) := by
  obtain ⟨i, hi, hx, hs⟩ := h.safe
  have hhd := h.head
  have hcp : (S.c.extract 0 kc).data.toList = (rowL (curF S a b)).take kc := by rw [extract_list, h.data]
  have hco : (S.o.extract 0 ko).data.toList = S.o.data.toList.take ko := extract_list _ _
  obtain ⟨j, j1, j2, k1, k2⟩ := slot_kept (b := b) h.gen h.base h.first h.text h.may hi (k := kc) (by unfold curF at hx; omega)
  have hgen : (addL (headS S.log.gen S.log.base S.log.first S.log.text) (a ++ b.take j)).gen = S.log.gen := (add_facts _ _).2.2.1
  rcases oth_read h o1 with hq | ⟨hg, hb, hf, a', b', j', e1, e2, e3, e4, e5, e6, e7⟩
  · -- the one that it is at
    have hjk : rowN (slotF S.log.gen S.log.base S.log.first S.log.text a true (b.take j)) ≤ kc := by
      have h7 := congrArg Lg.good k2
      have h8 := (log_good k1).2.1
      rw [h7, List.length_take] at h8
      exact Nat.le_trans h8 (Nat.min_le_left _ _)
    obtain ⟨g1, g2⟩ := pick (P := (rowL (curF S a b)).take kc) (Q := S.o.data.toList.take ko) k1 (by unfold curF; rw [k2]) (by
      intro q1 q2
      have q3 := hq q1 q2
      unfold curF
      rw [k2]
      exact (show _ < (addL _ _).gen by rw [hgen]; exact q3))
    unfold curF at g1 g2
    rw [k2] at g1 g2
    have hn : newN p.data.toList q.data.toList = (S.cur, { addL (headS S.log.gen S.log.base S.log.first S.log.text) (a ++ b.take j) with whole := true, good := rowN (slotF S.log.gen S.log.base S.log.first S.log.text a true (b.take j)) }) := by
      rcases (by have := h.cur; omega : S.cur = 0 ∨ S.cur = 1) with h0 | h0
      · obtain ⟨p1, p2⟩ := hpq.1 h0
        rw [p1, p2, hcp, hco, h0]
        exact g1
      · obtain ⟨p1, p2⟩ := hpq.2 h0
        rw [p1, p2, hcp, hco, h0]
        exact g2
    have hpe : (if S.cur = 0 then p else q) = S.c.extract 0 kc := by
      rcases (by have := h.cur; omega : S.cur = 0 ∨ S.cur = 1) with h0 | h0
      · rw [if_pos h0, (hpq.1 h0).1]
      · rw [if_neg (by omega), (hpq.2 h0).2]
    obtain ⟨c, eo, hfr, ec, inv⟩ := open_kept (d := S.c) (b := b) hn hpe h.data hjk h.cur h.gen h.base h.first h.text h.may
    have hm2 : mayL (headS S.log.gen S.log.base S.log.first S.log.text) (S.log.text.length : Nat) (a ++ b.take j) := by
      have e : a ++ b = (a ++ b.take j) ++ b.drop j := by rw [List.append_assoc, List.take_append_drop]
      have hm := h.may
      rw [e] at hm
      exact ((may_app _ _ _ _).1 hm).1
    obtain ⟨_, v1, v2, v3, v4⟩ := inv_fresh (cur := S.cur) h.gen h.base h.first h.text hm2 h.cur ec
    have hl : (a ++ b.take j).length = a.length + j := by rw [List.length_append, List.length_take]; omega
    refine ⟨by rw [hn], hfr, ?_⟩
    rw [eo]
    refine ⟨fun hsf => ?_, by rw [v1]; omega, by rw [v1]; omega, ?_, rfl, ?_⟩
    · rw [h.table]
      have e : b.take j = b := List.take_of_length_le (by omega)
      show (addL (headS S.log.gen S.log.base S.log.first S.log.text) (a ++ b.take j)).table = _
      rw [e]; rfl
    · rw [v1]; rfl
    · intro k q1 q2 q3
      have q3' : k ≤ headN S := by rw [v1] at q3; omega
      rw [shText_of q2 q3, shText_of q1 q3', v2, v3, v4]
      have hrl := h.revs
      rw [v1] at q3
      refine textAt_cut _ _ _ _ (by rw [hrl, List.length_append]; omega) ?_ (by omega)
      rw [hl, hrl, List.take_append, List.take_of_length_le (l := a) (i := a.length + j) (by omega), show a.length + j - a.length = j by omega]
  · obtain ⟨f1, f2, f3, f4, f5⟩ := h.floor hg hb hf
    rw [← e1] at f3
    obtain ⟨g1, g2⟩ := pick (P := S.o.data.toList.take ko) (Q := (rowL (curF S a b)).take kc) e6 (by rw [e7]) (by
      intro q1 q2
      unfold curF
      rw [k2, e7]
      exact (show (addL _ _).gen < (addL _ _).gen by rw [hgen, (add_facts _ _).2.2.1]; show S.log.gen < S.log.gen + 1; omega))
    rw [e7] at g1 g2
    have hn : newN p.data.toList q.data.toList = (1 - S.cur, { addL (headS (S.log.gen + 1) S.floor (flT S) (flX S)) (a' ++ b'.take j') with whole := true, good := rowN (slotF (S.log.gen + 1) S.floor (flT S) (flX S) a' true (b'.take j')) }) := by
      rcases (by have := h.cur; omega : S.cur = 0 ∨ S.cur = 1) with h0 | h0
      · obtain ⟨p1, p2⟩ := hpq.1 h0
        rw [p1, p2, hcp, hco, h0]
        exact g2
      · obtain ⟨p1, p2⟩ := hpq.2 h0
        rw [p1, p2, hcp, hco, h0]
        exact g1
    have hpe : (if 1 - S.cur = 0 then p else q) = S.o.extract 0 ko := by
      rcases (by have := h.cur; omega : S.cur = 0 ∨ S.cur = 1) with h0 | h0
      · rw [if_neg (by omega), (hpq.1 h0).2]
      · rw [if_pos (by omega), (hpq.2 h0).1]
    obtain ⟨c, eo, hfr, ec, inv⟩ := open_kept (d := S.o) (b := b') hn hpe e2 e5 (by omega) (by omega) f5 f1 f2 f3
    have hm2 : mayL (headS (S.log.gen + 1) S.floor (flT S) (flX S)) ((flX S).length : Nat) (a' ++ b'.take j') := by
      have e : a' ++ b' = (a' ++ b'.take j') ++ b'.drop j' := by rw [List.append_assoc, List.take_append_drop]
      rw [e] at f3
      exact ((may_app _ _ _ _).1 f3).1
    obtain ⟨_, v1, v2, v3, v4⟩ := inv_fresh (cur := 1 - S.cur) (by omega) f5 f1 f2 hm2 (by omega) ec
    have hl : (a' ++ b'.take j').length = a'.length + j' := by rw [List.length_append, List.length_take]; omega
    have hl2 := congrArg List.length e1
    rw [List.length_append, List.length_drop] at hl2
    have hfk : S.floor - S.log.base ≤ S.log.revs.length := by unfold headN at hf; omega
    refine ⟨by rw [hn], hfr, ?_⟩
    rw [eo]
    refine ⟨fun hsf => ?_, by rw [v1]; omega, by rw [v1]; unfold headN at hf ⊢; omega, ?_, rfl, ?_⟩
    · have e : b'.take j' = b' := List.take_of_length_le (by unfold headN at hsf hf; omega)
      show (addL (headS (S.log.gen + 1) S.floor (flT S) (flX S)) (a' ++ b'.take j')).table = _
      rw [e, e1]
      exact f4
    · rw [v1]; rfl
    · intro k q1 q2 q3
      have q3' : k ≤ headN S := by rw [v1] at q3; unfold headN at hf ⊢; omega
      rw [shText_of q2 q3, shText_of q1 q3', v2, v3, v4]
      rw [v4] at q2
      rw [v1] at q3
      have e8 : k - S.log.base = (S.floor - S.log.base) + (k - S.floor) := by omega
      rw [e8, ← textAt_from (S.floor - S.log.base) S.log.revs S.log.text (k - S.floor) hfk]
      refine textAt_cut _ _ _ _ (by rw [List.length_drop]; omega) ?_ (by omega)
      rw [hl, ← e1, List.take_append, List.take_of_length_le (l := a') (i := a'.length + j') (by omega), show a'.length + j' - a'.length = j' by omega]
end Go.Proofs.Ytgffippimmokiaa

/- The laws' own opened, and frames. -/
namespace Go.Proofs.Ytgffippimmokiaa
open Go.RowKit
set_option linter.unusedSimpArgs false
set_option linter.unusedVariables false

/-- what is there behind a crash -/
structure Crashed (S X : Sh) : Prop where
  fresh : Fresh X
  table : S.safe = headN S → X.log.table = S.log.table
  safe : S.safe ≤ headN X
  head : headN X ≤ headN S
  all : X.safe = headN X
  stage : X.stage = 0
  text : ∀ k, S.log.base ≤ k → X.log.base ≤ k → k ≤ headN X → shTextR X (k : Int) = shTextR S (k : Int)
  again : Fresh S → X = S
theorem Crashed.good {S X : Sh} (h : Crashed S X) : SGood X := by
  obtain ⟨a, b, h⟩ := h.fresh.inv
  exact ⟨a, b, 0, h, Nat.zero_le _⟩
theorem SGood.dk {S : Sh} (h : SGood S) : dkE S.p0 S.x0 S.p1 S.x1 = 0 := h.ok.dk.here
/-- what is there behind a crash that takes all that was not safe -/
noncomputable def cutS (S : Sh) : Sh := openS (S.p0.extract 0 S.x0.toNat) (S.p1.extract 0 S.x1.toNat)
theorem crash_to {S : Sh} (h : SGood S) (p q : Int) : ∃ (P Q : ByteArray) (m n : Nat), dkE P m Q n = 0 ∧ (p ≤ 0 → q ≤ 0 → openS P Q = cutS S) ∧ (newN P.data.toList Q.data.toList).2.whole = true ∧ Crashed S (openS P Q) ∧
    ∀ w : World, Calls Try.prog 62 #[dkV S.p0 S.x0 S.p1 S.x1, .agg #[.int .i64 p, .int .i64 q]] w fun e w' => e = .returned (.tuple #[dkV P (m : Nat) Q (n : Nat), .int .i64 0]) ∧ Below w.heap.size w w' := by
  obtain ⟨k1, k2⟩ := dk_zero h.dk
  obtain ⟨s1, s2, s3⟩ := sl_zero k1
  obtain ⟨t1, t2, t3⟩ := sl_zero k2
  obtain ⟨m1, m2, m3⟩ := cr_le p k1
  obtain ⟨n1, n2, n3⟩ := cr_le q k2
  obtain ⟨m, hmm⟩ : ∃ m, crN S.p0 S.x0 p = m := ⟨_, rfl⟩
  obtain ⟨n, hnn⟩ : ∃ n, crN S.p1 S.x1 q = n := ⟨_, rfl⟩
  have hcall := fun w => DCrash_ok S.p0 S.x0 S.p1 S.x1 p q h.dk w
  rw [hmm, hnn] at hcall
  rw [hmm] at m1 m2 m3
  rw [hnn] at n1 n2 n3
  obtain ⟨C, hC⟩ : ∃ C, S.p0.extract 0 m = C := ⟨_, rfl⟩
  obtain ⟨E, hE⟩ : ∃ E, S.p1.extract 0 n = E := ⟨_, rfl⟩
  rw [hC, hE] at hcall
  have hm : C.size = m := by rw [← hC, ByteArray.size_extract]; omega
  have hn : E.size = n := by rw [← hE, ByteArray.size_extract]; omega
  have hcut : p ≤ 0 → q ≤ 0 → openS C E = cutS S := by
    intro hp hq
    unfold cutS
    rw [← hC, ← hE, show m = S.x0.toNat by omega, show n = S.x1.toNat by omega]
  obtain ⟨a, b, mm, hi, _⟩ := h
  have hdk : dkE C m E n = 0 := dk_of (sl_of (by omega) (by omega) (by omega)) (sl_of (by omega) (by omega) (by omega))
  rcases (by have := hi.cur; omega : S.cur = 0 ∨ S.cur = 1) with h0 | h0
  · have e1 : S.p0 = S.c := by unfold Sh.p0; rw [if_pos h0]
    have e2 : S.x0 = S.x := by unfold Sh.x0; rw [if_pos h0]
    have e3 : S.p1 = S.o := by unfold Sh.p1; rw [if_pos h0]
    have e4 : S.x1 = S.y := by unfold Sh.x1; rw [if_pos h0]
    have r1 : S.x ≤ (m : Int) := by rw [e2] at m2; exact m2
    have r2 : S.y ≤ (n : Int) := by rw [e4] at n2; exact n2
    obtain ⟨f1, f2, f3, f4, f5, f6, f7, f8⟩ := crash_open hi (kc := m) (ko := n) r1 r2 (p := C) (q := E) ⟨fun _ => ⟨by rw [← hC, e1], by rw [← hE, e3]⟩, fun e => by omega⟩
    refine ⟨C, E, m, n, hdk, hcut, f1, ⟨f2, f3, f4, f5, f6, f7, f8, fun hf => ?_⟩, hcall⟩
    obtain ⟨_, g1, g2, g3, g4, _⟩ := hf.again
    have q1 : m = S.c.size := by rw [e1] at m1; rw [g1] at r1; omega
    have q2 : C = S.c := by rw [← hC, e1, q1]; exact extract_self _
    have q3 : E = ⟨#[]⟩ := by rw [← hE, e3, g2]; apply ByteArray.ext; simp
    rw [q2, q3]
    exact (g4 h0).2
  · have e1 : S.p0 = S.o := by unfold Sh.p0; rw [if_neg (by omega)]
    have e2 : S.x0 = S.y := by unfold Sh.x0; rw [if_neg (by omega)]
    have e3 : S.p1 = S.c := by unfold Sh.p1; rw [if_neg (by omega)]
    have e4 : S.x1 = S.x := by unfold Sh.x1; rw [if_neg (by omega)]
    have r1 : S.x ≤ (n : Int) := by rw [e4] at n2; exact n2
    have r2 : S.y ≤ (m : Int) := by rw [e2] at m2; exact m2
    obtain ⟨f1, f2, f3, f4, f5, f6, f7, f8⟩ := crash_open hi (kc := n) (ko := m) r1 r2 (p := C) (q := E) ⟨fun e => by omega, fun _ => ⟨by rw [← hC, e1], by rw [← hE, e3]⟩⟩
    refine ⟨C, E, m, n, hdk, hcut, f1, ⟨f2, f3, f4, f5, f6, f7, f8, fun hf => ?_⟩, hcall⟩
    obtain ⟨_, g1, g2, g3, _, g4⟩ := hf.again
    have q1 : n = S.c.size := by rw [e3] at n1; rw [g1] at r1; omega
    have q2 : E = S.c := by rw [← hE, e3, q1]; exact extract_self _
    have q3 : C = ⟨#[]⟩ := by rw [← hC, e1, g2]; apply ByteArray.ext; simp
    rw [q2, q3]
    exact (g4 h0).2
theorem GDisk (S : Sh) (g : Nat) (w : World) (h : SG w g S) : Calls Try.prog 25 #[.pointer (some ⟨g, 0, none⟩)] w fun e w' => e = .returned (dkV S.p0 S.x0 S.p1 S.x1) ∧ Below w.heap.size w w' := by
  obtain ⟨k1, k2⟩ := dk_zero h.2.dk
  obtain ⟨s1, s2, s3⟩ := sl_zero k1
  obtain ⟨t1, t2, t3⟩ := sl_zero k2
  exact ShDisk_any S g w h.1 (by omega) (by omega)
set_option maxRecDepth 20000 in
set_option maxHeartbeats 2000000 in
theorem opened_any (S : Sh) (p q : Int) (g : Nat) (w : World) (h : SG w g S) :
    Calls Try.prog 22 #[.pointer (some ⟨g, 0, none⟩), .int .i64 p, .int .i64 q] w fun e w' => ∃ g' X, e = .returned (.pointer (some ⟨g', 0, none⟩)) ∧ w.heap.size ≤ g' ∧ SG w' g' X ∧ Crashed S X ∧ (p ≤ 0 → q ≤ 0 → X = cutS S) ∧ Below w.heap.size w w' := by
  obtain ⟨P, Q, m, n, hd, hcut, hw, hX, hC⟩ := crash_to h.2 p q
  have HD : Hid _ := fun w h => GDisk S g w h
  have HC : Hid _ := hC
  have HO : Hid _ := fun w => Open_ok P m Q n w hd hw
  have HX : Hid (Crashed S (openS P Q) ∧ (p ≤ 0 → q ≤ 0 → openS P Q = cutS S)) := ⟨hX, hcut⟩
  have HS : Hid (SG w g S) := h
  clear hd hw hX hC h hcut
  generalize openS P Q = X at HO HX
  generalize S.p0 = p0 at HD HC
  generalize S.x0 = x0 at HD HC
  generalize S.p1 = p1 at HD HC
  generalize S.x1 = x1 at HD HC
  generalize (m : Int) = mi at HC HO
  generalize (n : Int) = ni at HC HO
  go_enter Try.func22, Try.ntmps22
  go_wp2_with fail
  with_reducible refine (HD.out _ HS.out).mono ?_
  rintro e w1 ⟨rfl, hb1⟩
  have HB1 : Hid (Below w.heap.size w w1) := hb1
  clear hb1
  go_wp2_with fail
  with_reducible refine (HC.out _).mono ?_
  rintro e w2 ⟨rfl, hb2⟩
  have HB2 : Hid (Below w.heap.size w (w2.alloc (.cells #[.string P, .int .i64 mi, .string Q, .int .i64 ni] 26))) := (HB1.out.trans (hb2.mono HB1.out.size)).alloc (by have := HB1.out.size; have := hb2.size; omega) _
  clear hb2
  go_wp2_with fail
  with_reducible refine (HO.out _).mono ?_
  rintro e w3 ⟨g', rfl, hg, hs, hb3⟩
  have HS3 : Hid (SG w3 g' X) := ⟨hs, HX.out.1.good⟩
  have HB3 : Hid (Below w.heap.size w w3 ∧ w.heap.size ≤ g') := ⟨HB2.out.trans (hb3.mono HB2.out.size), Nat.le_trans HB2.out.size hg⟩
  clear hg hs hb3
  go_wp2_with fail
  go_ret
  exact ⟨g', X, rfl, HB3.out.2, HS3.out, HX.out.1, HX.out.2, HB3.out.1⟩
set_option maxRecDepth 20000 in
set_option maxHeartbeats 1000000 in
theorem frames_any (s : ByteArray) (x : Int) (w : World) (hs : s.size ≤ 1000000000000) :
    Calls Try.prog 26 #[.agg #[.string s, .int .i64 x]] w fun e w' => e = .returned (.int .i64 ((scanL s.data.toList).1.length : Nat)) ∧ Below w.heap.size w w' := by
  have HS : Hid _ := fun w => Scan_any s w hs
  generalize (scanL s.data.toList) = F at HS ⊢
  go_enter Try.func26, Try.ntmps26
  go_wp2_with fail
  have HB0 : Hid (Below w.heap.size w (w.alloc (.cells #[.string s, .int .i64 x] 23))) := (Below.refl _ w).alloc (Nat.le_refl _) _
  with_reducible refine (HS.out _).mono ?_
  rintro e w1 ⟨v, rfl, ho, hb1⟩
  have HB1 : Hid (Below w.heap.size w w1) := HB0.out.trans (hb1.mono HB0.out.size)
  obtain ⟨a, c, rfl, _⟩ := frs_own ho
  clear ho hb1
  go_wp2_with fail
  go_ret
  exact ⟨rfl, HB1.out⟩
end Go.Proofs.Ytgffippimmokiaa

/- The laws' own filled, and what holds of what it makes. -/
namespace Go.Proofs.Ytgffippimmokiaa
open Go.RowKit
set_option linter.unusedSimpArgs false
set_option linter.unusedVariables false

/-- revisions, one after the other, as far as they may come -/
def addsT (S : Sh) (l : List Rv) : Sh := l.foldl addT S
theorem adds_snoc (S : Sh) (l : List Rv) (r : Rv) : addsT S (l ++ [r]) = addT (addsT S l) r := by
  unfold addsT
  rw [List.foldl_append]; rfl
theorem good_adds {S : Sh} (h : SGood S) (l : List Rv) : SGood (addsT S l) := by
  induction l generalizing S with
  | nil => exact h
  | cons r l ih => exact ih (good_add h r)
theorem addT_same (S : Sh) (r : Rv) : (addT S r).stage = S.stage ∧ (addT S r).safe = S.safe ∧ (addT S r).log.base = S.log.base ∧ (addT S r).floor = S.floor ∧ (addT S r).said = S.said ∧ (addT S r).log.gen = S.log.gen ∧ (addT S r).cur = S.cur := by
  unfold addT
  split <;> exact ⟨rfl, rfl, rfl, rfl, rfl, rfl, rfl⟩
theorem adds_same (l : List Rv) : ∀ S : Sh, (addsT S l).stage = S.stage ∧ (addsT S l).safe = S.safe ∧ (addsT S l).log.base = S.log.base ∧ (addsT S l).log.gen = S.log.gen := by
  induction l with
  | nil => intro S; exact ⟨rfl, rfl, rfl, rfl⟩
  | cons r l ih =>
    intro S
    obtain ⟨h1, h2, h3, h4⟩ := ih (addT S r)
    obtain ⟨g1, g2, g3, _, _, g4, _⟩ := addT_same S r
    exact ⟨h1.trans g1, h2.trans g2, h3.trans g3, h4.trans g4⟩
/-- an archive with a history -/
noncomputable def fillS (l : List Rv) : Sh := addsT newS l
theorem fill_good (l : List Rv) : SGood (fillS l) := good_adds good_new l
theorem fill_is (l : List Rv) : (fillS l).stage = 0 ∧ (fillS l).safe = 0 ∧ (fillS l).log.base = 0 ∧ (fillS l).log.gen = 1 := by
  obtain ⟨h1, h2, h3, h4⟩ := adds_same l newS
  unfold fillS
  rw [h1, h2, h3, h4, newS_is]
  exact ⟨rfl, rfl, rfl, rfl⟩
theorem fill_head (l : List Rv) : headN (fillS l) = (fillS l).log.revs.length := by
  unfold headN
  rw [(fill_is l).2.2.1, Nat.zero_add]
theorem revs_far {w : World} {B g : Nat} {b off : Nat} {r : Rv} {ai : Option Addr} {ci : Nat} (h : RvAt w B b off r ai ci) (hg : B ≤ g) : PartsFar w g ai r.d := parts_far h.2.2.2.1 hg
set_option maxRecDepth 20000 in
set_option maxHeartbeats 2000000 in
theorem Filled_any (a : Option Addr) (l : List Rv) (cap : Nat) (w : World) (hl : RevsAt w w.heap.size a l) :
    Calls Try.prog 12 #[.slice a l.length cap] w fun e w' => ∃ g, e = .returned (.pointer (some ⟨g, 0, none⟩)) ∧ w.heap.size ≤ g ∧ SG w' g (fillS l) ∧ Below w.heap.size w w' := by
  have HL : Hid (RevsAt w w.heap.size a l) := hl
  have HN : Hid _ := fun w => GNew w
  have hll : l.length ≤ 9223372036854775807 := hl.1
  obtain ⟨B, hB⟩ : ∃ B, w.heap.size = B := ⟨_, rfl⟩
  have HW : Hid (w.heap.size = B) := hB
  rw [hB] at HL
  clear hl hB
  go_enter Try.func12, Try.ntmps12
  go_wp2_with fail
  with_reducible refine (HN.out _).mono ?_
  rintro e w1 ⟨g, rfl, hg, hs1, hb1⟩
  have HS1 : Hid (SG w1 g newS) := hs1
  have HB1 : Hid (Below B w w1 ∧ B ≤ g) := by rw [← HW.out]; exact ⟨hb1, hg⟩
  clear hs1 hb1 hg
  go_wp2_with fail
  go_loopw [11] (fun i wr => ∃ k : Nat, k ≤ l.length ∧ i = .int .i64 (k : Int) ∧ SG wr g (fillS (l.take k)) ∧ Below B w wr) (fun i _ => l.length - (intOf i).toNat)
  case atStart => exact ⟨0, Nat.zero_le _, rfl, HS1.out, HB1.out.1⟩
  case round =>
    rename World => wr
    obtain ⟨k, hk, rfl, hs, hb⟩ := hrel
    have HS : Hid (SG wr g (fillS (l.take k))) := hs
    have HB : Hid (Below B w wr) := hb
    clear hs hb
    by_cases hlt : k < l.length
    · obtain ⟨r, hr⟩ : ∃ r, l[k]? = some r := ⟨_, List.getElem?_eq_getElem hlt⟩
      obtain ⟨b, off, ai, ci, rfl, hbl, hrv⟩ := (HL.out.below HB.out (Nat.le_refl _)).mem hr
      have HFar : Hid (PartsFar wr g ai r.d) := revs_far hrv HB1.out.2
      have hgw : g < wr.heap.size := HS.out.lt
      have hbw : b < wr.heap.size := by have := HB1.out.2; omega
      obtain ⟨d0, d1, d2, _⟩ := hrv
      have hki : (k : Int) < (l.length : Int) := by omega
      have hb2 : Below wr.heap.size wr (wr.alloc (.cells #[.int .i64 r.who, .int .i64 r.seq, .slice ai r.d.length ci] 40)) := (Below.refl _ wr).alloc (Nat.le_refl _) _
      have HS2 : Hid (SG (wr.alloc (.cells #[.int .i64 r.who, .int .i64 r.seq, .slice ai r.d.length ci] 40)) g (fillS (l.take k))) := HS.out.below hb2
      have HF2 : Hid (PartsFar (wr.alloc (.cells #[.int .i64 r.who, .int .i64 r.seq, .slice ai r.d.length ci] 40)) g ai r.d) := HFar.out.on (below_aside hb2 g)
      have HB2 : Hid (Below B w (wr.alloc (.cells #[.int .i64 r.who, .int .i64 r.seq, .slice ai r.d.length ci] 40))) := HB.out.trans (hb2.mono (by have := HB1.out.2; omega))
      have HNx : Hid (fillS (l.take (k + 1)) = addT (fillS (l.take k)) r) := by
        show _ = _
        rw [List.take_add_one, hr]
        exact adds_snoc newS (l.take k) r
      have HA : Hid _ := fun w h hp => GAdd (fillS (l.take k)) r ai ci g w h hp
      clear hr hb2
      go_wp2_with fail
      with_reducible refine (HA.out _ HS2.out HF2.out).mono ?_
      rintro e w3 ⟨rfl, hs3, ha3⟩
      have HS3 : Hid (SG w3 g (fillS (l.take (k + 1)))) := by
        show SG _ _ _
        rw [HNx.out]; exact hs3
      have HB3 : Hid (Below B w w3) := HB2.out.trans (ha3.below HB1.out.2 (by have := HS2.out.lt; have := HB1.out.2; omega))
      clear hs3 ha3
      go_wp2_with fail
      go_roundw
      case rel => exact ⟨k + 1, hlt, by go_num, HS3.out, HB3.out⟩
      case measure => simp [intOf]; omega
    · have hki : ¬ (k : Int) < (l.length : Int) := by omega
      have HSE : Hid (SG wr g (fillS l)) := by
        have h := HS.out
        rw [List.take_of_length_le (by omega)] at h
        exact h
      clear hlt
      go_wp2_with fail
      go_ret
      exact ⟨g, rfl, by rw [HW.out]; exact HB1.out.2, HSE.out, by rw [HW.out]; exact HB.out⟩
end Go.Proofs.Ytgffippimmokiaa

/- A move, step by step. -/
namespace Go.Proofs.Ytgffippimmokiaa
open Go.RowKit
set_option linter.unusedSimpArgs false
set_option linter.unusedVariables false

theorem fld_disk (a b c d : Value) (w : World) : Sem.run Try.prog (Instr.field 26 (.agg #[a, b, c, d]) 0) w = .ok (.agg #[a, b, c, d]) w := by
  simp [Instr.field, run_underlying Try.underlying26, asAgg, go_sem]
theorem ix_slot0 (a b c d : Value) (w : World) : Sem.run Try.prog (Instr.index 24 (.agg #[a, b, c, d]) (.int .i64 0)) w = .ok (.agg #[a, b]) w := by
  simp [Instr.index, run_underlying Try.underlying24, asIntOf, go_sem]
theorem ix_slot1 (a b c d : Value) (w : World) : Sem.run Try.prog (Instr.index 24 (.agg #[a, b, c, d]) (.int .i64 1)) w = .ok (.agg #[c, d]) w := by
  simp [Instr.index, run_underlying Try.underlying24, asIntOf, go_sem]
/-- an archive to which nothing was added in a move -/
def Idle (S : Sh) : Prop := ∃ a b, ShInv S a b 0
theorem Idle.good {S : Sh} (h : Idle S) : SGood S := by
  obtain ⟨a, b, h⟩ := h
  exact ⟨a, b, 0, h, Nat.zero_le _⟩
theorem SGood.idle {S : Sh} (h : SGood S) (h4 : S.stage ≠ 4) : Idle S := by
  obtain ⟨a, b, m, h, _⟩ := h
  exact ⟨a, b, h.any 0 h4⟩
theorem fill_idle (l : List Rv) : Idle (fillS l) := (fill_good l).idle (by rw [(fill_is l).1]; decide)
theorem idle_keep {S : Sh} (h : Idle S) (r : Int) : Idle (keepS S r) := by
  obtain ⟨a, b, h⟩ := h
  exact ⟨a, b, inv_keep h r⟩
theorem idle_step {S : Sh} (h : Idle S) : Idle (stepS S) := by
  obtain ⟨a, b, h⟩ := h
  unfold stepS
  split
  · rename_i h1; exact ⟨a, b, inv_head h h1⟩
  · split
    · rename_i h2; exact ⟨a, b, inv_next h h2⟩
    · split
      · rename_i h3
        obtain ⟨a', b', h', _⟩ := inv_change h h3
        exact ⟨a', b', h'⟩
      · split
        · exact ⟨a, b, inv_over h⟩
        · exact ⟨a, b, h⟩
theorem scan_all {fs : List Fr} (h : ∀ f ∈ fs, frOk f = true) : (scanL (rowL fs)).1 = fs := by
  have hsc := scan_row (r := []) (by decide) _ h
  rw [List.append_nil] at hsc
  rw [hsc]
theorem idle_frames {S : Sh} (h : Idle S) : (scanL S.c.data.toList).1.length ≤ 66 ∧ (scanL S.o.data.toList).1.length ≤ 66 := by
  obtain ⟨a, b, h⟩ := h
  have hrl := h.lok.revs
  refine ⟨?_, ?_⟩
  · rw [h.data, scan_all h.read.2.2]
    have h2 := slotF_len S.log.gen S.log.base S.log.first S.log.text a b
    rw [h.revs, List.length_append] at hrl
    unfold curF
    omega
  · have hst := h.oth.stage
    rcases (by omega : S.stage = 0 ∨ S.stage = 1 ∨ S.stage = 2 ∨ S.stage = 3 ∨ S.stage = 4) with h0 | h0 | h0 | h0 | h0
    · rw [(h.oth.zero h0).1]; decide
    · rw [(h.oth.one h0).1]; decide
    · obtain ⟨e1, hg, h1, h2, h3, e2⟩ := h.oth.two h0
      obtain ⟨f1, f2, f3, f4, f5⟩ := h.floor hg h1 (by omega)
      have hm : mayL (headS (S.log.gen + 1) S.floor (flT S) (flX S)) ((flX S).length : Nat) (((S.log.revs.drop (S.floor - S.log.base)).take (S.said - S.floor)) ++ []) := by
        rw [List.append_nil]
        rw [← List.take_append_drop (S.said - S.floor) (S.log.revs.drop (S.floor - S.log.base))] at f3
        exact ((may_app _ _ _ _).1 f3).1
      obtain ⟨_, _, hfr⟩ := slot_read (w := false) (by omega) f5 f1 f2 hm (fun _ => rfl)
      have h5 := slotF_len0 (S.log.gen + 1) S.floor (flT S) (flX S) ((S.log.revs.drop (S.floor - S.log.base)).take (S.said - S.floor))
      have h6 : ((S.log.revs.drop (S.floor - S.log.base)).take (S.said - S.floor)).length ≤ S.log.revs.length := by rw [List.length_take, List.length_drop]; omega
      rw [e2]
      unfold othF
      rw [scan_all hfr, h5]
      omega
    · obtain ⟨hg, h1, h2, y0, y1, a', b', e1, e2, _⟩ := h.oth.three h0
      obtain ⟨f1, f2, f3, f4, f5⟩ := h.floor hg h1 h2
      rw [← e1] at f3
      obtain ⟨_, _, hfr⟩ := slot_read (w := true) (by omega) f5 f1 f2 f3 (fun e => by cases e)
      have h5 := slotF_len (S.log.gen + 1) S.floor (flT S) (flX S) a' b'
      have h6 := congrArg List.length e1
      rw [List.length_append, List.length_drop] at h6
      rw [e2]
      unfold othF
      rw [scan_all hfr, h5]
      omega
    · obtain ⟨hg, y0, y1, hm, base, F, t, a', b', e2, hfr, _, hl⟩ := h.oth.four h0
      have h5 := slotF_len (S.log.gen - 1) base F t a' b'
      rw [e2, scan_all hfr, h5]
      omega
/-- both slots, as the disk has them -/
theorem idle_disk {S : Sh} (h : Idle S) : S.p0.size ≤ 1000000000000 ∧ S.p1.size ≤ 1000000000000 ∧ (scanL S.p0.data.toList).1.length ≤ 66 ∧ (scanL S.p1.data.toList).1.length ≤ 66 := by
  have h1 := idle_frames h
  obtain ⟨k1, k2⟩ := dk_zero h.good.dk
  obtain ⟨s1, s2, s3⟩ := sl_zero k1
  obtain ⟨t1, t2, t3⟩ := sl_zero k2
  refine ⟨by omega, by omega, ?_, ?_⟩
  · unfold Sh.p0; split
    · exact h1.1
    · exact h1.2
  · unfold Sh.p1; split
    · exact h1.2
    · exact h1.1
theorem new_frames : newS.p0.size ≤ 1000000000000 ∧ (scanL newS.p0.data.toList).1.length = 2 := by
  have e : newS.p0 = newP := by rw [newS_is]; rfl
  rw [e]
  refine ⟨by have := new_small; omega, ?_⟩
  have h := (slot_read (gen := 1) (base := 0) (F := zeroT) (text := []) (a := []) (b := []) (w := true) (by decide) (by decide) zero_tab (by decide) trivial (fun h => by cases h)).2.2
  show (scanL (rowL (slotF 1 0 zeroT [] [] true []))).1.length = 2
  rw [scan_all h]
  rfl
/-- a revision that is there is kept from, unless there is a move -/
theorem keep_ok {S : Sh} (h0 : S.stage = 0) (hg : S.log.gen < 2147483647) {k : Nat} (h1 : S.log.base ≤ k) (h2 : k ≤ headN S) : kpE S (k : Int) = 0 ∧ keepS S (k : Int) = { S with stage := 1, floor := k, said := k } := by
  have h3 : kpE S (k : Int) = 0 := by
    have h4 : hasE S (k : Int) = 0 := by
      unfold hasE
      rw [if_neg (by omega), if_neg (by omega)]
    unfold kpE
    rw [if_pos h0, if_pos h4, if_neg (by omega)]
  refine ⟨h3, ?_⟩
  unfold keepS
  rw [if_pos h3, Int.toNat_natCast]
theorem GBase (S : Sh) (g : Nat) (w : World) (h : SG w g S) : Calls Try.prog 20 #[.pointer (some ⟨g, 0, none⟩)] w fun e w' => e = .returned (.int .i64 S.log.base) ∧ Below w.heap.size w w' := ShBase_any S g w h.1
theorem GSafe (S : Sh) (g : Nat) (w : World) (h : SG w g S) : Calls Try.prog 21 #[.pointer (some ⟨g, 0, none⟩)] w fun e w' => e = .returned (.int .i64 S.safe) ∧ Below w.heap.size w w' := ShSafe_any S g w h.1
theorem one_fill : fillS [oneRv] = addS newS oneRv := by
  show addT newS oneRv = _
  rw [addT, if_pos one_add]
theorem one_facts : headN (fillS [oneRv]) = 1 ∧ (fillS [oneRv]).safe = 0 ∧ (fillS [oneRv]).stage = 0 ∧ (fillS [oneRv]).log.base = 0 ∧ (fillS [oneRv]).log.gen = 1 := by
  obtain ⟨h1, h2, h3, h4⟩ := fill_is [oneRv]
  refine ⟨?_, h2, h1, h3, h4⟩
  rw [fill_head, one_fill]
  show (newS.log.revs ++ [oneRv]).length = 1
  rw [newS_is]
  rfl
/-- behind a crash a new archive's first revision is gone -/
theorem one_cut : cutS (fillS [oneRv]) = newS ∧ headN newS = 0 := by
  refine ⟨?_, by rw [newS_is]; rfl⟩
  have e0 : (addS newS oneRv).cur = 0 := by show newS.cur = 0; rw [newS_is]
  have e1 : (addS newS oneRv).p0 = newP ++ frB oneRv := by
    unfold Sh.p0
    rw [if_pos e0]
    show newS.c ++ _ = _
    rw [newS_is]
  have e2 : (addS newS oneRv).x0 = newP.size := by
    unfold Sh.x0
    rw [if_pos e0]
    show newS.x = _
    rw [newS_is]
  have e3 : (addS newS oneRv).x1 = 0 := by
    unfold Sh.x1
    rw [if_pos e0]
    show newS.y = _
    rw [newS_is]
  rw [one_fill]
  unfold cutS
  rw [e1, e2, e3]
  have e4 : (newP ++ frB oneRv).extract 0 ((newP.size : Int)).toNat = newP := by
    apply ByteArray.ext
    rw [Int.toNat_natCast]
    simp
  have e5 : (addS newS oneRv).p1.extract 0 ((0 : Int)).toNat = ⟨#[]⟩ := by
    apply ByteArray.ext
    simp
  rw [e4, e5]
  rfl
theorem fill_one (w : World) (ad : Addr) (hp : PartsAt w w.heap.size (some ad) [⟨2, 0, ⟨#[97]⟩⟩]) : Calls Try.prog 12 #[.slice (some ⟨w.heap.size, 0, none⟩) 1 1] (w.alloc (.cells #[.int .i64 1, .int .i64 1, .slice (some ad) 1 1] 40)) fun e w' => ∃ g, e = .returned (.pointer (some ⟨g, 0, none⟩)) ∧ SG w' g (fillS [oneRv]) ∧ Below w.heap.size w w' := by
  have hb : Below w.heap.size w (w.alloc (.cells #[.int .i64 1, .int .i64 1, .slice (some ad) 1 1] 40)) := (Below.refl _ w).alloc (Nat.le_refl _) _
  refine (Filled_any (some ⟨w.heap.size, 0, none⟩) [oneRv] 1 _ (revs_one w oneRv ⟨⟨by decide, by decide⟩, ⟨by decide, by decide⟩⟩ (some ad) 1 hp ⟨Nat.le_refl _, fun e => by cases e⟩)).mono ?_
  rintro e w' ⟨g, h1, h2, h3, h4⟩
  exact ⟨g, h1, h3, hb.trans (h4.mono hb.size)⟩
end Go.Proofs.Ytgffippimmokiaa
