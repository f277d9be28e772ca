/- An archive in a block of its own. -/
import Derived.Test.YtgffippimmokiaaHotLaw
import Derived.Test.YtgffippimmokiaaDiskKit
import Derived.Test.YtgffippimmokiaaCodeRead
import Derived.Test.YtgffippimmokiaaLoose
import Derived.BigRegion
import Derived.Test.YtgffippimmokiaaRevText
import Derived.Test.YtgffippimmokiaaHotHead
import Derived.Deep.RegionHeld3
import Derived.BigQuiet
namespace Go.Proofs.Ytgffippimmokiaa
open Go.RowKit
set_option linter.unusedSimpArgs false
set_option linter.unusedVariables false

/-! Everything but one block stays as it was. -/
def Aside (g : Nat) (w w' : World) : Prop := w.grownBy w' (some g)
theorem Aside.refl (g : Nat) (w : World) : Aside g w w := World.grownBy.refl w _
theorem below_aside {w w' : World} (h : Below w.heap.size w w') (g : Nat) : Aside g w w' := ⟨h.os, h.tape, h.output, h.size, fun k hk _ => h.block k hk⟩
theorem Aside.trans {g : Nat} {a b c : World} (h : Aside g a b) (k : Aside g b c) : Aside g a c :=
  ⟨k.os.trans h.os, k.tape.trans h.tape, k.output.trans h.output, Nat.le_trans h.size k.size, fun i hi hne => (k.block i (Nat.lt_of_lt_of_le hi h.size) hne).trans (h.block i hi hne)⟩
theorem Aside.next {g : Nat} {a b c : World} (h : Aside g a b) (k : Below b.heap.size b c) : Aside g a c := h.trans (below_aside k g)
theorem Aside.drew {g : Nat} {a b : World} (h : Aside g a b) : Aside g a b.drew := ⟨h.os, h.tape, h.output, h.size, h.block⟩
theorem Aside.put {g : Nat} {a b : World} (h : Aside g a b) (i : Nat) (v : Value) : Aside g a (b.setCell ⟨g, i, none⟩ v) :=
  h.trans ⟨rfl, rfl, rfl, by simp [World.setCell], fun k hk hne => Below.heap_setCell _ _ _ _ (fun e => hne (congrArg some e))⟩
theorem Aside.puts {g : Nat} {a : World} : ∀ (vs : List Value) (b : World) (o : Nat), Aside g a b → Aside g a (b.setCells g o vs)
  | [], _, _, h => h
  | v :: r, b, o, h => Aside.puts r _ (o + 1) (h.put o v)
theorem Aside.below {g B : Nat} {w w' : World} (h : Aside g w w') (hB : B ≤ g) (hw : B ≤ w.heap.size) : Below B w w' :=
  ⟨h.os, h.tape, h.output, h.size, fun k hk => h.block k (Nat.lt_of_lt_of_le hk hw) (fun e => by have := Option.some.inj e; omega)⟩
theorem Aside.block {g k : Nat} {w w' : World} {o : Obj} (h : Aside g w w') (hk : w.heap[k]? = some o) (hne : k ≠ g) : w'.heap[k]? = some o := by
  obtain ⟨hl, _⟩ := Array.getElem?_eq_some_iff.1 hk
  exact (World.grownBy.block h k hl (fun e => hne (Option.some.inj e))).trans hk
theorem RzOwn.aside {w w' : World} {B k : Nat} {x : Rv × Option Addr × Nat} {C : Array Value} {t : TypeId} {fz : Nat × Nat} (h : RzOwn w B x) (hk : w.heap[k]? = some (.cells C t fz)) (ht : t ≠ 138) (ha : Aside k w w') : RzOwn w' B x :=
  ⟨h.1, h.2.kept ha (.inr (own_ne' h.2 hk ht))⟩
theorem RzsOwn.aside {w w' : World} {B k : Nat} {v : Value} {xs : List (Rv × Option Addr × Nat)} {C : Array Value} {t : TypeId} {fz : Nat × Nat} (h : RzsOwn w B v xs) (hk : w.heap[k]? = some (.cells C t fz)) (ht : t ≠ 138) (ht2 : t ≠ 40) (ha : Aside k w w') : RzsOwn w' B v xs :=
  ⟨fun x hx => (h.1 x hx).aside hk ht ha, h.2.kept ha (.inr (own_ne' h.2 hk ht2))⟩

/-- an archive: what its slot has, and how many bytes of that are safe; the other one; where it is; the log; what is safe; a move -/
structure Sh where
  c : ByteArray
  x : Int
  o : ByteArray
  y : Int
  cur : Nat
  log : Lg
  safe : Nat
  stage : Nat
  floor : Nat
  said : Nat
def Sh.p0 (S : Sh) : ByteArray := if S.cur = 0 then S.c else S.o
def Sh.x0 (S : Sh) : Int := if S.cur = 0 then S.x else S.y
def Sh.p1 (S : Sh) : ByteArray := if S.cur = 0 then S.o else S.c
def Sh.x1 (S : Sh) : Int := if S.cur = 0 then S.y else S.x
/-- its cells -/
def shL (p : ByteArray) (x : Int) (q : ByteArray) (y n : Int) (L : List Value) (f st fl sd : Int) : List Value :=
  .string p :: .int .i64 x :: .string q :: .int .i64 y :: .int .i64 n :: (L ++ [.int .i64 f, .int .i64 st, .int .i64 fl, .int .i64 sd])
def shC (S : Sh) (v : Value) : List Value := shL S.p0 S.x0 S.p1 S.x1 S.cur (sC S.log v S.log.good) S.safe S.stage S.floor S.said
theorem shL_len {p q : ByteArray} {x y n f st fl sd : Int} {L : List Value} (h : L.length = 38) : (shL p x q y n L f st fl sd).length = 47 := by simp [shL, h]
theorem shL_at {p q : ByteArray} {x y n f st fl sd : Int} {L : List Value} (h : L.length = 38) :
    (∀ i, i < 38 → (shL p x q y n L f st fl sd)[5 + i]? = L[i]?) ∧ (shL p x q y n L f st fl sd)[43]? = some (.int .i64 f) ∧ (shL p x q y n L f st fl sd)[44]? = some (.int .i64 st) ∧ (shL p x q y n L f st fl sd)[45]? = some (.int .i64 fl) ∧ (shL p x q y n L f st fl sd)[46]? = some (.int .i64 sd) := by
  refine ⟨fun i hi => ?_, ?_, ?_, ?_, ?_⟩
  · rw [shL, show 5 + i = i + 1 + 1 + 1 + 1 + 1 by omega]
    simp only [List.getElem?_cons_succ]
    rw [List.getElem?_append_left (by omega)]
  · rw [shL]; simp only [List.getElem?_cons_succ]; rw [List.getElem?_append_right (by omega), h]; rfl
  · rw [shL]; simp only [List.getElem?_cons_succ]; rw [List.getElem?_append_right (by omega), h]; rfl
  · rw [shL]; simp only [List.getElem?_cons_succ]; rw [List.getElem?_append_right (by omega), h]; rfl
  · rw [shL]; simp only [List.getElem?_cons_succ]; rw [List.getElem?_append_right (by omega), h]; rfl
theorem shL_set {p q : ByteArray} {x y n f st fl sd : Int} {L : List Value} (h : L.length = 38) :
    (∀ i u, i < 38 → (shL p x q y n L f st fl sd).set (5 + i) u = shL p x q y n (L.set i u) f st fl sd) ∧ (∀ m, (shL p x q y n L f st fl sd).set 43 (.int .i64 m) = shL p x q y n L m st fl sd) ∧ (∀ m, (shL p x q y n L f st fl sd).set 44 (.int .i64 m) = shL p x q y n L f m fl sd) ∧
    (∀ m, (shL p x q y n L f st fl sd).set 45 (.int .i64 m) = shL p x q y n L f st m sd) ∧ (∀ m, (shL p x q y n L f st fl sd).set 46 (.int .i64 m) = shL p x q y n L f st fl m) := by
  refine ⟨fun i u hi => ?_, fun m => ?_, fun m => ?_, fun m => ?_, fun m => ?_⟩
  · rw [shL, shL, show 5 + i = i + 1 + 1 + 1 + 1 + 1 by omega]
    simp only [List.set_cons_succ]
    rw [List.set_append_left _ _ (by omega)]
  · rw [shL, shL]; simp only [List.set_cons_succ]; rw [List.set_append_right _ _ (by omega), h]; rfl
  · rw [shL, shL]; simp only [List.set_cons_succ]; rw [List.set_append_right _ _ (by omega), h]; rfl
  · rw [shL, shL]; simp only [List.set_cons_succ]; rw [List.set_append_right _ _ (by omega), h]; rfl
  · rw [shL, shL]; simp only [List.set_cons_succ]; rw [List.set_append_right _ _ (by omega), h]; rfl
/-- an archive's cells in a block of their own -/
def ShAt (w : World) (g : Nat) (L : List Value) : Prop := w.heap[g]? = some (.cells L.toArray 92 (0, 0))
theorem ShAt.lt {w : World} {g : Nat} {L : List Value} (h : ShAt w g L) : g < w.heap.size := lt_of_heap h
theorem ShAt.below {w w' : World} {B g : Nat} {L : List Value} (h : ShAt w g L) (hb : Below B w w') (hg : g < B) : ShAt w' g L := (hb.block g hg).trans h
theorem ShAt.cell {w : World} {g : Nat} {L : List Value} (h : ShAt w g L) {i : Nat} {v : Value} (hi : L[i]? = some v) : w.cell? ⟨g, i, none⟩ = some v := by
  have h2 := Lib.cell_of_heap h i
  rw [h2]
  simpa using hi
theorem ShAt.free {w : World} {g : Nat} {L : List Value} (h : ShAt w g L) (i : Nat) : w.frozen? ⟨g, i, none⟩ = false := Lib.frozen_of_heap h i
theorem ShAt.put {w : World} {g : Nat} {L : List Value} (h : ShAt w g L) (i : Nat) (v : Value) : ShAt (w.setCell ⟨g, i, none⟩ v) g (L.set i v) := by
  have h2 := heap_setCell_same w g i _ _ v h
  rw [List.setIfInBounds_toArray] at h2
  exact h2
theorem ShAt.puts {g : Nat} : ∀ (vs : List Value) (w : World) (L : List Value) (o : Nat), ShAt w g L → ShAt (w.setCells g o vs) g (setL L o vs)
  | [], _, _, _, h => h
  | v :: r, w, L, o, h => ShAt.puts r _ _ (o + 1) (h.put o v)
theorem ShAt.range {w : World} {g : Nat} {L : List Value} (h : ShAt w g L) (a b c : List Value) (e : L = a ++ (b ++ c)) : w.rangeAt g a.length b := by
  intro j v hj
  have hl := (List.getElem?_eq_some_iff.1 hj).1
  refine h.cell ?_
  rw [e, List.getElem?_append_right (by omega), show a.length + j - a.length = j by omega, List.getElem?_append_left hl]
  exact hj
theorem ShAt.there {w : World} {g : Nat} {L : List Value} (h : ShAt w g L) {o n : Nat} (hn : o + n ≤ L.length) : w.there g o n := by
  intro j hj
  refine ⟨?_, h.free _⟩
  rw [h.cell (List.getElem?_eq_getElem (show o + j < L.length by omega))]
  rfl
/-- an archive, and its revisions, which are nobody else's -/
def ShOf (w : World) (g : Nat) (S : Sh) (v : Value) (xs : List (Rv × Option Addr × Nat)) : Prop :=
  ShAt w g (shC S v) ∧ RzsOwn w 0 v xs ∧ xs.map (·.1) = S.log.revs ∧ S.log.first.length = 16 ∧ S.log.table.length = 16
def ShIs (w : World) (g : Nat) (S : Sh) : Prop := ∃ v xs, ShOf w g S v xs
theorem ShOf.below {w w' : World} {g : Nat} {S : Sh} {v : Value} {xs : List (Rv × Option Addr × Nat)} (h : ShOf w g S v xs) (hb : Below w.heap.size w w') : ShOf w' g S v xs :=
  ⟨h.1.below hb h.1.lt, h.2.1.below hb, h.2.2⟩
theorem ShIs.below {w w' : World} {g : Nat} {S : Sh} (h : ShIs w g S) (hb : Below w.heap.size w w') : ShIs w' g S := by
  obtain ⟨v, xs, h⟩ := h
  exact ⟨v, xs, h.below hb⟩
theorem ShIs.lt {w : World} {g : Nat} {S : Sh} (h : ShIs w g S) : g < w.heap.size := by
  obtain ⟨v, xs, h⟩ := h
  exact h.1.lt
theorem ShIs.drew {w : World} {g : Nat} {S : Sh} (h : ShIs w g S) : ShIs w.drew g S := h.below (Below.refl _ w).drew
/-- what is done to another block (which has no revision, and no part) does nothing to it -/
theorem ShIs.aside {w w' : World} {g k : Nat} {S : Sh} {C : Array Value} {t : TypeId} {fz : Nat × Nat} (h : ShIs w g S) (hk : w.heap[k]? = some (.cells C t fz)) (ht : t ≠ 138) (ht2 : t ≠ 40) (hne : g ≠ k) (ha : Aside k w w') : ShIs w' g S := by
  obtain ⟨v, xs, h1, h2, h3⟩ := h
  exact ⟨v, xs, ha.block h1 hne, h2.aside hk ht ht2 ha, h3⟩
/-- what is done to its own cells -/
theorem ShOf.revs {w w' : World} {g : Nat} {S T : Sh} {v : Value} {xs : List (Rv × Option Addr × Nat)} (h : ShOf w g S v xs) (ha : Aside g w w') (hs : ShAt w' g (shC T v)) (h1 : T.log.revs = S.log.revs) (h2 : T.log.first.length = 16) (h3 : T.log.table.length = 16) : ShOf w' g T v xs :=
  ⟨hs, h.2.1.aside h.1 (by decide) (by decide) ha, h.2.2.1.trans h1.symm, h2, h3⟩
theorem sC_at {S : Lg} {v : Value} {gd : Int} (hF : S.first.length = 16) (hT : S.table.length = 16) : (sC S v gd).length = 38 ∧ (sC S v gd)[0]? = some (.int .i64 S.gen) ∧ (sC S v gd)[1]? = some (.int .i64 S.base) ∧ (sC S v gd)[2]? = some (.string ⟨S.text.toArray⟩) ∧ (sC S v gd)[35]? = some v ∧
    ∀ k q, S.table[k]? = some q → (sC S v gd)[19 + k]? = some (.int .i64 q) := by
  obtain ⟨h1, h2, h3, h4⟩ := lg_at (gen := S.gen) (base := S.base) (text := S.text) (F := S.first) (T := S.table) (rv := v) (wh := S.whole) (gd := gd) hF hT
  exact ⟨lgC_len hF hT, rfl, rfl, rfl, h1, h4⟩
/-- the cells that the calls read -/
theorem ShOf.cells {w : World} {g : Nat} {S : Sh} {v : Value} {xs : List (Rv × Option Addr × Nat)} (h : ShOf w g S v xs) :
    (w.cell? ⟨g, 0, none⟩ = some (.string S.p0) ∧ w.cell? ⟨g, 1, none⟩ = some (.int .i64 S.x0) ∧ w.cell? ⟨g, 2, none⟩ = some (.string S.p1) ∧ w.cell? ⟨g, 3, none⟩ = some (.int .i64 S.x1) ∧ w.cell? ⟨g, 4, none⟩ = some (.int .i64 S.cur)) ∧
    (w.cell? ⟨g, 5, none⟩ = some (.int .i64 S.log.gen) ∧ w.cell? ⟨g, 6, none⟩ = some (.int .i64 S.log.base) ∧ w.cell? ⟨g, 7, none⟩ = some (.string ⟨S.log.text.toArray⟩) ∧ w.cell? ⟨g, 40, none⟩ = some v) ∧
    (w.cell? ⟨g, 43, none⟩ = some (.int .i64 S.safe) ∧ w.cell? ⟨g, 44, none⟩ = some (.int .i64 S.stage) ∧ w.cell? ⟨g, 45, none⟩ = some (.int .i64 S.floor) ∧ w.cell? ⟨g, 46, none⟩ = some (.int .i64 S.said)) := by
  obtain ⟨h1, _, _, hF, hT⟩ := h
  obtain ⟨l, s0, s1, s2, s35, _⟩ := sC_at (S := S.log) (v := v) (gd := S.log.good) hF hT
  obtain ⟨a, a43, a44, a45, a46⟩ := shL_at (p := S.p0) (x := S.x0) (q := S.p1) (y := S.x1) (n := S.cur) (f := S.safe) (st := S.stage) (fl := S.floor) (sd := S.said) l
  exact ⟨⟨h1.cell rfl, h1.cell rfl, h1.cell rfl, h1.cell rfl, h1.cell rfl⟩, ⟨h1.cell ((a 0 (by omega)).trans s0), h1.cell ((a 1 (by omega)).trans s1), h1.cell ((a 2 (by omega)).trans s2), h1.cell ((a 35 (by omega)).trans s35)⟩, h1.cell a43, h1.cell a44, h1.cell a45, h1.cell a46⟩
theorem ShOf.table {w : World} {g : Nat} {S : Sh} {v : Value} {xs : List (Rv × Option Addr × Nat)} (h : ShOf w g S v xs) {k : Nat} {q : Int} (hk : S.log.table[k]? = some q) : w.cell? ⟨g, 24 + k, none⟩ = some (.int .i64 q) := by
  obtain ⟨h1, _, _, hF, hT⟩ := h
  obtain ⟨l, s0, s1, s2, s35, st⟩ := sC_at (S := S.log) (v := v) (gd := S.log.good) hF hT
  obtain ⟨a, _⟩ := shL_at (p := S.p0) (x := S.x0) (q := S.p1) (y := S.x1) (n := S.cur) (f := S.safe) (st := S.stage) (fl := S.floor) (sd := S.said) l
  have hl := (List.getElem?_eq_some_iff.1 hk).1
  have h2 := (a (19 + k) (by omega)).trans (st k q hk)
  rw [show 5 + (19 + k) = 24 + k by omega] at h2
  exact h1.cell h2
/-- its log, as a whole -/
theorem ShOf.log {w : World} {g : Nat} {S : Sh} {v : Value} {xs : List (Rv × Option Addr × Nat)} (h : ShOf w g S v xs) : w.rangeAt g 5 (sC S.log v S.log.good) :=
  h.1.range [.string S.p0, .int .i64 S.x0, .string S.p1, .int .i64 S.x1, .int .i64 S.cur] _ [.int .i64 S.safe, .int .i64 S.stage, .int .i64 S.floor, .int .i64 S.said] rfl
/-- its revisions, as they are read -/
theorem ShOf.revsAt {w : World} {g : Nat} {S : Sh} {v : Value} {xs : List (Rv × Option Addr × Nat)} (h : ShOf w g S v xs) (h64 : S.log.revs.length ≤ 64) : ∃ a c, v = .slice a S.log.revs.length c ∧ S.log.revs.length ≤ c ∧ RevsAt w w.heap.size a S.log.revs := by
  have hl : xs.length = S.log.revs.length := by rw [← h.2.2.1, List.length_map]
  obtain ⟨a, c, e1, e2, e3⟩ := rzs_at h.2.1 (by omega)
  rw [hl] at e1 e2
  rw [h.2.2.1] at e3
  exact ⟨a, c, e1, e2, e3⟩
end Go.Proofs.Ytgffippimmokiaa

/- A revision in memory of its own. -/
namespace Go.Proofs.Ytgffippimmokiaa
open Go.RowKit
set_option linter.unusedSimpArgs false
set_option linter.unusedVariables false

def ptZ : Pt := ⟨0, 0, ⟨#[]⟩⟩
theorem allCells_zero (n : Nat) : (madeCells #[.int .i64 0, .int .i64 0, .string ⟨#[]⟩] (n * 3)).toList = allCells (List.replicate n ptZ) := by
  apply List.ext_getElem?
  intro i
  by_cases hi : i < n * 3
  · have hq : (List.replicate n ptZ)[i / 3]? = some ptZ := by rw [List.getElem?_replicate, if_pos (by omega)]
    obtain ⟨c0, c1, c2⟩ := allCells_at hq
    rw [madeCells]
    simp only [Array.toList_map, List.getElem?_map, Array.getElem?_toList]
    rw [Array.getElem?_range, if_pos hi]
    rcases (by omega : i = i / 3 * 3 ∨ i = i / 3 * 3 + 1 ∨ i = i / 3 * 3 + 2) with h | h | h
    · have e : i % 3 = 0 := by omega
      rw [← h] at c0
      rw [c0]
      simp [e, ptZ]
    · have e : i % 3 = 1 := by omega
      rw [← h] at c1
      rw [c1]
      simp [e, ptZ]
    · have e : i % 3 = 2 := by omega
      rw [← h] at c2
      rw [c2]
      simp [e, ptZ]
  · rw [List.getElem?_eq_none (by rw [Array.length_toList, size_madeCells]; omega), List.getElem?_eq_none (by rw [allCells_length, List.length_replicate]; omega)]
theorem allCells_putP {X : List Pt} {k : Nat} (p : Pt) (h : k < X.length) : (((allCells X).set (k * 3) (.int .i64 p.k)).set (k * 3 + 1) (.int .i64 p.n)).set (k * 3 + 2) (.string p.t) = allCells (X.set k p) := by
  induction X generalizing k with
  | nil => simp at h
  | cons q X ih =>
    cases k with
    | zero => simp [allCells_cons]
    | succ j =>
      have h2 := ih (k := j) (by simpa using h)
      rw [allCells_cons, show (j + 1) * 3 = j * 3 + 1 + 1 + 1 by omega, show j * 3 + 1 + 1 + 1 + 1 = (j * 3 + 1) + 1 + 1 + 1 by omega, show j * 3 + 1 + 1 + 1 + 2 = (j * 3 + 2) + 1 + 1 + 1 by omega]
      simp only [List.set_cons_succ, h2]
      rw [← allCells_cons]
/-- what is held while parts are copied -/
def CpIs (w0 w : World) (B gd : Nat) (r : Rv) (a : Option Addr) (c : Nat) (X : List Pt) : Prop :=
  w.heap[B]? = some (.cells #[.int .i64 r.who, .int .i64 r.seq, .slice a r.d.length c] 40 (0, 0)) ∧ w.heap[B + 1]? = some (.cells #[.int .i64 0, .int .i64 0, .slice none 0 0] 40 (0, 0)) ∧
  w.ownsRow B 138 3 (.slice (some ⟨gd, 0, none⟩) r.d.length r.d.length) r.d.length (allCells X) ∧ Below B w0 w ∧ B + 1 < gd
theorem CpIs.below {w0 w w' : World} {B gd : Nat} {r : Rv} {a : Option Addr} {c : Nat} {X : List Pt} (h : CpIs w0 w B gd r a c X) (hb : Below w.heap.size w w') : CpIs w0 w' B gd r a c X := by
  obtain ⟨h1, h2, h3, h4, h5⟩ := h
  exact ⟨(hb.block _ (lt_of_heap h1)).trans h1, (hb.block _ (lt_of_heap h2)).trans h2, own_stay h3 hb, h4.trans (hb.mono (Nat.le_of_lt (lt_of_heap h1))), h5⟩
theorem CpIs.put {w0 w : World} {B gd k : Nat} {r : Rv} {a : Option Addr} {c : Nat} {X : List Pt} (h : CpIs w0 w B gd r a c X) (p : Pt) (hk : k < X.length) (hX : X.length = r.d.length) :
    CpIs w0 (((w.setCell ⟨gd, k * 3, none⟩ (.int .i64 p.k)).setCell ⟨gd, k * 3 + 1, none⟩ (.int .i64 p.n)).setCell ⟨gd, k * 3 + 2, none⟩ (.string p.t)) B gd r a c (X.set k p) := by
  obtain ⟨h1, h2, h3, h4, h5⟩ := h
  have e1 := (h3.stored (k * 3) (.int .i64 p.k)).1
  have e2 := (e1.stored (k * 3 + 1) (.int .i64 p.n)).1
  have e3 := (e2.stored (k * 3 + 2) (.string p.t)).1
  rw [allCells_putP p hk] at e3
  have ha : Aside gd w (((w.setCell ⟨gd, k * 3, none⟩ (.int .i64 p.k)).setCell ⟨gd, k * 3 + 1, none⟩ (.int .i64 p.n)).setCell ⟨gd, k * 3 + 2, none⟩ (.string p.t)) := (((Aside.refl gd w).put _ _).put _ _).put _ _
  exact ⟨ha.block h1 (by omega), ha.block h2 (by omega), e3, h4.trans (ha.below (by omega) (Nat.le_of_lt (lt_of_heap h1))), h5⟩
theorem CpIs.other {w0 w : World} {B gd N i : Nat} {r : Rv} {a : Option Addr} {c : Nat} {X : List Pt} (h : CpIs w0 w B gd r a c X) (hN : gd < N) (v : Value) : CpIs w0 (w.setCell ⟨N, i, none⟩ v) B gd r a c X := by
  obtain ⟨h1, h2, h3, h4, h5⟩ := h
  have ha : Aside N w (w.setCell ⟨N, i, none⟩ v) := (Aside.refl N w).put _ _
  exact ⟨ha.block h1 (by omega), ha.block h2 (by omega), h3.kept ha (.inr (by show some gd ≠ some N; intro e; have := Option.some.inj e; omega)), h4.trans (ha.below (by omega) (Nat.le_of_lt (lt_of_heap h1))), h5⟩
theorem CpIs.cells {w0 w : World} {B gd k : Nat} {r : Rv} {a : Option Addr} {c : Nat} {X : List Pt} (h : CpIs w0 w B gd r a c X) (hk : k < r.d.length) (hX : X.length = r.d.length) :
    (∃ u0 u1 u2, w.cell? ⟨gd, k * 3, none⟩ = some u0 ∧ w.cell? ⟨gd, k * 3 + 1, none⟩ = some u1 ∧ w.cell? ⟨gd, k * 3 + 2, none⟩ = some u2) ∧
    w.frozen? ⟨gd, k * 3, none⟩ = false ∧ w.frozen? ⟨gd, k * 3 + 1, none⟩ = false ∧ w.frozen? ⟨gd, k * 3 + 2, none⟩ = false ∧ gd < w.heap.size := by
  obtain ⟨h1, h2, h3, h4, h5⟩ := h
  obtain ⟨x, hx⟩ : ∃ x, X[k]? = some x := ⟨_, List.getElem?_eq_getElem (by omega)⟩
  obtain ⟨c0, c1, c2⟩ := allCells_at hx
  refine ⟨⟨_, _, _, (h3.cellAt (k * 3) (by omega)).trans c0, (h3.cellAt (k * 3 + 1) (by omega)).trans c1, (h3.cellAt (k * 3 + 2) (by omega)).trans c2⟩, ?_⟩
  rcases h3.2 with ⟨hn, _⟩ | ⟨g', cap, cur, hv, hB, hg, _⟩
  · cases hn
  · simp only [Value.slice.injEq, Option.some.injEq, Addr.mk.injEq, and_true, true_and] at hv
    obtain ⟨rfl, _⟩ := hv
    exact ⟨Lib.frozen_of_heap hg _, Lib.frozen_of_heap hg _, Lib.frozen_of_heap hg _, lt_of_heap hg⟩
set_option maxRecDepth 20000 in
set_option maxHeartbeats 4000000 in
theorem ShCopied_any (r : Rv) (a : Option Addr) (c : Nat) (w : World) (hp : PartsAt w w.heap.size a r.d) (hl : r.d.length ≤ 1000000) (ht : ∀ p ∈ r.d, p.t.size ≤ 281474976710656) :
    Calls Try.prog 61 #[.agg #[.int .i64 r.who, .int .i64 r.seq, .slice a r.d.length c]] w fun e w' => ∃ g : Nat, e = .returned (.agg #[.int .i64 r.who, .int .i64 r.seq, .slice (some ⟨g, 0, none⟩) r.d.length r.d.length]) ∧
      w'.ownsRow w.heap.size 138 3 (.slice (some ⟨g, 0, none⟩) r.d.length r.d.length) r.d.length (allCells r.d) ∧ Below w.heap.size w w' := by
  obtain ⟨ip, hip, hp0, hp1, hp2⟩ := info_parts infoPart
  have HP : Hid (PartsAt w w.heap.size a r.d) := hp
  have HT : Hid _ := ht
  have hbb : ip.bytes * r.d.length ≤ 281474976710656 := by rw [hp2]; omega
  obtain ⟨B, hB⟩ : ∃ B, w.heap.size = B := ⟨_, rfl⟩
  have HW : Hid (w.heap.size = B) := hB
  have H0 : Hid (((w.alloc (.cells #[.int .i64 r.who, .int .i64 r.seq, .slice a r.d.length c] 40)).alloc (.cells #[.int .i64 0, .int .i64 0, .slice none 0 0] 40)).heap[B]? = some (.cells #[.int .i64 r.who, .int .i64 r.seq, .slice a r.d.length c] 40 (0, 0)) ∧ ((w.alloc (.cells #[.int .i64 r.who, .int .i64 r.seq, .slice a r.d.length c] 40)).alloc (.cells #[.int .i64 0, .int .i64 0, .slice none 0 0] 40)).heap[B + 1]? = some (.cells #[.int .i64 0, .int .i64 0, .slice none 0 0] 40 (0, 0)) ∧
      Below B w ((w.alloc (.cells #[.int .i64 r.who, .int .i64 r.seq, .slice a r.d.length c] 40)).alloc (.cells #[.int .i64 0, .int .i64 0, .slice none 0 0] 40)) ∧ ((w.alloc (.cells #[.int .i64 r.who, .int .i64 r.seq, .slice a r.d.length c] 40)).alloc (.cells #[.int .i64 0, .int .i64 0, .slice none 0 0] 40)).heap.size = B + 1 + 1) := by
    rw [← hB]
    exact ⟨heap_alloc2_old w _ _, heap_alloc2_new w _ _, ((Below.refl _ w).alloc (Nat.le_refl _) _).alloc (by simp) _, by simp⟩
  clear hp ht
  go_enter Try.func61, Try.ntmps61
  go_upto_region 1 with fail
  generalize (w.alloc (.cells #[.int .i64 r.who, .int .i64 r.seq, .slice a r.d.length c] 40)).alloc (.cells #[.int .i64 0, .int .i64 0, .slice none 0 0] 40) = w0 at H0 ⊢
  have c0 := Lib.cell_of_heap H0.out.1 0
  have c1 := Lib.cell_of_heap H0.out.1 1
  have c2 := Lib.cell_of_heap H0.out.1 2
  have hl0 := lt_of_heap H0.out.1
  clear hB
  go_wp2_with (at_make; refine wpList_make_full _ rfl _ _ 38 rfl B 138 ip _ 3 Try.underlying38 hip hp0 hp1 .i64 .i64 _ _ r.d.length rfl rfl ?m1 ?m2 hbb ?m3 (by omega) ?_)
  case m1 => go_num
  case m2 => go_num
  case m3 => unfold maxLen; omega
  intro w1 hown hgrow
  have HC1 : Hid (CpIs w w1 B w0.heap.size r a c (List.replicate r.d.length ptZ)) := by
    have hb : Below w0.heap.size w0 w1 := (Below.refl _ w0).grown hgrow (Nat.le_refl _) (fun k hk => by simp at hk)
    refine ⟨(hb.block _ (lt_of_heap H0.out.1)).trans H0.out.1, (hb.block _ (lt_of_heap H0.out.2.1)).trans H0.out.2.1, ?_, H0.out.2.2.1.trans (hb.mono (by omega)), by have := H0.out.2.2.2; omega⟩
    rw [← allCells_zero]
    simpa [Value.cells] using hown
  clear hown hgrow c0 c1 c2
  obtain ⟨gd, hgd⟩ : ∃ gd, w0.heap.size = gd := ⟨_, rfl⟩
  rw [hgd] at HC1 ⊢
  clear hgd hl0
  have c2 := Lib.cell_of_heap HC1.out.1 2
  have hl0 := lt_of_heap HC1.out.1
  go_wp2_with fail
  clear c2 hl0
  go_loopw [13] (fun i wr => ∃ (k : Nat) (X : List Pt), k ≤ r.d.length ∧ i = .int .i64 (k : Int) ∧ X.length = r.d.length ∧ X.take k = r.d.take k ∧ CpIs w wr B gd r a c X) (fun i _ => r.d.length - (intOf i).toNat)
  case atStart => exact ⟨0, _, Nat.zero_le _, rfl, List.length_replicate, rfl, HC1.out⟩
  case round =>
    rename World => wr
    obtain ⟨k, X, hk, rfl, hX, htk, hc⟩ := hrel
    have HC : Hid (CpIs w wr B gd r a c X) := hc
    have HX : Hid (X.length = r.d.length ∧ X.take k = r.d.take k) := ⟨hX, htk⟩
    clear hX htk hc
    by_cases hlt : k < r.d.length
    · obtain ⟨p, hpk⟩ : ∃ p, r.d[k]? = some p := ⟨_, List.getElem?_eq_getElem hlt⟩
      have HPw : Hid (PartsAt wr w.heap.size a r.d) := HP.out.below HC.out.2.2.2.1 (by rw [HW.out]; exact Nat.le_refl _)
      obtain ⟨b, off, rfl, hbl, c0, c1, c2⟩ := HPw.out.mem hpk
      have HPk : Hid (r.d[k]? = some p) := hpk
      have hpt := HT.out p (List.mem_of_getElem? hpk)
      have HCl : Hid _ := fun w => Clone_any p.t w hpt
      have hz := HC.out.2.2.2.1.size
      have hbw : b < wr.heap.size := by omega
      have hki : (k : Int) < (r.d.length : Int) := by omega
      have hb1 : Below wr.heap.size wr (wr.alloc (.cells #[.int .i64 p.k, .int .i64 p.n, .string p.t] 138)) := (Below.refl _ wr).alloc (Nat.le_refl _) _
      have HC2 : Hid (CpIs w (wr.alloc (.cells #[.int .i64 p.k, .int .i64 p.n, .string p.t] 138)) B gd r (some ⟨b, off, none⟩) c X) := HC.out.below hb1
      have HN2 : Hid ((wr.alloc (.cells #[.int .i64 p.k, .int .i64 p.n, .string p.t] 138)).heap[wr.heap.size]? = some (.cells #[.int .i64 p.k, .int .i64 p.n, .string p.t] 138 (0, 0))) := heap_alloc_new wr _
      clear hpk hpt hb1
      go_wp2_with fail
      refine (HCl.out _).mono ?_
      rintro e w2 ⟨rfl, hb2⟩
      have HC3 : Hid (CpIs w w2 B gd r (some ⟨b, off, none⟩) c X) := HC2.out.below hb2
      have HN3 : Hid (w2.heap[wr.heap.size]? = some (.cells #[.int .i64 p.k, .int .i64 p.n, .string p.t] 138 (0, 0))) := (hb2.block _ (lt_of_heap HN2.out)).trans HN2.out
      clear hb2 c0 c1 c2
      obtain ⟨N, hN⟩ : ∃ N, wr.heap.size = N := ⟨_, rfl⟩
      have HGN : Hid (gd < N) := by have := (HC.out.cells hlt HX.out.1).2.2.2.2; show gd < N; omega
      rw [hN] at HN3 ⊢
      have d0 := Lib.cell_of_heap HN3.out 0
      have d1 := Lib.cell_of_heap HN3.out 1
      have d2 := Lib.cell_of_heap HN3.out 2
      have f2 := Lib.frozen_of_heap HN3.out 2
      have HC4 : Hid (CpIs w (w2.setCell ⟨N, 2, none⟩ (.string p.t)) B gd r (some ⟨b, off, none⟩) c X) := HC3.out.other HGN.out _
      have HN4 : Hid ((w2.setCell ⟨N, 2, none⟩ (.string p.t)).heap[N]? = some (.cells #[.int .i64 p.k, .int .i64 p.n, .string p.t] 138 (0, 0))) := heap_setCell_same w2 N 2 _ _ _ HN3.out
      clear hz hbw hbl hN
      go_upto_region 6 with fail
      generalize w2.setCell ⟨N, 2, none⟩ (.string p.t) = w3 at HC4 HN4 ⊢
      clear d0 d1 d2 f2
      have d0 := Lib.cell_of_heap HN4.out 0
      have d1 := Lib.cell_of_heap HN4.out 1
      have d2 := Lib.cell_of_heap HN4.out 2
      obtain ⟨⟨u0, u1, u2, e0, e1, e2⟩, g0, g1, g2, hgl⟩ := HC4.out.cells hlt HX.out.1
      have hk0 : (0 : Int) ≤ (k : Int) := by omega
      have HF : Hid _ := HC4.out.put p (by rw [HX.out.1]; exact hlt) HX.out.1
      go_wp2_with fail
      go_roundw
      case rel =>
        refine ⟨k + 1, X.set k p, hlt, by go_num, by rw [List.length_set]; exact HX.out.1, ?_, HF.out⟩
        rw [List.take_add_one, List.take_add_one, List.take_set_of_le (Nat.le_refl _), HX.out.2, List.getElem?_set_self (by rw [HX.out.1]; exact hlt), HPk.out]
      case measure => simp [intOf]; omega
    · have hkn : k = r.d.length := by omega
      have hki : ¬ (k : Int) < (r.d.length : Int) := by omega
      have HXe : Hid (X = r.d) := by
        have h := HX.out.2
        have hl := HX.out.1
        rw [List.take_of_length_le (by omega), List.take_of_length_le (by omega)] at h
        exact h
      have d0 := Lib.cell_of_heap HC.out.1 0
      have d1 := Lib.cell_of_heap HC.out.1 1
      have d2 := Lib.cell_of_heap HC.out.1 2
      have f2 := Lib.frozen_of_heap HC.out.1 2
      have b0 := Lib.cell_of_heap HC.out.2.1 0
      have b1 := Lib.cell_of_heap HC.out.2.1 1
      have b2 := Lib.cell_of_heap HC.out.2.1 2
      have g0 := Lib.frozen_of_heap HC.out.2.1 0
      have g1 := Lib.frozen_of_heap HC.out.2.1 1
      have g2 := Lib.frozen_of_heap HC.out.2.1 2
      have hlB := lt_of_heap HC.out.1
      clear hkn hlt
      go_wp2_with fail
      refine bodyPost_ret (v := .agg #[.int .i64 r.who, .int .i64 r.seq, .slice (some ⟨gd, 0, none⟩) r.d.length r.d.length]) (by simp [results, Try.results61, go_sem, *]) rfl ⟨gd, rfl, ?_, ?_⟩
      · rw [HW.out]
        have h3 := HC.out.2.2.1
        have h5 := HC.out.2.2.2.2
        rw [HXe.out] at h3
        have k1 : ∀ (N i : Nat) (v : Value) (w : World), N < gd → w.ownsRow B 138 3 (.slice (some ⟨gd, 0, none⟩) r.d.length r.d.length) r.d.length (allCells r.d) → (w.setCell ⟨N, i, none⟩ v).ownsRow B 138 3 (.slice (some ⟨gd, 0, none⟩) r.d.length r.d.length) r.d.length (allCells r.d) := fun N i v w hN h =>
          h.kept ((Aside.refl N w).put i v) (.inr (by show some gd ≠ some N; intro e; have := Option.some.inj e; omega))
        exact k1 _ _ _ _ (by omega) (k1 _ _ _ _ (by omega) (k1 _ _ _ _ (by omega) (k1 _ _ _ _ (by omega) h3)))
      · rw [HW.out]
        exact (((HC.out.2.2.2.1.setCell (p := ⟨B, 2, none⟩) (Nat.le_refl _) _).setCell (p := ⟨B + 1, 0, none⟩) (by simp) _).setCell (p := ⟨B + 1, 1, none⟩) (by simp) _).setCell (p := ⟨B + 1, 2, none⟩) (by simp) _
end Go.Proofs.Ytgffippimmokiaa

/- What an archive tells: Base, Head, Safe, Last, Text. -/
namespace Go.Proofs.Ytgffippimmokiaa
open Go.RowKit
set_option linter.unusedSimpArgs false
set_option linter.unusedVariables false

theorem ShBase_any (S : Sh) (g : Nat) (w : World) (h : ShIs w g S) :
    Calls Try.prog 20 #[.pointer (some ⟨g, 0, none⟩)] w fun e w' => e = .returned (.int .i64 S.log.base) ∧ Below w.heap.size w w' := by
  obtain ⟨v, xs, h⟩ := h
  obtain ⟨_, ⟨_, c6, _⟩, _⟩ := h.cells
  clear h
  go_enter Try.func20, Try.ntmps20
  go_wp2_with fail
  go_ret
  exact ⟨rfl, Below.refl _ _⟩
theorem ShSafe_any (S : Sh) (g : Nat) (w : World) (h : ShIs w g S) :
    Calls Try.prog 21 #[.pointer (some ⟨g, 0, none⟩)] w fun e w' => e = .returned (.int .i64 S.safe) ∧ Below w.heap.size w w' := by
  obtain ⟨v, xs, h⟩ := h
  obtain ⟨_, _, c43, _⟩ := h.cells
  clear h
  go_enter Try.func21, Try.ntmps21
  go_wp2_with fail
  go_ret
  exact ⟨rfl, Below.refl _ _⟩
/-- the number of the last revision -/
def headN (S : Sh) : Nat := S.log.base + S.log.revs.length
theorem ShHead_any (S : Sh) (g : Nat) (w : World) (h : ShIs w g S) (h64 : S.log.revs.length ≤ 64) (hb : headN S ≤ 2147483647) :
    Calls Try.prog 14 #[.pointer (some ⟨g, 0, none⟩)] w fun e w' => e = .returned (.int .i64 (headN S : Nat)) ∧ Below w.heap.size w w' := by
  obtain ⟨v, xs, h⟩ := h
  obtain ⟨a, c, rfl, _, _⟩ := h.revsAt h64
  obtain ⟨_, ⟨_, c6, _, c40⟩, _⟩ := h.cells
  obtain ⟨n, hn⟩ : ∃ n : Nat, headN S = n := ⟨_, rfl⟩
  have HN : Hid (headN S = n) := hn
  have hw : IntKind.i64.wrap ((S.log.base : Int) + (S.log.revs.length : Int)) = (n : Int) := by
    unfold headN at hn hb
    rw [IntWalk.i64_in _ ⟨by omega, by omega⟩]; omega
  rw [hn]
  clear h hn hb
  go_enter Try.func14, Try.ntmps14
  go_wp2_with fail
  go_quiet (fail)
  go_wp2_with fail
  go_ret
  exact ⟨rfl, below_drewN (Below.refl _ w) _⟩
/-- what is wrong with r as a revision whose text can be told -/
def hasE (S : Sh) (r : Int) : Int := if r < S.log.base then 9 else if headN S < r then 8 else 0
theorem has_zero {S : Sh} {r : Int} (h : hasE S r = 0) : ∃ k : Nat, r = ((S.log.base + k : Nat) : Int) ∧ k ≤ S.log.revs.length := by
  unfold hasE headN at h
  split at h
  · omega
  · split at h
    · omega
    · exact ⟨(r - S.log.base).toNat, by omega, by omega⟩
theorem ShHas_any (S : Sh) (r : Int) (g : Nat) (w : World) (h : ShIs w g S) (h64 : S.log.revs.length ≤ 64) (hb : headN S ≤ 2147483647) :
    Calls Try.prog 50 #[.pointer (some ⟨g, 0, none⟩), .int .i64 r] w fun e w' => e = .returned (.int .i64 (hasE S r)) ∧ Below w.heap.size w w' := by
  have HS : Hid (ShIs w g S) := h
  have HB : Hid _ := fun w h => ShBase_any S g w h
  have HH : Hid _ := fun w h => ShHead_any S g w h h64 hb
  obtain ⟨n, hn⟩ : ∃ n : Nat, headN S = n := ⟨_, rfl⟩
  obtain ⟨b, hb2⟩ : ∃ b : Nat, S.log.base = b := ⟨_, rfl⟩
  have HE : Hid (hasE S r = if r < b then 9 else if n < r then 8 else 0) := by show _ = _; rw [hasE, hn, hb2]
  rw [hn] at HH
  rw [hb2] at HB
  clear hn hb2 h hb
  go_enter Try.func50, Try.ntmps50
  go_wp2_with fail
  refine (HB.out _ HS.out).mono ?_
  rintro e w1 ⟨rfl, hb1⟩
  have HS1 : Hid (ShIs w1 g S) := HS.out.below hb1
  have HB1 : Hid (Below w.heap.size w w1) := hb1
  clear hb1
  by_cases h1 : r < b
  · have HR : Hid (hasE S r = 9) := by show _ = _; rw [HE.out, if_pos h1]
    go_wp2_with fail
    go_ret
    exact ⟨dret HR.out.symm, HB1.out⟩
  · go_wp2_with fail
    refine (HH.out _ HS1.out).mono ?_
    rintro e w2 ⟨rfl, hb2⟩
    have HB2 : Hid (Below w.heap.size w w2) := HB1.out.trans (hb2.mono HB1.out.size)
    clear hb2
    by_cases h2 : (n : Int) < r
    · have HR : Hid (hasE S r = 8) := by show _ = _; rw [HE.out, if_neg (by omega), if_pos h2]
      go_wp2_with fail
      go_ret
      exact ⟨dret HR.out.symm, HB2.out⟩
    · have HR : Hid (hasE S r = 0) := by show _ = _; rw [HE.out, if_neg (by omega), if_neg h2]
      go_wp2_with fail
      go_ret
      exact ⟨dret HR.out.symm, HB2.out⟩
theorem ShOf.txt {w w' : World} {g : Nat} {S : Sh} {v : Value} {xs : List (Rv × Option Addr × Nat)} (h : ShOf w g S v xs) (hb : Below w.heap.size w w') :
    w'.cell? ⟨g, 7, none⟩ = some (.string ⟨S.log.text.toArray⟩) ∧ w'.cell? ⟨g, 40, none⟩ = some v ∧ w'.cell? ⟨g, 6, none⟩ = some (.int .i64 S.log.base) := by
  obtain ⟨_, ⟨_, c6, c7, c40⟩, _⟩ := (h.below hb).cells
  exact ⟨c7, c40, c6⟩
/-- the text at a revision, and what is wrong with it -/
def shTextR (S : Sh) (r : Int) : List UInt8 := if hasE S r = 0 then textAt S.log.text S.log.revs (r - S.log.base).toNat else []
theorem shTextR_ok {S : Sh} {k : Nat} (hk : k ≤ S.log.revs.length) : shTextR S ((S.log.base + k : Nat) : Int) = textAt S.log.text S.log.revs k ∧ hasE S ((S.log.base + k : Nat) : Int) = 0 := by
  have h : hasE S ((S.log.base + k : Nat) : Int) = 0 := by unfold hasE headN; rw [if_neg (by omega), if_neg (by omega)]
  exact ⟨by rw [shTextR, if_pos h, show (((S.log.base + k : Nat) : Int) - S.log.base).toNat = k by omega], h⟩
set_option maxRecDepth 20000 in
set_option maxHeartbeats 2000000 in
theorem ShText_any (S : Sh) (r : Int) (g : Nat) (w : World) (h : ShIs w g S) (ok : ∃ n, LOk S.log n) :
    Calls Try.prog 18 #[.pointer (some ⟨g, 0, none⟩), .int .i64 r] w fun e w' => e = .returned (.tuple #[.string ⟨(shTextR S r).toArray⟩, .int .i64 (hasE S r)]) ∧ Below w.heap.size w w' := by
  obtain ⟨n, ok⟩ := ok
  have h64 := ok.revs
  have hend : headN S ≤ 2147483647 := ok.ends
  have HS : Hid (ShIs w g S) := h
  have HH : Hid _ := fun w h => ShHas_any S r g w h h64 hend
  by_cases h0 : hasE S r = 0
  · obtain ⟨k, rfl, hk⟩ := has_zero h0
    have hck : checkE S.log.text S.log.revs = 0 := by rw [checkE, if_neg (by have := ok.text; omega)]; exact ok.hist
    obtain ⟨t1, t2⟩ := textE_ok hck hk
    have HT0 := fun w a c hl hc => Text_any ⟨S.log.text.toArray⟩ a S.log.revs c (k : Int) w hl hc (by show S.log.text.toArray.size ≤ _; rw [List.size_toArray]; have := ok.text; omega)
    have HT : Hid (∀ (w : World) (a : Option Addr) (c : Nat), RevsAt w w.heap.size a S.log.revs → S.log.revs.length ≤ c → Calls Try.prog 33 #[.string ⟨S.log.text.toArray⟩, .slice a S.log.revs.length c, .int .i64 (k : Int)] w fun e w' => e = .returned (.tuple #[.string ⟨(textAt S.log.text S.log.revs k).toArray⟩, .int .i64 0]) ∧ Below w.heap.size w w') := by
      intro w a c hl hc
      have h2 := HT0 w a c hl hc
      rw [show (⟨S.log.text.toArray⟩ : ByteArray).data.toList = S.log.text from rfl, t1, t2] at h2
      exact h2
    rw [(shTextR_ok hk).1]
    rw [h0] at HH ⊢
    obtain ⟨t, ht⟩ : ∃ t, textAt S.log.text S.log.revs k = t := ⟨_, rfl⟩
    rw [ht] at HT ⊢
    obtain ⟨m, hm⟩ : ∃ m : Int, ((S.log.base + k : Nat) : Int) = m := ⟨_, rfl⟩
    rw [hm] at HH ⊢
    have hw : IntKind.i64.wrap (m - (S.log.base : Int)) = (k : Int) := by
      have := ok.ends
      rw [IntWalk.i64_in _ ⟨by omega, by omega⟩]; omega
    clear HT0 t1 t2 ht h0 hck hend hm h n ok
    go_enter Try.func18, Try.ntmps18
    go_wp2_with fail
    refine (HH.out _ HS.out).mono ?_
    rintro e w1 ⟨rfl, hb1⟩
    obtain ⟨v, xs, hof⟩ := HS.out.below hb1
    obtain ⟨a, c, rfl, hc, hl⟩ := hof.revsAt h64
    obtain ⟨d7, d40, d6⟩ := hof.txt (Below.refl _ w1)
    have hgl := hof.1.lt
    have HO : Hid (ShOf w1 g S (.slice a S.log.revs.length c) xs) := hof
    have HL : Hid (RevsAt w1 w1.heap.size a S.log.revs ∧ S.log.revs.length ≤ c) := ⟨hl, hc⟩
    have HB1 : Hid (Below w.heap.size w w1) := hb1
    clear hof hl hc hb1
    go_wp2_with fail
    go_region_held3 (fun w' => w'.cell? ⟨g, 7, none⟩ = some (.string ⟨S.log.text.toArray⟩) ∧ w'.cell? ⟨g, 40, none⟩ = some (.slice a S.log.revs.length c) ∧ w'.cell? ⟨g, 6, none⟩ = some (.int .i64 S.log.base)) (first | go_keep | exact HO.out.txt (((Below.refl w1.heap.size w1).drew).trans hb3)) (first | (go_at_call 33; refine (HT.out _ _ _ (HL.out.1.here (Below.refl w1.heap.size w1).drew (Nat.le_refl _)) HL.out.2).mono ?_; rintro e w3 ⟨rfl, hb3⟩))
    all_goals
      have HB3 : Hid (Below w.heap.size w w3) := (HB1.out.drew).trans (hb3.mono HB1.out.size)
      clear hb3
      go_wp2_with fail
      go_ret2
      exact ⟨rfl, HB3.out⟩
  · have hq : (hasE S r != 0) = true := by simp [h0]
    have HR : Hid (shTextR S r = []) := by show _ = _; rw [shTextR, if_neg h0]
    rw [HR.out]
    clear h0 hend h ok
    go_enter Try.func18, Try.ntmps18
    go_wp2_with fail
    refine (HH.out _ HS.out).mono ?_
    rintro e w1 ⟨rfl, hb1⟩
    have HB1 : Hid (Below w.heap.size w w1) := hb1
    clear hb1
    go_wp2_with fail
    go_ret2
    exact ⟨rfl, HB1.out⟩
end Go.Proofs.Ytgffippimmokiaa

/- What an archive tells: Last, Disk. -/
namespace Go.Proofs.Ytgffippimmokiaa
open Go.RowKit
set_option linter.unusedSimpArgs false
set_option linter.unusedVariables false

/-- a hand's last number, and which revision that was -/
def lastP (t : List Int) (who : Int) : Int := if who < 0 ∨ 7 < who then 0 else t[2 * who.toNat]?.getD 0
def lastQ (t : List Int) (who : Int) : Int := if who < 0 ∨ 7 < who then 0 else t[2 * who.toNat + 1]?.getD 0
def lastE (who : Int) : Int := if who < 0 ∨ 7 < who then 1 else 0
set_option maxRecDepth 20000 in
set_option maxHeartbeats 1000000 in
theorem ShLast_any (S : Sh) (who : Int) (g : Nat) (w : World) (h : ShIs w g S) :
    Calls Try.prog 44 #[.pointer (some ⟨g, 0, none⟩), .int .i64 who] w fun e w' => e = .returned (.tuple #[.agg #[.int .i64 (lastP S.log.table who), .int .i64 (lastQ S.log.table who)], .int .i64 (lastE who)]) ∧ Below w.heap.size w w' := by
  by_cases hw : who < 0 ∨ 7 < who
  · rw [lastP, lastQ, lastE, if_pos hw, if_pos hw, if_pos hw]
    clear h
    by_cases h0 : who < 0
    · clear hw
      go_enter Try.func44, Try.ntmps44
      go_wp2_with fail
      refine bodyPost_ret (v := .tuple #[.agg #[.int .i64 0, .int .i64 0], .int .i64 1]) (by simp [results, Try.results44, go_sem, *]) rfl ⟨rfl, ?_⟩
      exact (Below.refl _ w).alloc (Nat.le_refl _) _
    · have h7 : 7 < who := by omega
      clear hw
      go_enter Try.func44, Try.ntmps44
      go_wp2_with fail
      refine bodyPost_ret (v := .tuple #[.agg #[.int .i64 0, .int .i64 0], .int .i64 1]) (by simp [results, Try.results44, go_sem, *]) rfl ⟨rfl, ?_⟩
      exact (Below.refl _ w).alloc (Nat.le_refl _) _
  · obtain ⟨k, rfl⟩ : ∃ k : Nat, who = k := ⟨who.toNat, by omega⟩
    obtain ⟨v, xs, h⟩ := h
    have hT := h.2.2.2.2
    obtain ⟨p, hp⟩ : ∃ p, S.log.table[k * 2]? = some p := ⟨_, List.getElem?_eq_getElem (by omega)⟩
    obtain ⟨q, hq⟩ : ∃ q, S.log.table[k * 2 + 1]? = some q := ⟨_, List.getElem?_eq_getElem (by omega)⟩
    have hb : Below w.heap.size w (w.alloc (.cells #[.int .i64 0, .int .i64 0] 79)) := (Below.refl _ w).alloc (Nat.le_refl _) _
    have c1 := (h.below hb).table hp
    have c2 := (h.below hb).table hq
    rw [show 24 + (k * 2 + 1) = 24 + k * 2 + 1 by omega] at c2
    rw [lastP, lastQ, lastE, if_neg hw, if_neg hw, if_neg hw, Int.toNat_natCast, Nat.mul_comm 2 k, hp, hq]
    have g1 : (0 : Int) ≤ (k : Int) := by omega
    have g2 : (k : Int) < 8 := by omega
    have g3 : ¬ (k : Int) < 0 := by omega
    have g4 : ¬ 7 < (k : Int) := by omega
    have hz : (w.alloc (.cells #[.int .i64 0, .int .i64 0] 79)).heap.size = w.heap.size + 1 := by simp
    have hA : (w.alloc (.cells #[.int .i64 0, .int .i64 0] 79)).heap[w.heap.size]? = some (.cells #[.int .i64 0, .int .i64 0] 79 (0, 0)) := heap_alloc_new w _
    have a0 := Lib.cell_of_heap hA 0
    have a1 := Lib.cell_of_heap hA 1
    have f0 := Lib.frozen_of_heap hA 0
    have f1 := Lib.frozen_of_heap hA 1
    have hgl := h.1.lt
    have HB : Hid _ := hb
    clear h hT hp hq hw hA hb
    go_enter Try.func44, Try.ntmps44
    go_wp2_with fail
    refine bodyPost_ret (v := .tuple #[.agg #[.int .i64 p, .int .i64 q], .int .i64 0]) (by simp [results, Try.results44, go_sem, *]) rfl ⟨rfl, ?_⟩
    exact (Below.refl _ w).alloc (Nat.le_refl _) _
theorem dk_two2 (w : World) (a : ByteArray) (x : Int) (b : ByteArray) (y : Int) : DkAt ((w.alloc (.cells #[.string ⟨#[]⟩, .int .i64 0, .string ⟨#[]⟩, .int .i64 0] 26)).alloc (.cells #[.string a, .int .i64 x, .string b, .int .i64 y] 26)) (w.heap.size + 1) a x b y ∧ DkAt ((w.alloc (.cells #[.string ⟨#[]⟩, .int .i64 0, .string ⟨#[]⟩, .int .i64 0] 26)).alloc (.cells #[.string a, .int .i64 x, .string b, .int .i64 y] 26)) w.heap.size ⟨#[]⟩ 0 ⟨#[]⟩ 0 ∧ Below w.heap.size w ((w.alloc (.cells #[.string ⟨#[]⟩, .int .i64 0, .string ⟨#[]⟩, .int .i64 0] 26)).alloc (.cells #[.string a, .int .i64 x, .string b, .int .i64 y] 26)) :=
  ⟨heap_alloc2_new w _ _, heap_alloc2_old w _ _, ((Below.refl _ w).alloc (Nat.le_refl _) _).alloc (by simp) _⟩
set_option maxRecDepth 20000 in
set_option maxHeartbeats 1000000 in
theorem ShDisk_any (S : Sh) (g : Nat) (w : World) (h : ShIs w g S) (ha : S.p0.size ≤ 281474976710656) (hb : S.p1.size ≤ 281474976710656) :
    Calls Try.prog 25 #[.pointer (some ⟨g, 0, none⟩)] w fun e w' => e = .returned (dkV S.p0 S.x0 S.p1 S.x1) ∧ Below w.heap.size w w' := by
  obtain ⟨v, xs, h⟩ := h
  obtain ⟨⟨c0, c1, c2, c3, _⟩, _⟩ := (h.below ((Below.refl _ w).alloc (Nat.le_refl _) (.cells #[.string ⟨#[]⟩, .int .i64 0, .string ⟨#[]⟩, .int .i64 0] 26))).cells
  have hgl := h.1.lt
  clear h
  generalize S.p0 = a at *
  generalize S.x0 = x at *
  generalize S.p1 = b at *
  generalize S.x1 = y at *
  have HA : Hid _ := fun w => Clone_any a w ha
  have HB : Hid _ := fun w => Clone_any b w hb
  have HT : Hid _ := dk_two2 w a x b y
  go_enter Try.func25, Try.ntmps25
  go_wp2_with fail
  generalize (w.alloc (.cells #[.string ⟨#[]⟩, .int .i64 0, .string ⟨#[]⟩, .int .i64 0] 26)).alloc (.cells #[.string a, .int .i64 x, .string b, .int .i64 y] 26) = W at HT ⊢
  obtain ⟨B, hB⟩ : ∃ B, w.heap.size = B := ⟨_, rfl⟩
  rw [hB] at HT ⊢
  have HW : Hid (w.heap.size = B) := hB
  clear hB c0 c1 c2 c3
  go_loopw [9] (fun i wr => (∃ k : Nat, k ≤ 2 ∧ i = .int .i64 k) ∧ DkAt wr (B + 1) a x b y ∧ DkAt wr B ⟨#[]⟩ 0 ⟨#[]⟩ 0 ∧ Below B w wr) (fun i _ => 2 - (intOf i).toNat)
  case atStart => exact ⟨⟨0, by omega, rfl⟩, HT.out⟩
  case round =>
    rename World => wr
    obtain ⟨⟨k, hk, rfl⟩, hd, hr, hbw⟩ := hrel
    have hk3 : k = 0 ∨ k = 1 ∨ k = 2 := by omega
    have HD : Hid (DkAt wr (B + 1) a x b y) := hd
    have HR : Hid (DkAt wr B ⟨#[]⟩ 0 ⟨#[]⟩ 0) := hr
    have HBw : Hid (Below B w wr) := hbw
    have hz := hd.lt
    have HW := HW
    clear hk hd hr hbw
    obtain ⟨c0, c1, c2, c3⟩ := HD.out.cells
    rcases hk3 with rfl | rfl | rfl
    · go_wp2_with fail
      refine (HA.out _).mono ?_
      rintro e w1 ⟨rfl, hb1⟩
      have HD1 : Hid (DkAt w1 (B + 1) a x b y) := HD.out.below hb1 hz
      have HR1 : Hid (DkAt w1 B ⟨#[]⟩ 0 ⟨#[]⟩ 0) := HR.out.below hb1 (by omega)
      have HB1 : Hid (Below B w w1) := HBw.out.trans (hb1.mono (by omega))
      have hz1 := HD1.out.lt
      clear hb1 c0 c1 c2 c3
      obtain ⟨f0, f1, f2, f3⟩ := HD1.out.free
      obtain ⟨c0, c1, c2, c3⟩ := HD1.out.cells
      go_wp2_with fail
      go_roundw
      case rel => exact ⟨⟨1, by omega, rfl⟩, HD1.out.put0 a, HR1.out.other _ (by simp), HB1.out.setCell (p := ⟨B + 1, 0, none⟩) (by simp) _⟩
      case measure => simp [intOf]
    · go_wp2_with fail
      refine (HB.out _).mono ?_
      rintro e w1 ⟨rfl, hb1⟩
      have HD1 : Hid (DkAt w1 (B + 1) a x b y) := HD.out.below hb1 hz
      have HR1 : Hid (DkAt w1 B ⟨#[]⟩ 0 ⟨#[]⟩ 0) := HR.out.below hb1 (by omega)
      have HB1 : Hid (Below B w w1) := HBw.out.trans (hb1.mono (by omega))
      have hz1 := HD1.out.lt
      clear hb1 c0 c1 c2 c3
      obtain ⟨f0, f1, f2, f3⟩ := HD1.out.free
      obtain ⟨c0, c1, c2, c3⟩ := HD1.out.cells
      go_wp2_with fail
      go_roundw
      case rel => exact ⟨⟨2, by omega, rfl⟩, HD1.out.put2 b, HR1.out.other _ (by simp), HB1.out.setCell (p := ⟨B + 1, 2, none⟩) (by simp) _⟩
      case measure => simp [intOf]
    · obtain ⟨f0, f1, f2, f3⟩ := HR.out.free
      obtain ⟨d0, d1, d2, d3⟩ := HR.out.cells
      go_wp2_with fail
      refine bodyPost_ret (v := dkV a x b y) (by simp [results, Try.results25, go_sem, *]) rfl ⟨rfl, ?_⟩
      rw [HW.out]
      exact (((HBw.out.setCell (p := ⟨B, 0, none⟩) (Nat.le_refl _) _).setCell (p := ⟨B, 1, none⟩) (Nat.le_refl _) _).setCell (p := ⟨B, 2, none⟩) (Nat.le_refl _) _).setCell (p := ⟨B, 3, none⟩) (Nat.le_refl _) _
end Go.Proofs.Ytgffippimmokiaa

/- What is done to an archive's slots. -/
namespace Go.Proofs.Ytgffippimmokiaa
open Go.RowKit
set_option linter.unusedSimpArgs false
set_option linter.unusedVariables false

/-- an archive with other slots -/
def Sh.disk (S : Sh) (c : ByteArray) (x : Int) (o : ByteArray) (y : Int) : Sh := { S with c := c, x := x, o := o, y := y }
theorem ShOf.disk {w : World} {g : Nat} {S : Sh} {v : Value} {xs : List (Rv × Option Addr × Nat)} (h : ShOf w g S v xs) (c : ByteArray) (x : Int) (o : ByteArray) (y : Int) :
    ShOf ((((w.setCell ⟨g, 0, none⟩ (.string (S.disk c x o y).p0)).setCell ⟨g, 1, none⟩ (.int .i64 (S.disk c x o y).x0)).setCell ⟨g, 2, none⟩ (.string (S.disk c x o y).p1)).setCell ⟨g, 3, none⟩ (.int .i64 (S.disk c x o y).x1)) g (S.disk c x o y) v xs ∧
    Aside g w ((((w.setCell ⟨g, 0, none⟩ (.string (S.disk c x o y).p0)).setCell ⟨g, 1, none⟩ (.int .i64 (S.disk c x o y).x0)).setCell ⟨g, 2, none⟩ (.string (S.disk c x o y).p1)).setCell ⟨g, 3, none⟩ (.int .i64 (S.disk c x o y).x1)) := by
  have ha := ((((Aside.refl g w).put 0 (.string (S.disk c x o y).p0)).put 1 (.int .i64 (S.disk c x o y).x0)).put 2 (.string (S.disk c x o y).p1)).put 3 (.int .i64 (S.disk c x o y).x1)
  exact ⟨h.revs ha ((((h.1.put 0 _).put 1 _).put 2 _).put 3 _) rfl h.2.2.2.1 h.2.2.2.2, ha⟩
/-- the cells of the slots, and that they may be written -/
theorem ShOf.slots {w : World} {g : Nat} {S : Sh} {v : Value} {xs : List (Rv × Option Addr × Nat)} (h : ShOf w g S v xs) :
    (w.cell? ⟨g, 0, none⟩ = some (.string S.p0) ∧ w.cell? ⟨g, 1, none⟩ = some (.int .i64 S.x0) ∧ w.cell? ⟨g, 2, none⟩ = some (.string S.p1) ∧ w.cell? ⟨g, 3, none⟩ = some (.int .i64 S.x1)) ∧
    w.frozen? ⟨g, 0, none⟩ = false ∧ w.frozen? ⟨g, 1, none⟩ = false ∧ w.frozen? ⟨g, 2, none⟩ = false ∧ w.frozen? ⟨g, 3, none⟩ = false := by
  obtain ⟨⟨c0, c1, c2, c3, _⟩, _⟩ := h.cells
  exact ⟨⟨c0, c1, c2, c3⟩, h.1.free 0, h.1.free 1, h.1.free 2, h.1.free 3⟩
set_option maxRecDepth 20000 in
set_option maxHeartbeats 1000000 in
theorem ShSay_of (S : Sh) (c o t : ByteArray) (x y i : Int) (g : Nat) (w : World) {v : Value} {xs : List (Rv × Option Addr × Nat)} (h : ShOf w g S v xs)
    (hA : ∀ w : World, Calls Try.prog 97 #[dkV S.p0 S.x0 S.p1 S.x1, .int .i64 i, .string t] w fun e w' => e = .returned (.tuple #[dkV (S.disk c x o y).p0 (S.disk c x o y).x0 (S.disk c x o y).p1 (S.disk c x o y).x1, .int .i64 0]) ∧ Below w.heap.size w w') :
    Calls Try.prog 59 #[.pointer (some ⟨g, 0, none⟩), .int .i64 i, .string t] w fun e w' => e = .returned (.tuple #[]) ∧ ShOf w' g (S.disk c x o y) v xs ∧ Aside g w w' := by
  have HO : Hid (ShOf w g S v xs) := h
  have HA : Hid _ := hA
  have HD : Hid _ := fun w h => ShOf.disk (w := w) (g := g) (S := S) (v := v) (xs := xs) h c x o y
  obtain ⟨⟨c0, c1, c2, c3⟩, _⟩ := h.slots
  generalize (S.disk c x o y).p0 = p0' at *
  generalize (S.disk c x o y).x0 = x0' at *
  generalize (S.disk c x o y).p1 = p1' at *
  generalize (S.disk c x o y).x1 = x1' at *
  generalize S.disk c x o y = T at *
  generalize S.p0 = a at *
  generalize S.x0 = x at *
  generalize S.p1 = b at *
  generalize S.x1 = y at *
  clear h hA
  go_enter Try.func59, Try.ntmps59
  go_wp2_with fail
  refine (HA.out _).mono ?_
  rintro e w1 ⟨rfl, hb1⟩
  have HO1 : Hid (ShOf w1 g S v xs) := HO.out.below hb1
  have HB1 : Hid (Aside g w w1) := below_aside hb1 g
  obtain ⟨⟨d0, d1, d2, d3⟩, f0, f1, f2, f3⟩ := HO1.out.slots
  clear hb1 c0 c1 c2 c3
  have hD := HD.out w1 HO1.out
  have HD1 : Hid _ := hD
  clear hD
  go_wp2_with fail
  go_end0
  exact ⟨rfl, HD1.out.1, HB1.out.trans HD1.out.2⟩
theorem ShSay_gen (S : Sh) (c o t : ByteArray) (x y i : Int) (g : Nat) (w : World) (h : ShIs w g S)
    (hA : ∀ w : World, Calls Try.prog 97 #[dkV S.p0 S.x0 S.p1 S.x1, .int .i64 i, .string t] w fun e w' => e = .returned (.tuple #[dkV (S.disk c x o y).p0 (S.disk c x o y).x0 (S.disk c x o y).p1 (S.disk c x o y).x1, .int .i64 0]) ∧ Below w.heap.size w w') :
    Calls Try.prog 59 #[.pointer (some ⟨g, 0, none⟩), .int .i64 i, .string t] w fun e w' => e = .returned (.tuple #[]) ∧ ShIs w' g (S.disk c x o y) ∧ Aside g w w' := by
  obtain ⟨v, xs, h⟩ := h
  exact (ShSay_of S c o t x y i g w h hA).mono fun e w' ⟨h1, h2, h3⟩ => ⟨h1, ⟨v, xs, h2⟩, h3⟩
set_option maxRecDepth 20000 in
set_option maxHeartbeats 1000000 in
theorem ShMake_gen (S : Sh) (c o : ByteArray) (x y i : Int) (g : Nat) (w : World) (h : ShIs w g S)
    (hA : ∀ w : World, Calls Try.prog 38 #[dkV S.p0 S.x0 S.p1 S.x1, .int .i64 i] w fun e w' => e = .returned (.tuple #[dkV (S.disk c x o y).p0 (S.disk c x o y).x0 (S.disk c x o y).p1 (S.disk c x o y).x1, .int .i64 0]) ∧ Below w.heap.size w w') :
    Calls Try.prog 65 #[.pointer (some ⟨g, 0, none⟩), .int .i64 i] w fun e w' => e = .returned (.tuple #[]) ∧ ShIs w' g (S.disk c x o y) ∧ Aside g w w' := by
  obtain ⟨v, xs, h⟩ := h
  have HO : Hid (ShOf w g S v xs) := h
  have HA : Hid _ := hA
  have HD : Hid _ := fun w h => ShOf.disk (w := w) (g := g) (S := S) (v := v) (xs := xs) h c x o y
  obtain ⟨⟨c0, c1, c2, c3⟩, _⟩ := h.slots
  generalize (S.disk c x o y).p0 = p0' at *
  generalize (S.disk c x o y).x0 = x0' at *
  generalize (S.disk c x o y).p1 = p1' at *
  generalize (S.disk c x o y).x1 = x1' at *
  generalize S.disk c x o y = T at *
  generalize S.p0 = a at *
  generalize S.x0 = x at *
  generalize S.p1 = b at *
  generalize S.x1 = y at *
  clear h hA
  go_enter Try.func65, Try.ntmps65
  go_wp2_with fail
  refine (HA.out _).mono ?_
  rintro e w1 ⟨rfl, hb1⟩
  have HO1 : Hid (ShOf w1 g S v xs) := HO.out.below hb1
  have HB1 : Hid (Aside g w w1) := below_aside hb1 g
  obtain ⟨⟨d0, d1, d2, d3⟩, f0, f1, f2, f3⟩ := HO1.out.slots
  clear hb1 c0 c1 c2 c3
  have hD := HD.out w1 HO1.out
  have HD1 : Hid _ := hD
  clear hD
  go_wp2_with fail
  go_end0
  exact ⟨rfl, ⟨v, xs, HD1.out.1⟩, HB1.out.trans HD1.out.2⟩
set_option maxRecDepth 20000 in
set_option maxHeartbeats 1000000 in
theorem ShClear_gen (S : Sh) (c o : ByteArray) (x y i : Int) (g : Nat) (w : World) (h : ShIs w g S)
    (hA : ∀ w : World, Calls Try.prog 37 #[dkV S.p0 S.x0 S.p1 S.x1, .int .i64 i, .int .i64 0] w fun e w' => e = .returned (.tuple #[dkV (S.disk c x o y).p0 (S.disk c x o y).x0 (S.disk c x o y).p1 (S.disk c x o y).x1, .int .i64 0]) ∧ Below w.heap.size w w') :
    Calls Try.prog 54 #[.pointer (some ⟨g, 0, none⟩), .int .i64 i] w fun e w' => e = .returned (.tuple #[]) ∧ ShIs w' g (S.disk c x o y) ∧ Aside g w w' := by
  obtain ⟨v, xs, h⟩ := h
  have HO : Hid (ShOf w g S v xs) := h
  have HA : Hid _ := hA
  have HD : Hid _ := fun w h => ShOf.disk (w := w) (g := g) (S := S) (v := v) (xs := xs) h c x o y
  obtain ⟨⟨c0, c1, c2, c3⟩, _⟩ := h.slots
  generalize (S.disk c x o y).p0 = p0' at *
  generalize (S.disk c x o y).x0 = x0' at *
  generalize (S.disk c x o y).p1 = p1' at *
  generalize (S.disk c x o y).x1 = x1' at *
  generalize S.disk c x o y = T at *
  generalize S.p0 = a at *
  generalize S.x0 = x at *
  generalize S.p1 = b at *
  generalize S.x1 = y at *
  clear h hA
  go_enter Try.func54, Try.ntmps54
  go_wp2_with fail
  refine (HA.out _).mono ?_
  rintro e w1 ⟨rfl, hb1⟩
  have HO1 : Hid (ShOf w1 g S v xs) := HO.out.below hb1
  have HB1 : Hid (Aside g w w1) := below_aside hb1 g
  obtain ⟨⟨d0, d1, d2, d3⟩, f0, f1, f2, f3⟩ := HO1.out.slots
  clear hb1 c0 c1 c2 c3
  have hD := HD.out w1 HO1.out
  have HD1 : Hid _ := hD
  clear hD
  go_wp2_with fail
  go_end0
  exact ⟨rfl, ⟨v, xs, HD1.out.1⟩, HB1.out.trans HD1.out.2⟩
/-! At the slot that it is at, and at the other one. -/
/-- right slots -/
structure DkOk (S : Sh) : Prop where
  cur : S.cur ≤ 1
  one : slE S.c S.x = 0
  two : slE S.o S.y = 0
theorem DkOk.here {S : Sh} (h : DkOk S) : dkE S.p0 S.x0 S.p1 S.x1 = 0 := by
  unfold Sh.p0 Sh.x0 Sh.p1 Sh.x1
  split
  · exact dk_of h.one h.two
  · exact dk_of h.two h.one
theorem DkOk.lens {S : Sh} (h : DkOk S) : S.c.size ≤ 1048576 ∧ S.o.size ≤ 1048576 ∧ S.p0.size ≤ 1048576 ∧ S.p1.size ≤ 1048576 := by
  have h1 := (sl_zero h.one).1
  have h2 := (sl_zero h.two).1
  refine ⟨h1, h2, ?_, ?_⟩
  · unfold Sh.p0; split <;> assumption
  · unfold Sh.p1; split <;> assumption
theorem disk_cur (S : Sh) (h : S.cur = 0) (c : ByteArray) (x : Int) (o : ByteArray) (y : Int) : dkV (S.disk c x o y).p0 (S.disk c x o y).x0 (S.disk c x o y).p1 (S.disk c x o y).x1 = dkV c x o y := by
  have h2 : (S.disk c x o y).cur = 0 := h
  unfold Sh.p0 Sh.x0 Sh.p1 Sh.x1
  simp only [if_pos h2]
  rfl
theorem disk_oth (S : Sh) (h : S.cur = 1) (c : ByteArray) (x : Int) (o : ByteArray) (y : Int) : dkV (S.disk c x o y).p0 (S.disk c x o y).x0 (S.disk c x o y).p1 (S.disk c x o y).x1 = dkV o y c x := by
  have h2 : ¬ (S.disk c x o y).cur = 0 := by show ¬ S.cur = 0; omega
  unfold Sh.p0 Sh.x0 Sh.p1 Sh.x1
  simp only [if_neg h2]
  rfl
theorem ShSay_cur2 (S : Sh) (t : ByteArray) (g : Nat) (w : World) {v : Value} {xs : List (Rv × Option Addr × Nat)} (h : ShOf w g S v xs) (ok : DkOk S) (ht : S.c.size + t.size ≤ 1048576) :
    Calls Try.prog 59 #[.pointer (some ⟨g, 0, none⟩), .int .i64 (S.cur : Nat), .string t] w fun e w' => e = .returned (.tuple #[]) ∧ ShOf w' g (S.disk (S.c ++ t) S.x S.o S.y) v xs ∧ Aside g w w' := by
  obtain ⟨l1, l2, _, _⟩ := ok.lens
  have hE := ok.here
  refine ShSay_of S _ _ t _ _ _ g w h (fun w => ?_)
  rcases (by have := ok.cur; omega : S.cur = 0 ∨ S.cur = 1) with h0 | h0
  · rw [disk_cur S h0]
    have e : dkV S.p0 S.x0 S.p1 S.x1 = dkV S.c S.x S.o S.y := disk_cur S h0 S.c S.x S.o S.y
    rw [e, h0]
    exact DAppend_ok0 S.c S.x S.o S.y t (dks_of (dk_of ok.one ok.two) (.inl rfl)) ht w (by omega) (by omega) (by omega)
  · rw [disk_oth S h0]
    have e : dkV S.p0 S.x0 S.p1 S.x1 = dkV S.o S.y S.c S.x := disk_oth S h0 S.c S.x S.o S.y
    rw [e, h0]
    exact DAppend_ok1 S.o S.y S.c S.x t (dks_of (dk_of ok.two ok.one) (.inr rfl)) ht w (by omega) (by omega) (by omega)
theorem ShSay_cur (S : Sh) (t : ByteArray) (g : Nat) (w : World) (h : ShIs w g S) (ok : DkOk S) (ht : S.c.size + t.size ≤ 1048576) :
    Calls Try.prog 59 #[.pointer (some ⟨g, 0, none⟩), .int .i64 (S.cur : Nat), .string t] w fun e w' => e = .returned (.tuple #[]) ∧ ShIs w' g (S.disk (S.c ++ t) S.x S.o S.y) ∧ Aside g w w' := by
  obtain ⟨v, xs, h⟩ := h
  exact (ShSay_cur2 S t g w h ok ht).mono fun e w' ⟨h1, h2, h3⟩ => ⟨h1, ⟨v, xs, h2⟩, h3⟩
theorem ShSay_oth2 (S : Sh) (t : ByteArray) (g : Nat) (w : World) {v : Value} {xs : List (Rv × Option Addr × Nat)} (h : ShOf w g S v xs) (ok : DkOk S) (ht : S.o.size + t.size ≤ 1048576) :
    Calls Try.prog 59 #[.pointer (some ⟨g, 0, none⟩), .int .i64 (1 - (S.cur : Int)), .string t] w fun e w' => e = .returned (.tuple #[]) ∧ ShOf w' g (S.disk S.c S.x (S.o ++ t) S.y) v xs ∧ Aside g w w' := by
  obtain ⟨l1, l2, _, _⟩ := ok.lens
  have hE := ok.here
  refine ShSay_of S _ _ t _ _ _ g w h (fun w => ?_)
  rcases (by have := ok.cur; omega : S.cur = 0 ∨ S.cur = 1) with h0 | h0
  · rw [disk_cur S h0]
    have e : dkV S.p0 S.x0 S.p1 S.x1 = dkV S.c S.x S.o S.y := disk_cur S h0 S.c S.x S.o S.y
    rw [e, h0]
    exact DAppend_ok1 S.c S.x S.o S.y t (dks_of (dk_of ok.one ok.two) (.inr rfl)) ht w (by omega) (by omega) (by omega)
  · rw [disk_oth S h0]
    have e : dkV S.p0 S.x0 S.p1 S.x1 = dkV S.o S.y S.c S.x := disk_oth S h0 S.c S.x S.o S.y
    rw [e, h0]
    exact DAppend_ok0 S.o S.y S.c S.x t (dks_of (dk_of ok.two ok.one) (.inl rfl)) ht w (by omega) (by omega) (by omega)
theorem ShSay_oth (S : Sh) (t : ByteArray) (g : Nat) (w : World) (h : ShIs w g S) (ok : DkOk S) (ht : S.o.size + t.size ≤ 1048576) :
    Calls Try.prog 59 #[.pointer (some ⟨g, 0, none⟩), .int .i64 (1 - (S.cur : Int)), .string t] w fun e w' => e = .returned (.tuple #[]) ∧ ShIs w' g (S.disk S.c S.x (S.o ++ t) S.y) ∧ Aside g w w' := by
  obtain ⟨v, xs, h⟩ := h
  exact (ShSay_oth2 S t g w h ok ht).mono fun e w' ⟨h1, h2, h3⟩ => ⟨h1, ⟨v, xs, h2⟩, h3⟩
theorem ShMake_cur (S : Sh) (g : Nat) (w : World) (h : ShIs w g S) (ok : DkOk S) :
    Calls Try.prog 65 #[.pointer (some ⟨g, 0, none⟩), .int .i64 (S.cur : Nat)] w fun e w' => e = .returned (.tuple #[]) ∧ ShIs w' g (S.disk S.c S.c.size S.o S.y) ∧ Aside g w w' := by
  obtain ⟨l1, l2, _, _⟩ := ok.lens
  have hE := ok.here
  refine ShMake_gen S _ _ _ _ _ g w h (fun w => ?_)
  rcases (by have := ok.cur; omega : S.cur = 0 ∨ S.cur = 1) with h0 | h0
  · rw [disk_cur S h0]
    have e : dkV S.p0 S.x0 S.p1 S.x1 = dkV S.c S.x S.o S.y := disk_cur S h0 S.c S.x S.o S.y
    rw [e, h0]
    exact DSync_ok0 S.c S.x S.o S.y (dks_of (dk_of ok.one ok.two) (.inl rfl)) w (by omega) (by omega)
  · rw [disk_oth S h0]
    have e : dkV S.p0 S.x0 S.p1 S.x1 = dkV S.o S.y S.c S.x := disk_oth S h0 S.c S.x S.o S.y
    rw [e, h0]
    exact DSync_ok1 S.o S.y S.c S.x (dks_of (dk_of ok.two ok.one) (.inr rfl)) w (by omega) (by omega)
theorem ShMake_oth (S : Sh) (g : Nat) (w : World) (h : ShIs w g S) (ok : DkOk S) :
    Calls Try.prog 65 #[.pointer (some ⟨g, 0, none⟩), .int .i64 (1 - (S.cur : Int))] w fun e w' => e = .returned (.tuple #[]) ∧ ShIs w' g (S.disk S.c S.x S.o S.o.size) ∧ Aside g w w' := by
  obtain ⟨l1, l2, _, _⟩ := ok.lens
  have hE := ok.here
  refine ShMake_gen S _ _ _ _ _ g w h (fun w => ?_)
  rcases (by have := ok.cur; omega : S.cur = 0 ∨ S.cur = 1) with h0 | h0
  · rw [disk_cur S h0]
    have e : dkV S.p0 S.x0 S.p1 S.x1 = dkV S.c S.x S.o S.y := disk_cur S h0 S.c S.x S.o S.y
    rw [e, h0]
    exact DSync_ok1 S.c S.x S.o S.y (dks_of (dk_of ok.one ok.two) (.inr rfl)) w (by omega) (by omega)
  · rw [disk_oth S h0]
    have e : dkV S.p0 S.x0 S.p1 S.x1 = dkV S.o S.y S.c S.x := disk_oth S h0 S.c S.x S.o S.y
    rw [e, h0]
    exact DSync_ok0 S.o S.y S.c S.x (dks_of (dk_of ok.two ok.one) (.inl rfl)) w (by omega) (by omega)
theorem extract_none (b : ByteArray) : b.extract 0 0 = ⟨#[]⟩ := by
  apply ByteArray.ext
  simp
theorem ShClear_oth (S : Sh) (g : Nat) (w : World) (h : ShIs w g S) (ok : DkOk S) :
    Calls Try.prog 54 #[.pointer (some ⟨g, 0, none⟩), .int .i64 (1 - (S.cur : Int))] w fun e w' => e = .returned (.tuple #[]) ∧ ShIs w' g (S.disk S.c S.x ⟨#[]⟩ 0) ∧ Aside g w w' := by
  obtain ⟨l1, l2, _, _⟩ := ok.lens
  obtain ⟨_, y0, _⟩ := sl_zero ok.two
  have hE := ok.here
  refine ShClear_gen S _ _ _ _ _ g w h (fun w => ?_)
  rcases (by have := ok.cur; omega : S.cur = 0 ∨ S.cur = 1) with h0 | h0
  · rw [disk_cur S h0]
    have e : dkV S.p0 S.x0 S.p1 S.x1 = dkV S.c S.x S.o S.y := disk_cur S h0 S.c S.x S.o S.y
    rw [e, h0]
    have h2 := DTrim_ok1 S.c S.x S.o S.y 0 (dks_of (dk_of ok.one ok.two) (.inr rfl)) (Nat.zero_le _) w (by omega) (by omega)
    rw [extract_none, show min S.y ((0 : Nat) : Int) = 0 by omega] at h2
    exact h2
  · rw [disk_oth S h0]
    have e : dkV S.p0 S.x0 S.p1 S.x1 = dkV S.o S.y S.c S.x := disk_oth S h0 S.c S.x S.o S.y
    rw [e, h0]
    have h2 := DTrim_ok0 S.o S.y S.c S.x 0 (dks_of (dk_of ok.two ok.one) (.inl rfl)) (Nat.zero_le _) w (by omega) (by omega)
    rw [extract_none, show min S.y ((0 : Nat) : Int) = 0 by omega] at h2
    exact h2
end Go.Proofs.Ytgffippimmokiaa
