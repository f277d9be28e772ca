/- A row of ints that is read, and one of the call's own. -/
import Derived.Test.YtgffippimmokiaaPtOwn
import Derived.OwnWalk
import Derived.Test.YtgffippimmokiaaHotP
import Derived.Deep.MidRow
import Derived.Deep.WholeRow
namespace Go.Proofs.Ytgffippimmokiaa
open Go.RowKit
set_option linter.unusedSimpArgs false
set_option linter.unusedVariables false

/-- the ints x lie from address a on, below block B, with room for c -/
def IzAt (w : World) (B : Nat) (a : Option Addr) (x : List Int) (c : Nat) : Prop :=
  x.length ≤ c ∧ c ≤ 9223372036854775807 ∧ B ≤ w.heap.size ∧ (x ≠ [] → ∃ b off, a = some ⟨b, off, none⟩ ∧ b < B ∧ ∀ (i : Nat) (q : Int), x[i]? = some q → w.cell? ⟨b, off + i, none⟩ = some (.int .i64 q))
theorem IzAt.below {w w' : World} {B B' : Nat} {a : Option Addr} {x : List Int} {c : Nat} (h : IzAt w B a x c) (hb : Below B' w w') (hB : B ≤ B') : IzAt w' B a x c := by
  obtain ⟨h1, h0, h2, h3⟩ := h
  refine ⟨h1, h0, Nat.le_trans h2 hb.size, fun hn => ?_⟩
  obtain ⟨b, off, ha, hlt, hc⟩ := h3 hn
  have hlt' : b < B' := Nat.lt_of_lt_of_le hlt hB
  exact ⟨b, off, ha, hlt, fun i q hi => (hb.cell (p := ⟨b, _, none⟩) hlt').trans (hc i q hi)⟩
theorem IzAt.wider {w : World} {B B' : Nat} {a : Option Addr} {x : List Int} {c : Nat} (h : IzAt w B a x c) (h1 : B ≤ B') (h2 : B' ≤ w.heap.size) : IzAt w B' a x c :=
  ⟨h.1, h.2.1, h2, fun hn => by
    obtain ⟨b, off, ha, hlt, hc⟩ := h.2.2.2 hn
    exact ⟨b, off, ha, by omega, hc⟩⟩
theorem IzAt.here {w w' : World} {B B' : Nat} {a : Option Addr} {x : List Int} {c : Nat} (h : IzAt w B a x c) (hb : Below B' w w') (hB : B ≤ B') : IzAt w' w'.heap.size a x c :=
  (h.below hb hB).wider (h.below hb hB).2.2.1 (Nat.le_refl _)
theorem IzAt.mem {w : World} {B : Nat} {a : Option Addr} {x : List Int} {c : Nat} (h : IzAt w B a x c) {i : Nat} {q : Int} (hi : x[i]? = some q) :
    ∃ b off, a = some ⟨b, off, none⟩ ∧ b < B ∧ w.cell? ⟨b, off + i, none⟩ = some (.int .i64 q) := by
  obtain ⟨b, off, ha, hlt, hc⟩ := h.2.2.2 (fun e => by subst e; simp at hi)
  exact ⟨b, off, ha, hlt, hc i q hi⟩
theorem iz_nil (w : World) (B c : Nat) (hB : B ≤ w.heap.size) (hc : c ≤ 9223372036854775807) (a : Option Addr) : IzAt w B a [] c := ⟨by simp, hc, hB, by simp⟩
/-- ints as cells -/
def jzC (l : List Int) : List Value := l.map (fun n => .int .i64 n)
theorem jzC_len (l : List Int) : (jzC l).length = l.length := List.length_map _
theorem jzC_one (l : List Int) : ∀ u ∈ jzC l, u.oneCell' = true := by
  intro u hu
  obtain ⟨n, _, rfl⟩ := List.mem_map.1 hu
  rfl
theorem jz_own {w : World} {B : Nat} {a : Option Addr} {l : List Int} {c : Nat} (h : w.ownsRow B 3 1 (.slice a l.length c) l.length (jzC l)) : IzAt w w.heap.size a l c := by
  rcases h.2 with ⟨h1, h2⟩ | ⟨g, cap, cur, hv, hB, hg, h3, h4, h5, h6⟩
  · have hl : l = [] := List.length_eq_zero_iff.1 h2
    subst hl
    simp only [Value.slice.injEq, List.length_nil, true_and] at h1
    obtain ⟨rfl, rfl⟩ := h1
    exact iz_nil _ _ _ (Nat.le_refl _) (by omega) _
  · simp only [Value.slice.injEq, true_and] at hv
    obtain ⟨rfl, rfl⟩ := hv
    refine ⟨h3, by unfold maxLen at h4; omega, Nat.le_refl _, fun hn => ⟨g, 0, rfl, lt_of_heap hg, fun i q hi => ?_⟩⟩
    have hlt := (List.getElem?_eq_some_iff.1 hi).1
    have e : (jzC l)[i]? = some (.int .i64 q) := by rw [jzC, List.getElem?_map, hi]; rfl
    rw [Nat.zero_add]
    exact (h.cellAt i (by omega)).trans e
end Go.Proofs.Ytgffippimmokiaa

/- A log in a block of its own, whole: read and written without unrolling. -/
namespace Go.Proofs.Ytgffippimmokiaa
open Go.RowKit
set_option linter.unusedSimpArgs false
set_option linter.unusedVariables false

/-- the cells of a log -/
def lgC (gen base : Int) (text : List UInt8) (F T : List Int) (rv : Value) (wh : Bool) (gd : Int) : List Value := .int .i64 gen :: .int .i64 base :: .string ⟨text.toArray⟩ :: (jzC F ++ (jzC T ++ [rv, .bool wh, .int .i64 gd]))
theorem lgC_len {gen base : Int} {text : List UInt8} {F T : List Int} {rv : Value} {wh : Bool} {gd : Int} (hF : F.length = 16) (hT : T.length = 16) : (lgC gen base text F T rv wh gd).length = 38 := by
  simp [lgC, jzC, hF, hT]
theorem lgC_one {gen base : Int} {text : List UInt8} {F T : List Int} {rv : Value} {wh : Bool} {gd : Int} (hrv : rv.oneCell' = true) : ∀ u ∈ lgC gen base text F T rv wh gd, u.oneCell' = true := by
  intro u hu
  simp only [lgC, List.mem_cons, List.mem_append, List.not_mem_nil, or_false] at hu
  rcases hu with rfl | rfl | rfl | hu | hu | rfl | rfl | rfl
  · rfl
  · rfl
  · rfl
  · exact jzC_one F u hu
  · exact jzC_one T u hu
  · exact hrv
  · rfl
  · rfl
theorem infoLg : (Try.prog.info? 82).map (·.size) = some 38 := by kernel_rfl
theorem infoTb : (Try.prog.info? 80).map (·.size) = some 16 := by kernel_rfl
/-- a log in a block of its own -/
def LgAt (w : World) (g : Nat) (L : List Value) : Prop := w.heap[g]? = some (.cells L.toArray 82 (0, 0))
theorem LgAt.lt {w : World} {g : Nat} {L : List Value} (h : LgAt w g L) : g < w.heap.size := lt_of_heap h
theorem LgAt.below {w w' : World} {B g : Nat} {L : List Value} (h : LgAt w g L) (hb : Below B w w') (hg : g < B) : LgAt w' g L := (hb.block g hg).trans h
theorem LgAt.cell {w : World} {g : Nat} {L : List Value} (h : LgAt w g L) {i : Nat} {v : Value} (hi : L[i]? = some v) : w.cell? ⟨g, i, none⟩ = some v := by
  have h2 := Lib.cell_of_heap h i
  rw [h2]
  simpa using hi
theorem LgAt.free {w : World} {g : Nat} {L : List Value} (h : LgAt w g L) (i : Nat) : w.frozen? ⟨g, i, none⟩ = false := Lib.frozen_of_heap h i
theorem LgAt.put {w : World} {g : Nat} {L : List Value} (h : LgAt w g L) (i : Nat) (v : Value) : LgAt (w.setCell ⟨g, i, none⟩ v) g (L.set i v) := by
  have h2 := heap_setCell_same w g i _ _ v h
  rw [List.setIfInBounds_toArray] at h2
  exact h2
theorem LgAt.other {w : World} {g : Nat} {L : List Value} (h : LgAt w g L) {p : Addr} (v : Value) (hp : g ≠ p.block) : LgAt (w.setCell p v) g L := (heap_setCell_other w p g v hp).trans h
/-- the cells from o on, written over -/
def setL : List Value → Nat → List Value → List Value
  | L, _, [] => L
  | L, o, v :: r => setL (L.set o v) (o + 1) r
theorem LgAt.puts {g : Nat} : ∀ (vs : List Value) (w : World) (L : List Value) (o : Nat), LgAt w g L → LgAt (w.setCells g o vs) g (setL L o vs)
  | [], _, _, _, h => h
  | v :: r, w, L, o, h => LgAt.puts r _ _ (o + 1) (h.put o v)
theorem LgAt.aside {g b : Nat} (hg : g ≠ b) {L : List Value} : ∀ (vs : List Value) (w : World) (o : Nat), LgAt w g L → LgAt (w.setCells b o vs) g L
  | [], _, _, h => h
  | v :: r, w, o, h => LgAt.aside hg r _ (o + 1) (h.other v hg)
theorem below_cells {B g : Nat} {w : World} (hg : B ≤ g) : ∀ (vs : List Value) (w' : World) (o : Nat), Below B w w' → Below B w (w'.setCells g o vs)
  | [], _, _, h => h
  | v :: r, w', o, h => below_cells hg r _ (o + 1) (h.setCell (p := ⟨g, o, none⟩) hg v)
theorem setL_app (a b c : List Value) : ∀ vs : List Value, vs.length = b.length → setL (a ++ (b ++ c)) a.length vs = a ++ (vs ++ c) := by
  intro vs
  induction vs generalizing a b with
  | nil =>
    intro h
    have hb : b = [] := List.length_eq_zero_iff.1 h.symm
    subst hb; rfl
  | cons v r ih =>
    intro h
    match b, h with
    | x :: b, h =>
      rw [setL]
      have e : (a ++ (x :: b ++ c)).set a.length v = (a ++ [v]) ++ (b ++ c) := by simp
      rw [e, show a.length + 1 = (a ++ [v]).length by simp, ih (a ++ [v]) b (by simpa using h)]
      simp
theorem setL_all {L vs : List Value} (h : vs.length = L.length) : setL L 0 vs = vs := by
  have h2 := setL_app [] L [] vs h
  simpa using h2
theorem LgAt.range {w : World} {g : Nat} {L : List Value} (h : LgAt w g L) (a b c : List Value) (e : L = a ++ (b ++ c)) : w.rangeAt g a.length b := by
  intro j v hj
  have hl := (List.getElem?_eq_some_iff.1 hj).1
  refine h.cell ?_
  rw [e, List.getElem?_append_right (by omega), show a.length + j - a.length = j by omega, List.getElem?_append_left hl]
  exact hj
theorem LgAt.all {w : World} {g : Nat} {L : List Value} (h : LgAt w g L) : w.rangeAt g 0 L := h.range [] L [] (by simp)
theorem LgAt.there {w : World} {g : Nat} {L : List Value} (h : LgAt w g L) {o n : Nat} (hn : o + n ≤ L.length) : w.there g o n := by
  intro j hj
  refine ⟨?_, h.free _⟩
  rw [h.cell (List.getElem?_eq_getElem (show o + j < L.length by omega))]
  rfl
/-- a great struct's store into the block that was made for it -/
theorem wp_store_new {P : Program} {op : Oper} {a : Act} {w : World} {K : Act → World → Prop} {Q : Exit → Act → World → Prop} (ty : TypeId) (x y : Operand) (ho : op.op = .store ty x y)
    (Z cells : Array Value) (hx : a.eval x = .pointer (some ⟨w.heap.size, 0, none⟩)) (hy : a.eval y = .agg cells)
    (hi : (P.info? ty).map (·.size) = some cells.size) (hz : Z.size = cells.size) (h1 : cells.all (·.oneCell') = true)
    (h : K (a.put op.dst undef) (w.alloc (.cells cells ty))) : op.wp P a (w.alloc (.cells Z ty)) K Q := by
  unfold Oper.wp execOp
  simp only [ho, hx, hy, Instr.storeAt, Instr.sureAddr, Sem.run_bind, Sem.run_pure, Result.andThen_ok, run_storeVar_new w ty Z cells hi hz h1]
  exact h
theorem wpList_store_new2 {P : Program} {ops : Array Oper} {rest : List Oper} {op : Oper} {a : Act} {w : World} {Q : Exit → Act → World → Prop} (hgd : op.guard = none) (ty : TypeId) (x y : Operand) (ho : op.op = .store ty x y)
    (Z cells : Array Value) (hx : a.eval x = .pointer (some ⟨w.heap.size, 0, none⟩)) (hy : a.eval y = .agg cells)
    (hi : (P.info? ty).map (·.size) = some cells.size) (hz : Z.size = cells.size) (h1 : cells.all (·.oneCell') = true)
    (h : wpList P ops Q rest (a.put op.dst undef) (w.alloc (.cells cells ty))) : wpList P ops Q (op :: rest) a (w.alloc (.cells Z ty)) :=
  wpList_plain hgd fun _ hK => wp_store_new ty x y ho Z cells hx hy hi hz h1 (hK _ _ h)
/-- a result that is a struct in its own variable, and a second one -/
theorem results_log {fn : Func} {p q : Tmp} {ty : TypeId} {P : Program} (h : fn.results = #[.cell p ty, .tmp q]) (tmps : Array Value) (w : World) (g : Nat) (L : List Value) (d : TypeDesc)
    (hp : tmps.getD p undef = .pointer (some ⟨g, 0, none⟩)) (hg : w.rangeAt g 0 L) (hu : P.underlying ty = some d) (hd : d.isRow = true) (hi : (P.info? ty).map (·.size) = some L.length) :
    (results fn tmps).run P w = .ok (.tuple #[.agg L.toArray, tmps.getD q undef]) w := by
  have hp' : tmps[p]?.getD undef = .pointer (some ⟨g, 0, none⟩) := by simpa using hp
  simp [results, h, hp', asAddr, run_loadVar_mid w g 0 ty L d hg hu hd hi]
end Go.Proofs.Ytgffippimmokiaa
