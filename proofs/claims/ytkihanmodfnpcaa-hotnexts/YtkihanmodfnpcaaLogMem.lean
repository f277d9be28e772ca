/- A log's cells, and a revision's, held together. -/
import Derived.Test.YtkihanmodfnpcaaHotNext
import Derived.Test.YtkihanmodfnpcaaHotTab
import Derived.Deep.WholeRow
import Derived.Deep.MidRow
namespace Go.Proofs.Ytkihanmodfnpcaa
open Go.RowKit
set_option linter.unusedSimpArgs false
set_option linter.unusedVariables false

theorem log_cells {w w' : World} {g h : Nat} {v0 v1 v2 v3 v4 v5 v6 v7 v8 v9 v10 v11 v12 v13 v14 v15 v16 v17 v18 v19 v20 v21 v22 v23 v24 v25 v26 v27 v28 v29 v30 v31 v32 v33 v34 v35 v36 v37 : Value} {r : Rv} {a : Option Addr} {c : Nat} (hl : w.heap[g]? = some (.cells #[v0, v1, v2, v3, v4, v5, v6, v7, v8, v9, v10, v11, v12, v13, v14, v15, v16, v17, v18, v19, v20, v21, v22, v23, v24, v25, v26, v27, v28, v29, v30, v31, v32, v33, v34, v35, v36, v37] 48 (0, 0))) (hr : RBox w h r a c) (hb : Below w.heap.size w w') :
    w'.cell? ⟨g, 0, none⟩ = some v0 ∧ w'.cell? ⟨g, 1, none⟩ = some v1 ∧ w'.cell? ⟨g, 2, none⟩ = some v2 ∧ w'.cell? ⟨g, 3, none⟩ = some v3 ∧ w'.cell? ⟨g, 4, none⟩ = some v4 ∧ w'.cell? ⟨g, 5, none⟩ = some v5 ∧ w'.cell? ⟨g, 6, none⟩ = some v6 ∧ w'.cell? ⟨g, 7, none⟩ = some v7 ∧ w'.cell? ⟨g, 8, none⟩ = some v8 ∧ w'.cell? ⟨g, 9, none⟩ = some v9 ∧ w'.cell? ⟨g, 10, none⟩ = some v10 ∧ w'.cell? ⟨g, 11, none⟩ = some v11 ∧ w'.cell? ⟨g, 12, none⟩ = some v12 ∧ w'.cell? ⟨g, 13, none⟩ = some v13 ∧ w'.cell? ⟨g, 14, none⟩ = some v14 ∧ w'.cell? ⟨g, 15, none⟩ = some v15 ∧ w'.cell? ⟨g, 16, none⟩ = some v16 ∧ w'.cell? ⟨g, 17, none⟩ = some v17 ∧ w'.cell? ⟨g, 18, none⟩ = some v18 ∧ w'.cell? ⟨g, 19, none⟩ = some v19 ∧ w'.cell? ⟨g, 20, none⟩ = some v20 ∧ w'.cell? ⟨g, 21, none⟩ = some v21 ∧ w'.cell? ⟨g, 22, none⟩ = some v22 ∧ w'.cell? ⟨g, 23, none⟩ = some v23 ∧ w'.cell? ⟨g, 24, none⟩ = some v24 ∧ w'.cell? ⟨g, 25, none⟩ = some v25 ∧ w'.cell? ⟨g, 26, none⟩ = some v26 ∧ w'.cell? ⟨g, 27, none⟩ = some v27 ∧ w'.cell? ⟨g, 28, none⟩ = some v28 ∧ w'.cell? ⟨g, 29, none⟩ = some v29 ∧ w'.cell? ⟨g, 30, none⟩ = some v30 ∧ w'.cell? ⟨g, 31, none⟩ = some v31 ∧ w'.cell? ⟨g, 32, none⟩ = some v32 ∧ w'.cell? ⟨g, 33, none⟩ = some v33 ∧ w'.cell? ⟨g, 34, none⟩ = some v34 ∧ w'.cell? ⟨g, 35, none⟩ = some v35 ∧ w'.cell? ⟨g, 36, none⟩ = some v36 ∧ w'.cell? ⟨g, 37, none⟩ = some v37 ∧ w'.cell? ⟨h, 0, none⟩ = some (.int .i64 r.who) ∧ w'.cell? ⟨h, 1, none⟩ = some (.int .i64 r.seq) ∧ w'.cell? ⟨h, 2, none⟩ = some (.slice a r.d.length c) := by
  have h1 := (hb.block g (lt_of_heap hl)).trans hl
  obtain ⟨r0, r1, r2, _⟩ := hr.below hb
  exact ⟨Lib.cell_of_heap h1 0, Lib.cell_of_heap h1 1, Lib.cell_of_heap h1 2, Lib.cell_of_heap h1 3, Lib.cell_of_heap h1 4, Lib.cell_of_heap h1 5, Lib.cell_of_heap h1 6, Lib.cell_of_heap h1 7, Lib.cell_of_heap h1 8, Lib.cell_of_heap h1 9, Lib.cell_of_heap h1 10, Lib.cell_of_heap h1 11, Lib.cell_of_heap h1 12, Lib.cell_of_heap h1 13, Lib.cell_of_heap h1 14, Lib.cell_of_heap h1 15, Lib.cell_of_heap h1 16, Lib.cell_of_heap h1 17, Lib.cell_of_heap h1 18, Lib.cell_of_heap h1 19, Lib.cell_of_heap h1 20, Lib.cell_of_heap h1 21, Lib.cell_of_heap h1 22, Lib.cell_of_heap h1 23, Lib.cell_of_heap h1 24, Lib.cell_of_heap h1 25, Lib.cell_of_heap h1 26, Lib.cell_of_heap h1 27, Lib.cell_of_heap h1 28, Lib.cell_of_heap h1 29, Lib.cell_of_heap h1 30, Lib.cell_of_heap h1 31, Lib.cell_of_heap h1 32, Lib.cell_of_heap h1 33, Lib.cell_of_heap h1 34, Lib.cell_of_heap h1 35, Lib.cell_of_heap h1 36, Lib.cell_of_heap h1 37, r0, r1, r2⟩
theorem log_tab {v0 v1 v2 v3 v4 v5 v6 v7 v8 v9 v10 v11 v12 v13 v14 v15 v16 v17 v18 v35 v36 v37 : Value} {x0 x1 x2 x3 x4 x5 x6 x7 x8 x9 x10 x11 x12 x13 x14 x15 : Int} : ∀ (k : Nat) (q : Int), [x0, x1, x2, x3, x4, x5, x6, x7, x8, x9, x10, x11, x12, x13, x14, x15][k]? = some q → (#[v0, v1, v2, v3, v4, v5, v6, v7, v8, v9, v10, v11, v12, v13, v14, v15, v16, v17, v18, .int .i64 x0, .int .i64 x1, .int .i64 x2, .int .i64 x3, .int .i64 x4, .int .i64 x5, .int .i64 x6, .int .i64 x7, .int .i64 x8, .int .i64 x9, .int .i64 x10, .int .i64 x11, .int .i64 x12, .int .i64 x13, .int .i64 x14, .int .i64 x15, v35, v36, v37] : Array Value)[19 + k]? = some (.int .i64 q) := by
  intro k q hk
  match k, hk with
  | 0, hk => cases hk; rfl
  | 1, hk => cases hk; rfl
  | 2, hk => cases hk; rfl
  | 3, hk => cases hk; rfl
  | 4, hk => cases hk; rfl
  | 5, hk => cases hk; rfl
  | 6, hk => cases hk; rfl
  | 7, hk => cases hk; rfl
  | 8, hk => cases hk; rfl
  | 9, hk => cases hk; rfl
  | 10, hk => cases hk; rfl
  | 11, hk => cases hk; rfl
  | 12, hk => cases hk; rfl
  | 13, hk => cases hk; rfl
  | 14, hk => cases hk; rfl
  | 15, hk => cases hk; rfl
  | k + 16, hk => simp at hk
theorem went_drew {w w' : World} (hb : Below w.drew.heap.size w.drew w') : Hid (Below w.heap.size w w') := ((Below.refl w.heap.size w).drew).trans hb
theorem went_on {w w1 w2 : World} (h : Hid (Below w.heap.size w w1)) (hb : Below w1.heap.size w1 w2) : Hid (Below w.heap.size w w2) := h.out.trans (hb.mono h.out.size)
/-- a great struct into the block that was made for it -/
theorem wpList_store_new {P : Program} {ops : Array Oper} {rest : List Oper} {op : Oper} {a : Act} {w : World} {Q : Exit → Act → World → Prop} (hgd : op.guard = none) (ty : TypeId) (x y : Operand) (ho : op.op = .store ty x y)
    (Z cells : Array Value) (hx : a.eval x = .pointer (some ⟨w.heap.size, 0, none⟩)) (hy : a.eval y = .agg cells)
    (hi : (P.info? ty).map (·.size) = some cells.size) (hz : Z.size = cells.size) (h1 : cells.all (·.oneCell') = true)
    (h : wpList P ops Q rest (a.put op.dst undef) (w.alloc (.cells cells ty))) : wpList P ops Q (op :: rest) a (w.alloc (.cells Z ty)) :=
  wpList_plain hgd fun _ hK => by
    unfold Oper.wp execOp
    simp only [ho, hx, hy, Instr.storeAt, Instr.sureAddr, Sem.run_bind, Sem.run_pure, Result.andThen_ok, run_storeVar_new w ty Z cells hi hz h1]
    exact hK _ _ h
theorem log_held {w w' : World} {g h : Nat} {L : List Value} {r : Rv} {a : Option Addr} {c : Nat} (hl : w.heap[g]? = some (.cells L.toArray 48 (0, 0))) (hc : w.rangeAt g 0 L) (hr : RBox w h r a c) (hb : Below w.heap.size w w') :
    w'.rangeAt g 0 L ∧ w'.cell? ⟨h, 0, none⟩ = some (.int .i64 r.who) ∧ w'.cell? ⟨h, 1, none⟩ = some (.int .i64 r.seq) ∧ w'.cell? ⟨h, 2, none⟩ = some (.slice a r.d.length c) := by
  obtain ⟨r0, r1, r2, _⟩ := hr.below hb
  exact ⟨fun j v hv => (hb.cell (p := ⟨g, _, none⟩) (lt_of_heap hl)).trans (hc j v hv), r0, r1, r2⟩
theorem infoLog : (Try.prog.info? 48).map (·.size) = some 38 := by kernel_rfl
end Go.Proofs.Ytkihanmodfnpcaa
