/- What the laws on keeping ask besides: answers by case, rows written out, slices.Min. -/
import Derived.Test.YtgffippimmokiaaKeepOf
import Derived.Test.YtgffippimmokiaaShRun
namespace Go.Proofs.Ytgffippimmokiaa
open Go.RowKit
set_option linter.unusedSimpArgs false
set_option linter.unusedVariables false

theorem nats_lit (w : World) (x : List Nat) (hx : x.length ≤ 100) : NatsAt (w.alloc (.cells (x.map intV).toArray 3)) (w.heap.size + 1) (some ⟨w.heap.size, 0, none⟩) x x.length := by
  have h : (w.alloc (.cells (x.map intV).toArray 3)).heap[w.heap.size]? = some (.cells (x.map intV).toArray 3 (0, 0)) := Deep.blk_alloc_new w _
  refine ⟨Nat.le_refl _, by omega, by rw [Deep.nblk_alloc]; exact Nat.le_refl _, fun _ => ⟨_, 0, rfl, by omega, fun i q hi => ?_⟩⟩
  rw [Nat.zero_add]
  have h2 := Lib.cell_of_heap h i
  rw [h2]
  simp [hi, intV]
theorem ints_lit (w : World) (x : List Int) (hx : x.length ≤ 100) : IzAt (w.alloc (.cells (x.map (fun n => Value.int .i64 n)).toArray 3)) (w.heap.size + 1) (some ⟨w.heap.size, 0, none⟩) x x.length := by
  have h : (w.alloc (.cells (x.map (fun n => Value.int .i64 n)).toArray 3)).heap[w.heap.size]? = some (.cells (x.map (fun n => Value.int .i64 n)).toArray 3 (0, 0)) := Deep.blk_alloc_new w _
  refine ⟨Nat.le_refl _, by omega, by rw [Deep.nblk_alloc]; exact Nat.le_refl _, fun _ => ⟨_, 0, rfl, by omega, fun i q hi => ?_⟩⟩
  rw [Nat.zero_add]
  have h2 := Lib.cell_of_heap h i
  rw [h2]
  simp [hi]
theorem KOf_ok {last every : Int} (a : Option Addr) {pins : List Int} (c : Nat) {hd : Nat} (hz : polE last every pins = 0) (hh : hd ≤ 640) (w : World) (hv : IzAt w w.heap.size a pins c) :
    Calls Try.prog 29 #[polV last every a pins.length c, .int .i64 (hd : Int)] w fun e w' => ∃ ao co, e = .returned (.tuple #[.slice ao (keptL last every pins hd).length co, .int .i64 0]) ∧ NatsAt w' w'.heap.size ao (keptL last every pins hd) co ∧ Below w.heap.size w w' := by
  have h := KeepOf_any last every a pins c (hd : Int) w hv
  rw [keepE_ok hz (by omega) (by omega), polL_ok hz (by omega) (by omega)] at h
  exact h
theorem KOf_not {last every : Int} (a : Option Addr) {pins : List Int} (c : Nat) {head E : Int} (hE : keepE last every pins head = E) (h0 : E ≠ 0) (w : World) (hv : IzAt w w.heap.size a pins c) :
    Calls Try.prog 29 #[polV last every a pins.length c, .int .i64 head] w fun e w' => ∃ ao co, e = .returned (.tuple #[.slice ao 0 co, .int .i64 E]) ∧ Below w.heap.size w w' := by
  have h := KeepOf_any last every a pins c head w hv
  rw [polL_not (by rw [hE]; exact h0), hE] at h
  exact h.mono fun e w' ⟨ao, co, h1, _, h2⟩ => ⟨ao, co, h1, h2⟩
theorem KCo_yes (a : Option Addr) (x : List Nat) (c r : Nat) (w : World) (hv : NatsAt w w.heap.size a x c) (hr : r ∈ x) :
    Calls Try.prog 102 #[.slice a x.length c, .int .i64 (r : Int)] w fun e w' => e = .returned (.bool true) ∧ w' = w := by
  have h := CoIz_any a (asI x) c (r : Int) w (nats_iz hv)
  rw [asI_len, decide_eq_true (asI_mem.2 hr)] at h
  exact h
end Go.Proofs.Ytgffippimmokiaa
