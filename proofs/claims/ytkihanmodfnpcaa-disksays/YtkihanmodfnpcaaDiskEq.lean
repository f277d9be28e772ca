/- A disk, a slot held against itself. -/
import Derived.Test.YtkihanmodfnpcaaDiskOf
import Derived.ChangeKeysEq
namespace Go.Proofs.Ytkihanmodfnpcaa
open Go.RowKit
set_option linter.unusedSimpArgs false
set_option linter.unusedVariables false

theorem fieldsDisk : Try.prog.underlying 26 = some (.struct (Try.prog.fieldsOf 26)) := by kernel_rfl
theorem heldDisk : Try.prog.stoodInHeld 26 = false := by kernel_rfl
theorem fieldsSlot : Try.prog.underlying 23 = some (.struct (Try.prog.fieldsOf 23)) := by kernel_rfl
theorem heldSlot : Try.prog.stoodInHeld 23 = false := by kernel_rfl
set_option maxRecDepth 10000 in
theorem slot_in (d : Nat) (x : Int) (a : ByteArray) (w : World) : (Op.equalIn (d + 2) 23 (.agg #[.string a, .int .i64 x]) (.agg #[.string a, .int .i64 x])).run Try.prog w = .ok true w := by
  rw [run_equalIn_agg w (d + 1) 23 _ _ fieldsSlot heldSlot]
  simp only [Program.fieldsOf, Try.underlying23]
  simp [go_sem, Op.eqFields, part, Try.underlying3, Try.underlying9]
theorem info_slot : ∃ i, Try.prog.info? 23 = some i := by
  cases h : Try.prog.info? 23 with
  | some i => exact ⟨i, rfl⟩
  | none => exact absurd h (by have : (Try.prog.info? 23).isSome = true := by kernel_rfl
                               intro e; rw [e] at this; cases this)
theorem cells_slot : Try.prog.cellsOf 23 = 2 := by kernel_rfl
theorem part_s0 (a b : ByteArray) (x y : Int) : ∀ w : World, (part 23 #[.string a, .int .i64 x, .string b, .int .i64 y] 0).run Try.prog w = .ok (.agg #[.string a, .int .i64 x]) w := fun _ => by kernel_rfl
theorem part_s2 (a b : ByteArray) (x y : Int) : ∀ w : World, (part 23 #[.string a, .int .i64 x, .string b, .int .i64 y] 2).run Try.prog w = .ok (.agg #[.string b, .int .i64 y]) w := fun _ => by kernel_rfl
theorem part_d (a b : ByteArray) (x y : Int) : ∀ w : World, (part 24 #[.string a, .int .i64 x, .string b, .int .i64 y] 0).run Try.prog w = .ok (.agg #[.string a, .int .i64 x, .string b, .int .i64 y]) w := fun _ => by kernel_rfl
theorem under_two : Try.prog.underlying 24 = some (.array 2 23) := by kernel_rfl
theorem slots_in (d : Nat) (a b : ByteArray) (x y : Int) (w : World) : (Op.equalIn (d + 3) 24 (.agg #[.string a, .int .i64 x, .string b, .int .i64 y]) (.agg #[.string a, .int .i64 x, .string b, .int .i64 y])).run Try.prog w = .ok true w := by
  obtain ⟨i, hi⟩ := info_slot
  rw [run_equalIn_array w (d + 2) _ _ under_two hi, cells_slot]
  rw [show List.range 2 = [0, 1] from rfl]
  simp only [Op.eqItems, Sem.run_bind, Nat.zero_mul, Nat.one_mul, part_s0, part_s2, Result.andThen_ok, slot_in, Bool.not_true, Bool.false_eq_true, if_false, Sem.run_pure, if_true]
theorem disk_in (a b : ByteArray) (x y : Int) (w : World) : (Op.equalIn 10000 26 (.agg #[.string a, .int .i64 x, .string b, .int .i64 y]) (.agg #[.string a, .int .i64 x, .string b, .int .i64 y])).run Try.prog w = .ok true w := by
  rw [run_equalIn_agg w 9999 26 _ _ fieldsDisk heldDisk]
  simp only [Program.fieldsOf, Try.underlying26]
  simp [Op.eqFields, part_d, slots_in 9996]
theorem disk_eql (a b : ByteArray) (x y : Int) : ∀ w : World, (binOp .eql 26 (.agg #[.string a, .int .i64 x, .string b, .int .i64 y]) (.agg #[.string a, .int .i64 x, .string b, .int .i64 y])).run Try.prog w = .ok (.bool true) w := fun w => by
  rw [run_eql_struct, disk_in]; rfl
theorem disk_neq (a b : ByteArray) (x y : Int) : ∀ w : World, (binOp .neq 26 (.agg #[.string a, .int .i64 x, .string b, .int .i64 y]) (.agg #[.string a, .int .i64 x, .string b, .int .i64 y])).run Try.prog w = .ok (.bool false) w := fun w => by
  rw [run_neq_struct, disk_in]; rfl
theorem slot_eql (a : ByteArray) (x : Int) : ∀ w : World, (binOp .eql 23 (.agg #[.string a, .int .i64 x]) (.agg #[.string a, .int .i64 x])).run Try.prog w = .ok (.bool true) w := fun w => by
  rw [run_eql_struct, slot_in 9998]; rfl
theorem slot_neq (a : ByteArray) (x : Int) : ∀ w : World, (binOp .neq 23 (.agg #[.string a, .int .i64 x]) (.agg #[.string a, .int .i64 x])).run Try.prog w = .ok (.bool false) w := fun w => by
  rw [run_neq_struct, slot_in 9998]; rfl
end Go.Proofs.Ytkihanmodfnpcaa
