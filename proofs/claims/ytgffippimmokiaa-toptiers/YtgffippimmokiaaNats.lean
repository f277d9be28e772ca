/- A row of ints of the call's own. -/
import Derived.Test.YtgffippimmokiaaPtOwn
import Derived.OwnWalk
import Derived.Deep.QuietTactic
import Derived.BigQuiet
namespace Go.Proofs.Ytgffippimmokiaa
open Go.RowKit
set_option linter.unusedSimpArgs false
set_option linter.unusedVariables false

def intV (x : Nat) : Value := .int .i64 x
/-- the row l lies at g, with no room behind it -/
def IntRow (w : World) (B g : Nat) (l : List Nat) : Prop := w.ownsRow B 3 1 (.slice (some ⟨g, 0, none⟩) l.length l.length) l.length (l.map intV)
theorem infoInt : (Try.prog.info? 3).map (fun i => (i.zero, i.size, i.bytes)) = some (some (.int .i64 0), 1, 8) := by kernel_rfl
theorem IntRow.cellOf {w : World} {B g : Nat} {l : List Nat} (h : IntRow w B g l) {i q : Nat} (hi : l[i]? = some q) : w.cell? ⟨g, i, none⟩ = some (.int .i64 q) := by
  have h1 := World.ownsRow.cellAt h i (by have := (List.getElem?_eq_some_iff.1 hi).1; omega)
  rw [h1]; simp [hi, intV]
theorem IntRow.block {w : World} {B g : Nat} {l : List Nat} (h : IntRow w B g l) (hl : 0 < l.length) : B ≤ g ∧ g < w.heap.size := by
  rcases h.2 with ⟨_, h0⟩ | ⟨g', cap, cur, h1, hB, hc, _⟩
  · omega
  · simp only [Value.slice.injEq, Option.some.injEq, Addr.mk.injEq, and_true] at h1
    obtain ⟨⟨rfl, _⟩, _⟩ := h1
    exact ⟨hB, lt_of_heap hc⟩
theorem IntRow.frozen {w : World} {B g : Nat} {l : List Nat} (h : IntRow w B g l) (i : Nat) : w.frozen? ⟨g, i, none⟩ = false := World.ownsRow.frozenAt h i
theorem IntRow.put {w : World} {B g : Nat} {l : List Nat} (h : IntRow w B g l) (i q : Nat) : IntRow (w.setCell ⟨g, i, none⟩ (.int .i64 q)) B g (l.set i q) := by
  have h1 := World.ownsRow.stored h i (.int .i64 q)
  unfold IntRow
  rw [List.length_set, List.map_set]
  exact h1.1
theorem IntRow.below {w w' : World} {B g : Nat} {l : List Nat} (h : IntRow w B g l) (hb : Below w.heap.size w w') : IntRow w' B g l := by
  refine ⟨h.1, ?_⟩
  rcases h.2 with h0 | ⟨g', cap, cur, h1, hB, hc, h2⟩
  · exact .inl h0
  · exact .inr ⟨g', cap, cur, h1, hB, by rw [hb.block _ (lt_of_heap hc)]; exact hc, h2⟩
theorem IntRow.drew {w : World} {B g : Nat} {l : List Nat} (h : IntRow w B g l) : IntRow w.drew B g l := h
theorem IntRow.drewN {w : World} {B g : Nat} {l : List Nat} (h : IntRow w B g l) (n : Nat) : IntRow (w.drewN n) B g l := h
theorem made_ints (n : Nat) : (madeCells #[Value.int .i64 0] n).toList = (List.replicate n 0).map intV := by
  refine List.ext_getElem? fun i => ?_
  by_cases h : i < n
  · have h1 : (madeCells #[Value.int .i64 0] n).toList[i]? = some (#[Value.int .i64 0][i % 1]!) := by
      simp [madeCells, h]
    rw [h1, Nat.mod_one, List.getElem?_map, List.getElem?_replicate, if_pos h]; rfl
  · rw [List.getElem?_eq_none (by simp [size_madeCells]; omega), List.getElem?_eq_none (by simp; omega)]
end Go.Proofs.Ytgffippimmokiaa

/- A row of ints that is read, wherever it begins; slices.Equal of two that are one. -/
namespace Go.Proofs.Ytgffippimmokiaa
open Go.RowKit
set_option linter.unusedSimpArgs false
set_option linter.unusedVariables false

/-- the numbers x lie from address a on, below block B, with room for c -/
def NatsAt (w : World) (B : Nat) (a : Option Addr) (x : List Nat) (c : Nat) : Prop :=
  x.length ≤ c ∧ c ≤ 9223372036854775807 ∧ B ≤ w.heap.size ∧ (x ≠ [] → ∃ b off, a = some ⟨b, off, none⟩ ∧ b < B ∧ ∀ (i q : Nat), x[i]? = some q → w.cell? ⟨b, off + i, none⟩ = some (.int .i64 (q : Int)))
theorem NatsAt.below {w w' : World} {B B' : Nat} {a : Option Addr} {x : List Nat} {c : Nat} (h : NatsAt w B a x c) (hb : Below B' w w') (hB : B ≤ B') : NatsAt w' B a x c := by
  obtain ⟨h1, h0, h2, h3⟩ := h
  refine ⟨h1, h0, Nat.le_trans h2 hb.size, fun hn => ?_⟩
  obtain ⟨b, off, ha, hlt, hc⟩ := h3 hn
  have hlt' : b < B' := Nat.lt_of_lt_of_le hlt hB
  exact ⟨b, off, ha, hlt, fun i q hi => (hb.cell (p := ⟨b, _, none⟩) hlt').trans (hc i q hi)⟩
theorem NatsAt.wider {w : World} {B B' : Nat} {a : Option Addr} {x : List Nat} {c : Nat} (h : NatsAt w B a x c) (h1 : B ≤ B') (h2 : B' ≤ w.heap.size) : NatsAt w B' a x c :=
  ⟨h.1, h.2.1, h2, fun hn => by
    obtain ⟨b, off, ha, hlt, hc⟩ := h.2.2.2 hn
    exact ⟨b, off, ha, by omega, hc⟩⟩
theorem NatsAt.here {w w' : World} {B B' : Nat} {a : Option Addr} {x : List Nat} {c : Nat} (h : NatsAt w B a x c) (hb : Below B' w w') (hB : B ≤ B') : NatsAt w' w'.heap.size a x c :=
  (h.below hb hB).wider (h.below hb hB).2.2.1 (Nat.le_refl _)
theorem NatsAt.mem {w : World} {B : Nat} {a : Option Addr} {x : List Nat} {c : Nat} (h : NatsAt w B a x c) {i q : Nat} (hi : x[i]? = some q) :
    ∃ b off, a = some ⟨b, off, none⟩ ∧ b < B ∧ w.cell? ⟨b, off + i, none⟩ = some (.int .i64 (q : Int)) := by
  obtain ⟨b, off, ha, hlt, hc⟩ := h.2.2.2 (fun e => by subst e; simp at hi)
  exact ⟨b, off, ha, hlt, hc i q hi⟩
theorem nats_nil (w : World) (B : Nat) (hB : B ≤ w.heap.size) : NatsAt w B none [] 0 := ⟨by simp, by simp, hB, by simp⟩
theorem nats_own {w : World} {B : Nat} {v : Value} {x : List Nat} (h : w.ownsRow B 3 1 v x.length (x.map intV)) : ∃ a c, v = .slice a x.length c ∧ NatsAt w w.heap.size a x c := by
  rcases h.2 with ⟨rfl, h0⟩ | ⟨g, cap, cur, rfl, hB, hg, hn, hm, hc, ht⟩
  · have : x = [] := List.length_eq_zero_iff.1 h0
    subst this
    exact ⟨none, 0, rfl, nats_nil w _ (Nat.le_refl _)⟩
  · refine ⟨some ⟨g, 0, none⟩, cap, rfl, hn, by simpa [maxLen] using hm, Nat.le_refl _, fun _ => ⟨g, 0, rfl, lt_of_heap hg, fun i q hi => ?_⟩⟩
    have hil := (List.getElem?_eq_some_iff.1 hi).1
    rw [Nat.zero_add, h.cellAt _ (by omega), List.getElem?_map, hi]; rfl
theorem NatsAt.cells {w : World} {B : Nat} {b off : Nat} {x : List Nat} {c : Nat} (h : NatsAt w B (some ⟨b, off, none⟩) x c) (m : Nat) : ∀ j u, ((x.take m).map intV)[j]? = some u → w.cell? ((⟨b, off, none⟩ : Addr).add j) = some u := by
  intro j u hj
  rw [List.getElem?_map, Option.map_eq_some_iff] at hj
  obtain ⟨q, hq, rfl⟩ := hj
  rw [List.getElem?_take] at hq
  split at hq
  · obtain ⟨b', off', e, _, hc⟩ := h.mem hq
    simp only [Option.some.injEq, Addr.mk.injEq, and_true] at e
    obtain ⟨rfl, rfl⟩ := e
    rw [Addr.add_lit]; exact hc
  · cases hq
theorem nat_cells_one (x : List Nat) : ∀ u ∈ x.map intV, u.oneCell' = true := by
  intro u hu
  obtain ⟨q, _, rfl⟩ := List.mem_map.1 hu
  rfl
theorem NatsAt.drop {w : World} {B : Nat} {a : Option Addr} {x : List Nat} {c : Nat} (h : NatsAt w B a x c) (k : Nat) : NatsAt w B (if c = k then a else a.map (·.add (k * 1))) (x.drop k) (c - k) := by
  obtain ⟨h1, h0, h2, h3⟩ := h
  refine ⟨by rw [List.length_drop]; omega, by omega, h2, fun hn => ?_⟩
  have hkl : k < x.length := by
    rcases Nat.lt_or_ge k x.length with h | h
    · exact h
    · exact absurd (List.drop_eq_nil_of_le h) hn
  obtain ⟨b, off, ha, hlt, hc⟩ := h3 (fun e => by subst e; simp at hn)
  subst ha
  refine ⟨b, off + k, by rw [if_neg (by omega)]; simp [Addr.add], hlt, fun i q hi => ?_⟩
  rw [List.getElem?_drop] at hi
  rw [show off + k + i = off + (k + i) by omega]
  exact hc (k + i) q hi
theorem Try.sizeInt : ∀ w : World, (sizeOf (Try.prog.elem 61)).run Try.prog w = .ok 1 w := fun w => by kernel_rfl
theorem elemInt : Try.prog.underlying 61 = some (.slice (Try.prog.elem 61)) := by kernel_rfl
/-- x[:k] -/
theorem nrun_to {w : World} {B : Nat} {a : Option Addr} {x : List Nat} {c : Nat} (h : NatsAt w B a x c) {k : Nat} (hk : k ≤ x.length) (n : Int) (hn : n = (k : Int)) (w' : World) :
    (Instr.slice 61 (.slice a x.length c) none (some (.int .i64 n)) none).run Try.prog w' = .ok (.slice a k c) w' := by
  have hc := h.1
  subst hn
  rw [run_slice_h w' 61 a x.length c elemInt .i64 (k : Int) (by omega) (by omega), Try.sizeInt]
  simp only [Result.andThen, sliced, Int.toNat_natCast]
  cases a <;> simp [Addr.add]
/-- x[k:] -/
theorem nrun_from {w : World} {B : Nat} {a : Option Addr} {x : List Nat} {c : Nat} (h : NatsAt w B a x c) {k : Nat} (hk : k ≤ x.length) (n : Int) (hn : n = (k : Int)) :
    ∃ y a2, y = x.drop k ∧ NatsAt w B a2 y (c - k) ∧ ∀ w' : World, (Instr.slice 61 (.slice a x.length c) (some (.int .i64 n)) none none).run Try.prog w' = .ok (.slice a2 y.length (c - k)) w' := by
  subst hn
  refine ⟨_, _, rfl, h.drop k, fun w' => ?_⟩
  rw [run_slice_l w' 61 a x.length c elemInt .i64 (k : Int) (by omega) (by omega), Try.sizeInt]
  simp only [Result.andThen, sliced, Int.toNat_natCast]
  rw [List.length_drop]

end Go.Proofs.Ytgffippimmokiaa
