/- What the laws on keeping ask besides: answers by case, rows written out, slices.Min. -/
import Derived.Test.YtinhidddfpjjkaaKeepOf
import Derived.Test.YtinhidddfpjjkaaNumWithin
namespace Go.Proofs.Ytinhidddfpjjkaa
open Go.RowKit
set_option linter.unusedSimpArgs false
set_option linter.unusedVariables false

theorem nats_lit (w : World) (x : List Nat) (hx : x.length ≤ 100) : NatsAt (w.alloc (.cells (x.map intV).toArray 3)) (w.heap.size + 1) (some ⟨w.heap.size, 0, none⟩) x x.length := by
  have h : (w.alloc (.cells (x.map intV).toArray 3)).heap[w.heap.size]? = some (.cells (x.map intV).toArray 3 (0, 0)) := Deep.blk_alloc_new w _
  refine ⟨Nat.le_refl _, by omega, by rw [Deep.nblk_alloc]; exact Nat.le_refl _, fun _ => ⟨_, 0, rfl, by omega, fun i q hi => ?_⟩⟩
  rw [Nat.zero_add]
  have h2 := Lib.cell_of_heap h i
  rw [h2]
  simp [hi, intV]
theorem ints_lit (w : World) (x : List Int) (hx : x.length ≤ 100) : IzAt (w.alloc (.cells (x.map (fun n => Value.int .i64 n)).toArray 3)) (w.heap.size + 1) (some ⟨w.heap.size, 0, none⟩) x x.length := by
  have h : (w.alloc (.cells (x.map (fun n => Value.int .i64 n)).toArray 3)).heap[w.heap.size]? = some (.cells (x.map (fun n => Value.int .i64 n)).toArray 3 (0, 0)) := Deep.blk_alloc_new w _
  refine ⟨Nat.le_refl _, by omega, by rw [Deep.nblk_alloc]; exact Nat.le_refl _, fun _ => ⟨_, 0, rfl, by omega, fun i q hi => ?_⟩⟩
  rw [Nat.zero_add]
  have h2 := Lib.cell_of_heap h i
  rw [h2]
  simp [hi]
theorem KOf_ok {last every : Int} (a : Option Addr) {pins : List Int} (c : Nat) {hd : Nat} (hz : polE last every pins = 0) (hh : hd ≤ 640) (w : World) (hv : IzAt w w.heap.size a pins c) :
    Calls Try.prog 9 #[polV last every a pins.length c, .int .i64 (hd : Int)] w fun e w' => ∃ ao co, e = .returned (.tuple #[.slice ao (keptL last every pins hd).length co, .int .i64 0]) ∧ NatsAt w' w'.heap.size ao (keptL last every pins hd) co ∧ Below w.heap.size w w' := by
  have h := KeepOf_any last every a pins c (hd : Int) w hv
  rw [keepE_ok hz (by omega) (by omega), keepL_ok hz (by omega) (by omega)] at h
  exact h
theorem KOf_not {last every : Int} (a : Option Addr) {pins : List Int} (c : Nat) {head E : Int} (hE : keepE last every pins head = E) (h0 : E ≠ 0) (w : World) (hv : IzAt w w.heap.size a pins c) :
    Calls Try.prog 9 #[polV last every a pins.length c, .int .i64 head] w fun e w' => ∃ ao co, e = .returned (.tuple #[.slice ao 0 co, .int .i64 E]) ∧ Below w.heap.size w w' := by
  have h := KeepOf_any last every a pins c head w hv
  rw [keepL_not (by rw [hE]; exact h0), hE] at h
  exact h.mono fun e w' ⟨ao, co, h1, _, h2⟩ => ⟨ao, co, h1, h2⟩
theorem KFl_ok {last every : Int} (a : Option Addr) {pins : List Int} (c : Nat) {hd x : Nat} (hz : polE last every pins = 0) (hh : hd ≤ 640) (hx : (keptL last every pins hd)[0]? = some x) (w : World) (hv : IzAt w w.heap.size a pins c) :
    Calls Try.prog 10 #[polV last every a pins.length c, .int .i64 (hd : Int)] w fun e w' => e = .returned (.tuple #[.int .i64 (x : Int), .int .i64 0]) ∧ Below w.heap.size w w' := by
  have h := KeepFloor_any last every a pins c (hd : Int) w hv
  rw [keepE_ok hz (by omega) (by omega), floorN, keepL_ok hz (by omega) (by omega), show ((hd : Int)).toNat = hd from rfl, hx] at h
  exact h
theorem KFl_not {last every : Int} (a : Option Addr) {pins : List Int} (c : Nat) {head E : Int} (hE : keepE last every pins head = E) (h0 : E ≠ 0) (w : World) (hv : IzAt w w.heap.size a pins c) :
    Calls Try.prog 10 #[polV last every a pins.length c, .int .i64 head] w fun e w' => e = .returned (.tuple #[.int .i64 0, .int .i64 E]) ∧ Below w.heap.size w w' := by
  have h := KeepFloor_any last every a pins c head w hv
  rw [floorN, keepL_not (by rw [hE]; exact h0), hE] at h
  exact h
theorem KCo_yes (a : Option Addr) (x : List Nat) (c r : Nat) (w : World) (hv : NatsAt w w.heap.size a x c) (hr : r ∈ x) :
    Calls Try.prog 16 #[.slice a x.length c, .int .i64 (r : Int)] w fun e w' => e = .returned (.bool true) ∧ w' = w := by
  have h := CoIz_any a (asI x) c (r : Int) w (nats_iz hv)
  rw [asI_len, decide_eq_true (asI_mem.2 hr)] at h
  exact h
theorem min_two (ts : Array TypeId) (t : TypeId) (a b m : Nat) (h : m = min a b) (w : World) : (Builtin.min_ ts t #[.int .i64 (a : Int), .int .i64 (b : Int)]).run Try.prog w = .ok (.int .i64 (m : Int)) w := by
  subst h
  by_cases h : a < b
  · have h2 : ¬ b < a := by omega
    have h1' : (a : Int) < (b : Int) := by omega
    have h2' : ¬ (b : Int) < (a : Int) := by omega
    simp [Builtin.min_, Builtin.min2, h1', h2']; omega
  · have h1' : ¬ (a : Int) < (b : Int) := by omega
    by_cases h2 : b < a
    · have h2' : (b : Int) < (a : Int) := by omega
      simp [Builtin.min_, Builtin.min2, h1', h2']; omega
    · have h2' : ¬ (b : Int) < (a : Int) := by omega
      simp [Builtin.min_, Builtin.min2, h1', h2']; omega
theorem min_take {x : List Nat} {k m q : Nat} (h1 : m ∈ x.take k) (h2 : ∀ r ∈ x.take k, m ≤ r) (hq : x[k]? = some q) : min m q ∈ x.take (k + 1) ∧ ∀ r ∈ x.take (k + 1), min m q ≤ r := by
  have ht : x.take (k + 1) = x.take k ++ [q] := by rw [List.take_add_one, hq]; rfl
  rw [ht]
  constructor
  · rw [List.mem_append]
    rcases Nat.lt_or_ge q m with h | h
    · right; rw [Nat.min_eq_right (by omega)]; simp
    · left; rw [Nat.min_eq_left h]; exact h1
  · intro r hr
    rw [List.mem_append] at hr
    rcases hr with hr | hr
    · have := h2 r hr; omega
    · obtain rfl : r = q := by simpa using hr
      omega
set_option maxHeartbeats 1000000 in
theorem Min_any (a : Option Addr) (x : List Nat) (c : Nat) (w : World) (hv : NatsAt w w.heap.size a x c) (hx : 0 < x.length) :
    Calls Try.prog 17 #[.slice a x.length c] w fun e w' => ∃ m : Nat, e = .returned (.int .i64 (m : Int)) ∧ m ∈ x ∧ (∀ r ∈ x, m ≤ r) ∧ w' = w := by
  have hl : x.length ≤ 9223372036854775807 := Nat.le_trans hv.1 hv.2.1
  obtain ⟨z, hz⟩ : ∃ z, x[0]? = some z := ⟨x[0], List.getElem?_eq_getElem hx⟩
  obtain ⟨g, og, e1, hg, y1⟩ := hv.mem hz
  subst e1
  rw [Nat.add_zero] at y1
  have HV : Hid (NatsAt w w.heap.size (some ⟨g, og, none⟩) x c) := hv
  have HZ : Hid (z ∈ x.take 1 ∧ ∀ r ∈ x.take 1, z ≤ r) := by
    have ht : x.take 1 = [z] := by rw [List.take_add_one, hz]; rfl
    rw [ht]; exact ⟨by simp, by simp⟩
  have hxi : ¬ (x.length : Int) < 1 := by omega
  have hxj : (0 : Int) < (x.length : Int) := by omega
  clear hv hz
  go_enter Try.func17, Try.ntmps17
  go_wp2_with fail
  go_loopw [3, 4] (fun v i wr => ∃ (k m : Nat), 1 ≤ k ∧ k ≤ x.length ∧ i = .int .i64 k ∧ v = .int .i64 m ∧ m ∈ x.take k ∧ (∀ r ∈ x.take k, m ≤ r) ∧ wr = w) (fun _ i _ => x.length - (intOf i).toNat)
  case atStart => exact ⟨1, z, Nat.le_refl _, hx, rfl, rfl, HZ.out.1, HZ.out.2, rfl⟩
  case round =>
    obtain ⟨k, m, hk1, hk, rfl, rfl, hm1, hm2, rfl⟩ := hrel
    by_cases hlt : k < x.length
    · obtain ⟨q, hq⟩ : ∃ q, x[k]? = some q := ⟨x[k], List.getElem?_eq_getElem hlt⟩
      have hki : (k : Int) < (x.length : Int) := by omega
      obtain ⟨g', og', e2, _, y2⟩ := HV.out.mem hq
      simp only [Option.some.injEq, Addr.mk.injEq, and_true] at e2
      obtain ⟨rfl, rfl⟩ := e2
      have HM : Hid _ := min_take hm1 hm2 hq
      have hmn := fun ts t w => min_two ts t m q _ rfl w
      obtain ⟨mm, hmm⟩ : ∃ mm, min m q = mm := ⟨_, rfl⟩
      rw [hmm] at HM hmn
      clear hm1 hm2 hq hmm
      go_wp2_with fail
      go_roundw
      case rel => exact ⟨k + 1, mm, by omega, by omega, by go_num, rfl, HM.out.1, HM.out.2, by first | rfl | trivial⟩
      case measure => simp [intOf]; omega
    · have hki : ¬ (k : Int) < (x.length : Int) := by omega
      have HM : Hid (m ∈ x ∧ ∀ r ∈ x, m ≤ r) := by
        rw [List.take_of_length_le (by omega)] at hm1 hm2
        exact ⟨hm1, hm2⟩
      clear hm1 hm2
      go_wp2_with fail
      go_ret
      exact ⟨m, rfl, HM.out.1, HM.out.2, rfl⟩
end Go.Proofs.Ytinhidddfpjjkaa
