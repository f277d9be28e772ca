/- A policy in memory, and a row of ints that is read; slices.Contains of it. -/
import Derived.Test.YtgffippimmokiaaPtOwn
import Derived.Test.YtgffippimmokiaaNats
import Derived.Test.YtgffippimmokiaaLogBox
namespace Go.Proofs.Ytgffippimmokiaa
open Go.RowKit
set_option linter.unusedSimpArgs false
set_option linter.unusedVariables false

/-- numbers, as ints -/
def asI (x : List Nat) : List Int := x.map (fun n : Nat => (n : Int))
theorem asI_mem {x : List Nat} {r : Nat} : (r : Int) ∈ asI x ↔ r ∈ x := by
  constructor
  · intro h
    obtain ⟨q, hq, e⟩ := List.mem_map.1 h
    have : q = r := Int.ofNat_inj.1 e
    exact this ▸ hq
  · exact fun h => List.mem_map.2 ⟨r, h, rfl⟩
theorem asI_len (x : List Nat) : (asI x).length = x.length := List.length_map _
theorem nats_iz {w : World} {B : Nat} {a : Option Addr} {x : List Nat} {c : Nat} (h : NatsAt w B a x c) : IzAt w B a (asI x) c := by
  obtain ⟨h1, h0, h2, h3⟩ := h
  refine ⟨by rw [asI_len]; exact h1, h0, h2, fun hn => ?_⟩
  obtain ⟨b, off, ha, hlt, hc⟩ := h3 (fun e => by subst e; simp [asI] at hn)
  refine ⟨b, off, ha, hlt, fun i q hi => ?_⟩
  rw [asI, List.getElem?_map, Option.map_eq_some_iff] at hi
  obtain ⟨n, hn, rfl⟩ := hi
  exact hc i n hn
/-- a policy in a block of its own -/
def PBox (w : World) (g : Nat) (last every : Int) (s : Value) : Prop :=
  w.cell? ⟨g, 0, none⟩ = some (.int .i64 last) ∧ w.cell? ⟨g, 1, none⟩ = some (.int .i64 every) ∧ w.cell? ⟨g, 2, none⟩ = some s ∧ g < w.heap.size
theorem PBox.below {w w' : World} {g : Nat} {last every : Int} {s : Value} (h : PBox w g last every s) (hb : Below w.heap.size w w') : PBox w' g last every s := by
  obtain ⟨h1, h2, h3, h4⟩ := h
  have h6 := hb.block g h4
  refine ⟨?_, ?_, ?_, Nat.lt_of_lt_of_le h4 hb.size⟩
  · rw [World.cell?_of_block h6]; exact h1
  · rw [World.cell?_of_block h6]; exact h2
  · rw [World.cell?_of_block h6]; exact h3
theorem pbox_new (w : World) (last every : Int) (s : Value) : PBox (w.alloc (.cells #[.int .i64 last, .int .i64 every, s] 63)) w.heap.size last every s := by
  have h : (w.alloc (.cells #[.int .i64 last, .int .i64 every, s] 63)).heap[w.heap.size]? = some (.cells #[.int .i64 last, .int .i64 every, s] 63 (0, 0)) := Deep.blk_alloc_new w _
  exact ⟨Lib.cell_of_heap h 0, Lib.cell_of_heap h 1, Lib.cell_of_heap h 2, lt_of_heap h⟩

set_option maxHeartbeats 1000000 in
theorem IxIz_any (a : Option Addr) (x : List Int) (c : Nat) (r : Int) (w : World) (hv : IzAt w w.heap.size a x c) :
    Calls Try.prog 122 #[.slice a x.length c, .int .i64 r] w fun e w' => ∃ q : Int, e = .returned (.int .i64 q) ∧ (0 ≤ q ↔ r ∈ x) ∧ w' = w := by
  have hl : x.length ≤ 9223372036854775807 := Nat.le_trans hv.1 hv.2.1
  have HV : Hid (IzAt w w.heap.size a x c) := hv
  clear hv
  go_enter Try.func122, Try.ntmps122
  go_wp2_with fail
  go_loopw [8] (fun i wr => ∃ k : Nat, k ≤ x.length ∧ i = .int .i64 k ∧ r ∉ x.take k ∧ wr = w) (fun i _ => x.length - (intOf i).toNat)
  case atStart => exact ⟨0, Nat.zero_le _, rfl, by simp, rfl⟩
  case round =>
    obtain ⟨k, hk, rfl, hn, rfl⟩ := hrel
    by_cases hlt : k < x.length
    · obtain ⟨y, hy⟩ : ∃ y, x[k]? = some y := ⟨x[k], List.getElem?_eq_getElem hlt⟩
      have hki : (k : Int) < (x.length : Int) := by omega
      obtain ⟨g, og, e1, hg, y1⟩ := HV.out.mem hy
      subst e1
      have HY : Hid (x[k]? = some y ∧ r ∉ x.take k) := ⟨hy, hn⟩
      clear hy hn
      by_cases hx : r = y
      · have e1 : (r == y) = true := by simp [hx]
        have HN : Hid (r = y) := hx
        clear hx
        go_wp2_with fail
        go_ret
        exact ⟨k, rfl, ⟨fun _ => by rw [HN.out]; exact List.mem_of_getElem? HY.out.1, fun _ => by omega⟩, rfl⟩
      · have e1 : (r == y) = false := by simp [hx]
        have HN : Hid (¬ r = y) := hx
        clear hx
        go_wp2_with fail
        go_roundw
        case rel =>
          refine ⟨k + 1, by omega, by go_num, ?_, by first | rfl | trivial⟩
          obtain ⟨hi, e⟩ := List.getElem?_eq_some_iff.1 HY.out.1
          rw [List.take_succ_eq_append_getElem hi, e, List.mem_append]
          rintro (h | h)
          · exact HY.out.2 h
          · exact HN.out (by simpa using h)
        case measure => simp [intOf]; omega
    · have HN : Hid (r ∉ x) := by
        rw [List.take_of_length_le (by omega)] at hn
        exact hn
      clear hn
      go_wp2_with fail
      go_ret
      exact ⟨-1, rfl, ⟨fun h => by omega, fun h => absurd h HN.out⟩, rfl⟩
set_option maxHeartbeats 400000 in
theorem CoIz_any (a : Option Addr) (x : List Int) (c : Nat) (r : Int) (w : World) (hv : IzAt w w.heap.size a x c) :
    Calls Try.prog 102 #[.slice a x.length c, .int .i64 r] w fun e w' => e = .returned (.bool (decide (r ∈ x))) ∧ w' = w := by
  have HV : Hid (IzAt w w.heap.size a x c) := hv
  clear hv
  go_enter Try.func102, Try.ntmps102
  go_wp2_with fail
  refine (IxIz_any a x c r _ HV.out).mono ?_
  rintro e w1 ⟨q, rfl, hq, we⟩
  subst we
  have HQ : Hid (0 ≤ q ↔ r ∈ x) := hq
  clear hq
  go_wp2_with fail
  go_ret
  refine ⟨?_, rfl⟩
  congr 2; have := HQ.out; by_cases h : r ∈ x <;> simp_all
end Go.Proofs.Ytgffippimmokiaa
