/- A policy in memory, and a row of ints that is read; slices.Contains of it. -/
import Derived.Test.YtgffippimmokiaaPtOwn
import Derived.Test.YtgffippimmokiaaNats
import Derived.Test.YtgffippimmokiaaLogBox
import Derived.Test.YtgffippimmokiaaPure
import Derived.Deep.QuietTactic
import Derived.BigQuiet
import Derived.Test.YtgffippimmokiaaShRun
namespace Go.Proofs.Ytgffippimmokiaa
open Go.RowKit
set_option linter.unusedSimpArgs false
set_option linter.unusedVariables false

/-- numbers, as ints -/
def asI (x : List Nat) : List Int := x.map (fun n : Nat => (n : Int))
theorem asI_mem {x : List Nat} {r : Nat} : (r : Int) ∈ asI x ↔ r ∈ x := by
  constructor
  · intro h
    obtain ⟨q, hq, e⟩ := List.mem_map.1 h
    have : q = r := Int.ofNat_inj.1 e
    exact this ▸ hq
  · exact fun h => List.mem_map.2 ⟨r, h, rfl⟩
theorem asI_len (x : List Nat) : (asI x).length = x.length := List.length_map _
theorem nats_iz {w : World} {B : Nat} {a : Option Addr} {x : List Nat} {c : Nat} (h : NatsAt w B a x c) : IzAt w B a (asI x) c := by
  obtain ⟨h1, h0, h2, h3⟩ := h
  refine ⟨by rw [asI_len]; exact h1, h0, h2, fun hn => ?_⟩
  obtain ⟨b, off, ha, hlt, hc⟩ := h3 (fun e => by subst e; simp [asI] at hn)
  refine ⟨b, off, ha, hlt, fun i q hi => ?_⟩
  rw [asI, List.getElem?_map, Option.map_eq_some_iff] at hi
  obtain ⟨n, hn, rfl⟩ := hi
  exact hc i n hn
/-- a policy in a block of its own -/
def PBox (w : World) (g : Nat) (last every : Int) (s : Value) : Prop :=
  w.cell? ⟨g, 0, none⟩ = some (.int .i64 last) ∧ w.cell? ⟨g, 1, none⟩ = some (.int .i64 every) ∧ w.cell? ⟨g, 2, none⟩ = some s ∧ g < w.heap.size
theorem PBox.below {w w' : World} {g : Nat} {last every : Int} {s : Value} (h : PBox w g last every s) (hb : Below w.heap.size w w') : PBox w' g last every s := by
  obtain ⟨h1, h2, h3, h4⟩ := h
  have h6 := hb.block g h4
  refine ⟨?_, ?_, ?_, Nat.lt_of_lt_of_le h4 hb.size⟩
  · rw [World.cell?_of_block h6]; exact h1
  · rw [World.cell?_of_block h6]; exact h2
  · rw [World.cell?_of_block h6]; exact h3
theorem pbox_new (w : World) (last every : Int) (s : Value) : PBox (w.alloc (.cells #[.int .i64 last, .int .i64 every, s] 63)) w.heap.size last every s := by
  have h : (w.alloc (.cells #[.int .i64 last, .int .i64 every, s] 63)).heap[w.heap.size]? = some (.cells #[.int .i64 last, .int .i64 every, s] 63 (0, 0)) := Deep.blk_alloc_new w _
  exact ⟨Lib.cell_of_heap h 0, Lib.cell_of_heap h 1, Lib.cell_of_heap h 2, lt_of_heap h⟩

set_option maxHeartbeats 1000000 in
theorem IxIz_any (a : Option Addr) (x : List Int) (c : Nat) (r : Int) (w : World) (hv : IzAt w w.heap.size a x c) :
    Calls Try.prog 122 #[.slice a x.length c, .int .i64 r] w fun e w' => ∃ q : Int, e = .returned (.int .i64 q) ∧ (0 ≤ q ↔ r ∈ x) ∧ w' = w := by
  have hl : x.length ≤ 9223372036854775807 := Nat.le_trans hv.1 hv.2.1
  have HV : Hid (IzAt w w.heap.size a x c) := hv
  clear hv
  go_enter Try.func122, Try.ntmps122
  go_wp2_with fail
  go_loopw [8] (fun i wr => ∃ k : Nat, k ≤ x.length ∧ i = .int .i64 k ∧ r ∉ x.take k ∧ wr = w) (fun i _ => x.length - (intOf i).toNat)
  case atStart => exact ⟨0, Nat.zero_le _, rfl, by simp, rfl⟩
  case round =>
    obtain ⟨k, hk, rfl, hn, rfl⟩ := hrel
    by_cases hlt : k < x.length
    · obtain ⟨y, hy⟩ : ∃ y, x[k]? = some y := ⟨x[k], List.getElem?_eq_getElem hlt⟩
      have hki : (k : Int) < (x.length : Int) := by omega
      obtain ⟨g, og, e1, hg, y1⟩ := HV.out.mem hy
      subst e1
      have HY : Hid (x[k]? = some y ∧ r ∉ x.take k) := ⟨hy, hn⟩
      clear hy hn
      by_cases hx : r = y
      · have e1 : (r == y) = true := by simp [hx]
        have HN : Hid (r = y) := hx
        clear hx
        go_wp2_with fail
        go_ret
        exact ⟨k, rfl, ⟨fun _ => by rw [HN.out]; exact List.mem_of_getElem? HY.out.1, fun _ => by omega⟩, rfl⟩
      · have e1 : (r == y) = false := by simp [hx]
        have HN : Hid (¬ r = y) := hx
        clear hx
        go_wp2_with fail
        go_roundw
        case rel =>
          refine ⟨k + 1, by omega, by go_num, ?_, by first | rfl | trivial⟩
          obtain ⟨hi, e⟩ := List.getElem?_eq_some_iff.1 HY.out.1
          rw [List.take_succ_eq_append_getElem hi, e, List.mem_append]
          rintro (h | h)
          · exact HY.out.2 h
          · exact HN.out (by simpa using h)
        case measure => simp [intOf]; omega
    · have HN : Hid (r ∉ x) := by
        rw [List.take_of_length_le (by omega)] at hn
        exact hn
      clear hn
      go_wp2_with fail
      go_ret
      exact ⟨-1, rfl, ⟨fun h => by omega, fun h => absurd h HN.out⟩, rfl⟩
set_option maxHeartbeats 400000 in
theorem CoIz_any (a : Option Addr) (x : List Int) (c : Nat) (r : Int) (w : World) (hv : IzAt w w.heap.size a x c) :
    Calls Try.prog 102 #[.slice a x.length c, .int .i64 r] w fun e w' => e = .returned (.bool (decide (r ∈ x))) ∧ w' = w := by
  have HV : Hid (IzAt w w.heap.size a x c) := hv
  clear hv
  go_enter Try.func102, Try.ntmps102
  go_wp2_with fail
  refine (IxIz_any a x c r _ HV.out).mono ?_
  rintro e w1 ⟨q, rfl, hq, we⟩
  subst we
  have HQ : Hid (0 ≤ q ↔ r ∈ x) := hq
  clear hq
  go_wp2_with fail
  go_ret
  refine ⟨?_, rfl⟩
  congr 2; have := HQ.out; by_cases h : r ∈ x <;> simp_all
end Go.Proofs.Ytgffippimmokiaa

/- Which revisions are kept: no program in it. -/
namespace Go.Proofs.Ytgffippimmokiaa
set_option linter.unusedSimpArgs false
set_option linter.unusedVariables false

/-- the error of a policy -/
def polE (last every : Int) (pins : List Int) : Int := if last < 1 ∨ every < 0 ∨ 2147483647 < last ∨ 2147483647 < every then 1 else if 16 < pins.length then 2 else if ∃ r ∈ pins, r < 0 ∨ 2147483647 < r then 1 else 0
theorem pol_zero {last every : Int} {pins : List Int} (h : polE last every pins = 0) : 1 ≤ last ∧ 0 ≤ every ∧ last ≤ 2147483647 ∧ every ≤ 2147483647 ∧ pins.length ≤ 16 ∧ ∀ r ∈ pins, 0 ≤ r ∧ r ≤ 2147483647 := by
  unfold polE at h
  split at h
  · cases h
  · split at h
    · cases h
    · split at h
      · cases h
      · rename_i h1 h2 h3
        refine ⟨by omega, by omega, by omega, by omega, by omega, fun r hr => ?_⟩
        rcases Decidable.em (r < 0 ∨ 2147483647 < r) with h4 | h4
        · exact absurd ⟨r, hr, h4⟩ h3
        · omega
/-- is r kept, where head is the last -/
def keptB (last every : Int) (pins : List Int) (head r : Nat) : Bool := decide ((head : Int) - r < last) || (decide (0 < every) && decide ((r : Int) % every = 0)) || decide ((r : Int) ∈ pins)
theorem keptB_iff {last every : Int} {pins : List Int} {head r : Nat} : keptB last every pins head r = true ↔ ((head : Int) - r < last ∨ (0 < every ∧ (r : Int) % every = 0) ∨ (r : Int) ∈ pins) := by
  simp [keptB, or_assoc]
/-- of the first n those that are kept -/
def keptN (last every : Int) (pins : List Int) (head n : Nat) : List Nat := (List.range n).filter (keptB last every pins head)
def keptL (last every : Int) (pins : List Int) (head : Nat) : List Nat := keptN last every pins head (head + 1)
theorem keptN_snoc (last every : Int) (pins : List Int) (head n : Nat) : keptN last every pins head (n + 1) = keptN last every pins head n ++ (if keptB last every pins head n = true then [n] else []) := by
  rw [keptN, List.range_succ, List.filter_append, keptN]
  congr 1
  by_cases h : keptB last every pins head n = true
  · rw [if_pos h, List.filter_cons_of_pos h]; rfl
  · rw [if_neg h, List.filter_cons_of_neg h]; rfl
theorem keptN_len (last every : Int) (pins : List Int) (head n : Nat) : (keptN last every pins head n).length ≤ n := by
  have h := List.length_filter_le (keptB last every pins head) (List.range n)
  rw [List.length_range] at h
  exact h
theorem kept_mem {last every : Int} {pins : List Int} {head r : Nat} : r ∈ keptL last every pins head ↔ r ≤ head ∧ keptB last every pins head r = true := by
  rw [keptL, keptN, List.mem_filter, List.mem_range]
  constructor
  · rintro ⟨h1, h2⟩; exact ⟨by omega, h2⟩
  · rintro ⟨h1, h2⟩; exact ⟨by omega, h2⟩
/-- the last one is kept -/
theorem kept_head {last every : Int} {pins : List Int} {head : Nat} (h : 1 ≤ last) : keptB last every pins head head = true := keptB_iff.2 (.inl (by omega))
theorem kept_last {last every : Int} {pins : List Int} {head : Nat} (h : 1 ≤ last) : keptL last every pins head = keptN last every pins head head ++ [head] := by
  rw [keptL, keptN_snoc, if_pos (kept_head h)]
/-- what is no longer kept never comes back -/
theorem kept_falls {last every : Int} {pins : List Int} {head r : Nat} (h : r ∈ keptL last every pins (head + 1)) (hr : r ≤ head) : r ∈ keptL last every pins head := by
  rw [kept_mem, keptB_iff] at h ⊢
  refine ⟨hr, ?_⟩
  rcases h.2 with h | h | h
  · exact .inl (by omega)
  · exact .inr (.inl h)
  · exact .inr (.inr h)
theorem kept_rises (last every : Int) (pins : List Int) (head : Nat) : (keptL last every pins head).Pairwise (· < ·) := List.Pairwise.filter _ List.pairwise_lt_range
theorem rises_at {l : List Nat} (h : l.Pairwise (· < ·)) {i j x y : Nat} (hij : i < j) (hx : l[i]? = some x) (hy : l[j]? = some y) : x < y := by
  obtain ⟨hi, rfl⟩ := List.getElem?_eq_some_iff.1 hx
  obtain ⟨hj, rfl⟩ := List.getElem?_eq_some_iff.1 hy
  exact List.pairwise_iff_getElem.1 h i j hi hj hij
/-- the least -/
theorem kept_floor {last every : Int} {pins : List Int} {head : Nat} (h : 1 ≤ last) : ∃ x, (keptL last every pins head)[0]? = some x ∧ x ∈ keptL last every pins head ∧ ∀ r ∈ keptL last every pins head, x ≤ r := by
  have hp : 0 < (keptL last every pins head).length := by rw [kept_last h]; simp
  refine ⟨(keptL last every pins head)[0], List.getElem?_eq_getElem hp, List.getElem_mem hp, fun r hr => ?_⟩
  obtain ⟨j, hj⟩ := List.getElem?_of_mem hr
  rcases Nat.eq_zero_or_pos j with rfl | h0
  · rw [List.getElem?_eq_getElem hp] at hj
    exact Nat.le_of_eq (Option.some.inj hj)
  · exact Nat.le_of_lt (rises_at (kept_rises last every pins head) h0 (List.getElem?_eq_getElem hp) hj)
/-- the floor never falls -/
theorem floor_rises {last every : Int} {pins : List Int} {head x y : Nat} (h : 1 ≤ last) (hx : (keptL last every pins head)[0]? = some x) (hy : (keptL last every pins (head + 1))[0]? = some y) : x ≤ y := by
  obtain ⟨x', h1, h2, h3⟩ := kept_floor (every := every) (pins := pins) (head := head) h
  obtain rfl : x' = x := Option.some.inj (h1.symm.trans hx)
  have hm := List.mem_of_getElem? hy
  rcases Nat.lt_or_ge head y with hlt | hge
  · have := (kept_mem.1 h2).1; omega
  · exact h3 y (kept_falls hm hge)
/-- with more of the last, and more pins, no less is kept -/
theorem kept_more {last more every : Int} {pins more2 : List Int} {head r : Nat} (hm : last ≤ more) (hp : ∀ q ∈ pins, q ∈ more2) (h : r ∈ keptL last every pins head) : r ∈ keptL more every more2 head := by
  rw [kept_mem, keptB_iff] at h ⊢
  refine ⟨h.1, ?_⟩
  rcases h.2 with h | h | h
  · exact .inl (by omega)
  · exact .inr (.inl h)
  · exact .inr (.inr (hp _ h))
/-- no more than these come to -/
theorem filter_or (p q : Nat → Bool) (l : List Nat) : (l.filter (fun r => p r || q r)).length ≤ (l.filter p).length + (l.filter q).length := by
  induction l with
  | nil => simp
  | cons x l ih =>
    simp only [List.filter_cons]
    cases p x <;> cases q x <;> simp <;> omega
theorem count_last (last : Int) (head : Nat) (h : 1 ≤ last) : ∀ n, n ≤ head + 1 → (((List.range n).filter (fun r : Nat => decide ((head : Int) - (r : Int) < last))).length : Int) ≤ max 0 (min last (head + 1) - (head + 1 - n)) := by
  intro n
  induction n with
  | zero => intro _; simp; omega
  | succ n ih =>
    intro hn
    have i := ih (by omega)
    rw [List.range_succ, List.filter_append, List.length_append]
    by_cases hd : (head : Int) - n < last
    · rw [List.filter_cons_of_pos (by simpa using hd)]
      simp only [List.filter_nil, List.length_cons, List.length_nil]
      omega
    · rw [List.filter_cons_of_neg (by simpa using hd)]
      simp only [List.filter_nil, List.length_nil]
      omega
theorem count_every (every : Int) (h : 0 < every) : ∀ n : Nat, (((List.range n).filter (fun r : Nat => decide ((r : Int) % every = 0))).length : Int) = (n + every - 1) / every := by
  intro n
  induction n with
  | zero => simp; exact (Int.ediv_eq_zero_of_lt (by omega) (by omega)).symm
  | succ n ih =>
    rw [List.range_succ, List.filter_append, List.length_append]
    have e1 : ((n + 1 : Nat) : Int) + every - 1 = (n : Int) + 1 * every := by omega
    rw [e1, Int.add_mul_ediv_right _ _ (by omega)]
    have e2 : every * ((n : Int) / every) + (n : Int) % every = n := Int.mul_ediv_add_emod _ _
    have e3 := Int.emod_nonneg (n : Int) (show every ≠ 0 by omega)
    have e4 := Int.emod_lt_of_pos (n : Int) h
    by_cases hd : (n : Int) % every = 0
    · rw [List.filter_cons_of_pos (by simpa using hd)]
      have e5 : ((n : Int) + every - 1) / every = (n : Int) / every := by
        rw [show (n : Int) + every - 1 = (every - 1) + every * ((n : Int) / every) by omega, Int.add_mul_ediv_left _ _ (by omega), Int.ediv_eq_zero_of_lt (by omega) (by omega), Int.zero_add]
      simp only [List.filter_nil, List.length_cons, List.length_nil]
      omega
    · rw [List.filter_cons_of_neg (by simpa using hd)]
      have e5 : ((n : Int) + every - 1) / every = (n : Int) / every + 1 := by
        rw [show (n : Int) + every - 1 = ((n : Int) % every - 1) + every * ((n : Int) / every + 1) by rw [Int.mul_add]; omega, Int.add_mul_ediv_left _ _ (by omega), Int.ediv_eq_zero_of_lt (by omega) (by omega), Int.zero_add]
      simp only [List.filter_nil, List.length_nil]
      omega
theorem nodup_le (l : List Int) : ∀ m : List Int, l.Nodup → (∀ x ∈ l, x ∈ m) → l.length ≤ m.length := by
  induction l with
  | nil => intro m _ _; simp
  | cons x l ih =>
    intro m hn hm
    obtain ⟨h1, h2⟩ := List.nodup_cons.1 hn
    have hx := hm x (by simp)
    have h3 := ih (m.erase x) h2 (fun y hy => (List.mem_erase_of_ne (fun e => h1 (by rw [← e]; exact hy))).2 (hm y (by simp [hy])))
    rw [List.length_erase_of_mem hx] at h3
    have h4 : 0 < m.length := List.length_pos_of_mem hx
    rw [List.length_cons]; omega
theorem count_pins (pins : List Int) (n : Nat) : ((List.range n).filter (fun r : Nat => decide ((r : Int) ∈ pins))).length ≤ pins.length := by
  have h : (((List.range n).filter (fun r : Nat => decide ((r : Int) ∈ pins))).map (fun r : Nat => (r : Int))).Nodup := by
    refine List.Pairwise.map _ (fun a b hab e => ?_) (List.Pairwise.filter _ List.pairwise_lt_range)
    have h1 : a < b := hab
    have h2 : (a : Int) = b := e
    omega
  have h2 : ∀ x ∈ ((List.range n).filter (fun r : Nat => decide ((r : Int) ∈ pins))).map (fun r : Nat => (r : Int)), x ∈ pins := by
    intro x hx
    obtain ⟨r, hr, rfl⟩ := List.mem_map.1 hx
    have := (List.mem_filter.1 hr).2
    simpa using this
  have h3 := nodup_le _ _ h h2
  rw [List.length_map] at h3
  exact h3
theorem kept_most {last every : Int} {pins : List Int} {head : Nat} (h : 1 ≤ last) (he : 0 ≤ every) :
    ((keptL last every pins head).length : Int) ≤ min last (head + 1) + pins.length + (if 0 < every then (head : Int) / every + 1 else 0) := by
  have h1 : (keptL last every pins head).length ≤ ((List.range (head + 1)).filter (fun r : Nat => decide ((head : Int) - (r : Int) < last) || (decide (0 < every) && decide ((r : Int) % every = 0)))).length + ((List.range (head + 1)).filter (fun r : Nat => decide ((r : Int) ∈ pins))).length := filter_or _ _ _
  have h2 := filter_or (fun r : Nat => decide ((head : Int) - (r : Int) < last)) (fun r : Nat => decide (0 < every) && decide ((r : Int) % every = 0)) (List.range (head + 1))
  have h3 := count_last last head h (head + 1) (Nat.le_refl _)
  have h4 := count_pins pins (head + 1)
  by_cases hp : 0 < every
  · have h5 := count_every every hp (head + 1)
    rw [if_pos hp]
    have e1 : ((head + 1 : Nat) : Int) + every - 1 = (head : Int) + 1 * every := by omega
    rw [e1, Int.add_mul_ediv_right _ _ (by omega)] at h5
    have h6 : (List.range (head + 1)).filter (fun r : Nat => decide (0 < every) && decide ((r : Int) % every = 0)) = (List.range (head + 1)).filter (fun r : Nat => decide ((r : Int) % every = 0)) := by
      congr 1; funext r; rw [decide_eq_true hp, Bool.true_and]
    rw [h6] at h2
    omega
  · rw [if_neg hp]
    have h6 : (List.range (head + 1)).filter (fun r : Nat => decide (0 < every) && decide ((r : Int) % every = 0)) = [] := by
      rw [List.filter_eq_nil_iff]; intro r _; rw [decide_eq_false hp]; simp
    rw [h6, List.length_nil] at h2
    omega
end Go.Proofs.Ytgffippimmokiaa

/- A row of ints of the call's own, with room or without; slices.Equal of two that are one. -/
namespace Go.Proofs.Ytgffippimmokiaa
open Go.RowKit
set_option linter.unusedSimpArgs false
set_option linter.unusedVariables false

/-- an answer of Find: the places, in a row of the call's own -/
def Ints (w : World) (B : Nat) (v : Value) (l : List Nat) : Prop := w.ownsRow B 3 1 v l.length (l.map intV)
theorem Ints.mono {w : World} {B B' : Nat} {v : Value} {l : List Nat} (h : Ints w B v l) (hB : B' ≤ B) : Ints w B' v l :=
  ⟨h.1, h.2.imp id fun ⟨g, cap, cur, h1, h2, r⟩ => ⟨g, cap, cur, h1, Nat.le_trans hB h2, r⟩⟩

theorem Ints.below {w w' : World} {B : Nat} {v : Value} {l : List Nat} (h : Ints w B v l) (hb : Below w.heap.size w w') : Ints w' B v l := by
  refine ⟨h.1, ?_⟩
  rcases h.2 with h0 | ⟨g', cap, cur, h1, hB, hc, h2⟩
  · exact .inl h0
  · exact .inr ⟨g', cap, cur, h1, hB, by rw [hb.block _ (lt_of_heap hc)]; exact hc, h2⟩
theorem Ints.cellOf {w : World} {B : Nat} {v : Value} {l : List Nat} (h : Ints w B v l) {i q : Nat} (hi : l[i]? = some q) : ∃ g cap, v = .slice (some ⟨g, 0, none⟩) l.length cap ∧ w.cell? ⟨g, i, none⟩ = some (.int .i64 q) ∧ g < w.heap.size :=
  own_at h (by rw [List.getElem?_map, hi]; rfl)


end Go.Proofs.Ytgffippimmokiaa

/- The program's Check, kept, Of and Floor: which revisions are kept. -/
namespace Go.Proofs.Ytgffippimmokiaa
open Go.RowKit
set_option linter.unusedSimpArgs false
set_option linter.unusedVariables false

abbrev polV (last every : Int) (a : Option Addr) (n c : Nat) : Value := .agg #[.int .i64 last, .int .i64 every, .slice a n c]
theorem polE_not {last every : Int} {pins : List Int} (h : last < 1 ∨ every < 0 ∨ 2147483647 < last ∨ 2147483647 < every) : polE last every pins = 1 := by rw [polE, if_pos h]
theorem polE_pins {last every : Int} {pins : List Int} (h : ¬ (last < 1 ∨ every < 0 ∨ 2147483647 < last ∨ 2147483647 < every)) : polE last every pins = if 16 < pins.length then 2 else if ∃ r ∈ pins, r < 0 ∨ 2147483647 < r then 1 else 0 := by rw [polE, if_neg h]
theorem out_pin {pins : List Int} {k : Nat} {q : Int} (h : pins[k]? = some q) (hq : q < 0 ∨ 2147483647 < q) : ∃ r ∈ pins, r < 0 ∨ 2147483647 < r := ⟨q, List.mem_of_getElem? h, hq⟩
theorem in_pins {pins : List Int} {k : Nat} {q : Int} (h : pins[k]? = some q) (h0 : ∀ r ∈ pins.take k, 0 ≤ r ∧ r ≤ 2147483647) (hq : 0 ≤ q ∧ q ≤ 2147483647) : ∀ r ∈ pins.take (k + 1), 0 ≤ r ∧ r ≤ 2147483647 := by
  intro r hr
  obtain ⟨hi, e⟩ := List.getElem?_eq_some_iff.1 h
  rw [List.take_succ_eq_append_getElem hi, e, List.mem_append] at hr
  rcases hr with hr | hr
  · exact h0 r hr
  · obtain rfl : r = q := by simpa using hr
    exact hq
theorem all_pins {pins : List Int} (h0 : ∀ r ∈ pins, 0 ≤ r ∧ r ≤ 2147483647) : ¬ ∃ r ∈ pins, r < 0 ∨ 2147483647 < r := by
  rintro ⟨r, hr, h⟩
  have := h0 r hr
  omega
set_option maxHeartbeats 2000000 in
theorem PolCheck_any (last every : Int) (a : Option Addr) (pins : List Int) (c : Nat) (w : World) (hv : IzAt w w.heap.size a pins c) :
    Calls Try.prog 71 #[polV last every a pins.length c] w fun e w' => e = .returned (.int .i64 (polE last every pins)) ∧ Below w.heap.size w w' := by
  have hl : pins.length ≤ 9223372036854775807 := Nat.le_trans hv.1 hv.2.1
  obtain ⟨w0, hw0⟩ : ∃ w0, w0 = w.alloc (.cells #[.int .i64 last, .int .i64 every, .slice a pins.length c] 63) := ⟨_, rfl⟩
  have HB : Hid (Below w.heap.size w w0) := by subst hw0; exact (Below.refl _ _).alloc (Nat.le_refl _) _
  have HV : Hid (IzAt w0 w.heap.size a pins c) := hv.below HB.out (Nat.le_refl _)
  have hbox : PBox w0 w.heap.size last every (.slice a pins.length c) := by subst hw0; exact pbox_new _ _ _ _
  obtain ⟨x0, x1, x2, x3⟩ := hbox
  clear hv
  subst hw0
  go_enter Try.func71, Try.ntmps71
  by_cases hbad : last < 1 ∨ every < 0 ∨ 2147483647 < last ∨ 2147483647 < every
  · have HE : Hid (polE last every pins = 1) := polE_not hbad
    by_cases h1 : last < 1
    · clear hbad
      go_wp2_with fail
      go_ret
      exact ⟨by rw [HE.out]; rfl, HB.out⟩
    · by_cases h2 : 2147483647 < last
      · clear hbad
        go_wp2_with fail
        go_ret
        exact ⟨by rw [HE.out]; rfl, HB.out⟩
      · by_cases h3 : every < 0
        · clear hbad
          go_wp2_with fail
          go_ret
          exact ⟨by rw [HE.out]; rfl, HB.out⟩
        · have h4 : 2147483647 < every := by omega
          clear hbad
          go_wp2_with fail
          go_ret
          exact ⟨by rw [HE.out]; rfl, HB.out⟩
  · have h1 : ¬ last < 1 := by omega
    have h2 : ¬ 2147483647 < last := by omega
    have h3 : ¬ every < 0 := by omega
    have h4 : ¬ 2147483647 < every := by omega
    have HE : Hid _ := polE_pins (pins := pins) hbad
    clear hbad
    by_cases h5 : 16 < pins.length
    · have h5i : (16 : Int) < (pins.length : Int) := by omega
      have HE2 : Hid (polE last every pins = 2) := by have h := HE.out; rw [if_pos h5] at h; exact h
      clear HE
      go_wp2_with fail
      go_ret
      exact ⟨by rw [HE2.out]; rfl, HB.out⟩
    · have h5i : ¬ (16 : Int) < (pins.length : Int) := by omega
      have HE2 : Hid (polE last every pins = if ∃ r ∈ pins, r < 0 ∨ 2147483647 < r then 1 else 0) := by have h := HE.out; rw [if_neg h5] at h; exact h
      clear HE
      go_wp2_with fail
      go_loopw [30] (fun i wr => ∃ k : Nat, k ≤ pins.length ∧ i = .int .i64 k ∧ (∀ r ∈ pins.take k, 0 ≤ r ∧ r ≤ 2147483647) ∧ wr = w.alloc (.cells #[.int .i64 last, .int .i64 every, .slice a pins.length c] 63)) (fun i _ => pins.length - (intOf i).toNat)
      case atStart => exact ⟨0, Nat.zero_le _, rfl, by simp, rfl⟩
      case round =>
        obtain ⟨k, hk, rfl, hn, rfl⟩ := hrel
        by_cases hlt : k < pins.length
        · obtain ⟨q, hq⟩ : ∃ q, pins[k]? = some q := ⟨pins[k], List.getElem?_eq_getElem hlt⟩
          have hki : (k : Int) < (pins.length : Int) := by omega
          obtain ⟨g, og, e1, hg, y1⟩ := HV.out.mem hq
          subst e1
          have HY : Hid (pins[k]? = some q ∧ ∀ r ∈ pins.take k, 0 ≤ r ∧ r ≤ 2147483647) := ⟨hq, hn⟩
          clear hq hn
          by_cases g1 : q < 0
          · have HN : Hid (polE last every pins = 1) := by show _ = _; rw [HE2.out, if_pos (out_pin HY.out.1 (.inl g1))]
            go_wp2_with fail
            go_ret
            exact ⟨by rw [HN.out]; rfl, HB.out⟩
          · by_cases g2 : 2147483647 < q
            · have HN : Hid (polE last every pins = 1) := by show _ = _; rw [HE2.out, if_pos (out_pin HY.out.1 (.inr g2))]
              go_wp2_with fail
              go_ret
              exact ⟨by rw [HN.out]; rfl, HB.out⟩
            · go_wp2_with fail
              go_roundw
              case rel => exact ⟨k + 1, by omega, by go_num, in_pins HY.out.1 HY.out.2 (by omega), by first | rfl | trivial⟩
              case measure => simp [intOf]; omega
        · have HN : Hid (polE last every pins = 0) := by
            rw [List.take_of_length_le (by omega)] at hn
            show _ = _
            rw [HE2.out, if_neg (all_pins hn)]
          clear hn
          go_wp2_with fail
          go_ret
          exact ⟨by rw [HN.out]; rfl, HB.out⟩

theorem keptB_yes {last every : Int} {pins : List Int} {head r : Nat} (h : (head : Int) - r < last ∨ (0 < every ∧ (r : Int) % every = 0) ∨ (r : Int) ∈ pins) : keptB last every pins head r = true := keptB_iff.2 h
theorem keptB_no {last every : Int} {pins : List Int} {head r : Nat} (h : ¬ ((head : Int) - r < last ∨ (0 < every ∧ (r : Int) % every = 0) ∨ (r : Int) ∈ pins)) : keptB last every pins head r = false := by
  cases e : keptB last every pins head r
  · rfl
  · exact absurd (keptB_iff.1 e) h
set_option maxHeartbeats 2000000 in
theorem kept_any (last every : Int) (a : Option Addr) (pins : List Int) (c head r : Nat) (w : World) (hv : IzAt w w.heap.size a pins c) (hl0 : 1 ≤ last) (hl1 : last ≤ 2147483647) (hr : r ≤ head) (hh : head ≤ 640) (he1 : every ≤ 2147483647) :
    Calls Try.prog 72 #[polV last every a pins.length c, .int .i64 (head : Int), .int .i64 (r : Int)] w fun e w' => e = .returned (.bool (keptB last every pins head r)) ∧ Below w.heap.size w w' := by
  obtain ⟨w0, hw0⟩ : ∃ w0, w0 = w.alloc (.cells #[.int .i64 last, .int .i64 every, .slice a pins.length c] 63) := ⟨_, rfl⟩
  have HB : Hid (Below w.heap.size w w0) := by subst hw0; exact (Below.refl _ _).alloc (Nat.le_refl _) _
  have HV : Hid (IzAt w0 w0.heap.size a pins c) := hv.here HB.out (Nat.le_refl _)
  have hbox : PBox w0 w.heap.size last every (.slice a pins.length c) := by subst hw0; exact pbox_new _ _ _ _
  obtain ⟨x0, x1, x2, x3⟩ := hbox
  clear hv
  subst hw0
  go_enter Try.func72, Try.ntmps72
  by_cases h1 : (head : Int) - last < (r : Int)
  · have HK : Hid (keptB last every pins head r = true) := keptB_yes (.inl (by omega))
    go_wp2_with fail
    go_ret
    exact ⟨by rw [HK.out]; rfl, HB.out⟩
  · go_wp2_with fail
    refine (CoIz_any a pins c (r : Int) _ HV.out).mono ?_
    rintro e w1 ⟨rfl, we⟩
    subst we
    by_cases h2 : (r : Int) ∈ pins
    · have HK : Hid (keptB last every pins head r = true) := keptB_yes (.inr (.inr h2))
      rw [decide_eq_true h2]
      clear h2
      go_wp2_with fail
      go_ret
      exact ⟨by rw [HK.out]; rfl, HB.out⟩
    · rw [decide_eq_false h2]
      have HN : Hid (¬ (r : Int) ∈ pins) := h2
      clear h2
      by_cases h3 : 0 < every
      · have ht : (r : Int).tmod every = (r : Int) % every := Int.tmod_eq_emod_of_nonneg (by omega)
        have h0 : (every == 0) = false := by simp; omega
        have h0' : every ≠ 0 := by omega
        by_cases h4 : (r : Int) % every = 0
        · have HK : Hid (keptB last every pins head r = true) := keptB_yes (.inr (.inl ⟨h3, h4⟩))
          go_wp2_with fail
          go_ret
          exact ⟨by rw [HK.out]; simp [ht, h4], HB.out⟩
        · have HK : Hid (keptB last every pins head r = false) := keptB_no (by have := HN.out; rintro (h | h | h); omega; exact h4 h.2; exact this h)
          go_wp2_with fail
          go_ret
          exact ⟨by rw [HK.out]; simp [ht, h4], HB.out⟩
      · have HK : Hid (keptB last every pins head r = false) := keptB_no (by have := HN.out; rintro (h | h | h); omega; exact h3 h.1; exact this h)
        go_wp2_with fail
        go_ret
        exact ⟨by rw [HK.out]; rfl, HB.out⟩
/-- the error of Of -/
def keepE (last every : Int) (pins : List Int) (head : Int) : Int := if polE last every pins = 0 then (if 0 ≤ head ∧ head ≤ 640 then 0 else 1) else polE last every pins
def polL (last every : Int) (pins : List Int) (head : Int) : List Nat := if keepE last every pins head = 0 then keptL last every pins head.toNat else []
theorem keepE_ok {last every : Int} {pins : List Int} {head : Int} (h : polE last every pins = 0) (h1 : 0 ≤ head) (h2 : head ≤ 640) : keepE last every pins head = 0 := by rw [keepE, if_pos h, if_pos ⟨h1, h2⟩]
theorem polL_ok {last every : Int} {pins : List Int} {head : Int} (h : polE last every pins = 0) (h1 : 0 ≤ head) (h2 : head ≤ 640) : polL last every pins head = keptL last every pins head.toNat := by rw [polL, if_pos (keepE_ok h h1 h2)]
theorem keepE_not {last every : Int} {pins : List Int} {head : Int} (h : polE last every pins ≠ 0) : keepE last every pins head = polE last every pins := by rw [keepE, if_neg h]
theorem keepE_out {last every : Int} {pins : List Int} {head : Int} (h : polE last every pins = 0) (h1 : ¬ (0 ≤ head ∧ head ≤ 640)) : keepE last every pins head = 1 := by rw [keepE, if_pos h, if_neg h1]
theorem polL_not {last every : Int} {pins : List Int} {head : Int} (h : keepE last every pins head ≠ 0) : polL last every pins head = [] := by rw [polL, if_neg h]
theorem keepE_zero {last every : Int} {pins : List Int} {head : Int} (h : keepE last every pins head = 0) : polE last every pins = 0 ∧ 0 ≤ head ∧ head ≤ 640 := by
  by_cases h1 : polE last every pins = 0
  · by_cases h2 : 0 ≤ head ∧ head ≤ 640
    · exact ⟨h1, h2⟩
    · rw [keepE_out h1 h2] at h; omega
  · rw [keepE_not h1] at h; exact absurd h h1
theorem own_low1 {w : World} {B B' n size : Nat} {e : TypeId} {v : Value} {xs : List Value} (h : w.ownsRow B e size v n xs) (hB : B' ≤ B) : w.ownsRow B' e size v n xs := by
  rcases h.2 with ⟨h1, h2⟩ | ⟨g, cap', cur, h1, h2, h3⟩
  · exact ⟨h.1, .inl ⟨h1, h2⟩⟩
  · exact ⟨h.1, .inr ⟨g, cap', cur, h1, Nat.le_trans hB h2, h3⟩⟩
set_option maxRecDepth 20000 in
set_option maxHeartbeats 4000000 in
theorem KeepOf_own (last every : Int) (a : Option Addr) (pins : List Int) (c : Nat) (head : Int) (w : World) (hv : IzAt w w.heap.size a pins c) :
    Calls Try.prog 29 #[polV last every a pins.length c, .int .i64 head] w fun e w' => ∃ ao co, e = .returned (.tuple #[.slice ao (polL last every pins head).length co, .int .i64 (keepE last every pins head)]) ∧ NatsAt w' w'.heap.size ao (polL last every pins head) co ∧ w'.ownsRow w.heap.size 3 1 (.slice ao (polL last every pins head).length co) (polL last every pins head).length ((polL last every pins head).map intV) ∧ Below w.heap.size w w' := by
  obtain ⟨ip, hip, hp0, hp1, hp2⟩ := info_parts infoInt
  obtain ⟨w0, hw0⟩ : ∃ w0, w0 = w.alloc (.cells #[.int .i64 last, .int .i64 every, .slice a pins.length c] 63) := ⟨_, rfl⟩
  have HB : Hid (Below w.heap.size w w0) := by subst hw0; exact (Below.refl _ _).alloc (Nat.le_refl _) _
  have HV0 : Hid (IzAt w w.heap.size a pins c) := hv
  have HV : Hid (IzAt w0 w0.heap.size a pins c) := hv.here HB.out (Nat.le_refl _)
  have hbox : PBox w0 w.heap.size last every (.slice a pins.length c) := by subst hw0; exact pbox_new _ _ _ _
  have HX : Hid (PBox w0 w.heap.size last every (.slice a pins.length c)) := hbox
  have hsz : w0.heap.size = w.heap.size + 1 := by subst hw0; exact Deep.nblk_alloc _ _
  have HSZ : Hid (w0.heap.size = w.heap.size + 1) := hsz
  obtain ⟨x0, x1, x2, x3⟩ := hbox
  clear hv hsz
  subst hw0
  go_enter Try.func29, Try.ntmps29
  go_wp2_with fail
  refine (PolCheck_any last every a pins c _ HV.out).mono ?_
  rintro e w1 ⟨rfl, hb1⟩
  have HB1 : Hid (Below w.heap.size w w1) := HB.out.trans (hb1.mono HB.out.size)
  have HX1 : Hid (PBox w1 w.heap.size last every (.slice a pins.length c)) := HX.out.below hb1
  clear hb1 x0 x1 x2 x3
  by_cases hz : polE last every pins = 0
  · have hz' : (polE last every pins != 0) = false := by simp [hz]
    have HZ : Hid (polE last every pins = 0) := hz
    obtain ⟨hl0, hE0, hl1, hE1, hpl, _⟩ := pol_zero hz
    clear hz
    by_cases hr : 0 ≤ head ∧ head ≤ 640
    · obtain ⟨hd, rfl⟩ : ∃ hd : Nat, head = (hd : Int) := ⟨head.toNat, by omega⟩
      have hh : hd ≤ 640 := by omega
      have HE : Hid (keepE last every pins hd = 0 ∧ polL last every pins hd = keptN last every pins hd (hd + 1)) := ⟨keepE_ok HZ.out hr.1 hr.2, by rw [polL_ok HZ.out hr.1 hr.2]; rfl⟩
      have g1 : ¬ (hd : Int) < 0 := by omega
      have g2 : ¬ (640 : Int) < (hd : Int) := by omega
      clear hr
      go_wp2_with fail
      go_loopw [7, 22] (fun v i wr => ∃ (k : Nat), k ≤ hd + 1 ∧ i = .int .i64 k ∧ wr.ownsRow (w.heap.size + 1) 3 1 v (keptN last every pins hd k).length ((keptN last every pins hd k).map intV) ∧ PBox wr w.heap.size last every (.slice a pins.length c) ∧ Below w.heap.size w wr) (fun _ i _ => hd + 1 - (intOf i).toNat)
      case atStart => exact ⟨0, Nat.zero_le _, rfl, World.ownsRow_nil _ _ _ _, HX1.out, HB1.out⟩
      case round =>
        rename World => wr
        obtain ⟨k, hk, rfl, hown, hbx, hb⟩ := hrel
        obtain ⟨ao, ca, rfl⟩ := slice_form hown
        have hz := hb.size
        have hgl := hbx.2.2.2
        by_cases hlt : k < hd + 1
        · have hki : (k : Int) < (hd : Int) + 1 := by omega
          have hfl := keptN_len last every pins hd k
          have HB2 : Hid (Below w.heap.size w wr) := hb
          have HO : Hid (wr.ownsRow (w.heap.size + 1) 3 1 (.slice ao (keptN last every pins hd k).length ca) (keptN last every pins hd k).length ((keptN last every pins hd k).map intV)) := hown
          have HXr : Hid (PBox wr w.heap.size last every (.slice a pins.length c)) := hbx
          have HF : Hid _ := keptN_snoc last every pins hd k
          have HVr : Hid (IzAt wr wr.heap.size a pins c) := HV0.out.here hb (Nat.le_refl _)
          obtain ⟨x0, x1, x2, x3⟩ := hbx
          clear hb hown
          go_wp2_with fail
          refine (kept_any last every a pins c hd k _ HVr.out hl0 hl1 (by omega) hh hE1).mono ?_
          rintro e w2 ⟨rfl, hb2⟩
          have HB3 : Hid (Below w.heap.size w w2) := HB2.out.trans (hb2.mono HB2.out.size)
          have HO2 : Hid (w2.ownsRow (w.heap.size + 1) 3 1 (.slice ao (keptN last every pins hd k).length ca) (keptN last every pins hd k).length ((keptN last every pins hd k).map intV)) := own_below HO.out hb2
          have HX2 : Hid (PBox w2 w.heap.size last every (.slice a pins.length c)) := HXr.out.below hb2
          have hz2 := hb2.size
          clear hb2 x0 x1 x2 x3
          cases hkb : keptB last every pins hd k
          · have HH : Hid _ := hkb
            clear hkb
            go_wp2_with fail
            go_roundw
            case rel =>
              refine ⟨k + 1, by omega, by go_num, ?_, HX2.out, HB3.out⟩
              have h := HF.out
              rw [HH.out, if_neg (by simp), List.append_nil] at h
              rw [h]; exact HO2.out
            case measure => simp [intOf]; omega
          · have HH : Hid _ := hkb
            have hAs := own_alloc HO2.out (.cells #[.int .i64 k] 3)
            clear hkb
            go_wp2_with (at_builtin; refine wpList_append_own _ rfl _ _ 61 rfl (w.heap.size + 1) 3 ip _ 1 8 Try.underlying61 hip hp0 hp1 hp2 rfl (by decide) _ _ _ rfl hAs ⟨w2.heap.size, 0, none⟩ 1 1 [.int .i64 k] rfl rfl (cell_one_new _ _ _) (by simp [Value.oneCell']) ?c3 ?c4 ?c5 ?_)
            case c3 => unfold maxLen; omega
            case c4 => omega
            case c5 => first | omega | (simp; omega)
            intro v' w3 hown2 hgrow _
            have HB4 : Hid (Below (w.heap.size + 1) w2 w3) := below_own ((Below.refl _ w2).alloc (by omega) _) hAs hgrow (by simp; omega)
            have HB5 : Hid (Below w.heap.size w w3) := HB3.out.trans (HB4.out.mono (by omega))
            have HX3 : Hid (PBox w3 w.heap.size last every (.slice a pins.length c)) := by
              obtain ⟨h1, h2, h3, h4⟩ := HX2.out
              have h6 := HB4.out.block w.heap.size (by omega)
              refine ⟨?_, ?_, ?_, by have := HB4.out.size; omega⟩
              · rw [World.cell?_of_block h6]; exact h1
              · rw [World.cell?_of_block h6]; exact h2
              · rw [World.cell?_of_block h6]; exact h3
            have HO3 : Hid (w3.ownsRow (w.heap.size + 1) 3 1 v' (keptN last every pins hd k ++ [k]).length ((keptN last every pins hd k ++ [k]).map intV)) := by
              show World.ownsRow _ _ _ _ _ _ _
              rw [List.length_append, List.map_append]; exact hown2
            clear hown2 hgrow hAs
            go_wp2_with fail
            go_roundw
            case rel =>
              refine ⟨k + 1, by omega, by go_num, ?_, HX3.out, HB5.out⟩
              have h := HF.out
              rw [HH.out, if_pos rfl] at h
              rw [h]; exact HO3.out
            case measure => simp [intOf]; omega
        · obtain rfl : k = hd + 1 := by omega
          have hki : ¬ ((hd + 1 : Nat) : Int) < (hd : Int) + 1 := by omega
          have hn := nats_own hown
          obtain ⟨a1, c1, e1, hn⟩ := hn
          simp only [Value.slice.injEq, true_and] at e1
          obtain ⟨rfl, rfl⟩ := e1
          have HO : Hid (NatsAt wr wr.heap.size ao (keptN last every pins hd (hd + 1)) ca ∧ wr.ownsRow w.heap.size 3 1 (.slice ao (keptN last every pins hd (hd + 1)).length ca) (keptN last every pins hd (hd + 1)).length ((keptN last every pins hd (hd + 1)).map intV) ∧ Below w.heap.size w wr) := ⟨hn, own_low1 hown (Nat.le_succ _), hb⟩
          clear hown hb hn hbx
          go_wp2_with fail
          go_ret2
          rw [HE.out.1, HE.out.2]
          exact ⟨ao, ca, rfl, HO.out.1, HO.out.2.1, HO.out.2.2⟩
    · have HE : Hid (keepE last every pins head = 1 ∧ polL last every pins head = []) := by
        have h := keepE_out HZ.out hr
        exact ⟨h, polL_not (by omega)⟩
      by_cases h1 : head < 0
      · clear hr
        go_wp2_with fail
        go_ret2
        rw [HE.out.1, HE.out.2]
        exact ⟨none, 0, rfl, nats_nil _ _ (Nat.le_refl _), World.ownsRow_nil _ _ _ _, HB1.out⟩
      · have h2 : 640 < head := by omega
        clear hr
        go_wp2_with fail
        go_ret2
        rw [HE.out.1, HE.out.2]
        exact ⟨none, 0, rfl, nats_nil _ _ (Nat.le_refl _), World.ownsRow_nil _ _ _ _, HB1.out⟩
  · have hz' : (polE last every pins != 0) = true := by simp [hz]
    have HE : Hid (keepE last every pins head = polE last every pins ∧ polL last every pins head = []) := ⟨keepE_not hz, polL_not (by rw [keepE_not hz]; exact hz)⟩
    clear hz
    go_wp2_with fail
    go_ret2
    rw [HE.out.1, HE.out.2]
    exact ⟨none, 0, rfl, nats_nil _ _ (Nat.le_refl _), World.ownsRow_nil _ _ _ _, HB1.out⟩
theorem KeepOf_any (last every : Int) (a : Option Addr) (pins : List Int) (c : Nat) (head : Int) (w : World) (hv : IzAt w w.heap.size a pins c) :
    Calls Try.prog 29 #[polV last every a pins.length c, .int .i64 head] w fun e w' => ∃ ao co, e = .returned (.tuple #[.slice ao (polL last every pins head).length co, .int .i64 (keepE last every pins head)]) ∧ NatsAt w' w'.heap.size ao (polL last every pins head) co ∧ Below w.heap.size w w' :=
  (KeepOf_own last every a pins c head w hv).mono fun e w' ⟨ao, co, h1, h2, _, h3⟩ => ⟨ao, co, h1, h2, h3⟩
/-- the answer of Floor -/
def floorN (last every : Int) (pins : List Int) (head : Int) : Nat := (polL last every pins head)[0]?.getD 0
end Go.Proofs.Ytgffippimmokiaa

/- What the laws on keeping ask besides: answers by case, rows written out, slices.Min. -/
namespace Go.Proofs.Ytgffippimmokiaa
open Go.RowKit
set_option linter.unusedSimpArgs false
set_option linter.unusedVariables false

theorem nats_lit (w : World) (x : List Nat) (hx : x.length ≤ 100) : NatsAt (w.alloc (.cells (x.map intV).toArray 3)) (w.heap.size + 1) (some ⟨w.heap.size, 0, none⟩) x x.length := by
  have h : (w.alloc (.cells (x.map intV).toArray 3)).heap[w.heap.size]? = some (.cells (x.map intV).toArray 3 (0, 0)) := Deep.blk_alloc_new w _
  refine ⟨Nat.le_refl _, by omega, by rw [Deep.nblk_alloc]; exact Nat.le_refl _, fun _ => ⟨_, 0, rfl, by omega, fun i q hi => ?_⟩⟩
  rw [Nat.zero_add]
  have h2 := Lib.cell_of_heap h i
  rw [h2]
  simp [hi, intV]
theorem ints_lit (w : World) (x : List Int) (hx : x.length ≤ 100) : IzAt (w.alloc (.cells (x.map (fun n => Value.int .i64 n)).toArray 3)) (w.heap.size + 1) (some ⟨w.heap.size, 0, none⟩) x x.length := by
  have h : (w.alloc (.cells (x.map (fun n => Value.int .i64 n)).toArray 3)).heap[w.heap.size]? = some (.cells (x.map (fun n => Value.int .i64 n)).toArray 3 (0, 0)) := Deep.blk_alloc_new w _
  refine ⟨Nat.le_refl _, by omega, by rw [Deep.nblk_alloc]; exact Nat.le_refl _, fun _ => ⟨_, 0, rfl, by omega, fun i q hi => ?_⟩⟩
  rw [Nat.zero_add]
  have h2 := Lib.cell_of_heap h i
  rw [h2]
  simp [hi]
theorem KOf_ok {last every : Int} (a : Option Addr) {pins : List Int} (c : Nat) {hd : Nat} (hz : polE last every pins = 0) (hh : hd ≤ 640) (w : World) (hv : IzAt w w.heap.size a pins c) :
    Calls Try.prog 29 #[polV last every a pins.length c, .int .i64 (hd : Int)] w fun e w' => ∃ ao co, e = .returned (.tuple #[.slice ao (keptL last every pins hd).length co, .int .i64 0]) ∧ NatsAt w' w'.heap.size ao (keptL last every pins hd) co ∧ Below w.heap.size w w' := by
  have h := KeepOf_any last every a pins c (hd : Int) w hv
  rw [keepE_ok hz (by omega) (by omega), polL_ok hz (by omega) (by omega)] at h
  exact h
theorem KOf_not {last every : Int} (a : Option Addr) {pins : List Int} (c : Nat) {head E : Int} (hE : keepE last every pins head = E) (h0 : E ≠ 0) (w : World) (hv : IzAt w w.heap.size a pins c) :
    Calls Try.prog 29 #[polV last every a pins.length c, .int .i64 head] w fun e w' => ∃ ao co, e = .returned (.tuple #[.slice ao 0 co, .int .i64 E]) ∧ Below w.heap.size w w' := by
  have h := KeepOf_any last every a pins c head w hv
  rw [polL_not (by rw [hE]; exact h0), hE] at h
  exact h.mono fun e w' ⟨ao, co, h1, _, h2⟩ => ⟨ao, co, h1, h2⟩
theorem KCo_yes (a : Option Addr) (x : List Nat) (c r : Nat) (w : World) (hv : NatsAt w w.heap.size a x c) (hr : r ∈ x) :
    Calls Try.prog 102 #[.slice a x.length c, .int .i64 (r : Int)] w fun e w' => e = .returned (.bool true) ∧ w' = w := by
  have h := CoIz_any a (asI x) c (r : Int) w (nats_iz hv)
  rw [asI_len, decide_eq_true (asI_mem.2 hr)] at h
  exact h
end Go.Proofs.Ytgffippimmokiaa
