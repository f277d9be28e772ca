/- Which revisions are kept: no program in it. -/
import Derived.Test.YtgffippimmokiaaPure
namespace Go.Proofs.Ytgffippimmokiaa
set_option linter.unusedSimpArgs false
set_option linter.unusedVariables false

/-- the error of a policy -/
def polE (last every : Int) (pins : List Int) : Int := if last < 1 ∨ every < 0 ∨ 2147483647 < last ∨ 2147483647 < every then 1 else if 16 < pins.length then 2 else if ∃ r ∈ pins, r < 0 ∨ 2147483647 < r then 1 else 0
theorem pol_zero {last every : Int} {pins : List Int} (h : polE last every pins = 0) : 1 ≤ last ∧ 0 ≤ every ∧ last ≤ 2147483647 ∧ every ≤ 2147483647 ∧ pins.length ≤ 16 ∧ ∀ r ∈ pins, 0 ≤ r ∧ r ≤ 2147483647 := by
  unfold polE at h
  split at h
  · cases h
  · split at h
    · cases h
    · split at h
      · cases h
      · rename_i h1 h2 h3
        refine ⟨by omega, by omega, by omega, by omega, by omega, fun r hr => ?_⟩
        rcases Decidable.em (r < 0 ∨ 2147483647 < r) with h4 | h4
        · exact absurd ⟨r, hr, h4⟩ h3
        · omega
/-- is r kept, where head is the last -/
def keptB (last every : Int) (pins : List Int) (head r : Nat) : Bool := decide ((head : Int) - r < last) || (decide (0 < every) && decide ((r : Int) % every = 0)) || decide ((r : Int) ∈ pins)
theorem keptB_iff {last every : Int} {pins : List Int} {head r : Nat} : keptB last every pins head r = true ↔ ((head : Int) - r < last ∨ (0 < every ∧ (r : Int) % every = 0) ∨ (r : Int) ∈ pins) := by
  simp [keptB, or_assoc]
/-- of the first n those that are kept -/
def keptN (last every : Int) (pins : List Int) (head n : Nat) : List Nat := (List.range n).filter (keptB last every pins head)
def keptL (last every : Int) (pins : List Int) (head : Nat) : List Nat := keptN last every pins head (head + 1)
theorem keptN_snoc (last every : Int) (pins : List Int) (head n : Nat) : keptN last every pins head (n + 1) = keptN last every pins head n ++ (if keptB last every pins head n = true then [n] else []) := by
  rw [keptN, List.range_succ, List.filter_append, keptN]
  congr 1
  by_cases h : keptB last every pins head n = true
  · rw [if_pos h, List.filter_cons_of_pos h]; rfl
  · rw [if_neg h, List.filter_cons_of_neg h]; rfl
theorem keptN_len (last every : Int) (pins : List Int) (head n : Nat) : (keptN last every pins head n).length ≤ n := by
  have h := List.length_filter_le (keptB last every pins head) (List.range n)
  rw [List.length_range] at h
  exact h
theorem kept_mem {last every : Int} {pins : List Int} {head r : Nat} : r ∈ keptL last every pins head ↔ r ≤ head ∧ keptB last every pins head r = true := by
  rw [keptL, keptN, List.mem_filter, List.mem_range]
  constructor
  · rintro ⟨h1, h2⟩; exact ⟨by omega, h2⟩
  · rintro ⟨h1, h2⟩; exact ⟨by omega, h2⟩
/-- the last one is kept -/
theorem kept_head {last every : Int} {pins : List Int} {head : Nat} (h : 1 ≤ last) : keptB last every pins head head = true := keptB_iff.2 (.inl (by omega))
theorem kept_last {last every : Int} {pins : List Int} {head : Nat} (h : 1 ≤ last) : keptL last every pins head = keptN last every pins head head ++ [head] := by
  rw [keptL, keptN_snoc, if_pos (kept_head h)]
/-- what is no longer kept never comes back -/
theorem kept_falls {last every : Int} {pins : List Int} {head r : Nat} (h : r ∈ keptL last every pins (head + 1)) (hr : r ≤ head) : r ∈ keptL last every pins head := by
  rw [kept_mem, keptB_iff] at h ⊢
  refine ⟨hr, ?_⟩
  rcases h.2 with h | h | h
  · exact .inl (by omega)
  · exact .inr (.inl h)
  · exact .inr (.inr h)
theorem kept_rises (last every : Int) (pins : List Int) (head : Nat) : (keptL last every pins head).Pairwise (· < ·) := List.Pairwise.filter _ List.pairwise_lt_range
theorem rises_at {l : List Nat} (h : l.Pairwise (· < ·)) {i j x y : Nat} (hij : i < j) (hx : l[i]? = some x) (hy : l[j]? = some y) : x < y := by
  obtain ⟨hi, rfl⟩ := List.getElem?_eq_some_iff.1 hx
  obtain ⟨hj, rfl⟩ := List.getElem?_eq_some_iff.1 hy
  exact List.pairwise_iff_getElem.1 h i j hi hj hij
/-- the least -/
theorem kept_floor {last every : Int} {pins : List Int} {head : Nat} (h : 1 ≤ last) : ∃ x, (keptL last every pins head)[0]? = some x ∧ x ∈ keptL last every pins head ∧ ∀ r ∈ keptL last every pins head, x ≤ r := by
  have hp : 0 < (keptL last every pins head).length := by rw [kept_last h]; simp
  refine ⟨(keptL last every pins head)[0], List.getElem?_eq_getElem hp, List.getElem_mem hp, fun r hr => ?_⟩
  obtain ⟨j, hj⟩ := List.getElem?_of_mem hr
  rcases Nat.eq_zero_or_pos j with rfl | h0
  · rw [List.getElem?_eq_getElem hp] at hj
    exact Nat.le_of_eq (Option.some.inj hj)
  · exact Nat.le_of_lt (rises_at (kept_rises last every pins head) h0 (List.getElem?_eq_getElem hp) hj)
/-- the floor never falls -/
theorem floor_rises {last every : Int} {pins : List Int} {head x y : Nat} (h : 1 ≤ last) (hx : (keptL last every pins head)[0]? = some x) (hy : (keptL last every pins (head + 1))[0]? = some y) : x ≤ y := by
  obtain ⟨x', h1, h2, h3⟩ := kept_floor (every := every) (pins := pins) (head := head) h
  obtain rfl : x' = x := Option.some.inj (h1.symm.trans hx)
  have hm := List.mem_of_getElem? hy
  rcases Nat.lt_or_ge head y with hlt | hge
  · have := (kept_mem.1 h2).1; omega
  · exact h3 y (kept_falls hm hge)
/-- with more of the last, and more pins, no less is kept -/
theorem kept_more {last more every : Int} {pins more2 : List Int} {head r : Nat} (hm : last ≤ more) (hp : ∀ q ∈ pins, q ∈ more2) (h : r ∈ keptL last every pins head) : r ∈ keptL more every more2 head := by
  rw [kept_mem, keptB_iff] at h ⊢
  refine ⟨h.1, ?_⟩
  rcases h.2 with h | h | h
  · exact .inl (by omega)
  · exact .inr (.inl h)
  · exact .inr (.inr (hp _ h))
/-- no more than these come to -/
theorem filter_or (p q : Nat → Bool) (l : List Nat) : (l.filter (fun r => p r || q r)).length ≤ (l.filter p).length + (l.filter q).length := by
  induction l with
  | nil => simp
  | cons x l ih =>
    simp only [List.filter_cons]
    cases p x <;> cases q x <;> simp <;> omega
theorem count_last (last : Int) (head : Nat) (h : 1 ≤ last) : ∀ n, n ≤ head + 1 → (((List.range n).filter (fun r : Nat => decide ((head : Int) - (r : Int) < last))).length : Int) ≤ max 0 (min last (head + 1) - (head + 1 - n)) := by
  intro n
  induction n with
  | zero => intro _; simp; omega
  | succ n ih =>
    intro hn
    have i := ih (by omega)
    rw [List.range_succ, List.filter_append, List.length_append]
    by_cases hd : (head : Int) - n < last
    · rw [List.filter_cons_of_pos (by simpa using hd)]
      simp only [List.filter_nil, List.length_cons, List.length_nil]
      omega
    · rw [List.filter_cons_of_neg (by simpa using hd)]
      simp only [List.filter_nil, List.length_nil]
      omega
theorem count_every (every : Int) (h : 0 < every) : ∀ n : Nat, (((List.range n).filter (fun r : Nat => decide ((r : Int) % every = 0))).length : Int) = (n + every - 1) / every := by
  intro n
  induction n with
  | zero => simp; exact (Int.ediv_eq_zero_of_lt (by omega) (by omega)).symm
  | succ n ih =>
    rw [List.range_succ, List.filter_append, List.length_append]
    have e1 : ((n + 1 : Nat) : Int) + every - 1 = (n : Int) + 1 * every := by omega
    rw [e1, Int.add_mul_ediv_right _ _ (by omega)]
    have e2 : every * ((n : Int) / every) + (n : Int) % every = n := Int.mul_ediv_add_emod _ _
    have e3 := Int.emod_nonneg (n : Int) (show every ≠ 0 by omega)
    have e4 := Int.emod_lt_of_pos (n : Int) h
    by_cases hd : (n : Int) % every = 0
    · rw [List.filter_cons_of_pos (by simpa using hd)]
      have e5 : ((n : Int) + every - 1) / every = (n : Int) / every := by
        rw [show (n : Int) + every - 1 = (every - 1) + every * ((n : Int) / every) by omega, Int.add_mul_ediv_left _ _ (by omega), Int.ediv_eq_zero_of_lt (by omega) (by omega), Int.zero_add]
      simp only [List.filter_nil, List.length_cons, List.length_nil]
      omega
    · rw [List.filter_cons_of_neg (by simpa using hd)]
      have e5 : ((n : Int) + every - 1) / every = (n : Int) / every + 1 := by
        rw [show (n : Int) + every - 1 = ((n : Int) % every - 1) + every * ((n : Int) / every + 1) by rw [Int.mul_add]; omega, Int.add_mul_ediv_left _ _ (by omega), Int.ediv_eq_zero_of_lt (by omega) (by omega), Int.zero_add]
      simp only [List.filter_nil, List.length_nil]
      omega
theorem nodup_le (l : List Int) : ∀ m : List Int, l.Nodup → (∀ x ∈ l, x ∈ m) → l.length ≤ m.length := by
  induction l with
  | nil => intro m _ _; simp
  | cons x l ih =>
    intro m hn hm
    obtain ⟨h1, h2⟩ := List.nodup_cons.1 hn
    have hx := hm x (by simp)
    have h3 := ih (m.erase x) h2 (fun y hy => (List.mem_erase_of_ne (fun e => h1 (by rw [← e]; exact hy))).2 (hm y (by simp [hy])))
    rw [List.length_erase_of_mem hx] at h3
    have h4 : 0 < m.length := List.length_pos_of_mem hx
    rw [List.length_cons]; omega
theorem count_pins (pins : List Int) (n : Nat) : ((List.range n).filter (fun r : Nat => decide ((r : Int) ∈ pins))).length ≤ pins.length := by
  have h : (((List.range n).filter (fun r : Nat => decide ((r : Int) ∈ pins))).map (fun r : Nat => (r : Int))).Nodup := by
    refine List.Pairwise.map _ (fun a b hab e => ?_) (List.Pairwise.filter _ List.pairwise_lt_range)
    have h1 : a < b := hab
    have h2 : (a : Int) = b := e
    omega
  have h2 : ∀ x ∈ ((List.range n).filter (fun r : Nat => decide ((r : Int) ∈ pins))).map (fun r : Nat => (r : Int)), x ∈ pins := by
    intro x hx
    obtain ⟨r, hr, rfl⟩ := List.mem_map.1 hx
    have := (List.mem_filter.1 hr).2
    simpa using this
  have h3 := nodup_le _ _ h h2
  rw [List.length_map] at h3
  exact h3
theorem kept_most {last every : Int} {pins : List Int} {head : Nat} (h : 1 ≤ last) (he : 0 ≤ every) :
    ((keptL last every pins head).length : Int) ≤ min last (head + 1) + pins.length + (if 0 < every then (head : Int) / every + 1 else 0) := by
  have h1 : (keptL last every pins head).length ≤ ((List.range (head + 1)).filter (fun r : Nat => decide ((head : Int) - (r : Int) < last) || (decide (0 < every) && decide ((r : Int) % every = 0)))).length + ((List.range (head + 1)).filter (fun r : Nat => decide ((r : Int) ∈ pins))).length := filter_or _ _ _
  have h2 := filter_or (fun r : Nat => decide ((head : Int) - (r : Int) < last)) (fun r : Nat => decide (0 < every) && decide ((r : Int) % every = 0)) (List.range (head + 1))
  have h3 := count_last last head h (head + 1) (Nat.le_refl _)
  have h4 := count_pins pins (head + 1)
  by_cases hp : 0 < every
  · have h5 := count_every every hp (head + 1)
    rw [if_pos hp]
    have e1 : ((head + 1 : Nat) : Int) + every - 1 = (head : Int) + 1 * every := by omega
    rw [e1, Int.add_mul_ediv_right _ _ (by omega)] at h5
    have h6 : (List.range (head + 1)).filter (fun r : Nat => decide (0 < every) && decide ((r : Int) % every = 0)) = (List.range (head + 1)).filter (fun r : Nat => decide ((r : Int) % every = 0)) := by
      congr 1; funext r; rw [decide_eq_true hp, Bool.true_and]
    rw [h6] at h2
    omega
  · rw [if_neg hp]
    have h6 : (List.range (head + 1)).filter (fun r : Nat => decide (0 < every) && decide ((r : Int) % every = 0)) = [] := by
      rw [List.filter_eq_nil_iff]; intro r _; rw [decide_eq_false hp]; simp
    rw [h6, List.length_nil] at h2
    omega
end Go.Proofs.Ytgffippimmokiaa
