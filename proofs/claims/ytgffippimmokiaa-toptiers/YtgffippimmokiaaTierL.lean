/- Blocks of two, four, eight revisions, one behind the other: no program in it. -/
import Derived.Test.YtgffippimmokiaaPure
import Derived.Test.YtgffippimmokiaaRevL
namespace Go.Proofs.Ytgffippimmokiaa
set_option linter.unusedSimpArgs false
set_option linter.unusedVariables false

/-- the first block of a level that does not begin ahead of i -/
def upTo (i v : Nat) : Nat := (i + 2 ^ v - 1) / 2 ^ v
/-- the greatest level that has a block within -/
def lvlOf (i k : Nat) : Option Nat := [6, 5, 4, 3, 2, 1, 0].find? (fun v => decide ((upTo i v + 1) * 2 ^ v ≤ k))
def covF : Nat → Nat → Nat → List (Nat × Nat)
  | 0, _, _ => []
  | f + 1, i, k => match lvlOf i k with
    | none => []
    | some v => covF f i (upTo i v * 2 ^ v) ++ (v, upTo i v) :: covF f ((upTo i v + 1) * 2 ^ v) k
def covL (i k : Nat) : List (Nat × Nat) := covF 64 i k
theorem up_ge (i v : Nat) : i ≤ upTo i v * 2 ^ v := by
  have hp : 0 < 2 ^ v := Nat.two_pow_pos v
  have h1 := Nat.div_add_mod (i + 2 ^ v - 1) (2 ^ v)
  have h2 := Nat.mod_lt (i + 2 ^ v - 1) hp
  have h3 : upTo i v * 2 ^ v = 2 ^ v * ((i + 2 ^ v - 1) / 2 ^ v) := Nat.mul_comm _ _
  omega
theorem up_next (b v : Nat) : (b + 1) * 2 ^ v = b * 2 ^ v + 2 ^ v := by rw [Nat.add_mul, Nat.one_mul]
theorem lvl_some {i k v : Nat} (h : lvlOf i k = some v) : v ≤ 6 ∧ (upTo i v + 1) * 2 ^ v ≤ k := by
  have h1 := List.find?_some h
  have h2 := List.mem_of_find?_eq_some h
  refine ⟨?_, by simpa using h1⟩
  simp only [List.mem_cons, List.not_mem_nil, or_false] at h2
  omega
theorem lvl_none {i k : Nat} (h : lvlOf i k = none) : k ≤ i := by
  have h1 := List.find?_eq_none.1 h 0 (by simp)
  have h2 : ¬ (upTo i 0 + 1) * 2 ^ 0 ≤ k := by simpa using h1
  have h3 : upTo i 0 = i := by simp [upTo]
  rw [h3] at h2
  omega
theorem lvl_in {i k v : Nat} (h : lvlOf i k = some v) : i ≤ upTo i v * 2 ^ v ∧ upTo i v * 2 ^ v < (upTo i v + 1) * 2 ^ v ∧ (upTo i v + 1) * 2 ^ v ≤ k := by
  have hp : 0 < 2 ^ v := Nat.two_pow_pos v
  have := up_next (upTo i v) v
  exact ⟨up_ge i v, by omega, (lvl_some h).2⟩
/-- steps enough -/
theorem cov_more : ∀ (f g i k : Nat), k - i ≤ f → k - i ≤ g → covF f i k = covF g i k := by
  intro f
  induction f with
  | zero =>
    intro g i k hf hg
    cases g with
    | zero => rfl
    | succ g =>
      rw [covF, covF]
      cases h : lvlOf i k with
      | none => rfl
      | some v => have := lvl_in h; omega
  | succ f ih =>
    intro g i k hf hg
    cases g with
    | zero =>
      rw [covF, covF]
      cases h : lvlOf i k with
      | none => rfl
      | some v => have := lvl_in h; omega
    | succ g =>
      rw [covF, covF]
      cases h : lvlOf i k with
      | none => rfl
      | some v =>
        obtain ⟨h1, h2, h3⟩ := lvl_in h
        simp only
        rw [ih g i _ (by omega) (by omega), ih g _ k (by omega) (by omega)]
/-- blocks one behind the other, from i to k -/
def Tiles (i k : Nat) : List (Nat × Nat) → Prop
  | [] => i = k
  | x :: r => x.1 ≤ 6 ∧ x.2 * 2 ^ x.1 = i ∧ (x.2 + 1) * 2 ^ x.1 ≤ k ∧ Tiles ((x.2 + 1) * 2 ^ x.1) k r
theorem tiles_le {xs : List (Nat × Nat)} : ∀ {i k : Nat}, Tiles i k xs → i ≤ k := by
  induction xs with
  | nil => intro i k h; exact Nat.le_of_eq h
  | cons x r ih =>
    intro i k h
    obtain ⟨_, h2, h3, _⟩ := h
    have hp : 0 < 2 ^ x.1 := Nat.two_pow_pos _
    have := up_next x.2 x.1
    omega
theorem tiles_app {xs : List (Nat × Nat)} : ∀ {i j k : Nat} {ys : List (Nat × Nat)}, Tiles i j xs → Tiles j k ys → Tiles i k (xs ++ ys) := by
  induction xs with
  | nil => intro i j k ys h1 h2; obtain rfl : i = j := h1; exact h2
  | cons x r ih =>
    intro i j k ys h1 h2
    obtain ⟨a, b, c, d⟩ := h1
    exact ⟨a, b, Nat.le_trans c (tiles_le h2), ih d h2⟩
theorem cov_tiles : ∀ (f i k : Nat), i ≤ k → k - i ≤ f → Tiles i k (covF f i k) := by
  intro f
  induction f with
  | zero => intro i k h1 h2; show i = k; omega
  | succ f ih =>
    intro i k h1 h2
    rw [covF]
    cases h : lvlOf i k with
    | none => have := lvl_none h; show i = k; omega
    | some v =>
      obtain ⟨a, b, c⟩ := lvl_in h
      exact tiles_app (ih i _ a (by omega)) ⟨(lvl_some h).1, rfl, c, ih ((upTo i v + 1) * 2 ^ v) k c (by omega)⟩
theorem cov_is {i k : Nat} (h1 : i ≤ k) (h2 : k ≤ 64) : Tiles i k (covL i k) := cov_tiles 64 i k h1 (by omega)
end Go.Proofs.Ytgffippimmokiaa

/- Blocks of two, four, eight revisions, and what comes of them: no program in it. -/
namespace Go.Proofs.Ytgffippimmokiaa
set_option linter.unusedSimpArgs false
set_option linter.unusedVariables false

/-- the levels that there are -/
def lvN (n : Nat) : Nat := ((List.range 7).filter (fun v => decide (2 ^ v ≤ n))).length
theorem lvN_iff {n v : Nat} (h : n ≤ 64) (hv : v ≤ 6) : v < lvN n ↔ 2 ^ v ≤ n := by
  have H : ∀ n ∈ List.range 65, ∀ v ∈ List.range 7, (v < lvN n ↔ 2 ^ v ≤ n) := by decide +kernel
  exact H n (List.mem_range.2 (by omega)) v (List.mem_range.2 (by omega))
def tierRow (s : List UInt8) (l : List Rv) (v : Nat) : List (List Pt) := (List.range (l.length / 2 ^ v)).map (fun b => betO s l (b * 2 ^ v) ((b + 1) * 2 ^ v))
def tiersL (s : List UInt8) (l : List Rv) : List (List (List Pt)) := (List.range (lvN l.length)).map (tierRow s l)
/-- a block's delta, if there is one -/
def blkT (t : List (List (List Pt))) (x : Nat × Nat) : Option (List Pt) := (t[x.1]?).bind (fun r => r[x.2]?)
/-- what comes of blocks, one behind the other, and the error (none: none) -/
def betT (none' : Int) (t : List (List (List Pt))) : Option (List Pt) → List (Nat × Nat) → List Pt × Int
  | o, [] => (o.getD [], 0)
  | o, x :: r => match blkT t x with
    | none => ([], none')
    | some d => if sizesE d = 0 then (match o with
        | none => betT none' t (some d) r
        | some e => if compE e d = 0 then betT none' t (some (compR e d)) r else ([], compE e d)) else ([], sizesE d)
theorem blk_in {s : List UInt8} {l : List Rv} {x : Nat × Nat} (hl : l.length ≤ 64) (hv : x.1 ≤ 6) (hx : (x.2 + 1) * 2 ^ x.1 ≤ l.length) : blkT (tiersL s l) x = some (betO s l (x.2 * 2 ^ x.1) ((x.2 + 1) * 2 ^ x.1)) := by
  have hp : 0 < 2 ^ x.1 := Nat.two_pow_pos _
  have h1 := up_next x.2 x.1
  have h2 : x.1 < lvN l.length := (lvN_iff hl hv).2 (by omega)
  have h3 : x.2 < l.length / 2 ^ x.1 := by
    rw [Nat.lt_iff_add_one_le, Nat.le_div_iff_mul_le hp]; exact hx
  rw [blkT, tiersL, List.getElem?_map, List.getElem?_range h2]
  show (tierRow s l x.1)[x.2]? = _
  rw [tierRow, List.getElem?_map, List.getElem?_range h3]
  rfl
/-- by tiers, behind what there is -/
theorem tiers_on {s : List UInt8} {l : List Rv} {n' : Int} {xs : List (Nat × Nat)} (h : checkE s l = 0) : ∀ {i j k : Nat}, i ≤ j → k ≤ l.length → Tiles j k xs → betT n' (tiersL s l) (some (betO s l i j)) xs = (betO s l i k, 0) := by
  obtain ⟨z1, z2, z3⟩ := check_zero h
  induction xs with
  | nil => intro i j k _ _ ht; obtain rfl : j = k := ht; rfl
  | cons x r ih =>
    intro i j k hij hk ht
    obtain ⟨a, b, c, d⟩ := ht
    have hp : 0 < 2 ^ x.1 := Nat.two_pow_pos _
    have h1 := up_next x.2 x.1
    have h2 := blk_in (s := s) z2 a (Nat.le_trans c hk)
    obtain ⟨b1, b2, b3, b4⟩ := bet_says h (show x.2 * 2 ^ x.1 ≤ (x.2 + 1) * 2 ^ x.1 by omega) (Nat.le_trans c hk)
    obtain ⟨e1, e2⟩ := bet_three h hij (show j ≤ (x.2 + 1) * 2 ^ x.1 by omega) (Nat.le_trans c hk)
    rw [b] at h2 b1
    rw [betT, h2]
    simp only
    rw [if_pos b1, if_pos e1, e2]
    exact ih (by omega) hk d
/-- by tiers it is what it is revision by revision -/
theorem tiers_same {s : List UInt8} {l : List Rv} {n' : Int} {i k : Nat} (h : checkE s l = 0) (hik : i < k) (hk : k ≤ l.length) : betT n' (tiersL s l) none (covL i k) = (betO s l i k, 0) := by
  obtain ⟨z1, z2, z3⟩ := check_zero h
  have ht := cov_is (Nat.le_of_lt hik) (Nat.le_trans hk z2)
  cases hx : covL i k with
  | nil => rw [hx] at ht; have : i = k := ht; omega
  | cons x r =>
    rw [hx] at ht
    obtain ⟨a, b, c, d⟩ := ht
    have hp : 0 < 2 ^ x.1 := Nat.two_pow_pos _
    have h1 := up_next x.2 x.1
    have h2 := blk_in (s := s) z2 a (Nat.le_trans c hk)
    obtain ⟨b1, b2, b3, b4⟩ := bet_says h (show x.2 * 2 ^ x.1 ≤ (x.2 + 1) * 2 ^ x.1 by omega) (Nat.le_trans c hk)
    rw [b] at h2 b1
    rw [betT, h2]
    simp only
    rw [if_pos b1]
    exact tiers_on h (by omega) hk d
/-- two blocks as one of the next level -/
theorem tier_pair {s : List UInt8} {l : List Rv} {v b : Nat} (h : checkE s l = 0) (hb : (b + 1) * 2 ^ (v + 1) ≤ l.length) :
    compE (betO s l (2 * b * 2 ^ v) ((2 * b + 1) * 2 ^ v)) (betO s l ((2 * b + 1) * 2 ^ v) ((2 * b + 2) * 2 ^ v)) = 0 ∧ compR (betO s l (2 * b * 2 ^ v) ((2 * b + 1) * 2 ^ v)) (betO s l ((2 * b + 1) * 2 ^ v) ((2 * b + 2) * 2 ^ v)) = betO s l (b * 2 ^ (v + 1)) ((b + 1) * 2 ^ (v + 1)) := by
  have e1 : b * 2 ^ (v + 1) = 2 * b * 2 ^ v := by rw [Nat.pow_succ, Nat.mul_comm (2 ^ v) 2, ← Nat.mul_assoc, Nat.mul_comm b 2]
  have e2 : (b + 1) * 2 ^ (v + 1) = (2 * b + 2) * 2 ^ v := by rw [Nat.pow_succ, Nat.mul_comm (2 ^ v) 2, ← Nat.mul_assoc, show (b + 1) * 2 = 2 * b + 2 by omega]
  have hp : 0 < 2 ^ v := Nat.two_pow_pos v
  have h1 := up_next (2 * b) v
  have h2 : (2 * b + 2) * 2 ^ v = (2 * b + 1) * 2 ^ v + 2 ^ v := up_next (2 * b + 1) v
  rw [e2] at hb
  rw [e1, e2]
  exact bet_three h (by omega) (by omega) hb
/-- each level has half as many blocks as the one below -/
theorem tier_half (n v : Nat) : n / 2 ^ (v + 1) = n / 2 ^ v / 2 := by rw [Nat.div_div_eq_div_mul, Nat.pow_succ]
/-- a block makes the text behind it -/
theorem tier_text {s : List UInt8} {l : List Rv} {v b : Nat} (h : checkE s l = 0) (hb : (b + 1) * 2 ^ v ≤ l.length) : doL (betO s l (b * 2 ^ v) ((b + 1) * 2 ^ v)) (textAt s l (b * 2 ^ v)) = textAt s l ((b + 1) * 2 ^ v) := by
  have hp : 0 < 2 ^ v := Nat.two_pow_pos v
  have h1 := up_next b v
  exact (bet_says h (by omega) hb).2.2.2
end Go.Proofs.Ytgffippimmokiaa
