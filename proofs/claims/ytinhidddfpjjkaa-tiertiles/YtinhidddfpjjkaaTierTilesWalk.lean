/- The law TierTiles, walked: it answers true. -/
import Derived.Test.YtinhidddfpjjkaaCoverOf
import Derived.Test.YtinhidddfpjjkaaNumWithin
namespace Go.Proofs.Ytinhidddfpjjkaa
open Go.RowKit
set_option linter.unusedSimpArgs false
set_option linter.unusedVariables false

theorem tiles_lit (w : World) : Calls Try.prog 21 #[.int .i64 1, .int .i64 6] w fun e w' => ∃ a c, e = .returned (.tuple #[.slice a 3 c, .int .i64 0]) ∧ BksAt w' w'.heap.size a [(0, 1), (1, 1), (1, 2)] c ∧ Below w.heap.size w w' := by
  have h := Cover_ok 1 6 w (by decide) (by decide)
  rw [show covL 1 6 = [(0, 1), (1, 1), (1, 2)] by decide +kernel] at h
  exact h
theorem min_nat (ts : Array TypeId) (t : TypeId) (a b m : Nat) (h : m = min a b) (w : World) : (Builtin.min_ ts t #[.int .i64 (a : Int), .int .i64 (b : Int)]).run Try.prog w = .ok (.int .i64 (m : Int)) w := by
  subst h
  by_cases h : a < b
  · have h2 : ¬ b < a := by omega
    have h1' : (a : Int) < (b : Int) := by omega
    have h2' : ¬ (b : Int) < (a : Int) := by omega
    simp [Builtin.min_, Builtin.min2, h1', h2']; omega
  · have h1' : ¬ (a : Int) < (b : Int) := by omega
    by_cases h2 : b < a
    · have h2' : (b : Int) < (a : Int) := by omega
      simp [Builtin.min_, Builtin.min2, h1', h2']; omega
    · have h2' : ¬ (b : Int) < (a : Int) := by omega
      simp [Builtin.min_, Builtin.min2, h1', h2']; omega
theorem max_nat (ts : Array TypeId) (t : TypeId) (a b m : Nat) (h : m = max a b) (w : World) : (Builtin.max_ ts t #[.int .i64 (a : Int), .int .i64 (b : Int)]).run Try.prog w = .ok (.int .i64 (m : Int)) w := by
  subst h
  by_cases h : a < b
  · have h2 : ¬ b < a := by omega
    have h1' : (a : Int) < (b : Int) := by omega
    simp [Builtin.max_, Builtin.max2, h1']; omega
  · have h1' : ¬ (a : Int) < (b : Int) := by omega
    simp [Builtin.max_, Builtin.max2, h1']; omega
theorem tiles_snoc {xs : List (Nat × Nat)} {i k v b : Nat} (h : Tiles i k (xs ++ [(v, b)])) : True := trivial
/-- where the blocks from the j-th on begin -/
theorem tiles_drop {xs : List (Nat × Nat)} : ∀ {i k : Nat} (j : Nat) {x : Nat × Nat} {at_ : Nat}, Tiles at_ k (xs.drop j) → xs[j]? = some x → x.1 ≤ 6 ∧ x.2 * 2 ^ x.1 = at_ ∧ at_ + 2 ^ x.1 ≤ k ∧ Tiles (at_ + 2 ^ x.1) k (xs.drop (j + 1)) := by
  intro i k j x at_ h hx
  obtain ⟨hj, e⟩ := List.getElem?_eq_some_iff.1 hx
  rw [List.drop_eq_getElem_cons hj, e] at h
  obtain ⟨a, b, c, d⟩ := h
  have h1 := up_next x.2 x.1
  rw [h1, b] at c d
  exact ⟨a, b, c, d⟩
theorem shl_of {n v q : Nat} (hq : n * 2 ^ v = q) : (n : Int) * (2 : Int) ^ v = (q : Int) := by subst hq; simp
theorem one_six {v : Nat} (hv : v ≤ 6) : 1 ≤ 2 ^ v ∧ 2 ^ v ≤ 64 := ⟨(pow_six hv).2, (pow_six hv).1⟩
/-- a block in a block of its own -/
def KBox (w : World) (g : Nat) (x y : Nat) : Prop := w.cell? ⟨g, 0, none⟩ = some (.int .i64 (x : Int)) ∧ w.cell? ⟨g, 1, none⟩ = some (.int .i64 (y : Int)) ∧ g < w.heap.size
set_option maxHeartbeats 8000000 in
theorem TierTiles_any (i k : Int) (w : World) :
    Calls Try.prog 8 #[.int .i64 i, .int .i64 k] w fun e w' => e = .returned (.bool true) ∧ Below w.heap.size w w' := by
  go_enter Try.func8, Try.ntmps8
  go_wp2_with fail
  refine (tiles_lit _).mono ?_
  rintro e w1 ⟨ao, co, rfl, hn1, hb1⟩
  have HB1 : Hid (Below w.heap.size w w1) := hb1
  have hbl : Below w1.heap.size w1 (w1.alloc (.cells #[.int .i64 0, .int .i64 1, .int .i64 1, .int .i64 1, .int .i64 1, .int .i64 2] 47)) := (Below.refl _ _).alloc (Nat.le_refl _) _
  have HN1 : Hid (BksAt (w1.alloc (.cells #[.int .i64 0, .int .i64 1, .int .i64 1, .int .i64 1, .int .i64 1, .int .i64 2] 47)) (w1.alloc (.cells #[.int .i64 0, .int .i64 1, .int .i64 1, .int .i64 1, .int .i64 1, .int .i64 2] 47)).heap.size ao [(0, 1), (1, 1), (1, 2)] co) := hn1.here hbl (Nat.le_refl _)
  have HL1 : Hid (BksAt (w1.alloc (.cells #[.int .i64 0, .int .i64 1, .int .i64 1, .int .i64 1, .int .i64 1, .int .i64 2] 47)) (w1.alloc (.cells #[.int .i64 0, .int .i64 1, .int .i64 1, .int .i64 1, .int .i64 1, .int .i64 2] 47)).heap.size (some ⟨w1.heap.size, 0, none⟩) [(0, 1), (1, 1), (1, 2)] 3) := by
    rw [show (w1.alloc (.cells #[.int .i64 0, .int .i64 1, .int .i64 1, .int .i64 1, .int .i64 1, .int .i64 2] 47)).heap.size = w1.heap.size + 1 from Deep.nblk_alloc _ _]
    exact bks_lit w1 [(0, 1), (1, 1), (1, 2)] (by decide)
  have HBl : Hid (Below w.heap.size w (w1.alloc (.cells #[.int .i64 0, .int .i64 1, .int .i64 1, .int .i64 1, .int .i64 1, .int .i64 2] 47))) := HB1.out.trans (hbl.mono HB1.out.size)
  clear hb1 hn1 hbl
  go_wp2_with fail
  refine (EqBk_yes ao (some ⟨w1.heap.size, 0, none⟩) [(0, 1), (1, 1), (1, 2)] co 3 _ HN1.out HL1.out).mono ?_
  rintro e w2 ⟨rfl, hb2⟩
  have HB2 : Hid (Below w.heap.size w w2) := HBl.out.trans (hb2.mono HBl.out.size)
  clear hb2 HN1 HL1 HBl HB1
  go_wp2_with fail
  refine (Within3_any i 65 _ (by decide) (by decide)).mono ?_
  rintro e w3 ⟨p, rfl, hp, we⟩
  subst we
  go_wp2_with fail
  refine (Within3_any k 65 _ (by decide) (by decide)).mono ?_
  rintro e w4 ⟨q, rfl, hq, we⟩
  subst we
  obtain ⟨a, ha⟩ : ∃ a, a = min p q := ⟨_, rfl⟩
  obtain ⟨b, hb⟩ : ∃ b, b = max p q := ⟨_, rfl⟩
  have hmn := fun ts t w => min_nat ts t p q a ha w
  have hmx := fun ts t w => max_nat ts t p q b hb w
  have hab : a ≤ b := by omega
  have hb64 : b ≤ 64 := by omega
  have HC : Hid _ := fun w => Cover_ok a b w hab hb64
  have ht := cov_is hab hb64
  have hf := cov_few hab hb64
  obtain ⟨X, hX⟩ : ∃ X, covL a b = X := ⟨_, rfl⟩
  rw [hX] at HC ht hf
  have HT : Hid (Tiles a b X) := ht
  have HF : Hid (X.length ≤ 2 * bitsN (b - a) + 1) := hf
  have HBi : Hid (∀ v, v ≤ 6 → (v < bitsN (b - a) ↔ 2 ^ v < b - a)) := fun v hv => bits_iff (by omega) hv
  clear ha hb hX ht hf hp hq
  go_wp2_with fail
  refine (HC.out _).mono ?_
  rintro e w5 ⟨a5, c5, rfl, hn5, hb5⟩
  have HB5 : Hid (Below w.heap.size w w5) := HB2.out.trans (hb5.mono HB2.out.size)
  have HN5 : Hid (BksAt w5 w5.heap.size a5 X c5) := hn5
  have hxl : X.length ≤ 9223372036854775807 := Nat.le_trans hn5.1 hn5.2.1
  clear hn5 hb5 hmn hmx
  go_wp2_with fail
  go_loopw [9, 49] (fun y z wr => ∃ (j at_ : Nat), j ≤ X.length ∧ z = .int .i64 j ∧ y = .int .i64 at_ ∧ at_ ≤ b ∧ Tiles at_ b (X.drop j) ∧ Below w5.heap.size w5 wr) (fun _ z _ => X.length - (intOf z).toNat)
  case atStart => exact ⟨0, a, Nat.zero_le _, rfl, rfl, hab, HT.out, Below.refl _ _⟩
  case round =>
    rename World => wr
    obtain ⟨j, at_, hj, rfl, rfl, hat, hti, hbw⟩ := hrel
    have HBW : Hid (Below w5.heap.size w5 wr) := hbw
    have HTI : Hid (Tiles at_ b (X.drop j)) := hti
    clear hti
    by_cases hlt : j < X.length
    · obtain ⟨x, hx⟩ : ∃ x, X[j]? = some x := ⟨X[j], List.getElem?_eq_getElem hlt⟩
      have hji : (j : Int) < (X.length : Int) := by omega
      obtain ⟨g, og, e1, hg, y1, y2⟩ := (HN5.out.here hbw (Nat.le_refl _)).mem hx
      subst e1
      obtain ⟨t1, t2, t3, t4⟩ := tiles_drop (i := 0) j HTI.out hx
      have HT4 : Hid (Tiles (at_ + 2 ^ x.1) b (X.drop (j + 1))) := t4
      obtain ⟨p1, p2⟩ := one_six t1
      obtain ⟨v, u⟩ := x
      simp only at t1 t2 t3 y1 y2 HT4 p1 p2
      obtain ⟨r, hr⟩ : ∃ r, 2 ^ v = r := ⟨_, rfl⟩
      have HS : Hid (wrap64 ((2 : Int) ^ v) = (r : Int)) := shl_one t1 hr
      have HS2 : Hid ((u : Int) * (2 : Int) ^ v = (at_ : Int)) := shl_of t2
      rw [hr] at t3 p1 p2 HT4
      have hz := hbw.size
      have s2 := HS2.out
      have hv0 : (v : Int) ≤ 6 := by omega
      have hat2 : (at_ : Int) + (r : Int) ≤ 64 := by omega
      have hw : wrap64 ((at_ : Int) + (r : Int)) = (at_ : Int) + (r : Int) := IntWalk.wrap64_in ((at_ : Int) + (r : Int)) ⟨by omega, by omega⟩
      clear hx hr t2 t4 hbw
      have HW : Hid (wrap64 ((at_ : Int) + (r : Int)) = (at_ : Int) + (r : Int)) := hw
      clear hw
      go_wp2_with fail
      have s1 := HS.out
      have hw := HW.out
      simp only [s1, hw]
      clear s1 hw s2
      go_roundw
      case rel => exact ⟨j + 1, at_ + r, by omega, by go_num, by first | rfl | simp, t3, HT4.out, HBW.out.alloc hz _⟩
      case measure => simp [intOf]; omega
    · have hji : ¬ (j : Int) < (X.length : Int) := by omega
      have HAT : Hid (at_ = b) := by
        have h := HTI.out
        rw [List.drop_eq_nil_of_le (by omega)] at h
        exact h
      have hz := hbw.size
      have HB6 : Hid (Below w.heap.size w wr) := HB5.out.trans (hbw.mono HB5.out.size)
      have hate := HAT.out
      subst hate
      clear hbw HN5
      go_wp2_with fail
      go_loopw [12] (fun y wr2 => ∃ (v p : Nat), v ≤ 6 ∧ v ≤ bitsN (at_ - a) ∧ 2 ^ v = p ∧ y = .int .i64 v ∧ wr2 = wr) (fun y _ => 7 - (intOf y).toNat)
      case atStart => exact ⟨0, 1, by omega, Nat.zero_le _, rfl, rfl, rfl⟩
      case round =>
        rename World => wr2
        obtain ⟨v, p, hv, hvb, hp, rfl, hwr⟩ := hrel
        subst hwr
        have hbi := HBi.out v hv
        rw [hp] at hbi
        have HS : Hid (wrap64 ((2 : Int) ^ v) = (p : Int)) := shl_one hv hp
        have HP2 : Hid (2 ^ (v + 1) = p * 2) := by show _ = _; rw [Nat.pow_succ, hp]
        have hp64 := (one_six hv).2
        rw [hp] at hp64
        have hd : (at_ : Int) - (a : Int) = ((at_ - a : Nat) : Int) := by omega
        by_cases hlt2 : p < at_ - a
        · have hpi : (p : Int) < (at_ : Int) - (a : Int) := by omega
          have hv5 : v < 6 := by
            rcases Nat.lt_or_ge v 6 with h | h
            · exact h
            · obtain rfl : v = 6 := by omega
              have h64 : p = 64 := by rw [← hp]
              omega
          have hvb2 := hbi.2 hlt2
          clear hp hbi hd
          have s1 := HS.out
          go_wp2_with fail
          clear s1
          go_roundw
          case rel => exact ⟨v + 1, p * 2, by omega, by omega, HP2.out, by go_num, by first | rfl | trivial⟩
          case measure => simp [intOf]; omega
        · have hpi : ¬ (p : Int) < (at_ : Int) - (a : Int) := by omega
          have hvb2 : bitsN (at_ - a) = v := by
            have : ¬ v < bitsN (at_ - a) := fun h => hlt2 (hbi.1 h)
            omega
          have hxm : (X.length : Int) ≤ 2 * (v : Int) + 1 := by have := HF.out; rw [hvb2] at this; omega
          have s1 := HS.out
          clear hp hbi hvb2 hvb hd
          go_wp2_with fail
          go_ret
          exact ⟨by first | rfl | simp, HB6.out⟩
end Go.Proofs.Ytinhidddfpjjkaa
