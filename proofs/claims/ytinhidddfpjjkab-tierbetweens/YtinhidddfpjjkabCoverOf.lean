/- The program's Cover: the blocks from the left. -/
import Derived.Test.YtinhidddfpjjkabBlkMem
import Derived.Test.YtinhidddfpjjkabTierQ
namespace Go.Proofs.Ytinhidddfpjjkab
open Go.RowKit
set_option linter.unusedSimpArgs false
set_option linter.unusedVariables false

theorem gr_next {i k v : Nat} (hk : k ≤ 64) (hik : i < k) (hv : v ≤ 6) (h1 : i % 2 ^ v = 0) (h2 : i &&& 2 ^ v = 0) (h3 : i + 2 * 2 ^ v ≤ k) : i % 2 ^ (v + 1) = 0 ∧ i + 2 ^ (v + 1) ≤ k ∧ v + 1 ≤ 6 := by
  have H : ∀ k ∈ List.range 65, ∀ i ∈ List.range k, ∀ v ∈ List.range 7, i % 2 ^ v = 0 → i &&& 2 ^ v = 0 → i + 2 * 2 ^ v ≤ k → (i % 2 ^ (v + 1) = 0 ∧ i + 2 ^ (v + 1) ≤ k ∧ v + 1 ≤ 6) := by decide +kernel
  exact H k (List.mem_range.2 (by omega)) i (List.mem_range.2 hik) v (List.mem_range.2 (by omega)) h1 h2 h3
theorem gr_end {i k v : Nat} (hk : k ≤ 64) (hik : i < k) (hv : v ≤ 6) (h1 : i % 2 ^ v = 0) (h2 : i + 2 ^ v ≤ k) (h3 : ¬ (i &&& 2 ^ v = 0 ∧ i + 2 * 2 ^ v ≤ k)) : leftLvl i k = some v := by
  have H : ∀ k ∈ List.range 65, ∀ i ∈ List.range k, ∀ v ∈ List.range 7, i % 2 ^ v = 0 → i + 2 ^ v ≤ k → ¬ (i &&& 2 ^ v = 0 ∧ i + 2 * 2 ^ v ≤ k) → leftLvl i k = some v := by decide +kernel
  exact H k (List.mem_range.2 (by omega)) i (List.mem_range.2 hik) v (List.mem_range.2 (by omega)) h1 h2 h3
theorem pow_six {v : Nat} (hv : v ≤ 6) : 2 ^ v ≤ 64 ∧ 1 ≤ 2 ^ v := by
  rcases (show v = 0 ∨ v = 1 ∨ v = 2 ∨ v = 3 ∨ v = 4 ∨ v = 5 ∨ v = 6 by omega) with rfl | rfl | rfl | rfl | rfl | rfl | rfl <;> decide
theorem and_pow {i v : Nat} (hi : i ≤ 64) (hv : v ≤ 6) : bits .and .i64 (i : Int) ((2 ^ v : Nat) : Int) = ((i &&& 2 ^ v : Nat) : Int) := by
  have H : ∀ i ∈ List.range 65, ∀ v ∈ List.range 7, bits .and .i64 (i : Int) ((2 ^ v : Nat) : Int) = ((i &&& 2 ^ v : Nat) : Int) := by decide +kernel
  exact H i (List.mem_range.2 (by omega)) v (List.mem_range.2 (by omega))
/-- the shifts of a walk: 1 << v, 2 << v, n >> v, b << v -/
theorem shl_one {v p : Nat} (hv : v ≤ 6) (hp : 2 ^ v = p) : wrap64 ((2 : Int) ^ v) = (p : Int) := by
  subst hp
  rcases (show v = 0 ∨ v = 1 ∨ v = 2 ∨ v = 3 ∨ v = 4 ∨ v = 5 ∨ v = 6 by omega) with rfl | rfl | rfl | rfl | rfl | rfl | rfl <;> decide +kernel
theorem shl_two {v p : Nat} (hv : v ≤ 6) (hp : 2 ^ v = p) : wrap64 (2 * (2 : Int) ^ v) = 2 * (p : Int) := by
  subst hp
  rcases (show v = 0 ∨ v = 1 ∨ v = 2 ∨ v = 3 ∨ v = 4 ∨ v = 5 ∨ v = 6 by omega) with rfl | rfl | rfl | rfl | rfl | rfl | rfl <;> decide +kernel
theorem shr_num (n v q : Nat) (hq : n / 2 ^ v = q) : (n : Int) / 2 ^ v = (q : Int) := by subst hq; simp
set_option maxHeartbeats 2000000 in
theorem greatest_any (i k : Nat) (w : World) (hk : k ≤ 64) (hik : i < k) :
    Calls Try.prog 60 #[.int .i64 (i : Int), .int .i64 (k : Int)] w fun e w' => ∃ v : Nat, e = .returned (.int .i64 (v : Int)) ∧ leftLvl i k = some v ∧ w' = w := by
  go_enter Try.func60, Try.ntmps60
  go_wp2_with fail
  go_loopw [5] (fun x wr => ∃ v : Nat, v ≤ 6 ∧ x = .int .i64 v ∧ i % 2 ^ v = 0 ∧ i + 2 ^ v ≤ k ∧ wr = w) (fun x _ => 7 - (intOf x).toNat)
  case atStart => exact ⟨0, by omega, rfl, by omega, by omega, rfl⟩
  case round =>
    rename World => wr
    obtain ⟨v, hv, rfl, h1, h2, hwr⟩ := hrel
    subst hwr
    obtain ⟨p6, p1⟩ := pow_six hv
    have HN : Hid _ := gr_next hk hik hv h1
    have HE : Hid _ := gr_end hk hik hv h1 h2
    have ha := and_pow (show i ≤ 64 by omega) hv
    obtain ⟨m, hm⟩ : ∃ m, i &&& 2 ^ v = m := ⟨_, rfl⟩
    rw [hm] at HN HE ha
    obtain ⟨p, hp⟩ : ∃ p, 2 ^ v = p := ⟨_, rfl⟩
    have s1 := shl_one hv hp
    have s2 := shl_two hv hp
    rw [hp] at p6 p1 ha HN HE
    have hi : i ≤ 64 := by omega
    clear h1 h2 hm hp
    by_cases hm0 : m = 0
    · have e1 : ((m : Int) == 0) = true := by simp [hm0]
      by_cases h3 : i + 2 * p ≤ k
      · have h3i : (i : Int) + 2 * (p : Int) ≤ (k : Int) := by omega
        obtain ⟨n1, n2, n3⟩ := HN.out hm0 h3
        have HN2 : Hid (i % 2 ^ (v + 1) = 0 ∧ i + 2 ^ (v + 1) ≤ k ∧ v + 1 ≤ 6) := ⟨n1, n2, n3⟩
        clear n1 n2 n3 HE HN hm0
        go_wp2_with fail
        go_roundw
        case rel => exact ⟨v + 1, HN2.out.2.2, by go_num, HN2.out.1, HN2.out.2.1, by first | rfl | trivial⟩
        case measure => have := HN2.out.2.2; simp [intOf]; omega
      · have h3i : ¬ (i : Int) + 2 * (p : Int) ≤ (k : Int) := by omega
        have HE2 : Hid (leftLvl i k = some v) := HE.out (fun h => h3 h.2)
        clear HN HE hm0
        go_wp2_with fail
        go_ret
        exact ⟨v, rfl, HE2.out, by first | rfl | trivial⟩
    · have e1 : ((m : Int) == 0) = false := by simp [hm0]
      have HE2 : Hid (leftLvl i k = some v) := HE.out (fun h => hm0 h.1)
      clear HN HE hm0
      go_wp2_with fail
      go_ret
      exact ⟨v, rfl, HE2.out, by first | rfl | trivial⟩
theorem left_lvl {i k v : Nat} (h : leftLvl i k = some v) : v ≤ 6 ∧ i + 2 ^ v ≤ k := by
  have h1 := List.find?_some h
  have h2 := List.mem_of_find?_eq_some h
  simp only [decide_eq_true_eq] at h1
  refine ⟨?_, h1.2⟩
  simp only [List.mem_cons, List.not_mem_nil, or_false] at h2
  omega
theorem left_end (f k : Nat) : leftF f k k = [] := by
  cases f with
  | zero => rfl
  | succ f =>
    rw [leftF]
    cases h : leftLvl k k with
    | none => rfl
    | some v =>
      have := (left_lvl h).2
      have hp : 0 < 2 ^ v := Nat.two_pow_pos v
      omega
theorem left_next {f j k v : Nat} (h : leftLvl j k = some v) : leftF (f + 1) j k = (v, j / 2 ^ v) :: leftF f (j + 2 ^ v) k := by
  rw [leftF, h]
theorem left_len : ∀ (f i k : Nat), (leftF f i k).length ≤ f := by
  intro f
  induction f with
  | zero => intro i k; exact Nat.le_refl _
  | succ f ih =>
    intro i k
    rw [leftF]
    cases leftLvl i k with
    | none => exact Nat.zero_le _
    | some v => rw [List.length_cons]; exact Nat.succ_le_succ (ih _ _)
/-- Cover's error -/
def covE (i k : Int) : Int := if i < 0 ∨ k < i ∨ 64 < k then 1 else 0
set_option maxHeartbeats 4000000 in
theorem Cover_ok (i k : Nat) (w : World) (hik : i ≤ k) (hk : k ≤ 64) :
    Calls Try.prog 38 #[.int .i64 (i : Int), .int .i64 (k : Int)] w fun e w' => ∃ a c, e = .returned (.tuple #[.slice a (covL i k).length c, .int .i64 0]) ∧ BksAt w' w'.heap.size a (covL i k) c ∧ Below w.heap.size w w' := by
  obtain ⟨ip, hip, hp0, hp1, hp2⟩ := info_parts infoBlk
  rw [← left_is hik hk]
  have g1 : ¬ (i : Int) < 0 := by omega
  have g2 : ¬ (k : Int) < (i : Int) := by omega
  have g3 : ¬ (64 : Int) < (k : Int) := by omega
  go_enter Try.func38, Try.ntmps38
  go_wp2_with fail
  go_loopw [0, 6] (fun x v wr => ∃ (j f : Nat) (xs : List (Nat × Nat)), j ≤ k ∧ k - j ≤ f ∧ f ≤ 64 ∧ x = .int .i64 j ∧ leftF 64 i k = xs ++ leftF f j k ∧ xs.length ≤ 64 ∧ wr.ownsRow w.heap.size 39 2 v xs.length (blkAll xs) ∧ Below w.heap.size w wr) (fun x _ _ => k - (intOf x).toNat)
  case atStart => exact ⟨i, 64, [], hik, by omega, Nat.le_refl _, rfl, rfl, by simp, World.ownsRow_nil _ _ _ _, Below.refl _ _⟩
  case round =>
    rename World => wr
    obtain ⟨j, f, xs, hj, hf, hf4, rfl, hx, hxl, hown, hb⟩ := hrel
    obtain ⟨ao, ca, rfl⟩ := bks_form hown
    have hz := hb.size
    have HO : Hid (wr.ownsRow w.heap.size 39 2 (.slice ao xs.length ca) xs.length (blkAll xs)) := hown
    have HB : Hid (Below w.heap.size w wr) := hb
    have HX : Hid (leftF 64 i k = xs ++ leftF f j k) := hx
    clear hown hb hx
    by_cases hlt : j < k
    · have hji : (j : Int) < (k : Int) := by omega
      clear g1 g2 g3
      go_wp2_with fail
      refine (greatest_any j k _ hk hlt).mono ?_
      rintro e w1 ⟨v, rfl, hv, we⟩
      subst we
      obtain ⟨v6, v7⟩ := left_lvl hv
      obtain ⟨p6, p1⟩ := pow_six v6
      obtain ⟨f, rfl⟩ : ∃ f', f = f' + 1 := ⟨f - 1, by omega⟩
      have HX2 : Hid (leftF 64 i k = (xs ++ [(v, j / 2 ^ v)]) ++ leftF f (j + 2 ^ v) k) := by
        show _ = _
        rw [HX.out, left_next hv, List.append_assoc]; rfl
      obtain ⟨p, hp⟩ : ∃ p, 2 ^ v = p := ⟨_, rfl⟩
      have HS1 : Hid (wrap64 ((2 : Int) ^ v) = (p : Int)) := shl_one v6 hp
      obtain ⟨q, hq⟩ : ∃ q, j / 2 ^ v = q := ⟨_, rfl⟩
      have HS2 : Hid ((j : Int) / 2 ^ v = (q : Int)) := shr_num j v q hq
      rw [hq, hp] at HX2
      rw [hp] at v7 p6 p1
      obtain ⟨P, hP⟩ : ∃ P : Int, P = (p : Int) := ⟨_, rfl⟩
      have p7 : 0 ≤ P ∧ P ≤ 64 ∧ (j : Int) + P ≤ 64 := by omega
      obtain ⟨p7, p8, p9⟩ := p7
      have HP : Hid (P = (p : Int)) := hP
      have HV7 : Hid (j + p ≤ k ∧ 1 ≤ p) := ⟨v7, p1⟩
      have hql : xs.length < 64 := by
        have h1 := left_len 64 i k
        rw [HX2.out, List.length_append, List.length_append] at h1
        have h2 : ([(v, q)] : List (Nat × Nat)).length = 1 := rfl
        omega
      have hA := World.ownsRow.alloc HO.out (.cells #[.int .i64 (v : Int), .int .i64 (q : Int)] 39)
      have s2 := HS2.out
      clear HX hq hp hv hP v7 p6 p1
      go_wp2_with (at_builtin; refine wpList_append_own _ rfl _ _ 36 rfl w.heap.size 39 ip _ 2 16 Try.underlying36 hip hp0 hp1 hp2 rfl (by decide) _ _ _ rfl hA ⟨w1.heap.size, 0, none⟩ 1 1 [.int .i64 (v : Int), .int .i64 (q : Int)] rfl rfl (bks_lit w1 [(v, q)] (by simp)).cells (by simp [Value.oneCell']) ?c3 ?c4 ?c5 ?_)
      case c3 => unfold maxLen; omega
      case c4 => omega
      case c5 => first | omega | (simp; omega)
      intro v' w3 hown2 hgrow _
      have HB4 : Hid (Below w.heap.size w w3) := bks_below (HB.out.alloc hz _) hA hgrow (by simp; omega)
      have HO3 : Hid (w3.ownsRow w.heap.size 39 2 v' (xs ++ [(v, q)]).length (blkAll (xs ++ [(v, q)]))) := bk_snoc hown2
      have hw : wrap64 ((j : Int) + (p : Int)) = (j : Int) + (p : Int) := by have := HV7.out.1; exact IntWalk.wrap64_in ((j : Int) + (p : Int)) ⟨by omega, by omega⟩
      have s1 := HS1.out
      clear hown2 hgrow hA s2 p7 p8 p9 HP
      go_wp2_with fail
      simp only [hw]
      clear s1 hw
      have v7 := HV7.out
      go_roundw
      case rel => exact ⟨j + p, f, xs ++ [(v, q)], v7.1, by omega, by omega, by first | rfl | simp, HX2.out, by simp; omega, HO3.out, HB4.out⟩
      case measure => simp [intOf]; omega
    · obtain rfl : j = k := by omega
      have HX2 : Hid (leftF 64 i j = xs) := by show _ = _; rw [HX.out, left_end, List.append_nil]
      obtain ⟨a1, c1, e1, hn⟩ := bks_own HO.out
      simp only [Value.slice.injEq, true_and] at e1
      obtain ⟨rfl, rfl⟩ := e1
      have HN : Hid (BksAt wr wr.heap.size ao xs ca) := hn
      clear hn
      go_wp2_with fail
      go_ret2
      rw [HX2.out]
      exact ⟨ao, ca, rfl, HN.out, HB.out⟩
theorem Cover_not (i k : Int) (w : World) (h : covE i k ≠ 0) :
    Calls Try.prog 38 #[.int .i64 i, .int .i64 k] w fun e w' => e = .returned (.tuple #[.slice none 0 0, .int .i64 1]) ∧ w' = w := by
  rw [covE] at h
  have h' : i < 0 ∨ k < i ∨ 64 < k := by
    by_cases hh : i < 0 ∨ k < i ∨ 64 < k
    · exact hh
    · rw [if_neg hh] at h; exact absurd rfl h
  clear h
  go_enter Try.func38, Try.ntmps38
  by_cases h1 : i < 0
  · clear h'
    go_wp2_with fail
    go_ret2
    exact ⟨rfl, rfl⟩
  · by_cases h2 : k < i
    · clear h'
      go_wp2_with fail
      go_ret2
      exact ⟨rfl, rfl⟩
    · have h3 : 64 < k := by omega
      clear h'
      go_wp2_with fail
      go_ret2
      exact ⟨rfl, rfl⟩
end Go.Proofs.Ytinhidddfpjjkab
