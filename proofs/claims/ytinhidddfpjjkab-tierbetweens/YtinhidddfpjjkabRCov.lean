/- The document's Covers: the greatest block first, then what stands ahead of it and behind. -/
import Derived.Test.YtinhidddfpjjkabCoverOf
import Derived.Laws.AppendOwnNone
namespace Go.Proofs.Ytinhidddfpjjkab
open Go.RowKit
set_option linter.unusedSimpArgs false
set_option linter.unusedVariables false

/-- is there a block of that level within? -/
def FitsB (i k v : Nat) : Prop := (upTo i v + 1) * 2 ^ v ≤ k
theorem lvl_at {i k v : Nat} (hv : v ≤ 6) (h1 : FitsB i k v) (h2 : ∀ u, v < u → u ≤ 6 → ¬ FitsB i k u) : lvlOf i k = some v := by
  have h1' : (upTo i v + 1) * 2 ^ v ≤ k := h1
  have h2' : ∀ u, v < u → u ≤ 6 → ¬ (upTo i u + 1) * 2 ^ u ≤ k := h2
  have e : ∀ u, v < u → u ≤ 6 → decide ((upTo i u + 1) * 2 ^ u ≤ k) = false := fun u a b => decide_eq_false (h2' u a b)
  have e1 : decide ((upTo i v + 1) * 2 ^ v ≤ k) = true := decide_eq_true h1'
  rcases (show v = 0 ∨ v = 1 ∨ v = 2 ∨ v = 3 ∨ v = 4 ∨ v = 5 ∨ v = 6 by omega) with rfl | rfl | rfl | rfl | rfl | rfl | rfl
  · simp only [lvlOf, List.find?, e 6 (by omega) (by omega), e 5 (by omega) (by omega), e 4 (by omega) (by omega), e 3 (by omega) (by omega), e 2 (by omega) (by omega), e 1 (by omega) (by omega), e1]
  · simp only [lvlOf, List.find?, e 6 (by omega) (by omega), e 5 (by omega) (by omega), e 4 (by omega) (by omega), e 3 (by omega) (by omega), e 2 (by omega) (by omega), e1]
  · simp only [lvlOf, List.find?, e 6 (by omega) (by omega), e 5 (by omega) (by omega), e 4 (by omega) (by omega), e 3 (by omega) (by omega), e1]
  · simp only [lvlOf, List.find?, e 6 (by omega) (by omega), e 5 (by omega) (by omega), e 4 (by omega) (by omega), e1]
  · simp only [lvlOf, List.find?, e 6 (by omega) (by omega), e 5 (by omega) (by omega), e1]
  · simp only [lvlOf, List.find?, e 6 (by omega) (by omega), e1]
  · simp only [lvlOf, List.find?, e1]
theorem lvl_no {i k : Nat} (h2 : ∀ u, u ≤ 6 → ¬ FitsB i k u) : lvlOf i k = none := by
  rw [lvlOf, List.find?_eq_none]
  intro u hu
  simp only [List.mem_cons, List.not_mem_nil, or_false] at hu
  have h' : ¬ (upTo i u + 1) * 2 ^ u ≤ k := h2 u (by omega)
  simpa using h'
theorem covL_none {i k : Nat} (h : lvlOf i k = none) : covL i k = [] := by rw [covL, covF, h]
theorem covL_some {i k v : Nat} (hk : k ≤ 64) (h : lvlOf i k = some v) : covL i k = covL i (upTo i v * 2 ^ v) ++ (v, upTo i v) :: covL ((upTo i v + 1) * 2 ^ v) k := by
  obtain ⟨h1, h2, h3⟩ := lvl_in h
  rw [covL, covF, h]
  simp only
  rw [cov_more 63 64 i _ (by omega) (by omega), cov_more 63 64 _ k (by omega) (by omega)]
  rfl
theorem cov_len {i k : Nat} (h1 : i ≤ k) (h2 : k ≤ 64) : (covL i k).length ≤ 64 := by
  rw [← left_is h1 h2]; exact left_len _ _ _
theorem upTo_num {i v p b : Nat} (hp : 2 ^ v = p) (hb : upTo i v = b) (h1 : 1 ≤ p) : ((i : Int) + (p : Int) - 1).tdiv (p : Int) = (b : Int) := by
  subst hb hp
  rw [upTo, show ((i : Int) + ((2 ^ v : Nat) : Int) - 1) = ((i + 2 ^ v - 1 : Nat) : Int) by omega, Int.tdiv_eq_ediv_of_nonneg (by omega)]
  rfl
theorem two_pow_next {m p : Nat} (h : 2 ^ m = p) : 2 ^ (m + 1) = p * 2 := by rw [Nat.pow_succ, h]
theorem up_le (i v : Nat) : upTo i v * 2 ^ v ≤ i + 2 ^ v - 1 := Nat.div_mul_le_self _ _
theorem bks_own2 {w : World} {B : Nat} {v : Value} {l : List (Nat × Nat)} (h : w.ownsRow B 39 2 v l.length (blkAll l)) : ∃ a c, v = .slice a l.length c ∧ BksAt w w.heap.size a l c ∧ (a = none → c = 0) := by
  rcases h.2 with ⟨rfl, h0⟩ | ⟨g, cap, cur, rfl, _⟩
  · have : l = [] := List.length_eq_zero_iff.1 h0
    subst this
    exact ⟨none, 0, rfl, bks_nil w _ (Nat.le_refl _), fun _ => rfl⟩
  · obtain ⟨a, c, e, h1⟩ := bks_own h
    simp only [Value.slice.injEq, true_and] at e
    obtain ⟨rfl, rfl⟩ := e
    exact ⟨_, _, rfl, h1, fun h => by cases h⟩
set_option maxHeartbeats 8000000 in
theorem RCov_any (n : Nat) : ∀ (i k : Nat) (w : World), k - i < n → i ≤ k → k ≤ 64 →
    Calls Try.prog 13 #[.int .i64 (i : Int), .int .i64 (k : Int)] w fun e w' => ∃ v, e = .returned v ∧ w'.ownsRow w.heap.size 39 2 v (covL i k).length (blkAll (covL i k)) ∧ Below w.heap.size w w' := by
  obtain ⟨ip, hip, hp0, hp1, hp2⟩ := info_parts infoBlk
  induction n with
  | zero => intro i k w hn; omega
  | succ n ih =>
    intro i k w hn hik hk
    have HIH : Hid (∀ (i k : Nat) (w : World), k - i < n → i ≤ k → k ≤ 64 →
        Calls Try.prog 13 #[.int .i64 (i : Int), .int .i64 (k : Int)] w fun e w' => ∃ v, e = .returned v ∧ w'.ownsRow w.heap.size 39 2 v (covL i k).length (blkAll (covL i k)) ∧ Below w.heap.size w w') := ih
    clear ih
    go_enter Try.func13, Try.ntmps13
    go_wp2_with fail
    go_loopw [5] (fun x wr => ∃ L : Nat, L ≤ 7 ∧ x = .int .i64 ((L : Int) - 1) ∧ (∀ u, L ≤ u → u ≤ 6 → ¬ FitsB i k u) ∧ wr = w) (fun x _ => (intOf x + 1).toNat)
    case atStart => exact ⟨7, Nat.le_refl _, rfl, fun u h1 h2 => by omega, rfl⟩
    case round =>
      rename World => wr
      obtain ⟨L, hL, rfl, hno, hwr⟩ := hrel
      subst hwr
      have HNO : Hid (∀ u, L ≤ u → u ≤ 6 → ¬ FitsB i k u) := hno
      clear hno
      rcases Nat.eq_zero_or_pos L with h0 | h0
      · subst h0
        have HE : Hid (covL i k = []) := covL_none (lvl_no fun u hu => HNO.out u (Nat.zero_le _) hu)
        go_wp2_with fail
        go_ret
        rw [HE.out]
        exact ⟨_, rfl, World.ownsRow_nil _ _ _ _, Below.refl _ _⟩
      · obtain ⟨v, rfl⟩ : ∃ v, L = v + 1 := ⟨L - 1, by omega⟩
        rw [show ((v + 1 : Nat) : Int) - 1 = (v : Int) by omega]
        go_wp2_with fail
        go_loopw [6, 14] (fun a c wr2 => ∃ (m p : Nat), m ≤ v ∧ 2 ^ m = p ∧ p ≤ 64 ∧ c = .int .i64 m ∧ a = .int .i64 p ∧ wr2 = wr) (fun _ c _ => v - (intOf c).toNat)
        case atStart => exact ⟨0, 1, Nat.zero_le _, rfl, by omega, rfl, rfl, rfl⟩
        case round =>
          rename World => wr2
          obtain ⟨m, p, hm, hp, hp6, rfl, rfl, hwr⟩ := hrel
          subst hwr
          by_cases hmv : m < v
          · have hmi : (m : Int) < (v : Int) := by omega
            have HP : Hid (2 ^ (m + 1) = p * 2 ∧ p * 2 ≤ 64) := by
              have h1 := two_pow_next hp
              have h2 := (pow_six (show m + 1 ≤ 6 by omega)).1
              exact ⟨h1, by omega⟩
            clear hp
            go_wp2_with fail
            go_roundw
            case rel => exact ⟨m + 1, p * 2, by omega, HP.out.1, HP.out.2, by go_num, by go_num, by first | rfl | trivial⟩
            case measure => simp [intOf]; omega
          · obtain rfl : m = v := by omega
            have hmi : ¬ (m : Int) < (m : Int) := by omega
            have hpp : 1 ≤ p := by have := (pow_six (show m ≤ 6 by omega)).2; omega
            obtain ⟨b, hb⟩ : ∃ b, upTo i m = b := ⟨_, rfl⟩
            have hq := upTo_num hp hb hpp
            have hle := up_le i m
            have hnx := up_next b m
            have hge := up_ge i m
            rw [hb, hp] at hle hge
            rw [hp] at hnx
            have hbp : b ≤ b * p := Nat.le_mul_of_pos_right _ hpp
            obtain ⟨r, hr⟩ : ∃ r, b * p = r := ⟨_, rfl⟩
            obtain ⟨t, ht⟩ : ∃ t, (b + 1) * p = t := ⟨_, rfl⟩
            rw [hr] at hle hnx hge hbp
            rw [ht] at hnx
            have hb2 : (b : Int) ≤ 128 := by omega
            have hr2 : (r : Int) ≤ 128 := by omega
            have ht2 : (t : Int) ≤ 192 := by omega
            have HR : Hid (i ≤ r ∧ t = r + p) := ⟨hge, hnx⟩
            have hri : (b : Int) * (p : Int) = (r : Int) := by rw [← hr, Int.natCast_mul]
            have hti : ((b : Int) + 1) * (p : Int) = (t : Int) := by rw [← ht, Int.natCast_mul]; rfl
            have hpz : ((p : Int) == 0) = false := by simp; omega
            have hpn : (p : Int) ≠ 0 := by omega
            have HF : Hid (FitsB i k m ↔ t ≤ k) := by
              show (upTo i m + 1) * 2 ^ m ≤ k ↔ t ≤ k
              rw [hb, hp, ht]
            by_cases htk : t ≤ k
            · have hki : (t : Int) ≤ (k : Int) := by omega
              have HL : Hid (covL i k = covL i r ++ (m, b) :: covL t k) := by
                have h := covL_some hk (lvl_at (by omega) (HF.out.2 htk) (fun u a c => HNO.out u (by omega) c))
                rw [hb, hp, hr, ht] at h
                exact h
              have H1 : Hid (∀ w : World, _) := fun w => HIH.out i r w (by omega) (by omega) (by omega)
              have H2 : Hid (∀ w : World, _) := fun w => HIH.out t k w (by omega) htk hk
              have hl1 := cov_len (i := i) (k := r) (by omega) (by omega)
              have hl2 := cov_len htk hk
              obtain ⟨X, hX⟩ : ∃ X, covL i r = X := ⟨_, rfl⟩
              obtain ⟨Y, hY⟩ : ∃ Y, covL t k = Y := ⟨_, rfl⟩
              rw [hX] at H1 HL hl1
              rw [hY] at H2 HL hl2
              clear hb hp hr ht hX hY hbp hnx hle hge
              go_wp2_with fail
              refine (H1.out _).mono ?_
              rintro e w1 ⟨v1, rfl, ho1, hb1⟩
              obtain ⟨a1, c1, rfl⟩ := bks_form ho1
              have HB1 : Hid (Below wr2.heap.size wr2 w1) := hb1
              have HO1 : Hid (w1.ownsRow wr2.heap.size 39 2 (.slice a1 X.length c1) X.length (blkAll X)) := ho1
              have hz1 := hb1.size
              have HTI : Hid (((b : Int) + 1) * (p : Int) = (t : Int)) := hti
              have ht64 : t ≤ 64 := Nat.le_trans htk hk
              clear hti hq hri hpz hpn HF htk hki hmi hmv
              have hA := World.ownsRow.alloc HO1.out (.cells #[.int .i64 (m : Int), .int .i64 (b : Int)] 39)
              clear ho1
              go_wp2_with (at_builtin; refine wpList_append_own _ rfl _ _ 36 rfl wr2.heap.size 39 ip _ 2 16 Try.underlying36 hip hp0 hp1 hp2 rfl (by decide) _ _ _ rfl hA ⟨w1.heap.size, 0, none⟩ 1 1 [.int .i64 (m : Int), .int .i64 (b : Int)] rfl rfl (bks_lit w1 [(m, b)] (by simp)).cells (by simp [Value.oneCell']) ?c3 ?c4 ?c5 ?_)
              case c3 => unfold maxLen; omega
              case c4 => omega
              case c5 => first | omega | (simp; omega)
              intro v2 w2 hown2 hgrow _
              have HB2 : Hid (Below wr2.heap.size wr2 w2) := bks_below (HB1.out.alloc hz1 _) hA hgrow (by simp; omega)
              have HO2 : Hid (w2.ownsRow wr2.heap.size 39 2 v2 (X ++ [(m, b)]).length (blkAll (X ++ [(m, b)]))) := bk_snoc hown2
              have hz2 := HB2.out.size
              have hlX : (X ++ [(m, b)]).length ≤ 65 := by simp; omega
              obtain ⟨Z, hZ⟩ : ∃ Z, X ++ [(m, b)] = Z := ⟨_, rfl⟩
              have HL2 : Hid (covL i k = Z ++ Y) := by show _ = _; rw [HL.out, ← hZ, List.append_assoc]; rfl
              rw [hZ] at HO2 hlX
              obtain ⟨a2, c2, e2⟩ := bks_form HO2.out
              subst e2
              clear hZ HL
              have hti := HTI.out
              clear hown2 hgrow hA
              go_wp2_with fail
              refine (H2.out _).mono ?_
              rintro e w3 ⟨v3, rfl, ho3, hb3⟩
              have HB3 : Hid (Below wr2.heap.size wr2 w3) := HB2.out.trans (hb3.mono hz2)
              have HO3 : w3.ownsRow wr2.heap.size 39 2 (.slice a2 Z.length c2) Z.length (blkAll Z) := own_below HO2.out hb3
              obtain ⟨a3, c3, rfl, hn3, hc3⟩ := bks_own2 ho3
              have hz3 := HB3.out.size
              clear hb3 ho3
              cases a3 with
              | none =>
                have hY0 : Y = [] := by
                  cases Y with
                  | nil => rfl
                  | cons y Y => obtain ⟨_, _, e, _⟩ := hn3.2.2.2 (by simp); cases e
                subst hY0
                obtain rfl := hc3 rfl
                clear hc3 hti
                go_wp2_with (at_builtin; refine wpList_append_own_none rfl _ _ 36 rfl wr2.heap.size 39 ip 2 Try.underlying36 hip _ _ _ rfl HO3 rfl ?_)
                go_wp2_with fail
                go_ret
                rw [HL2.out, List.append_nil]
                exact ⟨_, rfl, HO3, HB3.out⟩
              | some ad =>
                clear hc3 hti
                go_wp2_with (at_builtin; refine wpList_append_own _ rfl _ _ 36 rfl wr2.heap.size 39 ip _ 2 16 Try.underlying36 hip hp0 hp1 hp2 rfl (by decide) _ _ _ rfl HO3 ad Y.length c3 (blkAll Y) rfl (blkAll_length Y) hn3.cells (blkAll_one Y) ?c3 ?c4 ?c5 ?_)
                case c3 => unfold maxLen; omega
                case c4 => omega
                case c5 => first | omega | (simp; omega)
                intro v4 w4 hown4 hgrow _
                have HB4 : Hid (Below wr2.heap.size wr2 w4) := bks_below HB3.out HO3 hgrow hz3
                have HO4 : Hid (w4.ownsRow wr2.heap.size 39 2 v4 (Z ++ Y).length (blkAll (Z ++ Y))) := by
                  show World.ownsRow _ _ _ _ _ _ _
                  rw [blkAll_append, List.length_append]; exact hown4
                clear hown4 hgrow HO3
                go_wp2_with fail
                go_ret
                rw [HL2.out]
                exact ⟨v4, rfl, HO4.out, HB4.out⟩
            · have hki : ¬ (t : Int) ≤ (k : Int) := by omega
              have HN2 : Hid (∀ u, m ≤ u → u ≤ 6 → ¬ FitsB i k u) := by
                intro u h1 h2 h3
                rcases Nat.eq_or_lt_of_le h1 with rfl | h4
                · exact htk (HF.out.1 h3)
                · exact HNO.out u h4 h2 h3
              clear hb hp hr ht hbp hnx hle hge
              go_wp2_with fail
              go_roundw
              case rel => exact ⟨m, by omega, by go_num, HN2.out, by first | rfl | trivial⟩
              case measure => simp [intOf]
end Go.Proofs.Ytinhidddfpjjkab
