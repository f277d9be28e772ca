/- What the laws on disks lean on. -/
import Derived.Test.YtkihanmodfnpcaaDiskCrash
import Derived.Test.YtkihanmodfnpcaaDiskEq
namespace Go.Proofs.Ytkihanmodfnpcaa
open Go.RowKit
set_option linter.unusedSimpArgs false
set_option linter.unusedVariables false

theorem extract_self (C : ByteArray) : C.extract 0 C.size = C := by
  apply ByteArray.ext
  simp
theorem cr_again {C : ByteArray} {m : Nat} (h : C.size = m) (k : Int) : crN C m k = m := by
  unfold crN; omega
theorem dk_of {a b : ByteArray} {x y : Int} (h1 : slE a x = 0) (h2 : slE b y = 0) : dkE a x b y = 0 := by rw [dkE, if_pos h1, h2]
/-- what Append answers: an error, or a disk that is right -/
theorem DAppend_all (a : ByteArray) (x : Int) (b : ByteArray) (y i : Int) (s : ByteArray) (ha : a.size ≤ 9223372036854775807) (hb : b.size ≤ 9223372036854775807) (hs : s.size ≤ 9223372036854775807) :
    (∃ q : Int, q ≠ 0 ∧ ∀ w : World, Calls Try.prog 9 #[dkV a x b y, .int .i64 i, .string s] w fun e w' => e = .returned (.tuple #[dk0, .int .i64 q]) ∧ Below w.heap.size w w') ∨
    (∃ A B : ByteArray, (i = 0 ∨ i = 1) ∧ dkE A x B y = 0 ∧ dkE a x b y = 0 ∧ (i = 0 → A = a ++ s ∧ B = b) ∧ (i = 1 → A = a ∧ B = b ++ s) ∧ ∀ w : World, Calls Try.prog 9 #[dkV a x b y, .int .i64 i, .string s] w fun e w' => e = .returned (.tuple #[dkV A x B y, .int .i64 0]) ∧ Below w.heap.size w w') := by
  by_cases h : dksE a x b y i = 0
  · obtain ⟨hd, hi⟩ := dks_zero h
    obtain ⟨k1, k2⟩ := dk_zero hd
    obtain ⟨m0, m1, m2⟩ := sl_zero k1
    obtain ⟨l0, l1, l2⟩ := sl_zero k2
    rcases hi with rfl | rfl
    · by_cases hf : a.size + s.size ≤ 1048576
      · exact .inr ⟨a ++ s, b, .inl rfl, dk_of (sl_of (by rw [ByteArray.size_append]; omega) m1 (by rw [ByteArray.size_append]; omega)) k2, hd, fun _ => ⟨rfl, rfl⟩, fun e => by omega, fun w => DAppend_ok0 a x b y s h hf w ha hb hs⟩
      · exact .inl ⟨2, by decide, fun w => DAppend_big0 a x b y s h (by omega) w ha hb hs⟩
    · by_cases hf : b.size + s.size ≤ 1048576
      · exact .inr ⟨a, b ++ s, .inr rfl, dk_of k1 (sl_of (by rw [ByteArray.size_append]; omega) l1 (by rw [ByteArray.size_append]; omega)), hd, fun e => by omega, fun _ => ⟨rfl, rfl⟩, fun w => DAppend_ok1 a x b y s h hf w ha hb hs⟩
      · exact .inl ⟨2, by decide, fun w => DAppend_big1 a x b y s h (by omega) w ha hb hs⟩
  · exact .inl ⟨_, h, fun w => DAppend_err a x b y s i _ rfl h w ha hb hs⟩
theorem dks_of {a b : ByteArray} {x y i : Int} (h : dkE a x b y = 0) (hi : i = 0 ∨ i = 1) : dksE a x b y i = 0 := by
  rw [dksE, if_pos h, if_neg (by omega)]
theorem DAppend_two (w : World) : Calls Try.prog 9 #[dk0, .int .i64 1, .string ⟨#[97, 98]⟩] w fun e w' => e = .returned (.tuple #[.agg #[.string ⟨#[]⟩, .int .i64 0, .string ⟨#[97, 98]⟩, .int .i64 0], .int .i64 0]) ∧ Below w.heap.size w w' :=
  DAppend_ok1 ⟨#[]⟩ 0 ⟨#[]⟩ 0 ⟨#[97, 98]⟩ (by decide) (by decide) w (by decide) (by decide) (by decide)
/-- what Crash answers, of a disk that is right -/
theorem DCrash_all (A : ByteArray) (x : Int) (B : ByteArray) (y p q : Int) (h : dkE A x B y = 0) : ∃ (C E : ByteArray) (m n : Nat), A.extract 0 m = C ∧ B.extract 0 n = E ∧ C.size = m ∧ E.size = n ∧ m ≤ A.size ∧ n ≤ B.size ∧ x ≤ m ∧ y ≤ n ∧ (p < 0 → (m : Int) = x) ∧ (q < 0 → (n : Int) = y) ∧
    ∀ w : World, Calls Try.prog 14 #[dkV A x B y, .agg #[.int .i64 p, .int .i64 q]] w fun e w' => e = .returned (.tuple #[dkV C (m : Nat) E (n : Nat), .int .i64 0]) ∧ Below w.heap.size w w' := by
  obtain ⟨k1, k2⟩ := dk_zero h
  obtain ⟨m0, m1, m2⟩ := sl_zero k1
  obtain ⟨l0, l1, l2⟩ := sl_zero k2
  obtain ⟨u0, u1, u2⟩ := cr_le p k1
  obtain ⟨v0, v1, v2⟩ := cr_le q k2
  exact ⟨_, _, _, _, rfl, rfl, by rw [ByteArray.size_extract]; omega, by rw [ByteArray.size_extract]; omega, u0, v0, u1, v1, fun _ => by omega, fun _ => by omega, fun w => DCrash_ok A x B y p q h w⟩
/-- a second one changes nothing -/
theorem DCrash_again (C E : ByteArray) (m n : Nat) (p q : Int) (hm : C.size = m) (hn : E.size = n) (h1 : m ≤ 1048576) (h2 : n ≤ 1048576) (w : World) :
    Calls Try.prog 14 #[dkV C (m : Nat) E (n : Nat), .agg #[.int .i64 p, .int .i64 q]] w fun e w' => e = .returned (.tuple #[dkV C (m : Nat) E (n : Nat), .int .i64 0]) ∧ Below w.heap.size w w' := by
  have h := DCrash_ok C m E n p q (dk_of (sl_of (by omega) (by omega) (by omega)) (sl_of (by omega) (by omega) (by omega))) w
  rw [cr_again hm, cr_again hn] at h
  have e1 : C.extract 0 m = C := by rw [← hm]; exact extract_self C
  have e2 : E.extract 0 n = E := by rw [← hn]; exact extract_self E
  rw [e1, e2] at h
  exact h
end Go.Proofs.Ytkihanmodfnpcaa
