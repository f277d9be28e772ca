/- The law HashParts, walked: it answers true. -/
import Derived.Test.YtbfabahdaacpfabHashJoin
namespace Go.Proofs.Ytbfabahdaacpfab
open Go.RowKit
set_option linter.unusedSimpArgs false
set_option linter.unusedVariables false

theorem hash_none : hashL ([] : List UInt8) = 0 := rfl
theorem hash_ab : hashL [97, 98] = 25285 := by decide
theorem hash_cat (s t : ByteArray) : hashL (s ++ t).data.toList = joinN (hashL s.data.toList) (hashL t.data.toList) t.size := by
  have h : (s ++ t).data.toList = s.data.toList ++ t.data.toList := by simp
  have htl : t.data.toList.length = t.size := Array.length_toList
  rw [h, hash_app, htl]

set_option maxRecDepth 100000 in
set_option maxHeartbeats 8000000 in
theorem HashParts_any (s t u : ByteArray) (w : World) (hs : s.size ≤ 1000000000) (ht : t.size ≤ 1000000000) (hu : u.size ≤ 1000000000) :
    Calls Try.prog 3 #[.string s, .string t, .string u] w fun e w' => e = .returned (.bool true) ∧ Below w.heap.size w w' := by
  have HA : Hid _ := hash_cat s t
  have HC : Hid _ := hash_cat (s ++ t) u
  have HJ : Hid _ := join_assoc (hashL s.data.toList) (hashL t.data.toList) (hashL u.data.toList) t.size u.size
  obtain ⟨x, hx⟩ : ∃ x, hashL s.data.toList = x := ⟨_, rfl⟩
  obtain ⟨y, hy⟩ : ∃ y, hashL t.data.toList = y := ⟨_, rfl⟩
  obtain ⟨z, hz⟩ : ∃ z, hashL u.data.toList = z := ⟨_, rfl⟩
  have lx : x < 2147483647 := by rw [← hx]; exact hash_lt _
  have ly : y < 2147483647 := by rw [← hy]; exact hash_lt _
  have lz : z < 2147483647 := by rw [← hz]; exact hash_lt _
  have HX : Hid _ := hx
  have HY : Hid _ := hy
  have HZ : Hid _ := hz
  clear hx hy hz
  have l1 := join_lt x y t.size
  have l2 := join_lt y z u.size
  obtain ⟨xy, hxy⟩ : ∃ n, joinN x y t.size = n := ⟨_, rfl⟩
  obtain ⟨yz, hyz⟩ : ∃ n, joinN y z u.size = n := ⟨_, rfl⟩
  obtain ⟨xyz, hxyz⟩ : ∃ n, joinN xy z u.size = n := ⟨_, rfl⟩
  have hxyz2 : joinN x yz (t.size + u.size) = xyz := by rw [← hxyz, ← hyz, ← hxy, join_assoc]
  rw [hxy] at l1
  rw [hyz] at l2
  have HC1 : Hid (hashL (s ++ t).data.toList = xy) := by show _ = _; rw [HA.out, HX.out, HY.out, hxy]
  have HC2 : Hid (hashL (s ++ t ++ u).data.toList = xyz) := by show _ = _; rw [HC.out, HC1.out, HZ.out, hxyz]
  have H1 : Hid _ := hxy
  have H2 : Hid _ := hyz
  have H3 : Hid _ := hxyz
  have H4 : Hid _ := hxyz2
  clear hxy hyz hxyz hxyz2
  go_enter Try.func3, Try.ntmps3
  go_wp2_with fail
  refine (HashOf_any ⟨#[]⟩ _ (by first | decide | omega | (simp only [ByteArray.size_append]; omega))).mono ?_
  rintro e w1 ⟨rfl, we⟩
  subst we
  rw [show hashL (⟨#[]⟩ : ByteArray).data.toList = 0 from rfl]
  go_wp2_with fail
  refine (HashOf_any ⟨#[97, 98]⟩ _ (by first | decide | omega | (simp only [ByteArray.size_append]; omega))).mono ?_
  rintro e w1 ⟨rfl, we⟩
  subst we
  rw [show hashL (⟨#[97, 98]⟩ : ByteArray).data.toList = 25285 from hash_ab]
  go_wp2_with fail
  refine (HashOf_any s _ (by first | decide | omega | (simp only [ByteArray.size_append]; omega))).mono ?_
  rintro e w1 ⟨rfl, we⟩
  subst we
  rw [HX.out]
  go_wp2_with fail
  refine (HashOf_any t _ (by first | decide | omega | (simp only [ByteArray.size_append]; omega))).mono ?_
  rintro e w1 ⟨rfl, we⟩
  subst we
  rw [HY.out]
  go_wp2_with fail
  try rw [show (t.size : Int) + (u.size : Int) = ((t.size + u.size : Nat) : Int) by omega]
  refine (Join_ok x y t.size _ (by omega) (by omega) (by omega)).mono ?_
  rintro e w1 ⟨rfl, we⟩
  subst we
  rw [H1.out]
  go_wp2_with fail
  refine (HashOf_any u _ (by first | decide | omega | (simp only [ByteArray.size_append]; omega))).mono ?_
  rintro e w1 ⟨rfl, we⟩
  subst we
  rw [HZ.out]
  go_wp2_with fail
  try rw [show (t.size : Int) + (u.size : Int) = ((t.size + u.size : Nat) : Int) by omega]
  refine (Join_ok xy z u.size _ (by omega) (by omega) (by omega)).mono ?_
  rintro e w1 ⟨rfl, we⟩
  subst we
  rw [H3.out]
  go_wp2_with fail
  refine (HashOf_any t _ (by first | decide | omega | (simp only [ByteArray.size_append]; omega))).mono ?_
  rintro e w1 ⟨rfl, we⟩
  subst we
  rw [HY.out]
  go_wp2_with fail
  refine (HashOf_any u _ (by first | decide | omega | (simp only [ByteArray.size_append]; omega))).mono ?_
  rintro e w1 ⟨rfl, we⟩
  subst we
  rw [HZ.out]
  go_wp2_with fail
  try rw [show (t.size : Int) + (u.size : Int) = ((t.size + u.size : Nat) : Int) by omega]
  refine (Join_ok y z u.size _ (by omega) (by omega) (by omega)).mono ?_
  rintro e w1 ⟨rfl, we⟩
  subst we
  rw [H2.out]
  go_wp2_with fail
  refine (HashOf_any s _ (by first | decide | omega | (simp only [ByteArray.size_append]; omega))).mono ?_
  rintro e w1 ⟨rfl, we⟩
  subst we
  rw [HX.out]
  go_wp2_with fail
  try rw [show (t.size : Int) + (u.size : Int) = ((t.size + u.size : Nat) : Int) by omega]
  refine (Join_ok x yz (t.size + u.size) _ (by omega) (by omega) (by omega)).mono ?_
  rintro e w1 ⟨rfl, we⟩
  subst we
  rw [H4.out]
  go_wp2_with fail
  refine (HashOf_any (s ++ t) _ (by first | decide | omega | (simp only [ByteArray.size_append]; omega))).mono ?_
  rintro e w1 ⟨rfl, we⟩
  subst we
  rw [HC1.out]
  go_wp2_with fail
  refine (HashOf_any (s ++ t ++ u) _ (by first | decide | omega | (simp only [ByteArray.size_append]; omega))).mono ?_
  rintro e w1 ⟨rfl, we⟩
  subst we
  rw [HC2.out]
  go_wp2_with fail
  go_ret
  refine ⟨?_, Below.refl _ _⟩
  rfl
end Go.Proofs.Ytbfabahdaacpfab
