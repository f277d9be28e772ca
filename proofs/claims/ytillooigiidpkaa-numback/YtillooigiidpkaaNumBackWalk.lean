/- The law NumBack, walked: it answers true. -/
import Derived.Test.YtillooigiidpkaaNumPut
import Derived.Test.YtillooigiidpkaaNumGet
import Derived.Test.YtillooigiidpkaaNumWithin
namespace Go.Proofs.Ytillooigiidpkaa
open Go.RowKit
set_option linter.unusedSimpArgs false
set_option linter.unusedVariables false

theorem get_put {m : Nat} (h : m ≤ 2147483647) (t : List UInt8) (ht : numL m = t) (more : ByteArray) :
    getN ((⟨t.toArray⟩ : ByteArray) ++ more).data.toList = m ∧ getK ((⟨t.toArray⟩ : ByteArray) ++ more).data.toList = t.length ∧ getE ((⟨t.toArray⟩ : ByteArray) ++ more).data.toList = 0 := by
  have e : ((⟨t.toArray⟩ : ByteArray) ++ more).data.toList = numL m ++ more.data.toList := by rw [ht]; simp
  obtain ⟨h1, h2, h3⟩ := num_get h more.data.toList
  obtain ⟨g1, g2⟩ := get_good h1
  rw [e, g1, g2, h1, h3, h2, ht]
  exact ⟨rfl, rfl, rfl⟩
theorem get_part {m : Nat} (h : m ≤ 2147483647) (t : List UInt8) (ht : numL m = t) {r : Nat} (hr : r < t.length) : getE ((⟨t.toArray⟩ : ByteArray).extract 0 r).data.toList = 5 := by
  rw [Lib.extract_data]
  simp only [List.drop_zero, Nat.sub_zero]
  show getE (t.take r) = 5
  subst ht
  exact num_cut h hr

set_option maxRecDepth 20000 in
set_option maxHeartbeats 4000000 in
theorem NumBack_any (n : Int) (more : ByteArray) (k : Int) (w : World) (hs : more.size ≤ 140737488355328) :
    Calls Try.prog 5 #[.int .i64 n, .string more, .int .i64 k] w fun e w' => e = .returned (.bool true) ∧ Below w.heap.size w w' := by
  by_cases h : n < 0 ∨ 2147483647 < n
  · have HP : Hid _ := fun w => Put_not n w h
    go_enter Try.func5, Try.ntmps5
    go_wp2_with fail
    refine (HP.out _).mono ?_
    rintro e w1 ⟨rfl, e1⟩
    subst e1
    rcases h with h | h
    · go_wp2_with fail
      go_ret
      exact ⟨rfl, Below.refl _ _⟩
    · have h0 : ¬ n < 0 := by omega
      go_wp2_with fail
      go_ret
      exact ⟨rfl, Below.refl _ _⟩
  · obtain ⟨m, rfl⟩ : ∃ m : Nat, n = m := ⟨n.toNat, by omega⟩
    have hm : m ≤ 2147483647 := by omega
    have HP : Hid _ := fun w => Put_ok m w hm
    have h5 := num_five hm
    have h1 := num_pos m
    obtain ⟨t, ht⟩ : ∃ t, numL m = t := ⟨_, rfl⟩
    rw [ht] at HP h5 h1
    have HG : Hid _ := get_put hm t ht more
    have HC : Hid (∀ r, r < t.length → _) := fun r hr => get_part hm t ht (r := r) hr
    have hz : ((⟨t.toArray⟩ : ByteArray) ++ more).size = t.length + more.size := by rw [ByteArray.size_append]; rfl
    have HZ : Hid _ := hz
    clear ht h hm hz
    go_enter Try.func5, Try.ntmps5
    go_wp2_with fail
    refine (HP.out _).mono ?_
    rintro e w1 ⟨rfl, hb1⟩
    have HB1 : Hid (Below w.heap.size w w1) := hb1
    clear hb1
    go_wp2_with fail
    refine (Get_any _ _ (by rw [HZ.out]; omega)).mono ?_
    rintro e w2 ⟨rfl, e2⟩
    subst e2
    rw [HG.out.1, HG.out.2.1, HG.out.2.2]
    go_wp2_with fail
    refine (Within3_any k t.length _ h1 (by omega)).mono ?_
    rintro e w3 ⟨r, rfl, hr, e3⟩
    subst e3
    have HE : Hid _ := HC.out r hr
    go_wp2_with fail
    refine (Get_any _ _ (by rw [ByteArray.size_extract]; omega)).mono ?_
    rintro e w4 ⟨rfl, e4⟩
    subst e4
    rw [HE.out]
    go_wp2_with fail
    go_ret
    exact ⟨rfl, HB1.out⟩
end Go.Proofs.Ytillooigiidpkaa
