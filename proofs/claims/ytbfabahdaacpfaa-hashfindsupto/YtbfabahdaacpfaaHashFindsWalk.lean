/- The law HashFinds, walked: it answers true. -/
import Derived.Test.YtbfabahdaacpfaaFinds
namespace Go.Proofs.Ytbfabahdaacpfaa
open Go.RowKit
set_option linter.unusedSimpArgs false
set_option linter.unusedVariables false

theorem empty_or (t : ByteArray) : t = ⟨#[]⟩ ∨ 0 < t.size := by
  by_cases h : t.size = 0
  · left
    obtain ⟨d⟩ := t
    have h1 : d.size = 0 := h
    rw [Array.size_eq_zero_iff.1 h1]
  · right; omega
theorem full_ne {t : ByteArray} (h : 0 < t.size) : (t.toList == ([] : List UInt8)) = false := by
  have htl : t.data.toList.length = t.size := Array.length_toList
  rw [ByteArray.toList_eq]
  cases h1 : t.data.toList with
  | nil => rw [h1] at htl; simp at htl; omega
  | cons x r => rfl

set_option maxRecDepth 100000 in
set_option maxHeartbeats 8000000 in
theorem HashFinds_any (s t : ByteArray) (w : World) (hs : s.size ≤ 1000000000000) (ht : t.size ≤ 1000000000000) :
    Calls Try.prog 6 #[.string s, .string t] w fun e w' => e = .returned (.bool true) ∧ Below w.heap.size w w' := by
  rcases empty_or t with h0 | h0
  · subst h0
    go_enter Try.func6, Try.ntmps6
    go_wp2_with fail
    refine (Find_not s _ _ rfl).mono ?_
    rintro e w1 ⟨rfl, we⟩
    subst we
    go_wp2_with fail
    go_ret
    exact ⟨rfl, Below.refl _ _⟩
  · have hne := full_ne h0
    go_enter Try.func6, Try.ntmps6
    go_wp2_with fail
    refine (Find_any s t _ h0 hs).mono ?_
    rintro e w1 ⟨v, rfl, ho, hb⟩
    have HO : Hid _ := ho
    have HB : Hid _ := hb
    clear ho hb
    go_wp2_with fail
    refine (RFinds_any s t _ hs ht).mono ?_
    rintro e w2 ⟨u, rfl, ho2, hb2⟩
    have HO1 : Hid _ := Ints.below HO.out hb2
    have HO2 : Hid _ := ho2
    have HB2 : Hid (Below w.heap.size w w2) := HB.out.trans (hb2.mono HB.out.size)
    have hl := finds_len s.data.toList t.data.toList
    have hsl : s.data.toList.length = s.size := Array.length_toList
    rw [hsl] at hl
    clear ho2 hb2 hsl
    go_wp2_with fail
    refine (EqInt_yes _ _ v u _ _ HO1.out HO2.out (by omega)).mono ?_
    rintro e w3 ⟨rfl, hb3⟩
    have HB3 : Hid (Below w.heap.size w w3) := HB2.out.trans (hb3.mono HB2.out.size)
    clear hb3
    go_wp2_with fail
    go_ret
    exact ⟨rfl, HB3.out⟩
end Go.Proofs.Ytbfabahdaacpfaa
