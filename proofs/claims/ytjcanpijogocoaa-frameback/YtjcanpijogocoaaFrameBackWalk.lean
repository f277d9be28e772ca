/- The law FrameBack, walked: it answers true. -/
import Derived.Test.YtjcanpijogocoaaFrameKit
import Derived.Test.YtjcanpijogocoaaNumWithin
namespace Go.Proofs.Ytjcanpijogocoaa
open Go.RowKit
set_option linter.unusedSimpArgs false
set_option linter.unusedVariables false

theorem put_three : putE 3 [] = 0 ∧ putT 3 [] = [3, 0, 0, 9, 99, 74, 138] := by decide +kernel
set_option maxRecDepth 100000 in
set_option maxHeartbeats 4000000 in
theorem FrameBack_any (k : Int) (t more : ByteArray) (at0 : Int) (w : World) (ht : t.size ≤ 9223372036854775807) (hs : more.size ≤ 140737488355328) :
    Calls Try.prog 8 #[.agg #[.int .i64 k, .string t], .string more, .int .i64 at0] w fun e w' => e = .returned (.bool true) ∧ Below w.heap.size w w' := by
  have H0 : Hid _ := fun w => FPut_any 3 ⟨#[]⟩ w (by decide)
  change Hid (∀ w, Calls Try.prog 11 #[.agg #[.int .i64 3, .string ⟨#[]⟩]] w fun e w' => e = .returned (.tuple #[.string ⟨(putT 3 []).toArray⟩, .int .i64 (putE 3 [])]) ∧ Below w.heap.size w w') at H0
  rw [put_three.1, put_three.2] at H0
  have H1 : Hid _ := fun w => FPut_any k t w (by omega)
  have hx0 : (!((⟨#[3, 0, 0, 9, 99, 74, 138]⟩ : ByteArray).extract 0 3).toList == [3, 0, 0]) = false := by decide +kernel
  have htl : t.data.toList.length = t.size := Array.length_toList
  by_cases hE : putE k t.data.toList = 0
  · obtain ⟨k1, k2, k3⟩ := putE_ok hE
    have hT : putT k t.data.toList = frameL k.toNat t.data.toList := by rw [putT, hE]; rfl
    obtain ⟨m, rfl⟩ : ∃ m : Nat, k = m := ⟨k.toNat, by omega⟩
    rw [Int.toNat_natCast] at hT
    rw [hE, hT] at H1
    have hfl := frameL_len m t.data.toList
    have hg := got_frame (k := m) (b := t.data.toList) (by omega) (by omega) k3 more.data.toList
    have hcut : ∀ r, r < (frameL m t.data.toList).length → gotE ((frameL m t.data.toList).take r) = 5 := fun r hr => got_cut (by omega) (by omega) k3 hr
    obtain ⟨u, hu⟩ : ∃ u, frameL m t.data.toList = u := ⟨_, rfl⟩
    rw [hu] at H1 hfl hg hcut
    have H2 : Hid _ := fun w => FGet_any (⟨u.toArray⟩ ++ more) w (by rw [ByteArray.size_append]; show u.toArray.size + _ ≤ _; simp; omega)
    have e2 : ((⟨u.toArray⟩ : ByteArray) ++ more).data.toList = u ++ more.data.toList := by simp
    rw [e2, hg.1, hg.2.1, hg.2.2.1, hg.2.2.2] at H2
    unfold frV at H2
    rw [str_eq] at H2
    have hsf : ∀ w, (binOp .eql 26 (.agg #[.int .i64 (m : Int), .string t]) (.agg #[.int .i64 (m : Int), .string t])).run Try.prog w = .ok (.bool true) w := fun w => by rw [same_frame]; simp
    have HCUT : Hid _ := hcut
    have hul : u.length ≤ 4007 := by omega
    have hul7 : 7 ≤ u.length := by omega
    clear hE hT hu hg e2 hcut k1 k2 k3 hfl htl
    go_enter Try.func8, Try.ntmps8
    go_wp2_with fail
    refine (H0.out _).mono ?_
    rintro e w1 ⟨rfl, hb1⟩
    have HB1 : Hid (Below w.heap.size w w1) := ((Below.refl _ w).alloc (Nat.le_refl _) _).trans (hb1.mono (by simp))
    obtain ⟨p0, p1, p2⟩ := (fbox_here w m t).below hb1
    have hz1 := HB1.out.size
    clear hb1
    go_wp2_with fail
    refine (H1.out _).mono ?_
    rintro e w2 ⟨rfl, hb2⟩
    have HB2 : Hid (Below w.heap.size w w2) := HB1.out.trans (hb2.mono HB1.out.size)
    have hf2 := FBox.below ⟨p0, p1, p2⟩ hb2
    clear hb2 p0 p1 p2 hx0
    go_wp2_with fail
    refine (H2.out _).mono ?_
    rintro e w3 ⟨rfl, hb3⟩
    have HB3 : Hid (Below w.heap.size w w3) := HB2.out.trans (hb3.mono HB2.out.size)
    have hz3 := HB3.out.size
    have hf3 := hf2.below hb3
    have hf4 : FBox (w3.alloc (.cells #[.int .i64 (m : Int), .string t] 26)) w.heap.size m t := hf3.below ((Below.refl _ w3).alloc (Nat.le_refl _) _)
    have HF4 : Hid (FBox (w3.alloc (.cells #[.int .i64 (m : Int), .string t] 26)) w.heap.size m t) := hf4
    clear hb3 hf2 hf3 hf4
    go_wp2_with fail
    refine (Within3_any at0 u.length _ (by omega) (by omega)).mono ?_
    rintro e w4 ⟨r, rfl, hr, e4⟩
    subst e4
    have HE : Hid _ := HCUT.out r hr
    have hxt : ((⟨u.toArray⟩ : ByteArray).extract 0 r).data.toList = u.take r := by rw [Lib.extract_data]; simp
    have H3 : Hid _ := fun w => FGet_any ((⟨u.toArray⟩ : ByteArray).extract 0 r) w (by rw [ByteArray.size_extract]; show min r u.toArray.size - 0 ≤ _; simp; omega)
    rw [hxt, HE.out] at H3
    obtain ⟨g1, g2, g3⟩ := got_bad (l := u.take r) (by rw [HE.out]; decide)
    rw [g1, g2, g3] at H3
    unfold frV at H3
    clear hxt g1 g2 g3
    go_wp2_with fail
    refine (H3.out _).mono ?_
    rintro e w5 ⟨rfl, hb5⟩
    have HB5 : Hid (Below w.heap.size w w5) := (HB3.out.alloc hz3 _).trans (hb5.mono (by simp; omega))
    obtain ⟨q0, q1, q2⟩ := HF4.out.below hb5
    obtain ⟨r0, r1, r2⟩ := (fbox_here w3 m t).below hb5
    have hz5 := HB5.out.size
    clear hb5
    go_wp2_with fail
    go_ret
    exact ⟨rfl, HB5.out.alloc hz5 _⟩
  · have hT : putT k t.data.toList = [] := by rw [putT, if_neg hE]
    rw [hT] at H1
    obtain ⟨e0, he0⟩ : ∃ x, putE k t.data.toList = x := ⟨_, rfl⟩
    rw [he0] at H1 hE
    have he' : (e0 != 0) = true := by simp [hE]
    clear he0 hE hT htl
    go_enter Try.func8, Try.ntmps8
    go_wp2_with fail
    refine (H0.out _).mono ?_
    rintro e w1 ⟨rfl, hb1⟩
    have HB1 : Hid (Below w.heap.size w w1) := ((Below.refl _ w).alloc (Nat.le_refl _) _).trans (hb1.mono (by simp))
    obtain ⟨p0, p1, p2⟩ := (fbox_here w k t).below hb1
    have hz1 := HB1.out.size
    clear hb1
    go_wp2_with fail
    refine (H1.out _).mono ?_
    rintro e w2 ⟨rfl, hb2⟩
    have HB2 : Hid (Below w.heap.size w w2) := HB1.out.trans (hb2.mono HB1.out.size)
    clear hb2 p0 p1 p2
    go_wp2_with fail
    go_ret
    exact ⟨rfl, HB2.out⟩
end Go.Proofs.Ytjcanpijogocoaa
