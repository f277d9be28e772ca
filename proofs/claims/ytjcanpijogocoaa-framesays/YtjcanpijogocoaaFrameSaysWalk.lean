/- The law FrameSays, walked: it answers true. -/
import Derived.Test.YtjcanpijogocoaaRUnframe
namespace Go.Proofs.Ytjcanpijogocoaa
open Go.RowKit
set_option linter.unusedSimpArgs false
set_option linter.unusedVariables false

set_option maxRecDepth 100000 in
set_option maxHeartbeats 4000000 in
theorem FrameSays_any (k : Int) (t s : ByteArray) (w : World) (ht : t.size ≤ 9223372036854775807) (hs : s.size ≤ 9223372036854775807) :
    Calls Try.prog 4 #[.agg #[.int .i64 k, .string t], .string s] w fun e w' => e = .returned (.bool true) ∧ Below w.heap.size w w' := by
  have H1 : Hid _ := fun w => FPut_any k t w ht
  have H2 : Hid _ := fun w => RFrame_any k t w ht
  have H3 : Hid _ := fun w => FGet_any s w hs
  have H4 : Hid _ := fun w => RUnframe_any s w hs
  unfold frV at H3 H4
  obtain ⟨u, hu⟩ : ∃ u, putT k t.data.toList = u := ⟨_, rfl⟩
  obtain ⟨e1, he1⟩ : ∃ x, putE k t.data.toList = x := ⟨_, rfl⟩
  obtain ⟨K, hK⟩ : ∃ x : Int, ((gotK s.data.toList : Nat) : Int) = x := ⟨_, rfl⟩
  obtain ⟨b, hb⟩ : ∃ x, (⟨(gotB s.data.toList).toArray⟩ : ByteArray) = x := ⟨_, rfl⟩
  obtain ⟨m, hm⟩ : ∃ x : Int, ((gotN s.data.toList : Nat) : Int) = x := ⟨_, rfl⟩
  obtain ⟨e2, he2⟩ : ∃ x, gotE s.data.toList = x := ⟨_, rfl⟩
  rw [hu, he1] at H1 H2
  rw [hK, hb, hm, he2] at H3 H4
  clear hu he1 hK hb hm he2
  have hsf : ∀ w, (binOp .eql 26 (.agg #[.int .i64 K, .string b]) (.agg #[.int .i64 K, .string b])).run Try.prog w = .ok (.bool true) w := fun w => by rw [same_frame]; simp
  go_enter Try.func4, Try.ntmps4
  go_wp2_with fail
  refine (H1.out _).mono ?_
  rintro e w1 ⟨rfl, hb1⟩
  have HB1 : Hid (Below w.heap.size w w1) := ((Below.refl _ w).alloc (Nat.le_refl _) _).trans (hb1.mono (by simp))
  obtain ⟨p0, p1, p2⟩ := (fbox_here w k t).below hb1
  have hz1 := HB1.out.size
  clear hb1
  go_wp2_with fail
  refine (H2.out _).mono ?_
  rintro e w2 ⟨rfl, hb2⟩
  have HB2 : Hid (Below w.heap.size w w2) := HB1.out.trans (hb2.mono HB1.out.size)
  clear hb2 p0 p1 p2
  go_wp2_with fail
  refine (H3.out _).mono ?_
  rintro e w3 ⟨rfl, hb3⟩
  have HB3 : Hid (Below w.heap.size w w3) := HB2.out.trans (hb3.mono HB2.out.size)
  have hz3 := HB3.out.size
  clear hb3
  go_wp2_with fail
  refine (H4.out _).mono ?_
  rintro e w4 ⟨rfl, hb4⟩
  have HB4 : Hid (Below w.heap.size w w4) := (HB3.out.alloc hz3 _).trans (hb4.mono (by simp; omega))
  obtain ⟨q0, q1, q2⟩ := (fbox_here w3 K b).below hb4
  have hz4 := HB4.out.size
  clear hb4
  go_wp2_with fail
  go_ret
  exact ⟨rfl, HB4.out.alloc hz4 _⟩
end Go.Proofs.Ytjcanpijogocoaa
