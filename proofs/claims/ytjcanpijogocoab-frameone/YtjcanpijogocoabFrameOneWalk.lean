/- The law FrameOne, walked: it answers true. -/
import Derived.Test.YtjcanpijogocoabFrMem
namespace Go.Proofs.Ytjcanpijogocoab
open Go.RowKit
set_option linter.unusedSimpArgs false
set_option linter.unusedVariables false

theorem got_three : gotE [1, 0, 0] = 5 ∧ gotK [1, 0, 0] = 0 ∧ gotB [1, 0, 0] = [] ∧ gotN [1, 0, 0] = 0 := by decide +kernel
set_option maxRecDepth 100000 in
set_option maxHeartbeats 4000000 in
theorem FrameOne_any (s : ByteArray) (w : World) (hs : s.size ≤ 9223372036854775807) :
    Calls Try.prog 5 #[.string s] w fun e w' => e = .returned (.bool true) ∧ Below w.heap.size w w' := by
  have hl : s.data.toList.length = s.size := Array.length_toList
  have H0 : Hid _ := fun w => FGet_any ⟨#[1, 0, 0]⟩ w (by decide)
  change Hid (∀ w, Calls Try.prog 6 #[.string ⟨#[1, 0, 0]⟩] w fun e w' => e = .returned (.tuple #[frV (gotK [1, 0, 0]) (gotB [1, 0, 0]), .int .i64 (gotN [1, 0, 0]), .int .i64 (gotE [1, 0, 0])]) ∧ Below w.heap.size w w') at H0
  rw [got_three.1, got_three.2.1, got_three.2.2.1, got_three.2.2.2] at H0
  unfold frV at H0
  have H1 : Hid _ := fun w => FGet_any s w hs
  unfold frV at H1
  have hne := unlike_frame 0 ⟨#[]⟩
  have heq : ∀ w, (binOp .eql 23 (.agg #[.int .i64 0, .string ⟨#[]⟩]) (.agg #[.int .i64 0, .string ⟨#[]⟩])).run Try.prog w = .ok (.bool true) w := fun w => by rw [same_frame]; simp
  go_enter Try.func5, Try.ntmps5
  go_wp2_with fail
  refine (H0.out _).mono ?_
  rintro e w1 ⟨rfl, hb1⟩
  have HB1 : Hid (Below w.heap.size w w1) := hb1
  have hz1 := HB1.out.size
  clear hb1
  by_cases hE : gotE s.data.toList = 0
  · obtain ⟨g1, g2, g3, g4, g5, g6⟩ := got_put hE
    have hPE : putE (gotK s.data.toList : Int) (gotB s.data.toList) = 0 := putE_of (by omega) (by omega) g3
    have hPT : putT (gotK s.data.toList : Int) (gotB s.data.toList) = s.data.toList.take (gotN s.data.toList) := by rw [putT, if_pos hPE, Int.toNat_natCast, g6]
    have H2 : Hid _ := fun w => FPut_any (gotK s.data.toList : Int) ⟨(gotB s.data.toList).toArray⟩ w (by show (gotB s.data.toList).toArray.size ≤ _; simp; omega)
    change Hid (∀ w, Calls Try.prog 7 #[.agg #[.int .i64 (gotK s.data.toList : Int), .string ⟨(gotB s.data.toList).toArray⟩]] w fun e w' => e = .returned (.tuple #[.string ⟨(putT (gotK s.data.toList : Int) (gotB s.data.toList)).toArray⟩, .int .i64 (putE (gotK s.data.toList : Int) (gotB s.data.toList))]) ∧ Below w.heap.size w w') at H2
    rw [hPE, hPT] at H2
    rw [hE] at H1
    rw [hl] at g4
    obtain ⟨n, hn⟩ : ∃ n, gotN s.data.toList = n := ⟨_, rfl⟩
    obtain ⟨K, hK⟩ : ∃ K : Int, ((gotK s.data.toList : Nat) : Int) = K := ⟨_, rfl⟩
    obtain ⟨b, hb⟩ : ∃ b, (⟨(gotB s.data.toList).toArray⟩ : ByteArray) = b := ⟨_, rfl⟩
    rw [hn] at H1 H2 g4
    rw [hK, hb] at H1 H2
    obtain ⟨u, hu⟩ : ∃ u, s.data.toList.take n = u := ⟨_, rfl⟩
    rw [hu] at H2
    have hx : (u == (s.extract 0 n).toList) = true := by
      rw [ByteArray.toList_eq, Lib.extract_data, ← hu]; simp
    have hni : (n : Int) ≤ (s.size : Int) := by omega
    clear hn hK hb hu hPE hPT g1 g2 g3 g5 g6 hE hl
    go_wp2_with fail
    refine (H1.out _).mono ?_
    rintro e w2 ⟨rfl, hb2⟩
    have HB2 : Hid (Below w.heap.size w w2) := (HB1.out.alloc hz1 _).trans (hb2.mono (by simp; omega))
    have hz2 := HB2.out.size
    clear hb2
    go_wp2_with fail
    refine (H2.out _).mono ?_
    rintro e w3 ⟨rfl, hb3⟩
    have HB3 : Hid (Below w.heap.size w w3) := (HB2.out.alloc hz2 _).trans (hb3.mono (by simp; omega))
    clear hb3
    go_wp2_with fail
    go_ret
    exact ⟨rfl, HB3.out⟩
  · obtain ⟨g1, g2, g3⟩ := got_bad hE
    rw [g1, g2, g3] at H1
    obtain ⟨q, hq⟩ : ∃ q, gotE s.data.toList = q := ⟨_, rfl⟩
    rw [hq] at H1 hE
    have hq' : (q != 0) = true := by simp [hE]
    clear hq hE g1 g2 g3 hl
    go_wp2_with fail
    refine (H1.out _).mono ?_
    rintro e w2 ⟨rfl, hb2⟩
    have HB2 : Hid (Below w.heap.size w w2) := (HB1.out.alloc hz1 _).trans (hb2.mono (by simp; omega))
    have hz2 := HB2.out.size
    clear hb2
    go_wp2_with fail
    go_ret
    exact ⟨rfl, HB2.out.alloc hz2 _⟩
end Go.Proofs.Ytjcanpijogocoab
