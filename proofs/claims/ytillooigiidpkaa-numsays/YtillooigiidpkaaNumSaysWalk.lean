/- The law NumSays, walked: it answers true. -/
import Derived.Test.YtillooigiidpkaaRUnnum
namespace Go.Proofs.Ytillooigiidpkaa
open Go.RowKit
set_option linter.unusedSimpArgs false
set_option linter.unusedVariables false

set_option maxRecDepth 20000 in
set_option maxHeartbeats 4000000 in
theorem NumSays_any (n : Int) (s : ByteArray) (w : World) (hs : s.size ≤ 9223372036854775807) :
    Calls Try.prog 3 #[.int .i64 n, .string s] w fun e w' => e = .returned (.bool true) ∧ Below w.heap.size w w' := by
  have HG : Hid (∀ w, Calls Try.prog 11 #[.string s] w fun e w' => ∃ a b c : Int, e = .returned (.tuple #[.int .i64 a, .int .i64 b, .int .i64 c]) ∧ w' = w ∧ (getN s.data.toList : Int) = a ∧ (getK s.data.toList : Int) = b ∧ getE s.data.toList = c) := fun w => (Get_any s w hs).mono (fun e w' ⟨h1, h2⟩ => ⟨_, _, _, h1, h2, rfl, rfl, rfl⟩)
  have HU : Hid (∀ w, Calls Try.prog 12 #[.string s] w fun e w' => e = .returned (.tuple #[.int .i64 (getN s.data.toList), .int .i64 (getK s.data.toList), .int .i64 (getE s.data.toList)]) ∧ Below w.heap.size w w') := fun w => RUnnum_any s w hs
  by_cases h : n < 0 ∨ 2147483647 < n
  · have HP : Hid _ := fun w => Put_not n w h
    go_enter Try.func3, Try.ntmps3
    go_wp2_with fail
    refine (HP.out _).mono ?_
    rintro e w1 ⟨rfl, e1⟩
    subst e1
    rcases h with h | h
    · go_wp2_with fail
      refine (HG.out _).mono ?_
      rintro e w1 ⟨a, b, c, rfl, e1, ha, hb, hc⟩
      subst e1
      have HU2 : Hid _ := HU.out
      rw [ha, hb, hc] at HU2
      clear ha hb hc
      go_wp2_with fail
      refine (HU2.out _).mono ?_
      rintro e w2 ⟨rfl, hb2⟩
      go_wp2_with fail
      go_ret
      exact ⟨rfl, hb2⟩
    · have h0 : ¬ n < 0 := by omega
      go_wp2_with fail
      refine (HG.out _).mono ?_
      rintro e w1 ⟨a, b, c, rfl, e1, ha, hb, hc⟩
      subst e1
      have HU2 : Hid _ := HU.out
      rw [ha, hb, hc] at HU2
      clear ha hb hc
      go_wp2_with fail
      refine (HU2.out _).mono ?_
      rintro e w2 ⟨rfl, hb2⟩
      go_wp2_with fail
      go_ret
      exact ⟨rfl, hb2⟩
  · obtain ⟨m, rfl⟩ : ∃ m : Nat, n = m := ⟨n.toNat, by omega⟩
    have HP : Hid _ := fun w => Put_ok m w (by omega)
    have HR : Hid _ := fun w => RNum_any m w (by omega)
    obtain ⟨t, ht⟩ : ∃ t, numL m = t := ⟨_, rfl⟩
    rw [ht] at HP HR
    clear ht
    have h0 : ¬ (m : Int) < 0 := by omega
    have h1 : ¬ (2147483647 : Int) < (m : Int) := by omega
    clear h
    go_enter Try.func3, Try.ntmps3
    go_wp2_with fail
    refine (HP.out _).mono ?_
    rintro e w1 ⟨rfl, hb1⟩
    go_wp2_with fail
    refine (HR.out _).mono ?_
    rintro e w2 ⟨rfl, hb2⟩
    have HB2 : Hid (Below w.heap.size w w2) := hb1.trans (hb2.mono hb1.size)
    clear hb1 hb2
    go_wp2_with fail
    refine (HG.out _).mono ?_
    rintro e w1 ⟨a, b, c, rfl, e1, ha, hb, hc⟩
    subst e1
    have HU2 : Hid _ := HU.out
    rw [ha, hb, hc] at HU2
    clear ha hb hc
    go_wp2_with fail
    refine (HU2.out _).mono ?_
    rintro e w3 ⟨rfl, hb3⟩
    have HB3 : Hid (Below w.heap.size w w3) := HB2.out.trans (hb3.mono HB2.out.size)
    clear hb3
    go_wp2_with fail
    go_ret
    exact ⟨rfl, HB3.out⟩
end Go.Proofs.Ytillooigiidpkaa
