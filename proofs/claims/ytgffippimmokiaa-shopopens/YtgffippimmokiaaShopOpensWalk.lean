/- scrivlaw.ShopOpens: what it answers, whatever lies on the disk. -/
import Derived.Test.YtgffippimmokiaaROpen
import Derived.Test.YtgffippimmokiaaSeen
import Derived.Test.YtgffippimmokiaaShFresh
import Derived.Test.YtgffippimmokiaaDiskKit
import Derived.Deep.DeepCutAuto
namespace Go.Proofs.Ytgffippimmokiaa
open Go.RowKit
set_option linter.unusedSimpArgs false
set_option linter.unusedVariables false

theorem openE_zero {p : ByteArray} {x : Int} {q : ByteArray} {y : Int} (h : openE p x q y = 0) : dkE p x q y = 0 ∧ (newN p.data.toList q.data.toList).2.whole = true := by
  unfold openE at h
  by_cases h0 : dkE p x q y = 0
  · rw [if_pos h0] at h
    refine ⟨h0, ?_⟩
    cases hx : (newN p.data.toList q.data.toList).2.whole with
    | true => rfl
    | false => rw [hx] at h; simp at h
  · rw [if_neg h0] at h; exact absurd h h0
set_option maxRecDepth 100000 in
set_option maxHeartbeats 8000000 in
theorem ShopOpens_any (p : ByteArray) (x : Int) (q : ByteArray) (y : Int) (w : World) (hp : p.size ≤ 9223372036854775807) (hq : q.size ≤ 9223372036854775807) :
    Calls Try.prog 3 #[dkV p x q y] w fun e w' => e = .returned (.bool true) ∧ Below w.heap.size w w' := by
  have HD0 : Hid (DkAt (w.alloc (.cells #[.string p, .int .i64 x, .string q, .int .i64 y] 26)) w.heap.size p x q y ∧ Below w.heap.size w (w.alloc (.cells #[.string p, .int .i64 x, .string q, .int .i64 y] 26))) :=
    ⟨DkBox, (Below.refl _ w).alloc (Nat.le_refl _) _⟩
  by_cases h0 : openE p x q y = 0
  · obtain ⟨hd, hw⟩ := openE_zero h0
    have HO : Hid (∀ w : World, Calls Try.prog 9 #[dkV p x q y] w fun e w' => ∃ g, e = .returned (.tuple #[.pointer (some ⟨g, 0, none⟩), .int .i64 0]) ∧ SG w' g (openS p q) ∧ Below w.heap.size w w') := by
      intro w
      refine (Open_ok p x q y w hd hw).mono fun e w' h => ?_
      obtain ⟨g, h1, _, h3, h4⟩ := h
      exact ⟨g, h1, ⟨h3, open_good hw⟩, h4⟩
    have HR : Hid (∀ w : World, Calls Try.prog 10 #[dkV p x q y] w fun e w' => ∃ (g : Nat) (at_ gen : Int) (ta : Option Addr) (tc : Nat) (ra : Option Addr) (rc : Nat), e = .returned (.tuple #[.pointer (some ⟨g, 0, none⟩), .int .i64 0]) ∧
        RsOf w' g (openS p q).p0 (openS p q).x0 (openS p q).p1 (openS p q).x1 (openS p q).log (textsR (openS p q).log.text (openS p q).log.revs) (openS p q).safe at_ gen ta tc ra rc ∧ Below w.heap.size w w') := by
      intro w
      refine (ROpen_any p x q y w hp hq).mono fun e w' h => ?_
      obtain ⟨h, hb⟩ := h
      rcases h with ⟨h1, _⟩ | ⟨_, g, at_, gen, ta, tc, ra, rc, h1, h2⟩
      · exact absurd h0 h1
      · exact ⟨g, at_, gen, ta, tc, ra, rc, h1, h2, hb⟩
    have HSe : Hid (∀ (g r : Nat) (at_ gen : Int) (ta ra : Option Addr) (tc rc : Nat) (w : World), SG w g (openS p q) → RsOf w r (openS p q).p0 (openS p q).x0 (openS p q).p1 (openS p q).x1 (openS p q).log (textsR (openS p q).log.text (openS p q).log.revs) (openS p q).safe at_ gen ta tc ra rc →
        Calls Try.prog 11 #[.pointer (some ⟨g, 0, none⟩), .pointer (some ⟨r, 0, none⟩)] w fun e w' => e = .returned (.bool true) ∧ Below w.heap.size w w') :=
      fun g r at_ gen ta ra tc rc w h1 h2 => seen_any (openS p q) g r at_ gen ta ra tc rc w h1 h2
    clear hd hw h0 hp hq
    generalize openS p q = X at HO HR HSe
    go_enter Try.func3, Try.ntmps3
    go_upto_region 1 with fail
    generalize w.alloc (.cells #[.string p, .int .i64 x, .string q, .int .i64 y] 26) = w0 at HD0 ⊢
    obtain ⟨c0, c1, c2, c3⟩ := HD0.out.1.cells
    have hl := HD0.out.1.lt
    go_wp2_with fail
    with_reducible refine (HO.out _).mono ?_
    rintro e w1 ⟨g, rfl, hs, hb1⟩
    have HD1 : Hid (DkAt w1 w.heap.size p x q y ∧ Below w.heap.size w w1) := ⟨HD0.out.1.below hb1 hl, HD0.out.2.trans (hb1.mono (by omega))⟩
    have HS1 : Hid (SG w1 g X) := hs
    clear c0 c1 c2 c3 hl hb1 hs
    obtain ⟨c0, c1, c2, c3⟩ := HD1.out.1.cells
    have hl := HD1.out.1.lt
    go_wp2_with fail
    with_reducible refine (HR.out _).mono ?_
    rintro e w2 ⟨r, at_, gen, ta, tc, ra, rc, rfl, hr, hb2⟩
    have HB2 : Hid (Below w.heap.size w w2) := HD1.out.2.trans (hb2.mono (by omega))
    have HS2 : Hid (SG w2 g X) := HS1.out.below hb2
    have HR2 : Hid (RsOf w2 r X.p0 X.x0 X.p1 X.x1 X.log (textsR X.log.text X.log.revs) X.safe at_ gen ta tc ra rc) := hr
    clear c0 c1 c2 c3 hl hb2 hr HS1
    go_wp2_with fail
    with_reducible refine (HSe.out _ _ _ _ _ _ _ _ _ HS2.out HR2.out).mono ?_
    rintro e w3 ⟨rfl, hb3⟩
    have HB3 : Hid (Below w.heap.size w w3) := HB2.out.trans (hb3.mono HB2.out.size)
    clear hb3
    go_wp2_with fail
    go_ret
    exact ⟨rfl, HB3.out⟩
  · have HO : Hid (∀ w : World, Calls Try.prog 9 #[dkV p x q y] w fun e w' => e = .returned (.tuple #[.pointer none, .int .i64 (openE p x q y)]) ∧ Below w.heap.size w w') := fun w => Open_not p x q y w hp hq h0
    have HR : Hid (∀ w : World, Calls Try.prog 10 #[dkV p x q y] w fun e w' => e = .returned (.tuple #[.pointer none, .int .i64 (openE p x q y)]) ∧ Below w.heap.size w w') := by
      intro w
      refine (ROpen_any p x q y w hp hq).mono fun e w' h => ?_
      obtain ⟨h, hb⟩ := h
      rcases h with ⟨_, h1⟩ | ⟨h1, _⟩
      · exact ⟨h1, hb⟩
      · exact absurd h1 h0
    have hq' : (openE p x q y != 0) = true := by simp [h0]
    have hq2 : (openE p x q y == openE p x q y) = true := by simp
    generalize openE p x q y = d at *
    clear h0 hp hq
    go_enter Try.func3, Try.ntmps3
    go_upto_region 1 with fail
    generalize w.alloc (.cells #[.string p, .int .i64 x, .string q, .int .i64 y] 26) = w0 at HD0 ⊢
    obtain ⟨c0, c1, c2, c3⟩ := HD0.out.1.cells
    have hl := HD0.out.1.lt
    go_wp2_with fail
    with_reducible refine (HO.out _).mono ?_
    rintro e w1 ⟨rfl, hb1⟩
    have HD1 : Hid (DkAt w1 w.heap.size p x q y ∧ Below w.heap.size w w1) := ⟨HD0.out.1.below hb1 hl, HD0.out.2.trans (hb1.mono (by omega))⟩
    clear c0 c1 c2 c3 hl hb1
    obtain ⟨c0, c1, c2, c3⟩ := HD1.out.1.cells
    have hl := HD1.out.1.lt
    go_wp2_with fail
    with_reducible refine (HR.out _).mono ?_
    rintro e w2 ⟨rfl, hb2⟩
    have HB2 : Hid (Below w.heap.size w w2) := HD1.out.2.trans (hb2.mono (by omega))
    clear c0 c1 c2 c3 hl hb2
    go_wp2_with fail
    go_ret
    exact ⟨rfl, HB2.out⟩
end Go.Proofs.Ytgffippimmokiaa
