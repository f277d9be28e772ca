/- What the laws on tiers ask: Build's answer to be read, and the first answers. -/
import Derived.Test.YtinhidddfpjjkabTierBet
import Derived.Test.YtinhidddfpjjkabRevLit
import Derived.Test.YtinhidddfpjjkabFirstRev
import Derived.Test.YtinhidddfpjjkabCompL
import Derived.Test.YtinhidddfpjjkabNumWithin
namespace Go.Proofs.Ytinhidddfpjjkab
open Go.RowKit
set_option linter.unusedSimpArgs false
set_option linter.unusedVariables false

theorem min_nn (ts : Array TypeId) (t : TypeId) (a b m : Nat) (h : m = min a b) (w : World) : (Builtin.min_ ts t #[.int .i64 (a : Int), .int .i64 (b : Int)]).run Try.prog w = .ok (.int .i64 (m : Int)) w := by
  subst h
  by_cases h : a < b
  · have h2 : ¬ b < a := by omega
    have h1' : (a : Int) < (b : Int) := by omega
    have h2' : ¬ (b : Int) < (a : Int) := by omega
    simp [Builtin.min_, Builtin.min2, h1', h2']; omega
  · have h1' : ¬ (a : Int) < (b : Int) := by omega
    by_cases h2 : b < a
    · have h2' : (b : Int) < (a : Int) := by omega
      simp [Builtin.min_, Builtin.min2, h1', h2']; omega
    · have h2' : ¬ (b : Int) < (a : Int) := by omega
      simp [Builtin.min_, Builtin.min2, h1', h2']; omega
theorem max_nn (ts : Array TypeId) (t : TypeId) (a b m : Nat) (h : m = max a b) (w : World) : (Builtin.max_ ts t #[.int .i64 (a : Int), .int .i64 (b : Int)]).run Try.prog w = .ok (.int .i64 (m : Int)) w := by
  subst h
  by_cases h : a < b
  · have h2 : ¬ b < a := by omega
    have h1' : (a : Int) < (b : Int) := by omega
    simp [Builtin.max_, Builtin.max2, h1']; omega
  · have h1' : ¬ (a : Int) < (b : Int) := by omega
    simp [Builtin.max_, Builtin.max2, h1']; omega
theorem Build_at (s : ByteArray) (a : Option Addr) (l : List Rv) (cap : Nat) (w : World) (hl : RevsAt w w.heap.size a l) (h0 : checkE s.data.toList l = 0) :
    Calls Try.prog 8 #[.string s, .slice a l.length cap] w fun e w' => ∃ a' c', e = .returned (.tuple #[.slice a' (tiersL s.data.toList l).length c', .int .i64 0]) ∧ TiersAt w' w'.heap.size a' (tiersL s.data.toList l) c' ∧ Below w.heap.size w w' := by
  refine (Build_ok s a l cap w hl h0).mono ?_
  rintro e w' ⟨v, rs, rfl, hrs, hto, _, hb⟩
  obtain ⟨a', c', rfl, h1, _⟩ := tiers_own hto
  have hlen := congrArg List.length hrs
  rw [List.length_map] at hlen
  rw [hrs] at h1
  exact ⟨a', c', by rw [hlen], h1, hb⟩
abbrev putA : List Pt := [⟨2, 0, ⟨#[97]⟩⟩]
/-- the tiers of one revision that is written out -/
theorem BuildFirst (w : World) (ad : Addr) (hp : PartsAt w w.heap.size (some ad) putA) :
    Calls Try.prog 8 #[.string ⟨#[]⟩, .slice (some ⟨w.heap.size, 0, none⟩) 1 1] (w.alloc (.cells #[.int .i64 1, .int .i64 1, .slice (some ad) 1 1] 46)) fun e w' => ∃ a' c', e = .returned (.tuple #[.slice a' 1 c', .int .i64 0]) ∧ TiersAt w' w'.heap.size a' [[putA]] c' ∧ Below w.heap.size w w' := by
  have h2 := revs_one w ⟨1, 1, putA⟩ ⟨⟨by decide, by decide⟩, ⟨by decide, by decide⟩⟩ (some ad) 1 hp ⟨by decide, fun e => by cases e⟩
  have h3 := Build_at ⟨#[]⟩ (some ⟨w.heap.size, 0, none⟩) [⟨1, 1, putA⟩] 1 _ h2 (by decide)
  rw [show tiersL (⟨#[]⟩ : ByteArray).data.toList [⟨1, 1, putA⟩] = [[putA]] by rfl] at h3
  refine Calls.mono h3 ?_
  rintro e w' ⟨a', c', rfl, h5, hb⟩
  have h4 : Below w.heap.size w (w.alloc (.cells #[.int .i64 1, .int .i64 1, .slice (some ad) 1 1] 46)) := (Below.refl _ w).alloc (Nat.le_refl _) _
  exact ⟨a', c', rfl, h5, h4.trans (hb.mono h4.size)⟩
theorem TBetFirst (a : Option Addr) (c : Nat) (w : World) (hv : TiersAt w w.heap.size a [[putA]] c) :
    Calls Try.prog 12 #[.slice a 1 c, .int .i64 0, .int .i64 1] w fun e w' => ∃ ao co, e = .returned (.tuple #[.slice ao 1 co, .int .i64 0]) ∧ PartsAt w' w'.heap.size ao putA ∧ Below w.heap.size w w' := by
  have h := TBet_ok a [[putA]] c 0 1 w hv (by decide) (by decide)
  rw [show betT 7 [[putA]] none (covL 0 1) = (putA, 0) by rfl] at h
  refine Calls.mono h ?_
  rintro e w' ⟨ao, co, rfl, h1, _, h2⟩
  exact ⟨ao, co, rfl, h1, h2⟩
end Go.Proofs.Ytinhidddfpjjkab
