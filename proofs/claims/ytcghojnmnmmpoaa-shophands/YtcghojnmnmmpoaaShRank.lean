/- How far a move has yet to go. -/
import Derived.Test.YtcghojnmnmmpoaaShMove
namespace Go.Proofs.Ytcghojnmnmmpoaa
open Go.RowKit
set_option linter.unusedSimpArgs false
set_option linter.unusedVariables false

/-- how much of a move is left -/
def rk (st sd : Int) : Nat := if st = 1 then 2147483652 else if st = 2 then 2147483651 - sd.toNat else if st = 3 then 2 else if st = 4 then 1 else 0
def rkW (w : World) (g : Nat) : Nat := match w.cell? ⟨g, 44, none⟩, w.cell? ⟨g, 46, none⟩ with
  | some (.int _ st), some (.int _ sd) => rk st sd
  | _, _ => 0
theorem rkW_is {w : World} {g : Nat} {S : Sh} (h : SG w g S) : rkW w g = rk S.stage S.said := by
  obtain ⟨v, xs, hof⟩ := h.1
  obtain ⟨_, _, _, h44, _, h46⟩ := hof.cells
  unfold rkW
  rw [h44, h46]
theorem rk_step {S : Sh} (hg : SGood S) (h0 : S.stage ≠ 0) : rk (stepS S).stage (stepS S).said < rk S.stage S.said := by
  have hb := hg.bounds
  obtain ⟨a, b, m, hi, _⟩ := hg
  have hst := hi.oth.stage
  rcases (by omega : S.stage = 1 ∨ S.stage = 2 ∨ S.stage = 3 ∨ S.stage = 4) with h | h | h | h
  · have e : stepS S = stepHead S := by unfold stepS; rw [if_pos h]
    obtain ⟨g1, g2, g3⟩ := head_stage S
    rw [e, g1, h]
    unfold rk
    simp
    omega
  · have e : stepS S = stepNext S := by unfold stepS; rw [if_neg (by omega), if_pos h]
    obtain ⟨_, _, _, _, hs, _⟩ := hi.oth.two h
    obtain ⟨g1, g2⟩ := next_stage S
    rw [e]
    by_cases hd : S.said = headN S
    · obtain ⟨g5, g6⟩ := g1 hd
      rw [g5, h]
      unfold rk
      simp
      omega
    · obtain ⟨g5, g6, g7⟩ := g2 hd
      rw [g5, g7, h]
      unfold rk
      simp
      omega
  · have e : stepS S = changeS S := by unfold stepS; rw [if_neg (by omega), if_neg (by omega), if_pos h]
    have e2 : (changeS S).stage = 4 := rfl
    rw [e, e2, h]
    unfold rk
    simp
  · have e : stepS S = overS S := by unfold stepS; rw [if_neg (by omega), if_neg (by omega), if_neg (by omega), if_pos h]
    have e2 : (overS S).stage = 0 := rfl
    rw [e, e2, h]
    unfold rk
    simp
theorem stepS_none {S : Sh} (h0 : S.stage = 0) : stepS S = S := by
  unfold stepS
  rw [if_neg (by omega), if_neg (by omega), if_neg (by omega), if_neg (by omega)]
theorem sync_twice (S : Sh) : syncS (syncS S) = syncS S := by
  have h : twoB (syncS S) = twoB S := rfl
  unfold syncS at h ⊢
  rw [h]
  cases twoB S <;> rfl
end Go.Proofs.Ytcghojnmnmmpoaa
