/- What Norm answers is the call's own. -/
import Derived.Test.YtcghojnmnmmpoaaLoose
import Derived.Test.YtcghojnmnmmpoaaRevOne
namespace Go.Proofs.Ytcghojnmnmmpoaa
open Go.RowKit
set_option linter.unusedSimpArgs false
set_option linter.unusedVariables false

/-- a row that lies below -/
theorem own_belowW {w w' : World} {B B' n size : Nat} {e : TypeId} {v : Value} {xs : List Value} (h : w.ownsRow B e size v n xs) (hb : Below B' w w') (hB : w.heap.size ≤ B') : w'.ownsRow B e size v n xs := by
  rcases h.2 with ⟨h1, h2⟩ | ⟨g, cap', cur, h1, h2, h3, h4⟩
  · exact ⟨h.1, .inl ⟨h1, h2⟩⟩
  · exact ⟨h.1, .inr ⟨g, cap', cur, h1, h2, (hb.block g (Nat.lt_of_lt_of_le (lt_of_heap h3) hB)).trans h3, h4⟩⟩
theorem own_baseW {w : World} {B B' n size : Nat} {e : TypeId} {v : Value} {xs : List Value} (h : w.ownsRow B e size v n xs) (hB : B' ≤ B) : w.ownsRow B' e size v n xs := by
  rcases h.2 with ⟨h1, h2⟩ | ⟨g, cap', cur, h1, h2, h3⟩
  · exact ⟨h.1, .inl ⟨h1, h2⟩⟩
  · exact ⟨h.1, .inr ⟨g, cap', cur, h1, Nat.le_trans hB h2, h3⟩⟩
set_option maxHeartbeats 1000000 in
theorem NormW_any (a : Option Addr) (l : List Pt) (cap : Nat) (w : World) (hp : PartsAt w w.heap.size a l) :
    Calls Try.prog 75 #[.slice a l.length cap] w fun e w' => ∃ v, e = .returned (.tuple #[v, .int .i64 (normE l)]) ∧ w'.ownsRow w.heap.size 45 3 v (normL l).length (allCells (normL l)) ∧ Below w.heap.size w w' := by
  have HP : Hid (PartsAt w w.heap.size a l) := hp
  clear hp
  go_enter Try.func75, Try.ntmps75
  go_wp2_with fail
  refine (checkLoose_any a l cap _ HP.out).mono ?_
  rintro e w1 ⟨rfl, hb1⟩
  have HP1 : Hid (PartsAt w1 w1.heap.size a l) := HP.out.here hb1 (Nat.le_refl _)
  by_cases h0 : looseE l = 0
  · obtain ⟨hsm, hkd⟩ := loose_small h0
    have h0' : (looseE l != 0) = false := by simp [h0]
    have HE : Hid (normE l = if sizesE (gatherL l) = 0 then 0 else 2) := by show _ = _; simp [normE, h0]
    have HSM : Hid (Small l) := hsm
    have HKD : Hid (∀ p ∈ l, p.k = 1 ∨ p.k = 2 ∨ p.k = 3) := fun p hp => (hkd p hp).1
    have HGB : Hid (Bound (gatherL l)) := (gather_bound hsm).1
    have HB1 : Hid (Below w.heap.size w w1) := hb1
    clear h0 hsm hkd hb1
    go_wp2_with fail
    refine (gather_any a l cap _ HP1.out HSM.out HKD.out).mono ?_
    rintro e w2 ⟨sv, rfl, hown, hb2⟩
    obtain ⟨a2, c2, rfl, hp2, hc2⟩ := parts_ownC hown HGB.out
    have HO2 : Hid (w2.ownsRow w.heap.size 45 3 (.slice a2 (gatherL l).length c2) (gatherL l).length (allCells (gatherL l))) := own_baseW hown HB1.out.size
    have HP2 : Hid (PartsAt w2 w2.heap.size a2 (gatherL l)) := hp2
    have HB2 : Hid (Below w.heap.size w w2) := HB1.out.trans (hb2.mono HB1.out.size)
    clear hown hp2 hb2 hc2
    go_wp2_with fail
    refine (Check_any a2 (gatherL l) c2 _ HP2.out).mono ?_
    rintro e w3 ⟨rfl, hb3⟩
    have HP3 : Hid (PartsAt w3 w3.heap.size a2 (gatherL l)) := HP2.out.here hb3 (Nat.le_refl _)
    have HB3 : Hid (Below w.heap.size w w3) := HB2.out.trans (hb3.mono HB2.out.size)
    have HO3 : Hid (w3.ownsRow w.heap.size 45 3 (.slice a2 (gatherL l).length c2) (gatherL l).length (allCells (gatherL l))) := own_belowW HO2.out hb3 (Nat.le_refl _)
    clear hb3
    by_cases hz : sizesE (gatherL l) = 0
    · have hz' : (sizesE (gatherL l) != 0) = false := by simp [hz]
      have HN : Hid (normE l = 0 ∧ normL l = gatherL l) := by
        have h1 : normE l = 0 := by rw [HE.out, if_pos hz]
        exact ⟨h1, by simp [normL, h1]⟩
      clear hz
      go_wp2_with fail
      go_ret2
      exact ⟨.slice a2 (gatherL l).length c2, by rw [HN.out.1]; rfl, by rw [HN.out.2]; exact HO3.out, HB3.out⟩
    · have hz' : (sizesE (gatherL l) != 0) = true := by simp [hz]
      have HN : Hid (normE l = 2 ∧ normL l = []) := by
        have h1 : normE l = 2 := by rw [HE.out, if_neg hz]
        exact ⟨h1, by simp [normL, h1]⟩
      clear hz
      go_wp2_with fail
      go_ret2
      exact ⟨.slice none 0 0, by rw [HN.out.1]; rfl, by rw [HN.out.2]; exact World.ownsRow_nil _ _ _ _, HB3.out⟩
  · have h0' : (looseE l != 0) = true := by simp [h0]
    have HN : Hid (normE l = looseE l ∧ normL l = []) := by
      have h1 : normE l = looseE l := by simp [normE, h0]
      exact ⟨h1, by simp [normL, h1, h0]⟩
    have HB1 : Hid (Below w.heap.size w w1) := hb1
    clear h0 hb1
    go_wp2_with fail
    go_ret2
    exact ⟨.slice none 0 0, by rw [HN.out.1]; rfl, by rw [HN.out.2]; exact World.ownsRow_nil _ _ _ _, HB1.out⟩

end Go.Proofs.Ytcghojnmnmmpoaa
