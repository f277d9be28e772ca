/- What Norm, comp.Of and meet.Of answer is the call's own, and the two of meet.Of lie apart. -/
import Derived.Test.YtgffippimmokiaaCompOf
namespace Go.Proofs.Ytgffippimmokiaa
open Go.RowKit
set_option linter.unusedSimpArgs false
set_option linter.unusedVariables false

/-- a row that lies below -/
theorem own_belowO {w w' : World} {B B' n size : Nat} {e : TypeId} {v : Value} {xs : List Value} (h : w.ownsRow B e size v n xs) (hb : Below B' w w') (hB : w.heap.size ≤ B') : w'.ownsRow B e size v n xs := by
  rcases h.2 with ⟨h1, h2⟩ | ⟨g, cap', cur, h1, h2, h3, h4⟩
  · exact ⟨h.1, .inl ⟨h1, h2⟩⟩
  · exact ⟨h.1, .inr ⟨g, cap', cur, h1, h2, (hb.block g (Nat.lt_of_lt_of_le (lt_of_heap h3) hB)).trans h3, h4⟩⟩
theorem own_base {w : World} {B B' n size : Nat} {e : TypeId} {v : Value} {xs : List Value} (h : w.ownsRow B e size v n xs) (hB : B' ≤ B) : w.ownsRow B' e size v n xs := by
  rcases h.2 with ⟨h1, h2⟩ | ⟨g, cap', cur, h1, h2, h3⟩
  · exact ⟨h.1, .inl ⟨h1, h2⟩⟩
  · exact ⟨h.1, .inr ⟨g, cap', cur, h1, Nat.le_trans hB h2, h3⟩⟩
/-- the block of a row is one of these -/
def Iv (v : Value) (lo hi : Nat) : Prop := ∀ g, v.ownBlock = some g → lo ≤ g ∧ g < hi
theorem iv_own {w : World} {B n size : Nat} {e : TypeId} {v : Value} {xs : List Value} (h : w.ownsRow B e size v n xs) : Iv v B w.heap.size := fun g hg => h.lt g hg
theorem iv_nil (lo hi : Nat) : Iv (.slice none 0 0) lo hi := fun g hg => by simp [Value.ownBlock] at hg
theorem iv_ne {v u : Value} {a b c d : Nat} (h1 : Iv v a b) (h2 : Iv u c d) (h : b ≤ c ∨ d ≤ a) : v.ownBlock = none ∨ v.ownBlock ≠ u.ownBlock := by
  cases hv : v.ownBlock with
  | none => left; rfl
  | some g =>
    right
    intro hu
    have k1 := h1 g hv
    have k2 := h2 g hu.symm
    omega

set_option maxHeartbeats 1000000 in
theorem NormO_any (a : Option Addr) (l : List Pt) (cap : Nat) (w : World) (hp : PartsAt w w.heap.size a l) :
    Calls Try.prog 104 #[.slice a l.length cap] w fun e w' => ∃ v, e = .returned (.tuple #[v, .int .i64 (normE l)]) ∧ w'.ownsRow w.heap.size 138 3 v (normL l).length (allCells (normL l)) ∧ Below w.heap.size w w' := by
  have HP : Hid (PartsAt w w.heap.size a l) := hp
  clear hp
  go_enter Try.func104, Try.ntmps104
  go_wp2_with fail
  refine (checkLoose_any a l cap _ HP.out).mono ?_
  rintro e w1 ⟨rfl, hb1⟩
  have HP1 : Hid (PartsAt w1 w1.heap.size a l) := HP.out.here hb1 (Nat.le_refl _)
  by_cases h0 : looseE l = 0
  · obtain ⟨hsm, hkd⟩ := loose_small h0
    have h0' : (looseE l != 0) = false := by simp [h0]
    have HE : Hid (normE l = if sizesE (gatherL l) = 0 then 0 else 2) := by show _ = _; simp [normE, h0]
    have HSM : Hid (Small l) := hsm
    have HKD : Hid (∀ p ∈ l, p.k = 1 ∨ p.k = 2 ∨ p.k = 3) := fun p hp => (hkd p hp).1
    have HGB : Hid (Bound (gatherL l)) := (gather_bound hsm).1
    have HB1 : Hid (Below w.heap.size w w1) := hb1
    clear h0 hsm hkd hb1
    go_wp2_with fail
    refine (gather_any a l cap _ HP1.out HSM.out HKD.out).mono ?_
    rintro e w2 ⟨sv, rfl, hown, hb2⟩
    obtain ⟨a2, c2, rfl, hp2, hc2⟩ := parts_ownC hown HGB.out
    have HO2 : Hid (w2.ownsRow w.heap.size 138 3 (.slice a2 (gatherL l).length c2) (gatherL l).length (allCells (gatherL l))) := own_base hown HB1.out.size
    have HP2 : Hid (PartsAt w2 w2.heap.size a2 (gatherL l)) := hp2
    have HB2 : Hid (Below w.heap.size w w2) := HB1.out.trans (hb2.mono HB1.out.size)
    clear hown hp2 hb2 hc2
    go_wp2_with fail
    refine (Check_any a2 (gatherL l) c2 _ HP2.out).mono ?_
    rintro e w3 ⟨rfl, hb3⟩
    have HP3 : Hid (PartsAt w3 w3.heap.size a2 (gatherL l)) := HP2.out.here hb3 (Nat.le_refl _)
    have HB3 : Hid (Below w.heap.size w w3) := HB2.out.trans (hb3.mono HB2.out.size)
    have HO3 : Hid (w3.ownsRow w.heap.size 138 3 (.slice a2 (gatherL l).length c2) (gatherL l).length (allCells (gatherL l))) := own_belowO HO2.out hb3 (Nat.le_refl _)
    clear hb3
    by_cases hz : sizesE (gatherL l) = 0
    · have hz' : (sizesE (gatherL l) != 0) = false := by simp [hz]
      have HN : Hid (normE l = 0 ∧ normL l = gatherL l) := by
        have h1 : normE l = 0 := by rw [HE.out, if_pos hz]
        exact ⟨h1, by simp [normL, h1]⟩
      clear hz
      go_wp2_with fail
      go_ret2
      exact ⟨.slice a2 (gatherL l).length c2, by rw [HN.out.1]; rfl, by rw [HN.out.2]; exact HO3.out, HB3.out⟩
    · have hz' : (sizesE (gatherL l) != 0) = true := by simp [hz]
      have HN : Hid (normE l = 2 ∧ normL l = []) := by
        have h1 : normE l = 2 := by rw [HE.out, if_neg hz]
        exact ⟨h1, by simp [normL, h1]⟩
      clear hz
      go_wp2_with fail
      go_ret2
      exact ⟨.slice none 0 0, by rw [HN.out.1]; rfl, by rw [HN.out.2]; exact World.ownsRow_nil _ _ _ _, HB3.out⟩
  · have h0' : (looseE l != 0) = true := by simp [h0]
    have HN : Hid (normE l = looseE l ∧ normL l = []) := by
      have h1 : normE l = looseE l := by simp [normE, h0]
      exact ⟨h1, by simp [normL, h1, h0]⟩
    have HB1 : Hid (Below w.heap.size w w1) := hb1
    clear h0 hb1
    go_wp2_with fail
    go_ret2
    exact ⟨.slice none 0 0, by rw [HN.out.1]; rfl, by rw [HN.out.2]; exact World.ownsRow_nil _ _ _ _, HB1.out⟩

set_option maxHeartbeats 4000000 in
theorem CompO_any (a b : Option Addr) (la lb : List Pt) (ca cb : Nat) (w : World) (ha : PartsAt w w.heap.size a la) (hb : PartsAt w w.heap.size b lb) (hca : la.length ≤ ca) :
    Calls Try.prog 75 #[.slice a la.length ca, .slice b lb.length cb] w fun e w' => ∃ v, e = .returned (.tuple #[v, .int .i64 (compE la lb)]) ∧ w'.ownsRow w.heap.size 138 3 v (compR la lb).length (allCells (compR la lb)) ∧ Below w.heap.size w w' := by
  have HA : Hid (PartsAt w w.heap.size a la) := ha
  have HB : Hid (PartsAt w w.heap.size b lb) := hb
  clear ha hb
  go_enter Try.func75, Try.ntmps75
  go_wp2_with fail
  refine (Sizes_any a la ca _ HA.out).mono ?_
  rintro e w1 ⟨rfl, hb1⟩
  have HE1 : Hid (Below w.heap.size w w1) := hb1
  have HB1 : Hid (PartsAt w1 w1.heap.size b lb) := HB.out.here hb1 (Nat.le_refl _)
  clear hb1
  by_cases z1 : sizesE la = 0
  · have g1 : (sizesE la != 0) = false := by simp [z1]
    have HO1 : Hid (sizesOut la = outI la) := (sizes_zero z1).2.2
    have HZ1 : Hid (sizesE la = 0) := z1
    clear z1
    go_wp2_with fail
    refine (Sizes_any b lb cb _ HB1.out).mono ?_
    rintro e w2 ⟨rfl, hb2⟩
    have HE2 : Hid (Below w.heap.size w w2) := HE1.out.trans (hb2.mono HE1.out.size)
    have HA2 : Hid (PartsAt w2 w2.heap.size a la) := HA.out.here HE2.out (Nat.le_refl _)
    have HB2 : Hid (PartsAt w2 w2.heap.size b lb) := HB.out.here HE2.out (Nat.le_refl _)
    clear hb2
    by_cases z2 : sizesE lb = 0
    · have g2 : (sizesE lb != 0) = false := by simp [z2]
      have e2 := (sizes_zero z2).2.1
      by_cases z3 : outI la = inI lb
      · have g3 : (sizesOut la != sizesIn lb) = false := by simp [HO1.out, e2, z3]
        have hz : compE la lb = 0 := comp_is HZ1.out z2 z3
        have HZ : Hid (compE la lb = 0) := hz
        have HR : Hid (compR la lb = compL la lb) := by show _ = _; rw [compR, if_pos hz]
        clear z2 z3 e2 hz
        go_wp2_with fail
        refine (joined_any a b la lb ca cb _ HA2.out HB2.out hca HZ.out).mono ?_
        rintro e w3 ⟨J, ao, co, rfl, hown, hRJ, hC, hJl, hb3⟩
        obtain ⟨a3, c3, h3, hp3⟩ := parts_own hown (cmp_bound HZ.out hC hRJ)
        simp only [Value.slice.injEq, true_and] at h3
        obtain ⟨rfl, rfl⟩ := h3
        have HP3 : Hid (PartsAt w3 w3.heap.size ao J) := hp3
        have HE3 : Hid (Below w.heap.size w w3) := HE2.out.trans (hb3.mono HE2.out.size)
        have HN : Hid (normE J = 0 ∧ normL J = compL la lb) := norm_comp HZ.out hC hRJ
        clear hown hRJ hC hb3 hp3
        go_wp2_with fail
        refine (NormO_any ao J co _ HP3.out).mono ?_
        rintro e w4 ⟨v4, rfl, hp4, hb4⟩
        rw [HN.out.2] at hp4
        rw [HN.out.1]
        have HP4 : Hid (w4.ownsRow w.heap.size 138 3 v4 (compL la lb).length (allCells (compL la lb))) := own_base hp4 HE3.out.size
        have HE4 : Hid (Below w.heap.size w w4) := HE3.out.trans (hb4.mono HE3.out.size)
        clear hp4 hb4
        go_wp2_with fail
        go_ret2
        rw [HR.out, HZ.out]
        exact ⟨v4, rfl, HP4.out, HE4.out⟩
      · have g3 : (sizesOut la != sizesIn lb) = true := by simp [HO1.out, e2, z3]
        have HZ : Hid (compE la lb = 4 ∧ compR la lb = []) := by
          have h : compE la lb = 4 := by rw [compE, if_pos HZ1.out, if_pos z2, if_neg z3]
          exact ⟨h, by rw [compR, if_neg (by omega)]⟩
        clear z2 z3 e2
        go_wp2_with fail
        go_ret2
        rw [HZ.out.1, HZ.out.2]
        exact ⟨.slice none 0 0, rfl, World.ownsRow_nil _ _ _ _, HE2.out⟩
    · have g2 : (sizesE lb != 0) = true := by simp [z2]
      have HZ : Hid (compE la lb = sizesE lb ∧ compR la lb = []) := by
        have h : compE la lb = sizesE lb := by rw [compE, if_pos HZ1.out, if_neg z2]
        exact ⟨h, by rw [compR, if_neg (by rw [h]; exact z2)]⟩
      clear z2
      go_wp2_with fail
      go_ret2
      rw [HZ.out.1, HZ.out.2]
      exact ⟨.slice none 0 0, rfl, World.ownsRow_nil _ _ _ _, HE2.out⟩
  · have g1 : (sizesE la != 0) = true := by simp [z1]
    have HZ : Hid (compE la lb = sizesE la ∧ compR la lb = []) := by
      have h : compE la lb = sizesE la := by rw [compE, if_neg z1]
      exact ⟨h, by rw [compR, if_neg (by rw [h]; exact z1)]⟩
    clear z1
    go_wp2_with fail
    go_ret2
    rw [HZ.out.1, HZ.out.2]
    exact ⟨.slice none 0 0, rfl, World.ownsRow_nil _ _ _ _, HE1.out⟩


end Go.Proofs.Ytgffippimmokiaa
