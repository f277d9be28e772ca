/- What Norm, comp.Of and meet.Of answer is the call's own, and the two of meet.Of lie apart. -/
import Derived.Test.YtcghojnmnmmpoaaMeetOf
import Derived.Test.YtcghojnmnmmpoaaCompOf
namespace Go.Proofs.Ytcghojnmnmmpoaa
open Go.RowKit
set_option linter.unusedSimpArgs false
set_option linter.unusedVariables false

/-- a row that lies below -/
theorem own_belowO {w w' : World} {B B' n size : Nat} {e : TypeId} {v : Value} {xs : List Value} (h : w.ownsRow B e size v n xs) (hb : Below B' w w') (hB : w.heap.size ≤ B') : w'.ownsRow B e size v n xs := by
  rcases h.2 with ⟨h1, h2⟩ | ⟨g, cap', cur, h1, h2, h3, h4⟩
  · exact ⟨h.1, .inl ⟨h1, h2⟩⟩
  · exact ⟨h.1, .inr ⟨g, cap', cur, h1, h2, (hb.block g (Nat.lt_of_lt_of_le (lt_of_heap h3) hB)).trans h3, h4⟩⟩
theorem own_base {w : World} {B B' n size : Nat} {e : TypeId} {v : Value} {xs : List Value} (h : w.ownsRow B e size v n xs) (hB : B' ≤ B) : w.ownsRow B' e size v n xs := by
  rcases h.2 with ⟨h1, h2⟩ | ⟨g, cap', cur, h1, h2, h3⟩
  · exact ⟨h.1, .inl ⟨h1, h2⟩⟩
  · exact ⟨h.1, .inr ⟨g, cap', cur, h1, Nat.le_trans hB h2, h3⟩⟩
/-- the block of a row is one of these -/
def Iv (v : Value) (lo hi : Nat) : Prop := ∀ g, v.ownBlock = some g → lo ≤ g ∧ g < hi
theorem iv_own {w : World} {B n size : Nat} {e : TypeId} {v : Value} {xs : List Value} (h : w.ownsRow B e size v n xs) : Iv v B w.heap.size := fun g hg => h.lt g hg
theorem iv_nil (lo hi : Nat) : Iv (.slice none 0 0) lo hi := fun g hg => by simp [Value.ownBlock] at hg
theorem iv_ne {v u : Value} {a b c d : Nat} (h1 : Iv v a b) (h2 : Iv u c d) (h : b ≤ c ∨ d ≤ a) : v.ownBlock = none ∨ v.ownBlock ≠ u.ownBlock := by
  cases hv : v.ownBlock with
  | none => left; rfl
  | some g =>
    right
    intro hu
    have k1 := h1 g hv
    have k2 := h2 g hu.symm
    omega

set_option maxHeartbeats 1000000 in
theorem NormO_any (a : Option Addr) (l : List Pt) (cap : Nat) (w : World) (hp : PartsAt w w.heap.size a l) :
    Calls Try.prog 75 #[.slice a l.length cap] w fun e w' => ∃ v, e = .returned (.tuple #[v, .int .i64 (normE l)]) ∧ w'.ownsRow w.heap.size 45 3 v (normL l).length (allCells (normL l)) ∧ Below w.heap.size w w' := by
  have HP : Hid (PartsAt w w.heap.size a l) := hp
  clear hp
  go_enter Try.func75, Try.ntmps75
  go_wp2_with fail
  refine (checkLoose_any a l cap _ HP.out).mono ?_
  rintro e w1 ⟨rfl, hb1⟩
  have HP1 : Hid (PartsAt w1 w1.heap.size a l) := HP.out.here hb1 (Nat.le_refl _)
  by_cases h0 : looseE l = 0
  · obtain ⟨hsm, hkd⟩ := loose_small h0
    have h0' : (looseE l != 0) = false := by simp [h0]
    have HE : Hid (normE l = if sizesE (gatherL l) = 0 then 0 else 2) := by show _ = _; simp [normE, h0]
    have HSM : Hid (Small l) := hsm
    have HKD : Hid (∀ p ∈ l, p.k = 1 ∨ p.k = 2 ∨ p.k = 3) := fun p hp => (hkd p hp).1
    have HGB : Hid (Bound (gatherL l)) := (gather_bound hsm).1
    have HB1 : Hid (Below w.heap.size w w1) := hb1
    clear h0 hsm hkd hb1
    go_wp2_with fail
    refine (gather_any a l cap _ HP1.out HSM.out HKD.out).mono ?_
    rintro e w2 ⟨sv, rfl, hown, hb2⟩
    obtain ⟨a2, c2, rfl, hp2, hc2⟩ := parts_ownC hown HGB.out
    have HO2 : Hid (w2.ownsRow w.heap.size 45 3 (.slice a2 (gatherL l).length c2) (gatherL l).length (allCells (gatherL l))) := own_base hown HB1.out.size
    have HP2 : Hid (PartsAt w2 w2.heap.size a2 (gatherL l)) := hp2
    have HB2 : Hid (Below w.heap.size w w2) := HB1.out.trans (hb2.mono HB1.out.size)
    clear hown hp2 hb2 hc2
    go_wp2_with fail
    refine (Check_any a2 (gatherL l) c2 _ HP2.out).mono ?_
    rintro e w3 ⟨rfl, hb3⟩
    have HP3 : Hid (PartsAt w3 w3.heap.size a2 (gatherL l)) := HP2.out.here hb3 (Nat.le_refl _)
    have HB3 : Hid (Below w.heap.size w w3) := HB2.out.trans (hb3.mono HB2.out.size)
    have HO3 : Hid (w3.ownsRow w.heap.size 45 3 (.slice a2 (gatherL l).length c2) (gatherL l).length (allCells (gatherL l))) := own_belowO HO2.out hb3 (Nat.le_refl _)
    clear hb3
    by_cases hz : sizesE (gatherL l) = 0
    · have hz' : (sizesE (gatherL l) != 0) = false := by simp [hz]
      have HN : Hid (normE l = 0 ∧ normL l = gatherL l) := by
        have h1 : normE l = 0 := by rw [HE.out, if_pos hz]
        exact ⟨h1, by simp [normL, h1]⟩
      clear hz
      go_wp2_with fail
      go_ret2
      exact ⟨.slice a2 (gatherL l).length c2, by rw [HN.out.1]; rfl, by rw [HN.out.2]; exact HO3.out, HB3.out⟩
    · have hz' : (sizesE (gatherL l) != 0) = true := by simp [hz]
      have HN : Hid (normE l = 2 ∧ normL l = []) := by
        have h1 : normE l = 2 := by rw [HE.out, if_neg hz]
        exact ⟨h1, by simp [normL, h1]⟩
      clear hz
      go_wp2_with fail
      go_ret2
      exact ⟨.slice none 0 0, by rw [HN.out.1]; rfl, by rw [HN.out.2]; exact World.ownsRow_nil _ _ _ _, HB3.out⟩
  · have h0' : (looseE l != 0) = true := by simp [h0]
    have HN : Hid (normE l = looseE l ∧ normL l = []) := by
      have h1 : normE l = looseE l := by simp [normE, h0]
      exact ⟨h1, by simp [normL, h1, h0]⟩
    have HB1 : Hid (Below w.heap.size w w1) := hb1
    clear h0 hb1
    go_wp2_with fail
    go_ret2
    exact ⟨.slice none 0 0, by rw [HN.out.1]; rfl, by rw [HN.out.2]; exact World.ownsRow_nil _ _ _ _, HB1.out⟩

set_option maxHeartbeats 4000000 in
theorem CompO_any (a b : Option Addr) (la lb : List Pt) (ca cb : Nat) (w : World) (ha : PartsAt w w.heap.size a la) (hb : PartsAt w w.heap.size b lb) (hca : la.length ≤ ca) :
    Calls Try.prog 42 #[.slice a la.length ca, .slice b lb.length cb] w fun e w' => ∃ v, e = .returned (.tuple #[v, .int .i64 (compE la lb)]) ∧ w'.ownsRow w.heap.size 45 3 v (compR la lb).length (allCells (compR la lb)) ∧ Below w.heap.size w w' := by
  have HA : Hid (PartsAt w w.heap.size a la) := ha
  have HB : Hid (PartsAt w w.heap.size b lb) := hb
  clear ha hb
  go_enter Try.func42, Try.ntmps42
  go_wp2_with fail
  refine (Sizes_any a la ca _ HA.out).mono ?_
  rintro e w1 ⟨rfl, hb1⟩
  have HE1 : Hid (Below w.heap.size w w1) := hb1
  have HB1 : Hid (PartsAt w1 w1.heap.size b lb) := HB.out.here hb1 (Nat.le_refl _)
  clear hb1
  by_cases z1 : sizesE la = 0
  · have g1 : (sizesE la != 0) = false := by simp [z1]
    have HO1 : Hid (sizesOut la = outI la) := (sizes_zero z1).2.2
    have HZ1 : Hid (sizesE la = 0) := z1
    clear z1
    go_wp2_with fail
    refine (Sizes_any b lb cb _ HB1.out).mono ?_
    rintro e w2 ⟨rfl, hb2⟩
    have HE2 : Hid (Below w.heap.size w w2) := HE1.out.trans (hb2.mono HE1.out.size)
    have HA2 : Hid (PartsAt w2 w2.heap.size a la) := HA.out.here HE2.out (Nat.le_refl _)
    have HB2 : Hid (PartsAt w2 w2.heap.size b lb) := HB.out.here HE2.out (Nat.le_refl _)
    clear hb2
    by_cases z2 : sizesE lb = 0
    · have g2 : (sizesE lb != 0) = false := by simp [z2]
      have e2 := (sizes_zero z2).2.1
      by_cases z3 : outI la = inI lb
      · have g3 : (sizesOut la != sizesIn lb) = false := by simp [HO1.out, e2, z3]
        have hz : compE la lb = 0 := comp_is HZ1.out z2 z3
        have HZ : Hid (compE la lb = 0) := hz
        have HR : Hid (compR la lb = compL la lb) := by show _ = _; rw [compR, if_pos hz]
        clear z2 z3 e2 hz
        go_wp2_with fail
        refine (joined_any a b la lb ca cb _ HA2.out HB2.out hca HZ.out).mono ?_
        rintro e w3 ⟨J, ao, co, rfl, hown, hRJ, hC, hJl, hb3⟩
        obtain ⟨a3, c3, h3, hp3⟩ := parts_own hown (cmp_bound HZ.out hC hRJ)
        simp only [Value.slice.injEq, true_and] at h3
        obtain ⟨rfl, rfl⟩ := h3
        have HP3 : Hid (PartsAt w3 w3.heap.size ao J) := hp3
        have HE3 : Hid (Below w.heap.size w w3) := HE2.out.trans (hb3.mono HE2.out.size)
        have HN : Hid (normE J = 0 ∧ normL J = compL la lb) := norm_comp HZ.out hC hRJ
        clear hown hRJ hC hb3 hp3
        go_wp2_with fail
        refine (NormO_any ao J co _ HP3.out).mono ?_
        rintro e w4 ⟨v4, rfl, hp4, hb4⟩
        rw [HN.out.2] at hp4
        rw [HN.out.1]
        have HP4 : Hid (w4.ownsRow w.heap.size 45 3 v4 (compL la lb).length (allCells (compL la lb))) := own_base hp4 HE3.out.size
        have HE4 : Hid (Below w.heap.size w w4) := HE3.out.trans (hb4.mono HE3.out.size)
        clear hp4 hb4
        go_wp2_with fail
        go_ret2
        rw [HR.out, HZ.out]
        exact ⟨v4, rfl, HP4.out, HE4.out⟩
      · have g3 : (sizesOut la != sizesIn lb) = true := by simp [HO1.out, e2, z3]
        have HZ : Hid (compE la lb = 4 ∧ compR la lb = []) := by
          have h : compE la lb = 4 := by rw [compE, if_pos HZ1.out, if_pos z2, if_neg z3]
          exact ⟨h, by rw [compR, if_neg (by omega)]⟩
        clear z2 z3 e2
        go_wp2_with fail
        go_ret2
        rw [HZ.out.1, HZ.out.2]
        exact ⟨.slice none 0 0, rfl, World.ownsRow_nil _ _ _ _, HE2.out⟩
    · have g2 : (sizesE lb != 0) = true := by simp [z2]
      have HZ : Hid (compE la lb = sizesE lb ∧ compR la lb = []) := by
        have h : compE la lb = sizesE lb := by rw [compE, if_pos HZ1.out, if_neg z2]
        exact ⟨h, by rw [compR, if_neg (by rw [h]; exact z2)]⟩
      clear z2
      go_wp2_with fail
      go_ret2
      rw [HZ.out.1, HZ.out.2]
      exact ⟨.slice none 0 0, rfl, World.ownsRow_nil _ _ _ _, HE2.out⟩
  · have g1 : (sizesE la != 0) = true := by simp [z1]
    have HZ : Hid (compE la lb = sizesE la ∧ compR la lb = []) := by
      have h : compE la lb = sizesE la := by rw [compE, if_neg z1]
      exact ⟨h, by rw [compR, if_neg (by rw [h]; exact z1)]⟩
    clear z1
    go_wp2_with fail
    go_ret2
    rw [HZ.out.1, HZ.out.2]
    exact ⟨.slice none 0 0, rfl, World.ownsRow_nil _ _ _ _, HE1.out⟩

set_option maxHeartbeats 2000000 in
theorem MeetO_any (a b : Option Addr) (la lb : List Pt) (ca cb : Nat) (w : World) (ha : PartsAt w w.heap.size a la) (hb : PartsAt w w.heap.size b lb) :
    Calls Try.prog 99 #[.slice a la.length ca, .slice b lb.length cb] w fun e w' => ∃ v u M, e = .returned (.tuple #[v, u, .int .i64 (meetE la lb)]) ∧ (w.heap.size ≤ M ∧ M ≤ w'.heap.size) ∧ Iv v w.heap.size M ∧ w'.ownsRow w.heap.size 45 3 v (meetL la lb).length (allCells (meetL la lb)) ∧ w'.ownsRow M 45 3 u (meetR la lb).length (allCells (meetR la lb)) ∧ Below w.heap.size w w' := by
  have HA : Hid (PartsAt w w.heap.size a la) := ha
  have HB : Hid (PartsAt w w.heap.size b lb) := hb
  clear ha hb
  go_enter Try.func99, Try.ntmps99
  go_wp2_with fail
  refine (mlength_any a b la lb ca cb _ HA.out HB.out).mono ?_
  rintro e w1 ⟨rfl, hb1⟩
  have HE1 : Hid (Below w.heap.size w w1) := hb1
  have HA1 : Hid (PartsAt w1 w1.heap.size a la) := HA.out.here hb1 (Nat.le_refl _)
  have HB1 : Hid (PartsAt w1 w1.heap.size b lb) := HB.out.here hb1 (Nat.le_refl _)
  clear hb1
  by_cases h0 : mlenE la lb = 0
  · have r0 : (mlenE la lb != 0) = false := by simp [h0]
    obtain ⟨za, zb, zi⟩ := mlen_zero h0
    obtain ⟨ga, cna, ia, oa, la1, ma⟩ := delta_facts za
    obtain ⟨gb, cnb, ib, ob, lb1, mb⟩ := delta_facts zb
    have k1 := ofAll_keptlen (l := la) (fun p hp => ⟨(ga p hp).2.1, (ga p hp).2.2.1⟩)
    have k2 := ofAll_keptlen (l := lb) (fun p hp => ⟨(gb p hp).2.1, (gb p hp).2.2.1⟩)
    obtain ⟨n, hn⟩ : ∃ n : Nat, (n : Int) = inI la := ⟨inW (wordL la), by omega⟩
    have pa := places_word ga.kinds
    have pb := places_word gb.kinds
    have sa := places_size (ofAll_len la)
    have sb := places_size (ofAll_len lb)
    rw [pa] at sa
    rw [pb] at sb
    have HRD : Hid _ := meet_road za zb zi pa pb (ofAll_len la) (ofAll_len lb) (by omega) (by omega)
    have HN : Hid ((n : Int) = inI la ∧ (n : Int) = inI lb) := ⟨hn, by omega⟩
    have HZ : Hid (sizesE la = 0 ∧ sizesE lb = 0) := ⟨za, zb⟩
    have HQ : Hid ((ofAll la).2.length = n ∧ (ofAll lb).2.length = n ∧ n ≤ 500 ∧ (∀ q ∈ (ofAll la).1, q.size ≤ 500) ∧ (∀ q ∈ (ofAll lb).1, q.size ≤ 500)) :=
      ⟨by omega, by omega, by omega, fun q hq => by have := sa q hq; omega, fun q hq => by have := sb q hq; omega⟩
    have HBL : Hid (Bound (leftL (ofAll la).1 (ofAll la).2 (ofAll lb).1 (ofAll lb).2) ∧ Bound (leftR (ofAll la).1 (ofAll la).2 (ofAll lb).1 (ofAll lb).2)) := by
      obtain ⟨⟨g1, g2⟩, ⟨g3, g4⟩, g5, g6⟩ := left_good HQ.out.2.2.2.1 HQ.out.2.2.2.2 (ofAll la).2 (ofAll lb).2
      exact ⟨small_boundL HRD.out.1.1 (fun p hp => (g1 p hp).1), small_boundL HRD.out.2.1 (fun p hp => (g3 p hp).1)⟩
    rw [show mlenI la lb = (n : Int) by rw [mlenI, if_pos h0, hn]]
    clear h0 za zb zi ga cna ia oa la1 ma gb cnb ib ob lb1 mb k1 k2 hn pa pb sa sb
    go_wp2_with fail
    refine (mplaces_any a la ca n _ HA1.out HZ.out.1 HN.out.1).mono ?_
    rintro e w2 ⟨va, rfl, hva, hb2⟩
    have HE2 : Hid (Below w.heap.size w w2) := HE1.out.trans (hb2.mono HE1.out.size)
    have HB2 : Hid (PartsAt w2 w2.heap.size b lb) := HB1.out.here hb2 (Nat.le_refl _)
    have HVA : Hid (w2.ownsRow w1.heap.size 214 2 va (n + 1) (plcCells (zipPl (ofAll la).1 (ofAll la).2))) := hva
    clear hva hb2
    go_wp2_with fail
    refine (mplaces_any b lb cb n _ HB2.out HZ.out.2 HN.out.2).mono ?_
    rintro e w3 ⟨vb, rfl, hvb, hb3⟩
    have HE3 : Hid (Below w.heap.size w w3) := HE2.out.trans (hb3.mono HE2.out.size)
    have HVA3 : Hid (w3.ownsRow w1.heap.size 214 2 va (n + 1) (plcCells (zipPl (ofAll la).1 (ofAll la).2))) := by
      have h := HVA.out
      rcases h.2 with ⟨h1, h2⟩ | ⟨g, cap', cur, h1, h2, h3, h4⟩
      · exact ⟨h.1, .inl ⟨h1, h2⟩⟩
      · exact ⟨h.1, .inr ⟨g, cap', cur, h1, h2, (hb3.block g (lt_of_heap h3)).trans h3, h4⟩⟩
    have HVB : Hid (w3.ownsRow w2.heap.size 214 2 vb (n + 1) (plcCells (zipPl (ofAll lb).1 (ofAll lb).2))) := hvb
    clear hvb hb3
    go_wp2_with fail
    refine (left_any w1.heap.size w2.heap.size va vb (ofAll la).1 (ofAll lb).1 (ofAll la).2 (ofAll lb).2 n _ HVA3.out HVB.out (ofAll_len la) (ofAll_len lb) HQ.out.1 HQ.out.2.1 HQ.out.2.2.1 HQ.out.2.2.2.1 HQ.out.2.2.2.2).mono ?_
    rintro e w4 ⟨lv, rv, rfl, hlr, hb4⟩
    have HE4 : Hid (Below w.heap.size w w4) := HE3.out.trans (hb4.mono HE3.out.size)
    obtain ⟨x4, c4, rfl, hp4⟩ := parts_own hlr.l HBL.out.1
    obtain ⟨y4, d4, rfl, hq4⟩ := parts_own hlr.r HBL.out.2
    obtain ⟨LL, HLL⟩ : ∃ LL, Hid (leftL (ofAll la).1 (ofAll la).2 (ofAll lb).1 (ofAll lb).2 = LL) := ⟨_, rfl⟩
    obtain ⟨RR, HRR⟩ : ∃ RR, Hid (leftR (ofAll la).1 (ofAll la).2 (ofAll lb).1 (ofAll lb).2 = RR) := ⟨_, rfl⟩
    rw [HLL.out] at hp4 HRD ⊢
    rw [HRR.out] at hq4 HRD ⊢
    have HP4 : Hid (PartsAt w4 w4.heap.size x4 LL) := hp4
    have HQ4 : Hid (PartsAt w4 w4.heap.size y4 RR) := hq4
    clear hlr hb4 hp4 hq4 HBL
    go_wp2_with fail
    refine (NormO_any x4 LL c4 _ HP4.out).mono ?_
    rintro e w5 ⟨v5, rfl, hp5, hb5⟩
    have HE5 : Hid (Below w.heap.size w w5) := HE4.out.trans (hb5.mono HE4.out.size)
    have HQ5 : Hid (PartsAt w5 w5.heap.size y4 RR) := HQ4.out.here hb5 (Nat.le_refl _)
    obtain ⟨⟨s1, s2, s3, s4, s5⟩, t1, t2, t3, t4, t5⟩ := HRD.out
    rw [s5] at hp5
    rw [s4]
    have HP5 : Hid (w5.ownsRow w.heap.size 45 3 v5 (meetL la lb).length (allCells (meetL la lb))) := own_base hp5 HE4.out.size
    have HI5 : Hid (Iv v5 w.heap.size w5.heap.size) := iv_own HP5.out
    clear hp5 hb5 s1 s2 s3 s4 s5 t1 t2 t3 t4 t5
    by_cases hm : meetE la lb = 0
    · have rm : (meetE la lb != 0) = false := by simp [hm]
      clear hm
      go_wp2_with fail
      refine (NormO_any y4 RR d4 _ HQ5.out).mono ?_
      rintro e w6 ⟨v6, rfl, hq6, hb6⟩
      have HE6 : Hid (Below w.heap.size w w6) := HE5.out.trans (hb6.mono HE5.out.size)
      have HP6 : Hid (w6.ownsRow w.heap.size 45 3 v5 (meetL la lb).length (allCells (meetL la lb))) := own_belowO HP5.out hb6 (Nat.le_refl _)
      obtain ⟨⟨s1, s2, s3, s4, s5⟩, t1, t2, t3, t4, t5⟩ := HRD.out
      rw [t5] at hq6
      rw [t4]
      have hM6 : w5.heap.size ≤ w6.heap.size := hb6.size
      have HQ6 : Hid (w6.ownsRow w5.heap.size 45 3 v6 (meetR la lb).length (allCells (meetR la lb))) := hq6
      clear hq6 hb6 s1 s2 s3 s4 s5 t1 t2 t3 t4 t5
      go_wp2_with fail
      go_ret3
      exact ⟨v5, v6, w5.heap.size, rfl, ⟨HE5.out.size, hM6⟩, HI5.out, HP6.out, HQ6.out, HE6.out⟩
    · have rm : (meetE la lb != 0) = true := by simp [hm]
      have HR : Hid (meetL la lb = [] ∧ meetR la lb = []) := ⟨by rw [meetL, if_neg hm], by rw [meetR, if_neg hm]⟩
      clear hm
      go_wp2_with fail
      go_ret3
      rw [HR.out.1, HR.out.2]
      exact ⟨.slice none 0 0, .slice none 0 0, w.heap.size, rfl, ⟨Nat.le_refl _, HE5.out.size⟩, iv_nil _ _, World.ownsRow_nil _ _ _ _, World.ownsRow_nil _ _ _ _, HE5.out⟩
  · have r0 : (mlenE la lb != 0) = true := by simp [h0]
    have HR : Hid (meetE la lb = mlenE la lb ∧ meetL la lb = [] ∧ meetR la lb = []) := mlen_not h0
    clear h0
    go_wp2_with fail
    go_ret3
    rw [HR.out.1, HR.out.2.1, HR.out.2.2]
    exact ⟨.slice none 0 0, .slice none 0 0, w.heap.size, rfl, ⟨Nat.le_refl _, HE1.out.size⟩, iv_nil _ _, World.ownsRow_nil _ _ _ _, World.ownsRow_nil _ _ _ _, HE1.out⟩

end Go.Proofs.Ytcghojnmnmmpoaa
