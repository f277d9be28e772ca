/- What the document's own Norm answers: the same as package part's. -/
import Derived.Test.YtjnjmphmhhandaaPlDeltaWalk
import Derived.Test.YtjnjmphmhhandaaLoose
import Derived.Test.YtjnjmphmhhandaaDeltaWalk
namespace Go.Proofs.Ytjnjmphmhhandaa
open Go.RowKit
set_option linter.unusedSimpArgs false
set_option linter.unusedVariables false

theorem loose_bad {p : Pt} (h : p.k < 1 ∨ 3 < p.k ∨ p.n < 0 ∨ (p.k = 2 ∧ p.n ≠ 0) ∨ (p.k ≠ 2 ∧ p.t.size ≠ 0)) : looseP p = 3 := by
  unfold looseP
  rw [if_neg]
  intro hf
  unfold formedB at hf
  split at hf <;> simp only [Bool.and_eq_true, decide_eq_true_eq] at hf <;> omega
theorem loose_good {p : Pt} (h1 : 1 ≤ p.k) (h2 : p.k ≤ 3) (h3 : 0 ≤ p.n) (h4 : p.k = 2 → p.n = 0) (h5 : p.k ≠ 2 → p.t.size = 0) : looseP p = if 500 < p.n ∨ 500 < p.t.size then 2 else 0 := by
  have hf : formedB p.k p.n p.t = true := by
    unfold formedB
    split
    · simp only [Bool.and_eq_true, decide_eq_true_eq]; omega
    · simp only [Bool.and_eq_true, decide_eq_true_eq]; omega
  unfold looseP
  rw [if_pos hf]
  unfold widthI
  by_cases h : p.k = 2
  · rw [if_pos h]
    have := h4 h
    by_cases hg : 500 < p.t.size
    · rw [if_pos (by omega), if_pos (by omega)]
    · rw [if_neg (by omega), if_neg (by omega)]
  · rw [if_neg h]
    have := h5 h
    by_cases hg : 500 < p.n
    · rw [if_pos hg, if_pos (by omega)]
    · rw [if_neg hg, if_neg (by omega)]

set_option maxHeartbeats 4000000 in
theorem RNorm_any (a : Option Addr) (l : List Pt) (cap : Nat) (w : World) (hp : PartsAt w w.heap.size a l) :
    Calls Try.prog 15 #[.slice a l.length cap] w fun e w' => ∃ a' c', e = .returned (.tuple #[.slice a' (normL l).length c', .int .i64 (normE l)]) ∧ PartsAt w' w'.heap.size a' (normL l) ∧ Below w.heap.size w w' := by
  have hl := hp.1
  have hnil : ∀ w' : World, PartsAt w' w'.heap.size none [] := fun w' => ⟨by simp, Nat.le_refl _, by simp, by simp⟩
  have HNIL : Hid (∀ w' : World, PartsAt w' w'.heap.size none []) := hnil
  clear hnil
  by_cases hbig : 1600 < l.length
  · have HN : Hid (normE l = 2 ∧ normL l = []) := by
      have h1 : looseE l = 2 := by simp [looseE, hbig]
      have h2 : normE l = 2 := by simp [normE, h1]
      exact ⟨h2, by simp [normL, h2]⟩
    go_enter Try.func15, Try.ntmps15
    go_wp2
    go_ret2
    exact ⟨none, 0, by rw [HN.out.1, HN.out.2]; rfl, by rw [HN.out.2]; exact HNIL.out _, Below.refl _ _⟩
  · have HLE : Hid (looseE l = looseS l) := by show _ = _; simp [looseE, hbig]
    have HST : Hid (∀ e : Int, looseS l = e → e ≠ 0 → normE l = e ∧ normL l = []) := by
      intro e he hne
      have h1 : looseE l = e := by rw [HLE.out, he]
      have h2 : normE l = e := by rw [normE, if_neg (by rw [h1]; exact hne), h1]
      exact ⟨h2, by rw [normL, if_neg (by rw [h2]; exact hne)]⟩
    have HP0 : Hid (PartsAt w w.heap.size a l) := hp
    go_enter Try.func15, Try.ntmps15
    go_wp2
    go_loopw [12] (fun i wr => ∃ k : Nat, k ≤ l.length ∧ i = .int .i64 k ∧ looseS (l.drop k) = looseS l ∧ Below w.heap.size w wr) (fun i _ => l.length - (intOf i).toNat)
    case atStart => exact ⟨0, Nat.zero_le _, rfl, rfl, Below.refl _ _⟩
    case round =>
      obtain ⟨k, hk, rfl, hsc, hb⟩ := hrel
      by_cases hlt : k < l.length
      · obtain ⟨p, hpk⟩ : ∃ p, l[k]? = some p := ⟨l[k], List.getElem?_eq_getElem hlt⟩
        obtain ⟨hpb1, hpb2, hpb3, hpb4, hpb5⟩ := hp.2.2.1 p (List.mem_of_getElem? hpk)
        have Hstop : Hid _ := loose_stop hpk hsc
        have Hon : Hid _ := loose_on hpk hsc
        obtain ⟨b, off, rfl, hblt, c1, c2, c3⟩ := (hp.below hb (Nat.le_refl _)).mem hpk
        have HB : Hid (Below w.heap.size w wr) := hb
        have hz := hb.size
        clear hp hpk hb hsc
        rcases (show p.k < 1 ∨ 3 < p.k ∨ (1 ≤ p.k ∧ p.k ≤ 3) by omega) with hA | hA | ⟨hA1, hA2⟩
        · have HE : Hid (looseP p = 3) := loose_bad (by omega)
          have HF : Hid (normE l = 3 ∧ normL l = []) := HST.out 3 (by rw [← Hstop.out (by rw [HE.out]; omega), HE.out]) (by omega)
          go_wp2_with fail
          go_ret2
          simp only [HF.out.1, HF.out.2]
          first | exact ⟨none, 0, rfl, HNIL.out _, HB.out.alloc hz _⟩ | exact ⟨none, ⟨0, rfl⟩, HNIL.out _, HB.out.alloc hz _⟩
        · have HE : Hid (looseP p = 3) := loose_bad (by omega)
          have HF : Hid (normE l = 3 ∧ normL l = []) := HST.out 3 (by rw [← Hstop.out (by rw [HE.out]; omega), HE.out]) (by omega)
          go_wp2_with fail
          go_ret2
          simp only [HF.out.1, HF.out.2]
          first | exact ⟨none, 0, rfl, HNIL.out _, HB.out.alloc hz _⟩ | exact ⟨none, ⟨0, rfl⟩, HNIL.out _, HB.out.alloc hz _⟩
        · by_cases hn : p.n < 0
          · have HE : Hid (looseP p = 3) := loose_bad (by omega)
            have HF : Hid (normE l = 3 ∧ normL l = []) := HST.out 3 (by rw [← Hstop.out (by rw [HE.out]; omega), HE.out]) (by omega)
            go_wp2_with fail
            go_ret2
            simp only [HF.out.1, HF.out.2]
            first | exact ⟨none, 0, rfl, HNIL.out _, HB.out.alloc hz _⟩ | exact ⟨none, ⟨0, rfl⟩, HNIL.out _, HB.out.alloc hz _⟩
          · have hn' : 0 ≤ p.n := by omega
            clear hn
            by_cases hk2 : p.k = 2
            · have r1 : (p.k == 2) = true := by simp [hk2]
              have r2 : (p.k != 2) = false := by simp [hk2]
              by_cases hn0 : p.n = 0
              · have r3 : (p.n != 0) = false := by simp [hn0]
                have hE := loose_good hA1 hA2 hn' (fun _ => hn0) (fun h => absurd hk2 h)
                have hle : p.n ≤ 0 := by omega
                by_cases hg : 500 < p.t.size
                · have HE : Hid (looseP p = 2) := by show _ = _; rw [hE, if_pos (by omega)]
                  have hmx : (500 : Int) < max p.n (p.t.size : Int) := by omega
                  clear hE hk2 hn0
                  have HF : Hid (normE l = 2 ∧ normL l = []) := HST.out 2 (by rw [← Hstop.out (by rw [HE.out]; omega), HE.out]) (by omega)
                  go_wp2_with fail
                  go_ret2
                  simp only [HF.out.1, HF.out.2]
                  first | exact ⟨none, 0, rfl, HNIL.out _, HB.out.alloc hz _⟩ | exact ⟨none, ⟨0, rfl⟩, HNIL.out _, HB.out.alloc hz _⟩
                · have HE : Hid (looseP p = 0) := by show _ = _; rw [hE, if_neg (by omega)]
                  have hmx : max p.n (p.t.size : Int) ≤ 500 := by omega
                  clear hE hk2 hn0
                  go_wp2_with fail
                  go_roundw
                  case rel => exact ⟨k + 1, by omega, by go_num, Hon.out HE.out, HB.out.alloc hz _⟩
                  case measure => simp [intOf]; omega
              · have r3 : (p.n != 0) = true := by simp [hn0]
                have HE : Hid (looseP p = 3) := loose_bad (by omega)
                clear hk2 hn0
                have HF : Hid (normE l = 3 ∧ normL l = []) := HST.out 3 (by rw [← Hstop.out (by rw [HE.out]; omega), HE.out]) (by omega)
                go_wp2_with fail
                go_ret2
                simp only [HF.out.1, HF.out.2]
                first | exact ⟨none, 0, rfl, HNIL.out _, HB.out.alloc hz _⟩ | exact ⟨none, ⟨0, rfl⟩, HNIL.out _, HB.out.alloc hz _⟩
            · have r1 : (p.k == 2) = false := by simp [hk2]
              have r2 : (p.k != 2) = true := by simp [hk2]
              by_cases ht : p.t.size = 0
              · have r3 : (!p.t.toList.isEmpty) = false := by rw [empty_size]; simp only [ht]; decide
                have hE := loose_good hA1 hA2 hn' (fun h => absurd h hk2) (fun _ => ht)
                have hle : p.t.size ≤ 0 := by omega
                by_cases hg : 500 < p.n
                · have HE : Hid (looseP p = 2) := by show _ = _; rw [hE, if_pos (by omega)]
                  have hmx : (500 : Int) < max p.n (p.t.size : Int) := by omega
                  clear hE hk2 ht
                  have HF : Hid (normE l = 2 ∧ normL l = []) := HST.out 2 (by rw [← Hstop.out (by rw [HE.out]; omega), HE.out]) (by omega)
                  go_wp2_with fail
                  go_ret2
                  simp only [HF.out.1, HF.out.2]
                  first | exact ⟨none, 0, rfl, HNIL.out _, HB.out.alloc hz _⟩ | exact ⟨none, ⟨0, rfl⟩, HNIL.out _, HB.out.alloc hz _⟩
                · have HE : Hid (looseP p = 0) := by show _ = _; rw [hE, if_neg (by omega)]
                  have hmx : max p.n (p.t.size : Int) ≤ 500 := by omega
                  clear hE hk2 ht
                  go_wp2_with fail
                  go_roundw
                  case rel => exact ⟨k + 1, by omega, by go_num, Hon.out HE.out, HB.out.alloc hz _⟩
                  case measure => simp [intOf]; omega
              · have r3 : (!p.t.toList.isEmpty) = true := by rw [empty_size]; simp only [ht, decide_false]; rfl
                have HE : Hid (looseP p = 3) := loose_bad (by omega)
                clear hk2 ht
                have HF : Hid (normE l = 3 ∧ normL l = []) := HST.out 3 (by rw [← Hstop.out (by rw [HE.out]; omega), HE.out]) (by omega)
                go_wp2_with fail
                go_ret2
                simp only [HF.out.1, HF.out.2]
                first | exact ⟨none, 0, rfl, HNIL.out _, HB.out.alloc hz _⟩ | exact ⟨none, ⟨0, rfl⟩, HNIL.out _, HB.out.alloc hz _⟩
      · have hnil : l.drop k = [] := List.drop_eq_nil_of_le (by omega)
        rw [hnil] at hsc
        have h0 : looseE l = 0 := by rw [HLE.out, ← hsc]; rfl
        obtain ⟨hsm, hkd⟩ := loose_small h0
        have HSM : Hid (Small l) := hsm
        have hl1 := ofAll_len l
        have hl3 := ofAll_kept hsm.2
        have hl4 := ofAll_size hsm.2
        have hl5 := hsm.1
        have HDP : Hid (deltaP (ofAll l).1 (ofAll l).2 = gatherL l) := deltaP_all (fun p hp => ⟨(hsm.2 p hp).1, (hkd p hp).1⟩)
        have HGB : Hid (Bound (gatherL l)) := (gather_bound hsm).1
        have HQ : Hid ((ofAll l).1.length = (ofAll l).2.length + 1 ∧ (ofAll l).2.length ≤ 800000 ∧ ∀ q ∈ (ofAll l).1, q.size ≤ 1000000) := ⟨hl1, by omega, fun q hq => by have := hl4 q hq; omega⟩
        have HNE : Hid (normE l = if sizesE (gatherL l) = 0 then 0 else 2) := by show _ = _; simp [normE, h0]
        have HPr : Hid (PartsAt wr wr.heap.size a l) := HP0.out.here hb (Nat.le_refl _)
        have HB : Hid (Below w.heap.size w wr) := hb
        clear hsc hnil h0 hsm hkd hl1 hl3 hl4 hl5 hp hb
        go_wp2_with fail
        refine (Of_any a l cap _ HPr.out HSM.out).mono ?_
        rintro e w2 ⟨pv, kv, rfl, ho1, ho2, hb2⟩
        have HO1 : Hid _ := ho1
        have HO2 : Hid _ := ho2
        have HB2 : Hid (Below w.heap.size w w2) := HB.out.trans (hb2.mono HB.out.size)
        clear ho1 ho2 hb2
        go_wp2_with fail
        refine (PlDelta_any wr.heap.size pv kv _ _ _ HO1.out HO2.out HQ.out.1 HQ.out.2.1 HQ.out.2.2).mono ?_
        rintro e w3 ⟨sv, rfl, hown, hb3⟩
        rw [HDP.out] at hown
        obtain ⟨a3, c3, rfl, hp3⟩ := parts_own hown HGB.out
        have HP3 : Hid (PartsAt w3 w3.heap.size a3 (gatherL l)) := hp3
        have HB3 : Hid (Below w.heap.size w w3) := HB2.out.trans (hb3.mono HB2.out.size)
        clear hown hp3 hb3
        go_wp2_with fail
        refine (Delta_any a3 (gatherL l) c3 _ HP3.out).mono ?_
        rintro e w4 ⟨rfl, hb4⟩
        have HP4 : Hid (PartsAt w4 w4.heap.size a3 (gatherL l)) := HP3.out.here hb4 (Nat.le_refl _)
        have HB4 : Hid (Below w.heap.size w w4) := HB3.out.trans (hb4.mono HB3.out.size)
        clear hb4
        by_cases hz : sizesE (gatherL l) = 0
        · have hz' : (sizesE (gatherL l) != 0) = false := by simp [hz]
          have HN : Hid (normE l = 0 ∧ normL l = gatherL l) := by
            have h1 : normE l = 0 := by rw [HNE.out, if_pos hz]
            exact ⟨h1, by simp [normL, h1]⟩
          clear hz
          go_wp2_with fail
          go_ret2
          simp only [HN.out.1, HN.out.2]
          first | exact ⟨a3, c3, rfl, HP4.out, HB4.out⟩ | exact ⟨a3, ⟨c3, rfl⟩, HP4.out, HB4.out⟩
        · have hz' : (sizesE (gatherL l) != 0) = true := by simp [hz]
          have HN : Hid (normE l = 2 ∧ normL l = []) := by
            have h1 : normE l = 2 := by rw [HNE.out, if_neg hz]
            exact ⟨h1, by simp [normL, h1]⟩
          clear hz
          go_wp2_with fail
          go_ret2
          simp only [HN.out.1, HN.out.2]
          first | exact ⟨none, 0, rfl, HNIL.out _, HB4.out⟩ | exact ⟨none, ⟨0, rfl⟩, HNIL.out _, HB4.out⟩

end Go.Proofs.Ytjnjmphmhhandaa
