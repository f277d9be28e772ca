/- What the document's own Between answers of a history that is right. -/
import Derived.Test.YtinhidddfpjjkabRTexts
import Derived.Test.YtinhidddfpjjkabRComp
import Derived.Test.YtinhidddfpjjkabMeetL
namespace Go.Proofs.Ytinhidddfpjjkab
open Go.RowKit
set_option linter.unusedSimpArgs false
set_option linter.unusedVariables false

set_option maxRecDepth 20000 in
set_option maxHeartbeats 4000000 in
theorem RBetween_any (s : ByteArray) (a : Option Addr) (l : List Rv) (cap i k : Nat) (w : World) (hl : RevsAt w w.heap.size a l) (h0 : checkE s.data.toList l = 0) (hi : i ≤ k) (hk : k ≤ l.length) :
    Calls Try.prog 37 #[.string s, .slice a l.length cap, .int .i64 (i : Int), .int .i64 (k : Int)] w fun e w' => ∃ a' c', e = .returned (.slice a' (betO s.data.toList l i k).length c') ∧ PartsAt w' w'.heap.size a' (betO s.data.toList l i k) ∧ Below w.heap.size w w' := by
  have hsl : s.data.toList.length = s.size := Array.length_toList
  have hll := hl.1
  obtain ⟨z1, z2, z3⟩ := check_zero h0
  have HT : Hid _ := fun w hh => RTexts_any s a l cap w hh (by omega)
  rw [h0] at HT
  have HTR : Hid (textsR s.data.toList l = textsB s.data.toList l (l.length + 1)) := by show _ = _; rw [textsR, if_pos h0]
  have HL : Hid (RevsAt w w.heap.size a l) := hl
  have htk : (textAt s.data.toList l k).length ≤ 500 := text_le z3 z1 k
  clear hl h0 z1 z3 hsl
  go_enter Try.func37, Try.ntmps37
  go_wp2_with fail
  refine (HT.out _ HL.out).mono ?_
  rintro e w1 ⟨v, rfl, hown, hb1⟩
  rw [HTR.out, textsB_len] at hown
  obtain ⟨g, cg, rfl, hgc, hgl⟩ := own_at hown (textsB_at s.data.toList l (Nat.lt_succ_of_le hk))
  have HB1 : Hid (Below w.heap.size w w1) := hb1
  have hk1 : (k : Int) < (l.length : Int) + 1 := by omega
  obtain ⟨n, hn⟩ : ∃ n : Nat, (textAt s.data.toList l k).length = n := ⟨_, rfl⟩
  have hsz : (⟨(textAt s.data.toList l k).toArray⟩ : ByteArray).size = n := hn
  obtain ⟨t, ht⟩ : ∃ t : ByteArray, ⟨(textAt s.data.toList l k).toArray⟩ = t := ⟨_, rfl⟩
  rw [ht] at hgc hsz
  have HN : Hid (betO s.data.toList l i k = betF (n : Nat) ((l.take k).drop i)) := by show _ = _; rw [betO, hn]
  rw [hn] at htk
  subst hsz
  clear hb1 hown hn ht
  go_wp2_with fail
  refine (RAll_any _ _ (by omega) (by omega)).mono ?_
  rintro e w2 ⟨a2, c2, rfl, hp2, hb2⟩
  have HB2 : Hid (Below w.heap.size w w2) := HB1.out.trans (hb2.mono HB1.out.size)
  have HP2 : Hid (PartsAt w2 w2.heap.size a2 (allN (t.size : Nat))) := hp2
  have HA : Hid (allL (t.size : Nat) = allN (t.size : Nat)) := rfl
  obtain ⟨A, hA⟩ : ∃ A, allL ((t.size : Nat) : Int) = A := ⟨_, rfl⟩
  have HAA : Hid (A = betF (t.size : Nat) ((l.take k).drop k)) := by show _ = _; rw [← hA, List.drop_eq_nil_of_le (by rw [List.length_take]; omega)]; rfl
  have HP2 : Hid (PartsAt w2 w2.heap.size a2 A) := by rw [← hA]; exact hp2
  rw [hA]
  clear hb2 hp2 hA hgc
  go_wp2_with fail
  go_loopw [11, 12] (fun v x wr => ∃ (m : Nat) (z : Int) (a' : Option Addr) (c' : Nat) (D : List Pt), i ≤ m ∧ m ≤ k ∧ x = .int .i64 z ∧ z + 1 = m ∧ v = .slice a' D.length c' ∧ PartsAt wr wr.heap.size a' D ∧ D = betF (t.size : Nat) ((l.take k).drop m) ∧ Below w.heap.size w wr) (fun _ x _ => (intOf x + 1 - i).toNat)
  case atStart => exact ⟨k, _, a2, c2, A, hi, Nat.le_refl _, by go_num, by omega, rfl, HP2.out, HAA.out, HB2.out⟩
  case round =>
    obtain ⟨m, z, a', c', D, him, hmk, rfl, hzm, rfl, hpD, hD, hb⟩ := hrel
    by_cases hlt : i < m
    · obtain ⟨p, rfl⟩ : ∃ p : Nat, z = (p : Int) := ⟨z.toNat, by omega⟩
      obtain rfl : m = p + 1 := by omega
      have hip : (i : Int) ≤ (p : Int) := by omega
      have hpl : (p : Int) < (l.length : Int) := by omega
      obtain ⟨r, hr⟩ : ∃ r, l[p]? = some r := ⟨l[p]'(by omega), List.getElem?_eq_getElem _⟩
      obtain ⟨b, off, ai, ci, e0, hblt, d1, d2, d3, hpd, _⟩ := (HL.out.below hb (Nat.le_refl _)).mem hr
      subst e0
      have hz := hb.size
      have hbw : b < wr.heap.size := by omega
      have HX : Hid (compR r.d D = betF (t.size : Nat) ((l.take k).drop p)) := by
        have hr' : (l.take k)[p]? = some r := by rw [List.getElem?_take, if_pos (by omega)]; exact hr
        show _ = _
        rw [drop_rv hr', hD]; rfl
      have HB : Hid (Below w.heap.size w wr) := hb
      have HD : Hid (PartsAt wr wr.heap.size ai r.d) := hpd.here (Below.refl _ _) hz
      have HDD : Hid (PartsAt wr wr.heap.size a' D) := hpD
      have HCO : Hid _ := fun w h1 h2 => RComp_any ai a' r.d D ci c' w h1 h2
      obtain ⟨E, hEE⟩ : ∃ E, compR r.d D = E := ⟨_, rfl⟩
      rw [hEE] at HCO HX
      clear hb hpd hr hEE hpD hD hzm d1 d2
      go_wp2_with fail
      refine (HCO.out _ HD.out HDD.out).mono ?_
      rintro e w4 ⟨a4, c4, rfl, hp4, hb4⟩
      have HB4 : Hid (Below w.heap.size w w4) := HB.out.trans (hb4.mono hz)
      have HP4 : Hid _ := hp4
      clear hb4 hp4
      go_wp2_with fail
      go_roundw
      case rel => exact ⟨p, _, a4, c4, E, by omega, by omega, by go_num, by omega, rfl, HP4.out, HX.out, HB4.out⟩
      case measure => simp [intOf]; omega
    · have hzi : ¬ (i : Int) ≤ z := by omega
      have HF : Hid (D = betO s.data.toList l i k) := by
        show _ = _
        rw [HN.out, hD, show m = i by omega]
      have HB : Hid (Below w.heap.size w wr) := hb
      have HPD : Hid _ := hpD
      clear hb hpD hD
      go_wp2_with fail
      go_ret
      rw [← HF.out]
      first | exact ⟨a', c', rfl, HPD.out, HB.out⟩ | exact ⟨a', ⟨c', rfl⟩, HPD.out, HB.out⟩
set_option maxRecDepth 20000 in
set_option maxHeartbeats 4000000 in
theorem RBetweenO_any (s : ByteArray) (a : Option Addr) (l : List Rv) (cap i k : Nat) (w : World) (hl : RevsAt w w.heap.size a l) (h0 : checkE s.data.toList l = 0) (hi : i < k) (hk : k ≤ l.length) :
    Calls Try.prog 37 #[.string s, .slice a l.length cap, .int .i64 (i : Int), .int .i64 (k : Int)] w fun e w' => ∃ a' c', e = .returned (.slice a' (betO s.data.toList l i k).length c') ∧ w'.ownsRow w.heap.size 58 3 (.slice a' (betO s.data.toList l i k).length c') (betO s.data.toList l i k).length (allCells (betO s.data.toList l i k)) ∧ Below w.heap.size w w' := by
  have hsl : s.data.toList.length = s.size := Array.length_toList
  have hll := hl.1
  obtain ⟨z1, z2, z3⟩ := check_zero h0
  have HT : Hid _ := fun w hh => RTexts_any s a l cap w hh (by omega)
  rw [h0] at HT
  have HTR : Hid (textsR s.data.toList l = textsB s.data.toList l (l.length + 1)) := by show _ = _; rw [textsR, if_pos h0]
  have HL : Hid (RevsAt w w.heap.size a l) := hl
  have htk : (textAt s.data.toList l k).length ≤ 500 := text_le z3 z1 k
  clear hl h0 z1 z3 hsl
  go_enter Try.func37, Try.ntmps37
  go_wp2_with fail
  refine (HT.out _ HL.out).mono ?_
  rintro e w1 ⟨v, rfl, hown, hb1⟩
  rw [HTR.out, textsB_len] at hown
  obtain ⟨g, cg, rfl, hgc, hgl⟩ := own_at hown (textsB_at s.data.toList l (Nat.lt_succ_of_le hk))
  have HB1 : Hid (Below w.heap.size w w1) := hb1
  have hk1 : (k : Int) < (l.length : Int) + 1 := by omega
  obtain ⟨n, hn⟩ : ∃ n : Nat, (textAt s.data.toList l k).length = n := ⟨_, rfl⟩
  have hsz : (⟨(textAt s.data.toList l k).toArray⟩ : ByteArray).size = n := hn
  obtain ⟨t, ht⟩ : ∃ t : ByteArray, ⟨(textAt s.data.toList l k).toArray⟩ = t := ⟨_, rfl⟩
  rw [ht] at hgc hsz
  have HN : Hid (betO s.data.toList l i k = betF (n : Nat) ((l.take k).drop i)) := by show _ = _; rw [betO, hn]
  rw [hn] at htk
  subst hsz
  clear hb1 hown hn ht
  go_wp2_with fail
  refine (RAll_any _ _ (by omega) (by omega)).mono ?_
  rintro e w2 ⟨a2, c2, rfl, hp2, hb2⟩
  have HB2 : Hid (Below w.heap.size w w2) := HB1.out.trans (hb2.mono HB1.out.size)
  have HP2 : Hid (PartsAt w2 w2.heap.size a2 (allN (t.size : Nat))) := hp2
  have HA : Hid (allL (t.size : Nat) = allN (t.size : Nat)) := rfl
  obtain ⟨A, hA⟩ : ∃ A, allL ((t.size : Nat) : Int) = A := ⟨_, rfl⟩
  have HAA : Hid (A = betF (t.size : Nat) ((l.take k).drop k)) := by show _ = _; rw [← hA, List.drop_eq_nil_of_le (by rw [List.length_take]; omega)]; rfl
  have HP2 : Hid (PartsAt w2 w2.heap.size a2 A) := by rw [← hA]; exact hp2
  rw [hA]
  clear hb2 hp2 hA hgc
  go_wp2_with fail
  go_loopw [11, 12] (fun v x wr => ∃ (m : Nat) (z : Int) (a' : Option Addr) (c' : Nat) (D : List Pt), i ≤ m ∧ m ≤ k ∧ x = .int .i64 z ∧ z + 1 = m ∧ v = .slice a' D.length c' ∧ PartsAt wr wr.heap.size a' D ∧ D = betF (t.size : Nat) ((l.take k).drop m) ∧ (m < k → wr.ownsRow w.heap.size 58 3 (.slice a' D.length c') D.length (allCells D)) ∧ Below w.heap.size w wr) (fun _ x _ => (intOf x + 1 - i).toNat)
  case atStart => exact ⟨k, _, a2, c2, A, Nat.le_of_lt hi, Nat.le_refl _, by go_num, by omega, rfl, HP2.out, HAA.out, fun h => by omega, HB2.out⟩
  case round =>
    obtain ⟨m, z, a', c', D, him, hmk, rfl, hzm, rfl, hpD, hD, hoD, hb⟩ := hrel
    by_cases hlt : i < m
    · obtain ⟨p, rfl⟩ : ∃ p : Nat, z = (p : Int) := ⟨z.toNat, by omega⟩
      obtain rfl : m = p + 1 := by omega
      have hip : (i : Int) ≤ (p : Int) := by omega
      have hpl : (p : Int) < (l.length : Int) := by omega
      obtain ⟨r, hr⟩ : ∃ r, l[p]? = some r := ⟨l[p]'(by omega), List.getElem?_eq_getElem _⟩
      obtain ⟨b, off, ai, ci, e0, hblt, d1, d2, d3, hpd, _⟩ := (HL.out.below hb (Nat.le_refl _)).mem hr
      subst e0
      have hz := hb.size
      have hbw : b < wr.heap.size := by omega
      have HX : Hid (compR r.d D = betF (t.size : Nat) ((l.take k).drop p)) := by
        have hr' : (l.take k)[p]? = some r := by rw [List.getElem?_take, if_pos (by omega)]; exact hr
        show _ = _
        rw [drop_rv hr', hD]; rfl
      have HB : Hid (Below w.heap.size w wr) := hb
      have HD : Hid (PartsAt wr wr.heap.size ai r.d) := hpd.here (Below.refl _ _) hz
      have HDD : Hid (PartsAt wr wr.heap.size a' D) := hpD
      have HCO : Hid _ := fun w h1 h2 => RCompO_any ai a' r.d D ci c' w h1 h2
      obtain ⟨E, hEE⟩ : ∃ E, compR r.d D = E := ⟨_, rfl⟩
      rw [hEE] at HCO HX
      clear hb hpd hr hEE hpD hD hoD hzm d1 d2
      go_wp2_with fail
      refine (HCO.out _ HD.out HDD.out).mono ?_
      rintro e w4 ⟨a4, c4, rfl, hp4, ho4, hb4⟩
      have HB4 : Hid (Below w.heap.size w w4) := HB.out.trans (hb4.mono hz)
      have HP4 : Hid (PartsAt w4 w4.heap.size a4 E ∧ w4.ownsRow w.heap.size 58 3 (.slice a4 E.length c4) E.length (allCells E)) := ⟨hp4, own_lower ho4 hz⟩
      clear hb4 hp4 ho4
      go_wp2_with fail
      go_roundw
      case rel => exact ⟨p, _, a4, c4, E, by omega, by omega, by go_num, by omega, rfl, HP4.out.1, HX.out, fun _ => HP4.out.2, HB4.out⟩
      case measure => simp [intOf]; omega
    · have hzi : ¬ (i : Int) ≤ z := by omega
      have HF : Hid (D = betO s.data.toList l i k) := by
        show _ = _
        rw [HN.out, hD, show m = i by omega]
      have HB : Hid (Below w.heap.size w wr) := hb
      have HPD : Hid (wr.ownsRow w.heap.size 58 3 (.slice a' D.length c') D.length (allCells D)) := hoD (by omega)
      clear hb hpD hD hoD
      go_wp2_with fail
      go_ret
      rw [← HF.out]
      first | exact ⟨a', c', rfl, HPD.out, HB.out⟩ | exact ⟨a', ⟨c', rfl⟩, HPD.out, HB.out⟩
end Go.Proofs.Ytinhidddfpjjkab
