/- The law CompJoins, walked: it answers true. -/
import Derived.Test.YtdkmgcfdhlbpiaaCompDoesWalk
namespace Go.Proofs.Ytdkmgcfdhlbpiaa
open Go.RowKit
set_option linter.unusedSimpArgs false
set_option linter.unusedVariables false

theorem all_oneJ : allL 1 = [keepP 1] := by simp [allL, keepP]
theorem CompLitJ (x : Addr) (y : Option Addr) (cy : Nat) (w : World) (hx : PartsAt w w.heap.size (some x) [putP ⟨#[97]⟩]) (hy : PartsAt w w.heap.size y (allL 1)) :
    Calls Try.prog 9 #[.slice (some x) 1 1, .slice y (allL 1).length cy] w fun e w' => ∃ a' c', e = .returned (.tuple #[.slice a' 1 c', .int .i64 0]) ∧ PartsAt w' w'.heap.size a' [putP ⟨#[97]⟩] ∧ Below w.heap.size w w' := by
  rw [all_oneJ] at hy ⊢
  exact (show Calls Try.prog 9 #[.slice (some x) 1 1, .slice y [keepP 1].length cy] w _ from comp_lit litJ.1 litJ.2 (some x) y 1 cy w hx hy (by decide)).mono (fun e w' ⟨a', c', h1, h2, h3, h4⟩ => ⟨a', c', h1, h2, h4⟩)
theorem joins {a b c : List Pt} (h : compE a b = 0) (h' : compE b c = 0) :
    sizesE a = 0 ∧ compE (compR a b) c = 0 ∧ compE a (compR b c) = 0 ∧ compR (compR a b) c = compR a (compR b c) ∧ compE (allL (sizesIn a)) a = 0 ∧ compR (allL (sizesIn a)) a = a ∧ compE a (allL (sizesOut a)) = 0 ∧ compR a (allL (sizesOut a)) = a ∧ 0 ≤ sizesIn a ∧ sizesIn a ≤ 500 ∧ 0 ≤ sizesOut a ∧ sizesOut a ≤ 500 := by
  obtain ⟨z1, z2, z3⟩ := comp_zero h
  obtain ⟨hsm, e1, e2⟩ := sizes_zero z1
  obtain ⟨g, cn, i, o, b1, b2⟩ := delta_facts z1
  have x1 : compR a b = compL a b := by rw [compR, if_pos h]
  have x2 : compR b c = compL b c := by rw [compR, if_pos h']
  obtain ⟨k1, k2, k3⟩ := comp_assoc h h'
  obtain ⟨u1, u2, u3, u4⟩ := comp_units z1
  have u1 : compE (allL (inI a)) a = 0 := u1
  have u2 : compL (allL (inI a)) a = a := u2
  have u3 : compE a (allL (outI a)) = 0 := u3
  have u4 : compL a (allL (outI a)) = a := u4
  rw [x1, x2, e1, e2]
  refine ⟨z1, k1, k2, ?_, u1, by rw [compR, if_pos u1, u2], u3, by rw [compR, if_pos u3, u4], by omega, by omega, by omega, by omega⟩
  rw [compR, if_pos k1, compR, if_pos k2, k3]

set_option maxHeartbeats 8000000 in
theorem CompJoins_any (a : Option Addr) (la : List Pt) (ca : Nat) (b : Option Addr) (lb : List Pt) (cb : Nat) (c : Option Addr) (lc : List Pt) (cc : Nat) (w : World) (ha : PartsAt w w.heap.size a la) (hb : PartsAt w w.heap.size b lb) (hc : PartsAt w w.heap.size c lc)
    (hca : la.length ≤ ca) (hcb : lb.length ≤ cb) (hcc : lc.length ≤ cc) :
    Calls Try.prog 6 #[.slice a la.length ca, .slice b lb.length cb, .slice c lc.length cc] w fun e w' => e = .returned (.bool true) ∧ Below w.heap.size w w' := by
  have HA : Hid (PartsAt w w.heap.size a la) := ha
  have HB : Hid (PartsAt w w.heap.size b lb) := hb
  have HC : Hid (PartsAt w w.heap.size c lc) := hc
  clear ha hb hc
  go_enter Try.func6, Try.ntmps6
  go_wp2_with fail
  refine (put_any ⟨#[97]⟩ _ (by decide)).mono ?_
  rintro e w1 ⟨rfl, hp1, hb1⟩
  have HE1 : Hid (Below w.heap.size w w1) := hb1
  have HP1 : Hid (PartsAt w1 w1.heap.size (some ⟨w.heap.size, 0, none⟩) [putP ⟨#[97]⟩]) := hp1
  clear hp1 hb1
  go_wp2_with fail
  refine (All_any 1 _ (by decide) (by decide)).mono ?_
  rintro e w2 ⟨a2, c2, rfl, hp2, hb2⟩
  have HE2 : Hid (Below w.heap.size w w2) := HE1.out.trans (hb2.mono HE1.out.size)
  have HP2 : Hid (PartsAt w2 w2.heap.size a2 (allL 1)) := hp2
  have HQ2 : Hid (PartsAt w2 w2.heap.size (some ⟨w.heap.size, 0, none⟩) [putP ⟨#[97]⟩]) := HP1.out.here hb2 (Nat.le_refl _)
  clear hp2 hb2
  go_wp2_with fail
  refine (CompLitJ _ a2 c2 _ HQ2.out HP2.out).mono ?_
  rintro e w3 ⟨a3, c3, rfl, hp3, hb3⟩
  have HE3 : Hid (Below w.heap.size w w3) := HE2.out.trans (hb3.mono HE2.out.size)
  have HP3 : Hid (PartsAt w3 w3.heap.size a3 [putP ⟨#[97]⟩]) := hp3
  clear hp3 hb3
  go_wp2_with fail
  refine (put_any ⟨#[97]⟩ _ (by decide)).mono ?_
  rintro e w4 ⟨rfl, hp4, hb4⟩
  have HE4 : Hid (Below w.heap.size w w4) := HE3.out.trans (hb4.mono HE3.out.size)
  have HP4 : Hid (PartsAt w4 w4.heap.size (some ⟨w3.heap.size, 0, none⟩) [putP ⟨#[97]⟩]) := hp4
  have HQ4 : Hid (PartsAt w4 w4.heap.size a3 [putP ⟨#[97]⟩]) := HP3.out.here hb4 (Nat.le_refl _)
  clear hp4 hb4
  go_wp2_with fail
  refine (SameP _ a3 c3 _ 1 _ HQ4.out HP4.out).mono ?_
  rintro e w5 ⟨rfl, hb5⟩
  have HE5 : Hid (Below w.heap.size w w5) := HE4.out.trans (hb5.mono HE4.out.size)
  have HA5 : Hid (PartsAt w5 w5.heap.size a la) := HA.out.here HE5.out (Nat.le_refl _)
  have HB5 : Hid (PartsAt w5 w5.heap.size b lb) := HB.out.here HE5.out (Nat.le_refl _)
  clear hb5
  go_wp2_with fail
  refine (CompOf_any a b la lb ca cb _ HA5.out HB5.out hca).mono ?_
  rintro e w6 ⟨a6, c6, rfl, hp6, hc6, hb6⟩
  have HE6 : Hid (Below w.heap.size w w6) := HE5.out.trans (hb6.mono HE5.out.size)
  have HP6 : Hid (PartsAt w6 w6.heap.size a6 (compR la lb)) := hp6
  have HR6 : Hid (Room a6 (compR la lb) c6) := hc6
  have HB6 : Hid (PartsAt w6 w6.heap.size b lb) := HB.out.here HE6.out (Nat.le_refl _)
  have HC6 : Hid (PartsAt w6 w6.heap.size c lc) := HC.out.here HE6.out (Nat.le_refl _)
  clear hp6 hc6 hb6
  go_wp2_with fail
  refine (CompOf_any b c lb lc cb cc _ HB6.out HC6.out hcb).mono ?_
  rintro e w7 ⟨a7, c7, rfl, hp7, hc7, hb7⟩
  have HE7 : Hid (Below w.heap.size w w7) := HE6.out.trans (hb7.mono HE6.out.size)
  have HP7 : Hid (PartsAt w7 w7.heap.size a7 (compR lb lc)) := hp7
  have HQ7 : Hid (PartsAt w7 w7.heap.size a6 (compR la lb)) := HP6.out.here hb7 (Nat.le_refl _)
  have HC7 : Hid (PartsAt w7 w7.heap.size c lc) := HC.out.here HE7.out (Nat.le_refl _)
  clear hp7 hc7 hb7
  by_cases h1 : compE la lb = 0
  · by_cases h2 : compE lb lc = 0
    · obtain ⟨k1, k2, k3, k4, k5, k6, k7, k8, k9, k10, k11, k12⟩ := joins h1 h2
      have r1 : (compE la lb != 0) = false := by simp [h1]
      have r2 : (compE lb lc != 0) = false := by simp [h2]
      have r3 : (compE (compR la lb) lc == 0) = true := by simp [k2]
      have r4 : (compE la (compR lb lc) == 0) = true := by simp [k3]
      have r5 : (sizesE la == 0) = true := by simp [k1]
      have r6 : (compE (allL (sizesIn la)) la == 0) = true := by simp [k5]
      have r7 : (compE la (allL (sizesOut la)) == 0) = true := by simp [k7]
      have HK4 : Hid (compR (compR la lb) lc = compR la (compR lb lc)) := k4
      have HK6 : Hid (compR (allL (sizesIn la)) la = la) := k6
      have HK8 : Hid (compR la (allL (sizesOut la)) = la) := k8
      clear h1 h2 k1 k2 k3 k4 k5 k6 k7 k8
      go_wp2_with fail
      refine (CompOf_any a6 c (compR la lb) lc c6 cc _ HQ7.out HC7.out HR6.out.1).mono ?_
      rintro e w8 ⟨a8, c8, rfl, hp8, hc8, hb8⟩
      have HE8 : Hid (Below w.heap.size w w8) := HE7.out.trans (hb8.mono HE7.out.size)
      have HP8 : Hid (PartsAt w8 w8.heap.size a8 (compR (compR la lb) lc)) := hp8
      have HQ8 : Hid (PartsAt w8 w8.heap.size a7 (compR lb lc)) := HP7.out.here hb8 (Nat.le_refl _)
      have HA8 : Hid (PartsAt w8 w8.heap.size a la) := HA.out.here HE8.out (Nat.le_refl _)
      clear hp8 hc8 hb8
      go_wp2_with fail
      refine (CompOf_any a a7 la (compR lb lc) ca c7 _ HA8.out HQ8.out hca).mono ?_
      rintro e w9 ⟨a9, c9, rfl, hp9, hc9, hb9⟩
      have HE9 : Hid (Below w.heap.size w w9) := HE8.out.trans (hb9.mono HE8.out.size)
      have HP9 : Hid (PartsAt w9 w9.heap.size a9 (compR la (compR lb lc))) := hp9
      have HQ9 : Hid (PartsAt w9 w9.heap.size a8 (compR (compR la lb) lc)) := HP8.out.here hb9 (Nat.le_refl _)
      have HA9 : Hid (PartsAt w9 w9.heap.size a la) := HA.out.here HE9.out (Nat.le_refl _)
      clear hp9 hc9 hb9
      go_wp2_with fail
      refine (Sizes_any a la ca _ HA9.out).mono ?_
      rintro e w10 ⟨rfl, hb10⟩
      have HE10 : Hid (Below w.heap.size w w10) := HE9.out.trans (hb10.mono HE9.out.size)
      have HP10 : Hid (PartsAt w10 w10.heap.size a9 (compR la (compR lb lc))) := HP9.out.here hb10 (Nat.le_refl _)
      have HQ10 : Hid (PartsAt w10 w10.heap.size a8 (compR (compR la lb) lc)) := HQ9.out.here hb10 (Nat.le_refl _)
      clear hb10
      go_wp2_with fail
      refine (AllC_any (sizesIn la) _ k9 (by omega)).mono ?_
      rintro e w11 ⟨a11, c11, rfl, hp11, hc11, hb11⟩
      have HE11 : Hid (Below w.heap.size w w11) := HE10.out.trans (hb11.mono HE10.out.size)
      have HL11 : Hid (PartsAt w11 w11.heap.size a11 (allL (sizesIn la))) := hp11
      have HR11 : Hid (Room a11 (allL (sizesIn la)) c11) := hc11
      have HP11 : Hid (PartsAt w11 w11.heap.size a9 (compR la (compR lb lc))) := HP10.out.here hb11 (Nat.le_refl _)
      have HQ11 : Hid (PartsAt w11 w11.heap.size a8 (compR (compR la lb) lc)) := HQ10.out.here hb11 (Nat.le_refl _)
      have HA11 : Hid (PartsAt w11 w11.heap.size a la) := HA.out.here HE11.out (Nat.le_refl _)
      clear hp11 hc11 hb11
      go_wp2_with fail
      refine (CompOf_any a11 a (allL (sizesIn la)) la c11 ca _ HL11.out HA11.out HR11.out.1).mono ?_
      rintro e w12 ⟨a12, c12, rfl, hp12, hc12, hb12⟩
      have HE12 : Hid (Below w.heap.size w w12) := HE11.out.trans (hb12.mono HE11.out.size)
      have HL12 : Hid (PartsAt w12 w12.heap.size a12 (compR (allL (sizesIn la)) la)) := hp12
      have HP12 : Hid (PartsAt w12 w12.heap.size a9 (compR la (compR lb lc))) := HP11.out.here hb12 (Nat.le_refl _)
      have HQ12 : Hid (PartsAt w12 w12.heap.size a8 (compR (compR la lb) lc)) := HQ11.out.here hb12 (Nat.le_refl _)
      clear hp12 hc12 hb12
      go_wp2_with fail
      refine (AllC_any (sizesOut la) _ k11 (by omega)).mono ?_
      rintro e w13 ⟨a13, c13, rfl, hp13, hc13, hb13⟩
      have HE13 : Hid (Below w.heap.size w w13) := HE12.out.trans (hb13.mono HE12.out.size)
      have HM13 : Hid (PartsAt w13 w13.heap.size a13 (allL (sizesOut la))) := hp13
      have HL13 : Hid (PartsAt w13 w13.heap.size a12 (compR (allL (sizesIn la)) la)) := HL12.out.here hb13 (Nat.le_refl _)
      have HP13 : Hid (PartsAt w13 w13.heap.size a9 (compR la (compR lb lc))) := HP12.out.here hb13 (Nat.le_refl _)
      have HQ13 : Hid (PartsAt w13 w13.heap.size a8 (compR (compR la lb) lc)) := HQ12.out.here hb13 (Nat.le_refl _)
      have HA13 : Hid (PartsAt w13 w13.heap.size a la) := HA.out.here HE13.out (Nat.le_refl _)
      clear hp13 hc13 hb13
      go_wp2_with fail
      refine (CompOf_any a a13 la (allL (sizesOut la)) ca c13 _ HA13.out HM13.out hca).mono ?_
      rintro e w14 ⟨a14, c14, rfl, hp14, hc14, hb14⟩
      have HE14 : Hid (Below w.heap.size w w14) := HE13.out.trans (hb14.mono HE13.out.size)
      have HM14 : Hid (PartsAt w14 w14.heap.size a14 (compR la (allL (sizesOut la)))) := hp14
      have HL14 : Hid (PartsAt w14 w14.heap.size a12 (compR (allL (sizesIn la)) la)) := HL13.out.here hb14 (Nat.le_refl _)
      have HP14 : Hid (PartsAt w14 w14.heap.size a9 (compR la (compR lb lc))) := HP13.out.here hb14 (Nat.le_refl _)
      have HQ14 : Hid (PartsAt w14 w14.heap.size a8 (compR (compR la lb) lc)) := HQ13.out.here hb14 (Nat.le_refl _)
      clear hp14 hc14 hb14
      go_wp2_with fail
      refine (Same_any a8 a9 (compR (compR la lb) lc) (compR la (compR lb lc)) c8 c9 _ HQ14.out HP14.out).mono ?_
      rintro e w15 ⟨r, rfl, hr, hb15⟩
      obtain rfl : r = true := hr.2 HK4.out
      have HE15 : Hid (Below w.heap.size w w15) := HE14.out.trans (hb15.mono HE14.out.size)
      have HM15 : Hid (PartsAt w15 w15.heap.size a14 (compR la (allL (sizesOut la)))) := HM14.out.here hb15 (Nat.le_refl _)
      have HL15 : Hid (PartsAt w15 w15.heap.size a12 (compR (allL (sizesIn la)) la)) := HL14.out.here hb15 (Nat.le_refl _)
      have HA15 : Hid (PartsAt w15 w15.heap.size a la) := HA.out.here HE15.out (Nat.le_refl _)
      clear hr hb15
      go_wp2_with fail
      refine (Same_any a12 a (compR (allL (sizesIn la)) la) la c12 ca _ HL15.out HA15.out).mono ?_
      rintro e w16 ⟨r, rfl, hr, hb16⟩
      obtain rfl : r = true := hr.2 HK6.out
      have HE16 : Hid (Below w.heap.size w w16) := HE15.out.trans (hb16.mono HE15.out.size)
      have HM16 : Hid (PartsAt w16 w16.heap.size a14 (compR la (allL (sizesOut la)))) := HM15.out.here hb16 (Nat.le_refl _)
      have HA16 : Hid (PartsAt w16 w16.heap.size a la) := HA.out.here HE16.out (Nat.le_refl _)
      clear hr hb16
      go_wp2_with fail
      refine (Same_any a14 a (compR la (allL (sizesOut la))) la c14 ca _ HM16.out HA16.out).mono ?_
      rintro e w17 ⟨r, rfl, hr, hb17⟩
      obtain rfl : r = true := hr.2 HK8.out
      have HE17 : Hid (Below w.heap.size w w17) := HE16.out.trans (hb17.mono HE16.out.size)
      clear hr hb17
      go_wp2_with fail
      go_ret
      exact ⟨rfl, HE17.out⟩
    · have r1 : (compE la lb != 0) = false := by simp [h1]
      have r2 : (compE lb lc != 0) = true := by simp [h2]
      clear h1 h2
      go_wp2_with fail
      go_ret
      exact ⟨rfl, HE7.out⟩
  · have r1 : (compE la lb != 0) = true := by simp [h1]
    clear h1
    go_wp2_with fail
    go_ret
    exact ⟨rfl, HE7.out⟩

end Go.Proofs.Ytdkmgcfdhlbpiaa
