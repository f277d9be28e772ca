/- The law ApplyBeside, walked: it answers true. -/
import Derived.Test.YtjnjmphmhhandaaBesideWalk
import Derived.Test.YtjnjmphmhhandaaBeside
import Derived.Test.YtjnjmphmhhandaaDo
import Derived.Test.YtjnjmphmhhandaaPlDo
import Derived.Test.YtjnjmphmhhandaaSame
import Derived.Test.YtjnjmphmhhandaaPartOnceWalk
import Derived.Test.YtjnjmphmhhandaaApplySizesWalk
namespace Go.Proofs.Ytjnjmphmhhandaa
open Go.RowKit
set_option linter.unusedSimpArgs false
set_option linter.unusedVariables false

def pA : Pt := ⟨2, 0, ⟨#[97]⟩⟩
def pB : Pt := ⟨2, 0, ⟨#[98]⟩⟩
def pAB : Pt := ⟨2, 0, ⟨#[97, 98]⟩⟩
theorem ab_norm : normE ([pA] ++ [pB]) = 0 ∧ normL ([pA] ++ [pB]) = [pAB] := by
  have h1 : looseE ([pA] ++ [pB]) = 0 := by decide
  have h2 : gatherL ([pA] ++ [pB]) = [pAB] := rfl
  have h3 : sizesE [pAB] = 0 := by decide
  have h4 : normE ([pA] ++ [pB]) = 0 := by rw [normE, if_pos h1, h2, if_pos h3]
  exact ⟨h4, by rw [normL, if_pos h4, h2]⟩

theorem besideAB (x y : Addr) (w : World) (hx : PartsAt w w.heap.size (some x) [pA]) (hy : PartsAt w w.heap.size (some y) [pB]) :
    Calls Try.prog 22 #[.slice (some x) 1 1, .slice (some y) 1 1] w fun e w' => ∃ a' c', e = .returned (.tuple #[.slice a' 1 c', .int .i64 0]) ∧ PartsAt w' w'.heap.size a' [pAB] ∧ Below w.heap.size w w' := by
  have h := beside_any (some x) (some y) [pA] [pB] 1 1 w hx hy (by simp) (by simp) (by decide) (by decide)
  rw [ab_norm.1, ab_norm.2] at h
  exact h
theorem sameAB (a' : Option Addr) (c' : Nat) (y : Addr) (w : World) (hx : PartsAt w w.heap.size a' [pAB]) (hy : PartsAt w w.heap.size (some y) [pAB]) :
    Calls Try.prog 16 #[.slice a' 1 c', .slice (some y) 1 1] w fun e w' => e = .returned (.bool true) ∧ Below w.heap.size w w' :=
  Same_yes a' (some y) [pAB] c' 1 w hx hy

/-- what is asked of two deltas, one behind the other -/
theorem beside_does {la lb : List Pt} {s t : ByteArray} (h1 : fitsE la s.size = 0) (h2 : fitsE lb t.size = 0) (h3 : normE (la ++ lb) = 0) :
    s.size ≤ 500 ∧ t.size ≤ 500 ∧ (doT la s).length ≤ 2000000 ∧ (doT lb t).length ≤ 2000000 ∧ fitsE (normL (la ++ lb)) (s ++ t).size = 0 ∧ doT (normL (la ++ lb)) (s ++ t) = doT la s ++ doT lb t := by
  obtain ⟨z1, i1⟩ := fits_zero h1
  obtain ⟨z2, i2⟩ := fits_zero h2
  obtain ⟨n1, n2, n3⟩ := norm_zero h3
  obtain ⟨hs, hk⟩ := loose_small n1
  have hL : ∀ p ∈ la ++ lb, 0 ≤ p.n ∧ (p.k = 2 → p.n = 0) ∧ (p.k = 1 ∨ p.k = 2 ∨ p.k = 3) := fun p hp => ⟨(hs.2 p hp).1, (hk p hp).2, (hk p hp).1⟩
  have hLa : Loose la := fun p hp => ⟨(hL p (List.mem_append_left _ hp)).1, (hL p (List.mem_append_left _ hp)).2.1⟩
  have hsl : s.data.toList.length = s.size := Array.length_toList
  have htl : t.data.toList.length = t.size := Array.length_toList
  have hst : (s ++ t).data.toList = s.data.toList ++ t.data.toList := data_append s t
  have hin : inI (normL (la ++ lb)) = ((s ++ t).size : Int) := by
    rw [n3, gather_in (fun p hp => ⟨(hL p hp).1, (hL p hp).2.1⟩), inI_app, i1, i2, ByteArray.size_append]; omega
  have hf : fitsE (normL (la ++ lb)) (s ++ t).size = 0 := by rw [fitsE, if_pos n2, if_pos hin]
  have bnd : ∀ {l : List Pt} {x : ByteArray}, sizesE l = 0 → inI l = x.size → x.size ≤ 500 ∧ (doT l x).length ≤ 2000000 := by
    intro l x hz hi
    obtain ⟨hsm, e1, e2⟩ := sizes_zero hz
    have hpz : partsE l = 0 ∧ ¬ (500 < sumIn l ∨ 500 < sumOut l) := by
      unfold sizesE at hz
      split at hz
      · rename_i h0
        split at hz
        · omega
        · rename_i h; exact ⟨h0, h⟩
      · contradiction
    have hsi : sumIn l = inI l := by
      have : sizesIn l = sumIn l := by simp [sizesIn, hz]
      rw [← this, e1]
    refine ⟨by omega, ?_⟩
    have hft : fitsE l x.size = 0 := by rw [fitsE, if_pos hz, if_pos hi]
    rw [doT, if_pos hft]
    have hxl : x.data.toList.length = x.size := Array.length_toList
    have hd := doL_len hsm.2 (sizes_right hz) (s := x.data.toList) (by rw [hxl, hi])
    have hob := outI_bd hsm.2
    have := hsm.1
    omega
  obtain ⟨b1, b2⟩ := bnd z1 i1
  obtain ⟨b3, b4⟩ := bnd z2 i2
  refine ⟨b1, b3, b2, b4, hf, ?_⟩
  rw [doT, if_pos hf, doT, if_pos h1, doT, if_pos h2, n3, hst]
  rw [gather_do hL (by rw [List.length_append, hsl, htl, inI_app, i1, i2]; omega), doL_app lb hLa _ _ (by rw [hsl, i1])]

set_option maxHeartbeats 4000000 in
theorem ApplyBeside_any (a : Option Addr) (la : List Pt) (ca : Nat) (b : Option Addr) (lb : List Pt) (cb : Nat) (s t : ByteArray) (w : World) (ha : PartsAt w w.heap.size a la) (hb : PartsAt w w.heap.size b lb)
    (ha0 : a = none → ca = 0) (hb0 : b = none → cb = 0) (hla : la.length * 32 ≤ 140737488351232) (hlb : lb.length * 32 ≤ 140737488351232) (hs : s.size ≤ 9223372036854775807) (ht : t.size ≤ 9223372036854775807) :
    Calls Try.prog 8 #[.slice a la.length ca, .slice b lb.length cb, .string s, .string t] w fun e w' => e = .returned (.bool true) ∧ Below w.heap.size w w' := by
  have HA : Hid (PartsAt w w.heap.size a la) := ha
  have HB : Hid (PartsAt w w.heap.size b lb) := hb
  have HA0 : Hid (a = none → ca = 0) := ha0
  have HB0 : Hid (b = none → cb = 0) := hb0
  clear ha hb ha0 hb0
  go_enter Try.func8, Try.ntmps8
  go_wp2_with fail
  refine (put_any ⟨#[97]⟩ _ (by decide)).mono ?_
  rintro e w1 ⟨rfl, hp1, hb1⟩
  have HP1 : Hid (PartsAt w1 w1.heap.size (some ⟨w.heap.size, 0, none⟩) [pA]) := hp1
  have HE1 : Hid (Below w.heap.size w w1) := hb1
  clear hp1 hb1
  go_wp2_with fail
  refine (put_any ⟨#[98]⟩ _ (by decide)).mono ?_
  rintro e w2 ⟨rfl, hp2, hb2⟩
  have HP2 : Hid (PartsAt w2 w2.heap.size (some ⟨w1.heap.size, 0, none⟩) [pB]) := hp2
  have HQ2 : Hid (PartsAt w2 w2.heap.size (some ⟨w.heap.size, 0, none⟩) [pA]) := HP1.out.here hb2 (Nat.le_refl _)
  have HE2 : Hid (Below w.heap.size w w2) := HE1.out.trans (hb2.mono HE1.out.size)
  clear hp2 hb2
  go_wp2_with fail
  refine (besideAB _ _ _ HQ2.out HP2.out).mono ?_
  rintro e w3 ⟨a3, c3, rfl, hp3, hb3⟩
  have HP3 : Hid (PartsAt w3 w3.heap.size a3 [pAB]) := hp3
  have HE3 : Hid (Below w.heap.size w w3) := HE2.out.trans (hb3.mono HE2.out.size)
  clear hp3 hb3
  go_wp2_with fail
  refine (put_any ⟨#[97, 98]⟩ _ (by decide)).mono ?_
  rintro e w4 ⟨rfl, hp4, hb4⟩
  have HP4 : Hid (PartsAt w4 w4.heap.size (some ⟨w3.heap.size, 0, none⟩) [pAB]) := hp4
  have HQ4 : Hid (PartsAt w4 w4.heap.size a3 [pAB]) := HP3.out.here hb4 (Nat.le_refl _)
  have HE4 : Hid (Below w.heap.size w w4) := HE3.out.trans (hb4.mono HE3.out.size)
  clear hp4 hb4
  go_wp2_with fail
  refine (sameAB a3 c3 _ _ HQ4.out HP4.out).mono ?_
  rintro e w5 ⟨rfl, hb5⟩
  have HE5 : Hid (Below w.heap.size w w5) := HE4.out.trans (hb5.mono HE4.out.size)
  have HA5 : Hid (PartsAt w5 w5.heap.size a la) := HA.out.here HE5.out (Nat.le_refl _)
  clear hb5
  go_wp2_with fail
  refine (Do_any a la ca s _ HA5.out hs).mono ?_
  rintro e w6 ⟨rfl, hb6⟩
  have HE6 : Hid (Below w.heap.size w w6) := HE5.out.trans (hb6.mono HE5.out.size)
  have HB6 : Hid (PartsAt w6 w6.heap.size b lb) := HB.out.here HE6.out (Nat.le_refl _)
  clear hb6
  go_wp2_with fail
  refine (Do_any b lb cb t _ HB6.out ht).mono ?_
  rintro e w7 ⟨rfl, hb7⟩
  have HE7 : Hid (Below w.heap.size w w7) := HE6.out.trans (hb7.mono HE6.out.size)
  have HA7 : Hid (PartsAt w7 w7.heap.size a la) := HA.out.here HE7.out (Nat.le_refl _)
  have HB7 : Hid (PartsAt w7 w7.heap.size b lb) := HB.out.here HE7.out (Nat.le_refl _)
  clear hb7
  go_wp2_with fail
  refine (beside_any a b la lb ca cb _ HA7.out HB7.out HA0.out HB0.out hla hlb).mono ?_
  rintro e w8 ⟨a8, c8, rfl, hp8, hb8⟩
  have HP8 : Hid (PartsAt w8 w8.heap.size a8 (normL (la ++ lb))) := hp8
  have HE8 : Hid (Below w.heap.size w w8) := HE7.out.trans (hb8.mono HE7.out.size)
  clear hp8 hb8
  by_cases h1 : fitsE la s.size = 0
  · by_cases h2 : fitsE lb t.size = 0
    · by_cases h3 : normE (la ++ lb) = 0
      · obtain ⟨k1, k2, k3, k4, k5, k6⟩ := beside_does h1 h2 h3
        have r1 : (fitsE la s.size != 0) = false := by simp [h1]
        have r2 : (fitsE lb t.size != 0) = false := by simp [h2]
        have r3 : (normE (la ++ lb) != 0) = false := by simp [h3]
        have r5 : (fitsE (normL (la ++ lb)) ((s.size : Int) + (t.size : Int)) == 0) = true := by
          rw [ByteArray.size_append] at k5
          rw [show ((s.size : Int) + (t.size : Int)) = ((s.size + t.size : Nat) : Int) by omega, k5]
          rfl
        have HT : Hid (doT (normL (la ++ lb)) (s ++ t) = doT la s ++ doT lb t) := k6
        have hst : (s ++ t).size ≤ 9223372036854775807 := by rw [ByteArray.size_append]; omega
        clear h1 h2 h3 k5 k6
        go_wp2_with fail
        refine (Do_any a8 (normL (la ++ lb)) c8 (s ++ t) _ HP8.out hst).mono ?_
        rintro e w9 ⟨rfl, hb9⟩
        have HE9 : Hid (Below w.heap.size w w9) := HE8.out.trans (hb9.mono HE8.out.size)
        clear hb9
        rw [HT.out]
        have m1 : (⟨(doT la s).toArray⟩ : ByteArray).size ≤ 2000000 := by show (List.toArray _).size ≤ _; simpa using k3
        have m2 : (⟨(doT lb t).toArray⟩ : ByteArray).size ≤ 2000000 := by show (List.toArray _).size ≤ _; simpa using k4
        generalize doT la s = X at *
        generalize doT lb t = Y at *
        have r6 : (X ++ Y == ((⟨X.toArray⟩ : ByteArray) ++ (⟨Y.toArray⟩ : ByteArray)).toList) = true := by
          rw [ByteArray.toList_eq, data_append]; simp
        go_wp2_with fail
        go_ret
        exact ⟨rfl, HE9.out⟩
      · have r1 : (fitsE la s.size != 0) = false := by simp [h1]
        have r2 : (fitsE lb t.size != 0) = false := by simp [h2]
        have r3 : (normE (la ++ lb) != 0) = true := by simp [h3]
        clear h1 h2 h3
        go_wp2_with fail
        go_ret
        exact ⟨rfl, HE8.out⟩
    · have r1 : (fitsE la s.size != 0) = false := by simp [h1]
      have r2 : (fitsE lb t.size != 0) = true := by simp [h2]
      clear h1 h2
      go_wp2_with fail
      go_ret
      exact ⟨rfl, HE8.out⟩
  · have r1 : (fitsE la s.size != 0) = true := by simp [h1]
    clear h1
    go_wp2_with fail
    go_ret
    exact ⟨rfl, HE8.out⟩

end Go.Proofs.Ytjnjmphmhhandaa
