/- The law DiffBest, walked: it answers true. -/
import Derived.Test.YtbfabahdaacpfaaDiffCostOf
namespace Go.Proofs.Ytbfabahdaacpfaa
open Go.RowKit
set_option linter.unusedSimpArgs false
set_option linter.unusedVariables false

theorem best_facts {d : List Pt} {s : ByteArray} (h : fitsE d s.size = 0) : s.size ≤ 500 ∧ (⟨(doT d s).toArray⟩ : ByteArray).size ≤ 500 ∧ Small d ∧ costI d ≤ 2000000 ∧
    s.size + (⟨(doT d s).toArray⟩ : ByteArray).size ≤ costI d + 2 * lcs s.data.toList (⟨(doT d s).toArray⟩ : ByteArray).data.toList := by
  obtain ⟨h0, hin⟩ := fits_zero h
  obtain ⟨g, cn, ii, oo, b1, b2⟩ := delta_facts h0
  have hsl : s.data.toList.length = s.size := Array.length_toList
  have hi : s.data.toList.length = inW (wordL d) := by rw [hsl]; omega
  have hd : doT d s = doW (wordL d) s.data.toList := by rw [doT, if_pos h, doL_word]
  have hl := doW_len (wordL d) s.data.toList hi
  have hsm := (sizes_zero h0).1
  have hc := cost_least hi
  have e1 : (⟨(doT d s).toArray⟩ : ByteArray).size = (doW (wordL d) s.data.toList).length := by rw [hd]; simp [ByteArray.size]
  have e2 : (⟨(doT d s).toArray⟩ : ByteArray).data.toList = doW (wordL d) s.data.toList := by rw [hd]
  refine ⟨by omega, by rw [e1, hl]; exact b2, hsm, ?_, ?_⟩
  · have h1 := costI_bd hsm.2
    have h2 := hsm.1
    omega
  · rw [e1, e2, cost_word g]
    omega

set_option maxRecDepth 100000 in
set_option maxHeartbeats 8000000 in
theorem DiffBest_any (a : Option Addr) (d : List Pt) (ca : Nat) (s : ByteArray) (w : World) (hp : PartsAt w w.heap.size a d) (hs : s.size ≤ 9223372036854775807) :
    Calls Try.prog 8 #[.slice a d.length ca, .string s] w fun e w' => e = .returned (.bool true) ∧ Below w.heap.size w w' := by
  have HP0 : Hid (PartsAt w w.heap.size a d) := hp
  clear hp
  go_enter Try.func8, Try.ntmps8
  go_wp2_with fail
  refine (cost_any ⟨#[]⟩ ⟨#[97, 98]⟩ _ (by decide) (by decide)).mono ?_
  rintro e w1 ⟨c, rfl, hc, hb⟩
  obtain rfl : c = 2 := by
    have h : lcs (⟨#[]⟩ : ByteArray).data.toList (⟨#[97, 98]⟩ : ByteArray).data.toList = 0 := lcs_nilL _
    rw [h] at hc
    exact hc
  have HP1 : Hid (PartsAt w1 w1.heap.size a d) := HP0.out.here hb (Nat.le_refl _)
  have HB1 : Hid (Below w.heap.size w w1) := hb
  clear hb hc
  go_wp2_with fail
  refine (Do_any a d ca s _ HP1.out hs).mono ?_
  rintro e w2 ⟨rfl, hb⟩
  have HP2 : Hid (PartsAt w2 w2.heap.size a d) := HP1.out.here hb (Nat.le_refl _)
  have HB2 : Hid (Below w.heap.size w w2) := HB1.out.trans (hb.mono HB1.out.size)
  clear hb
  by_cases h0 : fitsE d s.size = 0
  · obtain ⟨f1, f2, f3, f4, f5⟩ := best_facts h0
    rw [h0]
    generalize (⟨(doT d s).toArray⟩ : ByteArray) = t at *
    have HS : Hid (Small d) := f3
    obtain ⟨k, hk⟩ : ∃ k, costI d = k := ⟨_, rfl⟩
    rw [hk] at f4 f5
    have HK : Hid (costI d = k) := hk
    have HF : Hid _ := f5
    clear f3 f5 hk h0
    go_wp2_with fail
    refine (cost_any s t _ f1 f2).mono ?_
    rintro e w3 ⟨c, rfl, hc, hb⟩
    have hle : c ≤ k := by have := HF.out; omega
    have HP3 : Hid (PartsAt w3 w3.heap.size a d) := HP2.out.here hb (Nat.le_refl _)
    have HB3 : Hid (Below w.heap.size w w3) := HB2.out.trans (hb.mono HB2.out.size)
    clear hb hc
    go_wp2_with fail
    refine (Cost_any a d ca _ HP3.out HS.out).mono ?_
    rintro e w4 ⟨rfl, hb⟩
    rw [HK.out]
    have HB4 : Hid (Below w.heap.size w w4) := HB3.out.trans (hb.mono HB3.out.size)
    clear hb
    go_wp2_with fail
    go_ret
    refine ⟨?_, HB4.out⟩
    first | rfl | (simp; omega)
  · have HT : Hid ((⟨(doT d s).toArray⟩ : ByteArray) = ⟨#[]⟩) := by show _ = _; rw [doT, if_neg h0]
    rw [HT.out]
    have h0' : (fitsE d s.size != 0) = true := by simp [h0]
    clear h0
    go_wp2_with fail
    go_ret
    exact ⟨rfl, HB2.out⟩
end Go.Proofs.Ytbfabahdaacpfaa
