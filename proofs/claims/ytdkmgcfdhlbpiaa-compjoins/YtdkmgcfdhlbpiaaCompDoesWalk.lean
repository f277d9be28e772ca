/- The law CompDoes, walked: it answers true. -/
import Derived.Test.YtdkmgcfdhlbpiaaLawKit
import Derived.Test.YtdkmgcfdhlbpiaaDo
namespace Go.Proofs.Ytdkmgcfdhlbpiaa
open Go.RowKit
set_option linter.unusedSimpArgs false
set_option linter.unusedVariables false

theorem doT_len (l : List Pt) (s : ByteArray) : (doT l s).length ≤ 500 := by
  unfold doT
  split
  · rename_i h
    obtain ⟨z, i⟩ := fits_zero h
    obtain ⟨g, c, e1, e2, b1, b2⟩ := delta_facts z
    have hl : s.data.toList.length = s.size := Array.length_toList
    rw [doL_word, doW_len _ _ (by omega)]; exact b2
  · simp
theorem comp_fits {la lb : List Pt} {s : ByteArray} {t : ByteArray} (h1 : fitsE la s.size = 0) (ht : t.data.toList = doT la s) (h2 : fitsE lb t.size = 0) :
    compE la lb = 0 ∧ fitsE (compL la lb) s.size = 0 ∧ doT (compL la lb) s = doT lb t := by
  obtain ⟨z1, i1⟩ := fits_zero h1
  obtain ⟨z2, i2⟩ := fits_zero h2
  obtain ⟨g, c, e1, e2, b1, b2⟩ := delta_facts z1
  have hsl : s.data.toList.length = s.size := Array.length_toList
  have htl : t.data.toList.length = t.size := Array.length_toList
  have hd : doT la s = doL la s.data.toList := by rw [doT, if_pos h1]
  have hx : (s.data.toList.length : Int) = inI la := by omega
  have hlen : (doL la s.data.toList).length = outW (wordL la) := by rw [doL_word, doW_len _ _ (by omega)]
  have hz : compE la lb = 0 := comp_is z1 z2 (by rw [i2, ← htl, ht, hd, hlen, e2])
  obtain ⟨r, hr, e, f1, f2, f3, f4, f5⟩ := comp_facts hz
  have hf : fitsE (compL la lb) s.size = 0 := by rw [fitsE, if_pos f1, if_pos (by omega)]
  refine ⟨hz, hf, ?_⟩
  rw [doT, if_pos hf, doT, if_pos h2, ht, hd, comp_does hz hx]

theorem CompLit1 (x y : Addr) (w : World) (hx : PartsAt w w.heap.size (some x) [putP ⟨#[97, 98]⟩]) (hy : PartsAt w w.heap.size (some y) [cutP 1, keepP 1]) :
    Calls Try.prog 9 #[.slice (some x) 1 1, .slice (some y) 2 2] w fun e w' => ∃ a' c', e = .returned (.tuple #[.slice a' 1 c', .int .i64 0]) ∧ PartsAt w' w'.heap.size a' [putP ⟨#[98]⟩] ∧ Below w.heap.size w w' :=
  (show Calls Try.prog 9 #[.slice (some x) 1 1, .slice (some y) 2 2] w _ from comp_lit lit1.1 lit1.2 (some x) (some y) 1 2 w hx hy (by decide)).mono (fun e w' ⟨a', c', h1, h2, h3, h4⟩ => ⟨a', c', h1, h2, h4⟩)
theorem SameP (p : Pt) (a' : Option Addr) (c' : Nat) (y : Addr) (cy : Nat) (w : World) (hx : PartsAt w w.heap.size a' [p]) (hy : PartsAt w w.heap.size (some y) [p]) :
    Calls Try.prog 11 #[.slice a' 1 c', .slice (some y) 1 cy] w fun e w' => e = .returned (.bool true) ∧ Below w.heap.size w w' :=
  Same_yes a' (some y) [p] c' cy w hx hy

set_option maxHeartbeats 4000000 in
theorem CompDoes_any (a : Option Addr) (la : List Pt) (ca : Nat) (b : Option Addr) (lb : List Pt) (cb : Nat) (s : ByteArray) (w : World) (ha : PartsAt w w.heap.size a la) (hb : PartsAt w w.heap.size b lb)
    (hca : la.length ≤ ca) (hcb : lb.length ≤ cb) (hs : s.size ≤ 9223372036854775807) :
    Calls Try.prog 5 #[.slice a la.length ca, .slice b lb.length cb, .string s] w fun e w' => e = .returned (.bool true) ∧ Below w.heap.size w w' := by
  have HA : Hid (PartsAt w w.heap.size a la) := ha
  have HB : Hid (PartsAt w w.heap.size b lb) := hb
  clear ha hb
  go_enter Try.func5, Try.ntmps5
  go_wp2_with fail
  refine (put_any ⟨#[97, 98]⟩ _ (by decide)).mono ?_
  rintro e w1 ⟨rfl, hp1, hb1⟩
  have HP1 : Hid (PartsAt (w1.alloc (.cells #[.int .i64 3, .int .i64 1, .string ⟨#[]⟩, .int .i64 1, .int .i64 1, .string ⟨#[]⟩] 31)) (w1.alloc (.cells #[.int .i64 3, .int .i64 1, .string ⟨#[]⟩, .int .i64 1, .int .i64 1, .string ⟨#[]⟩] 31)).heap.size (some ⟨w.heap.size, 0, none⟩) [putP ⟨#[97, 98]⟩]) := hp1.here ((Below.refl _ _).alloc (Nat.le_refl _) _) (Nat.le_refl _)
  have HL1 : Hid (PartsAt (w1.alloc (.cells #[.int .i64 3, .int .i64 1, .string ⟨#[]⟩, .int .i64 1, .int .i64 1, .string ⟨#[]⟩] 31)) (w1.alloc (.cells #[.int .i64 3, .int .i64 1, .string ⟨#[]⟩, .int .i64 1, .int .i64 1, .string ⟨#[]⟩] 31)).heap.size (some ⟨w1.heap.size, 0, none⟩) [cutP 1, keepP 1]) := lit_at w1 _ (small_bound lit1a.2.1) _ rfl
  have HE1 : Hid (Below w.heap.size w (w1.alloc (.cells #[.int .i64 3, .int .i64 1, .string ⟨#[]⟩, .int .i64 1, .int .i64 1, .string ⟨#[]⟩] 31))) := hb1.alloc hb1.size _
  clear hp1 hb1
  go_wp2_with fail
  refine (CompLit1 _ _ _ HP1.out HL1.out).mono ?_
  rintro e w2 ⟨a2, c2, rfl, hp2, hb2⟩
  have HE2 : Hid (Below w.heap.size w w2) := HE1.out.trans (hb2.mono HE1.out.size)
  have HP2 : Hid (PartsAt w2 w2.heap.size a2 [putP ⟨#[98]⟩]) := hp2
  clear hp2 hb2
  go_wp2_with fail
  refine (put_any ⟨#[98]⟩ _ (by decide)).mono ?_
  rintro e w3 ⟨rfl, hp3, hb3⟩
  have HE3 : Hid (Below w.heap.size w w3) := HE2.out.trans (hb3.mono HE2.out.size)
  have HP3 : Hid (PartsAt w3 w3.heap.size (some ⟨w2.heap.size, 0, none⟩) [putP ⟨#[98]⟩]) := hp3
  have HQ3 : Hid (PartsAt w3 w3.heap.size a2 [putP ⟨#[98]⟩]) := HP2.out.here hb3 (Nat.le_refl _)
  clear hp3 hb3
  go_wp2_with fail
  refine (SameP _ a2 c2 _ 1 _ HQ3.out HP3.out).mono ?_
  rintro e w4 ⟨rfl, hb4⟩
  have HE4 : Hid (Below w.heap.size w w4) := HE3.out.trans (hb4.mono HE3.out.size)
  have HA4 : Hid (PartsAt w4 w4.heap.size a la) := HA.out.here HE4.out (Nat.le_refl _)
  clear hb4
  go_wp2_with fail
  refine (Do_any a la ca s _ HA4.out hs).mono ?_
  rintro e w5 ⟨rfl, hb5⟩
  have HE5 : Hid (Below w.heap.size w w5) := HE4.out.trans (hb5.mono HE4.out.size)
  have HB5 : Hid (PartsAt w5 w5.heap.size b lb) := HB.out.here HE5.out (Nat.le_refl _)
  obtain ⟨t, HT⟩ : ∃ t, Hid ((⟨(doT la s).toArray⟩ : ByteArray) = t) := ⟨_, rfl⟩
  rw [HT.out]
  have HTD : Hid (t.data.toList = doT la s) := by show _ = _; rw [← HT.out]
  have ht5 : t.size ≤ 500 := by have h := doT_len la s; rw [← HTD.out] at h; exact h
  clear hb5
  go_wp2_with fail
  refine (Do_any b lb cb t _ HB5.out (by omega)).mono ?_
  rintro e w6 ⟨rfl, hb6⟩
  have HE6 : Hid (Below w.heap.size w w6) := HE5.out.trans (hb6.mono HE5.out.size)
  have HA6 : Hid (PartsAt w6 w6.heap.size a la) := HA.out.here HE6.out (Nat.le_refl _)
  have HB6 : Hid (PartsAt w6 w6.heap.size b lb) := HB.out.here HE6.out (Nat.le_refl _)
  clear hb6
  go_wp2_with fail
  refine (CompOf_any a b la lb ca cb _ HA6.out HB6.out hca).mono ?_
  rintro e w7 ⟨a7, c7, rfl, hp7, hc7, hb7⟩
  have HE7 : Hid (Below w.heap.size w w7) := HE6.out.trans (hb7.mono HE6.out.size)
  have HP7 : Hid (PartsAt w7 w7.heap.size a7 (compR la lb)) := hp7
  clear hp7 hb7 hc7
  by_cases h1 : fitsE la s.size = 0
  · by_cases h2 : fitsE lb t.size = 0
    · obtain ⟨k1, k2, k3⟩ := comp_fits h1 HTD.out h2
      have hR : compR la lb = compL la lb := by rw [compR, if_pos k1]
      rw [hR] at HP7 ⊢
      have r1 : (fitsE la s.size != 0) = false := by simp [h1]
      have r2 : (fitsE lb t.size != 0) = false := by simp [h2]
      have r3 : (compE la lb == 0) = true := by simp [k1]
      have r4 : (fitsE (compL la lb) s.size == 0) = true := by simp [k2]
      have HK3 : Hid (doT (compL la lb) s = doT lb t) := k3
      clear h1 h2 k1 k2 k3 hR
      go_wp2_with fail
      refine (Do_any a7 (compL la lb) c7 s _ HP7.out hs).mono ?_
      rintro e w8 ⟨rfl, hb8⟩
      have HE8 : Hid (Below w.heap.size w w8) := HE7.out.trans (hb8.mono HE7.out.size)
      clear hb8
      rw [HK3.out]
      go_wp2_with fail
      go_ret
      exact ⟨rfl, HE8.out⟩
    · have r1 : (fitsE la s.size != 0) = false := by simp [h1]
      have r2 : (fitsE lb t.size != 0) = true := by simp [h2]
      clear h1 h2
      go_wp2_with fail
      go_ret
      exact ⟨rfl, HE7.out⟩
  · have r1 : (fitsE la s.size != 0) = true := by simp [h1]
    clear h1
    go_wp2_with fail
    go_ret
    exact ⟨rfl, HE7.out⟩

end Go.Proofs.Ytdkmgcfdhlbpiaa
