/- The law TurnParts, walked: it answers true. -/
import Derived.Test.YtdkmgcfdhlbpiaaTurnBackWalk
namespace Go.Proofs.Ytdkmgcfdhlbpiaa
open Go.RowKit
set_option linter.unusedSimpArgs false
set_option linter.unusedVariables false

theorem TurnLitQ (x : Addr) (w : World) (hx : PartsAt w w.heap.size (some x) [putP ⟨#[97]⟩]) :
    Calls Try.prog 12 #[.slice (some x) 1 1, .string ⟨#[]⟩] w fun e w' => ∃ a' c', e = .returned (.tuple #[.slice a' 1 c', .int .i64 0]) ∧ PartsAt w' w'.heap.size a' [cutP 1] ∧ Below w.heap.size w w' :=
  (show Calls Try.prog 12 #[.slice (some x) 1 1, .string ⟨#[]⟩] w _ from turn_lit (s := ⟨#[]⟩) litQ.1 litQ.2 (some x) 1 w hx (by decide)).mono (fun e w' ⟨a', c', h1, h2, h3, h4⟩ => ⟨a', c', h1, h2, h4⟩)
theorem parts_asked {a b : List Pt} {s t : ByteArray} (h1 : fitsE a s.size = 0) (ht : t.data.toList = doT a s) (h2 : compE a b = 0) :
    fitsE (compR a b) s.size = 0 ∧ fitsE b t.size = 0 ∧ compE (turnR b t) (turnR a s) = 0 ∧ turnR (compR a b) s = compR (turnR b t) (turnR a s) := by
  obtain ⟨z, i⟩ := fits_zero h1
  obtain ⟨z1, z2, z3⟩ := comp_zero h2
  obtain ⟨ga, cn, ia, oa, la, ma⟩ := delta_facts z1
  have hsl : s.data.toList.length = s.size := Array.length_toList
  have htl : t.data.toList.length = t.size := Array.length_toList
  have hx : (s.data.toList.length : Int) = inI a := by omega
  have hd : t.data.toList = doL a s.data.toList := by rw [ht, doT, if_pos h1]
  have hlen : (doL a s.data.toList).length = outW (wordL a) := by rw [doL_word, doW_len _ _ (by omega)]
  obtain ⟨r, hr, e, f1, f2, f3, f4, f5⟩ := comp_facts h2
  have k1 : fitsE (compL a b) s.size = 0 := by rw [fitsE, if_pos f1, if_pos (by omega)]
  have k2 : fitsE b t.size = 0 := by rw [fitsE, if_pos z2, if_pos (by rw [← htl, hd, hlen]; omega)]
  have e1 : turnR a s = turnL a s.data.toList := by rw [turnR, if_pos h1]
  have e2 : turnR b t = turnL b (doL a s.data.toList) := by rw [turnR, if_pos k2, hd]
  obtain ⟨p1, p2⟩ := turn_parts h2 hx
  rw [f4]
  refine ⟨k1, k2, by rw [e1, e2]; exact p1, ?_⟩
  rw [turnR, if_pos k1, compR, e1, e2, if_pos p1, p2]

set_option maxHeartbeats 4000000 in
theorem TurnParts_any (a : Option Addr) (la : List Pt) (ca : Nat) (b : Option Addr) (lb : List Pt) (cb : Nat) (s : ByteArray) (w : World) (ha : PartsAt w w.heap.size a la) (hb : PartsAt w w.heap.size b lb)
    (hca : la.length ≤ ca) (hcb : lb.length ≤ cb) (hs : s.size ≤ 9223372036854775807) :
    Calls Try.prog 8 #[.slice a la.length ca, .slice b lb.length cb, .string s] w fun e w' => e = .returned (.bool true) ∧ Below w.heap.size w w' := by
  have HA : Hid (PartsAt w w.heap.size a la) := ha
  have HB : Hid (PartsAt w w.heap.size b lb) := hb
  clear ha hb
  go_enter Try.func8, Try.ntmps8
  go_wp2_with fail
  refine (put_any ⟨#[97]⟩ _ (by decide)).mono ?_
  rintro e w1 ⟨rfl, hp1, hb1⟩
  have HE1 : Hid (Below w.heap.size w w1) := hb1
  have HP1 : Hid (PartsAt w1 w1.heap.size (some ⟨w.heap.size, 0, none⟩) [putP ⟨#[97]⟩]) := hp1
  clear hp1 hb1
  go_wp2_with fail
  refine (TurnLitQ _ _ HP1.out).mono ?_
  rintro e w2 ⟨a2, c2, rfl, hp2, hb2⟩
  have HE2 : Hid (Below w.heap.size w (w2.alloc (.cells #[.int .i64 3, .int .i64 1, .string ⟨#[]⟩] 31))) := (HE1.out.trans (hb2.mono HE1.out.size)).alloc (Nat.le_trans HE1.out.size hb2.size) _
  have HP2 : Hid (PartsAt (w2.alloc (.cells #[.int .i64 3, .int .i64 1, .string ⟨#[]⟩] 31)) (w2.alloc (.cells #[.int .i64 3, .int .i64 1, .string ⟨#[]⟩] 31)).heap.size a2 [cutP 1]) := hp2.here ((Below.refl _ _).alloc (Nat.le_refl _) _) (Nat.le_refl _)
  have HL2 : Hid (PartsAt (w2.alloc (.cells #[.int .i64 3, .int .i64 1, .string ⟨#[]⟩] 31)) (w2.alloc (.cells #[.int .i64 3, .int .i64 1, .string ⟨#[]⟩] 31)).heap.size (some ⟨w2.heap.size, 0, none⟩) [cutP 1]) := lit_at w2 _ (small_bound (by decide)) _ rfl
  clear hp2 hb2
  go_wp2_with fail
  refine (SameP _ a2 c2 _ 1 _ HP2.out HL2.out).mono ?_
  rintro e w3 ⟨rfl, hb3⟩
  have HE3 : Hid (Below w.heap.size w w3) := HE2.out.trans (hb3.mono HE2.out.size)
  have HA3 : Hid (PartsAt w3 w3.heap.size a la) := HA.out.here HE3.out (Nat.le_refl _)
  clear hb3
  go_wp2_with fail
  refine (Do_any a la ca s _ HA3.out hs).mono ?_
  rintro e w4 ⟨rfl, hb4⟩
  have HE4 : Hid (Below w.heap.size w w4) := HE3.out.trans (hb4.mono HE3.out.size)
  have HA4 : Hid (PartsAt w4 w4.heap.size a la) := HA.out.here HE4.out (Nat.le_refl _)
  have HB4 : Hid (PartsAt w4 w4.heap.size b lb) := HB.out.here HE4.out (Nat.le_refl _)
  obtain ⟨t, HT⟩ : ∃ t, Hid ((⟨(doT la s).toArray⟩ : ByteArray) = t) := ⟨_, rfl⟩
  rw [HT.out]
  have HTD : Hid (t.data.toList = doT la s) := by show _ = _; rw [← HT.out]
  have ht5 : t.size ≤ 500 := by have h := doT_len la s; rw [← HTD.out] at h; exact h
  clear hb4
  go_wp2_with fail
  refine (CompOf_any a b la lb ca cb _ HA4.out HB4.out hca).mono ?_
  rintro e w5 ⟨a5, c5, rfl, hp5, hc5, hb5⟩
  have HE5 : Hid (Below w.heap.size w w5) := HE4.out.trans (hb5.mono HE4.out.size)
  have HP5 : Hid (PartsAt w5 w5.heap.size a5 (compR la lb)) := hp5
  clear hp5 hc5 hb5
  by_cases h1 : fitsE la s.size = 0
  · by_cases h2 : compE la lb = 0
    · obtain ⟨k1, k2, k3, k4⟩ := parts_asked h1 HTD.out h2
      have r1 : (fitsE la s.size != 0) = false := by simp [h1]
      have r2 : (compE la lb != 0) = false := by simp [h2]
      have r3 : (fitsE (compR la lb) s.size != 0) = false := by simp [k1]
      have r4 : (fitsE lb t.size != 0) = false := by simp [k2]
      have r5 : (compE (turnR lb t) (turnR la s) == 0) = true := by simp [k3]
      have HK : Hid (turnR (compR la lb) s = compR (turnR lb t) (turnR la s)) := k4
      clear h1 h2 k1 k2 k3 k4
      go_wp2_with fail
      refine (TurnOf_any a5 (compR la lb) c5 s _ HP5.out hs).mono ?_
      rintro e w6 ⟨a6, c6, rfl, hp6, hc6, hb6⟩
      have HE6 : Hid (Below w.heap.size w w6) := HE5.out.trans (hb6.mono HE5.out.size)
      have HP6 : Hid (PartsAt w6 w6.heap.size a6 (turnR (compR la lb) s)) := hp6
      have HA6 : Hid (PartsAt w6 w6.heap.size a la) := HA.out.here HE6.out (Nat.le_refl _)
      clear hp6 hc6 hb6
      go_wp2_with fail
      refine (TurnOf_any a la ca s _ HA6.out hs).mono ?_
      rintro e w7 ⟨a7, c7, rfl, hp7, hc7, hb7⟩
      have HE7 : Hid (Below w.heap.size w w7) := HE6.out.trans (hb7.mono HE6.out.size)
      have HP7 : Hid (PartsAt w7 w7.heap.size a7 (turnR la s)) := hp7
      have HQ7 : Hid (PartsAt w7 w7.heap.size a6 (turnR (compR la lb) s)) := HP6.out.here hb7 (Nat.le_refl _)
      have HB7 : Hid (PartsAt w7 w7.heap.size b lb) := HB.out.here HE7.out (Nat.le_refl _)
      clear hp7 hc7 hb7
      go_wp2_with fail
      refine (TurnOf_any b lb cb t _ HB7.out (by omega)).mono ?_
      rintro e w8 ⟨a8, c8, rfl, hp8, hc8, hb8⟩
      have HE8 : Hid (Below w.heap.size w w8) := HE7.out.trans (hb8.mono HE7.out.size)
      have HP8 : Hid (PartsAt w8 w8.heap.size a8 (turnR lb t)) := hp8
      have HR8 : Hid (Room a8 (turnR lb t) c8) := hc8
      have HQ8 : Hid (PartsAt w8 w8.heap.size a6 (turnR (compR la lb) s)) := HQ7.out.here hb8 (Nat.le_refl _)
      have HS8 : Hid (PartsAt w8 w8.heap.size a7 (turnR la s)) := HP7.out.here hb8 (Nat.le_refl _)
      clear hp8 hc8 hb8
      go_wp2_with fail
      refine (CompOf_any a8 a7 (turnR lb t) (turnR la s) c8 c7 _ HP8.out HS8.out HR8.out.1).mono ?_
      rintro e w9 ⟨a9, c9, rfl, hp9, hc9, hb9⟩
      have HE9 : Hid (Below w.heap.size w w9) := HE8.out.trans (hb9.mono HE8.out.size)
      have HP9 : Hid (PartsAt w9 w9.heap.size a9 (compR (turnR lb t) (turnR la s))) := hp9
      have HQ9 : Hid (PartsAt w9 w9.heap.size a6 (turnR (compR la lb) s)) := HQ8.out.here hb9 (Nat.le_refl _)
      clear hp9 hc9 hb9
      go_wp2_with fail
      refine (Same_any a6 a9 (turnR (compR la lb) s) (compR (turnR lb t) (turnR la s)) c6 c9 _ HQ9.out HP9.out).mono ?_
      rintro e w10 ⟨r, rfl, hr, hb10⟩
      obtain rfl : r = true := hr.2 HK.out
      have HE10 : Hid (Below w.heap.size w w10) := HE9.out.trans (hb10.mono HE9.out.size)
      clear hr hb10
      go_wp2_with fail
      go_ret
      exact ⟨rfl, HE10.out⟩
    · have r1 : (fitsE la s.size != 0) = false := by simp [h1]
      have r2 : (compE la lb != 0) = true := by simp [h2]
      clear h1 h2
      go_wp2_with fail
      go_ret
      exact ⟨rfl, HE5.out⟩
  · have r1 : (fitsE la s.size != 0) = true := by simp [h1]
    clear h1
    go_wp2_with fail
    go_ret
    exact ⟨rfl, HE5.out⟩

end Go.Proofs.Ytdkmgcfdhlbpiaa
