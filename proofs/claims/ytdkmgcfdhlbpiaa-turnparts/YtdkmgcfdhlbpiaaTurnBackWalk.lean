/- The law TurnBack, walked: it answers true. -/
import Derived.Test.YtdkmgcfdhlbpiaaCompDoesWalk
namespace Go.Proofs.Ytdkmgcfdhlbpiaa
open Go.RowKit
set_option linter.unusedSimpArgs false
set_option linter.unusedVariables false

theorem str_own (s : ByteArray) : (⟨s.data.toList.toArray⟩ : ByteArray) = s := by cases s; simp
theorem turn_fits {d : List Pt} {s t : ByteArray} (h : fitsE d s.size = 0) (ht : t.data.toList = doT d s) :
    fitsE (turnR d s) t.size = 0 ∧ (⟨(doT (turnR d s) t).toArray⟩ : ByteArray) = s ∧ turnR (turnR d s) t = d := by
  obtain ⟨z, i⟩ := fits_zero h
  have hsl : s.data.toList.length = s.size := Array.length_toList
  have htl : t.data.toList.length = t.size := Array.length_toList
  have hx : (s.data.toList.length : Int) = inI d := by omega
  have e : turnR d s = turnL d s.data.toList := by rw [turnR, if_pos h]
  have hd : doT d s = doL d s.data.toList := by rw [doT, if_pos h]
  obtain ⟨b1, b2, b3⟩ := turn_back z hx
  obtain ⟨f1, f2, f3, f4⟩ := turn_facts z hx
  have htd : t.data.toList = doL d s.data.toList := by rw [ht, hd]
  have hts : (t.size : Int) = outI d := by rw [← htl, htd]; exact b3
  have hf : fitsE (turnR d s) t.size = 0 := by rw [e, fitsE, if_pos f1, if_pos (by omega)]
  refine ⟨hf, ?_, ?_⟩
  · rw [doT, if_pos hf, e, htd, b1, str_own]
  · rw [turnR, if_pos hf, e, htd, b2]

theorem TurnLitT (x : Addr) (w : World) (hx : PartsAt w w.heap.size (some x) [cutP 2]) :
    Calls Try.prog 12 #[.slice (some x) 1 1, .string ⟨#[97, 98]⟩] w fun e w' => ∃ a' c', e = .returned (.tuple #[.slice a' 1 c', .int .i64 0]) ∧ PartsAt w' w'.heap.size a' [putP ⟨#[97, 98]⟩] ∧ Below w.heap.size w w' :=
  (show Calls Try.prog 12 #[.slice (some x) 1 1, .string ⟨#[97, 98]⟩] w _ from turn_lit (s := ⟨#[97, 98]⟩) litT.1 litT.2 (some x) 1 w hx (by decide)).mono (fun e w' ⟨a', c', h1, h2, h3, h4⟩ => ⟨a', c', h1, h2, h4⟩)

set_option maxHeartbeats 4000000 in
theorem TurnBack_any (a : Option Addr) (l : List Pt) (ca : Nat) (s : ByteArray) (w : World) (ha : PartsAt w w.heap.size a l) (hs : s.size ≤ 9223372036854775807) :
    Calls Try.prog 7 #[.slice a l.length ca, .string s] w fun e w' => e = .returned (.bool true) ∧ Below w.heap.size w w' := by
  have HA : Hid (PartsAt w w.heap.size a l) := ha
  have HL0 : Hid (PartsAt (w.alloc (.cells #[.int .i64 3, .int .i64 2, .string ⟨#[]⟩] 31)) (w.alloc (.cells #[.int .i64 3, .int .i64 2, .string ⟨#[]⟩] 31)).heap.size (some ⟨w.heap.size, 0, none⟩) [cutP 2]) := lit_at w _ (small_bound (by decide)) _ rfl
  have HE0 : Hid (Below w.heap.size w (w.alloc (.cells #[.int .i64 3, .int .i64 2, .string ⟨#[]⟩] 31))) := (Below.refl _ _).alloc (Nat.le_refl _) _
  clear ha
  go_enter Try.func7, Try.ntmps7
  go_wp2_with fail
  refine (TurnLitT _ _ HL0.out).mono ?_
  rintro e w1 ⟨a1, c1, rfl, hp1, hb1⟩
  have HE1 : Hid (Below w.heap.size w w1) := HE0.out.trans (hb1.mono HE0.out.size)
  have HP1 : Hid (PartsAt w1 w1.heap.size a1 [putP ⟨#[97, 98]⟩]) := hp1
  clear hp1 hb1
  go_wp2_with fail
  refine (put_any ⟨#[97, 98]⟩ _ (by decide)).mono ?_
  rintro e w2 ⟨rfl, hp2, hb2⟩
  have HE2 : Hid (Below w.heap.size w w2) := HE1.out.trans (hb2.mono HE1.out.size)
  have HP2 : Hid (PartsAt w2 w2.heap.size (some ⟨w1.heap.size, 0, none⟩) [putP ⟨#[97, 98]⟩]) := hp2
  have HQ2 : Hid (PartsAt w2 w2.heap.size a1 [putP ⟨#[97, 98]⟩]) := HP1.out.here hb2 (Nat.le_refl _)
  clear hp2 hb2
  go_wp2_with fail
  refine (SameP _ a1 c1 _ 1 _ HQ2.out HP2.out).mono ?_
  rintro e w3 ⟨rfl, hb3⟩
  have HE3 : Hid (Below w.heap.size w w3) := HE2.out.trans (hb3.mono HE2.out.size)
  have HA3 : Hid (PartsAt w3 w3.heap.size a l) := HA.out.here HE3.out (Nat.le_refl _)
  clear hb3
  go_wp2_with fail
  refine (TurnOf_any a l ca s _ HA3.out hs).mono ?_
  rintro e w4 ⟨a4, c4, rfl, hp4, hc4, hb4⟩
  have HE4 : Hid (Below w.heap.size w w4) := HE3.out.trans (hb4.mono HE3.out.size)
  have HP4 : Hid (PartsAt w4 w4.heap.size a4 (turnR l s)) := hp4
  have HA4 : Hid (PartsAt w4 w4.heap.size a l) := HA.out.here HE4.out (Nat.le_refl _)
  clear hp4 hc4 hb4
  go_wp2_with fail
  refine (Do_any a l ca s _ HA4.out hs).mono ?_
  rintro e w5 ⟨rfl, hb5⟩
  have HE5 : Hid (Below w.heap.size w w5) := HE4.out.trans (hb5.mono HE4.out.size)
  have HP5 : Hid (PartsAt w5 w5.heap.size a4 (turnR l s)) := HP4.out.here hb5 (Nat.le_refl _)
  obtain ⟨t, HT⟩ : ∃ t, Hid ((⟨(doT l s).toArray⟩ : ByteArray) = t) := ⟨_, rfl⟩
  rw [HT.out]
  have HTD : Hid (t.data.toList = doT l s) := by show _ = _; rw [← HT.out]
  have ht5 : t.size ≤ 500 := by have h := doT_len l s; rw [← HTD.out] at h; exact h
  clear hb5
  by_cases h1 : fitsE l s.size = 0
  · obtain ⟨k1, k2, k3⟩ := turn_fits h1 HTD.out
    have r1 : (fitsE l s.size != 0) = false := by simp [h1]
    have r2 : (fitsE (turnR l s) t.size == 0) = true := by simp [k1]
    have HK2 : Hid ((⟨(doT (turnR l s) t).toArray⟩ : ByteArray) = s) := k2
    have HK3 : Hid (turnR (turnR l s) t = l) := k3
    clear h1 k1 k2 k3
    go_wp2_with fail
    refine (Do_any a4 (turnR l s) c4 t _ HP5.out (by omega)).mono ?_
    rintro e w6 ⟨rfl, hb6⟩
    have HE6 : Hid (Below w.heap.size w w6) := HE5.out.trans (hb6.mono HE5.out.size)
    have HP6 : Hid (PartsAt w6 w6.heap.size a4 (turnR l s)) := HP5.out.here hb6 (Nat.le_refl _)
    rw [HK2.out]
    clear hb6
    go_wp2_with fail
    refine (TurnOf_any a4 (turnR l s) c4 t _ HP6.out (by omega)).mono ?_
    rintro e w7 ⟨a7, c7, rfl, hp7, hc7, hb7⟩
    have HE7 : Hid (Below w.heap.size w w7) := HE6.out.trans (hb7.mono HE6.out.size)
    have HP7 : Hid (PartsAt w7 w7.heap.size a7 (turnR (turnR l s) t)) := hp7
    have HA7 : Hid (PartsAt w7 w7.heap.size a l) := HA.out.here HE7.out (Nat.le_refl _)
    clear hp7 hc7 hb7
    go_wp2_with fail
    refine (Same_any a7 a (turnR (turnR l s) t) l c7 ca _ HP7.out HA7.out).mono ?_
    rintro e w8 ⟨r, rfl, hr, hb8⟩
    obtain rfl : r = true := hr.2 HK3.out
    have HE8 : Hid (Below w.heap.size w w8) := HE7.out.trans (hb8.mono HE7.out.size)
    clear hr hb8
    go_wp2_with fail
    go_ret
    exact ⟨rfl, HE8.out⟩
  · have r1 : (fitsE l s.size != 0) = true := by simp [h1]
    have hself : (fitsE l s.size == fitsE l s.size) = true := by simp
    have hR : turnR l s = [] := by rw [turnR, if_neg h1]
    rw [hR]
    clear h1 hR
    go_wp2_with fail
    go_ret
    exact ⟨rfl, HE5.out⟩

end Go.Proofs.Ytdkmgcfdhlbpiaa
