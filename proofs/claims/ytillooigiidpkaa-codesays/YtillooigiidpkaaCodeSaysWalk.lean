/- The law CodeSays, walked: it answers true. -/
import Derived.Test.YtillooigiidpkaaRDecode
import Derived.Test.YtillooigiidpkaaCodeRead
import Derived.Test.YtillooigiidpkaaSame
namespace Go.Proofs.Ytillooigiidpkaa
open Go.RowKit
set_option linter.unusedSimpArgs false
set_option linter.unusedVariables false

/-- both answer the same of a text -/
theorem parts_none (w : World) : PartsAt w w.heap.size none [] := ⟨by simp, Nat.le_refl _, by simp, by simp⟩
/-- what Read answers, and Decode -/
def ReadIs (l : List UInt8) (w : World) (e : Ending) (w' : World) : Prop :=
  ((∃ d a cap, IsCode l d ∧ e = .returned (.tuple #[.slice a d.length cap, .int .i64 0]) ∧ PartsAt w' w'.heap.size a d) ∨ ((∀ d, ¬ IsCode l d) ∧ e = .returned (.tuple #[.slice none 0 0, .int .i64 3]))) ∧ Below w.heap.size w w'
theorem Read_any (s : ByteArray) (w : World) (hs : s.size ≤ 9223372036854775807) : Calls Try.prog 16 #[.string s] w fun e w' => ReadIs s.data.toList w e w' := by
  by_cases h : ∃ d, IsCode s.data.toList d
  · obtain ⟨d, hd⟩ := h
    exact (Read_ok s d w hs hd).mono (fun e w' ⟨a, cap, h1, h2, _, h3⟩ => ⟨Or.inl ⟨d, a, cap, hd, h1, h2⟩, h3⟩)
  · have hn : ∀ d, ¬ IsCode s.data.toList d := fun d hd => h ⟨d, hd⟩
    exact (Read_no s w hs hn).mono (fun e w' ⟨h1, h2⟩ => ⟨Or.inr ⟨hn, h1⟩, h2⟩)

set_option maxRecDepth 20000 in
set_option maxHeartbeats 8000000 in
theorem CodeSays_any (a : Option Addr) (l : List Pt) (cap : Nat) (s : ByteArray) (w : World) (hp : PartsAt w w.heap.size a l) (hs : s.size ≤ 9223372036854775807) :
    Calls Try.prog 4 #[.slice a l.length cap, .string s] w fun e w' => e = .returned (.bool true) ∧ Below w.heap.size w w' := by
  have HP : Hid (PartsAt w w.heap.size a l) := hp
  have HR : Hid _ := fun w => Read_any s w hs
  have HD : Hid _ := fun w => RDecode_any s w hs
  obtain ⟨ls, hls⟩ : ∃ ls, s.data.toList = ls := ⟨_, rfl⟩
  rw [hls] at HR HD
  clear hp hls
  go_enter Try.func4, Try.ntmps4
  go_wp2_with fail
  refine (Write_any a l cap _ HP.out).mono ?_
  rintro e w1 ⟨rfl, hb1⟩
  have HB1 : Hid (Below w.heap.size w w1) := hb1
  have HP1 : Hid (PartsAt w1 w1.heap.size a l) := HP.out.here hb1 (Nat.le_refl _)
  clear hb1
  go_wp2_with fail
  refine (Delta_any a l cap _ HP1.out).mono ?_
  rintro e w2 ⟨rfl, hb2⟩
  have HB2 : Hid (Below w.heap.size w w2) := HB1.out.trans (hb2.mono HB1.out.size)
  have HP2 : Hid (PartsAt w2 w2.heap.size a l) := HP1.out.here hb2 (Nat.le_refl _)
  clear hb2
  by_cases h0 : sizesE l = 0
  · have HT : Hid (writeT l = codeL l) := by show _ = _; rw [writeT, if_pos h0]
    have HC : Hid _ := fun w hp => RCode_any a l cap w hp h0
    rw [HT.out, h0]
    obtain ⟨t, ht⟩ : ∃ t, codeL l = t := ⟨_, rfl⟩
    rw [ht] at HC
    rw [ht]
    clear ht h0 HT
    go_wp2_with fail
    refine (HC.out _ HP2.out).mono ?_
    rintro e w3 ⟨rfl, hb3⟩
    have HB3 : Hid (Below w.heap.size w w3) := HB2.out.trans (hb3.mono HB2.out.size)
    clear hb3
    go_wp2_with fail
    refine (HR.out _).mono ?_
    rintro e w4 ⟨h4, hb4⟩
    have HB4 : Hid (Below w.heap.size w w4) := HB3.out.trans (hb4.mono HB3.out.size)
    clear hb4
    rcases h4 with ⟨d, a4, c4, hd, rfl, hp4⟩ | ⟨hno, rfl⟩
    · have HD4 : Hid (IsCode ls d) := hd
      have HP4 : Hid (PartsAt w4 w4.heap.size a4 d) := hp4
      clear hd hp4
      go_wp2_with fail
      refine (HD.out _).mono ?_
      rintro e w5 ⟨h5, hb5⟩
      rcases h5 with ⟨d5, a5, c5, hd5, rfl, hp5⟩ | ⟨hno, rfl⟩
      · obtain rfl := code_uniq HD4.out hd5
        have HB5 : Hid (Below w.heap.size w w5) := HB4.out.trans (hb5.mono HB4.out.size)
        have HP45 : Hid (PartsAt w5 w5.heap.size a4 d) := HP4.out.here hb5 (Nat.le_refl _)
        have HP5 : Hid (PartsAt w5 w5.heap.size a5 d) := hp5
        clear hd5 hp5 hb5
        go_wp2_with fail
        refine (Same_yes a4 a5 d c4 c5 _ HP45.out HP5.out).mono ?_
        rintro e w6 ⟨rfl, hb6⟩
        have HB6 : Hid (Below w.heap.size w w6) := HB5.out.trans (hb6.mono HB5.out.size)
        clear hb6
        go_wp2_with fail
        go_ret
        exact ⟨rfl, HB6.out⟩
      · exact absurd HD4.out (hno d)
    · have HNO : Hid _ := hno
      clear hno
      go_wp2_with fail
      refine (HD.out _).mono ?_
      rintro e w5 ⟨h5, hb5⟩
      rcases h5 with ⟨d5, a5, c5, hd5, rfl, hp5⟩ | ⟨hno, rfl⟩
      · exact absurd hd5 (HNO.out d5)
      · have HB5 : Hid (Below w.heap.size w w5) := HB4.out.trans (hb5.mono HB4.out.size)
        clear hno hb5
        go_wp2_with fail
        refine (Same_yes none none [] 0 0 _ (parts_none _) (parts_none _)).mono ?_
        rintro e w6 ⟨rfl, hb6⟩
        have HB6 : Hid (Below w.heap.size w w6) := HB5.out.trans (hb6.mono HB5.out.size)
        clear hb6
        go_wp2_with fail
        go_ret
        exact ⟨rfl, HB6.out⟩
  · have HT : Hid (writeT l = []) := by show _ = _; rw [writeT, if_neg h0]
    rw [HT.out]
    obtain ⟨q, hq⟩ : ∃ q, sizesE l = q := ⟨_, rfl⟩
    rw [hq] at h0
    rw [hq]
    have h0' : (q != 0) = true := by simpa using h0
    clear h0 hq HT
    go_wp2_with fail
    refine (HR.out _).mono ?_
    rintro e w4 ⟨h4, hb4⟩
    have HB4 : Hid (Below w.heap.size w w4) := HB2.out.trans (hb4.mono HB2.out.size)
    clear hb4
    rcases h4 with ⟨d, a4, c4, hd, rfl, hp4⟩ | ⟨hno, rfl⟩
    · have HD4 : Hid (IsCode ls d) := hd
      have HP4 : Hid (PartsAt w4 w4.heap.size a4 d) := hp4
      clear hd hp4
      go_wp2_with fail
      refine (HD.out _).mono ?_
      rintro e w5 ⟨h5, hb5⟩
      rcases h5 with ⟨d5, a5, c5, hd5, rfl, hp5⟩ | ⟨hno, rfl⟩
      · obtain rfl := code_uniq HD4.out hd5
        have HB5 : Hid (Below w.heap.size w w5) := HB4.out.trans (hb5.mono HB4.out.size)
        have HP45 : Hid (PartsAt w5 w5.heap.size a4 d) := HP4.out.here hb5 (Nat.le_refl _)
        have HP5 : Hid (PartsAt w5 w5.heap.size a5 d) := hp5
        clear hd5 hp5 hb5
        go_wp2_with fail
        refine (Same_yes a4 a5 d c4 c5 _ HP45.out HP5.out).mono ?_
        rintro e w6 ⟨rfl, hb6⟩
        have HB6 : Hid (Below w.heap.size w w6) := HB5.out.trans (hb6.mono HB5.out.size)
        clear hb6
        go_wp2_with fail
        go_ret
        exact ⟨rfl, HB6.out⟩
      · exact absurd HD4.out (hno d)
    · have HNO : Hid _ := hno
      clear hno
      go_wp2_with fail
      refine (HD.out _).mono ?_
      rintro e w5 ⟨h5, hb5⟩
      rcases h5 with ⟨d5, a5, c5, hd5, rfl, hp5⟩ | ⟨hno, rfl⟩
      · exact absurd hd5 (HNO.out d5)
      · have HB5 : Hid (Below w.heap.size w w5) := HB4.out.trans (hb5.mono HB4.out.size)
        clear hno hb5
        go_wp2_with fail
        refine (Same_yes none none [] 0 0 _ (parts_none _) (parts_none _)).mono ?_
        rintro e w6 ⟨rfl, hb6⟩
        have HB6 : Hid (Below w.heap.size w w6) := HB5.out.trans (hb6.mono HB5.out.size)
        clear hb6
        go_wp2_with fail
        go_ret
        exact ⟨rfl, HB6.out⟩
end Go.Proofs.Ytillooigiidpkaa
