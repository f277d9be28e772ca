/- What revs.Text answers. -/
import Derived.Test.YtkihanmodfnpcabRevOne
import Derived.Test.YtkihanmodfnpcabDo
import Derived.Test.YtkihanmodfnpcabCodeRead
namespace Go.Proofs.Ytkihanmodfnpcab
open Go.RowKit
set_option linter.unusedSimpArgs false
set_option linter.unusedVariables false

theorem doT_text {d : List Pt} {t : List UInt8} (h : fitsE d (t.length : Nat) = 0) : doT d ⟨t.toArray⟩ = doL d t := by
  have h1 : fitsE d ((⟨t.toArray⟩ : ByteArray).size : Nat) = 0 := h
  rw [doT, if_pos h1]
theorem fits_of {d : List Pt} {n : Int} (h1 : sizesE d = 0) (h2 : inI d = n) : fitsE d n = 0 := by rw [fitsE, if_pos h1, if_pos h2]

set_option maxRecDepth 20000 in
set_option maxHeartbeats 2000000 in
/-- of a history that is right -/
theorem Text_ok (s : ByteArray) (a : Option Addr) (l : List Rv) (cap k : Nat) (w : World) (hl : RevsAt w w.heap.size a l) (hc : l.length ≤ cap) (h0 : checkE s.data.toList l = 0) (hk : k ≤ l.length) :
    Calls Try.prog 23 #[.string s, .slice a l.length cap, .int .i64 (k : Int)] w fun e w' => e = .returned (.tuple #[.string ⟨(textAt s.data.toList l k).toArray⟩, .int .i64 0]) ∧ Below w.heap.size w w' := by
  have hsl : s.data.toList.length = s.size := Array.length_toList
  have hll := hl.1
  obtain ⟨z1, z2, z3⟩ := check_zero h0
  obtain ⟨l2, hl2, hlen, hr2, hrun⟩ := run_to hl hc hk
  have HC : Hid _ := fun w => RevCheck_any s a l cap w
  rw [h0] at HC
  have HCl : Hid _ := fun w => Clone_any s w (by omega)
  have HL : Hid (RevsAt w w.heap.size a l) := hl
  have HR : Hid (RevsAt w w.heap.size a l2) := hr2
  have H2 : Hid (l2 = l.take k) := hl2
  have HH : Hid (histE s.data.toList l = 0 ∧ s.data.toList.length ≤ 500) := ⟨z3, z1⟩
  have hs6 : s.size ≤ 500 := by omega
  have k0 : ¬ (k : Int) < 0 := by omega
  have k1 : ¬ (l.length : Int) < (k : Int) := by omega
  have e0 : (l2.length : Int) = (k : Int) := by rw [hlen]
  clear hl hr2 hl2 h0 z1 z3 hsl
  go_enter Try.func23, Try.ntmps23
  go_wp2_with fail
  refine (HC.out _ HL.out (by omega)).mono ?_
  rintro e w1 ⟨rfl, hb1⟩
  have HB1 : Hid (Below w.heap.size w w1) := hb1
  clear hb1
  go_wp2_with fail
  refine (HCl.out _).mono ?_
  rintro e w2 ⟨rfl, hb2⟩
  have HB2 : Hid (Below w.heap.size w w2) := HB1.out.trans (hb2.mono HB1.out.size)
  have HR2 : Hid (RevsAt w2 w.heap.size a l2) := HR.out.below HB2.out (Nat.le_refl _)
  clear hb2
  go_wp2_with fail
  go_loopw [9, 32] (fun v i wr => ∃ (j : Nat) (t : ByteArray), j ≤ l2.length ∧ i = .int .i64 j ∧ v = .string t ∧ t.data.toList = textAt s.data.toList l j ∧ t.size ≤ 500 ∧ Below w.heap.size w wr) (fun _ i _ => l2.length - (intOf i).toNat)
  case atStart => exact ⟨0, s, Nat.zero_le _, rfl, rfl, (text_zero _ _).symm, hs6, HB2.out⟩
  case round =>
    obtain ⟨j, t, hj, rfl, rfl, ht, ht5, hb⟩ := hrel
    have htl : t.data.toList.length = t.size := Array.length_toList
    by_cases hlt : j < l2.length
    · obtain ⟨r, hrj⟩ : ∃ r, l2[j]? = some r := ⟨l2[j], List.getElem?_eq_getElem hlt⟩
      have hrj' : l[j]? = some r := by
        rw [H2.out, List.getElem?_take] at hrj
        split at hrj
        · exact hrj
        · cases hrj
      have hji : (j : Int) < (l2.length : Int) := by omega
      obtain ⟨b, off, ai, ci, rfl, hblt, c1, c2, c3, hpd, hrm⟩ := (HR.out.below hb (Nat.le_refl _)).mem hrj
      have hz := hb.size
      have hbw : b < wr.heap.size := by omega
      obtain ⟨q1, q2, q3, q4⟩ := hist_at HH.out.1 hrj'
      have hfit : fitsE r.d (t.size : Nat) = 0 := fits_of q2 (by rw [q3, ← ht, htl])
      have HD : Hid (PartsAt (wr.alloc (.cells #[.int .i64 r.who, .int .i64 r.seq, .slice ai r.d.length ci] 25)) (wr.alloc (.cells #[.int .i64 r.who, .int .i64 r.seq, .slice ai r.d.length ci] 25)).heap.size ai r.d) := hpd.here ((Below.refl _ wr).alloc (Nat.le_refl _) _) hz
      have HB : Hid (Below w.heap.size w (wr.alloc (.cells #[.int .i64 r.who, .int .i64 r.seq, .slice ai r.d.length ci] 25))) := hb.alloc hz _
      have hdo : doT r.d t = textAt s.data.toList l (j + 1) := by rw [doT, if_pos hfit, ht, text_next hrj']
      have HT5 : Hid ((textAt s.data.toList l (j + 1)).length ≤ 500) := text_le HH.out.1 HH.out.2 _
      have HDo : Hid _ := fun w => Do_any ai r.d ci t w
      rw [hdo, hfit] at HDo
      clear hb hpd hrm hrj hrj' ht htl q1 q2 q3 q4 hfit hdo
      go_wp2_with fail
      refine (HDo.out _ HD.out (by omega)).mono ?_
      rintro e w3 ⟨rfl, hb3⟩
      have HB3 : Hid (Below w.heap.size w w3) := HB.out.trans (hb3.mono (by simp; omega))
      clear hb3
      go_wp2_with fail
      go_roundw
      case rel => exact ⟨j + 1, _, by omega, by go_num, rfl, rfl, HT5.out, HB3.out⟩
      case measure => simp [intOf]; omega
    · have hji : ¬ (j : Int) < (l2.length : Int) := by omega
      have HT : Hid (t = ⟨(textAt s.data.toList l k).toArray⟩) := by
        show _ = _
        have : j = k := by omega
        rw [← this, ← ht, str_eq]
      have HB : Hid (Below w.heap.size w wr) := hb
      clear ht htl hb
      go_wp2_with fail
      go_ret2
      exact ⟨by rw [HT.out]; rfl, HB.out⟩

set_option maxRecDepth 20000 in
set_option maxHeartbeats 2000000 in
theorem Text_any (s : ByteArray) (a : Option Addr) (l : List Rv) (cap : Nat) (k : Int) (w : World) (hl : RevsAt w w.heap.size a l) (hc : l.length ≤ cap) (hs : s.size ≤ 9223372036854775807) :
    Calls Try.prog 23 #[.string s, .slice a l.length cap, .int .i64 k] w fun e w' => e = .returned (.tuple #[.string ⟨(textR s.data.toList l k).toArray⟩, .int .i64 (textE s.data.toList l k)]) ∧ Below w.heap.size w w' := by
  have hll := hl.1
  have HL : Hid (RevsAt w w.heap.size a l) := hl
  by_cases h0 : checkE s.data.toList l = 0
  · by_cases hk : k < 0 ∨ (l.length : Int) < k
    · obtain ⟨t1, t2⟩ := textE_arg h0 hk
      rw [t1, t2]
      have HC : Hid _ := fun w => RevCheck_any s a l cap w
      rw [h0] at HC
      clear t1 t2 h0 hl
      by_cases k0 : k < 0
      · go_enter Try.func23, Try.ntmps23
        go_wp2_with fail
        refine (HC.out _ HL.out hs).mono ?_
        rintro e w1 ⟨rfl, hb1⟩
        go_wp2_with fail
        go_ret2
        exact ⟨rfl, hb1⟩
      · have k1 : (l.length : Int) < k := by omega
        clear hk
        go_enter Try.func23, Try.ntmps23
        go_wp2_with fail
        refine (HC.out _ HL.out hs).mono ?_
        rintro e w1 ⟨rfl, hb1⟩
        go_wp2_with fail
        go_ret2
        exact ⟨rfl, hb1⟩
    · obtain ⟨n, rfl⟩ : ∃ n : Nat, k = n := ⟨k.toNat, by omega⟩
      obtain ⟨t1, t2⟩ := textE_ok (k := n) h0 (by omega)
      rw [t1, t2]
      exact Text_ok s a l cap n w hl hc h0 (by omega)
  · obtain ⟨t1, t2⟩ := textE_bad (k := k) h0
    rw [t1, t2]
    have HC : Hid _ := fun w => RevCheck_any s a l cap w
    have hq : (checkE s.data.toList l != 0) = true := by simp [h0]
    clear t1 t2 h0 hl
    go_enter Try.func23, Try.ntmps23
    go_wp2_with fail
    refine (HC.out _ HL.out hs).mono ?_
    rintro e w1 ⟨rfl, hb1⟩
    go_wp2_with fail
    go_ret2
    exact ⟨rfl, hb1⟩
end Go.Proofs.Ytkihanmodfnpcab
