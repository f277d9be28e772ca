/- What apply.Do answers. -/
import Derived.Test.YtgffippimmokiaaDelta
import Derived.Test.YtgffippimmokiaaCodeWrite
import Derived.Deep.Heap
import Derived.Lib.Strings
import Derived.Test.YtgffippimmokiaaRevOne
import Derived.Test.YtgffippimmokiaaCodeRead
namespace Go.Proofs.Ytgffippimmokiaa
open Go.RowKit
set_option linter.unusedSimpArgs false
set_option linter.unusedVariables false

theorem inI_drop {l : List Pt} {i : Nat} {p : Pt} (h : l[i]? = some p) : inI (l.drop i) = p.n + inI (l.drop (i + 1)) := by
  rw [drop_cons h]; rfl

theorem extract_to_end (s : ByteArray) (a : Nat) : (s.extract a s.size).data.toList = s.data.toList.drop a := by
  rw [Lib.extract_data]
  have h : s.data.toList.length = s.size := Array.length_toList
  exact List.take_of_length_le (by rw [List.length_drop, h]; omega)

theorem box_kept {b : Nat} {w w' : World} {k n : Int} {t : ByteArray} (h : Lib.OthersKept 5 (some b) (w.alloc (.cells #[.int .i64 k, .int .i64 n, .string t] 138)) w') (hb : b < w.heap.size) :
    w'.cell? ⟨w.heap.size, 0, none⟩ = some (.int .i64 k) ∧ w'.cell? ⟨w.heap.size, 1, none⟩ = some (.int .i64 n) ∧ w'.cell? ⟨w.heap.size, 2, none⟩ = some (.string t) := by
  have h1 := h w.heap.size _ (Deep.blk_alloc_new w _) (by intro e; have e' := Option.some.inj e; omega) (by intro c fz e; simp at e)
  refine ⟨?_, ?_, ?_⟩ <;> (rw [Lib.cell_of_heap h1]; rfl)

/-- the answer: the text, and the error -/
def doT (l : List Pt) (s : ByteArray) : List UInt8 := if fitsE l s.size = 0 then doL l s.data.toList else []

set_option maxRecDepth 20000 in
set_option maxHeartbeats 2000000 in
theorem Do_any (a : Option Addr) (l : List Pt) (cap : Nat) (s : ByteArray) (w : World) (hp : PartsAt w w.heap.size a l) (hs : s.size ≤ 9223372036854775807) :
    Calls Try.prog 34 #[.slice a l.length cap, .string s] w fun e w' => e = .returned (.tuple #[.string ⟨(doT l s).toArray⟩, .int .i64 (fitsE l s.size)]) ∧ Below w.heap.size w w' := by
  have HP : Hid (PartsAt w w.heap.size a l) := hp
  clear hp
  go_enter Try.func34, Try.ntmps34
  go_wp2_with fail
  refine (Fits_any a l cap _ _ HP.out).mono ?_
  rintro e w1 ⟨rfl, hb1⟩
  by_cases h0 : fitsE l s.size = 0
  · have h0' : (fitsE l s.size != 0) = false := by simp [h0]
    obtain ⟨hz0, hin⟩ := fits_zero h0
    have hsm := (sizes_zero hz0).1
    have hrt := sizes_right hz0
    have HT : Hid (doT l s = doL l s.data.toList ∧ fitsE l s.size = 0) := ⟨by simp [doT, h0], h0⟩
    have HB1 : Hid (Below w.heap.size w w1) := hb1
    have HP1 : Hid (PartsAt w1 w1.heap.size a l) := HP.out.here hb1 (Nat.le_refl _)
    have hl := hsm.1
    have HSM : Hid (Small l) := hsm
    have HRT : Hid (Right l) := hrt
    have HIN : Hid (inI l = s.size) := hin
    clear h0 hz0 hin hsm hrt hb1
    go_wp2_with fail
    go_loopw [1, 19] (fun t i wr => ∃ (k : Nat) (s' : ByteArray) (acc : List UInt8), k ≤ l.length ∧ i = .int .i64 k ∧ t = .string s' ∧ Lib.IsBuilderF 136 5 w1.heap.size w1.heap.size (Lib.byteCells acc) wr ∧ Below w1.heap.size w1 wr ∧
      acc ++ doL (l.drop k) s'.data.toList = doL l s.data.toList ∧ (s'.size : Int) = inI (l.drop k) ∧ acc.length ≤ 1000 * k) (fun _ i _ => l.length - (intOf i).toNat)
    case atStart =>
      refine ⟨0, s, [], Nat.zero_le _, rfl, rfl, ?_, (Below.refl _ _).alloc (Nat.le_refl _) _, by simp, by simp [HIN.out], by simp⟩
      exact Lib.IsBuilderF.of (Lib.fresh_isBuilder 136 5 w1)
    case round =>
      obtain ⟨k, s', acc, hk, rfl, rfl, hI, hb, hdo, hsz, hacc⟩ := hrel
      by_cases hlt : k < l.length
      · obtain ⟨p, hpk⟩ : ∃ p, l[k]? = some p := ⟨l[k], List.getElem?_eq_getElem hlt⟩
        have hpm := List.mem_of_getElem? hpk
        have hpb := HSM.out.2 p hpm
        have hpr := HRT.out p hpm
        have hin1 := inI_drop hpk
        have hge : 0 ≤ inI (l.drop (k + 1)) := (inI_bd (fun q hq => HSM.out.2 q (List.mem_of_mem_drop hq))).1
        have hdc := drop_cons hpk
        obtain ⟨b, off, rfl, hblt, c1, c2, c3⟩ := (HP1.out.below hb (Nat.le_refl _)).mem hpk
        have hz := hb.size
        have hbw : b < wr.heap.size := by omega
        have hle : p.n ≤ (s'.size : Int) := by omega
        obtain ⟨hpb1, hpb2, hpb3⟩ := hpb
        have hbl : w1.heap.size < wr.heap.size := hI.elim (fun h => h.lt) (fun h => h.lt)
        have HI : Hid (Lib.IsBuilderF 136 5 w1.heap.size w1.heap.size (Lib.byteCells acc) wr) := hI
        have HB : Hid (Below w1.heap.size w1 wr) := hb
        have HDO : Hid _ := hdo
        have HSZ : Hid _ := hsz
        have HIN1 : Hid _ := hin1
        have HDC : Hid _ := hdc
        rcases hpr with ⟨hk1 | hk2 | hk3, hpr2, hpr3⟩
        · have q1 : (p.k == 1) = true := by simp [hk1]
          have HK : Hid (p.k = 1) := hk1
          clear hk1 hpr2 hpr3 hI hb hdo hsz hin1 hdc hpm hpk
          go_wp2_with fail
          refine (WriteString_any w1.heap.size w1.heap.size (Lib.byteCells acc) _ _ (HI.out.alloc _) ?h1 (by simp; omega)).mono ?_
          case h1 => rw [Lib.byteCells_length, ByteArray.size_extract]; omega
          rintro e w2 ⟨rfl, hA2, hb2, hk2⟩
          obtain ⟨x1, x2, x3⟩ := box_kept hk2 (by omega)
          have HA2 : Hid _ := hA2
          have HB2 : Hid (Below w1.heap.size w1 w2) := (HB.out.alloc hz _).trans hb2
          clear hA2 hb2 hk2
          go_wp2_with fail
          go_roundw
          case rel =>
            refine ⟨k + 1, s'.extract p.n.toNat s'.size, acc ++ s'.data.toList.take p.n.toNat, by omega, by go_num, rfl, Or.inr ?_, HB2.out, ?_, ?_, ?_⟩
            · have h := HA2.out
              rw [Lib.strCells_eq, Lib.extract_data] at h
              simp only [List.drop_zero, Nat.sub_zero] at h
              rw [Lib.byteCells_append]
              exact h
            · rw [← HDO.out, HDC.out, extract_to_end]
              simp [doL, HK.out]
            · have h1 := HSZ.out; have h2 := HIN1.out
              rw [ByteArray.size_extract]; omega
            · simp only [List.length_append, List.length_take]; omega
          case measure => simp [intOf]; omega
        · have q1 : (p.k == 1) = false := by simp [hk2]
          have q2 : (p.k == 2) = true := by simp [hk2]
          have hn0 := hpr2 hk2
          have HK : Hid (p.k = 2) := hk2
          have HN0 : Hid (p.n = 0) := hn0
          clear hk2 hpr2 hpr3 hI hb hdo hsz hin1 hdc hpm hpk hn0
          go_wp2_with fail
          refine (WriteString_any w1.heap.size w1.heap.size (Lib.byteCells acc) _ _ (HI.out.alloc _) ?h2 (by simp; omega)).mono ?_
          case h2 => rw [Lib.byteCells_length]; omega
          rintro e w2 ⟨rfl, hA2, hb2, hk2⟩
          have HA2 : Hid _ := hA2
          have HB2 : Hid (Below w1.heap.size w1 w2) := (HB.out.alloc hz _).trans hb2
          clear hA2 hb2 hk2
          go_wp2_with fail
          go_roundw
          case rel =>
            refine ⟨k + 1, s', acc ++ p.t.data.toList, by omega, by go_num, rfl, Or.inr ?_, HB2.out, ?_, ?_, ?_⟩
            · rw [Lib.byteCells_append]
              exact HA2.out
            · rw [← HDO.out, HDC.out]
              simp [doL, HK.out]
            · have h1 := HSZ.out; have h2 := HIN1.out; have h3 := HN0.out
              omega
            · have h4 : p.t.data.toList.length = p.t.size := Array.length_toList
              simp only [List.length_append, h4]; omega
          case measure => simp [intOf]; omega
        · have q1 : (p.k == 1) = false := by simp [hk3]
          have q2 : (p.k == 2) = false := by simp [hk3]
          have q3 : (p.k == 3) = true := by simp [hk3]
          have HK : Hid (p.k = 3) := hk3
          clear hk3 hpr2 hpr3 hI hb hdo hsz hin1 hdc hpm hpk
          go_wp2_with fail
          go_roundw
          case rel =>
            refine ⟨k + 1, s'.extract p.n.toNat s'.size, acc, by omega, by go_num, rfl, HI.out.alloc _, HB.out.alloc hz _, ?_, ?_, ?_⟩
            · rw [← HDO.out, HDC.out, extract_to_end]
              simp [doL, HK.out]
            · have h1 := HSZ.out; have h2 := HIN1.out
              rw [ByteArray.size_extract]; omega
            · omega
          case measure => simp [intOf]; omega
      · have hnil : l.drop k = [] := List.drop_eq_nil_of_le (by omega)
        rw [hnil] at hdo
        have HDO : Hid (acc = doL l s.data.toList) := by show _ = _; simpa [doL] using hdo
        have hbl : w1.heap.size < wr.heap.size := hI.elim (fun h => h.lt) (fun h => h.lt)
        have HI : Hid (Lib.IsBuilderF 136 5 w1.heap.size w1.heap.size (Lib.byteCells acc) wr) := hI
        have HB : Hid (Below w1.heap.size w1 wr) := hb
        have hz := hb.size
        clear hdo hsz hnil hI hb
        go_wp2_with fail
        refine (String_any w1.heap.size w1.heap.size acc _ HI.out hz).mono ?_
        rintro e w2 ⟨rfl, _, hb2, _⟩
        have HB2 : Hid (Below w.heap.size w w2) := HB1.out.trans ((HB.out.trans hb2).mono HB1.out.size)
        clear hb2
        go_wp2_with fail
        go_ret2
        exact ⟨by rw [HT.out.1, HT.out.2, ← HDO.out]; rfl, HB2.out⟩
  · have h0' : (fitsE l s.size != 0) = true := by simp [h0]
    have HT : Hid (doT l s = []) := by show _ = _; simp [doT, h0]
    clear h0
    go_wp2_with fail
    go_ret2
    exact ⟨by rw [HT.out]; rfl, hb1⟩

end Go.Proofs.Ytgffippimmokiaa

/- What revs.Text answers. -/
namespace Go.Proofs.Ytgffippimmokiaa
open Go.RowKit
set_option linter.unusedSimpArgs false
set_option linter.unusedVariables false

theorem doT_text {d : List Pt} {t : List UInt8} (h : fitsE d (t.length : Nat) = 0) : doT d ⟨t.toArray⟩ = doL d t := by
  have h1 : fitsE d ((⟨t.toArray⟩ : ByteArray).size : Nat) = 0 := h
  rw [doT, if_pos h1]
theorem fits_of {d : List Pt} {n : Int} (h1 : sizesE d = 0) (h2 : inI d = n) : fitsE d n = 0 := by rw [fitsE, if_pos h1, if_pos h2]

set_option maxRecDepth 20000 in
set_option maxHeartbeats 2000000 in
/-- of a history that is right -/
theorem Text_ok (s : ByteArray) (a : Option Addr) (l : List Rv) (cap k : Nat) (w : World) (hl : RevsAt w w.heap.size a l) (hc : l.length ≤ cap) (h0 : checkE s.data.toList l = 0) (hk : k ≤ l.length) :
    Calls Try.prog 33 #[.string s, .slice a l.length cap, .int .i64 (k : Int)] w fun e w' => e = .returned (.tuple #[.string ⟨(textAt s.data.toList l k).toArray⟩, .int .i64 0]) ∧ Below w.heap.size w w' := by
  have hsl : s.data.toList.length = s.size := Array.length_toList
  have hll := hl.1
  obtain ⟨z1, z2, z3⟩ := check_zero h0
  obtain ⟨l2, hl2, hlen, hr2, hrun⟩ := run_to hl hc hk
  have HC : Hid _ := fun w => RevCheck_any s a l cap w
  rw [h0] at HC
  have HCl : Hid _ := fun w => Clone_any s w (by omega)
  have HL : Hid (RevsAt w w.heap.size a l) := hl
  have HR : Hid (RevsAt w w.heap.size a l2) := hr2
  have H2 : Hid (l2 = l.take k) := hl2
  have HH : Hid (histE s.data.toList l = 0 ∧ s.data.toList.length ≤ 500) := ⟨z3, z1⟩
  have hs6 : s.size ≤ 500 := by omega
  have k0 : ¬ (k : Int) < 0 := by omega
  have k1 : ¬ (l.length : Int) < (k : Int) := by omega
  have e0 : (l2.length : Int) = (k : Int) := by rw [hlen]
  clear hl hr2 hl2 h0 z1 z3 hsl
  go_enter Try.func33, Try.ntmps33
  go_wp2_with fail
  refine (HC.out _ HL.out (by omega)).mono ?_
  rintro e w1 ⟨rfl, hb1⟩
  have HB1 : Hid (Below w.heap.size w w1) := hb1
  clear hb1
  go_wp2_with fail
  refine (HCl.out _).mono ?_
  rintro e w2 ⟨rfl, hb2⟩
  have HB2 : Hid (Below w.heap.size w w2) := HB1.out.trans (hb2.mono HB1.out.size)
  have HR2 : Hid (RevsAt w2 w.heap.size a l2) := HR.out.below HB2.out (Nat.le_refl _)
  clear hb2
  go_wp2_with fail
  go_loopw [9, 32] (fun v i wr => ∃ (j : Nat) (t : ByteArray), j ≤ l2.length ∧ i = .int .i64 j ∧ v = .string t ∧ t.data.toList = textAt s.data.toList l j ∧ t.size ≤ 500 ∧ Below w.heap.size w wr) (fun _ i _ => l2.length - (intOf i).toNat)
  case atStart => exact ⟨0, s, Nat.zero_le _, rfl, rfl, (text_zero _ _).symm, hs6, HB2.out⟩
  case round =>
    obtain ⟨j, t, hj, rfl, rfl, ht, ht5, hb⟩ := hrel
    have htl : t.data.toList.length = t.size := Array.length_toList
    by_cases hlt : j < l2.length
    · obtain ⟨r, hrj⟩ : ∃ r, l2[j]? = some r := ⟨l2[j], List.getElem?_eq_getElem hlt⟩
      have hrj' : l[j]? = some r := by
        rw [H2.out, List.getElem?_take] at hrj
        split at hrj
        · exact hrj
        · cases hrj
      have hji : (j : Int) < (l2.length : Int) := by omega
      obtain ⟨b, off, ai, ci, rfl, hblt, c1, c2, c3, hpd, hrm⟩ := (HR.out.below hb (Nat.le_refl _)).mem hrj
      have hz := hb.size
      have hbw : b < wr.heap.size := by omega
      obtain ⟨q1, q2, q3, q4⟩ := hist_at HH.out.1 hrj'
      have hfit : fitsE r.d (t.size : Nat) = 0 := fits_of q2 (by rw [q3, ← ht, htl])
      have HD : Hid (PartsAt (wr.alloc (.cells #[.int .i64 r.who, .int .i64 r.seq, .slice ai r.d.length ci] 40)) (wr.alloc (.cells #[.int .i64 r.who, .int .i64 r.seq, .slice ai r.d.length ci] 40)).heap.size ai r.d) := hpd.here ((Below.refl _ wr).alloc (Nat.le_refl _) _) hz
      have HB : Hid (Below w.heap.size w (wr.alloc (.cells #[.int .i64 r.who, .int .i64 r.seq, .slice ai r.d.length ci] 40))) := hb.alloc hz _
      have hdo : doT r.d t = textAt s.data.toList l (j + 1) := by rw [doT, if_pos hfit, ht, text_next hrj']
      have HT5 : Hid ((textAt s.data.toList l (j + 1)).length ≤ 500) := text_le HH.out.1 HH.out.2 _
      have HDo : Hid _ := fun w => Do_any ai r.d ci t w
      rw [hdo, hfit] at HDo
      clear hb hpd hrm hrj hrj' ht htl q1 q2 q3 q4 hfit hdo
      go_wp2_with fail
      refine (HDo.out _ HD.out (by omega)).mono ?_
      rintro e w3 ⟨rfl, hb3⟩
      have HB3 : Hid (Below w.heap.size w w3) := HB.out.trans (hb3.mono (by simp; omega))
      clear hb3
      go_wp2_with fail
      go_roundw
      case rel => exact ⟨j + 1, _, by omega, by go_num, rfl, rfl, HT5.out, HB3.out⟩
      case measure => simp [intOf]; omega
    · have hji : ¬ (j : Int) < (l2.length : Int) := by omega
      have HT : Hid (t = ⟨(textAt s.data.toList l k).toArray⟩) := by
        show _ = _
        have : j = k := by omega
        rw [← this, ← ht, str_eq]
      have HB : Hid (Below w.heap.size w wr) := hb
      clear ht htl hb
      go_wp2_with fail
      go_ret2
      exact ⟨by rw [HT.out]; rfl, HB.out⟩

set_option maxRecDepth 20000 in
set_option maxHeartbeats 2000000 in
theorem Text_any (s : ByteArray) (a : Option Addr) (l : List Rv) (cap : Nat) (k : Int) (w : World) (hl : RevsAt w w.heap.size a l) (hc : l.length ≤ cap) (hs : s.size ≤ 9223372036854775807) :
    Calls Try.prog 33 #[.string s, .slice a l.length cap, .int .i64 k] w fun e w' => e = .returned (.tuple #[.string ⟨(textR s.data.toList l k).toArray⟩, .int .i64 (textE s.data.toList l k)]) ∧ Below w.heap.size w w' := by
  have hll := hl.1
  have HL : Hid (RevsAt w w.heap.size a l) := hl
  by_cases h0 : checkE s.data.toList l = 0
  · by_cases hk : k < 0 ∨ (l.length : Int) < k
    · obtain ⟨t1, t2⟩ := textE_arg h0 hk
      rw [t1, t2]
      have HC : Hid _ := fun w => RevCheck_any s a l cap w
      rw [h0] at HC
      clear t1 t2 h0 hl
      by_cases k0 : k < 0
      · go_enter Try.func33, Try.ntmps33
        go_wp2_with fail
        refine (HC.out _ HL.out hs).mono ?_
        rintro e w1 ⟨rfl, hb1⟩
        go_wp2_with fail
        go_ret2
        exact ⟨rfl, hb1⟩
      · have k1 : (l.length : Int) < k := by omega
        clear hk
        go_enter Try.func33, Try.ntmps33
        go_wp2_with fail
        refine (HC.out _ HL.out hs).mono ?_
        rintro e w1 ⟨rfl, hb1⟩
        go_wp2_with fail
        go_ret2
        exact ⟨rfl, hb1⟩
    · obtain ⟨n, rfl⟩ : ∃ n : Nat, k = n := ⟨k.toNat, by omega⟩
      obtain ⟨t1, t2⟩ := textE_ok (k := n) h0 (by omega)
      rw [t1, t2]
      exact Text_ok s a l cap n w hl hc h0 (by omega)
  · obtain ⟨t1, t2⟩ := textE_bad (k := k) h0
    rw [t1, t2]
    have HC : Hid _ := fun w => RevCheck_any s a l cap w
    have hq : (checkE s.data.toList l != 0) = true := by simp [h0]
    clear t1 t2 h0 hl
    go_enter Try.func33, Try.ntmps33
    go_wp2_with fail
    refine (HC.out _ HL.out hs).mono ?_
    rintro e w1 ⟨rfl, hb1⟩
    go_wp2_with fail
    go_ret2
    exact ⟨rfl, hb1⟩
end Go.Proofs.Ytgffippimmokiaa
