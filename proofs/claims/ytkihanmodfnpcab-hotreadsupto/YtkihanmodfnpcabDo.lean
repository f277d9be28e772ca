/- What apply.Do answers. -/
import Derived.Test.YtkihanmodfnpcabDelta
import Derived.Test.YtkihanmodfnpcabCodeWrite
import Derived.Deep.Heap
import Derived.Lib.Strings
namespace Go.Proofs.Ytkihanmodfnpcab
open Go.RowKit
set_option linter.unusedSimpArgs false
set_option linter.unusedVariables false

theorem inI_drop {l : List Pt} {i : Nat} {p : Pt} (h : l[i]? = some p) : inI (l.drop i) = p.n + inI (l.drop (i + 1)) := by
  rw [drop_cons h]; rfl

theorem extract_to_end (s : ByteArray) (a : Nat) : (s.extract a s.size).data.toList = s.data.toList.drop a := by
  rw [Lib.extract_data]
  have h : s.data.toList.length = s.size := Array.length_toList
  exact List.take_of_length_le (by rw [List.length_drop, h]; omega)

theorem box_kept {b : Nat} {w w' : World} {k n : Int} {t : ByteArray} (h : Lib.OthersKept 5 (some b) (w.alloc (.cells #[.int .i64 k, .int .i64 n, .string t] 100)) w') (hb : b < w.heap.size) :
    w'.cell? ⟨w.heap.size, 0, none⟩ = some (.int .i64 k) ∧ w'.cell? ⟨w.heap.size, 1, none⟩ = some (.int .i64 n) ∧ w'.cell? ⟨w.heap.size, 2, none⟩ = some (.string t) := by
  have h1 := h w.heap.size _ (Deep.blk_alloc_new w _) (by intro e; have e' := Option.some.inj e; omega) (by intro c fz e; simp at e)
  refine ⟨?_, ?_, ?_⟩ <;> (rw [Lib.cell_of_heap h1]; rfl)

/-- the answer: the text, and the error -/
def doT (l : List Pt) (s : ByteArray) : List UInt8 := if fitsE l s.size = 0 then doL l s.data.toList else []

set_option maxRecDepth 20000 in
set_option maxHeartbeats 2000000 in
theorem Do_any (a : Option Addr) (l : List Pt) (cap : Nat) (s : ByteArray) (w : World) (hp : PartsAt w w.heap.size a l) (hs : s.size ≤ 9223372036854775807) :
    Calls Try.prog 29 #[.slice a l.length cap, .string s] w fun e w' => e = .returned (.tuple #[.string ⟨(doT l s).toArray⟩, .int .i64 (fitsE l s.size)]) ∧ Below w.heap.size w w' := by
  have HP : Hid (PartsAt w w.heap.size a l) := hp
  clear hp
  go_enter Try.func29, Try.ntmps29
  go_wp2_with fail
  refine (Fits_any a l cap _ _ HP.out).mono ?_
  rintro e w1 ⟨rfl, hb1⟩
  by_cases h0 : fitsE l s.size = 0
  · have h0' : (fitsE l s.size != 0) = false := by simp [h0]
    obtain ⟨hz0, hin⟩ := fits_zero h0
    have hsm := (sizes_zero hz0).1
    have hrt := sizes_right hz0
    have HT : Hid (doT l s = doL l s.data.toList ∧ fitsE l s.size = 0) := ⟨by simp [doT, h0], h0⟩
    have HB1 : Hid (Below w.heap.size w w1) := hb1
    have HP1 : Hid (PartsAt w1 w1.heap.size a l) := HP.out.here hb1 (Nat.le_refl _)
    have hl := hsm.1
    have HSM : Hid (Small l) := hsm
    have HRT : Hid (Right l) := hrt
    have HIN : Hid (inI l = s.size) := hin
    clear h0 hz0 hin hsm hrt hb1
    go_wp2_with fail
    go_loopw [1, 19] (fun t i wr => ∃ (k : Nat) (s' : ByteArray) (acc : List UInt8), k ≤ l.length ∧ i = .int .i64 k ∧ t = .string s' ∧ Lib.IsBuilderF 98 5 w1.heap.size w1.heap.size (Lib.byteCells acc) wr ∧ Below w1.heap.size w1 wr ∧
      acc ++ doL (l.drop k) s'.data.toList = doL l s.data.toList ∧ (s'.size : Int) = inI (l.drop k) ∧ acc.length ≤ 1000 * k) (fun _ i _ => l.length - (intOf i).toNat)
    case atStart =>
      refine ⟨0, s, [], Nat.zero_le _, rfl, rfl, ?_, (Below.refl _ _).alloc (Nat.le_refl _) _, by simp, by simp [HIN.out], by simp⟩
      exact Lib.IsBuilderF.of (Lib.fresh_isBuilder 98 5 w1)
    case round =>
      obtain ⟨k, s', acc, hk, rfl, rfl, hI, hb, hdo, hsz, hacc⟩ := hrel
      by_cases hlt : k < l.length
      · obtain ⟨p, hpk⟩ : ∃ p, l[k]? = some p := ⟨l[k], List.getElem?_eq_getElem hlt⟩
        have hpm := List.mem_of_getElem? hpk
        have hpb := HSM.out.2 p hpm
        have hpr := HRT.out p hpm
        have hin1 := inI_drop hpk
        have hge : 0 ≤ inI (l.drop (k + 1)) := (inI_bd (fun q hq => HSM.out.2 q (List.mem_of_mem_drop hq))).1
        have hdc := drop_cons hpk
        obtain ⟨b, off, rfl, hblt, c1, c2, c3⟩ := (HP1.out.below hb (Nat.le_refl _)).mem hpk
        have hz := hb.size
        have hbw : b < wr.heap.size := by omega
        have hle : p.n ≤ (s'.size : Int) := by omega
        obtain ⟨hpb1, hpb2, hpb3⟩ := hpb
        have hbl : w1.heap.size < wr.heap.size := hI.elim (fun h => h.lt) (fun h => h.lt)
        have HI : Hid (Lib.IsBuilderF 98 5 w1.heap.size w1.heap.size (Lib.byteCells acc) wr) := hI
        have HB : Hid (Below w1.heap.size w1 wr) := hb
        have HDO : Hid _ := hdo
        have HSZ : Hid _ := hsz
        have HIN1 : Hid _ := hin1
        have HDC : Hid _ := hdc
        rcases hpr with ⟨hk1 | hk2 | hk3, hpr2, hpr3⟩
        · have q1 : (p.k == 1) = true := by simp [hk1]
          have HK : Hid (p.k = 1) := hk1
          clear hk1 hpr2 hpr3 hI hb hdo hsz hin1 hdc hpm hpk
          go_wp2_with fail
          refine (WriteString_any w1.heap.size w1.heap.size (Lib.byteCells acc) _ _ (HI.out.alloc _) ?h1 (by simp; omega)).mono ?_
          case h1 => rw [Lib.byteCells_length, ByteArray.size_extract]; omega
          rintro e w2 ⟨rfl, hA2, hb2, hk2⟩
          obtain ⟨x1, x2, x3⟩ := box_kept hk2 (by omega)
          have HA2 : Hid _ := hA2
          have HB2 : Hid (Below w1.heap.size w1 w2) := (HB.out.alloc hz _).trans hb2
          clear hA2 hb2 hk2
          go_wp2_with fail
          go_roundw
          case rel =>
            refine ⟨k + 1, s'.extract p.n.toNat s'.size, acc ++ s'.data.toList.take p.n.toNat, by omega, by go_num, rfl, Or.inr ?_, HB2.out, ?_, ?_, ?_⟩
            · have h := HA2.out
              rw [Lib.strCells_eq, Lib.extract_data] at h
              simp only [List.drop_zero, Nat.sub_zero] at h
              rw [Lib.byteCells_append]
              exact h
            · rw [← HDO.out, HDC.out, extract_to_end]
              simp [doL, HK.out]
            · have h1 := HSZ.out; have h2 := HIN1.out
              rw [ByteArray.size_extract]; omega
            · simp only [List.length_append, List.length_take]; omega
          case measure => simp [intOf]; omega
        · have q1 : (p.k == 1) = false := by simp [hk2]
          have q2 : (p.k == 2) = true := by simp [hk2]
          have hn0 := hpr2 hk2
          have HK : Hid (p.k = 2) := hk2
          have HN0 : Hid (p.n = 0) := hn0
          clear hk2 hpr2 hpr3 hI hb hdo hsz hin1 hdc hpm hpk hn0
          go_wp2_with fail
          refine (WriteString_any w1.heap.size w1.heap.size (Lib.byteCells acc) _ _ (HI.out.alloc _) ?h2 (by simp; omega)).mono ?_
          case h2 => rw [Lib.byteCells_length]; omega
          rintro e w2 ⟨rfl, hA2, hb2, hk2⟩
          have HA2 : Hid _ := hA2
          have HB2 : Hid (Below w1.heap.size w1 w2) := (HB.out.alloc hz _).trans hb2
          clear hA2 hb2 hk2
          go_wp2_with fail
          go_roundw
          case rel =>
            refine ⟨k + 1, s', acc ++ p.t.data.toList, by omega, by go_num, rfl, Or.inr ?_, HB2.out, ?_, ?_, ?_⟩
            · rw [Lib.byteCells_append]
              exact HA2.out
            · rw [← HDO.out, HDC.out]
              simp [doL, HK.out]
            · have h1 := HSZ.out; have h2 := HIN1.out; have h3 := HN0.out
              omega
            · have h4 : p.t.data.toList.length = p.t.size := Array.length_toList
              simp only [List.length_append, h4]; omega
          case measure => simp [intOf]; omega
        · have q1 : (p.k == 1) = false := by simp [hk3]
          have q2 : (p.k == 2) = false := by simp [hk3]
          have q3 : (p.k == 3) = true := by simp [hk3]
          have HK : Hid (p.k = 3) := hk3
          clear hk3 hpr2 hpr3 hI hb hdo hsz hin1 hdc hpm hpk
          go_wp2_with fail
          go_roundw
          case rel =>
            refine ⟨k + 1, s'.extract p.n.toNat s'.size, acc, by omega, by go_num, rfl, HI.out.alloc _, HB.out.alloc hz _, ?_, ?_, ?_⟩
            · rw [← HDO.out, HDC.out, extract_to_end]
              simp [doL, HK.out]
            · have h1 := HSZ.out; have h2 := HIN1.out
              rw [ByteArray.size_extract]; omega
            · omega
          case measure => simp [intOf]; omega
      · have hnil : l.drop k = [] := List.drop_eq_nil_of_le (by omega)
        rw [hnil] at hdo
        have HDO : Hid (acc = doL l s.data.toList) := by show _ = _; simpa [doL] using hdo
        have hbl : w1.heap.size < wr.heap.size := hI.elim (fun h => h.lt) (fun h => h.lt)
        have HI : Hid (Lib.IsBuilderF 98 5 w1.heap.size w1.heap.size (Lib.byteCells acc) wr) := hI
        have HB : Hid (Below w1.heap.size w1 wr) := hb
        have hz := hb.size
        clear hdo hsz hnil hI hb
        go_wp2_with fail
        refine (String_any w1.heap.size w1.heap.size acc _ HI.out hz).mono ?_
        rintro e w2 ⟨rfl, _, hb2, _⟩
        have HB2 : Hid (Below w.heap.size w w2) := HB1.out.trans ((HB.out.trans hb2).mono HB1.out.size)
        clear hb2
        go_wp2_with fail
        go_ret2
        exact ⟨by rw [HT.out.1, HT.out.2, ← HDO.out]; rfl, HB2.out⟩
  · have h0' : (fitsE l s.size != 0) = true := by simp [h0]
    have HT : Hid (doT l s = []) := by show _ = _; simp [doT, h0]
    clear h0
    go_wp2_with fail
    go_ret2
    exact ⟨by rw [HT.out]; rfl, hb1⟩

end Go.Proofs.Ytkihanmodfnpcab
