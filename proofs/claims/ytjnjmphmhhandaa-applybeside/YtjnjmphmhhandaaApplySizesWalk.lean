/- The law ApplySizes, walked: it answers true. -/
import Derived.Test.YtjnjmphmhhandaaDo
import Derived.Test.YtjnjmphmhhandaaAll
import Derived.Test.YtjnjmphmhhandaaOpen
import Derived.Deep.Heap
namespace Go.Proofs.Ytjnjmphmhhandaa
open Go.ChangeShapes Go.WideShapes Go.ChangeAt Go.RowKit
open Go.ChangeMaps (open_string shut_string)
set_option linter.unusedSimpArgs false
set_option linter.unusedVariables false

theorem allL_fits {s : ByteArray} (h : s.size ≤ 500) : fitsE (allL s.size) s.size = 0 ∧ doT (allL s.size) s = s.data.toList := by
  have htl : s.data.toList.length = s.size := Array.length_toList
  by_cases hn : s.size = 0
  · have h1 : allL (s.size : Int) = [] := by simp [allL, hn]
    have h2 : fitsE [] (s.size : Int) = 0 := by rw [hn]; decide
    have h3 : s.data.toList = [] := List.length_eq_zero_iff.1 (by omega)
    rw [h1]
    exact ⟨h2, by simp [doT, h2, doL, h3]⟩
  · have h1 : allL (s.size : Int) = [⟨1, s.size, ByteArray.empty⟩] := by rw [allL, if_neg (by omega)]
    have h2 : fitsE [⟨1, (s.size : Int), ByteArray.empty⟩] (s.size : Int) = 0 := by
      have e1 : stepE 0 ⟨1, (s.size : Int), ByteArray.empty⟩ = 0 := by
        have h3 : (500 : Int) < s.size ↔ False := ⟨fun h => by omega, False.elim⟩
        have h4 : (s.size : Int) = 0 ↔ False := ⟨fun h => by omega, False.elim⟩
        have h5 : (0 : Int) ≤ s.size := by omega
        have h6 : formedB 1 (s.size : Int) ByteArray.empty = true := by unfold formedB; rw [if_pos (by omega)]; simp only [h5, decide_true, Bool.true_and]; decide
        have h7 : widthI 1 (s.size : Int) ByteArray.empty = s.size := by unfold widthI; rw [if_neg (by omega)]
        have h8 : followB 0 1 = true := by decide
        unfold stepE
        simp only [h6, h7, h8, ne_eq, h4, not_false_eq_true, decide_true, Bool.and_self, if_true, h3, if_false]
      have e2 : sizesE [⟨1, (s.size : Int), ByteArray.empty⟩] = 0 := by
        have h3 : partsE [⟨1, (s.size : Int), ByteArray.empty⟩] = 0 := by simp [partsE, scanE, e1]
        have h4 : sumIn [⟨1, (s.size : Int), ByteArray.empty⟩] = s.size := by simp [sumIn, widthI]
        have h5 : sumOut [⟨1, (s.size : Int), ByteArray.empty⟩] = s.size := by simp [sumOut, widthI]
        rw [sizesE, if_pos h3, h4, h5, if_neg (by omega)]
      simp [fitsE, e2, inI]
    rw [h1]
    refine ⟨h2, ?_⟩
    rw [doT, if_pos h2, doL, if_pos rfl, doL, List.append_nil]
    exact List.take_of_length_le (by simp only [Int.toNat_natCast]; omega)

def lit3 : List Pt := [⟨1, 1, ByteArray.empty⟩, ⟨2, 0, ⟨#[120]⟩⟩, ⟨3, 1, ByteArray.empty⟩]
theorem lit3_bound : Bound lit3 := by
  refine ⟨by decide, ?_⟩
  intro p hp
  simp only [lit3, List.mem_cons, List.mem_nil_iff, or_false] at hp
  rcases hp with rfl | rfl | rfl <;> decide
theorem lit3_fits : fitsE lit3 2 = 0 ∧ doT lit3 ⟨#[97, 98]⟩ = [97, 120] := by decide

theorem Lit3_any (w : World) :
    Calls Try.prog 17 #[.slice (some ⟨w.heap.size, 0, none⟩) 3 3, .string ⟨#[97, 98]⟩] (w.alloc (.cells #[.int .i64 1, .int .i64 1, .string ⟨#[]⟩, .int .i64 2, .int .i64 0, .string ⟨#[120]⟩, .int .i64 3, .int .i64 1, .string ⟨#[]⟩] 37))
      fun e w' => e = .returned (.tuple #[.string ⟨#[97, 120]⟩, .int .i64 0]) ∧ Below w.heap.size w w' := by
  have hp := parts_lit w lit3 lit3_bound
  have hz : (w.alloc (.cells (allCells lit3).toArray 37)).heap.size = w.heap.size + 1 := Deep.nblk_alloc _ _
  rw [← hz] at hp
  have h := Do_any (some ⟨w.heap.size, 0, none⟩) lit3 3 ⟨#[97, 98]⟩ _ hp (by decide)
  have e2 : fitsE lit3 (ByteArray.size ⟨#[97, 98]⟩) = 0 := lit3_fits.1
  rw [lit3_fits.2, e2] at h
  refine (show Calls Try.prog 17 #[.slice (some ⟨w.heap.size, 0, none⟩) 3 3, .string ⟨#[97, 98]⟩] (w.alloc (.cells (allCells lit3).toArray 37)) _ from h).mono ?_
  rintro e w' ⟨rfl, hb⟩
  exact ⟨rfl, ((Below.refl _ _).alloc (Nat.le_refl _) _).trans (hb.mono (by rw [hz]; omega))⟩

theorem ne_str (x y : ByteArray) : (x.toList == y.toList) = decide (x = y) := by
  rw [Bool.eq_iff_iff]; simp [ByteArray.toList_eq]
  constructor
  · intro h; cases x; cases y; simp_all
  · intro h; rw [h]

theorem DoAll_any (a : Option Addr) (cap : Nat) (s : ByteArray) (w : World) (hp : PartsAt w w.heap.size a (allL s.size)) (h5 : s.size ≤ 500) :
    Calls Try.prog 17 #[.slice a (allL s.size).length cap, .string s] w fun e w' => e = .returned (.tuple #[.string s, .int .i64 0]) ∧ Below w.heap.size w w' := by
  have h := Do_any a (allL s.size) cap s w hp (by omega)
  rw [(allL_fits h5).1, (allL_fits h5).2] at h
  refine h.mono ?_
  rintro e w' ⟨rfl, hb⟩
  exact ⟨rfl, hb⟩
theorem DoSome_any (a : Option Addr) (l : List Pt) (cap : Nat) (s : ByteArray) (w : World) (hp : PartsAt w w.heap.size a l) (hs : s.size ≤ 9223372036854775807) :
    Calls Try.prog 17 #[.slice a l.length cap, .string s] w fun e w' => ∃ T F, e = .returned (.tuple #[.string T, .int .i64 F]) ∧ Below w.heap.size w w' :=
  (Do_any a l cap s w hp hs).mono fun e w' h => ⟨_, _, h.1, h.2⟩

set_option maxHeartbeats 2000000 in
theorem ApplySizes_any (a : Option Addr) (l : List Pt) (cap : Nat) (s : ByteArray) (w : World) (hp : PartsAt w w.heap.size a l) (hs : s.size ≤ 9223372036854775807) :
    Calls Try.prog 7 #[.slice a l.length cap, .string s] w fun e w' => e = .returned (.bool true) ∧ Below w.heap.size w w' := by
  have HP : Hid (PartsAt w w.heap.size a l) := hp
  clear hp
  go_enter Try.func7, Try.ntmps7
  go_wp2_with fail
  refine (Lit3_any w).mono ?_
  rintro e w1 ⟨rfl, hb1⟩
  have HB1 : Hid (Below w.heap.size w w1) := hb1
  clear hb1
  go_wp2_with fail
  refine (All_any _ _ (by omega) (by omega)).mono ?_
  rintro e w2 ⟨a2, c2, rfl, hp2, hb2⟩
  have HB2 : Hid (Below w.heap.size w w2) := HB1.out.trans (hb2.mono HB1.out.size)
  have HP2 : Hid (PartsAt w2 w2.heap.size a2 (allL s.size)) := hp2
  clear hp2 hb2
  go_wp2_with fail
  by_cases h5 : s.size ≤ 500
  · refine (DoAll_any a2 c2 s _ HP2.out h5).mono ?_
    rintro e w3 ⟨rfl, hb3⟩
    have HB3 : Hid (Below w.heap.size w w3) := HB2.out.trans (hb3.mono HB2.out.size)
    have HP3 : Hid (PartsAt w3 w3.heap.size a l) := HP.out.here HB3.out (Nat.le_refl _)
    clear hb3
    go_wp2_with fail
    refine (Do_any a l cap s _ HP3.out hs).mono ?_
    rintro e w4 ⟨rfl, hb4⟩
    have HB4 : Hid (Below w.heap.size w w4) := HB3.out.trans (hb4.mono HB3.out.size)
    have HP4 : Hid (PartsAt w4 w4.heap.size a l) := HP3.out.here hb4 (Nat.le_refl _)
    clear hb4
    by_cases h0 : fitsE l s.size = 0
    · have h0' : (fitsE l s.size != 0) = false := by simp [h0]
      obtain ⟨hz0, hin⟩ := fits_zero h0
      obtain ⟨hsm, e1, e2⟩ := sizes_zero hz0
      have hrt := sizes_right hz0
      have hlen : ((doL l s.data.toList).length : Int) = outI l := doL_len hsm.2 hrt (by have h1 : s.data.toList.length = s.size := Array.length_toList; rw [h1, hin])
      have HT : Hid (doT l s = doL l s.data.toList) := by show _ = _; simp [doT, h0]
      have hob := outI_bd hsm.2
      have hl := hsm.1
      generalize hX : (⟨(doT l s).toArray⟩ : ByteArray) = X
      have hXs : (X.size : Int) = outI l := by rw [← hX, ← hlen, HT.out]; rfl
      have g1 : (sizesE l == 0) = true := by simp [hz0]
      have g2 : (sizesIn l == (s.size : Int)) = true := by rw [e1, hin]; simp
      have g3 : (sizesOut l == (X.size : Int)) = true := by rw [e2, hXs]; simp
      clear h0 hz0 hin hsm e1 e2 hrt hlen hX hXs hob
      go_wp2_with fail
      refine (Sizes_any a l cap _ HP4.out).mono ?_
      rintro e w5 ⟨rfl, hb5⟩
      have HB5 : Hid (Below w.heap.size w w5) := HB4.out.trans (hb5.mono HB4.out.size)
      clear hb5
      go_wp2_with fail
      go_ret
      exact ⟨rfl, HB5.out⟩
    · have h0' : (fitsE l s.size != 0) = true := by simp [h0]
      have hT : doT l s = [] := by simp [doT, h0]
      rw [hT]
      have hself : (fitsE l s.size == fitsE l s.size) = true := by simp
      clear h0 hT
      go_wp2_with fail
      refine (Fits_any a l cap _ _ HP4.out).mono ?_
      rintro e w5 ⟨rfl, hb5⟩
      have HB5 : Hid (Below w.heap.size w w5) := HB4.out.trans (hb5.mono HB4.out.size)
      clear hb5
      go_wp2_with fail
      go_ret
      exact ⟨rfl, HB5.out⟩
  · refine (DoSome_any a2 _ c2 s _ HP2.out hs).mono ?_
    rintro e w3 ⟨T, F, rfl, hb3⟩
    have HB3 : Hid (Below w.heap.size w w3) := HB2.out.trans (hb3.mono HB2.out.size)
    have HP3 : Hid (PartsAt w3 w3.heap.size a l) := HP.out.here HB3.out (Nat.le_refl _)
    clear hb3
    go_wp2_with fail
    refine (Do_any a l cap s _ HP3.out hs).mono ?_
    rintro e w4 ⟨rfl, hb4⟩
    have HB4 : Hid (Below w.heap.size w w4) := HB3.out.trans (hb4.mono HB3.out.size)
    have HP4 : Hid (PartsAt w4 w4.heap.size a l) := HP3.out.here hb4 (Nat.le_refl _)
    clear hb4
    by_cases h0 : fitsE l s.size = 0
    · have h0' : (fitsE l s.size != 0) = false := by simp [h0]
      obtain ⟨hz0, hin⟩ := fits_zero h0
      obtain ⟨hsm, e1, e2⟩ := sizes_zero hz0
      have hrt := sizes_right hz0
      have hlen : ((doL l s.data.toList).length : Int) = outI l := doL_len hsm.2 hrt (by have h1 : s.data.toList.length = s.size := Array.length_toList; rw [h1, hin])
      have HT : Hid (doT l s = doL l s.data.toList) := by show _ = _; simp [doT, h0]
      have hob := outI_bd hsm.2
      have hl := hsm.1
      generalize hX : (⟨(doT l s).toArray⟩ : ByteArray) = X
      have hXs : (X.size : Int) = outI l := by rw [← hX, ← hlen, HT.out]; rfl
      have g1 : (sizesE l == 0) = true := by simp [hz0]
      have g2 : (sizesIn l == (s.size : Int)) = true := by rw [e1, hin]; simp
      have g3 : (sizesOut l == (X.size : Int)) = true := by rw [e2, hXs]; simp
      clear h0 hz0 hin hsm e1 e2 hrt hlen hX hXs hob
      go_wp2_with fail
      refine (Sizes_any a l cap _ HP4.out).mono ?_
      rintro e w5 ⟨rfl, hb5⟩
      have HB5 : Hid (Below w.heap.size w w5) := HB4.out.trans (hb5.mono HB4.out.size)
      clear hb5
      go_wp2_with fail
      go_ret
      exact ⟨rfl, HB5.out⟩
    · have h0' : (fitsE l s.size != 0) = true := by simp [h0]
      have hT : doT l s = [] := by simp [doT, h0]
      rw [hT]
      have hself : (fitsE l s.size == fitsE l s.size) = true := by simp
      clear h0 hT
      go_wp2_with fail
      refine (Fits_any a l cap _ _ HP4.out).mono ?_
      rintro e w5 ⟨rfl, hb5⟩
      have HB5 : Hid (Below w.heap.size w w5) := HB4.out.trans (hb5.mono HB4.out.size)
      clear hb5
      go_wp2_with fail
      go_ret
      exact ⟨rfl, HB5.out⟩

end Go.Proofs.Ytjnjmphmhhandaa
