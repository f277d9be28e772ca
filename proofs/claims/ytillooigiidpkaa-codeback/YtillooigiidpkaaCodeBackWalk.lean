/- The law CodeBack, walked: it answers true. -/
import Derived.Test.YtillooigiidpkaaCodeRead
import Derived.Test.YtillooigiidpkaaCodeWrite
import Derived.Test.YtillooigiidpkaaSame
import Derived.Test.YtillooigiidpkaaPutPt
import Derived.Test.YtillooigiidpkaaNumWithin
namespace Go.Proofs.Ytillooigiidpkaa
open Go.RowKit
set_option linter.unusedSimpArgs false
set_option linter.unusedVariables false

theorem write_ab : writeT [⟨2, 0, ⟨#[97, 98]⟩⟩] = [1, 10, 97, 98] ∧ sizesE [⟨2, 0, ⟨#[97, 98]⟩⟩] = 0 := by
  have h0 : sizesE [⟨2, 0, ⟨#[97, 98]⟩⟩] = 0 := by decide
  refine ⟨?_, h0⟩
  rw [writeT, if_pos h0, codeL]
  have hc : codeN ⟨2, 0, ⟨#[97, 98]⟩⟩ = 10 := by decide
  simp only [List.flatMap_cons, List.flatMap_nil, codeP, hc, List.length_singleton]
  rw [num_small (by omega), num_small (by omega)]
  rfl
theorem Write_ab (a : Option Addr) (cap : Nat) (w : World) (hp : PartsAt w w.heap.size a [⟨2, 0, ⟨#[97, 98]⟩⟩]) :
    Calls Try.prog 13 #[.slice a 1 cap] w fun e w' => e = .returned (.tuple #[.string ⟨#[1, 10, 97, 98]⟩, .int .i64 0]) ∧ Below w.heap.size w w' := by
  have h := Write_any a [⟨2, 0, ⟨#[97, 98]⟩⟩] cap w hp
  rw [write_ab.1, write_ab.2] at h
  exact h
theorem cut_none {a : List Pt} (ha : sizesE a = 0) {r : Nat} (hr : r < (codeL a).length) (d : List Pt) : ¬ IsCode ((codeL a).take r) d := by
  rintro ⟨h1, h2⟩
  have h3 : codeL a = codeL d ++ (codeL a).drop r := by rw [h2, List.take_append_drop]
  have h4 := code_none ha h1 h3
  have h5 : ((codeL a).drop r).length = 0 := by rw [h4]; rfl
  rw [List.length_drop] at h5
  omega
theorem more_none {a : List Pt} (ha : sizesE a = 0) (c : UInt8) (d : List Pt) : ¬ IsCode (codeL a ++ [c]) d := by
  rintro ⟨h1, h2⟩
  have := code_none h1 ha h2
  simp at this
theorem code_pos (a : List Pt) : 0 < (codeL a).length := by
  rw [codeL, List.length_append]
  have := num_pos a.length
  omega
theorem code_len_le {l : List Pt} (h : ∀ p ∈ l, 0 ≤ p.n ∧ p.n ≤ 500 ∧ p.t.size ≤ 500 ∧ p.k ≤ 3) : (l.flatMap codeP).length ≤ 1000 * l.length := by
  induction l with
  | nil => simp
  | cons p r ih =>
    have h1 := h p (by simp)
    have h2 := ih (fun q hq => h q (List.mem_cons_of_mem _ hq))
    have h3 := num_five (n := codeN p) (by unfold codeN; omega)
    have h4 : p.t.data.toList.length = p.t.size := Array.length_toList
    rw [List.flatMap_cons, codeP, List.length_append, List.length_append, h4, List.length_cons]
    omega
theorem code_len {a : List Pt} (ha : sizesE a = 0) : (codeL a).length ≤ 2000000 := by
  have hs := (sizes_zero ha).1
  have hr := sizes_right ha
  have h1 := code_len_le (l := a) (fun p hp => ⟨(hs.2 p hp).1, (hs.2 p hp).2.1, (hs.2 p hp).2.2, by have := (hr p hp).1; omega⟩)
  have h2 := hs.1
  have h3 := num_five (n := a.length) (by omega)
  rw [codeL, List.length_append]
  omega

set_option maxRecDepth 20000 in
set_option maxHeartbeats 8000000 in
theorem CodeBack_any (a : Option Addr) (la : List Pt) (ca : Nat) (b : Option Addr) (lb : List Pt) (cb : Nat) (k : Int) (w : World) (ha : PartsAt w w.heap.size a la) (hb : PartsAt w w.heap.size b lb) :
    Calls Try.prog 6 #[.slice a la.length ca, .slice b lb.length cb, .int .i64 k] w fun e w' => e = .returned (.bool true) ∧ Below w.heap.size w w' := by
  have HA : Hid (PartsAt w w.heap.size a la) := ha
  have HB : Hid (PartsAt w w.heap.size b lb) := hb
  clear ha hb
  go_enter Try.func6, Try.ntmps6
  go_wp2_with fail
  refine (put_any _ _ (by decide)).mono ?_
  rintro e w1 ⟨rfl, hp1, hb1⟩
  have HP1 : Hid _ := hp1
  have HA1 : Hid (PartsAt w1 w1.heap.size a la) := HA.out.here hb1 (Nat.le_refl _)
  have HB1 : Hid (PartsAt w1 w1.heap.size b lb) := HB.out.here hb1 (Nat.le_refl _)
  have HW1 : Hid (Below w.heap.size w w1) := hb1
  clear hp1 hb1
  go_wp2_with fail
  refine (Write_ab _ _ _ HP1.out).mono ?_
  rintro e w2 ⟨rfl, hb2⟩
  have HA2 : Hid (PartsAt w2 w2.heap.size a la) := HA1.out.here hb2 (Nat.le_refl _)
  have HB2 : Hid (PartsAt w2 w2.heap.size b lb) := HB1.out.here hb2 (Nat.le_refl _)
  have HW2 : Hid (Below w.heap.size w w2) := HW1.out.trans (hb2.mono HW1.out.size)
  clear hb2
  go_wp2_with fail
  refine (Write_any a la ca _ HA2.out).mono ?_
  rintro e w3 ⟨rfl, hb3⟩
  have HA3 : Hid (PartsAt w3 w3.heap.size a la) := HA2.out.here hb3 (Nat.le_refl _)
  have HB3 : Hid (PartsAt w3 w3.heap.size b lb) := HB2.out.here hb3 (Nat.le_refl _)
  have HW3 : Hid (Below w.heap.size w w3) := HW2.out.trans (hb3.mono HW2.out.size)
  clear hb3
  by_cases h0 : sizesE la = 0
  · have HZ : Hid (sizesE la = 0) := h0
    have hl := code_len h0
    have hpos := code_pos la
    have HCUT : Hid (∀ r, r < (codeL la).length → ∀ d, ¬ IsCode ((codeL la).take r) d) := fun r hr d => cut_none h0 hr d
    have HMORE : Hid (∀ d, ¬ IsCode (codeL la ++ [0]) d) := fun d => more_none h0 0 d
    have HIS : Hid (IsCode (codeL la) la) := ⟨h0, rfl⟩
    have HTL : Hid (writeT la = codeL la) := by show _ = _; rw [writeT, if_pos h0]
    rw [HTL.out, h0]
    obtain ⟨t, ht⟩ : ∃ t, codeL la = t := ⟨_, rfl⟩
    have HT : Hid (codeL la = t) := ht
    rw [ht] at hl hpos HCUT HMORE HIS
    rw [ht]
    have hts : (⟨t.toArray⟩ : ByteArray).size = t.length := by show t.toArray.size = _; simp
    have HTS : Hid _ := hts
    clear h0 ht hts HTL
    go_wp2_with fail
    refine (Read_ok ⟨t.toArray⟩ la _ (by rw [HTS.out]; omega) HIS.out).mono ?_
    rintro e w4 ⟨a4, c4, rfl, hp4, _, hb4⟩
    have HP4 : Hid (PartsAt w4 w4.heap.size a4 la) := hp4
    have HA4 : Hid (PartsAt w4 w4.heap.size a la) := HA3.out.here hb4 (Nat.le_refl _)
    have HB4 : Hid (PartsAt w4 w4.heap.size b lb) := HB3.out.here hb4 (Nat.le_refl _)
    have HW4 : Hid (Below w.heap.size w w4) := HW3.out.trans (hb4.mono HW3.out.size)
    clear hp4 hb4
    go_wp2_with fail
    refine (Within3_any k t.length _ hpos (by omega)).mono ?_
    rintro e w5 ⟨r, rfl, hr, e5⟩
    subst e5
    have HNR : Hid (∀ d, ¬ IsCode ((⟨t.toArray⟩ : ByteArray).extract 0 r).data.toList d) := by
      have h := HCUT.out r hr
      intro d
      rw [Lib.extract_data]
      simp only [List.drop_zero, Nat.sub_zero]
      exact h d
    go_wp2_with fail
    refine (Read_no _ _ (by rw [ByteArray.size_extract, HTS.out]; omega) HNR.out).mono ?_
    rintro e w6 ⟨rfl, hb6⟩
    have HP6 : Hid (PartsAt w6 w6.heap.size a4 la) := HP4.out.here hb6 (Nat.le_refl _)
    have HA6 : Hid (PartsAt w6 w6.heap.size a la) := HA4.out.here hb6 (Nat.le_refl _)
    have HB6 : Hid (PartsAt w6 w6.heap.size b lb) := HB4.out.here hb6 (Nat.le_refl _)
    have HW6 : Hid (Below w.heap.size w w6) := HW4.out.trans (hb6.mono HW4.out.size)
    clear hb6
    have HNM : Hid (∀ d, ¬ IsCode ((⟨t.toArray⟩ : ByteArray) ++ ⟨#[0]⟩).data.toList d) := by
      have h := HMORE.out
      intro d
      rw [show ((⟨t.toArray⟩ : ByteArray) ++ ⟨#[0]⟩).data.toList = t ++ [0] by simp]
      exact h d
    go_wp2_with fail
    refine (Read_no _ _ (by rw [ByteArray.size_append, HTS.out]; show t.length + 1 ≤ _; omega) HNM.out).mono ?_
    rintro e w7 ⟨rfl, hb7⟩
    have HP7 : Hid (PartsAt w7 w7.heap.size a4 la) := HP6.out.here hb7 (Nat.le_refl _)
    have HA7 : Hid (PartsAt w7 w7.heap.size a la) := HA6.out.here hb7 (Nat.le_refl _)
    have HB7 : Hid (PartsAt w7 w7.heap.size b lb) := HB6.out.here hb7 (Nat.le_refl _)
    have HW7 : Hid (Below w.heap.size w w7) := HW6.out.trans (hb7.mono HW6.out.size)
    clear hb7
    go_wp2_with fail
    refine (Write_any b lb cb _ HB7.out).mono ?_
    rintro e w8 ⟨rfl, hb8⟩
    have HP8 : Hid (PartsAt w8 w8.heap.size a4 la) := HP7.out.here hb8 (Nat.le_refl _)
    have HA8 : Hid (PartsAt w8 w8.heap.size a la) := HA7.out.here hb8 (Nat.le_refl _)
    have HB8 : Hid (PartsAt w8 w8.heap.size b lb) := HB7.out.here hb8 (Nat.le_refl _)
    have HW8 : Hid (Below w.heap.size w w8) := HW7.out.trans (hb8.mono HW7.out.size)
    clear hb8
    by_cases hb0 : sizesE lb = 0
    · have HTL2 : Hid (writeT lb = codeL lb) := by show _ = _; rw [writeT, if_pos hb0]
      rw [HTL2.out, hb0]
      have HEQ : Hid (codeL lb = t ↔ la = lb) := ⟨fun h => code_inj HZ.out hb0 (HT.out.trans h.symm), fun h => by rw [← h]; exact HT.out⟩
      obtain ⟨t2, ht2⟩ : ∃ t2, codeL lb = t2 := ⟨_, rfl⟩
      rw [ht2] at HEQ
      rw [ht2]
      clear hb0 ht2 HTL2
      go_wp2_with fail
      refine (Same_yes a4 a la c4 ca _ HP8.out HA8.out).mono ?_
      rintro e w9 ⟨rfl, hb9⟩
      have HA9 : Hid (PartsAt w9 w9.heap.size a la) := HA8.out.here hb9 (Nat.le_refl _)
      have HB9 : Hid (PartsAt w9 w9.heap.size b lb) := HB8.out.here hb9 (Nat.le_refl _)
      have HW9 : Hid (Below w.heap.size w w9) := HW8.out.trans (hb9.mono HW8.out.size)
      clear hb9
      go_wp2_with fail
      refine (Same_any a b la lb ca cb _ HA9.out HB9.out).mono ?_
      rintro e w10 ⟨q, rfl, hq, hb10⟩
      have HW10 : Hid (Below w.heap.size w w10) := HW9.out.trans (hb10.mono HW9.out.size)
      have HQ : Hid ((t == t2) = q) := by
        show _ = _
        cases q
        · exact beq_eq_false_iff_ne.2 (fun h => by have h2 := hq.2 (HEQ.out.1 h.symm); simp at h2)
        · rw [HEQ.out.2 (hq.1 rfl)]; exact beq_self_eq_true _
      clear hq hb10
      have hq2 := HQ.out
      go_wp2_with fail
      go_ret
      exact ⟨by first | rfl | simp, HW10.out⟩
    · have hb1 : (sizesE lb != 0) = true := by simpa using hb0
      clear hb0
      go_wp2_with fail
      refine (Same_yes a4 a la c4 ca _ HP8.out HA8.out).mono ?_
      rintro e w9 ⟨rfl, hb9⟩
      have HW9 : Hid (Below w.heap.size w w9) := HW8.out.trans (hb9.mono HW8.out.size)
      clear hb9
      go_wp2_with fail
      go_ret
      exact ⟨rfl, HW9.out⟩
  · have HTL : Hid (writeT la = []) := by show _ = _; rw [writeT, if_neg h0]
    have HCK : Hid _ := fun w hp => Check_any a la ca w hp
    rw [HTL.out]
    obtain ⟨q, hq⟩ : ∃ q, sizesE la = q := ⟨_, rfl⟩
    rw [hq] at h0 HCK
    rw [hq]
    have h1 : (q != 0) = true := by simpa using h0
    clear h0 hq HTL
    go_wp2_with fail
    refine (HCK.out _ HA3.out).mono ?_
    rintro e w4 ⟨rfl, hb4⟩
    have HW4 : Hid (Below w.heap.size w w4) := HW3.out.trans (hb4.mono HW3.out.size)
    clear hb4
    go_wp2_with fail
    go_ret
    exact ⟨rfl, HW4.out⟩
end Go.Proofs.Ytillooigiidpkaa
