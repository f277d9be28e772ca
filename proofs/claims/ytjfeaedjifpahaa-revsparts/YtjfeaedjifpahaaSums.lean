/- What In, Out (the document's road) and sums (package part) answer of parts that are not too great. -/
import Derived.Test.YtjfeaedjifpahaaSmall
namespace Go.Proofs.Ytjfeaedjifpahaa
open Go.RowKit
set_option linter.unusedSimpArgs false
set_option linter.unusedVariables false

set_option maxHeartbeats 400000 in
theorem In_any (a : Option Addr) (l : List Pt) (cap : Nat) (w : World) (hp : PartsAt w w.heap.size a l) (hs : Small l) :
    Calls Try.prog 48 #[.slice a l.length cap] w fun e w' => e = .returned (.int .i64 (inI l)) ∧ Below w.heap.size w w' := by
  have hl := hs.1
  go_enter Try.func48, Try.ntmps48
  go_wp2
  go_loopw [3, 8] (fun n i wr => ∃ k : Nat, k ≤ l.length ∧ i = .int .i64 k ∧ n = .int .i64 (inI (l.take k)) ∧ Below w.heap.size w wr) (fun _ i _ => l.length - (intOf i).toNat)
  case atStart => exact ⟨0, Nat.zero_le _, rfl, rfl, Below.refl _ _⟩
  case round =>
    obtain ⟨k, hk, rfl, rfl, hb⟩ := hrel
    by_cases hlt : k < l.length
    · obtain ⟨p, hpk⟩ : ∃ p, l[k]? = some p := ⟨l[k], List.getElem?_eq_getElem hlt⟩
      have Hsn : Hid _ := inI_snoc hpk
      have hbd := inI_bd (hs.take k).2
      have hpb := hs.2 p (List.mem_of_getElem? hpk)
      have htl : (l.take k).length ≤ 1600 := (hs.take k).1
      obtain ⟨b, off, rfl, hblt, c1, c2, c3⟩ := (hp.below hb (Nat.le_refl _)).mem hpk
      have HB : Hid _ := hb
      have hz := hb.size
      clear hp hs hpk hb
      go_wp2
      go_roundw
      case rel => exact ⟨k + 1, by omega, by go_num, by rw [Hsn.out], HB.out.alloc hz _⟩
      case measure => simp [intOf]; omega
    · go_wp2
      go_ret
      exact ⟨ret_int (by rw [List.take_of_length_le (by omega)]), hb⟩

set_option maxHeartbeats 400000 in
theorem Out_any (a : Option Addr) (l : List Pt) (cap : Nat) (w : World) (hp : PartsAt w w.heap.size a l) (hs : Small l) :
    Calls Try.prog 36 #[.slice a l.length cap] w fun e w' => e = .returned (.int .i64 (outI l)) ∧ Below w.heap.size w w' := by
  have hl := hs.1
  go_enter Try.func36, Try.ntmps36
  go_wp2
  go_loopw [3, 8] (fun n i wr => ∃ k : Nat, k ≤ l.length ∧ i = .int .i64 k ∧ n = .int .i64 (outI (l.take k)) ∧ Below w.heap.size w wr) (fun _ i _ => l.length - (intOf i).toNat)
  case atStart => exact ⟨0, Nat.zero_le _, rfl, rfl, Below.refl _ _⟩
  case round =>
    obtain ⟨k, hk, rfl, rfl, hb⟩ := hrel
    by_cases hlt : k < l.length
    · obtain ⟨p, hpk⟩ : ∃ p, l[k]? = some p := ⟨l[k], List.getElem?_eq_getElem hlt⟩
      have Hsn : Hid _ := outI_snoc hpk
      have hbd := outI_bd (hs.take k).2
      have hpb := hs.2 p (List.mem_of_getElem? hpk)
      have htl : (l.take k).length ≤ 1600 := (hs.take k).1
      obtain ⟨b, off, rfl, hblt, c1, c2, c3⟩ := (hp.below hb (Nat.le_refl _)).mem hpk
      have HB : Hid _ := hb
      have hz := hb.size
      clear hp hs hpk hb
      cases h3 : (p.k == 3)
      · have h3' : (p.k != 3) = true := by simp_all
        have H3 : Hid (¬ p.k = 3) := by show ¬ p.k = 3; simpa using h3
        clear h3
        go_wp2
        go_roundw
        case rel => exact ⟨k + 1, by omega, by go_num, by rw [Hsn.out, if_neg H3.out], HB.out.alloc hz _⟩
        case measure => simp [intOf]; omega
      · have h3' : (p.k != 3) = false := by simp_all
        have H3 : Hid (p.k = 3) := by show p.k = 3; simpa using h3
        clear h3
        go_wp2
        go_roundw
        case rel => exact ⟨k + 1, by omega, by go_num, by rw [Hsn.out, if_pos H3.out]; simp, HB.out.alloc hz _⟩
        case measure => simp [intOf]; omega
    · go_wp2
      go_ret
      exact ⟨ret_int (by rw [List.take_of_length_le (by omega)]), hb⟩

set_option maxHeartbeats 1000000 in
theorem sums_any (a : Option Addr) (l : List Pt) (cap : Nat) (w : World) (hp : PartsAt w w.heap.size a l) (hs : Small l) :
    Calls Try.prog 66 #[.slice a l.length cap] w fun e w' => e = .returned (.tuple #[.int .i64 (sumIn l), .int .i64 (sumOut l)]) ∧ Below w.heap.size w w' := by
  have hl := hs.1
  go_enter Try.func66, Try.ntmps66
  go_wp2
  go_loopw [2, 3, 8] (fun m n i wr => ∃ k : Nat, k ≤ l.length ∧ i = .int .i64 k ∧ m = .int .i64 (sumIn (l.take k)) ∧ n = .int .i64 (sumOut (l.take k)) ∧ Below w.heap.size w wr) (fun _ _ i _ => l.length - (intOf i).toNat)
  case atStart => exact ⟨0, Nat.zero_le _, rfl, rfl, rfl, Below.refl _ _⟩
  case round =>
    obtain ⟨k, hk, rfl, rfl, rfl, hb⟩ := hrel
    by_cases hlt : k < l.length
    · obtain ⟨p, hpk⟩ : ∃ p, l[k]? = some p := ⟨l[k], List.getElem?_eq_getElem hlt⟩
      have Hsn : Hid _ := sumIn_snoc hpk
      have Hsm : Hid _ := sumOut_snoc hpk
      have hbd := sumIn_bd (hs.take k).2
      have hbd' := sumOut_bd (hs.take k).2
      have hpb := hs.2 p (List.mem_of_getElem? hpk)
      have htl : (l.take k).length ≤ 1600 := (hs.take k).1
      have hw1 : 0 ≤ widthI p.k p.n p.t ∧ widthI p.k p.n p.t ≤ 500 := by unfold widthI; split <;> omega
      obtain ⟨b, off, rfl, hblt, c1, c2, c3⟩ := (hp.below hb (Nat.le_refl _)).mem hpk
      have HB : Hid _ := hb
      have hz := hb.size
      clear hp hs hpk hb
      by_cases h3 : p.k = 3
      · have h3' : (p.k != 3) = false := by simp [h3]
        have h2' : (p.k != 2) = true := by simp [h3]
        have H3 : Hid _ := h3
        clear h3
        go_wp2_with fail
        refine (width_any p.k p.n p.t _ (by omega)).mono ?_
        rintro e w1 ⟨rfl, hb1⟩
        obtain ⟨hc, hf⟩ := bcell hb1
        have hz1 : wr.heap.size + 1 ≤ w1.heap.size := by have := hb1.size; simpa using this
        have HB1 : Hid _ := hb1
        clear hb1
        go_wp2_with fail
        go_roundw
        case rel => exact ⟨k + 1, by omega, by go_num, by rw [Hsn.out, if_neg (by rw [H3.out]; omega)], by rw [Hsm.out, if_pos H3.out]; simp, (HB.out.alloc hz _).trans (HB1.out.mono (by simp; omega))⟩
        case measure => simp [intOf]; omega
      · have h3' : (p.k != 3) = true := by simp [h3]
        by_cases h2 : p.k = 2
        · have h2' : (p.k != 2) = false := by simp [h2]
          have H3 : Hid _ := h3
          have H2 : Hid _ := h2
          clear h3 h2
          go_wp2_with fail
          refine (width_any p.k p.n p.t _ (by omega)).mono ?_
          rintro e w1 ⟨rfl, hb1⟩
          obtain ⟨hc, hf⟩ := bcell hb1
          have hz1 : wr.heap.size + 1 ≤ w1.heap.size := by have := hb1.size; simpa using this
          have HB1 : Hid _ := hb1
          clear hb1
          go_wp2_with fail
          go_roundw
          case rel => exact ⟨k + 1, by omega, by go_num, by rw [Hsn.out, if_pos H2.out]; simp, by rw [Hsm.out, if_neg H3.out], (HB.out.alloc hz _).trans (HB1.out.mono (by simp; omega))⟩
          case measure => simp [intOf]; omega
        · have h2' : (p.k != 2) = true := by simp [h2]
          have H3 : Hid _ := h3
          have H2 : Hid _ := h2
          clear h3 h2
          go_wp2_with fail
          refine (width_any p.k p.n p.t _ (by omega)).mono ?_
          rintro e w1 ⟨rfl, hb1⟩
          obtain ⟨hc, hf⟩ := bcell hb1
          have hz1 : wr.heap.size + 1 ≤ w1.heap.size := by have := hb1.size; simpa using this
          have HB1 : Hid _ := hb1
          clear hb1
          go_wp2_with fail
          refine (width_any p.k p.n p.t _ (by omega)).mono ?_
          rintro e w2 ⟨rfl, hb2⟩
          have HB2 : Hid _ := hb2
          clear hb2
          go_wp2_with fail
          go_roundw
          case rel => exact ⟨k + 1, by omega, by go_num, by rw [Hsn.out, if_neg H2.out], by rw [Hsm.out, if_neg H3.out], ((HB.out.alloc hz _).trans (HB1.out.mono (by simp; omega))).trans (HB2.out.mono (by omega))⟩
          case measure => simp [intOf]; omega
    · go_wp2
      go_ret2
      exact ⟨by rw [List.take_of_length_le (by omega)]; rfl, hb⟩

end Go.Proofs.Ytjfeaedjifpahaa
