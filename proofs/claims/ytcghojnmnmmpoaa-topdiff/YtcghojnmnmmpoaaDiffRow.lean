/- What diff.row answers. -/
import Derived.Test.YtcghojnmnmmpoaaLcs
import Derived.Test.YtcghojnmnmmpoaaIntRow
import Derived.RegionTactic
import Derived.Deep.RegionWith
namespace Go.Proofs.Ytcghojnmnmmpoaa
open Go.RowKit
set_option linter.unusedSimpArgs false
set_option linter.unusedVariables false

def lcsRow (S t : List UInt8) : List Nat := (List.range (t.length + 1)).map (fun j => lcs S (t.drop j))
def lcsPart (c : UInt8) (S t : List UInt8) (k : Nat) : List Nat := (List.range (t.length + 1)).map (fun j => if k ≤ j then lcs (c :: S) (t.drop j) else 0)
theorem lcsRow_len (S t : List UInt8) : (lcsRow S t).length = t.length + 1 := by simp [lcsRow]
theorem lcsPart_len (c : UInt8) (S t : List UInt8) (k : Nat) : (lcsPart c S t k).length = t.length + 1 := by simp [lcsPart]
theorem lcsRow_at {S t : List UInt8} {j : Nat} (h : j ≤ t.length) : (lcsRow S t)[j]? = some (lcs S (t.drop j)) := by
  rw [lcsRow, List.getElem?_map, List.getElem?_range (by omega)]; rfl
theorem lcsPart_at {c : UInt8} {S t : List UInt8} {j k : Nat} (h : j ≤ t.length) : (lcsPart c S t k)[j]? = some (if k ≤ j then lcs (c :: S) (t.drop j) else 0) := by
  rw [lcsPart, List.getElem?_map, List.getElem?_range (by omega)]; rfl
theorem lcsPart_start (c : UInt8) (S t : List UInt8) : lcsPart c S t t.length = List.replicate (t.length + 1) 0 := by
  refine List.ext_getElem? fun i => ?_
  by_cases h : i ≤ t.length
  · have e2 : (List.replicate (t.length + 1) 0)[i]? = some 0 := by rw [List.getElem?_replicate, if_pos (by omega)]
    rw [lcsPart_at h, e2]
    split
    · rw [show i = t.length by omega, List.drop_length, lcs_nil]
    · rfl
  · rw [List.getElem?_eq_none (by rw [lcsPart_len]; omega), List.getElem?_eq_none (by simp; omega)]
theorem lcsPart_end (c : UInt8) (S t : List UInt8) : lcsPart c S t 0 = lcsRow (c :: S) t := by
  simp [lcsPart, lcsRow]
theorem lcsPart_step (c : UInt8) (S t : List UInt8) {k : Nat} (hk : k ≤ t.length) : (lcsPart c S t (k + 1)).set k (lcs (c :: S) (t.drop k)) = lcsPart c S t k := by
  refine List.ext_getElem? fun i => ?_
  by_cases h : i ≤ t.length
  · by_cases e : i = k
    · subst e
      rw [List.getElem?_set_self (by rw [lcsPart_len]; omega), lcsPart_at h, if_pos (Nat.le_refl _)]
    · rw [List.getElem?_set_ne (by omega), lcsPart_at h, lcsPart_at h]
      by_cases h2 : k + 1 ≤ i
      · rw [if_pos h2, if_pos (by omega)]
      · rw [if_neg h2, if_neg (by omega)]
  · rw [List.getElem?_eq_none (by rw [List.length_set, lcsPart_len]; omega), List.getElem?_eq_none (by rw [lcsPart_len]; omega)]
theorem IntRow.setOther {w : World} {B g : Nat} {l : List Nat} (h : IntRow w B g l) {p : Addr} (hp : p.block ≠ g) (v : Value) : IntRow (w.setCell p v) B g l := by
  refine ⟨h.1, ?_⟩
  rcases h.2 with h0 | ⟨g', cap, cur, h1, hB, hc, h2⟩
  · exact .inl h0
  · have e : g' = g := by simp only [Value.slice.injEq, Option.some.injEq, Addr.mk.injEq, and_true] at h1; exact h1.1.symm
    refine .inr ⟨g', cap, cur, h1, hB, ?_, h2⟩
    rw [Below.heap_setCell _ _ _ _ (by rw [e]; exact fun x => hp x.symm)]
    exact hc

set_option maxRecDepth 20000 in
set_option maxHeartbeats 4000000 in
theorem row_any (b : UInt8) (t : ByteArray) (S : List UInt8) (B gn : Nat) (w : World) (hr : IntRow w B gn (lcsRow S t.data.toList)) (ht : t.size ≤ 500) :
    Calls Try.prog 104 #[.int .u8 b.toNat, .string t, .slice (some ⟨gn, 0, none⟩) (t.size + 1) (t.size + 1)] w fun e w' => ∃ g : Nat, e = .returned (.slice (some ⟨g, 0, none⟩) (t.size + 1) (t.size + 1)) ∧ IntRow w' w.heap.size g (lcsRow (b :: S) t.data.toList) ∧ Below w.heap.size w w' := by
  obtain ⟨ip, hip, hp0, hp1, hp2⟩ := info_parts infoInt
  have htl : t.data.toList.length = t.size := Array.length_toList
  have HTL : Hid (t.data.toList.length = t.size) := htl
  have hbb : ip.bytes * (t.size + 1) ≤ 281474976710656 := by rw [hp2]; omega
  have hbl := (hr.block (by rw [lcsRow_len]; omega)).2
  have HN : Hid (IntRow w B gn (lcsRow S t.data.toList)) := hr
  clear htl hr
  go_enter Try.func104, Try.ntmps104
  go_wp2_with (at_make; refine wpList_make_full _ rfl _ _ 57 rfl w.heap.size 3 ip _ 1 Try.underlying57 hip hp0 hp1 .i64 .i64 _ _ (t.size + 1) rfl rfl ?m1 ?m2 hbb ?m3 (Nat.le_refl _) ?_)
  case m1 => go_num
  case m2 => go_num
  case m3 => unfold maxLen; omega
  intro w1 hown hgrow
  have HB1 : Hid (Below w.heap.size w w1) := (Below.refl _ _).grown hgrow (Nat.le_refl _) (fun k hk => by simp at hk)
  have HO1 : Hid (IntRow w1 w.heap.size w.heap.size (lcsPart b S t.data.toList t.size)) := by
    show IntRow _ _ _ _
    have h1 := lcsPart_start b S t.data.toList
    rw [HTL.out] at h1
    rw [h1]
    unfold IntRow
    rw [← made_ints, List.length_replicate]
    simpa [Value.cells] using hown
  clear hown hgrow
  go_wp2_with fail
  go_loopw [8] (fun i wr => ∃ (k : Nat), k ≤ t.size ∧ i = .int .i64 ((k : Int) - 1) ∧ IntRow wr w.heap.size w.heap.size (lcsPart b S t.data.toList k) ∧ Below w.heap.size w wr) (fun i _ => (intOf i + 1).toNat)
  case atStart => exact ⟨t.size, Nat.le_refl _, rfl, HO1.out, HB1.out⟩
  case round =>
    rename World => wo
    obtain ⟨k, hk, rfl, hr, hb⟩ := hrel
    have hz := hb.size
    by_cases hk0 : k = 0
    · subst hk0
      have HR : Hid (IntRow wo w.heap.size w.heap.size (lcsRow (b :: S) t.data.toList) ∧ Below w.heap.size w wo) := ⟨by rw [← lcsPart_end]; exact hr, hb⟩
      clear hr hb
      go_wp2_with fail
      go_ret
      exact ⟨_, rfl, HR.out.1, HR.out.2⟩
    · obtain ⟨j, rfl⟩ : ∃ j, k = j + 1 := ⟨k - 1, by omega⟩
      have hjw : ((j + 1 : Nat) : Int) - 1 = (j : Int) := by omega
      obtain ⟨c, hc⟩ : ∃ c, t.data.toList[j]? = some c := ⟨t.data.toList[j]'(by have := HTL.out; omega), List.getElem?_eq_getElem _⟩
      have hat := at_byte hc (by omega)
      have hdr : t.data.toList.drop j = c :: t.data.toList.drop (j + 1) := by
        obtain ⟨h1, h2⟩ := List.getElem?_eq_some_iff.1 hc
        rw [List.drop_eq_getElem_cons h1, h2]
      have hbz := (IntRow.block hr (by rw [lcsPart_len]; omega)).2
      have n1 := IntRow.cellOf (IntRow.below HN.out hb) (lcsRow_at (S := S) (t := t.data.toList) (j := j + 1) (by rw [HTL.out]; omega))
      have n0 := IntRow.cellOf (IntRow.below HN.out hb) (lcsRow_at (S := S) (t := t.data.toList) (j := j) (by rw [HTL.out]; omega))
      have m1 := IntRow.cellOf hr (lcsPart_at (c := b) (S := S) (t := t.data.toList) (j := j + 1) (k := j + 1) (by rw [HTL.out]; omega))
      have m0 := IntRow.cellOf hr (lcsPart_at (c := b) (S := S) (t := t.data.toList) (j := j) (k := j + 1) (by rw [HTL.out]; omega))
      rw [if_pos (Nat.le_refl _)] at m1
      rw [if_neg (by omega)] at m0
      have hfz := IntRow.frozen hr j
      have hl1 := lcs_leR S (t.data.toList.drop (j + 1))
      have hl0 := lcs_leR S (t.data.toList.drop j)
      have hl2 := lcs_leR (b :: S) (t.data.toList.drop (j + 1))
      rw [List.length_drop, HTL.out] at hl1 hl0 hl2
      have HS : Hid _ := lcsPart_step b S t.data.toList (k := j) (by rw [HTL.out]; omega)
      have HR : Hid _ := hr
      have HB : Hid _ := hb
      have HLL : Hid _ := lcsPart_len b S t.data.toList (j + 1)
      by_cases hcb : c = b
      · subst hcb
        have HE : Hid (lcs (c :: S) (t.data.toList.drop j) = lcs S (t.data.toList.drop (j + 1)) + 1) := by show _ = _; rw [hdr, lcs_eq]
        obtain ⟨x1, hx1⟩ : ∃ x, lcs S (t.data.toList.drop (j + 1)) = x := ⟨_, rfl⟩
        rw [hx1] at n1 hl1
        have HX : Hid _ := hx1
        clear hc hdr hr hb n0 m1 hl0 hl2 hx1
        go_wp2_with fail
        go_roundw
        case rel =>
          refine ⟨j, by omega, by first | rfl | go_num, ?_, ?_⟩
          · rw [← HS.out, HE.out, HX.out]
            exact IntRow.put HR.out j (x1 + 1)
          · exact HB.out.setCell (Nat.le_refl _) _
        case measure => first | (simp [intOf]; done) | (simp [intOf]; omega)
      · have hne : ((c.toNat : Int) == (b.toNat : Int)) = false := by
          rw [beq_eq_false_iff_ne]; intro h; exact hcb (UInt8.toNat_inj.1 (by omega))
        have HE : Hid (lcs (b :: S) (t.data.toList.drop j) = max (lcs S (t.data.toList.drop j)) (lcs (b :: S) (t.data.toList.drop (j + 1)))) := by
          show _ = _
          rw [hdr, lcs_ne (fun h => hcb h.symm)]
        obtain ⟨x0, hx0⟩ : ∃ x, lcs S (t.data.toList.drop j) = x := ⟨_, rfl⟩
        obtain ⟨x2, hx2⟩ : ∃ x, lcs (b :: S) (t.data.toList.drop (j + 1)) = x := ⟨_, rfl⟩
        rw [hx0] at n0 hl0
        rw [hx2] at m1 hl2
        have HX : Hid (lcs S (t.data.toList.drop j) = x0 ∧ lcs (b :: S) (t.data.toList.drop (j + 1)) = x2) := ⟨hx0, hx2⟩
        have hjw2 : IntKind.i64.wrap ((j : Int) + 1) = (j : Int) + 1 := IntWalk.i64_in _ ⟨by omega, by omega⟩
        clear hc hdr hr hb n1 hl1 hx0 hx2
        by_cases hm : x2 ≤ x0
        · have hmx : max x0 x2 = x0 := Nat.max_eq_left hm
          have HM : Hid _ := hmx
          have hm1 : ¬ (x0 : Int) < (x2 : Int) := by omega
          clear hmx
          go_wp2_with fail
          go_region
          all_goals (
            go_wp2_with fail
            go_roundw
            case rel =>
              refine ⟨j, by omega, by first | rfl | go_num | (congr 1; omega), ?_, ?_⟩
              · rw [← HS.out, HE.out, HX.out.1, HX.out.2, HM.out]
                exact IntRow.drew (IntRow.put HR.out j x0)
              · exact (HB.out.setCell (Nat.le_refl _) _).drew
            case measure => first | (simp [intOf]; done) | (simp [intOf]; omega))
        · have hmx : max x0 x2 = x2 := Nat.max_eq_right (by omega)
          have HM : Hid _ := hmx
          have hm1 : (x0 : Int) < (x2 : Int) := by omega
          clear hmx
          go_wp2_with fail
          go_region
          all_goals (
            go_wp2_with fail
            go_roundw
            case rel =>
              refine ⟨j, by omega, by first | rfl | go_num | (congr 1; omega), ?_, ?_⟩
              · rw [← HS.out, HE.out, HX.out.1, HX.out.2, HM.out]
                exact IntRow.drew (IntRow.put HR.out j x2)
              · exact (HB.out.setCell (Nat.le_refl _) _).drew
            case measure => first | (simp [intOf]; done) | (simp [intOf]; omega))
end Go.Proofs.Ytcghojnmnmmpoaa
