/- What the document's own Common answers. -/
import Derived.Test.YtcghojnmnmmpoaaDiffRow
import Derived.Deep.QuietTactic
import Derived.BigQuiet
namespace Go.Proofs.Ytcghojnmnmmpoaa
open Go.RowKit
set_option linter.unusedSimpArgs false
set_option linter.unusedVariables false

def fwdRow (S t : List UInt8) : List Nat := (List.range (t.length + 1)).map (fun j => lcs S (t.take j))
def fwdPart (c : UInt8) (S t : List UInt8) (k : Nat) : List Nat := (List.range (t.length + 1)).map (fun j => if j ≤ k then lcs (S ++ [c]) (t.take j) else 0)
theorem fwdRow_len (S t : List UInt8) : (fwdRow S t).length = t.length + 1 := by simp [fwdRow]
theorem fwdPart_len (c : UInt8) (S t : List UInt8) (k : Nat) : (fwdPart c S t k).length = t.length + 1 := by simp [fwdPart]
theorem fwdRow_at {S t : List UInt8} {j : Nat} (h : j ≤ t.length) : (fwdRow S t)[j]? = some (lcs S (t.take j)) := by
  rw [fwdRow, List.getElem?_map, List.getElem?_range (by omega)]; rfl
theorem fwdPart_at {c : UInt8} {S t : List UInt8} {j k : Nat} (h : j ≤ t.length) : (fwdPart c S t k)[j]? = some (if j ≤ k then lcs (S ++ [c]) (t.take j) else 0) := by
  rw [fwdPart, List.getElem?_map, List.getElem?_range (by omega)]; rfl
theorem fwdPart_start (c : UInt8) (S t : List UInt8) : fwdPart c S t 0 = List.replicate (t.length + 1) 0 := by
  refine List.ext_getElem? fun i => ?_
  by_cases h : i ≤ t.length
  · have e2 : (List.replicate (t.length + 1) 0)[i]? = some 0 := by rw [List.getElem?_replicate, if_pos (by omega)]
    rw [fwdPart_at h, e2]
    split
    · rw [show i = 0 by omega, List.take_zero, lcs_nil]
    · rfl
  · rw [List.getElem?_eq_none (by rw [fwdPart_len]; omega), List.getElem?_eq_none (by simp; omega)]
theorem fwdRow_start (t : List UInt8) : fwdRow [] t = List.replicate (t.length + 1) 0 := by
  refine List.ext_getElem? fun i => ?_
  by_cases h : i ≤ t.length
  · have e2 : (List.replicate (t.length + 1) 0)[i]? = some 0 := by rw [List.getElem?_replicate, if_pos (by omega)]
    rw [fwdRow_at h, e2, lcs_nilL]
  · rw [List.getElem?_eq_none (by rw [fwdRow_len]; omega), List.getElem?_eq_none (by simp; omega)]
theorem fwdPart_end (c : UInt8) (S t : List UInt8) : fwdPart c S t t.length = fwdRow (S ++ [c]) t := by
  unfold fwdPart fwdRow
  refine List.map_congr_left fun j hj => ?_
  rw [List.mem_range] at hj
  rw [if_pos (by omega)]
theorem fwdPart_step (c : UInt8) (S t : List UInt8) {k : Nat} (hk : k < t.length) (x : Nat) (hx : lcs (S ++ [c]) (t.take (k + 1)) = x) : (fwdPart c S t k).set (k + 1) x = fwdPart c S t (k + 1) := by
  refine List.ext_getElem? fun i => ?_
  by_cases h : i ≤ t.length
  · by_cases e : i = k + 1
    · subst e
      rw [List.getElem?_set_self (by rw [fwdPart_len]; omega), fwdPart_at h, if_pos (Nat.le_refl _), hx]
    · rw [List.getElem?_set_ne (by omega), fwdPart_at h, fwdPart_at h]
      by_cases h2 : i ≤ k
      · rw [if_pos h2, if_pos (by omega)]
      · rw [if_neg h2, if_neg (by omega)]
  · rw [List.getElem?_eq_none (by rw [List.length_set, fwdPart_len]; omega), List.getElem?_eq_none (by rw [fwdPart_len]; omega)]
theorem take_byte {t : List UInt8} {k : Nat} {d : UInt8} (h : t[k]? = some d) : t.take (k + 1) = t.take k ++ [d] := by
  rw [List.take_add_one, h]; rfl

set_option maxRecDepth 20000 in
set_option maxHeartbeats 8000000 in
theorem Common_any (s t : ByteArray) (w : World) (hs : s.size ≤ 500) (ht : t.size ≤ 500) :
    Calls Try.prog 37 #[.string s, .string t] w fun e w' => e = .returned (.int .i64 (lcs s.data.toList t.data.toList)) ∧ Below w.heap.size w w' := by
  obtain ⟨ip, hip, hp0, hp1, hp2⟩ := info_parts infoInt
  have hsl : s.data.toList.length = s.size := Array.length_toList
  have htl : t.data.toList.length = t.size := Array.length_toList
  have HL : Hid (s.data.toList.length = s.size ∧ t.data.toList.length = t.size) := ⟨hsl, htl⟩
  have hbb : ip.bytes * (t.size + 1) ≤ 281474976710656 := by rw [hp2]; omega
  clear hsl htl
  go_enter Try.func37, Try.ntmps37
  go_wp2_with (at_make; refine wpList_make_full _ rfl _ _ 57 rfl w.heap.size 3 ip _ 1 Try.underlying57 hip hp0 hp1 .i64 .i64 _ _ (t.size + 1) rfl rfl ?m1 ?m2 hbb ?m3 (Nat.le_refl _) ?_)
  case m1 => go_num
  case m2 => go_num
  case m3 => unfold maxLen; omega
  intro w1 hown hgrow
  have HB1 : Hid (Below w.heap.size w w1) := (Below.refl _ _).grown hgrow (Nat.le_refl _) (fun k hk => by simp at hk)
  have HO1 : Hid (IntRow w1 w.heap.size w.heap.size (fwdRow (s.data.toList.take 0) t.data.toList)) := by
    show IntRow _ _ _ _
    rw [List.take_zero, fwdRow_start, HL.out.2]
    unfold IntRow
    rw [← made_ints, List.length_replicate]
    simpa [Value.cells] using hown
  clear hown hgrow
  go_wp2_with fail
  go_loopw [5, 15] (fun v x wr => ∃ (i g : Nat), i ≤ s.size ∧ v = .slice (some ⟨g, 0, none⟩) (t.size + 1) (t.size + 1) ∧ x = .int .i64 i ∧ IntRow wr w.heap.size g (fwdRow (s.data.toList.take i) t.data.toList) ∧ Below w.heap.size w wr) (fun _ x _ => s.size - (intOf x).toNat)
  case atStart => exact ⟨0, _, Nat.zero_le _, rfl, rfl, HO1.out, HB1.out⟩
  case round =>
    rename World => wr
    obtain ⟨i, g, hi, rfl, rfl, hrow, hb⟩ := hrel
    have hz := hb.size
    have HB : Hid (Below w.heap.size w wr) := hb
    have HR : Hid (IntRow wr w.heap.size g (fwdRow (s.data.toList.take i) t.data.toList)) := hrow
    have hgw := (IntRow.block hrow (by rw [fwdRow_len]; omega)).2
    by_cases hlt : i < s.size
    · obtain ⟨c, hc⟩ : ∃ c, s.data.toList[i]? = some c := ⟨s.data.toList[i]'(by have := HL.out.1; omega), List.getElem?_eq_getElem _⟩
      have hat := at_byte hc hlt
      have HTB : Hid _ := take_byte hc
      clear hrow hb hc
      go_wp2_with (at_make; refine wpList_make_full _ rfl _ _ 57 rfl wr.heap.size 3 ip _ 1 Try.underlying57 hip hp0 hp1 .i64 .i64 _ _ (t.size + 1) rfl rfl ?m1 ?m2 hbb ?m3 (Nat.le_refl _) ?_)
      case m1 => go_num
      case m2 => go_num
      case m3 => unfold maxLen; omega
      intro w2 hown hgrow
      have hb2 : Below wr.heap.size wr w2 := (Below.refl _ _).grown hgrow (Nat.le_refl _) (fun k hk => by simp at hk)
      have HB2 : Hid (Below w.heap.size w w2) := HB.out.trans (hb2.mono hz)
      have HR2 : Hid (IntRow w2 w.heap.size g (fwdRow (s.data.toList.take i) t.data.toList)) := IntRow.below HR.out hb2
      have HN2 : Hid (IntRow w2 wr.heap.size wr.heap.size (fwdPart c (s.data.toList.take i) t.data.toList 0)) := by
        show IntRow _ _ _ _
        rw [fwdPart_start, HL.out.2]
        unfold IntRow
        rw [← made_ints, List.length_replicate]
        simpa [Value.cells] using hown
      have hgne : g ≠ wr.heap.size := by omega
      clear hown hgrow hb2
      go_wp2_with fail
      go_loopw [24] (fun x wn => ∃ k : Nat, k ≤ t.size ∧ x = .int .i64 k ∧ IntRow wn w.heap.size g (fwdRow (s.data.toList.take i) t.data.toList) ∧ IntRow wn wr.heap.size wr.heap.size (fwdPart c (s.data.toList.take i) t.data.toList k) ∧ Below w.heap.size w wn) (fun x _ => t.size - (intOf x).toNat)
      case atStart => exact ⟨0, Nat.zero_le _, rfl, HR2.out, HN2.out, HB2.out⟩
      case round =>
        rename World => wn
        obtain ⟨k, hk, rfl, hr, hn, hb⟩ := hrel
        have HBn : Hid (Below w.heap.size w wn) := hb
        have HRn : Hid (IntRow wn w.heap.size g (fwdRow (s.data.toList.take i) t.data.toList)) := hr
        have HNn : Hid (IntRow wn wr.heap.size wr.heap.size (fwdPart c (s.data.toList.take i) t.data.toList k)) := hn
        by_cases hlk : k < t.size
        · obtain ⟨d, hd⟩ : ∃ d, t.data.toList[k]? = some d := ⟨t.data.toList[k]'(by have := HL.out.2; omega), List.getElem?_eq_getElem _⟩
          have hbt := at_byte hd hlk
          have HTD : Hid _ := take_byte hd
          have r0 := IntRow.cellOf hr (fwdRow_at (S := s.data.toList.take i) (j := k) (by rw [HL.out.2]; omega))
          have r1 := IntRow.cellOf hr (fwdRow_at (S := s.data.toList.take i) (j := k + 1) (by rw [HL.out.2]; omega))
          have n0 := IntRow.cellOf hn (fwdPart_at (c := c) (S := s.data.toList.take i) (j := k) (k := k) (by rw [HL.out.2]; omega))
          have n1 := IntRow.cellOf hn (fwdPart_at (c := c) (S := s.data.toList.take i) (j := k + 1) (k := k) (by rw [HL.out.2]; omega))
          rw [if_pos (Nat.le_refl _)] at n0
          rw [if_neg (by omega)] at n1
          have hfz := IntRow.frozen hn (k + 1)
          have hb1 := (IntRow.block hr (by rw [fwdRow_len]; omega)).2
          have hb2 := (IntRow.block hn (by rw [fwdPart_len]; omega)).2
          have l0 := lcs_leR (s.data.toList.take i) (t.data.toList.take k)
          have l1 := lcs_leR (s.data.toList.take i) (t.data.toList.take (k + 1))
          have l2 := lcs_leR (s.data.toList.take i ++ [c]) (t.data.toList.take k)
          rw [List.length_take, HL.out.2] at l0 l1 l2
          obtain ⟨x0, hx0⟩ : ∃ x, lcs (s.data.toList.take i) (t.data.toList.take k) = x := ⟨_, rfl⟩
          obtain ⟨x1, hx1⟩ : ∃ x, lcs (s.data.toList.take i) (t.data.toList.take (k + 1)) = x := ⟨_, rfl⟩
          obtain ⟨x2, hx2⟩ : ∃ x, lcs (s.data.toList.take i ++ [c]) (t.data.toList.take k) = x := ⟨_, rfl⟩
          rw [hx0] at r0 l0
          rw [hx1] at r1 l1
          rw [hx2] at n0 l2
          have HX : Hid (lcs (s.data.toList.take i) (t.data.toList.take k) = x0 ∧ lcs (s.data.toList.take i) (t.data.toList.take (k + 1)) = x1 ∧ lcs (s.data.toList.take i ++ [c]) (t.data.toList.take k) = x2) := ⟨hx0, hx1, hx2⟩
          have wk : IntKind.i64.wrap ((k : Int) + 1) = (k : Int) + 1 := IntWalk.i64_in _ ⟨by omega, by omega⟩
          clear hr hn hb hd hx0 hx1 hx2
          by_cases hm : x1 ≤ x2
          · have hm1 : ¬ (x2 : Int) < (x1 : Int) := by omega
            go_wp2_with fail
            go_region
            all_goals (
              have HN3 : Hid (IntRow (wn.setCell ⟨wr.heap.size, k + 1, none⟩ (.int .i64 x2)).drew wr.heap.size wr.heap.size ((fwdPart c (s.data.toList.take i) t.data.toList k).set (k + 1) x2)) := IntRow.drew (IntRow.put HNn.out (k + 1) x2)
              have HR3 : Hid (IntRow (wn.setCell ⟨wr.heap.size, k + 1, none⟩ (.int .i64 x2)).drew w.heap.size g (fwdRow (s.data.toList.take i) t.data.toList)) := IntRow.drew (IntRow.setOther HRn.out (fun e => hgne e.symm) _)
              have HB3 : Hid (Below w.heap.size w (wn.setCell ⟨wr.heap.size, k + 1, none⟩ (.int .i64 x2)).drew) := (HBn.out.setCell hz _).drew
              clear r0 r1 n0 n1 hfz hb1 hb2
              generalize (wn.setCell ⟨wr.heap.size, k + 1, none⟩ (.int .i64 x2)).drew = w3 at HN3 HR3 HB3 ⊢
              have r0 := IntRow.cellOf HR3.out (fwdRow_at (S := s.data.toList.take i) (j := k) (by rw [HL.out.2]; omega))
              rw [HX.out.1] at r0
              have n1 := IntRow.cellOf HN3.out (i := k + 1) (q := x2) (by rw [List.getElem?_set_self (by rw [fwdPart_len, HL.out.2]; omega)])
              have hfz := IntRow.frozen HN3.out (k + 1)
              have hb1 := (IntRow.block HR3.out (by rw [fwdRow_len]; omega)).2
              have hb2 := (IntRow.block HN3.out (by rw [List.length_set, fwdPart_len]; omega)).2
              by_cases hcd : c = d
              · subst hcd
                have HST : Hid _ := fwdPart_step c (s.data.toList.take i) t.data.toList (k := k) (by rw [HL.out.2]; omega) (x0 + 1) (by rw [HTD.out, lcs_snoc_eq, HX.out.1])
                go_wp2_with fail
                go_quiet (fail)
                rename Nat => nq
                go_wp2_with fail
                go_roundw
                case rel =>
                  refine ⟨k + 1, by omega, by go_num, ?_, ?_, ?_⟩
                  · exact IntRow.drewN (IntRow.setOther HR3.out (fun e => hgne e.symm) _) nq
                  · have h := IntRow.drewN (IntRow.put HN3.out (k + 1) (x0 + 1)) nq
                    rw [List.set_set, HST.out] at h
                    exact h
                  · exact below_drewN (HB3.out.setCell hz _) nq
                case measure => simp [intOf]; omega
              · have hne : ((c.toNat : Int) == (d.toNat : Int)) = false := by
                  rw [beq_eq_false_iff_ne]; intro h; exact hcd (UInt8.toNat_inj.1 (by omega))
                have HST : Hid _ := fwdPart_step c (s.data.toList.take i) t.data.toList (k := k) (by rw [HL.out.2]; omega) x2 (by rw [HTD.out, lcs_snoc_ne hcd, ← HTD.out, HX.out.2.1, HX.out.2.2]; omega)
                go_wp2_with fail
                go_quiet (fail)
                rename Nat => nq
                go_wp2_with fail
                go_roundw
                case rel =>
                  refine ⟨k + 1, by omega, by go_num, ?_, ?_, ?_⟩
                  · exact IntRow.drewN HR3.out nq
                  · have h := IntRow.drewN HN3.out nq
                    rw [HST.out] at h
                    exact h
                  · exact below_drewN HB3.out nq
                case measure => simp [intOf]; omega)
          · have hm1 : (x2 : Int) < (x1 : Int) := by omega
            go_wp2_with fail
            go_region
            all_goals (
              have HN3 : Hid (IntRow (wn.setCell ⟨wr.heap.size, k + 1, none⟩ (.int .i64 x1)).drew wr.heap.size wr.heap.size ((fwdPart c (s.data.toList.take i) t.data.toList k).set (k + 1) x1)) := IntRow.drew (IntRow.put HNn.out (k + 1) x1)
              have HR3 : Hid (IntRow (wn.setCell ⟨wr.heap.size, k + 1, none⟩ (.int .i64 x1)).drew w.heap.size g (fwdRow (s.data.toList.take i) t.data.toList)) := IntRow.drew (IntRow.setOther HRn.out (fun e => hgne e.symm) _)
              have HB3 : Hid (Below w.heap.size w (wn.setCell ⟨wr.heap.size, k + 1, none⟩ (.int .i64 x1)).drew) := (HBn.out.setCell hz _).drew
              clear r0 r1 n0 n1 hfz hb1 hb2
              generalize (wn.setCell ⟨wr.heap.size, k + 1, none⟩ (.int .i64 x1)).drew = w3 at HN3 HR3 HB3 ⊢
              have r0 := IntRow.cellOf HR3.out (fwdRow_at (S := s.data.toList.take i) (j := k) (by rw [HL.out.2]; omega))
              rw [HX.out.1] at r0
              have n1 := IntRow.cellOf HN3.out (i := k + 1) (q := x1) (by rw [List.getElem?_set_self (by rw [fwdPart_len, HL.out.2]; omega)])
              have hfz := IntRow.frozen HN3.out (k + 1)
              have hb1 := (IntRow.block HR3.out (by rw [fwdRow_len]; omega)).2
              have hb2 := (IntRow.block HN3.out (by rw [List.length_set, fwdPart_len]; omega)).2
              by_cases hcd : c = d
              · subst hcd
                have HST : Hid _ := fwdPart_step c (s.data.toList.take i) t.data.toList (k := k) (by rw [HL.out.2]; omega) (x0 + 1) (by rw [HTD.out, lcs_snoc_eq, HX.out.1])
                go_wp2_with fail
                go_quiet (fail)
                rename Nat => nq
                go_wp2_with fail
                go_roundw
                case rel =>
                  refine ⟨k + 1, by omega, by go_num, ?_, ?_, ?_⟩
                  · exact IntRow.drewN (IntRow.setOther HR3.out (fun e => hgne e.symm) _) nq
                  · have h := IntRow.drewN (IntRow.put HN3.out (k + 1) (x0 + 1)) nq
                    rw [List.set_set, HST.out] at h
                    exact h
                  · exact below_drewN (HB3.out.setCell hz _) nq
                case measure => simp [intOf]; omega
              · have hne : ((c.toNat : Int) == (d.toNat : Int)) = false := by
                  rw [beq_eq_false_iff_ne]; intro h; exact hcd (UInt8.toNat_inj.1 (by omega))
                have HST : Hid _ := fwdPart_step c (s.data.toList.take i) t.data.toList (k := k) (by rw [HL.out.2]; omega) x1 (by rw [HTD.out, lcs_snoc_ne hcd, ← HTD.out, HX.out.2.1, HX.out.2.2]; omega)
                go_wp2_with fail
                go_quiet (fail)
                rename Nat => nq
                go_wp2_with fail
                go_roundw
                case rel =>
                  refine ⟨k + 1, by omega, by go_num, ?_, ?_, ?_⟩
                  · exact IntRow.drewN HR3.out nq
                  · have h := IntRow.drewN HN3.out nq
                    rw [HST.out] at h
                    exact h
                  · exact below_drewN HB3.out nq
                case measure => simp [intOf]; omega)
        · obtain rfl : k = t.size := by omega
          have HE : Hid (IntRow wn w.heap.size wr.heap.size (fwdRow (s.data.toList.take (i + 1)) t.data.toList)) := by
            show IntRow _ _ _ _
            have h := hn
            rw [show t.size = t.data.toList.length from HL.out.2.symm, fwdPart_end, ← HTB.out] at h
            exact ⟨h.1, h.2.imp id fun ⟨g, cap, cur, h1, h2, r⟩ => ⟨g, cap, cur, h1, Nat.le_trans hz h2, r⟩⟩
          clear hr hn hb
          go_wp2_with fail
          go_roundw
          case rel => exact ⟨i + 1, wr.heap.size, by omega, rfl, by go_num, HE.out, HBn.out⟩
          case measure => simp [intOf]; omega
    · obtain rfl : i = s.size := by omega
      have hcell := IntRow.cellOf hrow (fwdRow_at (S := s.data.toList.take s.size) (t := t.data.toList) (j := t.size) (by rw [HL.out.2]; exact Nat.le_refl _))
      rw [List.take_of_length_le (by rw [HL.out.1]; exact Nat.le_refl _), List.take_of_length_le (by rw [HL.out.2]; exact Nat.le_refl _)] at hcell
      clear hrow hb
      go_wp2_with fail
      go_ret
      exact ⟨rfl, HB.out⟩
end Go.Proofs.Ytcghojnmnmmpoaa
