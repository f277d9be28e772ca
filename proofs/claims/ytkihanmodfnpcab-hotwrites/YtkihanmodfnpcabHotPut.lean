/- What hot.writeNums answers. -/
import Derived.Test.YtkihanmodfnpcabHotP
import Derived.Test.YtkihanmodfnpcabIzMem
import Derived.Test.YtkihanmodfnpcabCodeWrite
import Derived.Test.YtkihanmodfnpcabFramePut
import Derived.Test.YtkihanmodfnpcabRevOne
namespace Go.Proofs.Ytkihanmodfnpcab
open Go.RowKit
set_option linter.unusedSimpArgs false
set_option linter.unusedVariables false

/-- what is wrong with numbers that are put, and the bytes -/
def wnE : List Int → Int
  | [] => 0
  | n :: l => if 0 ≤ n ∧ n ≤ 2147483647 then wnE l else 1
def wnT (l : List Int) : List UInt8 := if wnE l = 0 then numsL (l.map Int.toNat) else []
theorem wn_drop {l : List Int} {k : Nat} {n : Int} (h : l[k]? = some n) : wnE (l.drop k) = if 0 ≤ n ∧ n ≤ 2147483647 then wnE (l.drop (k + 1)) else 1 := by
  obtain ⟨hk, rfl⟩ := List.getElem?_eq_some_iff.1 h
  rw [List.drop_eq_getElem_cons hk, wnE]
theorem wn_take {l : List Int} {k : Nat} {n : Int} (h : l[k]? = some n) : numsL ((l.take (k + 1)).map Int.toNat) = numsL ((l.take k).map Int.toNat) ++ numL n.toNat := by
  rw [List.take_add_one, h]
  simp [numsL]

theorem ret_num {s t : List UInt8} {x y : Int} (h1 : s = t) (h2 : x = y) : Ending.returned (.tuple #[.string ⟨s.toArray⟩, .int .i64 x]) = .returned (.tuple #[.string ⟨t.toArray⟩, .int .i64 y]) := by rw [h1, h2]
set_option maxRecDepth 20000 in
set_option maxHeartbeats 2000000 in
theorem writeNums_any (a : Option Addr) (l : List Int) (cap : Nat) (w : World) (hp : IzAt w w.heap.size a l cap) (h100 : l.length ≤ 100) :
    Calls Try.prog 31 #[.slice a l.length cap] w fun e w' => e = .returned (.tuple #[.string ⟨(wnT l).toArray⟩, .int .i64 (wnE l)]) ∧ Below w.heap.size w w' := by
  have HP : Hid (IzAt w w.heap.size a l cap) := hp
  have HL : Hid (l.length ≤ 100) := h100
  clear hp
  go_enter Try.func31, Try.ntmps31
  go_wp2_with fail
  go_loopw [11] (fun i wr => ∃ (k : Nat) (acc : List UInt8), k ≤ l.length ∧ i = .int .i64 k ∧ Lib.IsBuilderF 98 5 w.heap.size w.heap.size (Lib.byteCells acc) wr ∧ Below w.heap.size w wr ∧
      acc = numsL ((l.take k).map Int.toNat) ∧ wnE (l.drop k) = wnE l ∧ acc.length ≤ 5 * k) (fun i _ => l.length - (intOf i).toNat)
  case atStart =>
    exact ⟨0, [], Nat.zero_le _, rfl, Lib.IsBuilderF.of (Lib.fresh_isBuilder 98 5 w), (Below.refl _ w).alloc (Nat.le_refl _) _, rfl, rfl, Nat.le_refl _⟩
  case round =>
    rename World => wr
    obtain ⟨k, acc, hk, rfl, hI, hb, hx, hE, hacc⟩ := hrel
    have hz := hb.size
    have HI : Hid (Lib.IsBuilderF 98 5 w.heap.size w.heap.size (Lib.byteCells acc) wr) := hI
    have HB : Hid (Below w.heap.size w wr) := hb
    have hbl : w.heap.size < wr.heap.size := hI.elim (fun h => h.lt) (fun h => h.lt)
    have HX : Hid (acc = numsL ((l.take k).map Int.toNat)) := hx
    have HE : Hid (wnE (l.drop k) = wnE l) := hE
    by_cases hlt : k < l.length
    · obtain ⟨n, hn⟩ : ∃ n, l[k]? = some n := ⟨l[k], List.getElem?_eq_getElem hlt⟩
      obtain ⟨b, off, rfl, hblt, c1⟩ := (HP.out.below hb (Nat.le_refl _)).mem hn
      have hbw : b < wr.heap.size := by omega
      have hki : (k : Int) < (l.length : Int) := by omega
      have HD : Hid _ := wn_drop hn
      have HT : Hid _ := wn_take hn
      clear hI hb hx hE hn
      by_cases hr : 0 ≤ n ∧ n ≤ 2147483647
      · obtain ⟨m, rfl⟩ : ∃ m : Nat, n = (m : Int) := ⟨n.toNat, by omega⟩
        have hPut : Hid _ := fun w => Put_ok m w (by omega)
        have h5 := num_five (n := m) (by omega)
        have HR : Hid (0 ≤ (m : Int) ∧ (m : Int) ≤ 2147483647) := hr
        obtain ⟨t, ht⟩ : ∃ t, numL m = t := ⟨_, rfl⟩
        have HTT : Hid (numL ((m : Int).toNat) = t) := by show _ = _; rw [Int.toNat_natCast]; exact ht
        rw [ht] at hPut h5
        clear hr ht
        go_wp2_with fail
        refine (hPut.out _).mono ?_
        rintro e w1 ⟨rfl, hb1⟩
        have HI1 : Hid (Lib.IsBuilderF 98 5 w.heap.size w.heap.size (Lib.byteCells acc) w1) := bld_below HI.out hb1
        have HB1 : Hid (Below w.heap.size w w1) := HB.out.trans (hb1.mono hz)
        have hz1 := HB1.out.size
        clear hb1
        go_wp2_with fail
        refine (WriteString_any w.heap.size w.heap.size (Lib.byteCells acc) ⟨t.toArray⟩ _ HI1.out ?h2 (by omega)).mono ?_
        case h2 =>
          rw [Lib.byteCells_length]
          show _ + t.toArray.size ≤ _
          simp; omega
        rintro e w2 ⟨rfl, hA2, hb2, _⟩
        have HA2 : Hid _ := hA2
        have HB2 : Hid (Below w.heap.size w w2) := HB1.out.trans hb2
        clear hA2 hb2
        go_wp2_with fail
        go_roundw
        case rel =>
          refine ⟨k + 1, acc ++ t, by omega, by go_num, Or.inr ?_, HB2.out, ?_, ?_, by rw [List.length_append]; omega⟩
          · have h := HA2.out
            rw [Lib.strCells_eq, ← Lib.byteCells_append] at h
            exact h
          · rw [HT.out, HTT.out, HX.out]
          · rw [← HE.out, HD.out, if_pos HR.out]
        case measure => simp [intOf]; omega
      · have hPut : Hid _ := fun w => Put_not n w (by omega)
        have HE1 : Hid (wnE l = 1 ∧ wnT l = []) := by
          have h1 : wnE l = 1 := by rw [← HE.out, HD.out, if_neg hr]
          exact ⟨h1, by rw [wnT, if_neg (by omega)]⟩
        clear hr
        go_wp2_with fail
        refine (hPut.out _).mono ?_
        rintro e w1 ⟨rfl, e1⟩
        subst e1
        go_wp2_with fail
        go_ret2
        exact ⟨ret_num (s := []) HE1.out.2.symm HE1.out.1.symm, HB.out⟩
    · have hkk : k = l.length := by omega
      have hki : ¬ (k : Int) < (l.length : Int) := by omega
      have HE1 : Hid (wnE l = 0 ∧ wnT l = acc) := by
        have h1 : wnE l = 0 := by rw [← hE, List.drop_eq_nil_of_le (by omega)]; rfl
        exact ⟨h1, by rw [wnT, if_pos h1, hx, List.take_of_length_le (by omega)]⟩
      clear hI hb hx hE hkk
      go_wp2_with fail
      refine (String_any w.heap.size w.heap.size acc _ HI.out (by omega)).mono ?_
      rintro e w1 ⟨rfl, _, hb1, _⟩
      have HB1 : Hid (Below w.heap.size w w1) := HB.out.trans hb1
      clear hb1
      go_wp2_with fail
      go_ret2
      exact ⟨ret_num HE1.out.2.symm HE1.out.1.symm, HB1.out⟩
/-- what hot.Rev answers -/
def rvfE (r : Rv) : Int := if oneE r = 0 then putE 2 (revB r) else oneE r
def rvfT (r : Rv) : List UInt8 := if oneE r = 0 then putT 2 (revB r) else []
theorem rvf_ok {r : Rv} (h : oneE r = 0) : rvfE r = 0 ∧ rvfT r = frameL 2 (revB r) := by
  have h2 : putE 2 (revB r) = 0 := putE_of (by decide) (by decide) (rev_len h)
  exact ⟨by rw [rvfE, if_pos h, h2], by rw [rvfT, if_pos h, putT, if_pos h2]; rfl⟩
theorem cat_text (a b : List UInt8) : (⟨a.toArray⟩ ++ ⟨b.toArray⟩ : ByteArray) = ⟨(a ++ b).toArray⟩ := by
  apply ByteArray.ext
  simp
theorem iz_two (w : World) (x y : Int) : IzAt (w.alloc (.cells #[.int .i64 x, .int .i64 y] 3)) (w.alloc (.cells #[.int .i64 x, .int .i64 y] 3)).heap.size (some ⟨w.heap.size, 0, none⟩) [x, y] 2 := by
  have h : (w.alloc (.cells #[.int .i64 x, .int .i64 y] 3)).heap[w.heap.size]? = some (.cells #[.int .i64 x, .int .i64 y] 3 (0, 0)) := Deep.blk_alloc_new w _
  refine ⟨Nat.le_refl _, by decide, Nat.le_refl _, fun _ => ⟨w.heap.size, 0, rfl, by simp, fun i q hi => ?_⟩⟩
  match i, hi with
  | 0, hi => cases hi; exact Lib.cell_of_heap h 0
  | 1, hi => cases hi; exact Lib.cell_of_heap h 1
set_option maxRecDepth 20000 in
set_option maxHeartbeats 2000000 in
theorem HRev_any (r : Rv) (a : Option Addr) (c : Nat) (w : World) (hp : PartsAt w w.heap.size a r.d) :
    Calls Try.prog 12 #[.agg #[.int .i64 r.who, .int .i64 r.seq, .slice a r.d.length c]] w fun e w' => e = .returned (.tuple #[.string ⟨(rvfT r).toArray⟩, .int .i64 (rvfE r)]) ∧ Below w.heap.size w w' := by
  have HP : Hid (PartsAt w w.heap.size a r.d) := hp
  have HX : Hid _ := fun w hp => One_any r a c w hp
  clear hp
  go_enter Try.func12, Try.ntmps12
  go_wp2_with fail
  refine (HX.out _ (HP.out.here ((Below.refl _ w).alloc (Nat.le_refl _) _) (Nat.le_refl _))).mono ?_
  rintro e w1 ⟨rfl, hb1⟩
  have HB1 : Hid (Below w.heap.size w w1) := ((Below.refl _ w).alloc (Nat.le_refl _) _).trans (hb1.mono (by simp))
  have HR1 : Hid (RBox w1 w.heap.size r a c) := (rbox_new w r a c).below hb1
  clear hb1
  by_cases h0 : oneE r = 0
  · obtain ⟨⟨a1, a2, a3, a4⟩, hz⟩ := one_zero h0
    have hcl : (codeL r.d).length ≤ 4000 := by
      have h := rev_len h0
      rw [revB, List.length_append, List.length_append] at h
      omega
    have hwt : writeT r.d = codeL r.d := by simp [writeT, hz]
    have HW : Hid _ := fun w hp => Write_any a r.d c w hp
    rw [hwt, hz] at HW
    have HE : Hid (rvfE r = putE 2 (numsL [r.who.toNat, r.seq.toNat] ++ codeL r.d) ∧ rvfT r = putT 2 (numsL [r.who.toNat, r.seq.toNat] ++ codeL r.d)) := by
      have e : numsL [r.who.toNat, r.seq.toNat] ++ codeL r.d = revB r := by simp [numsL, revB]
      rw [e]
      exact ⟨by rw [rvfE, if_pos h0], by rw [rvfT, if_pos h0]⟩
    have hwE : wnE [r.who, r.seq] = 0 := by simp [wnE]; omega
    have hwT : wnT [r.who, r.seq] = numsL [r.who.toNat, r.seq.toNat] := by rw [wnT, if_pos hwE]; rfl
    have HN : Hid (∀ (w : World) (b : Option Addr), IzAt w w.heap.size b [r.who, r.seq] 2 → Calls Try.prog 31 #[.slice b 2 2] w fun e w' => e = .returned (.tuple #[.string ⟨(wnT [r.who, r.seq]).toArray⟩, .int .i64 (wnE [r.who, r.seq])]) ∧ Below w.heap.size w w') := fun w b hp => writeNums_any b [r.who, r.seq] 2 w hp (by simp)
    rw [hwE, hwT] at HN
    obtain ⟨t, ht⟩ : ∃ t, numsL [r.who.toNat, r.seq.toNat] = t := ⟨_, rfl⟩
    obtain ⟨u, hu⟩ : ∃ u, codeL r.d = u := ⟨_, rfl⟩
    have n1 := num_five (n := r.who.toNat) (by omega)
    have n2 := num_five (n := r.seq.toNat) (by omega)
    have htl : t.length ≤ 10 := by rw [← ht]; simp [numsL]; omega
    rw [ht] at HN HE
    rw [hu] at HW HE hcl
    have HPut : Hid _ := fun w => FPut_any 2 ⟨(t ++ u).toArray⟩ w (by show (t ++ u).toArray.size ≤ _; simp; omega)
    have hcat := cat_text t u
    obtain ⟨c0, c1, c2, hl⟩ := HR1.out
    clear hwt hwE hwT ht hu hz n1 n2
    rw [h0]
    clear h0
    go_wp2_with fail
    with_reducible refine (HN.out _ _ (iz_two w1 r.who r.seq)).mono ?_
    rintro e w2 ⟨rfl, hb2⟩
    have hb12 : Below w1.heap.size w1 w2 := ((Below.refl _ w1).alloc (Nat.le_refl _) _).trans (hb2.mono (by simp))
    have HB2 : Hid (Below w.heap.size w w2) := HB1.out.trans (hb12.mono (by omega))
    have HR2 : Hid (RBox w2 w.heap.size r a c) := HR1.out.below hb12
    clear hb2 hb12 c0 c1 c2 hl
    obtain ⟨c0, c1, c2, hl⟩ := HR2.out
    go_wp2_with fail
    with_reducible refine (HW.out _ (HP.out.here HB2.out (Nat.le_refl _))).mono ?_
    rintro e w3 ⟨rfl, hb3⟩
    have HB3 : Hid (Below w.heap.size w w3) := HB2.out.trans (hb3.mono HB2.out.size)
    clear hb3 c0 c1 c2 hl
    go_wp2_with fail
    with_reducible refine (HPut.out _).mono ?_
    rintro e w4 ⟨rfl, hb4⟩
    have HB4 : Hid (Below w.heap.size w w4) := HB3.out.trans (hb4.mono HB3.out.size)
    clear hb4
    go_wp2_with fail
    go_ret2
    exact ⟨ret_num HE.out.2.symm HE.out.1.symm, HB4.out⟩
  · have h0' : (oneE r != 0) = true := by simp [h0]
    have HE : Hid (rvfT r = [] ∧ rvfE r = oneE r) := ⟨by rw [rvfT, if_neg h0], by rw [rvfE, if_neg h0]⟩
    clear h0
    go_wp2_with fail
    go_ret2
    exact ⟨ret_num (s := []) HE.out.1.symm HE.out.2.symm, HB1.out⟩
end Go.Proofs.Ytkihanmodfnpcab
