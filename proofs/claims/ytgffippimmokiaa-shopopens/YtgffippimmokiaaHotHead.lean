/- What hot.writeNums answers. -/
import Derived.Test.YtgffippimmokiaaHotP
import Derived.Test.YtgffippimmokiaaLogBox
import Derived.Test.YtgffippimmokiaaCodeWrite
import Derived.Test.YtgffippimmokiaaFrameKit
import Derived.Test.YtgffippimmokiaaRevOne
import Derived.Test.YtgffippimmokiaaCrcOf
import Derived.Test.YtgffippimmokiaaRUnnum
import Derived.Deep.RegionHeld3
import Derived.Deep.AppendLies
import Derived.Laws.AppendOwnNone
namespace Go.Proofs.Ytgffippimmokiaa
open Go.RowKit
set_option linter.unusedSimpArgs false
set_option linter.unusedVariables false

/-- what is wrong with numbers that are put, and the bytes -/
def wnE : List Int → Int
  | [] => 0
  | n :: l => if 0 ≤ n ∧ n ≤ 2147483647 then wnE l else 1
def wnT (l : List Int) : List UInt8 := if wnE l = 0 then numsL (l.map Int.toNat) else []
theorem wn_drop {l : List Int} {k : Nat} {n : Int} (h : l[k]? = some n) : wnE (l.drop k) = if 0 ≤ n ∧ n ≤ 2147483647 then wnE (l.drop (k + 1)) else 1 := by
  obtain ⟨hk, rfl⟩ := List.getElem?_eq_some_iff.1 h
  rw [List.drop_eq_getElem_cons hk, wnE]
theorem wn_take {l : List Int} {k : Nat} {n : Int} (h : l[k]? = some n) : numsL ((l.take (k + 1)).map Int.toNat) = numsL ((l.take k).map Int.toNat) ++ numL n.toNat := by
  rw [List.take_add_one, h]
  simp [numsL]

theorem ret_num {s t : List UInt8} {x y : Int} (h1 : s = t) (h2 : x = y) : Ending.returned (.tuple #[.string ⟨s.toArray⟩, .int .i64 x]) = .returned (.tuple #[.string ⟨t.toArray⟩, .int .i64 y]) := by rw [h1, h2]
set_option maxRecDepth 20000 in
set_option maxHeartbeats 2000000 in
theorem writeNums_any (a : Option Addr) (l : List Int) (cap : Nat) (w : World) (hp : IzAt w w.heap.size a l cap) (h100 : l.length ≤ 100) :
    Calls Try.prog 94 #[.slice a l.length cap] w fun e w' => e = .returned (.tuple #[.string ⟨(wnT l).toArray⟩, .int .i64 (wnE l)]) ∧ Below w.heap.size w w' := by
  have HP : Hid (IzAt w w.heap.size a l cap) := hp
  have HL : Hid (l.length ≤ 100) := h100
  clear hp
  go_enter Try.func94, Try.ntmps94
  go_wp2_with fail
  go_loopw [11] (fun i wr => ∃ (k : Nat) (acc : List UInt8), k ≤ l.length ∧ i = .int .i64 k ∧ Lib.IsBuilderF 136 5 w.heap.size w.heap.size (Lib.byteCells acc) wr ∧ Below w.heap.size w wr ∧
      acc = numsL ((l.take k).map Int.toNat) ∧ wnE (l.drop k) = wnE l ∧ acc.length ≤ 5 * k) (fun i _ => l.length - (intOf i).toNat)
  case atStart =>
    exact ⟨0, [], Nat.zero_le _, rfl, Lib.IsBuilderF.of (Lib.fresh_isBuilder 136 5 w), (Below.refl _ w).alloc (Nat.le_refl _) _, rfl, rfl, Nat.le_refl _⟩
  case round =>
    rename World => wr
    obtain ⟨k, acc, hk, rfl, hI, hb, hx, hE, hacc⟩ := hrel
    have hz := hb.size
    have HI : Hid (Lib.IsBuilderF 136 5 w.heap.size w.heap.size (Lib.byteCells acc) wr) := hI
    have HB : Hid (Below w.heap.size w wr) := hb
    have hbl : w.heap.size < wr.heap.size := hI.elim (fun h => h.lt) (fun h => h.lt)
    have HX : Hid (acc = numsL ((l.take k).map Int.toNat)) := hx
    have HE : Hid (wnE (l.drop k) = wnE l) := hE
    by_cases hlt : k < l.length
    · obtain ⟨n, hn⟩ : ∃ n, l[k]? = some n := ⟨l[k], List.getElem?_eq_getElem hlt⟩
      obtain ⟨b, off, rfl, hblt, c1⟩ := (HP.out.below hb (Nat.le_refl _)).mem hn
      have hbw : b < wr.heap.size := by omega
      have hki : (k : Int) < (l.length : Int) := by omega
      have HD : Hid _ := wn_drop hn
      have HT : Hid _ := wn_take hn
      clear hI hb hx hE hn
      by_cases hr : 0 ≤ n ∧ n ≤ 2147483647
      · obtain ⟨m, rfl⟩ : ∃ m : Nat, n = (m : Int) := ⟨n.toNat, by omega⟩
        have hPut : Hid _ := fun w => Put_ok m w (by omega)
        have h5 := num_five (n := m) (by omega)
        have HR : Hid (0 ≤ (m : Int) ∧ (m : Int) ≤ 2147483647) := hr
        obtain ⟨t, ht⟩ : ∃ t, numL m = t := ⟨_, rfl⟩
        have HTT : Hid (numL ((m : Int).toNat) = t) := by show _ = _; rw [Int.toNat_natCast]; exact ht
        rw [ht] at hPut h5
        clear hr ht
        go_wp2_with fail
        refine (hPut.out _).mono ?_
        rintro e w1 ⟨rfl, hb1⟩
        have HI1 : Hid (Lib.IsBuilderF 136 5 w.heap.size w.heap.size (Lib.byteCells acc) w1) := bld_below HI.out hb1
        have HB1 : Hid (Below w.heap.size w w1) := HB.out.trans (hb1.mono hz)
        have hz1 := HB1.out.size
        clear hb1
        go_wp2_with fail
        refine (WriteString_any w.heap.size w.heap.size (Lib.byteCells acc) ⟨t.toArray⟩ _ HI1.out ?h2 (by omega)).mono ?_
        case h2 =>
          rw [Lib.byteCells_length]
          show _ + t.toArray.size ≤ _
          simp; omega
        rintro e w2 ⟨rfl, hA2, hb2, _⟩
        have HA2 : Hid _ := hA2
        have HB2 : Hid (Below w.heap.size w w2) := HB1.out.trans hb2
        clear hA2 hb2
        go_wp2_with fail
        go_roundw
        case rel =>
          refine ⟨k + 1, acc ++ t, by omega, by go_num, Or.inr ?_, HB2.out, ?_, ?_, by rw [List.length_append]; omega⟩
          · have h := HA2.out
            rw [Lib.strCells_eq, ← Lib.byteCells_append] at h
            exact h
          · rw [HT.out, HTT.out, HX.out]
          · rw [← HE.out, HD.out, if_pos HR.out]
        case measure => simp [intOf]; omega
      · have hPut : Hid _ := fun w => Put_not n w (by omega)
        have HE1 : Hid (wnE l = 1 ∧ wnT l = []) := by
          have h1 : wnE l = 1 := by rw [← HE.out, HD.out, if_neg hr]
          exact ⟨h1, by rw [wnT, if_neg (by omega)]⟩
        clear hr
        go_wp2_with fail
        refine (hPut.out _).mono ?_
        rintro e w1 ⟨rfl, e1⟩
        subst e1
        go_wp2_with fail
        go_ret2
        exact ⟨ret_num (s := []) HE1.out.2.symm HE1.out.1.symm, HB.out⟩
    · have hkk : k = l.length := by omega
      have hki : ¬ (k : Int) < (l.length : Int) := by omega
      have HE1 : Hid (wnE l = 0 ∧ wnT l = acc) := by
        have h1 : wnE l = 0 := by rw [← hE, List.drop_eq_nil_of_le (by omega)]; rfl
        exact ⟨h1, by rw [wnT, if_pos h1, hx, List.take_of_length_le (by omega)]⟩
      clear hI hb hx hE hkk
      go_wp2_with fail
      refine (String_any w.heap.size w.heap.size acc _ HI.out (by omega)).mono ?_
      rintro e w1 ⟨rfl, _, hb1, _⟩
      have HB1 : Hid (Below w.heap.size w w1) := HB.out.trans hb1
      clear hb1
      go_wp2_with fail
      go_ret2
      exact ⟨ret_num HE1.out.2.symm HE1.out.1.symm, HB1.out⟩
/-- what hot.Rev answers -/
def rvfE (r : Rv) : Int := if oneE r = 0 then putE 2 (revB r) else oneE r
def rvfT (r : Rv) : List UInt8 := if oneE r = 0 then putT 2 (revB r) else []
theorem rvf_ok {r : Rv} (h : oneE r = 0) : rvfE r = 0 ∧ rvfT r = frameL 2 (revB r) := by
  have h2 : putE 2 (revB r) = 0 := putE_of (by decide) (by decide) (rev_len h)
  exact ⟨by rw [rvfE, if_pos h, h2], by rw [rvfT, if_pos h, putT, if_pos h2]; rfl⟩
theorem cat_text (a b : List UInt8) : (⟨a.toArray⟩ ++ ⟨b.toArray⟩ : ByteArray) = ⟨(a ++ b).toArray⟩ := by
  apply ByteArray.ext
  simp
theorem iz_two (w : World) (x y : Int) : IzAt (w.alloc (.cells #[.int .i64 x, .int .i64 y] 3)) (w.alloc (.cells #[.int .i64 x, .int .i64 y] 3)).heap.size (some ⟨w.heap.size, 0, none⟩) [x, y] 2 := by
  have h : (w.alloc (.cells #[.int .i64 x, .int .i64 y] 3)).heap[w.heap.size]? = some (.cells #[.int .i64 x, .int .i64 y] 3 (0, 0)) := Deep.blk_alloc_new w _
  refine ⟨Nat.le_refl _, by decide, Nat.le_refl _, fun _ => ⟨w.heap.size, 0, rfl, by simp, fun i q hi => ?_⟩⟩
  match i, hi with
  | 0, hi => cases hi; exact Lib.cell_of_heap h 0
  | 1, hi => cases hi; exact Lib.cell_of_heap h 1
set_option maxRecDepth 20000 in
set_option maxHeartbeats 2000000 in
theorem HRev_any (r : Rv) (a : Option Addr) (c : Nat) (w : World) (hp : PartsAt w w.heap.size a r.d) :
    Calls Try.prog 57 #[.agg #[.int .i64 r.who, .int .i64 r.seq, .slice a r.d.length c]] w fun e w' => e = .returned (.tuple #[.string ⟨(rvfT r).toArray⟩, .int .i64 (rvfE r)]) ∧ Below w.heap.size w w' := by
  have HP : Hid (PartsAt w w.heap.size a r.d) := hp
  have HX : Hid _ := fun w hp => One_any r a c w hp
  clear hp
  go_enter Try.func57, Try.ntmps57
  go_wp2_with fail
  refine (HX.out _ (HP.out.here ((Below.refl _ w).alloc (Nat.le_refl _) _) (Nat.le_refl _))).mono ?_
  rintro e w1 ⟨rfl, hb1⟩
  have HB1 : Hid (Below w.heap.size w w1) := ((Below.refl _ w).alloc (Nat.le_refl _) _).trans (hb1.mono (by simp))
  have HR1 : Hid (RBox w1 w.heap.size r a c) := (rbox_new w r a c).below hb1
  clear hb1
  by_cases h0 : oneE r = 0
  · obtain ⟨⟨a1, a2, a3, a4⟩, hz⟩ := one_zero h0
    have hcl : (codeL r.d).length ≤ 4000 := by
      have h := rev_len h0
      rw [revB, List.length_append, List.length_append] at h
      omega
    have hwt : writeT r.d = codeL r.d := by simp [writeT, hz]
    have HW : Hid _ := fun w hp => Write_any a r.d c w hp
    rw [hwt, hz] at HW
    have HE : Hid (rvfE r = putE 2 (numsL [r.who.toNat, r.seq.toNat] ++ codeL r.d) ∧ rvfT r = putT 2 (numsL [r.who.toNat, r.seq.toNat] ++ codeL r.d)) := by
      have e : numsL [r.who.toNat, r.seq.toNat] ++ codeL r.d = revB r := by simp [numsL, revB]
      rw [e]
      exact ⟨by rw [rvfE, if_pos h0], by rw [rvfT, if_pos h0]⟩
    have hwE : wnE [r.who, r.seq] = 0 := by simp [wnE]; omega
    have hwT : wnT [r.who, r.seq] = numsL [r.who.toNat, r.seq.toNat] := by rw [wnT, if_pos hwE]; rfl
    have HN : Hid (∀ (w : World) (b : Option Addr), IzAt w w.heap.size b [r.who, r.seq] 2 → Calls Try.prog 94 #[.slice b 2 2] w fun e w' => e = .returned (.tuple #[.string ⟨(wnT [r.who, r.seq]).toArray⟩, .int .i64 (wnE [r.who, r.seq])]) ∧ Below w.heap.size w w') := fun w b hp => writeNums_any b [r.who, r.seq] 2 w hp (by simp)
    rw [hwE, hwT] at HN
    obtain ⟨t, ht⟩ : ∃ t, numsL [r.who.toNat, r.seq.toNat] = t := ⟨_, rfl⟩
    obtain ⟨u, hu⟩ : ∃ u, codeL r.d = u := ⟨_, rfl⟩
    have n1 := num_five (n := r.who.toNat) (by omega)
    have n2 := num_five (n := r.seq.toNat) (by omega)
    have htl : t.length ≤ 10 := by rw [← ht]; simp [numsL]; omega
    rw [ht] at HN HE
    rw [hu] at HW HE hcl
    have HPut : Hid _ := fun w => FPut_any 2 ⟨(t ++ u).toArray⟩ w (by show (t ++ u).toArray.size ≤ _; simp; omega)
    have hcat := cat_text t u
    obtain ⟨c0, c1, c2, hl⟩ := HR1.out
    clear hwt hwE hwT ht hu hz n1 n2
    rw [h0]
    clear h0
    go_wp2_with fail
    with_reducible refine (HN.out _ _ (iz_two w1 r.who r.seq)).mono ?_
    rintro e w2 ⟨rfl, hb2⟩
    have hb12 : Below w1.heap.size w1 w2 := ((Below.refl _ w1).alloc (Nat.le_refl _) _).trans (hb2.mono (by simp))
    have HB2 : Hid (Below w.heap.size w w2) := HB1.out.trans (hb12.mono (by omega))
    have HR2 : Hid (RBox w2 w.heap.size r a c) := HR1.out.below hb12
    clear hb2 hb12 c0 c1 c2 hl
    obtain ⟨c0, c1, c2, hl⟩ := HR2.out
    go_wp2_with fail
    with_reducible refine (HW.out _ (HP.out.here HB2.out (Nat.le_refl _))).mono ?_
    rintro e w3 ⟨rfl, hb3⟩
    have HB3 : Hid (Below w.heap.size w w3) := HB2.out.trans (hb3.mono HB2.out.size)
    clear hb3 c0 c1 c2 hl
    go_wp2_with fail
    with_reducible refine (HPut.out _).mono ?_
    rintro e w4 ⟨rfl, hb4⟩
    have HB4 : Hid (Below w.heap.size w w4) := HB3.out.trans (hb4.mono HB3.out.size)
    clear hb4
    go_wp2_with fail
    go_ret2
    exact ⟨ret_num HE.out.2.symm HE.out.1.symm, HB4.out⟩
  · have h0' : (oneE r != 0) = true := by simp [h0]
    have HE : Hid (rvfT r = [] ∧ rvfE r = oneE r) := ⟨by rw [rvfT, if_neg h0], by rw [rvfE, if_neg h0]⟩
    clear h0
    go_wp2_with fail
    go_ret2
    exact ⟨ret_num (s := []) HE.out.1.symm HE.out.2.symm, HB1.out⟩
end Go.Proofs.Ytgffippimmokiaa

/- What the document's own Frame answers. -/
namespace Go.Proofs.Ytgffippimmokiaa
open Go.RowKit
set_option linter.unusedSimpArgs false
set_option linter.unusedVariables false

set_option maxRecDepth 20000 in
set_option maxHeartbeats 1000000 in
theorem RFrame_any (k : Int) (t : ByteArray) (w : World) (hs : t.size ≤ 9223372036854775807) :
    Calls Try.prog 130 #[.agg #[.int .i64 k, .string t]] w fun e w' => e = .returned (.tuple #[.string ⟨(putT k t.data.toList).toArray⟩, .int .i64 (putE k t.data.toList)]) ∧ Below w.heap.size w w' := by
  have htl : t.data.toList.length = t.size := Array.length_toList
  by_cases h1 : k < 1
  · have hE : putE k t.data.toList = 1 := by rw [putE, if_pos (Or.inl h1)]
    have hT : putT k t.data.toList = [] := by rw [putT, hE]; rfl
    rw [hE, hT]
    clear hE hT
    go_enter Try.func130, Try.ntmps130
    go_wp2_with fail
    go_ret2
    exact ⟨rfl, (Below.refl _ _).alloc (Nat.le_refl _) _⟩
  · by_cases h2 : 255 < k
    · have hE : putE k t.data.toList = 1 := by rw [putE, if_pos (Or.inr h2)]
      have hT : putT k t.data.toList = [] := by rw [putT, hE]; rfl
      rw [hE, hT]
      clear hE hT
      go_enter Try.func130, Try.ntmps130
      go_wp2_with fail
      go_ret2
      exact ⟨rfl, (Below.refl _ _).alloc (Nat.le_refl _) _⟩
    · by_cases h3 : 4000 < t.size
      · have hE : putE k t.data.toList = 2 := by rw [putE, if_neg (by omega), if_pos (by rw [htl]; exact h3)]
        have hT : putT k t.data.toList = [] := by rw [putT, hE]; rfl
        rw [hE, hT]
        have h3' : (4000 : Int) < (t.size : Int) := by omega
        clear hE hT
        go_enter Try.func130, Try.ntmps130
        go_wp2_with fail
        go_ret2
        exact ⟨rfl, (Below.refl _ _).alloc (Nat.le_refl _) _⟩
      · have hE : putE k t.data.toList = 0 := by rw [putE, if_neg (by omega), if_neg (by rw [htl]; exact h3)]
        have hT : putT k t.data.toList = frameL k.toNat t.data.toList := by rw [putT, hE]; rfl
        have h3' : ¬ (4000 : Int) < (t.size : Int) := by omega
        rw [hE, hT]
        obtain ⟨m, rfl⟩ : ∃ m : Nat, k = m := ⟨k.toNat, by omega⟩
        rw [Int.toNat_natCast]
        unfold frameL
        obtain ⟨b0, c0⟩ : ∃ b, UInt8.ofNat m = b := ⟨_, rfl⟩
        obtain ⟨b1, c1⟩ : ∃ b, UInt8.ofNat (t.size / 256) = b := ⟨_, rfl⟩
        obtain ⟨b2, c2⟩ : ∃ b, UInt8.ofNat t.size = b := ⟨_, rfl⟩
        have hH : headL m t.data.toList = [b0, b1, b2] ++ t.data.toList := by
          unfold headL
          rw [htl, c0, c1, c2]; rfl
        have e0 : (m : Int) = (b0.toNat : Int) := by rw [← c0, ← byte_of]; omega
        have e1 : (t.size : Int) / 256 = (b1.toNat : Int) := by
          rw [← c1, ← byte_of]
          show _ = (t.size : Int) / 256 % 256
          omega
        have e2 : (t.size : Int) % 256 = (b2.toNat : Int) := by rw [← c2]; exact byte_of
        have hcv := lit_text (w.alloc (.cells #[.int .i64 (m : Int), .string t] 149)) #[.int .u8 (m : Int), .int .u8 ((t.size : Int) / 256), .int .u8 (b2.toNat : Int)] [b0, b1, b2] 3 rfl (by rw [e0, e1]; rfl)
        rw [show (w.alloc (.cells #[.int .i64 (m : Int), .string t] 149)).heap.size = w.heap.size + 1 from Deep.nblk_alloc _ _] at hcv
        rw [hH]
        have HS : Hid _ := fun w => RCrc_any (⟨#[b0, b1, b2]⟩ ++ t) w (by rw [ByteArray.size_append]; show 3 + _ ≤ _; omega)
        have hdl : ((⟨#[b0, b1, b2]⟩ : ByteArray) ++ t).data.toList = [b0, b1, b2] ++ t.data.toList := by simp
        rw [hdl] at HS
        obtain ⟨u, hu⟩ : ∃ u, sumB (crcL ([b0, b1, b2] ++ t.data.toList)) = u := ⟨_, rfl⟩
        have hul : u.length = 4 := by rw [← hu]; rfl
        rw [hu]
        have hlt := (crcL ([b0, b1, b2] ++ t.data.toList)).isLt
        unfold sumB at hu
        obtain ⟨n, hn⟩ : ∃ n, (crcL ([b0, b1, b2] ++ t.data.toList)).toNat = n := ⟨_, rfl⟩
        rw [hn] at HS hlt hu
        obtain ⟨d0, h0⟩ : ∃ b, UInt8.ofNat n = b := ⟨_, rfl⟩
        obtain ⟨d1, h1'⟩ : ∃ b, UInt8.ofNat (n / 256) = b := ⟨_, rfl⟩
        obtain ⟨d2, h2'⟩ : ∃ b, UInt8.ofNat (n / 65536) = b := ⟨_, rfl⟩
        obtain ⟨d3, h3''⟩ : ∃ b, UInt8.ofNat (n / 16777216) = b := ⟨_, rfl⟩
        rw [h0, h1', h2', h3''] at hu
        have x0 : (n : Int) % 256 = (d0.toNat : Int) := by rw [← h0]; exact byte_of
        have x1 : (n : Int) / 256 % 256 = (d1.toNat : Int) := by rw [← h1', ← byte_of]; rfl
        have x2 : (n : Int) / 65536 % 256 = (d2.toNat : Int) := by rw [← h2', ← byte_of]; rfl
        have x3 : (n : Int) / 16777216 % 256 = (d3.toNat : Int) := by rw [← h3'', ← byte_of]; rfl
        have x4 : (n : Int) / 16777216 = (d3.toNat : Int) := by rw [← x3]; omega
        have hcv2 := fun (w : World) => lit_text w #[.int .u8 (d0.toNat : Int), .int .u8 (d1.toNat : Int), .int .u8 (d2.toNat : Int), .int .u8 (d3.toNat : Int)] [d0, d1, d2, d3] 4 rfl rfl
        rw [hu] at hcv2
        clear h0 h1' h2' h3'' hn
        have HDL : Hid _ := hdl
        have hz : ((⟨#[b0, b1, b2]⟩ : ByteArray) ++ t).size = 3 + t.size := by rw [ByteArray.size_append]; rfl
        have sa : ∀ w : World, (Op.stringOp .add ⟨#[b0, b1, b2]⟩ t).run Try.prog w = .ok (.string (⟨#[b0, b1, b2]⟩ ++ t)) w := fun w => run_string_add_sum _ _ _ (by show 3 + _ ≤ _; omega)
        obtain ⟨q, hq⟩ : ∃ q, (⟨#[b0, b1, b2]⟩ : ByteArray) ++ t = q := ⟨_, rfl⟩
        rw [hq] at HS sa HDL hz
        have HU : Hid ([d0, d1, d2, d3] = u) := hu
        have sb : ∀ w : World, (Op.stringOp .add q ⟨u.toArray⟩).run Try.prog w = .ok (.string (q ++ ⟨u.toArray⟩)) w := fun w => run_string_add_sum _ _ _ (by show q.size + u.toArray.size ≤ _; simp; omega)
        have HE : Hid (q ++ ⟨u.toArray⟩ = ⟨([b0, b1, b2] ++ t.data.toList ++ u).toArray⟩) := by
          show _ = _
          rw [← str_eq (q ++ ⟨u.toArray⟩), ByteArray.data_append, Array.toList_append, HDL.out]
        clear hE hT c0 c1 c2 hH e0 e1 hdl hu hq
        go_enter Try.func130, Try.ntmps130
        go_wp2_with fail
        refine (HS.out _).mono ?_
        rintro e w1 ⟨rfl, hb1⟩
        have HB1 : Hid (Below w.heap.size w w1) := by show Below _ _ _; rw [hb1]; exact ((Below.refl _ w).alloc (Nat.le_refl _) _).alloc (by simp) _
        have hz1 := HB1.out.size
        clear hb1
        go_wp2_with fail
        go_ret2
        exact ⟨by rw [HE.out]; rfl, HB1.out.alloc hz1 _⟩
end Go.Proofs.Ytgffippimmokiaa

/- What the document's own Code answers, of a right delta. -/
namespace Go.Proofs.Ytgffippimmokiaa
open Go.RowKit
set_option linter.unusedSimpArgs false
set_option linter.unusedVariables false

theorem join_text (a b : List UInt8) (s : ByteArray) : (⟨a.toArray⟩ ++ (⟨b.toArray⟩ ++ s) : ByteArray) = ⟨(a ++ (b ++ s.data.toList)).toArray⟩ := by
  apply ByteArray.ext
  simp
theorem box_below {w w2 : World} {k n : Int} {t : ByteArray} (hb : Below ((w.alloc (.cells #[.int .i64 k, .int .i64 n, .string t] 138)).drew).heap.size ((w.alloc (.cells #[.int .i64 k, .int .i64 n, .string t] 138)).drew) w2) :
    w2.cell? ⟨w.heap.size, 0, none⟩ = some (.int .i64 k) ∧ w2.cell? ⟨w.heap.size, 1, none⟩ = some (.int .i64 n) ∧ w2.cell? ⟨w.heap.size, 2, none⟩ = some (.string t) := by
  have h1 : w2.heap[w.heap.size]? = some (.cells #[.int .i64 k, .int .i64 n, .string t] 138 (0, 0)) := by
    rw [hb.block w.heap.size (by show w.heap.size < (w.heap.push _).size; simp)]
    exact Deep.blk_alloc_new w _
  refine ⟨?_, ?_, ?_⟩ <;> (rw [Lib.cell_of_heap h1]; rfl)

set_option maxRecDepth 20000 in
set_option maxHeartbeats 4000000 in
theorem RCode_any (a : Option Addr) (l : List Pt) (cap : Nat) (w : World) (hp : PartsAt w w.heap.size a l) (h0 : sizesE l = 0) :
    Calls Try.prog 112 #[.slice a l.length cap] w fun e w' => e = .returned (.string ⟨(codeL l).toArray⟩) ∧ Below w.heap.size w w' := by
  have HP : Hid (PartsAt w w.heap.size a l) := hp
  have hsm := (sizes_zero h0).1
  have HRT : Hid (Right l) := sizes_right h0
  have hl := hsm.1
  have HSM : Hid (Small l) := hsm
  have HRN : Hid _ := fun w => RNum_any l.length w (by omega)
  obtain ⟨t0, ht0⟩ : ∃ t, numL l.length = t := ⟨_, rfl⟩
  have h5 := num_five (n := l.length) (by omega)
  have HC : Hid (codeL l = t0 ++ l.flatMap codeP) := by show _ = _; rw [codeL, ht0]
  rw [ht0] at HRN h5
  clear hp h0 hsm ht0
  go_enter Try.func112, Try.ntmps112
  go_wp2_with fail
  refine (HRN.out _).mono ?_
  rintro e w1 ⟨rfl, hb1⟩
  have HB1 : Hid (Below w.heap.size w w1) := hb1
  have HP1 : Hid (PartsAt w1 w1.heap.size a l) := HP.out.here hb1 (Nat.le_refl _)
  clear hb1
  go_wp2_with fail
  go_loopw [3, 11] (fun x i wr => ∃ (k : Nat) (acc : List UInt8), k ≤ l.length ∧ i = .int .i64 k ∧ x = .string ⟨acc.toArray⟩ ∧ Below w1.heap.size w1 wr ∧
      acc ++ (l.drop k).flatMap codeP = codeL l ∧ acc.length ≤ 5 + 1000 * k) (fun _ i _ => l.length - (intOf i).toNat)
  case atStart => exact ⟨0, t0, Nat.zero_le _, rfl, rfl, Below.refl _ _, by rw [HC.out]; rfl, h5⟩
  case round =>
    rename World => wr
    obtain ⟨k, acc, hk, rfl, rfl, hb, hx, hacc⟩ := hrel
    have hz := hb.size
    have HB : Hid (Below w1.heap.size w1 wr) := hb
    by_cases hlt : k < l.length
    · obtain ⟨p, hpk⟩ : ∃ p, l[k]? = some p := ⟨l[k], List.getElem?_eq_getElem hlt⟩
      have hpm := List.mem_of_getElem? hpk
      have hpb := HSM.out.2 p hpm
      have hpr := (HRT.out p hpm).1
      have HX : Hid _ := hx.symm.trans (congrArg (acc ++ ·) (code_drop hpk))
      obtain ⟨b, off, rfl, hblt, c1, c2, c3⟩ := (HP1.out.below hb (Nat.le_refl _)).mem hpk
      have hbw : b < wr.heap.size := by omega
      obtain ⟨hpb1, hpb2, hpb3⟩ := hpb
      have hk0 : 0 ≤ p.k := by omega
      have hk3 : p.k ≤ 3 := by omega
      have hcn : 4 * (p.n + (p.t.size : Int)) + p.k = (codeN p : Int) := by unfold codeN; omega
      have hcb : codeN p ≤ 2147483647 := by omega
      have h52 := num_five hcb
      have HRN2 : Hid _ := fun w => RNum_any (codeN p) w (by omega)
      obtain ⟨m, hm⟩ : ∃ m, codeN p = m := ⟨_, rfl⟩
      obtain ⟨t, ht⟩ : ∃ t, numL (codeN p) = t := ⟨_, rfl⟩
      rw [ht] at HX h52 HRN2
      rw [hm] at HRN2 hcn
      have u1 : IntKind.i64.wrap (p.n + (p.t.size : Int)) = p.n + (p.t.size : Int) := IntWalk.i64_in _ ⟨by omega, by omega⟩
      have u2 : IntKind.i64.wrap (4 * (p.n + (p.t.size : Int))) = 4 * (p.n + (p.t.size : Int)) := IntWalk.i64_in _ ⟨by omega, by omega⟩
      have u3 : IntKind.i64.wrap (4 * (p.n + (p.t.size : Int)) + p.k) = (m : Int) := by rw [IntWalk.i64_in _ ⟨by omega, by omega⟩]; exact hcn
      have htl : p.t.data.toList.length = p.t.size := Array.length_toList
      have HTL : Hid _ := htl
      have sa : ∀ w : World, (Op.stringOp .add ⟨t.toArray⟩ p.t).run Try.prog w = .ok (.string (⟨t.toArray⟩ ++ p.t)) w := fun w => run_string_add_sum _ _ _ (by show t.toArray.size + _ ≤ _; simp; omega)
      have sb : ∀ w : World, (Op.stringOp .add ⟨acc.toArray⟩ (⟨t.toArray⟩ ++ p.t)).run Try.prog w = .ok (.string (⟨acc.toArray⟩ ++ (⟨t.toArray⟩ ++ p.t))) w := fun w => run_string_add_sum _ _ _ (by rw [ByteArray.size_append]; show acc.toArray.size + (t.toArray.size + _) ≤ _; simp; omega)
      clear hx hb hpm hpk hpr hcn hm ht hcb htl
      go_wp2_with fail
      go_region_held3 (fun w' => w'.cell? ⟨wr.heap.size, 0, none⟩ = some (.int .i64 p.k) ∧ w'.cell? ⟨wr.heap.size, 1, none⟩ = some (.int .i64 p.n) ∧ w'.cell? ⟨wr.heap.size, 2, none⟩ = some (.string p.t)) (first | go_keep | exact box_below hb2) (first | (go_at_call 131; refine (HRN2.out _).mono ?_; rintro e w2 ⟨rfl, hb2⟩))
      all_goals
        have HB2 : Hid (Below w1.heap.size w1 w2) := ((HB.out.alloc hz _).drew).trans (hb2.mono (by show w1.heap.size ≤ (wr.heap.push _).size; simp; omega))
        clear hb2
        go_wp2_with fail
        go_roundw
        case rel =>
          refine ⟨k + 1, acc ++ (t ++ p.t.data.toList), by omega, by go_num, by rw [join_text], HB2.out, ?_, ?_⟩
          · rw [HX.out]; simp only [List.append_assoc]
          · simp only [List.length_append, HTL.out]; omega
        case measure => simp [intOf]; omega
    · have hnil : l.drop k = [] := List.drop_eq_nil_of_le (by omega)
      rw [hnil] at hx
      have HX : Hid (acc = codeL l) := by show _ = _; simpa using hx
      clear hx hnil hb
      go_wp2_with fail
      go_ret
      exact ⟨by rw [← HX.out]; rfl, HB1.out.trans (HB.out.mono HB1.out.size)⟩
end Go.Proofs.Ytgffippimmokiaa

/- What the document's RevFrame answers; Done, and the document's. -/
namespace Go.Proofs.Ytgffippimmokiaa
open Go.RowKit
set_option linter.unusedSimpArgs false
set_option linter.unusedVariables false

theorem rbox_cells {w w' : World} {g : Nat} {r : Rv} {a : Option Addr} {c : Nat} (h : RBox w g r a c) (hb : Below w.heap.size w w') :
    w'.cell? ⟨g, 0, none⟩ = some (.int .i64 r.who) ∧ w'.cell? ⟨g, 1, none⟩ = some (.int .i64 r.seq) ∧ w'.cell? ⟨g, 2, none⟩ = some (.slice a r.d.length c) := by
  obtain ⟨h0, h1, h2, _⟩ := h.below hb
  exact ⟨h0, h1, h2⟩
theorem went_drew {w w' : World} (hb : Below w.drew.heap.size w.drew w') : Hid (Below w.heap.size w w') := ((Below.refl w.heap.size w).drew).trans hb
theorem went_on {w w1 w2 : World} (h : Hid (Below w.heap.size w w1)) (hb : Below w1.heap.size w1 w2) : Hid (Below w.heap.size w w2) := h.out.trans (hb.mono h.out.size)
theorem cat_three (a b c : List UInt8) : (⟨a.toArray⟩ ++ ⟨b.toArray⟩ ++ ⟨c.toArray⟩ : ByteArray) = ⟨(a ++ (b ++ c)).toArray⟩ := by
  apply ByteArray.ext
  simp
theorem done_text : putT 3 [] = frameL 3 [] := rfl
set_option maxHeartbeats 1000000 in
theorem Done_any (w : World) : Calls Try.prog 64 #[] w fun e w' => e = .returned (.string ⟨(frameL 3 []).toArray⟩) ∧ Below w.heap.size w w' := by
  have HPut : Hid (∀ w : World, Calls Try.prog 96 #[.agg #[.int .i64 3, .string ⟨#[]⟩]] w fun e w' => e = .returned (.tuple #[.string ⟨(frameL 3 []).toArray⟩, .int .i64 0]) ∧ Below w.heap.size w w') := fun w => FPut_any 3 ⟨#[]⟩ w (by decide)
  go_enter Try.func64, Try.ntmps64
  go_wp2_with fail
  with_reducible refine (HPut.out _).mono ?_
  rintro e w1 ⟨rfl, hb1⟩
  have HB1 : Hid (Below w.heap.size w w1) := hb1
  clear hb1
  go_wp2_with fail
  go_ret
  exact ⟨rfl, HB1.out⟩
end Go.Proofs.Ytgffippimmokiaa

/- What hot.Head and the document's Head answer. -/
namespace Go.Proofs.Ytgffippimmokiaa
open Go.RowKit
set_option linter.unusedSimpArgs false
set_option linter.unusedVariables false

/-- a table as a value -/
def tabV (t : List Int) : Value := .agg (jzC t).toArray
/-- a hand's row of it -/
theorem tab_ix {t : List Int} (ht : t.length = 16) {k : Nat} (hk : k < 8) : ∃ p q : Int, t[2 * k]? = some p ∧ t[2 * k + 1]? = some q ∧ ∀ w : World, (Instr.index 80 (tabV t) (.int .i64 (k : Int))).run Try.prog w = .ok (.agg #[.int .i64 p, .int .i64 q]) w := by
  match t, ht with
  | [x0, x1, x2, x3, x4, x5, x6, x7, x8, x9, x10, x11, x12, x13, x14, x15], _ =>
    match k, hk with
    | 0, _ => exact ⟨x0, x1, rfl, rfl, fun _ => by kernel_rfl⟩
    | 1, _ => exact ⟨x2, x3, rfl, rfl, fun _ => by kernel_rfl⟩
    | 2, _ => exact ⟨x4, x5, rfl, rfl, fun _ => by kernel_rfl⟩
    | 3, _ => exact ⟨x6, x7, rfl, rfl, fun _ => by kernel_rfl⟩
    | 4, _ => exact ⟨x8, x9, rfl, rfl, fun _ => by kernel_rfl⟩
    | 5, _ => exact ⟨x10, x11, rfl, rfl, fun _ => by kernel_rfl⟩
    | 6, _ => exact ⟨x12, x13, rfl, rfl, fun _ => by kernel_rfl⟩
    | 7, _ => exact ⟨x14, x15, rfl, rfl, fun _ => by kernel_rfl⟩
theorem tab_take {t : List Int} {k : Nat} {p q : Int} (h1 : t[2 * k]? = some p) (h2 : t[2 * k + 1]? = some q) : t.take (2 * (k + 1)) = t.take (2 * k) ++ [p, q] := by
  rw [show 2 * (k + 1) = 2 * k + 1 + 1 by omega, List.take_add_one, List.take_add_one, h1, h2]
  simp
theorem infoIntH : (Try.prog.info? 3).map (fun i => (i.zero, i.size, i.bytes)) = some (some (.int .i64 0), 1, 8) := by kernel_rfl
/-- what Head answers -/
def hdE (l : List Int) (text : List UInt8) : Int := if wnE l = 0 then (if 500 < text.length then 2 else putE 1 (wnT l ++ text)) else wnE l
def hdT (l : List Int) (text : List UInt8) : List UInt8 := if wnE l = 0 ∧ text.length ≤ 500 then putT 1 (wnT l ++ text) else []
theorem wn_len (l : List Int) : (wnT l).length ≤ 5 * l.length := by
  unfold wnT
  split
  · rename_i h
    induction l with
    | nil => simp [numsL]
    | cons n l ih =>
      rw [wnE] at h
      split at h
      · rename_i hr
        have h5 := num_five (n := n.toNat) (by omega)
        have h6 := ih h
        have e : numsL ((n :: l).map Int.toNat) = numL n.toNat ++ numsL (l.map Int.toNat) := by simp [numsL]
        rw [e, List.length_append, List.length_cons]
        omega
      · omega
  · simp
theorem jz_app (a b : List Int) : jzC (a ++ b) = jzC a ++ jzC b := by simp [jzC]

set_option maxRecDepth 20000 in
set_option maxHeartbeats 4000000 in
theorem Head_any (gen base : Int) (text : ByteArray) (t : List Int) (ht : t.length = 16) (hs : text.size ≤ 9223372036854775807) (w : World) :
    Calls Try.prog 63 #[.int .i64 gen, .int .i64 base, .string text, tabV t] w fun e w' => e = .returned (.tuple #[.string ⟨(hdT (gen :: base :: t) text.data.toList).toArray⟩, .int .i64 (hdE (gen :: base :: t) text.data.toList)]) ∧ Below w.heap.size w w' := by
  obtain ⟨ip, hip, hp0, hp1, hp2⟩ := info_parts infoIntH
  have HIX : Hid (∀ k, k < 8 → _) := fun k hk => tab_ix ht hk
  have HTL : Hid (t.length = 16) := ht
  obtain ⟨T, hT⟩ : ∃ T, t = T := ⟨_, rfl⟩
  rw [hT] at HIX HTL
  match t, ht, hT with
  | [x0, x1, x2, x3, x4, x5, x6, x7, x8, x9, x10, x11, x12, x13, x14, x15], _, hT =>
    rw [hT]
    have HTE : Hid (tabV T = .agg #[.int .i64 x0, .int .i64 x1, .int .i64 x2, .int .i64 x3, .int .i64 x4, .int .i64 x5, .int .i64 x6, .int .i64 x7, .int .i64 x8, .int .i64 x9, .int .i64 x10, .int .i64 x11, .int .i64 x12, .int .i64 x13, .int .i64 x14, .int .i64 x15]) := by show _ = _; rw [← hT]; rfl
    rw [HTE.out] at HIX ⊢
    obtain ⟨L, hL⟩ : ∃ L, gen :: base :: T = L := ⟨_, rfl⟩
    rw [hL]
    have HL : Hid (gen :: base :: T = L) := hL
    clear hT hL
    go_enter Try.func63, Try.ntmps63
    go_wp2_with fail
    go_loopw [10, 19] (fun lv i wr => ∃ (k : Nat) (ao : Option Addr) (co : Nat), k ≤ 8 ∧ i = .int .i64 k ∧ lv = .slice ao (2 + 2 * k) co ∧ wr.ownsRow w.heap.size 3 1 (.slice ao (2 + 2 * k) co) (2 + 2 * k) (jzC (gen :: base :: T.take (2 * k))) ∧ Below w.heap.size w wr) (fun _ i _ => 8 - (intOf i).toNat)
    case atStart =>
      refine ⟨0, _, _, Nat.zero_le _, rfl, rfl, ?_, ((Below.refl _ w).alloc (Nat.le_refl _) _).alloc (by simp) _⟩
      simp only [Nat.mul_zero, List.take_zero, Nat.add_zero]
      have h := World.ownsRow_lit (base := w.heap.size) (e := 3) (size := 1) (w.alloc (.cells #[.int .i64 x0, .int .i64 x1, .int .i64 x2, .int .i64 x3, .int .i64 x4, .int .i64 x5, .int .i64 x6, .int .i64 x7, .int .i64 x8, .int .i64 x9, .int .i64 x10, .int .i64 x11, .int .i64 x12, .int .i64 x13, .int .i64 x14, .int .i64 x15] 80)) #[.int .i64 gen, .int .i64 base] 2 (by simp) (by decide) rfl
      rw [show (w.alloc (.cells #[.int .i64 x0, .int .i64 x1, .int .i64 x2, .int .i64 x3, .int .i64 x4, .int .i64 x5, .int .i64 x6, .int .i64 x7, .int .i64 x8, .int .i64 x9, .int .i64 x10, .int .i64 x11, .int .i64 x12, .int .i64 x13, .int .i64 x14, .int .i64 x15] 80)).heap.size = w.heap.size + 1 from Deep.nblk_alloc _ _] at h
      exact h
    case round =>
      rename World => wr
      obtain ⟨k, ao, co, hk, rfl, rfl, hown, hb⟩ := hrel
      have HO : Hid (wr.ownsRow w.heap.size 3 1 (.slice ao (2 + 2 * k) co) (2 + 2 * k) (jzC (gen :: base :: T.take (2 * k)))) := hown
      have HB : Hid (Below w.heap.size w wr) := hb
      have hz := hb.size
      clear hown hb
      by_cases hlt : k < 8
      · obtain ⟨p, q, h1, h2, hix⟩ := HIX.out k hlt
        have HX : Hid _ := tab_take h1 h2
        have hki : (k : Int) < 8 := by omega
        clear h1 h2
        have hlen : (jzC (gen :: base :: T.take (2 * k))).length = 2 + 2 * k := by
          rw [jzC_len, List.length_cons, List.length_cons, List.length_take, HTL.out]; omega
        have HLEN : Hid _ := hlen
        clear hlen
        have hAs := own_alloc (own_alloc HO.out (.cells #[.int .i64 p, .int .i64 q] 79)) (.cells #[.int .i64 p, .int .i64 q] 3)
        go_wp2_with (at_builtin; refine wpList_append_own _ rfl _ _ 61 rfl w.heap.size 3 ip _ 1 8 Try.underlying61 hip hp0 hp1 hp2 rfl (by decide) _ _ _ rfl hAs ⟨wr.heap.size + 1, 0, none⟩ 2 2 [.int .i64 p, .int .i64 q] rfl rfl ?c2 (by simp [Value.oneCell']) ?c3 ?c4 ?c5 ?_)
        case c2 => exact World.news_of_block (cs := #[.int .i64 p, .int .i64 q]) (t := 3) (fr := (0, 0)) (by have h := heap_alloc_new (wr.alloc (.cells #[.int .i64 p, .int .i64 q] 79)) (.cells #[.int .i64 p, .int .i64 q] 3); rw [show (wr.alloc (.cells #[.int .i64 p, .int .i64 q] 79)).heap.size = wr.heap.size + 1 from Deep.nblk_alloc _ _] at h; exact h)
        case c3 => unfold maxLen; omega
        case c4 => omega
        case c5 => first | omega | (simp; omega)
        intro v' w2 hown2 hgrow _
        obtain ⟨bo, cb2, rfl⟩ := slice_form' hown2
        have HB2 : Hid (Below w.heap.size w w2) := below_own' ((HB.out.alloc hz _).alloc (by simp; omega) _) hAs hgrow (by simp; omega)
        have HO2 : Hid (w2.ownsRow w.heap.size 3 1 (.slice bo (2 + 2 * k + 2) cb2) (2 + 2 * k + 2) (jzC (gen :: base :: T.take (2 * (k + 1))))) := by
          show w2.ownsRow _ _ _ _ _ _
          rw [HX.out, show gen :: base :: (T.take (2 * k) ++ [p, q]) = (gen :: base :: T.take (2 * k)) ++ [p, q] from rfl, jz_app]
          exact hown2
        clear hown2 hgrow hAs hix
        go_wp2_with fail
        go_roundw
        case rel => exact ⟨k + 1, bo, cb2, by omega, by go_num, by rw [show 2 + 2 * (k + 1) = 2 + 2 * k + 2 by omega], by rw [show 2 + 2 * (k + 1) = 2 + 2 * k + 2 by omega]; exact HO2.out, HB2.out⟩
        case measure => simp [intOf]; omega
      · have hk8 : k = 8 := by omega
        subst hk8
        have HO3 : Hid (wr.ownsRow w.heap.size 3 1 (.slice ao (gen :: base :: T).length co) (gen :: base :: T).length (jzC (gen :: base :: T))) := by
          have h := HO.out
          rw [List.take_of_length_le (by rw [HTL.out]; exact Nat.le_refl _)] at h
          rw [List.length_cons, List.length_cons, HTL.out]
          exact h
        have HI3 : Hid (IzAt wr wr.heap.size ao (gen :: base :: T) co) := jz_own HO3.out
        have HLL : Hid ((gen :: base :: T).length = 18) := by show _ = _; rw [List.length_cons, List.length_cons, HTL.out]
        rw [HL.out] at HI3 HLL
        clear HO HO3 HTE HIX HL
        have HN : Hid (∀ (w : World) (b : Option Addr) (c : Nat), IzAt w w.heap.size b L c → Calls Try.prog 94 #[.slice b 18 c] w fun e w' => e = .returned (.tuple #[.string ⟨(wnT L).toArray⟩, .int .i64 (wnE L)]) ∧ Below w.heap.size w w') := fun w b c hp => by
          have h := writeNums_any b L c w hp (by rw [HLL.out]; decide)
          rw [HLL.out] at h
          exact h
        have hwl := wn_len L
        rw [HLL.out] at hwl
        have htl : text.data.toList.length = text.size := Array.length_toList
        by_cases h0 : wnE L = 0
        · by_cases h5 : 500 < text.size
          · have HE : Hid (hdT L text.data.toList = [] ∧ hdE L text.data.toList = 2) := ⟨by rw [hdT, if_neg (by omega)], by rw [hdE, if_pos h0, if_pos (by omega)]⟩
            have h5i : (500 : Int) < (text.size : Int) := by omega
            rw [h0] at HN
            clear h0 htl hwl h5
            go_wp2_with fail
            with_reducible refine (HN.out _ _ _ HI3.out).mono ?_
            rintro e w3 ⟨rfl, hb3⟩
            have HB3 : Hid (Below w.heap.size w w3) := HB.out.trans (hb3.mono hz)
            clear hb3
            go_wp2_with fail
            go_ret2
            exact ⟨ret_num (s := []) HE.out.1.symm HE.out.2.symm, HB3.out⟩
          · have HE : Hid (hdT L text.data.toList = putT 1 (wnT L ++ text.data.toList) ∧ hdE L text.data.toList = putE 1 (wnT L ++ text.data.toList)) := ⟨by rw [hdT, if_pos ⟨h0, by omega⟩], by rw [hdE, if_pos h0, if_neg (by omega)]⟩
            have h5i : ¬ (500 : Int) < (text.size : Int) := by omega
            rw [h0] at HN
            have HPut : Hid _ := fun w => FPut_any 1 (⟨(wnT L).toArray⟩ ++ text) w (by rw [ByteArray.size_append]; show (wnT L).toArray.size + _ ≤ _; simp; omega)
            have hcat : (⟨(wnT L).toArray⟩ ++ text : ByteArray).data.toList = wnT L ++ text.data.toList := by simp
            rw [hcat] at HPut
            obtain ⟨u, hu⟩ : ∃ u, wnT L = u := ⟨_, rfl⟩
            rw [hu] at HN HE HPut hwl
            have hsz : (⟨u.toArray⟩ : ByteArray).size ≤ 90 := by show u.toArray.size ≤ _; simp; omega
            clear h0 htl hcat hu
            go_wp2_with fail
            with_reducible refine (HN.out _ _ _ HI3.out).mono ?_
            rintro e w3 ⟨rfl, hb3⟩
            have HB3 : Hid (Below w.heap.size w w3) := HB.out.trans (hb3.mono hz)
            clear hb3
            go_wp2_with fail
            with_reducible refine (HPut.out _).mono ?_
            rintro e w4 ⟨rfl, hb4⟩
            have HB4 : Hid (Below w.heap.size w w4) := HB3.out.trans (hb4.mono HB3.out.size)
            clear hb4
            go_wp2_with fail
            go_ret2
            exact ⟨ret_num HE.out.1.symm HE.out.2.symm, HB4.out⟩
        · have HE : Hid (hdT L text.data.toList = [] ∧ hdE L text.data.toList = wnE L) := ⟨by rw [hdT, if_neg (fun h => h0 h.1)], by rw [hdE, if_neg h0]⟩
          obtain ⟨q, hq⟩ : ∃ q, wnE L = q := ⟨_, rfl⟩
          rw [hq] at HN HE h0
          have h0' : (q != 0) = true := by simp [h0]
          clear h0 hq hwl htl
          go_wp2_with fail
          with_reducible refine (HN.out _ _ _ HI3.out).mono ?_
          rintro e w3 ⟨rfl, hb3⟩
          have HB3 : Hid (Below w.heap.size w w3) := HB.out.trans (hb3.mono hz)
          clear hb3
          go_wp2_with fail
          go_ret2
          exact ⟨ret_num (s := []) HE.out.1.symm HE.out.2.symm, HB3.out⟩
end Go.Proofs.Ytgffippimmokiaa

/- What is written, frame by frame, and read: no program in it. -/
namespace Go.Proofs.Ytgffippimmokiaa
set_option linter.unusedSimpArgs false
set_option linter.unusedVariables false

def zeroT : List Int := List.replicate 16 0
/-- a head's frame -/
def headFr (gen base : Nat) (text : List UInt8) : Fr := ⟨1, numsL (gen :: base :: List.replicate 16 0) ++ text⟩
def headLg (gen base : Nat) (text : List UInt8) : Lg := ⟨gen, base, text, zeroT, zeroT, [], false, rowN [headFr gen base text]⟩
theorem wn_zero {gen base : Nat} (hg : gen ≤ 2147483647) (hb : base ≤ 2147483647) : wnE ((gen : Int) :: (base : Int) :: zeroT) = 0 ∧ wnT ((gen : Int) :: (base : Int) :: zeroT) = numsL (gen :: base :: List.replicate 16 0) := by
  have h : wnE ((gen : Int) :: (base : Int) :: zeroT) = 0 := by
    rw [wnE, if_pos ⟨by omega, by omega⟩, wnE, if_pos ⟨by omega, by omega⟩]
    decide
  refine ⟨h, ?_⟩
  rw [wnT, if_pos h]
  congr 1
theorem head_zero {gen base : Nat} {text : List UInt8} (hg : gen ≤ 2147483647) (hb : base ≤ 2147483647) (ht : text.length ≤ 500) :
    hdE ((gen : Int) :: (base : Int) :: zeroT) text = 0 ∧ hdT ((gen : Int) :: (base : Int) :: zeroT) text = rowL [headFr gen base text] ∧ frOk (headFr gen base text) = true ∧ hdL (headFr gen base text) = some (headLg gen base text) := by
  obtain ⟨h1, h2⟩ := wn_zero hg hb
  have hl := wn_len ((gen : Int) :: (base : Int) :: zeroT)
  rw [h2] at hl
  have hl2 : (numsL (gen :: base :: List.replicate 16 0)).length ≤ 90 := by simpa [zeroT] using hl
  have hp : putE 1 (numsL (gen :: base :: List.replicate 16 0) ++ text) = 0 := putE_of (by decide) (by decide) (by rw [List.length_append]; omega)
  refine ⟨by rw [hdE, if_pos h1, if_neg (by omega), h2, hp], ?_, ?_, ?_⟩
  · rw [hdT, if_pos ⟨h1, ht⟩, h2, putT, if_pos hp]
    simp [rowL, headFr]
  · simp only [frOk, decide_eq_true_eq]
    exact hp
  · have hn := nums_get (gen :: base :: List.replicate 16 0) (by
      intro n hn
      rcases List.mem_cons.1 hn with rfl | hn
      · exact hg
      · rcases List.mem_cons.1 hn with rfl | hn
        · exact hb
        · rw [List.eq_of_mem_replicate hn]; decide) text
    rw [hdL, if_pos (show (headFr gen base text).k = 1 from rfl)]
    rw [show (headFr gen base text).t = numsL (gen :: base :: List.replicate 16 0) ++ text from rfl, show (18 : Nat) = (gen :: base :: List.replicate 16 0).length from rfl, hn]
    simp only
    rw [if_pos ht]
    rfl
theorem head_long {gen base : Nat} {text : List UInt8} (hg : gen ≤ 2147483647) (hb : base ≤ 2147483647) (ht : 500 < text.length) : hdE ((gen : Int) :: (base : Int) :: zeroT) text = 2 := by
  rw [hdE, if_pos (wn_zero hg hb).1, if_pos ht]
theorem head_lok {gen base : Nat} {text : List UInt8} (hg : gen ≤ 2147483647) (hb : base ≤ 2147483647) (ht : text.length ≤ 500) : LOk (headLg gen base text) (text.length : Nat) := by
  obtain ⟨_, _, h3, h4⟩ := head_zero hg hb ht
  exact hd_ok h4 (fr_len h3)
theorem done_ok : frOk doneFr = true := by decide
theorem row_one (f : Fr) : rowL [f] = frameL f.k.toNat f.t := by simp [rowL]
/-- frames that are right, one behind the other, are read as they were -/
theorem rows_read {gen base : Nat} {text : List UInt8} (hg : gen ≤ 2147483647) (hb : base ≤ 2147483647) (ht : text.length ≤ 500) {fs : List Fr} (hf : ∀ f ∈ fs, frOk f = true) :
    logE (scanL (rowL (headFr gen base text :: fs))).1 = 0 ∧ logS (scanL (rowL (headFr gen base text :: fs))).1 = (walkL (headLg gen base text) (text.length : Nat) fs).1 := by
  obtain ⟨_, _, h3, h4⟩ := head_zero hg hb ht
  have hs := scan_row (r := []) (by decide) (headFr gen base text :: fs) (by
    intro f hx
    rcases List.mem_cons.1 hx with rfl | hx
    · exact h3
    · exact hf f hx)
  rw [List.append_nil] at hs
  exact log_of (by rw [hs]) h4
/-- eight numbers, one a hand -/
def upsL : List Int → List Rv → Prop
  | _, [] => True
  | t, r :: l => t[r.who.toNat]?.getD 0 < r.seq ∧ upsL (t.set r.who.toNat r.seq) l
theorem ups_of (l : List Rv) : ∀ (t8 t : List Int) (b : Int), (∀ r ∈ l, 0 ≤ r.who ∧ r.who ≤ 7) → t8.length = 8 → t.length = 16 → (∀ k, k < 8 → t[2 * k]? = t8[k]?) → upsL t8 l → ups t b l := by
  induction l with
  | nil => intro _ _ _ _ _ _ _ _; trivial
  | cons r l ih =>
    intro t8 t b hw h8 h16 hk hu
    obtain ⟨w1, w2⟩ := hw r (by simp)
    refine ⟨?_, ?_⟩
    · rw [seqOf, hk r.who.toNat (by omega)]
      exact hu.1
    · refine ih _ _ _ (fun x hx => hw x (by simp [hx])) (by rw [List.length_set]; exact h8) (by rw [tabPut_len]; exact h16) (fun k hk8 => ?_) hu.2
      rw [tabPut, List.getElem?_set_ne (by omega)]
      by_cases e : r.who.toNat = k
      · subst e
        rw [List.getElem?_set_self (by omega), List.getElem?_set_self (by omega)]
      · rw [List.getElem?_set_ne (by omega), List.getElem?_set_ne e]
        exact hk k hk8
theorem hist_all {s : List UInt8} {l : List Rv} (h : histE s l = 0) : ∀ r ∈ l, oneE r = 0 := by
  induction l generalizing s with
  | nil => intro r hr; cases hr
  | cons x l ih =>
    intro r hr
    obtain ⟨g1, _, _, g4⟩ := hist_cons h
    rcases List.mem_cons.1 hr with rfl | hr
    · exact g1
    · exact ih g4 r hr
/-- all that was written is read -/
theorem back_read {gen base : Nat} {text : List UInt8} {l : List Rv} (hg : gen ≤ 1000) (hb : base ≤ 1000) (hc : checkE text l = 0) (hu : upsL (List.replicate 8 0) l) :
    logE (scanL (rowL (headFr gen base text :: (l.map revFr ++ [doneFr])))).1 = 0 ∧ ∃ t, t.length = 16 ∧ logS (scanL (rowL (headFr gen base text :: (l.map revFr ++ [doneFr])))).1 = ⟨gen, base, text, zeroT, t, l, true, rowN (headFr gen base text :: (l.map revFr ++ [doneFr]))⟩ := by
  obtain ⟨c1, c2, c3⟩ := check_zero hc
  have hall := hist_all c3
  have hok := head_lok (gen := gen) (base := base) (text := text) (by omega) (by omega) c1
  obtain ⟨t, m, hm⟩ := back_walk l (headLg gen base text) (text.length : Nat) hok (by
      show histE (textAt text [] 0) l = 0
      exact c3) (by show 0 + l.length ≤ 64; omega) (by show (base : Int) + ((0 : Nat) : Int) + (l.length : Int) < 2147483647; omega) (by
      show ups zeroT ((base : Int) + ((0 : Nat) : Int)) l
      refine ups_of l (List.replicate 8 0) zeroT _ (fun r hr => ?_) (by simp) (by simp [zeroT]) (fun k hk => ?_) hu
      · obtain ⟨⟨a1, a2, _, _⟩, _⟩ := one_zero (hall r hr)
        exact ⟨a1, a2⟩
      · rw [zeroT, List.getElem?_replicate, List.getElem?_replicate, if_pos (by omega), if_pos hk]) rfl
  have hf : ∀ f ∈ l.map revFr ++ [doneFr], frOk f = true := by
    intro f hf
    rcases List.mem_append.1 hf with hf | hf
    · obtain ⟨r, hr, rfl⟩ := List.mem_map.1 hf
      exact rev_fr_ok (hall r hr)
    · rw [List.mem_singleton.1 hf]; exact done_ok
  obtain ⟨e1, e2⟩ := rows_read (gen := gen) (base := base) (text := text) (by omega) (by omega) c1 hf
  refine ⟨e1, t, ?_, ?_⟩
  · have hw := walk_ok (l.map revFr ++ [doneFr]) _ _ hok (fun f hx => fr_len (hf f hx))
    rw [hm] at hw
    exact hw.table
  · rw [e2, hm]
    show (⟨gen, base, text, zeroT, t, [] ++ l, true, rowN [headFr gen base text] + rowN (l.map revFr ++ [doneFr])⟩ : Lg) = _
    rw [List.nil_append, ← rowN_app]
    rfl
end Go.Proofs.Ytgffippimmokiaa
