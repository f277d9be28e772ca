/- What hash.grown, hash.borders and hash.Find answer. -/
import Derived.Test.YtbfabahdaacpfabIntRow
import Derived.Test.YtbfabahdaacpfabKmpL
import Derived.Test.YtbfabahdaacpfabHashOf
import Derived.OwnWalk
import Derived.Deep.RegionWith
namespace Go.Proofs.Ytbfabahdaacpfab
open Go.RowKit
set_option linter.unusedSimpArgs false
set_option linter.unusedVariables false

theorem byte_ne {t : List UInt8} {g : Nat} {b c : UInt8} (h : t[g]? = some c) : (t[g]? = some b) ↔ c = b := by rw [h]; simp
theorem u8_eq (b c : UInt8) : ((b.toNat : Int) = (c.toNat : Int)) ↔ b = c := by
  rw [Int.ofNat_inj]; exact UInt8.toNat_inj

set_option maxRecDepth 20000 in
set_option maxHeartbeats 4000000 in
theorem grown_any (t : ByteArray) (u : List UInt8) (B gb : Nat) (l : List Nat) (N g : Nat) (b : UInt8) (w : World) (hr : IntRow w B gb l) (ht : 0 < t.size) (hs : t.size ≤ 1000000000000000000) (hl : l.length = t.size)
    (hB : Backs t.data.toList l g) (hT : Top t.data.toList u N g) :
    Calls Try.prog 14 #[.string t, .slice (some ⟨gb, 0, none⟩) t.size t.size, .int .i64 g, .int .u8 b.toNat] w fun e w' => ∃ q : Nat, e = .returned (.int .i64 q) ∧ Grew t.data.toList u N b q ∧ w' = w := by
  have htl : t.data.toList.length = t.size := Array.length_toList
  have HR : Hid _ := hr
  have HB : Hid _ := hB
  have HT : Hid _ := hT
  have HL : Hid (l.length = t.size ∧ t.data.toList.length = t.size) := ⟨hl, htl⟩
  have hgl : g ≤ t.size := by have := hT.2.1; omega
  have hbl := (hr.block (by omega)).2
  clear hr hB hT htl
  go_enter Try.func14, Try.ntmps14
  go_wp2_with fail
  go_loop [2] (fun i => ∃ k : Nat, k ≤ g ∧ i = .int .i64 k ∧ Go1 t.data.toList u N b k) (fun i => (intOf i).toNat)
  case atStart => exact ⟨g, Nat.le_refl _, rfl, go1_start b HT.out⟩
  case round =>
    obtain ⟨k, hk, rfl, hgo⟩ := hrel
    have HG : Hid _ := hgo
    clear hgo
    by_cases hk0 : k = 0
    · subst hk0
      obtain ⟨c, hc⟩ : ∃ c, t.data.toList[0]? = some c := ⟨t.data.toList[0]'(by have := HL.out.2; omega), List.getElem?_eq_getElem _⟩
      have hat := at_byte hc ht
      by_cases hcb : c = b
      · subst hcb
        have HY : Hid _ := grew_yes HG.out hc
        clear hc hl
        go_wp2_with fail
        go_ret
        exact ⟨1, rfl, HY.out, rfl⟩
      · have HY : Hid _ := grew_no HG.out (fun h => hcb ((byte_ne hc).1 h))
        have hne : ((c.toNat : Int) == (b.toNat : Int)) = false := by simpa using fun h => hcb ((u8_eq c b).1 (by omega))
        clear hc hl
        go_wp2_with fail
        go_ret
        exact ⟨0, rfl, HY.out, rfl⟩
    · obtain ⟨j, rfl⟩ : ∃ j, k = j + 1 := ⟨k - 1, by omega⟩
      obtain ⟨q, hq, hqt⟩ := HB.out j (by omega)
      have hcell := IntRow.cellOf HR.out hq
      have hqj : q ≤ j := hqt.1
      by_cases hkt : j + 1 = t.size
      · have HS : Hid _ := go1_step HG.out (by rw [List.getElem?_eq_none (by have := HL.out.2; omega)]; simp) hqt
        have hcell2 : w.cell? ⟨gb, t.size - 1, none⟩ = some (.int .i64 q) := by rw [show t.size - 1 = j by omega]; exact hcell
        clear hq hqt
        go_wp2_with fail
        go_round
        case rel => exact ⟨q, by omega, rfl, HS.out⟩
        case measure => simp [intOf]; omega
      · have hlt : j + 1 < t.size := by omega
        obtain ⟨c, hc⟩ : ∃ c, t.data.toList[j + 1]? = some c := ⟨t.data.toList[j + 1]'(by have := HL.out.2; omega), List.getElem?_eq_getElem _⟩
        have hat := at_byte hc hlt
        by_cases hcb : c = b
        · subst hcb
          have HY : Hid _ := grew_yes HG.out hc
          clear hc hq hqt
          go_wp2_with fail
          go_ret
          exact ⟨j + 2, by go_num, HY.out, rfl⟩
        · have HS : Hid _ := go1_step HG.out (fun h => hcb ((byte_ne hc).1 h)) hqt
          have hne : ((c.toNat : Int) == (b.toNat : Int)) = false := by simpa using fun h => hcb ((u8_eq c b).1 (by omega))
          have hnn : ((c.toNat : Int) != (b.toNat : Int)) = true := by simp only [bne, hne]; rfl
          clear hc hq hqt
          go_wp2_with fail
          go_round
          case rel => exact ⟨q, by omega, rfl, HS.out⟩
          case measure => simp [intOf]; omega

set_option maxRecDepth 20000 in
set_option maxHeartbeats 4000000 in
theorem borders_any (t : ByteArray) (w : World) (ht : 0 < t.size) (hs : t.size ≤ 35184372088832) :
    Calls Try.prog 13 #[.string t] w fun e w' => ∃ (g : Nat) (l : List Nat), e = .returned (.slice (some ⟨g, 0, none⟩) t.size t.size) ∧ l.length = t.size ∧ IntRow w' w.heap.size g l ∧ Backs t.data.toList l t.size ∧ Below w.heap.size w w' := by
  obtain ⟨ip, hip, hp0, hp1, hp2⟩ := info_parts infoInt
  have htl : t.data.toList.length = t.size := Array.length_toList
  have HTL : Hid (t.data.toList.length = t.size) := htl
  have hbb : ip.bytes * t.size ≤ 281474976710656 := by rw [hp2]; omega
  clear htl
  go_enter Try.func13, Try.ntmps13
  go_wp2_with (at_make; refine wpList_make_full _ rfl _ _ 27 rfl w.heap.size 3 ip _ 1 Try.underlying27 hip hp0 hp1 .i64 .i64 _ _ t.size rfl rfl ?m1 ?m2 hbb ?m3 (Nat.le_refl _) ?_)
  case m1 => go_num
  case m2 => go_num
  case m3 => unfold maxLen; omega
  intro w1 hown hgrow
  have HB1 : Hid (Below w.heap.size w w1) := (Below.refl _ _).grown hgrow (Nat.le_refl _) (fun k hk => by simp at hk)
  have HO1 : Hid (IntRow w1 w.heap.size w.heap.size (List.replicate t.size 0)) := by
    show IntRow _ _ _ _
    unfold IntRow
    rw [← made_ints, List.length_replicate]
    simpa [Value.cells] using hown
  clear hown hgrow
  go_wp2_with fail
  go_loopw [4] (fun i wr => ∃ (j : Nat) (l : List Nat), j + 1 ≤ t.size ∧ i = .int .i64 ((j : Int) + 1) ∧ l.length = t.size ∧ IntRow wr w.heap.size w.heap.size l ∧ Backs t.data.toList l (j + 1) ∧ Below w.heap.size w wr) (fun i _ => t.size - (intOf i).toNat)
  case atStart =>
    refine ⟨0, _, by omega, rfl, by rw [List.length_replicate], HO1.out, ?_, HB1.out⟩
    intro i hi
    obtain rfl : i = 0 := by omega
    exact ⟨0, by rw [List.getElem?_replicate, if_pos ht], back_first _⟩
  case round =>
    rename World => wo
    obtain ⟨j, l, hj, rfl, hl, hr, hbk, hb⟩ := hrel
    have hz := hb.size
    by_cases hlt : j + 1 < t.size
    · obtain ⟨q, hq, hqt⟩ := hbk j (by omega)
      obtain ⟨c, hc⟩ : ∃ c, t.data.toList[j + 1]? = some c := ⟨t.data.toList[j + 1]'(by have := HTL.out; omega), List.getElem?_eq_getElem _⟩
      obtain ⟨r, hr1⟩ : ∃ r, l[j + 1]? = some r := ⟨l[j + 1]'(by omega), List.getElem?_eq_getElem _⟩
      have hat := at_byte hc hlt
      have hcell := IntRow.cellOf hr hq
      have hcell2 := IntRow.cellOf hr hr1
      have hfz := IntRow.frozen hr (j + 1)
      have hblk := (IntRow.block hr (by omega)).2
      have hjw : IntKind.i64.wrap (j : Int) = j := IntWalk.i64_in _ ⟨by omega, by omega⟩
      have HR : Hid (IntRow wo w.heap.size w.heap.size l) := hr
      have HK : Hid _ := hbk
      have HC : Hid _ := hc
      have HQ : Hid _ := hqt
      have HB : Hid _ := hb
      have hqj : q ≤ j := hqt.1
      have HLL : Hid _ := hl
      clear hq hqt hc hr1 hr hbk hb hl
      go_wp2_with fail
      go_region_with (go_at_call 14; refine (grown_any t (t.data.toList.take (j + 1)) w.heap.size w.heap.size l j q c _ (IntRow.drew HR.out) ht (by omega) HLL.out (fun i hi => HK.out i (by omega)) HQ.out).mono ?_; rintro e wx ⟨q2, rfl, hq2, rfl⟩)
      all_goals (
        go_wp2_with fail
        go_roundw
        case rel =>
          refine ⟨j + 1, l.set (j + 1) q2, by omega, by go_num, by rw [List.length_set]; exact HLL.out, ?_, ?_, ?_⟩
          · exact IntRow.drew (IntRow.put HR.out (j + 1) q2)
          · exact Backs.snoc HK.out (by rw [HLL.out]; omega) (grew_back HC.out hq2)
          · exact (HB.out.setCell (Nat.le_refl _) _).drew
        case measure => simp [intOf]; omega)
    · obtain rfl : j = t.size - 1 := by omega
      have HR : Hid (IntRow wo w.heap.size w.heap.size l ∧ Backs t.data.toList l (t.size - 1 + 1) ∧ Below w.heap.size w wo ∧ l.length = t.size) := ⟨hr, hbk, hb, hl⟩
      clear hr hbk hb hl
      go_wp2_with fail
      go_ret
      refine ⟨w.heap.size, l, rfl, HR.out.2.2.2, HR.out.1, ?_, HR.out.2.2.1⟩
      have h := HR.out.2.1
      rwa [show t.size - 1 + 1 = t.size by omega] at h
end Go.Proofs.Ytbfabahdaacpfab
