/- What the document's own Spot answers: the same as package spot's Of. -/
import Derived.Test.YtilcmbophfjjbaaPlW
import Derived.Test.YtilcmbophfjjbaaMeetL
import Derived.Test.YtilcmbophfjjbaaPlDo
import Derived.Test.YtilcmbophfjjbaaOf
import Derived.Deep.QuietTactic
import Derived.BigQuiet
namespace Go.Proofs.Ytilcmbophfjjbaa
open Go.RowKit
set_option linter.unusedSimpArgs false
set_option linter.unusedVariables false

set_option maxHeartbeats 400000 in
theorem b2i_any (b : Bool) (w : World) : Calls Try.prog 28 #[.bool b] w fun e w' => e = .returned (.int .i64 (b.toNat : Int)) ∧ w' = w := by
  cases b
  · go_enter Try.func28, Try.ntmps28
    go_wp2
    go_ret
    exact ⟨rfl, rfl⟩
  · go_enter Try.func28, Try.ntmps28
    go_wp2
    go_ret
    exact ⟨rfl, rfl⟩
theorem spotP_step {qs : List ByteArray} {ks : List Bool} {k n : Nat} {q : ByteArray} {b : Bool} (late : Bool) (hq : qs[k]? = some q) (hb : ks[k]? = some b) (hn : k < n) :
    spotP (qs.drop k) (ks.drop k) (n - k) late = q.size + b.toNat + spotP (qs.drop (k + 1)) (ks.drop (k + 1)) (n - (k + 1)) late := by
  obtain ⟨l1, rfl⟩ := List.getElem?_eq_some_iff.1 hq
  obtain ⟨l2, rfl⟩ := List.getElem?_eq_some_iff.1 hb
  rw [List.drop_eq_getElem_cons l1, List.drop_eq_getElem_cons l2, show n - k = (n - (k + 1)) + 1 by omega]
  rfl
theorem spotP_last {qs : List ByteArray} {ks : List Bool} {k : Nat} {q : ByteArray} (late : Bool) (hq : qs[k]? = some q) : spotP (qs.drop k) (ks.drop k) 0 late = if late = true then q.size else 0 := by
  obtain ⟨l1, rfl⟩ := List.getElem?_eq_some_iff.1 hq
  rw [List.drop_eq_getElem_cons l1]
  cases ks.drop k <;> rfl

set_option maxHeartbeats 2000000 in
theorem RSpot_any (a : Option Addr) (l : List Pt) (cap : Nat) (at_ : Nat) (late : Bool) (w : World) (hp : PartsAt w w.heap.size a l) (hz : sizesE l = 0) (ha : (at_ : Int) ≤ inI l) :
    Calls Try.prog 15 #[.slice a l.length cap, .int .i64 at_, .bool late] w fun e w' => e = .returned (.int .i64 (spotW (wordL l) at_ late : Nat)) ∧ Below w.heap.size w w' := by
  have hsm := (sizes_zero hz).1
  obtain ⟨gd, c, i, o, b1, b2⟩ := delta_facts hz
  have k1 := ofAll_keptlen (l := l) (fun p hp => ⟨(gd p hp).2.1, (gd p hp).2.2.1⟩)
  have HF : Hid (spotP (ofAll l).1 (ofAll l).2 at_ late = spotW (wordL l) at_ late) := spotP_of gd at_ ha late
  have sa := places_size (ofAll_len l)
  rw [places_word gd.kinds] at sa
  have HL : Hid ((ofAll l).1.length = (ofAll l).2.length + 1 ∧ at_ ≤ (ofAll l).2.length ∧ ∀ q ∈ (ofAll l).1, q.size ≤ 500) := ⟨ofAll_len l, by omega, fun q hq => by have := sa q hq; omega⟩
  have h5 : at_ ≤ 500 := by omega
  have HP : Hid (PartsAt w w.heap.size a l) := hp
  have HS : Hid (Small l) := hsm
  clear hp hz ha hsm gd c i o b1 b2 k1 sa
  go_enter Try.func15, Try.ntmps15
  go_wp2_with fail
  refine (Of_any a l cap _ HP.out HS.out).mono ?_
  rintro e w1 ⟨pv, kv, rfl, hq, hk, hb1⟩
  obtain ⟨ao, ca, rfl⟩ := slice_form' hq
  obtain ⟨bo, cb, rfl⟩ := slice_form' hk
  generalize (ofAll l).1 = qs at *
  generalize (ofAll l).2 = ks at *
  have HQ : Hid (w1.ownsRow w.heap.size 9 1 (.slice ao qs.length ca) qs.length (qs.map Value.string)) := hq
  have HK : Hid (w1.ownsRow w.heap.size 4 1 (.slice bo ks.length cb) ks.length (ks.map Value.bool)) := hk
  have HB1 : Hid (Below w.heap.size w w1) := hb1
  clear hq hk hb1
  go_wp2_with fail
  go_loopw [8, 13] (fun n i wr => ∃ (k told : Nat), k ≤ at_ ∧ i = .int .i64 k ∧ n = .int .i64 told ∧ told ≤ 501 * k ∧ told + spotP (qs.drop k) (ks.drop k) (at_ - k) late = spotP qs ks at_ late ∧ Below (w1.heap.size + 1) (w1.alloc (.cells #[.slice ao qs.length ca, .slice bo ks.length cb] 58)) wr) (fun _ i _ => at_ - (intOf i).toNat)
  case atStart => exact ⟨0, 0, Nat.zero_le _, rfl, rfl, by omega, by simp, Below.refl _ _⟩
  case round =>
    obtain ⟨k, told, hk, rfl, rfl, ht, hs, hb⟩ := hrel
    have hz := hb.size
    rw [show (w1.alloc (.cells #[.slice ao qs.length ca, .slice bo ks.length cb] 58)).heap.size = w1.heap.size + 1 from Deep.nblk_alloc _ _] at hz
    obtain ⟨hl1, hl2, hl3⟩ := HL.out
    have x0 : wr.cell? ⟨w1.heap.size, 0, none⟩ = some (.slice ao qs.length ca) := (hb.cell (p := ⟨w1.heap.size, 0, none⟩) (by simp)).trans (by rw [cell_of_row _ _ _ _ _ _ (Deep.blk_alloc_new w1 _)]; rfl)
    have x1 : wr.cell? ⟨w1.heap.size, 1, none⟩ = some (.slice bo ks.length cb) := (hb.cell (p := ⟨w1.heap.size, 1, none⟩) (by simp)).trans (by rw [cell_of_row _ _ _ _ _ _ (Deep.blk_alloc_new w1 _)]; rfl)
    have hbw : Below w1.heap.size w1 wr := ((Below.refl _ _).alloc (Nat.le_refl _) _).trans (hb.mono (by omega))
    have HBW : Hid (Below w.heap.size w wr) := HB1.out.trans (hbw.mono HB1.out.size)
    obtain ⟨q, hqk⟩ : ∃ q, qs[k]? = some q := ⟨qs[k]'(by omega), List.getElem?_eq_getElem _⟩
    have hqb := hl3 q (List.mem_of_getElem? hqk)
    obtain ⟨g, cg, hg, y1, hgw⟩ := own_at HQ.out (show (qs.map Value.string)[k]? = some (.string q) by simp [hqk])
    simp only [Value.slice.injEq, true_and] at hg
    obtain ⟨rfl, rfl⟩ := hg
    have y2 : wr.cell? ⟨g, k, none⟩ = some (.string q) := (hbw.cell (p := ⟨g, k, none⟩) hgw).trans y1
    have hgw2 : g < wr.heap.size := by omega
    have hlq : (k : Int) < (qs.length : Int) := by omega
    have HB : Hid (Below (w1.heap.size + 1) (w1.alloc (.cells #[.slice (some ⟨g, 0, none⟩) qs.length ca, .slice bo ks.length cb] 58)) wr) := hb
    by_cases hlt : k < at_
    · obtain ⟨b, hbk⟩ : ∃ b, ks[k]? = some b := ⟨ks[k]'(by omega), List.getElem?_eq_getElem _⟩
      obtain ⟨h, ch, hh, z1, hhw⟩ := own_at HK.out (show (ks.map Value.bool)[k]? = some (.bool b) by simp [hbk])
      simp only [Value.slice.injEq, true_and] at hh
      obtain ⟨rfl, rfl⟩ := hh
      have z2 : wr.cell? ⟨h, k, none⟩ = some (.bool b) := (hbw.cell (p := ⟨h, k, none⟩) hhw).trans z1
      have hhw2 : h < wr.heap.size := by omega
      have hlk : (k : Int) < (ks.length : Int) := by omega
      have HST : Hid _ := spotP_step late hqk hbk hlt
      have HS2 : Hid (told + spotP (qs.drop k) (ks.drop k) (at_ - k) late = spotP qs ks at_ late) := hs
      have hbn : b.toNat ≤ 1 := by cases b <;> decide
      have hw1 : w1.heap.size < wr.heap.size := by omega
      clear hb hs hbw hqk hbk y1 z1 hl1 hl2 hl3
      go_wp2_with fail
      go_quiet ((go_at_call 28; refine Calls.quiet_of_same (b2i_any b _)))
      go_wp2_with fail
      go_roundw
      case rel =>
        refine ⟨k + 1, told + (q.size + b.toNat), by omega, by go_num, by simp, by omega, ?_, ?_⟩
        · have := HS2.out; rw [HST.out] at this; omega
        · exact below_drewN HB.out _
      case measure => simp [intOf]; omega
    · have hka : k = at_ := by omega
      subst hka
      have HST : Hid _ := spotP_last (ks := ks) late hqk
      have HS2 : Hid (told + spotP (qs.drop k) (ks.drop k) 0 late = spotP qs ks k late) := by have h := hs; rw [Nat.sub_self] at h; exact h
      have hw1 : w1.heap.size < wr.heap.size := by omega
      clear hb hs hbw hqk y1 hl1 hl2 hl3
      cases late with
      | true =>
        have HR : Hid ((told : Int) + (q.size : Int) = (spotW (wordL l) k true : Nat)) := by
          show _ = _
          have h1 := HS2.out
          rw [HST.out, HF.out] at h1
          simp only [if_true] at h1; omega
        go_wp2_with fail
        go_ret
        exact ⟨ret_int HR.out, HBW.out⟩
      | false =>
        have HR : Hid ((told : Int) = (spotW (wordL l) k false : Nat)) := by
          show _ = _
          have h1 := HS2.out
          rw [HST.out, HF.out] at h1
          simp only [Bool.false_eq_true, if_false] at h1; omega
        go_wp2_with fail
        go_ret
        exact ⟨ret_int HR.out, HBW.out⟩

end Go.Proofs.Ytilcmbophfjjbaa
