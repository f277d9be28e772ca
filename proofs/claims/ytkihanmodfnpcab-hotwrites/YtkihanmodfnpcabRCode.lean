/- What the document's own Code answers, of a right delta. -/
import Derived.Test.YtkihanmodfnpcabRNum
import Derived.Test.YtkihanmodfnpcabCodeWrite
import Derived.Deep.RegionHeld3
namespace Go.Proofs.Ytkihanmodfnpcab
open Go.RowKit
set_option linter.unusedSimpArgs false
set_option linter.unusedVariables false

theorem join_text (a b : List UInt8) (s : ByteArray) : (⟨a.toArray⟩ ++ (⟨b.toArray⟩ ++ s) : ByteArray) = ⟨(a ++ (b ++ s.data.toList)).toArray⟩ := by
  apply ByteArray.ext
  simp
theorem box_below {w w2 : World} {k n : Int} {t : ByteArray} (hb : Below ((w.alloc (.cells #[.int .i64 k, .int .i64 n, .string t] 100)).drew).heap.size ((w.alloc (.cells #[.int .i64 k, .int .i64 n, .string t] 100)).drew) w2) :
    w2.cell? ⟨w.heap.size, 0, none⟩ = some (.int .i64 k) ∧ w2.cell? ⟨w.heap.size, 1, none⟩ = some (.int .i64 n) ∧ w2.cell? ⟨w.heap.size, 2, none⟩ = some (.string t) := by
  have h1 : w2.heap[w.heap.size]? = some (.cells #[.int .i64 k, .int .i64 n, .string t] 100 (0, 0)) := by
    rw [hb.block w.heap.size (by show w.heap.size < (w.heap.push _).size; simp)]
    exact Deep.blk_alloc_new w _
  refine ⟨?_, ?_, ?_⟩ <;> (rw [Lib.cell_of_heap h1]; rfl)

set_option maxRecDepth 20000 in
set_option maxHeartbeats 4000000 in
theorem RCode_any (a : Option Addr) (l : List Pt) (cap : Nat) (w : World) (hp : PartsAt w w.heap.size a l) (h0 : sizesE l = 0) :
    Calls Try.prog 38 #[.slice a l.length cap] w fun e w' => e = .returned (.string ⟨(codeL l).toArray⟩) ∧ Below w.heap.size w w' := by
  have HP : Hid (PartsAt w w.heap.size a l) := hp
  have hsm := (sizes_zero h0).1
  have HRT : Hid (Right l) := sizes_right h0
  have hl := hsm.1
  have HSM : Hid (Small l) := hsm
  have HRN : Hid _ := fun w => RNum_any l.length w (by omega)
  obtain ⟨t0, ht0⟩ : ∃ t, numL l.length = t := ⟨_, rfl⟩
  have h5 := num_five (n := l.length) (by omega)
  have HC : Hid (codeL l = t0 ++ l.flatMap codeP) := by show _ = _; rw [codeL, ht0]
  rw [ht0] at HRN h5
  clear hp h0 hsm ht0
  go_enter Try.func38, Try.ntmps38
  go_wp2_with fail
  refine (HRN.out _).mono ?_
  rintro e w1 ⟨rfl, hb1⟩
  have HB1 : Hid (Below w.heap.size w w1) := hb1
  have HP1 : Hid (PartsAt w1 w1.heap.size a l) := HP.out.here hb1 (Nat.le_refl _)
  clear hb1
  go_wp2_with fail
  go_loopw [3, 11] (fun x i wr => ∃ (k : Nat) (acc : List UInt8), k ≤ l.length ∧ i = .int .i64 k ∧ x = .string ⟨acc.toArray⟩ ∧ Below w1.heap.size w1 wr ∧
      acc ++ (l.drop k).flatMap codeP = codeL l ∧ acc.length ≤ 5 + 1000 * k) (fun _ i _ => l.length - (intOf i).toNat)
  case atStart => exact ⟨0, t0, Nat.zero_le _, rfl, rfl, Below.refl _ _, by rw [HC.out]; rfl, h5⟩
  case round =>
    rename World => wr
    obtain ⟨k, acc, hk, rfl, rfl, hb, hx, hacc⟩ := hrel
    have hz := hb.size
    have HB : Hid (Below w1.heap.size w1 wr) := hb
    by_cases hlt : k < l.length
    · obtain ⟨p, hpk⟩ : ∃ p, l[k]? = some p := ⟨l[k], List.getElem?_eq_getElem hlt⟩
      have hpm := List.mem_of_getElem? hpk
      have hpb := HSM.out.2 p hpm
      have hpr := (HRT.out p hpm).1
      have HX : Hid _ := hx.symm.trans (congrArg (acc ++ ·) (code_drop hpk))
      obtain ⟨b, off, rfl, hblt, c1, c2, c3⟩ := (HP1.out.below hb (Nat.le_refl _)).mem hpk
      have hbw : b < wr.heap.size := by omega
      obtain ⟨hpb1, hpb2, hpb3⟩ := hpb
      have hk0 : 0 ≤ p.k := by omega
      have hk3 : p.k ≤ 3 := by omega
      have hcn : 4 * (p.n + (p.t.size : Int)) + p.k = (codeN p : Int) := by unfold codeN; omega
      have hcb : codeN p ≤ 2147483647 := by omega
      have h52 := num_five hcb
      have HRN2 : Hid _ := fun w => RNum_any (codeN p) w (by omega)
      obtain ⟨m, hm⟩ : ∃ m, codeN p = m := ⟨_, rfl⟩
      obtain ⟨t, ht⟩ : ∃ t, numL (codeN p) = t := ⟨_, rfl⟩
      rw [ht] at HX h52 HRN2
      rw [hm] at HRN2 hcn
      have u1 : IntKind.i64.wrap (p.n + (p.t.size : Int)) = p.n + (p.t.size : Int) := IntWalk.i64_in _ ⟨by omega, by omega⟩
      have u2 : IntKind.i64.wrap (4 * (p.n + (p.t.size : Int))) = 4 * (p.n + (p.t.size : Int)) := IntWalk.i64_in _ ⟨by omega, by omega⟩
      have u3 : IntKind.i64.wrap (4 * (p.n + (p.t.size : Int)) + p.k) = (m : Int) := by rw [IntWalk.i64_in _ ⟨by omega, by omega⟩]; exact hcn
      have htl : p.t.data.toList.length = p.t.size := Array.length_toList
      have HTL : Hid _ := htl
      have sa : ∀ w : World, (Op.stringOp .add ⟨t.toArray⟩ p.t).run Try.prog w = .ok (.string (⟨t.toArray⟩ ++ p.t)) w := fun w => run_string_add_sum _ _ _ (by show t.toArray.size + _ ≤ _; simp; omega)
      have sb : ∀ w : World, (Op.stringOp .add ⟨acc.toArray⟩ (⟨t.toArray⟩ ++ p.t)).run Try.prog w = .ok (.string (⟨acc.toArray⟩ ++ (⟨t.toArray⟩ ++ p.t))) w := fun w => run_string_add_sum _ _ _ (by rw [ByteArray.size_append]; show acc.toArray.size + (t.toArray.size + _) ≤ _; simp; omega)
      clear hx hb hpm hpk hpr hcn hm ht hcb htl
      go_wp2_with fail
      go_region_held3 (fun w' => w'.cell? ⟨wr.heap.size, 0, none⟩ = some (.int .i64 p.k) ∧ w'.cell? ⟨wr.heap.size, 1, none⟩ = some (.int .i64 p.n) ∧ w'.cell? ⟨wr.heap.size, 2, none⟩ = some (.string p.t)) (first | go_keep | exact box_below hb2) (first | (go_at_call 33; refine (HRN2.out _).mono ?_; rintro e w2 ⟨rfl, hb2⟩))
      all_goals
        have HB2 : Hid (Below w1.heap.size w1 w2) := ((HB.out.alloc hz _).drew).trans (hb2.mono (by show w1.heap.size ≤ (wr.heap.push _).size; simp; omega))
        clear hb2
        go_wp2_with fail
        go_roundw
        case rel =>
          refine ⟨k + 1, acc ++ (t ++ p.t.data.toList), by omega, by go_num, by rw [join_text], HB2.out, ?_, ?_⟩
          · rw [HX.out]; simp only [List.append_assoc]
          · simp only [List.length_append, HTL.out]; omega
        case measure => simp [intOf]; omega
    · have hnil : l.drop k = [] := List.drop_eq_nil_of_le (by omega)
      rw [hnil] at hx
      have HX : Hid (acc = codeL l) := by show _ = _; simpa using hx
      clear hx hnil hb
      go_wp2_with fail
      go_ret
      exact ⟨by rw [← HX.out]; rfl, HB1.out.trans (HB.out.mono HB1.out.size)⟩
end Go.Proofs.Ytkihanmodfnpcab
