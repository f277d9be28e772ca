/- What the document's own Num answers. -/
import Derived.Test.YtkihanmodfnpcabNumPut
import Derived.Deep.RegionWith
namespace Go.Proofs.Ytkihanmodfnpcab
open Go.RowKit
set_option linter.unusedSimpArgs false
set_option linter.unusedVariables false

/-- a row of one byte, read as a text -/
theorem one_text {w : World} {g : Nat} {x : Int} {b : UInt8} (h : w.cell? ⟨g, 0, none⟩ = some (.int .u8 x)) (hx : x = b.toNat) :
    (convert 96 9 (.slice (some ⟨g, 0, none⟩) 1 1)).run Try.prog w = .ok (.string ⟨#[b]⟩) w := by
  subst hx
  exact run_convert_bytes_back w 96 9 5 ⟨g, 0, none⟩ 1 [b] Try.underlying96 Try.underlying5 Try.underlying9 (fun j hj => by
    have : j = 0 := by simp at hj; omega
    subst this
    exact h)
theorem cell_new (w : World) (v : Value) (t : TypeId) : (w.alloc (.cells #[v] t)).cell? ⟨w.heap.size, 0, none⟩ = some v := by
  rw [Lib.cell_of_heap (Deep.blk_alloc_new w _)]; rfl

theorem cons_text (c : UInt8) (t : List UInt8) : (⟨#[c]⟩ ++ ⟨t.toArray⟩ : ByteArray) = ⟨(c :: t).toArray⟩ := by
  apply ByteArray.ext
  simp
/-- the row of one byte, behind a call: told only where it was laid ahead of it -/
theorem one_behind {w0 w1 w2 : World} {r : Nat} {c : UInt8} (hb : Below w1.heap.size w1 w2) (hr : c.toNat = 128 + r) :
    w1 = (w0.alloc (.cells #[.int .u8 (128 + (r : Int))] 5)).drew → (convert 96 9 (.slice (some ⟨w0.heap.size, 0, none⟩) 1 1)).run Try.prog w2 = .ok (.string ⟨#[c]⟩) w2 := by
  intro h
  refine one_text (x := 128 + (r : Int)) ?_ (by rw [hr]; omega)
  rw [hb.cell (p := ⟨w0.heap.size, 0, none⟩) (by rw [h]; show w0.heap.size < (w0.heap.push _).size; simp), h]
  exact cell_new _ _ _

set_option maxRecDepth 20000 in
set_option maxHeartbeats 2000000 in
theorem RNum_any (n : Nat) (w : World) (hn : n ≤ 9223372036854775807) :
    Calls Try.prog 33 #[.int .i64 n] w fun e w' => e = .returned (.string ⟨(numL n).toArray⟩) ∧ Below w.heap.size w w' := by
  induction n using Nat.strongRecOn generalizing w with
  | _ n ih =>
    by_cases h1 : n < 128
    · have hcv1 : ∀ w : World, (convert 96 9 (.slice (some ⟨w.heap.size, 0, none⟩) 1 1)).run Try.prog (w.alloc (.cells #[.int .u8 (n : Int)] 5)) = .ok (.string ⟨#[UInt8.ofNat n]⟩) (w.alloc (.cells #[.int .u8 (n : Int)] 5)) := fun w => one_text (cell_new _ _ _) (by rw [ofNat_toNat (by omega)])
      have HN : Hid (numL n = [UInt8.ofNat n]) := num_small h1
      clear ih
      go_enter Try.func33, Try.ntmps33
      go_wp2_with fail
      go_ret
      exact ⟨by rw [HN.out]; rfl, (Below.refl _ _).alloc (Nat.le_refl _) _⟩
    · have IH : Hid _ := ih (n / 128) (by omega)
      obtain ⟨r, hr⟩ : ∃ r, n % 128 = r := ⟨_, rfl⟩
      obtain ⟨m, hm⟩ : ∃ m, n / 128 = m := ⟨_, rfl⟩
      obtain ⟨c, hc⟩ : ∃ c, UInt8.ofNat (128 + r) = c := ⟨_, rfl⟩
      have HC : Hid (c.toNat = 128 + r) := by show _ = _; rw [← hc]; exact ofNat_toNat (by omega)
      have ht : (n : Int).tmod 128 = (r : Int) := by rw [Int.tmod_eq_emod_of_nonneg (by omega)]; omega
      have hw1 : IntKind.i64.wrap (128 + (r : Int)) = 128 + (r : Int) := IntWalk.i64_in _ ⟨by omega, by omega⟩
      have hw2 : IntKind.u8.wrap (128 + (r : Int)) = 128 + (r : Int) := by rw [IntKind.wrap_u8]; omega
      have hd : IntKind.i64.wrap ((n : Int) / 128) = (m : Int) := by rw [IntWalk.i64_in _ ⟨by omega, by omega⟩]; omega
      have hcv2 : ∀ w : World, (convert 96 9 (.slice (some ⟨w.heap.size, 0, none⟩) 1 1)).run Try.prog (w.alloc (.cells #[.int .u8 (128 + (r : Int))] 5)).drew = .ok (.string ⟨#[c]⟩) (w.alloc (.cells #[.int .u8 (128 + (r : Int))] 5)).drew := fun w => one_text (cell_new _ _ _) (by have := HC.out; omega)
      have hcv1 : ∀ w : World, (convert 96 9 (.slice (some ⟨w.heap.size, 0, none⟩) 1 1)).run Try.prog (w.alloc (.cells #[.int .u8 (128 + (r : Int))] 5)) = .ok (.string ⟨#[c]⟩) (w.alloc (.cells #[.int .u8 (128 + (r : Int))] 5)) := fun w => one_text (cell_new _ _ _) (by have := HC.out; omega)
      have HN : Hid (numL n = c :: numL m) := by show _ = _; rw [num_more h1, hr, hm, hc]
      rw [hm] at IH
      have hmn : m ≤ 9223372036854775807 := by omega
      obtain ⟨t, htt⟩ : ∃ t, numL m = t := ⟨_, rfl⟩
      rw [htt] at IH HN
      have htl : t.length ≤ 9 := by rw [← htt]; exact num_len (k := 8) (by omega)
      clear ih hr hm htt hc
      go_enter Try.func33, Try.ntmps33
      go_wp2_with fail
      go_region_with (go_at_call 33; refine (IH.out _ hmn).mono ?_; rintro e w2 ⟨rfl, hb2⟩; have hcv3 := one_behind (r := r) (w0 := w) hb2 HC.out)
      all_goals
        go_wp2_with fail
        go_ret
        refine ⟨?_, ?_⟩
        · show Ending.returned (.string (⟨#[c]⟩ ++ ⟨t.toArray⟩)) = _
          rw [HN.out, cons_text]
        · first
            | exact (((Below.refl _ w).alloc (Nat.le_refl _) _).drew).trans (hb2.mono (by show w.heap.size ≤ (w.heap.push _).size; simp))
            | exact (((Below.refl _ w).drew).trans hb2).alloc (by have := hb2.size; exact this) _

end Go.Proofs.Ytkihanmodfnpcab
