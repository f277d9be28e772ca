/- What num.Put answers. -/
import Derived.Test.YtkihanmodfnpcabPtOwn
import Derived.Test.YtkihanmodfnpcabNumL
namespace Go.Proofs.Ytkihanmodfnpcab
open Go.RowKit
set_option linter.unusedSimpArgs false
set_option linter.unusedVariables false

theorem u8_of {x : Int} {n : Nat} (h : x = n) (hn : n < 256) : Value.int .u8 (IntKind.u8.wrap x) = Value.int .u8 ((UInt8.ofNat n).toNat : Int) := by
  rw [ofNat_toNat hn, h, IntKind.wrap_u8]
  congr 1; omega
theorem bytes_snoc (l : List UInt8) (c : UInt8) : Lib.byteCells (l ++ [c]) = Lib.byteCells l ++ [Value.int .u8 (c.toNat : Int)] := by simp [Lib.byteCells]
/-- a row of bytes, read as a text -/
theorem text_of {w : World} {B : Nat} {v : Value} {l : List UInt8} (h : w.ownsRow B 5 1 v l.length (Lib.byteCells l)) (hl : 0 < l.length) : ∃ g cap, v = .slice (some ⟨g, 0, none⟩) l.length cap ∧
    (convert 96 9 (.slice (some ⟨g, 0, none⟩) l.length cap)).run Try.prog w = .ok (.string ⟨l.toArray⟩) w := by
  obtain ⟨g, cap, rfl, _⟩ := own_at (j := 0) (u := .int .u8 (l[0].toNat : Int)) h (by simp [Lib.byteCells, hl])
  exact ⟨g, cap, rfl, run_convert_bytes_back w 96 9 5 ⟨g, 0, none⟩ cap l Try.underlying96 Try.underlying5 Try.underlying9 (fun j hj => text_at h j hj)⟩
theorem put_last {w : World} {B : Nat} {v : Value} {acc t : List UInt8} {m : Nat} (h : w.ownsRow B 5 1 v (acc.length + 1) (Lib.byteCells acc ++ [Value.int .u8 (m : Int)])) (hx : acc ++ numL m = t) (hm : m < 128) : w.ownsRow B 5 1 v t.length (Lib.byteCells t) := by
  subst hx
  rw [num_small hm, bytes_snoc, ofNat_toNat (by omega), List.length_append]
  exact h
theorem put_next {w : World} {B : Nat} {v : Value} {acc : List UInt8} {m : Nat} (h : w.ownsRow B 5 1 v (acc.length + 1) (Lib.byteCells acc ++ [Value.int .u8 ((m : Int) % 128 + 128)])) : w.ownsRow B 5 1 v (acc ++ [UInt8.ofNat (128 + m % 128)]).length (Lib.byteCells (acc ++ [UInt8.ofNat (128 + m % 128)])) := by
  rw [bytes_snoc, ofNat_toNat (by omega), List.length_append]
  rw [show ((m : Int) % 128 + 128) = ((128 + m % 128 : Nat) : Int) by omega] at h
  exact h
theorem put_on {acc t : List UInt8} {m : Nat} (hx : acc ++ numL m = t) (hm : 128 ≤ m) : (acc ++ [UInt8.ofNat (128 + m % 128)]) ++ numL (m / 128) = t := by
  rw [List.append_assoc, List.singleton_append, ← num_more (by omega)]
  exact hx
theorem num_part {acc : List UInt8} {m n : Nat} (h : acc ++ numL m = numL n) (hn : n ≤ 2147483647) : acc.length ≤ 5 := by
  have h5 := num_five hn
  rw [← h, List.length_append] at h5
  omega

set_option maxHeartbeats 1000000 in
theorem Put_not (n : Int) (w : World) (h : n < 0 ∨ 2147483647 < n) :
    Calls Try.prog 61 #[.int .i64 n] w fun e w' => e = .returned (.tuple #[.string ⟨#[]⟩, .int .i64 1]) ∧ w' = w := by
  go_enter Try.func61, Try.ntmps61
  rcases h with h | h
  · go_wp2_with fail
    go_ret2
    exact ⟨rfl, rfl⟩
  · have h0 : ¬ n < 0 := by omega
    go_wp2_with fail
    go_ret2
    exact ⟨rfl, rfl⟩

set_option maxRecDepth 20000 in
set_option maxHeartbeats 2000000 in
theorem Put_aux (n : Nat) (t : List UInt8) (w : World) (hn : n ≤ 2147483647) (HT : Hid (numL n = t)) :
    Calls Try.prog 61 #[.int .i64 n] w fun e w' => e = .returned (.tuple #[.string ⟨t.toArray⟩, .int .i64 0]) ∧ Below w.heap.size w w' := by
  obtain ⟨ib, hib, hb0, hb1, hb2⟩ := info_parts infoByte
  go_enter Try.func61, Try.ntmps61
  have g1 : ¬ (n : Int) < 0 := by omega
  have g2 : ¬ (2147483647 : Int) < n := by omega
  go_wp2_with fail
  have HN : Hid (n ≤ 2147483647) := hn
  clear hn g1 g2
  go_loopw [0, 4] (fun x v wr => ∃ (m : Nat) (acc : List UInt8) (ao : Option Addr) (co : Nat), m ≤ n ∧ x = .int .i64 m ∧ v = .slice ao acc.length co ∧ wr.ownsRow w.heap.size 5 1 (.slice ao acc.length co) acc.length (Lib.byteCells acc) ∧ acc ++ numL m = t ∧ Below w.heap.size w wr) (fun x _ _ => (intOf x).toNat)
  case atStart => exact ⟨n, [], none, 0, Nat.le_refl _, rfl, rfl, World.ownsRow_nil _ _ _ _, by simpa using HT.out, Below.refl _ _⟩
  case round =>
    rename World => wr
    obtain ⟨m, acc, ao, co, hm, rfl, rfl, hown, hx, hb⟩ := hrel
    have hz := hb.size
    have hal := num_part (hx.trans HT.out.symm) HN.out
    have HX : Hid (acc ++ numL m = t) := hx
    have HB : Hid (Below w.heap.size w wr) := hb
    have HO : Hid (wr.ownsRow w.heap.size 5 1 (.slice ao acc.length co) acc.length (Lib.byteCells acc)) := hown
    clear hx hb hown
    by_cases hlt : 128 ≤ m
    · go_wp2_with (at_builtin; refine wpList_append_own _ rfl _ _ 96 rfl w.heap.size 5 ib _ 1 1 Try.underlying96 hib hb0 hb1 hb2 rfl (by decide) _ _ _ rfl (own_alloc HO.out _) ⟨wr.heap.size, 0, none⟩ 1 1 [_] rfl rfl (cell_one_new _ _ _) (by simp [Value.oneCell']) ?c3 ?c4 ?c5 ?_)
      case c3 => unfold maxLen; omega
      case c4 => omega
      case c5 => first | omega | (simp; omega)
      intro v' w2 hown2 hgrow _
      obtain ⟨bo, cb2, rfl⟩ := slice_form' hown2
      have HB2 : Hid (Below w.heap.size w w2) := below_own' (HB.out.alloc hz _) (own_alloc HO.out _) hgrow (by simp; omega)
      have HO2 : Hid (w2.ownsRow w.heap.size 5 1 (.slice bo (acc.length + 1) cb2) (acc ++ [UInt8.ofNat (128 + m % 128)]).length (Lib.byteCells (acc ++ [UInt8.ofNat (128 + m % 128)]))) := put_next hown2
      clear hown2 hgrow
      have hmn : m ≤ 2147483647 := Nat.le_trans hm HN.out
      go_wp2_with fail
      go_roundw
      case rel =>
        refine ⟨m / 128, acc ++ [UInt8.ofNat (128 + m % 128)], bo, cb2, by omega, by first | rfl | go_num, by simp, by have h := HO2.out; rw [List.length_append] at h ⊢; exact h, ?_, HB2.out⟩
        exact put_on HX.out hlt
      case measure => simp [intOf]; omega
    · go_wp2_with (at_builtin; refine wpList_append_own _ rfl _ _ 96 rfl w.heap.size 5 ib _ 1 1 Try.underlying96 hib hb0 hb1 hb2 rfl (by decide) _ _ _ rfl (own_alloc HO.out _) ⟨wr.heap.size, 0, none⟩ 1 1 [_] rfl rfl (cell_one_new _ _ _) (by simp [Value.oneCell']) ?c3 ?c4 ?c5 ?_)
      case c3 => unfold maxLen; omega
      case c4 => omega
      case c5 => first | omega | (simp; omega)
      intro v' w2 hown2 hgrow _
      have HB2 : Hid (Below w.heap.size w w2) := below_own' (HB.out.alloc hz _) (own_alloc HO.out _) hgrow (by simp; omega)
      have hown3 := put_last hown2 HX.out (by omega)
      clear hown2 hgrow
      obtain ⟨g, cb2, rfl, hcv⟩ := text_of hown3 (by rw [← HT.out]; exact num_pos n)
      clear hown3
      go_wp2_with fail
      go_ret2
      exact ⟨rfl, HB2.out⟩
theorem Put_ok (n : Nat) (w : World) (hn : n ≤ 2147483647) :
    Calls Try.prog 61 #[.int .i64 n] w fun e w' => e = .returned (.tuple #[.string ⟨(numL n).toArray⟩, .int .i64 0]) ∧ Below w.heap.size w w' :=
  Put_aux n (numL n) w hn rfl

end Go.Proofs.Ytkihanmodfnpcab
