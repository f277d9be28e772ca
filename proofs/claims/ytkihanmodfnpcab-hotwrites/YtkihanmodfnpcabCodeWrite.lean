/- What code.Write answers. -/
import Derived.Test.YtkihanmodfnpcabBld
import Derived.Test.YtkihanmodfnpcabNumPut
import Derived.Test.YtkihanmodfnpcabCodeL
import Derived.Lib.BufferKept
namespace Go.Proofs.Ytkihanmodfnpcab
open Go.RowKit
set_option linter.unusedSimpArgs false
set_option linter.unusedVariables false

/-- a Builder of the call's own stays one where a callee lays new blocks alone -/
theorem bld_below {T e : TypeId} {B b : Nat} {bs : List Value} {w w' : World} (h : Lib.IsBuilderF T e B b bs w) (hb : Below w.heap.size w w') : Lib.IsBuilderF T e B b bs w' := by
  have one : ∀ {p : Value}, Lib.BuilderAtF T e B b p bs w → Lib.BuilderAtF T e B b p bs w' := by
    rintro p ⟨hB, v, hv, hown, hne⟩
    refine ⟨hB, v, by rw [hb.block b (lt_of_heap hv)]; exact hv, ⟨hown.1, ?_⟩, hne⟩
    rcases hown.2 with h1 | ⟨g, cap, cur, fz, h1, h2, h3, h4⟩
    · exact .inl h1
    · exact .inr ⟨g, cap, cur, fz, h1, h2, by rw [hb.block g (lt_of_heap h3)]; exact h3, h4⟩
  rcases h with h | h
  · exact .inl (one h)
  · exact .inr (one h)
theorem strCells_of (t : List UInt8) : Lib.strCells ⟨t.toArray⟩ = Lib.byteCells t := by rw [Lib.strCells_eq]
theorem box_here {b : Nat} {w w' : World} {k n : Int} {t : ByteArray} (h : Lib.OthersKept 5 (some b) (w.alloc (.cells #[.int .i64 k, .int .i64 n, .string t] 100)) w') (hb : b < w.heap.size) :
    w'.cell? ⟨w.heap.size, 0, none⟩ = some (.int .i64 k) ∧ w'.cell? ⟨w.heap.size, 1, none⟩ = some (.int .i64 n) ∧ w'.cell? ⟨w.heap.size, 2, none⟩ = some (.string t) := by
  have h1 := h w.heap.size _ (Deep.blk_alloc_new w _) (by intro e; have e' := Option.some.inj e; omega) (by intro c fz e; simp at e)
  refine ⟨?_, ?_, ?_⟩ <;> (rw [Lib.cell_of_heap h1]; rfl)

set_option maxRecDepth 20000 in
set_option maxHeartbeats 1000000 in
theorem WriteNum_any (B b : Nat) (bs : List Value) (x : Int) (m : Nat) (w : World) (h : Lib.IsBuilderF 98 5 B b bs w) (hx : x = m) (hm : m ≤ 2147483647) (hlen : bs.length ≤ 1000000000) (hBw : B ≤ w.heap.size) :
    Calls Try.prog 65 #[.pointer (some ⟨b, 0, none⟩), .int .i64 x] w fun e w' => e = .returned (.tuple #[]) ∧ Lib.BuilderAtF 98 5 B b (.pointer (some ⟨b, 0, none⟩)) (bs ++ Lib.byteCells (numL m)) w' ∧ Below B w w' ∧ Lib.OthersKept 5 (some b) w w' := by
  subst hx
  have HP : Hid _ := fun w => Put_ok m w hm
  have h5 := num_five hm
  obtain ⟨t, ht⟩ : ∃ t, numL m = t := ⟨_, rfl⟩
  rw [ht] at HP h5
  rw [ht]
  have HH : Hid _ := h
  clear ht h hm
  go_enter Try.func65, Try.ntmps65
  go_wp2_with fail
  refine (HP.out _).mono ?_
  rintro e w1 ⟨rfl, hb1⟩
  have HB1 : Hid _ := hb1
  have H1 : Hid _ := bld_below HH.out hb1
  have hz1 := hb1.size
  clear hb1
  go_wp2_with fail
  refine (WriteString_any B b bs _ _ H1.out ?h1 (by omega)).mono ?_
  case h1 => show bs.length + t.toArray.size ≤ _; simp; omega
  rintro e w2 ⟨rfl, hA2, hb2, hk2⟩
  have HA2 : Hid _ := hA2
  have HB2 : Hid (Below B w w2) := (HB1.out.mono hBw).trans hb2
  have HK2 : Hid _ := ((Lib.OthersKept.refl 5 (some b) w).below HB1.out).trans hk2
  clear hA2 hb2 hk2
  go_wp2_with fail
  go_end0
  refine ⟨rfl, ?_, HB2.out, HK2.out⟩
  have h := HA2.out
  rw [strCells_of] at h
  exact h

theorem code_drop {l : List Pt} {k : Nat} {p : Pt} (h : l[k]? = some p) : (l.drop k).flatMap codeP = numL (codeN p) ++ (p.t.data.toList ++ (l.drop (k + 1)).flatMap codeP) := by
  rw [drop_cons h, List.flatMap_cons, codeP, List.append_assoc]
def writeT (l : List Pt) : List UInt8 := if sizesE l = 0 then codeL l else []

set_option maxRecDepth 20000 in
set_option maxHeartbeats 4000000 in
theorem Write_any (a : Option Addr) (l : List Pt) (cap : Nat) (w : World) (hp : PartsAt w w.heap.size a l) :
    Calls Try.prog 36 #[.slice a l.length cap] w fun e w' => e = .returned (.tuple #[.string ⟨(writeT l).toArray⟩, .int .i64 (sizesE l)]) ∧ Below w.heap.size w w' := by
  have HP : Hid (PartsAt w w.heap.size a l) := hp
  clear hp
  go_enter Try.func36, Try.ntmps36
  go_wp2_with fail
  refine (Check_any a l cap _ HP.out).mono ?_
  rintro e w1 ⟨rfl, hb1⟩
  by_cases h0 : sizesE l = 0
  · have h0' : (sizesE l != 0) = false := by simp [h0]
    have hsm := (sizes_zero h0).1
    have HRT : Hid (Right l) := sizes_right h0
    have HT : Hid (writeT l = codeL l ∧ sizesE l = 0) := ⟨by simp [writeT, h0], h0⟩
    have HB1 : Hid (Below w.heap.size w w1) := hb1
    have HP1 : Hid (PartsAt w1 w1.heap.size a l) := HP.out.here hb1 (Nat.le_refl _)
    have hl := hsm.1
    have HSM : Hid (Small l) := hsm
    clear h0 hsm hb1
    go_wp2_with fail
    refine (WriteNum_any w1.heap.size w1.heap.size [] _ l.length _ ?h1 rfl (by omega) (by simp) (by simp)).mono ?_
    case h1 => exact Lib.IsBuilderF.of (Lib.fresh_isBuilder 98 5 w1)
    rintro e w2 ⟨rfl, hA2, hb2, _⟩
    have HA2 : Hid _ := hA2
    have HB2 : Hid (Below w1.heap.size w1 w2) := ((Below.refl _ w1).alloc (Nat.le_refl _) _).trans hb2
    clear hA2 hb2
    go_wp2_with fail
    go_loopw [18] (fun i wr => ∃ (k : Nat) (acc : List UInt8), k ≤ l.length ∧ i = .int .i64 k ∧ Lib.IsBuilderF 98 5 w1.heap.size w1.heap.size (Lib.byteCells acc) wr ∧ Below w1.heap.size w1 wr ∧
      acc ++ (l.drop k).flatMap codeP = codeL l ∧ acc.length ≤ 5 + 1000 * k) (fun i _ => l.length - (intOf i).toNat)
    case atStart =>
      refine ⟨0, numL l.length, Nat.zero_le _, rfl, Or.inr ?_, HB2.out, rfl, num_five (by omega)⟩
      have h := HA2.out
      rw [List.nil_append] at h
      exact h
    case round =>
      rename World => wr
      obtain ⟨k, acc, hk, rfl, hI, hb, hx, hacc⟩ := hrel
      have hz := hb.size
      have HI : Hid (Lib.IsBuilderF 98 5 w1.heap.size w1.heap.size (Lib.byteCells acc) wr) := hI
      have HB : Hid (Below w1.heap.size w1 wr) := hb
      have hbl : w1.heap.size < wr.heap.size := hI.elim (fun h => h.lt) (fun h => h.lt)
      by_cases hlt : k < l.length
      · obtain ⟨p, hpk⟩ : ∃ p, l[k]? = some p := ⟨l[k], List.getElem?_eq_getElem hlt⟩
        have hpm := List.mem_of_getElem? hpk
        have hpb := HSM.out.2 p hpm
        have hpr := (HRT.out p hpm).1
        have HX : Hid _ := hx.symm.trans (congrArg (acc ++ ·) (code_drop hpk))
        obtain ⟨b, off, rfl, hblt, c1, c2, c3⟩ := (HP1.out.below hb (Nat.le_refl _)).mem hpk
        have hbw : b < wr.heap.size := by omega
        obtain ⟨hpb1, hpb2, hpb3⟩ := hpb
        have hk0 : 0 ≤ p.k := by omega
        have hk3 : p.k ≤ 3 := by omega
        have hcn : 4 * (p.n + (p.t.size : Int)) + p.k = (codeN p : Int) := by unfold codeN; omega
        have hcb : codeN p ≤ 2147483647 := by omega
        have h5 := num_five hcb
        have HCN : Hid _ := hcn
        clear hx hI hb hpm hpk hpr hcn
        go_wp2_with fail
        refine (WriteNum_any w1.heap.size w1.heap.size (Lib.byteCells acc) _ (codeN p) _ (HI.out.alloc _) HCN.out hcb ?h1 (by simp; omega)).mono ?_
        case h1 => rw [Lib.byteCells_length]; omega
        rintro e w3 ⟨rfl, hA3, hb3, hk3⟩
        obtain ⟨x1, x2, x3⟩ := box_here hk3 (by omega)
        have HA3 : Hid _ := hA3
        have HB3 : Hid (Below w1.heap.size w1 w3) := (HB.out.alloc hz _).trans hb3
        clear hA3 hb3 hk3
        obtain ⟨t, ht⟩ : ∃ t, numL (codeN p) = t := ⟨_, rfl⟩
        rw [ht] at HA3 HX h5
        clear ht
        have hz3 := HB3.out.size
        go_wp2_with fail
        refine (WriteString_any w1.heap.size w1.heap.size (Lib.byteCells acc ++ Lib.byteCells t) p.t _ (Or.inr HA3.out) ?h2 (by omega)).mono ?_
        case h2 => rw [List.length_append, Lib.byteCells_length, Lib.byteCells_length]; omega
        rintro e w4 ⟨rfl, hA4, hb4, hk4⟩
        have HA4 : Hid _ := hA4
        have HB4 : Hid (Below w1.heap.size w1 w4) := HB3.out.trans hb4
        clear hA4 hb4 hk4
        go_wp2_with fail
        go_roundw
        case rel =>
          refine ⟨k + 1, acc ++ (t ++ p.t.data.toList), by omega, by go_num, Or.inr ?_, HB4.out, ?_, ?_⟩
          · have h := HA4.out
            rw [Lib.strCells_eq, ← Lib.byteCells_append, ← Lib.byteCells_append, List.append_assoc] at h
            exact h
          · rw [HX.out]; simp only [List.append_assoc]
          · have h4 : p.t.data.toList.length = p.t.size := Array.length_toList
            simp only [List.length_append, h4]; omega
        case measure => simp [intOf]; omega
      · have hnil : l.drop k = [] := List.drop_eq_nil_of_le (by omega)
        rw [hnil] at hx
        have HX : Hid (acc = codeL l) := by show _ = _; simpa using hx
        clear hx hnil hI hb
        go_wp2_with fail
        refine (String_any w1.heap.size w1.heap.size acc _ HI.out hz).mono ?_
        rintro e w2 ⟨rfl, _, hb2, _⟩
        have HB2 : Hid (Below w.heap.size w w2) := HB1.out.trans ((HB.out.trans hb2).mono HB1.out.size)
        clear hb2
        go_wp2_with fail
        go_ret2
        exact ⟨by rw [HT.out.1, HT.out.2, ← HX.out]; rfl, HB2.out⟩
  · have h0' : (sizesE l != 0) = true := by simp [h0]
    have HT : Hid (writeT l = []) := by show _ = _; simp [writeT, h0]
    clear h0
    go_wp2_with fail
    go_ret2
    exact ⟨by rw [HT.out]; rfl, hb1⟩

end Go.Proofs.Ytkihanmodfnpcab
