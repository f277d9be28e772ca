/- strings.Builder as apply.Do uses it: copyCheck, WriteString, String. -/
import Derived.Test.YtgffippimmokiaaPure
import Derived.Shelf.Strings.BuilderK
import Derived.Test.YtgffippimmokiaaRUnnum
import Derived.Test.YtgffippimmokiaaCodeFinds
import Derived.Lib.BufferKept
namespace Go.Proofs.Ytgffippimmokiaa
open Go.Shelf Go.RowKit
set_option linter.unusedSimpArgs false
set_option linter.unusedVariables false

def ren169 : Go.Shelf.Ren := ⟨fun | 169 => 79 | n => n, fun | 70 => 133 | 9 => 9 | 0 => 0 | 72 => 136 | 37 => 134 | 127 => 169 | 3 => 3 | 5 => 5 | n => n, fun | n => n⟩
theorem lays169 : Go.Proofs.Lays.n169 Try.prog ren169 := {
  mixed := by kernel_rfl
  f169 := Try.func79.trans (congrArg some (by kernel_rfl))
  t0 := Try.underlying0
  a0 := Try.isAgg0
  z0 := Try.sizeOf0
  v0 := Try.zeroValue0
  t3 := Try.underlying3
  a3 := Try.isAgg3
  z3 := Try.sizeOf3
  v3 := Try.zeroValue3
  t9 := Try.underlying9
  a9 := Try.isAgg9
  z9 := Try.sizeOf9
  v9 := Try.zeroValue9
  t37 := Try.underlying134
  a37 := Try.isAgg134
  z37 := Try.sizeOf134
  v37 := Try.zeroValue134
  t70 := Try.underlying133
  a70 := Try.isAgg133
  z70 := Try.sizeOf133
  v70 := Try.zeroValue133
  t72 := Try.underlying136
  a72 := Try.isAgg136
  z72 := Try.sizeOf136
  v72 := Try.zeroValue136
  t127 := Try.underlying169
  a127 := Try.isAgg169
  z127 := Try.sizeOf169
  v127 := Try.zeroValue169 }
theorem extra169 : Builder.Extra Try.prog ren169 := {
  sizeBuilder := by kernel_rfl
  liesBuilder := by kernel_rfl
  t5 := Try.underlying5
  a5 := Try.isAgg5
  z5 := Try.sizeOf5
  v5 := Try.zeroValue5
  infoByte := by kernel_rfl
  cellsByte := by kernel_rfl
  sizeByte := by kernel_rfl
  neB5 := by decide }
theorem String_any (B b : Nat) (l : List UInt8) (w : World) (h : Lib.IsBuilderF 136 5 B b (Lib.byteCells l) w) (hBw : B ≤ w.heap.size) :
    Calls Try.prog 79 #[.pointer (some ⟨b, 0, none⟩)] w fun e w' => e = .returned (.string ⟨l.toArray⟩) ∧ (Lib.IsBuilderF 136 5 B b (Lib.byteCells l) w' ∧ Below B w w' ∧ Lib.OthersKept 5 (some b) w w') := Any.Builder_String_any_k lays169 extra169 B b l w h hBw

set_option maxRecDepth 20000 in
/-- a pointer that goes through package unsafe, there and back, and through NoEscape, is the pointer that it was: what the walk takes as rules -/
theorem thereBack (b : Nat) (w : World) (hsh : w.shape? b = some (136, 2)) :
    (convert 133 189 (.pointer (some ⟨b, 0, none⟩))).run Try.prog w = .ok (.pointer (some ⟨b, 0, none⟩)) w ∧
    (callFunc 126 #[.pointer (some ⟨b, 0, none⟩)]).run Try.prog w = .ok (.value (.pointer (some ⟨b, 0, none⟩))) w ∧
    (convert 189 133 (.pointer (some ⟨b, 0, none⟩))).run Try.prog w = .ok (.pointer (some ⟨b, 0, none⟩)) w := by
  cases hi : Try.prog.info? 136 with
  | none => have h := extra169.sizeBuilder; rw [show ren169.t 72 = 136 from rfl, hi] at h; simp at h
  | some i =>
    have hz : i.size ≠ 0 := by
      have h := extra169.sizeBuilder
      rw [show ren169.t 72 = 136 from rfl, hi] at h
      simp only [Option.map_some, Option.some.injEq] at h
      omega
    exact ⟨Lib.run_to_unsafe (w := w) _ Try.underlying133 Try.underlying189 hi hz hsh Nat.two_pos,
      run_callFunc_extern Try.func126 (by kernel_rfl) (by kernel_rfl) (by kernel_rfl) (e := Extern.AbiNoEscape.same) (by kernel_rfl) _ _,
      Lib.run_from_unsafe (w := w) _ Try.underlying189 Try.underlying133 hi hsh extra169.liesBuilder⟩
set_option maxRecDepth 20000 in
/-- a pointer is not unlike itself -/
theorem notUnlike (b : Nat) (w : World) : (binOp .neq 133 (.pointer (some ⟨b, 0, none⟩)) (.pointer (some ⟨b, 0, none⟩))).run Try.prog w = .ok (.bool false) w := by
  cases hi : Try.prog.info? 136 with
  | none => have h := extra169.sizeBuilder; rw [show ren169.t 72 = 136 from rfl, hi] at h; simp at h
  | some i => exact Lib.run_neq_ptr_same (w := w) _ Try.underlying133 hi

set_option maxHeartbeats 1000000 in
set_option maxRecDepth 100000 in
/-- behind copyCheck a Builder knows its own address; its bytes are what they were -/
theorem copyCheck_any (B b : Nat) (bs : List Value) (w : World) (h : Lib.IsBuilderF 136 5 B b bs w) :
    Calls Try.prog 106 #[.pointer (some ⟨b, 0, none⟩)] w fun e w' => e = .returned (.tuple #[]) ∧ (Lib.BuilderAtF 136 5 B b (.pointer (some ⟨b, 0, none⟩)) bs w' ∧ Below B w w' ∧ Lib.OthersKept 5 (some b) w w') := by
  have same := notUnlike b
  rcases h with hn | hu
  · have H : Hid (Lib.BuilderAtF 136 5 B b (.pointer none) bs w) := hn
    obtain ⟨k1, k2, k3⟩ := thereBack b w hn.shape
    have c := hn.cell0
    have f := hn.frozen0
    have c2 : (w.setCell ⟨b, 0, none⟩ (.pointer (some ⟨b, 0, none⟩))).cell? ⟨b, 0, none⟩ = some (.pointer (some ⟨b, 0, none⟩)) := (H.out.used (.pointer (some ⟨b, 0, none⟩))).cell0
    clear hn
    go_enter Try.func106, Try.ntmps106
    go_wp2
    go_end0
    have hB : B ≤ b := H.out.1
    exact ⟨rfl, H.out.used _, (Below.refl B w).setCell (p := ⟨b, 0, none⟩) hB _, (Lib.OthersKept.refl _ _ w).setCell ⟨b, 0, none⟩ rfl _⟩
  · have H : Hid (Lib.BuilderAtF 136 5 B b (.pointer (some ⟨b, 0, none⟩)) bs w) := hu
    have c := hu.cell0
    clear hu
    go_enter Try.func106, Try.ntmps106
    go_wp2
    go_end0
    exact ⟨rfl, H.out, Below.refl B w, Lib.OthersKept.refl _ _ w⟩

/-- a block that a growth does not touch -/
theorem stands {w w' : World} {row : Option Nat} {k : Nat} {o : Obj} (hg : w.grownBy w' row) (hk : w.heap[k]? = some o) (hr : row ≠ some k) : w'.heap[k]? = some o := by
  obtain ⟨hl, _⟩ := Array.getElem?_eq_some_iff.1 hk
  exact (hg.block k hl (fun e => hr e.symm)).trans hk
theorem sliceF {w : World} {B n : Nat} {e : TypeId} {v : Value} {xs : List Value} (h : w.ownsRowF B e 1 v n xs) : ∃ ao cap, v = .slice ao n cap := by
  rcases h.2 with ⟨rfl, rfl⟩ | ⟨g, cap, _, _, rfl, _⟩
  · exact ⟨none, 0, rfl⟩
  · exact ⟨_, _, rfl⟩

set_option maxHeartbeats 2000000 in
set_option maxRecDepth 100000 in
theorem WriteString_any (B b : Nat) (bs : List Value) (s : ByteArray) (w : World) (h : Lib.IsBuilderF 136 5 B b bs w) (hlen : bs.length + s.size ≤ 140737488355328) (hBw : B ≤ w.heap.size) :
    Calls Try.prog 78 #[.pointer (some ⟨b, 0, none⟩), .string s] w fun e w' => e = .returned (.tuple #[.int .i64 s.size, .nilIface]) ∧ (Lib.BuilderAtF 136 5 B b (.pointer (some ⟨b, 0, none⟩)) (bs ++ Lib.strCells s) w' ∧ Below B w w' ∧ Lib.OthersKept 5 (some b) w w') := by
  have HH : Hid (Lib.IsBuilderF 136 5 B b bs w) := h
  obtain ⟨ib, hib, z0, z1, z2⟩ := info_parts extra169.infoByte
  clear h
  go_enter Try.func78, Try.ntmps78
  go_wp2_with fail
  refine (copyCheck_any B b bs _ HH.out).mono ?_
  rintro e w1 ⟨rfl, ⟨hB, v, hbox, hrow, hapart⟩, hb, ho⟩
  have HB : Hid (Below B w w1) := hb
  have HO : Hid (Lib.OthersKept 5 (some b) w w1) := ho
  have hz := hb.size
  have HBOX : Hid _ := hbox
  have HR : Hid (w1.ownsRowF B 5 1 v bs.length bs) := hrow
  have field : w1.cell? ⟨b, 1, none⟩ = some v := by rw [Lib.cell_of_heap hbox]; rfl
  clear hb ho hbox hrow
  go_wp2_with (at_builtin; refine Lib.wpList_append_own_stringF _ rfl _ _ 134 9 rfl B 5 ib Try.underlying134 Try.underlying9 hib z0 z1 z2 _ _ _ rfl HR.out s rfl ?len ?room ?base ?_)
  case len => exact Nat.le_trans hlen (by decide)
  case room => exact hlen
  case base => exact Nat.le_trans hBw hz
  intro nv w2 hrow2 hgrow _
  have HBOX2 : Hid _ := stands hgrow HBOX.out hapart
  have thaw : w2.frozen? ⟨b, 1, none⟩ = false := Lib.frozen_of_heap HBOX2.out 1
  have old : w2.cell? ⟨b, 1, none⟩ = some v := by rw [Lib.cell_of_heap HBOX2.out]; rfl
  obtain ⟨ao, cap, rfl⟩ := sliceF hrow2
  have HB2 : Hid (Below B w w2) := HB.out.grown hgrow (Nat.le_trans hBw hz) (fun k hk => (HR.out.lt k hk).1)
  have HO2 : Hid (Lib.OthersKept 5 (some b) w w2) := HO.out.grown hgrow (Lib.ownsRowF_kind HR.out)
  have HR2 : Hid (w2.ownsRowF B 5 1 (.slice ao (bs.length + s.size) cap) (bs ++ Lib.strCells s).length (bs ++ Lib.strCells s)) := by
    show World.ownsRowF _ _ _ _ _ _ _
    rw [List.length_append, Lib.strCells_length]; exact hrow2
  clear hrow2 hgrow
  go_wp2_with fail
  go_ret2
  exact ⟨rfl, Lib.BuilderAtF.put (T := 136) (e := 5) hB HBOX2.out HR2.out extra169.neB5, HB2.out.setCell (p := ⟨b, 1, none⟩) hB _, HO2.out.setCell ⟨b, 1, none⟩ rfl _⟩

end Go.Proofs.Ytgffippimmokiaa

/- What code.Write answers. -/
namespace Go.Proofs.Ytgffippimmokiaa
open Go.RowKit
set_option linter.unusedSimpArgs false
set_option linter.unusedVariables false

/-- a Builder of the call's own stays one where a callee lays new blocks alone -/
theorem bld_below {T e : TypeId} {B b : Nat} {bs : List Value} {w w' : World} (h : Lib.IsBuilderF T e B b bs w) (hb : Below w.heap.size w w') : Lib.IsBuilderF T e B b bs w' := by
  have one : ∀ {p : Value}, Lib.BuilderAtF T e B b p bs w → Lib.BuilderAtF T e B b p bs w' := by
    rintro p ⟨hB, v, hv, hown, hne⟩
    refine ⟨hB, v, by rw [hb.block b (lt_of_heap hv)]; exact hv, ⟨hown.1, ?_⟩, hne⟩
    rcases hown.2 with h1 | ⟨g, cap, cur, fz, h1, h2, h3, h4⟩
    · exact .inl h1
    · exact .inr ⟨g, cap, cur, fz, h1, h2, by rw [hb.block g (lt_of_heap h3)]; exact h3, h4⟩
  rcases h with h | h
  · exact .inl (one h)
  · exact .inr (one h)
theorem strCells_of (t : List UInt8) : Lib.strCells ⟨t.toArray⟩ = Lib.byteCells t := by rw [Lib.strCells_eq]
theorem box_here {b : Nat} {w w' : World} {k n : Int} {t : ByteArray} (h : Lib.OthersKept 5 (some b) (w.alloc (.cells #[.int .i64 k, .int .i64 n, .string t] 138)) w') (hb : b < w.heap.size) :
    w'.cell? ⟨w.heap.size, 0, none⟩ = some (.int .i64 k) ∧ w'.cell? ⟨w.heap.size, 1, none⟩ = some (.int .i64 n) ∧ w'.cell? ⟨w.heap.size, 2, none⟩ = some (.string t) := by
  have h1 := h w.heap.size _ (Deep.blk_alloc_new w _) (by intro e; have e' := Option.some.inj e; omega) (by intro c fz e; simp at e)
  refine ⟨?_, ?_, ?_⟩ <;> (rw [Lib.cell_of_heap h1]; rfl)

set_option maxRecDepth 20000 in
set_option maxHeartbeats 1000000 in
theorem WriteNum_any (B b : Nat) (bs : List Value) (x : Int) (m : Nat) (w : World) (h : Lib.IsBuilderF 136 5 B b bs w) (hx : x = m) (hm : m ≤ 2147483647) (hlen : bs.length ≤ 1000000000) (hBw : B ≤ w.heap.size) :
    Calls Try.prog 120 #[.pointer (some ⟨b, 0, none⟩), .int .i64 x] w fun e w' => e = .returned (.tuple #[]) ∧ Lib.BuilderAtF 136 5 B b (.pointer (some ⟨b, 0, none⟩)) (bs ++ Lib.byteCells (numL m)) w' ∧ Below B w w' ∧ Lib.OthersKept 5 (some b) w w' := by
  subst hx
  have HP : Hid _ := fun w => Put_ok m w hm
  have h5 := num_five hm
  obtain ⟨t, ht⟩ : ∃ t, numL m = t := ⟨_, rfl⟩
  rw [ht] at HP h5
  rw [ht]
  have HH : Hid _ := h
  clear ht h hm
  go_enter Try.func120, Try.ntmps120
  go_wp2_with fail
  refine (HP.out _).mono ?_
  rintro e w1 ⟨rfl, hb1⟩
  have HB1 : Hid _ := hb1
  have H1 : Hid _ := bld_below HH.out hb1
  have hz1 := hb1.size
  clear hb1
  go_wp2_with fail
  refine (WriteString_any B b bs _ _ H1.out ?h1 (by omega)).mono ?_
  case h1 => show bs.length + t.toArray.size ≤ _; simp; omega
  rintro e w2 ⟨rfl, hA2, hb2, hk2⟩
  have HA2 : Hid _ := hA2
  have HB2 : Hid (Below B w w2) := (HB1.out.mono hBw).trans hb2
  have HK2 : Hid _ := ((Lib.OthersKept.refl 5 (some b) w).below HB1.out).trans hk2
  clear hA2 hb2 hk2
  go_wp2_with fail
  go_end0
  refine ⟨rfl, ?_, HB2.out, HK2.out⟩
  have h := HA2.out
  rw [strCells_of] at h
  exact h

theorem code_drop {l : List Pt} {k : Nat} {p : Pt} (h : l[k]? = some p) : (l.drop k).flatMap codeP = numL (codeN p) ++ (p.t.data.toList ++ (l.drop (k + 1)).flatMap codeP) := by
  rw [drop_cons h, List.flatMap_cons, codeP, List.append_assoc]
def writeT (l : List Pt) : List UInt8 := if sizesE l = 0 then codeL l else []

set_option maxRecDepth 20000 in
set_option maxHeartbeats 4000000 in
theorem Write_any (a : Option Addr) (l : List Pt) (cap : Nat) (w : World) (hp : PartsAt w w.heap.size a l) :
    Calls Try.prog 95 #[.slice a l.length cap] w fun e w' => e = .returned (.tuple #[.string ⟨(writeT l).toArray⟩, .int .i64 (sizesE l)]) ∧ Below w.heap.size w w' := by
  have HP : Hid (PartsAt w w.heap.size a l) := hp
  clear hp
  go_enter Try.func95, Try.ntmps95
  go_wp2_with fail
  refine (Check_any a l cap _ HP.out).mono ?_
  rintro e w1 ⟨rfl, hb1⟩
  by_cases h0 : sizesE l = 0
  · have h0' : (sizesE l != 0) = false := by simp [h0]
    have hsm := (sizes_zero h0).1
    have HRT : Hid (Right l) := sizes_right h0
    have HT : Hid (writeT l = codeL l ∧ sizesE l = 0) := ⟨by simp [writeT, h0], h0⟩
    have HB1 : Hid (Below w.heap.size w w1) := hb1
    have HP1 : Hid (PartsAt w1 w1.heap.size a l) := HP.out.here hb1 (Nat.le_refl _)
    have hl := hsm.1
    have HSM : Hid (Small l) := hsm
    clear h0 hsm hb1
    go_wp2_with fail
    refine (WriteNum_any w1.heap.size w1.heap.size [] _ l.length _ ?h1 rfl (by omega) (by simp) (by simp)).mono ?_
    case h1 => exact Lib.IsBuilderF.of (Lib.fresh_isBuilder 136 5 w1)
    rintro e w2 ⟨rfl, hA2, hb2, _⟩
    have HA2 : Hid _ := hA2
    have HB2 : Hid (Below w1.heap.size w1 w2) := ((Below.refl _ w1).alloc (Nat.le_refl _) _).trans hb2
    clear hA2 hb2
    go_wp2_with fail
    go_loopw [18] (fun i wr => ∃ (k : Nat) (acc : List UInt8), k ≤ l.length ∧ i = .int .i64 k ∧ Lib.IsBuilderF 136 5 w1.heap.size w1.heap.size (Lib.byteCells acc) wr ∧ Below w1.heap.size w1 wr ∧
      acc ++ (l.drop k).flatMap codeP = codeL l ∧ acc.length ≤ 5 + 1000 * k) (fun i _ => l.length - (intOf i).toNat)
    case atStart =>
      refine ⟨0, numL l.length, Nat.zero_le _, rfl, Or.inr ?_, HB2.out, rfl, num_five (by omega)⟩
      have h := HA2.out
      rw [List.nil_append] at h
      exact h
    case round =>
      rename World => wr
      obtain ⟨k, acc, hk, rfl, hI, hb, hx, hacc⟩ := hrel
      have hz := hb.size
      have HI : Hid (Lib.IsBuilderF 136 5 w1.heap.size w1.heap.size (Lib.byteCells acc) wr) := hI
      have HB : Hid (Below w1.heap.size w1 wr) := hb
      have hbl : w1.heap.size < wr.heap.size := hI.elim (fun h => h.lt) (fun h => h.lt)
      by_cases hlt : k < l.length
      · obtain ⟨p, hpk⟩ : ∃ p, l[k]? = some p := ⟨l[k], List.getElem?_eq_getElem hlt⟩
        have hpm := List.mem_of_getElem? hpk
        have hpb := HSM.out.2 p hpm
        have hpr := (HRT.out p hpm).1
        have HX : Hid _ := hx.symm.trans (congrArg (acc ++ ·) (code_drop hpk))
        obtain ⟨b, off, rfl, hblt, c1, c2, c3⟩ := (HP1.out.below hb (Nat.le_refl _)).mem hpk
        have hbw : b < wr.heap.size := by omega
        obtain ⟨hpb1, hpb2, hpb3⟩ := hpb
        have hk0 : 0 ≤ p.k := by omega
        have hk3 : p.k ≤ 3 := by omega
        have hcn : 4 * (p.n + (p.t.size : Int)) + p.k = (codeN p : Int) := by unfold codeN; omega
        have hcb : codeN p ≤ 2147483647 := by omega
        have h5 := num_five hcb
        have HCN : Hid _ := hcn
        clear hx hI hb hpm hpk hpr hcn
        go_wp2_with fail
        refine (WriteNum_any w1.heap.size w1.heap.size (Lib.byteCells acc) _ (codeN p) _ (HI.out.alloc _) HCN.out hcb ?h1 (by simp; omega)).mono ?_
        case h1 => rw [Lib.byteCells_length]; omega
        rintro e w3 ⟨rfl, hA3, hb3, hk3⟩
        obtain ⟨x1, x2, x3⟩ := box_here hk3 (by omega)
        have HA3 : Hid _ := hA3
        have HB3 : Hid (Below w1.heap.size w1 w3) := (HB.out.alloc hz _).trans hb3
        clear hA3 hb3 hk3
        obtain ⟨t, ht⟩ : ∃ t, numL (codeN p) = t := ⟨_, rfl⟩
        rw [ht] at HA3 HX h5
        clear ht
        have hz3 := HB3.out.size
        go_wp2_with fail
        refine (WriteString_any w1.heap.size w1.heap.size (Lib.byteCells acc ++ Lib.byteCells t) p.t _ (Or.inr HA3.out) ?h2 (by omega)).mono ?_
        case h2 => rw [List.length_append, Lib.byteCells_length, Lib.byteCells_length]; omega
        rintro e w4 ⟨rfl, hA4, hb4, hk4⟩
        have HA4 : Hid _ := hA4
        have HB4 : Hid (Below w1.heap.size w1 w4) := HB3.out.trans hb4
        clear hA4 hb4 hk4
        go_wp2_with fail
        go_roundw
        case rel =>
          refine ⟨k + 1, acc ++ (t ++ p.t.data.toList), by omega, by go_num, Or.inr ?_, HB4.out, ?_, ?_⟩
          · have h := HA4.out
            rw [Lib.strCells_eq, ← Lib.byteCells_append, ← Lib.byteCells_append, List.append_assoc] at h
            exact h
          · rw [HX.out]; simp only [List.append_assoc]
          · have h4 : p.t.data.toList.length = p.t.size := Array.length_toList
            simp only [List.length_append, h4]; omega
        case measure => simp [intOf]; omega
      · have hnil : l.drop k = [] := List.drop_eq_nil_of_le (by omega)
        rw [hnil] at hx
        have HX : Hid (acc = codeL l) := by show _ = _; simpa using hx
        clear hx hnil hI hb
        go_wp2_with fail
        refine (String_any w1.heap.size w1.heap.size acc _ HI.out hz).mono ?_
        rintro e w2 ⟨rfl, _, hb2, _⟩
        have HB2 : Hid (Below w.heap.size w w2) := HB1.out.trans ((HB.out.trans hb2).mono HB1.out.size)
        clear hb2
        go_wp2_with fail
        go_ret2
        exact ⟨by rw [HT.out.1, HT.out.2, ← HX.out]; rfl, HB2.out⟩
  · have h0' : (sizesE l != 0) = true := by simp [h0]
    have HT : Hid (writeT l = []) := by show _ = _; simp [writeT, h0]
    clear h0
    go_wp2_with fail
    go_ret2
    exact ⟨by rw [HT.out]; rfl, hb1⟩

end Go.Proofs.Ytgffippimmokiaa
