/- strings.Builder as apply.Do uses it: copyCheck, WriteString, String. -/
import Derived.Test.YtkihanmodfnpcabPure
import Derived.Shelf.Strings.BuilderK
namespace Go.Proofs.Ytkihanmodfnpcab
open Go.Shelf Go.RowKit
set_option linter.unusedSimpArgs false
set_option linter.unusedVariables false

def ren169 : Go.Shelf.Ren := ⟨fun | 169 => 59 | n => n, fun | 70 => 95 | 9 => 9 | 0 => 0 | 72 => 98 | 37 => 96 | 127 => 136 | 3 => 3 | 5 => 5 | n => n, fun | n => n⟩
theorem lays169 : Go.Proofs.Lays.n169 Try.prog ren169 := {
  mixed := by kernel_rfl
  f169 := Try.func59.trans (congrArg some (by kernel_rfl))
  t0 := Try.underlying0
  a0 := Try.isAgg0
  z0 := Try.sizeOf0
  v0 := Try.zeroValue0
  t3 := Try.underlying3
  a3 := Try.isAgg3
  z3 := Try.sizeOf3
  v3 := Try.zeroValue3
  t9 := Try.underlying9
  a9 := Try.isAgg9
  z9 := Try.sizeOf9
  v9 := Try.zeroValue9
  t37 := Try.underlying96
  a37 := Try.isAgg96
  z37 := Try.sizeOf96
  v37 := Try.zeroValue96
  t70 := Try.underlying95
  a70 := Try.isAgg95
  z70 := Try.sizeOf95
  v70 := Try.zeroValue95
  t72 := Try.underlying98
  a72 := Try.isAgg98
  z72 := Try.sizeOf98
  v72 := Try.zeroValue98
  t127 := Try.underlying136
  a127 := Try.isAgg136
  z127 := Try.sizeOf136
  v127 := Try.zeroValue136 }
theorem extra169 : Builder.Extra Try.prog ren169 := {
  sizeBuilder := by kernel_rfl
  liesBuilder := by kernel_rfl
  t5 := Try.underlying5
  a5 := Try.isAgg5
  z5 := Try.sizeOf5
  v5 := Try.zeroValue5
  infoByte := by kernel_rfl
  cellsByte := by kernel_rfl
  sizeByte := by kernel_rfl
  neB5 := by decide }
theorem String_any (B b : Nat) (l : List UInt8) (w : World) (h : Lib.IsBuilderF 98 5 B b (Lib.byteCells l) w) (hBw : B ≤ w.heap.size) :
    Calls Try.prog 59 #[.pointer (some ⟨b, 0, none⟩)] w fun e w' => e = .returned (.string ⟨l.toArray⟩) ∧ (Lib.IsBuilderF 98 5 B b (Lib.byteCells l) w' ∧ Below B w w' ∧ Lib.OthersKept 5 (some b) w w') := Any.Builder_String_any_k lays169 extra169 B b l w h hBw

set_option maxRecDepth 20000 in
/-- a pointer that goes through package unsafe, there and back, and through NoEscape, is the pointer that it was: what the walk takes as rules -/
theorem thereBack (b : Nat) (w : World) (hsh : w.shape? b = some (98, 2)) :
    (convert 95 156 (.pointer (some ⟨b, 0, none⟩))).run Try.prog w = .ok (.pointer (some ⟨b, 0, none⟩)) w ∧
    (callFunc 111 #[.pointer (some ⟨b, 0, none⟩)]).run Try.prog w = .ok (.value (.pointer (some ⟨b, 0, none⟩))) w ∧
    (convert 156 95 (.pointer (some ⟨b, 0, none⟩))).run Try.prog w = .ok (.pointer (some ⟨b, 0, none⟩)) w := by
  cases hi : Try.prog.info? 98 with
  | none => have h := extra169.sizeBuilder; rw [show ren169.t 72 = 98 from rfl, hi] at h; simp at h
  | some i =>
    have hz : i.size ≠ 0 := by
      have h := extra169.sizeBuilder
      rw [show ren169.t 72 = 98 from rfl, hi] at h
      simp only [Option.map_some, Option.some.injEq] at h
      omega
    exact ⟨Lib.run_to_unsafe (w := w) _ Try.underlying95 Try.underlying156 hi hz hsh Nat.two_pos,
      run_callFunc_extern Try.func111 (by kernel_rfl) (by kernel_rfl) (by kernel_rfl) (e := Extern.AbiNoEscape.same) (by kernel_rfl) _ _,
      Lib.run_from_unsafe (w := w) _ Try.underlying156 Try.underlying95 hi hsh extra169.liesBuilder⟩
set_option maxRecDepth 20000 in
/-- a pointer is not unlike itself -/
theorem notUnlike (b : Nat) (w : World) : (binOp .neq 95 (.pointer (some ⟨b, 0, none⟩)) (.pointer (some ⟨b, 0, none⟩))).run Try.prog w = .ok (.bool false) w := by
  cases hi : Try.prog.info? 98 with
  | none => have h := extra169.sizeBuilder; rw [show ren169.t 72 = 98 from rfl, hi] at h; simp at h
  | some i => exact Lib.run_neq_ptr_same (w := w) _ Try.underlying95 hi

set_option maxHeartbeats 1000000 in
set_option maxRecDepth 100000 in
/-- behind copyCheck a Builder knows its own address; its bytes are what they were -/
theorem copyCheck_any (B b : Nat) (bs : List Value) (w : World) (h : Lib.IsBuilderF 98 5 B b bs w) :
    Calls Try.prog 92 #[.pointer (some ⟨b, 0, none⟩)] w fun e w' => e = .returned (.tuple #[]) ∧ (Lib.BuilderAtF 98 5 B b (.pointer (some ⟨b, 0, none⟩)) bs w' ∧ Below B w w' ∧ Lib.OthersKept 5 (some b) w w') := by
  have same := notUnlike b
  rcases h with hn | hu
  · have H : Hid (Lib.BuilderAtF 98 5 B b (.pointer none) bs w) := hn
    obtain ⟨k1, k2, k3⟩ := thereBack b w hn.shape
    have c := hn.cell0
    have f := hn.frozen0
    have c2 : (w.setCell ⟨b, 0, none⟩ (.pointer (some ⟨b, 0, none⟩))).cell? ⟨b, 0, none⟩ = some (.pointer (some ⟨b, 0, none⟩)) := (H.out.used (.pointer (some ⟨b, 0, none⟩))).cell0
    clear hn
    go_enter Try.func92, Try.ntmps92
    go_wp2
    go_end0
    have hB : B ≤ b := H.out.1
    exact ⟨rfl, H.out.used _, (Below.refl B w).setCell (p := ⟨b, 0, none⟩) hB _, (Lib.OthersKept.refl _ _ w).setCell ⟨b, 0, none⟩ rfl _⟩
  · have H : Hid (Lib.BuilderAtF 98 5 B b (.pointer (some ⟨b, 0, none⟩)) bs w) := hu
    have c := hu.cell0
    clear hu
    go_enter Try.func92, Try.ntmps92
    go_wp2
    go_end0
    exact ⟨rfl, H.out, Below.refl B w, Lib.OthersKept.refl _ _ w⟩

/-- a block that a growth does not touch -/
theorem stands {w w' : World} {row : Option Nat} {k : Nat} {o : Obj} (hg : w.grownBy w' row) (hk : w.heap[k]? = some o) (hr : row ≠ some k) : w'.heap[k]? = some o := by
  obtain ⟨hl, _⟩ := Array.getElem?_eq_some_iff.1 hk
  exact (hg.block k hl (fun e => hr e.symm)).trans hk
theorem sliceF {w : World} {B n : Nat} {e : TypeId} {v : Value} {xs : List Value} (h : w.ownsRowF B e 1 v n xs) : ∃ ao cap, v = .slice ao n cap := by
  rcases h.2 with ⟨rfl, rfl⟩ | ⟨g, cap, _, _, rfl, _⟩
  · exact ⟨none, 0, rfl⟩
  · exact ⟨_, _, rfl⟩

set_option maxHeartbeats 2000000 in
set_option maxRecDepth 100000 in
theorem WriteString_any (B b : Nat) (bs : List Value) (s : ByteArray) (w : World) (h : Lib.IsBuilderF 98 5 B b bs w) (hlen : bs.length + s.size ≤ 140737488355328) (hBw : B ≤ w.heap.size) :
    Calls Try.prog 58 #[.pointer (some ⟨b, 0, none⟩), .string s] w fun e w' => e = .returned (.tuple #[.int .i64 s.size, .nilIface]) ∧ (Lib.BuilderAtF 98 5 B b (.pointer (some ⟨b, 0, none⟩)) (bs ++ Lib.strCells s) w' ∧ Below B w w' ∧ Lib.OthersKept 5 (some b) w w') := by
  have HH : Hid (Lib.IsBuilderF 98 5 B b bs w) := h
  obtain ⟨ib, hib, z0, z1, z2⟩ := info_parts extra169.infoByte
  clear h
  go_enter Try.func58, Try.ntmps58
  go_wp2_with fail
  refine (copyCheck_any B b bs _ HH.out).mono ?_
  rintro e w1 ⟨rfl, ⟨hB, v, hbox, hrow, hapart⟩, hb, ho⟩
  have HB : Hid (Below B w w1) := hb
  have HO : Hid (Lib.OthersKept 5 (some b) w w1) := ho
  have hz := hb.size
  have HBOX : Hid _ := hbox
  have HR : Hid (w1.ownsRowF B 5 1 v bs.length bs) := hrow
  have field : w1.cell? ⟨b, 1, none⟩ = some v := by rw [Lib.cell_of_heap hbox]; rfl
  clear hb ho hbox hrow
  go_wp2_with (at_builtin; refine Lib.wpList_append_own_stringF _ rfl _ _ 96 9 rfl B 5 ib Try.underlying96 Try.underlying9 hib z0 z1 z2 _ _ _ rfl HR.out s rfl ?len ?room ?base ?_)
  case len => exact Nat.le_trans hlen (by decide)
  case room => exact hlen
  case base => exact Nat.le_trans hBw hz
  intro nv w2 hrow2 hgrow _
  have HBOX2 : Hid _ := stands hgrow HBOX.out hapart
  have thaw : w2.frozen? ⟨b, 1, none⟩ = false := Lib.frozen_of_heap HBOX2.out 1
  have old : w2.cell? ⟨b, 1, none⟩ = some v := by rw [Lib.cell_of_heap HBOX2.out]; rfl
  obtain ⟨ao, cap, rfl⟩ := sliceF hrow2
  have HB2 : Hid (Below B w w2) := HB.out.grown hgrow (Nat.le_trans hBw hz) (fun k hk => (HR.out.lt k hk).1)
  have HO2 : Hid (Lib.OthersKept 5 (some b) w w2) := HO.out.grown hgrow (Lib.ownsRowF_kind HR.out)
  have HR2 : Hid (w2.ownsRowF B 5 1 (.slice ao (bs.length + s.size) cap) (bs ++ Lib.strCells s).length (bs ++ Lib.strCells s)) := by
    show World.ownsRowF _ _ _ _ _ _ _
    rw [List.length_append, Lib.strCells_length]; exact hrow2
  clear hrow2 hgrow
  go_wp2_with fail
  go_ret2
  exact ⟨rfl, Lib.BuilderAtF.put (T := 98) (e := 5) hB HBOX2.out HR2.out extra169.neB5, HB2.out.setCell (p := ⟨b, 1, none⟩) hB _, HO2.out.setCell ⟨b, 1, none⟩ rfl _⟩

end Go.Proofs.Ytkihanmodfnpcab
