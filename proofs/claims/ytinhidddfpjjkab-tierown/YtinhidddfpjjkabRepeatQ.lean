/- What strings.Repeat answers of the sign that the document's road takes for any text. -/
import Derived.Test.YtinhidddfpjjkabBld
import Derived.Shelf.Strings.Builder2
import Derived.Shelf.Bits.Mul64
import Derived.Deep.Heap
import Derived.Lib.Strings
import Derived.Deep.QuietTactic
import Derived.BigQuiet
namespace Go.Proofs.Ytinhidddfpjjkab
open Go.Shelf Go.RowKit
set_option linter.unusedSimpArgs false
set_option linter.unusedVariables false

def renQ : Go.Shelf.Ren := ⟨fun | 212 => 65 | 263 => 77 | 264 => 78 | 241 => 80 | 277 => 89 | 170 => 68 | n => n,
  fun | 46 => 103 | 53 => 86 | 51 => 115 | 146 => 116 | 148 => 118 | 70 => 89 | 9 => 9 | 0 => 0 | 72 => 92 | 37 => 90 | 127 => 110 | 3 => 3 | 5 => 5 | n => n, fun | n => n⟩
theorem laysMul : Go.Proofs.Lays.n212 Try.prog renQ := {
  mixed := by kernel_rfl
  f212 := Try.func65.trans (congrArg some (by kernel_rfl))
  f263 := Try.func77.trans (congrArg some (by kernel_rfl))
  f264 := Try.func78.trans (congrArg some (by kernel_rfl))
  t46 := Try.underlying103
  a46 := Try.isAgg103
  z46 := Try.sizeOf103
  v46 := Try.zeroValue103
  t51 := Try.underlying115
  a51 := Try.isAgg115
  z51 := Try.sizeOf115
  v51 := Try.zeroValue115
  t53 := Try.underlying86
  a53 := Try.isAgg86
  z53 := Try.sizeOf86
  v53 := Try.zeroValue86
  t146 := Try.underlying116
  a146 := Try.isAgg116
  z146 := Try.sizeOf116
  v146 := Try.zeroValue116
  t148 := Try.underlying118
  a148 := Try.isAgg118
  z148 := Try.sizeOf118
  v148 := Try.zeroValue118 }
theorem Mul_any (x y : Nat) (hx : x < 18446744073709551616) (hy : y < 18446744073709551616) (w : World) :
    Calls Try.prog 65 #[.int .u64 x, .int .u64 y] w fun e w' => e = .returned (.tuple #[.int .u64 ((x * y / 18446744073709551616 : Nat) : Int), .int .u64 ((x * y % 18446744073709551616 : Nat) : Int)]) ∧ w' = w := Any.bits_Mul laysMul x y hx hy w
theorem laysGrow : Go.Proofs.Lays.n241 Try.prog renQ := {
  mixed := by kernel_rfl
  f241 := Try.func80.trans (congrArg some (by kernel_rfl))
  f277 := Try.func89.trans (congrArg some (by kernel_rfl))
  t0 := Try.underlying0
  a0 := Try.isAgg0
  z0 := Try.sizeOf0
  v0 := Try.zeroValue0
  t3 := Try.underlying3
  a3 := Try.isAgg3
  z3 := Try.sizeOf3
  v3 := Try.zeroValue3
  t37 := Try.underlying90
  a37 := Try.isAgg90
  z37 := Try.sizeOf90
  v37 := Try.zeroValue90
  t70 := Try.underlying89
  a70 := Try.isAgg89
  z70 := Try.sizeOf89
  v70 := Try.zeroValue89
  t72 := Try.underlying92
  a72 := Try.isAgg92
  z72 := Try.sizeOf92
  v72 := Try.zeroValue92 }
theorem extraQ : Builder.Extra Try.prog renQ := {
  sizeBuilder := by kernel_rfl
  liesBuilder := by kernel_rfl
  t5 := Try.underlying5
  a5 := Try.isAgg5
  z5 := Try.sizeOf5
  v5 := Try.zeroValue5
  infoByte := by kernel_rfl
  cellsByte := by kernel_rfl
  sizeByte := by kernel_rfl
  neB5 := by decide }
theorem grow_any (B b n : Nat) (w : World) (hB : B ≤ b) (hbk : w.heap[b]? = some (.cells #[.pointer (some ⟨b, 0, none⟩), .slice none 0 0] 92 (0, 0))) (hBw : B ≤ w.heap.size) (hn : n ≤ 281474976710656) :
    Calls Try.prog 80 #[.pointer (some ⟨b, 0, none⟩), .int .i64 n] w fun e w' => e = .returned (.tuple #[]) ∧ (Lib.BuilderAt 92 5 B b (.pointer (some ⟨b, 0, none⟩)) [] w' ∧ Below B w w') := Any.Builder_grow_fresh laysGrow extraQ B b n w hB hbk hBw hn
theorem laysLen : Go.Proofs.Lays.n170 Try.prog renQ := {
  mixed := by kernel_rfl
  f170 := Try.func68.trans (congrArg some (by kernel_rfl))
  t0 := Try.underlying0
  a0 := Try.isAgg0
  z0 := Try.sizeOf0
  v0 := Try.zeroValue0
  t3 := Try.underlying3
  a3 := Try.isAgg3
  z3 := Try.sizeOf3
  v3 := Try.zeroValue3
  t37 := Try.underlying90
  a37 := Try.isAgg90
  z37 := Try.sizeOf90
  v37 := Try.zeroValue90
  t70 := Try.underlying89
  a70 := Try.isAgg89
  z70 := Try.sizeOf89
  v70 := Try.zeroValue89
  t72 := Try.underlying92
  a72 := Try.isAgg92
  z72 := Try.sizeOf92
  v72 := Try.zeroValue92 }
theorem Len_any (B b : Nat) (bs : List Value) (w : World) (h : Lib.IsBuilderF 92 5 B b bs w) :
    Calls Try.prog 68 #[.pointer (some ⟨b, 0, none⟩)] w fun e w' => e = .returned (.int .i64 bs.length) ∧ w' = w := Any.Builder_Len_f laysLen B b bs w h

/-- "?" as many times -/
def qs63 (n : Nat) : List UInt8 := List.replicate n 63
theorem qs_byte (a b : Nat) : Lib.byteCells (qs63 a) ++ Lib.byteCells (qs63 b) = Lib.byteCells (qs63 (a + b)) := by
  rw [← Lib.byteCells_append, qs63, qs63, List.replicate_append_replicate]; rfl
set_option maxHeartbeats 1000000 in
set_option maxRecDepth 100000 in
/-- a Builder that was just laid learns where it lies -/
theorem learns (w : World) : Calls Try.prog 71 #[.pointer (some ⟨w.heap.size, 0, none⟩)] (w.alloc (.cells #[.pointer none, .slice none 0 0] 92)) fun e w' =>
    e = .returned (.tuple #[]) ∧ w' = w.alloc (.cells #[.pointer (some ⟨w.heap.size, 0, none⟩), .slice none 0 0] 92) := by
  obtain ⟨k1, k2, k3⟩ := thereBack w.heap.size (w.alloc (.cells #[.pointer none, .slice none 0 0] 92)) (by unfold World.shape?; rw [Deep.blk_alloc_new]; rfl)
  have same := notUnlike w.heap.size
  go_enter Try.func71, Try.ntmps71
  go_wp2
  go_end0
  exact ⟨rfl, rfl⟩
set_option maxHeartbeats 2000000 in
set_option maxRecDepth 100000 in
/-- and has room made in it -/
theorem roomFor (n : Nat) (w : World) (hn0 : 0 < n) (hn : n ≤ 1000) : Calls Try.prog 67 #[.pointer (some ⟨w.heap.size, 0, none⟩), .int .i64 n] (w.alloc (.cells #[.pointer none, .slice none 0 0] 92)) fun e w' =>
    e = .returned (.tuple #[]) ∧ Lib.IsBuilderF 92 5 w.heap.size w.heap.size (Lib.byteCells (qs63 0)) w' ∧ Below w.heap.size w w' := by
  obtain ⟨W, hW⟩ : ∃ W, w.alloc (.cells #[.pointer (some ⟨w.heap.size, 0, none⟩), .slice none 0 0] 92) = W := ⟨_, rfl⟩
  have hbox : W.heap[w.heap.size]? = some (.cells #[.pointer (some ⟨w.heap.size, 0, none⟩), .slice none 0 0] 92 (0, 0)) := by rw [← hW]; exact Deep.blk_alloc_new _ _
  have field : W.cell? ⟨w.heap.size, 1, none⟩ = some (.slice none 0 0) := Lib.cell_of_heap hbox 1
  have HBOX : Hid _ := hbox
  have HB : Hid (Below w.heap.size w W) := by show Below _ _ _; rw [← hW]; exact (Below.refl _ w).alloc (Nat.le_refl _) _
  have H : Hid _ := fun (_ : Unit) => learns w
  rw [hW] at H
  clear hW hbox
  go_enter Try.func67, Try.ntmps67
  go_wp2_with fail
  refine (H.out ()).mono ?_
  rintro e w1 ⟨rfl, rfl⟩
  go_wp2_with fail
  go_quiet (fail)
  rename Nat => nq
  have hz : w.heap.size ≤ (w1.drewN nq).heap.size := HB.out.size
  go_wp2_with fail
  refine (grow_any w.heap.size w.heap.size n (w1.drewN nq) (Nat.le_refl _) HBOX.out hz (by omega)).mono ?_
  rintro e w2 ⟨rfl, made, hb2⟩
  have HA : Hid (Lib.IsBuilderF 92 5 w.heap.size w.heap.size (Lib.byteCells (qs63 0)) w2) := .inr (Lib.BuilderAtF.of made)
  have HB2 : Hid (Below w.heap.size w w2) := (below_drewN HB.out nq).trans hb2
  clear made hb2
  go_wp2_with fail
  go_end0
  exact ⟨rfl, HA.out, HB2.out⟩

/-- how much a builder holds -/
def blen (w : World) (b : Nat) : Nat := match w.heap[b]? with
  | some (.cells cs _ _) => (match cs[1]? with
    | some (Value.slice _ n _) => n
    | _ => 0)
  | _ => 0
theorem blen_at {T e : TypeId} {B b : Nat} {p : Value} {bs : List Value} {w : World} (h : Lib.BuilderAtF T e B b p bs w) : blen w b = bs.length := by
  obtain ⟨hB, v, hb, hown, hne⟩ := h
  unfold blen
  rw [hb]
  rcases hown.2 with ⟨hv, h0⟩ | ⟨g, cap, cur, fz, hv, _⟩
  · subst hv; simpa using h0.symm
  · subst hv; rfl
/-- the least of what is still wanted, of what is there, and of all -/
theorem leastQ {n m : Nat} (h : m ≤ n) (ts : Array TypeId) (t : TypeId) (w : World) : (Builtin.min_ ts t #[.int .i64 ((n : Int) - (m : Int)), .int .i64 (m : Int), .int .i64 (n : Int)]).run Try.prog w = .ok (.int .i64 ((min (n - m) m : Nat) : Int)) w := by
  have h3 : ¬ (n : Int) < (m : Int) := by omega
  have h4 : ¬ (n : Int) < (n : Int) - (m : Int) := by omega
  by_cases q : m < n - m
  · have q1 : (m : Int) < (n : Int) - (m : Int) := by omega
    simp [Builtin.min_, Builtin.min2, q1, h3]; omega
  · have q1 : ¬ (m : Int) < (n : Int) - (m : Int) := by omega
    simp [Builtin.min_, Builtin.min2, q1, h4]; omega

set_option maxHeartbeats 4000000 in
set_option maxRecDepth 100000 in
theorem Repeat_any (n : Nat) (w : World) (hn : n ≤ 500) :
    Calls Try.prog 44 #[.string ⟨#[63]⟩, .int .i64 n] w fun e w' => e = .returned (.string ⟨(qs63 n).toArray⟩) ∧ Below w.heap.size w w' := by
  by_cases h0 : n = 0
  · subst h0
    go_enter Try.func44, Try.ntmps44
    go_wp2_with fail
    go_ret
    exact ⟨rfl, Below.refl _ _⟩
  · by_cases h1 : n = 1
    · subst h1
      go_enter Try.func44, Try.ntmps44
      go_wp2_with fail
      go_ret
      exact ⟨rfl, Below.refl _ _⟩
    · have hn2 : 2 ≤ n := by omega
      have hMul := Mul_any 1 n (by omega) (by omega) w
      rw [Nat.one_mul, Nat.div_eq_of_lt (by omega), Nat.mod_eq_of_lt (by omega)] at hMul
      have HMUL : Hid (Calls Try.prog 65 #[.int .u64 (1 : Nat), .int .u64 n] w fun e w' => e = .returned (.tuple #[.int .u64 ((0 : Nat) : Int), .int .u64 (n : Int)]) ∧ w' = w) := hMul
      clear hMul h0 h1
      go_enter Try.func44, Try.ntmps44
      go_wp2_with fail
      refine HMUL.out.mono ?_
      rintro e w' ⟨rfl, rfl⟩
      go_wp2_with fail
      refine (roomFor n w' (by omega) (by omega)).mono ?_
      rintro e w1 ⟨rfl, hA1, hb1⟩
      have HA1 : Hid (Lib.IsBuilderF 92 5 w'.heap.size w'.heap.size (Lib.byteCells (qs63 0)) w1) := hA1
      have HB1 : Hid (Below w'.heap.size w' w1) := hb1
      clear hA1 hb1
      go_wp2_with fail
      refine (WriteString_any w'.heap.size w'.heap.size (Lib.byteCells (qs63 0)) ⟨#[63]⟩ _ HA1.out (by decide) HB1.out.size).mono ?_
      rintro e w2 ⟨rfl, hA2, hb2, hk2⟩
      have HA2 : Hid (Lib.BuilderAtF 92 5 w'.heap.size w'.heap.size (.pointer (some ⟨w'.heap.size, 0, none⟩)) (Lib.byteCells (qs63 1)) w2) := hA2
      have HB2 : Hid (Below w'.heap.size w' w2) := HB1.out.trans hb2
      clear hA2 hb2 hk2
      go_wp2_with fail
      go_loopw [10] (fun c wr => ∃ m : Nat, 1 ≤ m ∧ m ≤ n ∧ Lib.BuilderAtF 92 5 w'.heap.size w'.heap.size (.pointer (some ⟨w'.heap.size, 0, none⟩)) (Lib.byteCells (qs63 m)) wr ∧ Below w'.heap.size w' wr) (fun _ wr => n - blen wr w'.heap.size)
      case atStart => exact ⟨1, Nat.le_refl _, by omega, HA2.out, HB2.out⟩
      case round =>
        obtain ⟨m, hm1, hmn, hA, hb⟩ := hrel
        have HA : Hid (Lib.BuilderAtF 92 5 w'.heap.size w'.heap.size (.pointer (some ⟨w'.heap.size, 0, none⟩)) (Lib.byteCells (qs63 m)) wr) := hA
        have HB : Hid (Below w'.heap.size w' wr) := hb
        have HBL : Hid (blen wr w'.heap.size = m) := by show _ = _; rw [blen_at hA, Lib.byteCells_length, qs63, List.length_replicate]
        have hbl : (Lib.byteCells (qs63 m)).length = m := by rw [Lib.byteCells_length, qs63, List.length_replicate]
        have HLEN : Hid (Calls Try.prog 68 #[.pointer (some ⟨w'.heap.size, 0, none⟩)] wr fun e w1 => e = .returned (.int .i64 (m : Int)) ∧ w1 = wr) := by
          have h := Len_any w'.heap.size w'.heap.size (Lib.byteCells (qs63 m)) wr (.inr hA)
          rw [hbl] at h
          exact h
        clear hA hb hbl
        by_cases hlt : m < n
        · go_wp2_with fail
          refine HLEN.out.mono ?_
          rintro e w3 ⟨rfl, rfl⟩
          go_wp2_with fail
          refine HLEN.out.mono ?_
          rintro e w4 ⟨rfl, rfl⟩
          go_wp2_with fail
          refine HLEN.out.mono ?_
          rintro e w5 ⟨rfl, rfl⟩
          have hmin3 := fun (ts : Array TypeId) (t : TypeId) (w : World) => leastQ (n := n) (m := m) (by omega) ts t w
          obtain ⟨c, hc⟩ : ∃ c, c = min (n - m) m := ⟨_, rfl⟩
          rw [← hc] at hmin3
          have hc1 : 1 ≤ c := by omega
          have hc2 : c ≤ m := by omega
          have hc3 : m + c ≤ n := by omega
          clear hc
          go_wp2_with fail
          refine (String_any w'.heap.size w'.heap.size (qs63 m) _ (.inr HA.out) HB.out.size).mono ?_
          rintro e w6 ⟨rfl, hA6, hb6, hk6⟩
          have HA6 : Hid (Lib.IsBuilderF 92 5 w'.heap.size w'.heap.size (Lib.byteCells (qs63 m)) w6) := hA6
          have HB6 : Hid (Below w'.heap.size w' w6) := HB.out.trans hb6
          obtain ⟨S, HS⟩ : ∃ S, Hid ((⟨(qs63 m).toArray⟩ : ByteArray) = S) := ⟨_, rfl⟩
          rw [HS.out]
          have hSs : S.size = m := by rw [← HS.out]; show (List.toArray (qs63 m)).size = m; simp [qs63]
          have HEX : Hid ((S.extract 0 c).data.toList = qs63 c) := by
            show _ = _
            rw [Lib.extract_data, ← HS.out]
            simp only [List.drop_zero, Nat.sub_zero, qs63]
            rw [List.take_replicate, Nat.min_eq_left hc2]
          clear hA6 hb6 hk6
          go_wp2_with fail
          refine (WriteString_any w'.heap.size w'.heap.size (Lib.byteCells (qs63 m)) (S.extract 0 c) _ HA6.out (by rw [Lib.byteCells_length, ByteArray.size_extract, qs63, List.length_replicate]; omega) HB6.out.size).mono ?_
          rintro e w7 ⟨rfl, hA7, hb7, hk7⟩
          rw [Lib.strCells_eq, HEX.out, qs_byte] at hA7
          have HA7 : Hid (Lib.BuilderAtF 92 5 w'.heap.size w'.heap.size (.pointer (some ⟨w'.heap.size, 0, none⟩)) (Lib.byteCells (qs63 (m + c))) w7) := hA7
          have HB7 : Hid (Below w'.heap.size w' w7) := HB6.out.trans hb7
          have HBL7 : Hid (blen w7 w'.heap.size = m + c) := by show _ = _; rw [blen_at hA7, Lib.byteCells_length, qs63, List.length_replicate]
          clear hA7 hb7 hk7
          go_wp2_with fail
          go_roundw
          case rel => exact ⟨m + c, by omega, hc3, HA7.out, HB7.out⟩
          case measure => have h1 := HBL.out; have h2 := HBL7.out; omega
        · have hmm : m = n := by omega
          subst hmm
          go_wp2_with fail
          refine HLEN.out.mono ?_
          rintro e w3 ⟨rfl, rfl⟩
          go_wp2_with fail
          refine (String_any w'.heap.size w'.heap.size (qs63 m) _ (.inr HA.out) HB.out.size).mono ?_
          rintro e w4 ⟨rfl, hA4, hb4, hk4⟩
          have HB4 : Hid (Below w'.heap.size w' w4) := HB.out.trans hb4
          clear hA4 hb4 hk4
          go_wp2_with fail
          go_ret
          exact ⟨rfl, HB4.out⟩

end Go.Proofs.Ytinhidddfpjjkab
