/- A row of texts that is read. -/
import Derived.Test.YtgffippimmokiaaPtOwn
import Derived.OwnWalk
import Derived.Test.YtgffippimmokiaaShTab
import Derived.Deep.RegionHeld3
import Derived.BigQuiet
namespace Go.Proofs.Ytgffippimmokiaa
open Go.RowKit
set_option linter.unusedSimpArgs false
set_option linter.unusedVariables false

/-- the texts x lie from address a on, below block B, with room for c -/
def StAt (w : World) (B : Nat) (a : Option Addr) (x : List ByteArray) (c : Nat) : Prop :=
  x.length ≤ c ∧ c ≤ 9223372036854775807 ∧ B ≤ w.heap.size ∧ (x ≠ [] → ∃ b off, a = some ⟨b, off, none⟩ ∧ b < B ∧ (∀ (i : Nat) (q : ByteArray), x[i]? = some q → w.cell? ⟨b, off + i, none⟩ = some (.string q))) ∧ ∀ q ∈ x, q.size ≤ 9223372036854775807
theorem StAt.below {w w' : World} {B B' : Nat} {a : Option Addr} {x : List ByteArray} {c : Nat} (h : StAt w B a x c) (hb : Below B' w w') (hB : B ≤ B') : StAt w' B a x c := by
  obtain ⟨h1, h0, h2, h3, h4⟩ := h
  refine ⟨h1, h0, Nat.le_trans h2 hb.size, fun hn => ?_, h4⟩
  obtain ⟨b, off, ha, hlt, hc⟩ := h3 hn
  have hlt' : b < B' := Nat.lt_of_lt_of_le hlt hB
  exact ⟨b, off, ha, hlt, fun i q hi => (hb.cell (p := ⟨b, _, none⟩) hlt').trans (hc i q hi)⟩
theorem StAt.wider {w : World} {B B' : Nat} {a : Option Addr} {x : List ByteArray} {c : Nat} (h : StAt w B a x c) (h1 : B ≤ B') (h2 : B' ≤ w.heap.size) : StAt w B' a x c :=
  ⟨h.1, h.2.1, h2, fun hn => by
    obtain ⟨b, off, ha, hlt, hc⟩ := h.2.2.2.1 hn
    exact ⟨b, off, ha, by omega, hc⟩, h.2.2.2.2⟩
theorem StAt.here {w w' : World} {B B' : Nat} {a : Option Addr} {x : List ByteArray} {c : Nat} (h : StAt w B a x c) (hb : Below B' w w') (hB : B ≤ B') : StAt w' w'.heap.size a x c :=
  (h.below hb hB).wider (h.below hb hB).2.2.1 (Nat.le_refl _)
theorem StAt.mem {w : World} {B : Nat} {a : Option Addr} {x : List ByteArray} {c : Nat} (h : StAt w B a x c) {i : Nat} {q : ByteArray} (hi : x[i]? = some q) :
    ∃ b off, a = some ⟨b, off, none⟩ ∧ b < B ∧ w.cell? ⟨b, off + i, none⟩ = some (.string q) := by
  obtain ⟨b, off, ha, hlt, hc⟩ := h.2.2.2.1 (fun e => by subst e; simp at hi)
  exact ⟨b, off, ha, hlt, hc i q hi⟩
theorem StAt.cut {w : World} {B : Nat} {a : Option Addr} {x : List ByteArray} {c : Nat} (h : StAt w B a x c) (k : Nat) : StAt w B a (x.take k) c := by
  refine ⟨Nat.le_trans (by rw [List.length_take]; omega) h.1, h.2.1, h.2.2.1, fun hn => ?_, fun q hq => h.2.2.2.2 q (List.mem_of_mem_take hq)⟩
  obtain ⟨b, off, ha, hlt, hc⟩ := h.2.2.2.1 (fun e => hn (by rw [e]; simp))
  refine ⟨b, off, ha, hlt, fun i q hi => hc i q ?_⟩
  rw [List.getElem?_take] at hi
  split at hi
  · exact hi
  · cases hi
theorem st_nil (w : World) (B c : Nat) (hB : B ≤ w.heap.size) (hc : c ≤ 9223372036854775807) (a : Option Addr) : StAt w B a [] c := ⟨by simp, hc, hB, by simp, by simp⟩
end Go.Proofs.Ytgffippimmokiaa

/- The document's own archive, as it lies in memory, and what it tells. -/
namespace Go.Proofs.Ytgffippimmokiaa
open Go.RowKit
set_option linter.unusedSimpArgs false
set_option linter.unusedVariables false

/-- the cells of the document's archive, outside a move -/
def rsL (p : ByteArray) (x : Int) (q : ByteArray) (y : Int) (at_ gen fl : Int) (F : List Int) (tv rv : Value) (sf : Int) : List Value :=
  [.string p, .int .i64 x, .string q, .int .i64 y, .int .i64 at_, .int .i64 gen, .int .i64 fl] ++ (jzC F ++ [tv, rv, .int .i64 sf, .bool false, .int .i64 0, .int .i64 0, .bool false, .bool false])
theorem rsL_at {p q : ByteArray} {x y at_ gen fl : Int} {F : List Int} {tv rv : Value} {sf : Int} (hF : F.length = 16) :
    (rsL p x q y at_ gen fl F tv rv sf).length = 31 ∧ (rsL p x q y at_ gen fl F tv rv sf)[23]? = some tv ∧ (rsL p x q y at_ gen fl F tv rv sf)[24]? = some rv ∧ (rsL p x q y at_ gen fl F tv rv sf)[25]? = some (.int .i64 sf) := by
  have hJ : (jzC F).length = 16 := by rw [jzC_len]; exact hF
  refine ⟨?_, ?_, ?_, ?_⟩
  · unfold rsL; rw [List.length_append, List.length_append, hJ]; rfl
  · unfold rsL; rw [List.getElem?_append_right (by simp), List.getElem?_append_right (by rw [hJ]; simp), hJ]; rfl
  · unfold rsL; rw [List.getElem?_append_right (by simp), List.getElem?_append_right (by rw [hJ]; simp), hJ]; rfl
  · unfold rsL; rw [List.getElem?_append_right (by simp), List.getElem?_append_right (by rw [hJ]; simp), hJ]; rfl
def RsAt (w : World) (g : Nat) (L : List Value) : Prop := w.heap[g]? = some (.cells L.toArray 96 (0, 0))
theorem RsAt.lt {w : World} {g : Nat} {L : List Value} (h : RsAt w g L) : g < w.heap.size := lt_of_heap h
theorem RsAt.below {w w' : World} {B g : Nat} {L : List Value} (h : RsAt w g L) (hb : Below B w w') (hg : g < B) : RsAt w' g L := (hb.block g hg).trans h
theorem RsAt.cell {w : World} {g : Nat} {L : List Value} (h : RsAt w g L) {i : Nat} {v : Value} (hi : L[i]? = some v) : w.cell? ⟨g, i, none⟩ = some v := by
  have h2 := Lib.cell_of_heap h i
  rw [h2]
  simpa using hi
theorem RsAt.free {w : World} {g : Nat} {L : List Value} (h : RsAt w g L) (i : Nat) : w.frozen? ⟨g, i, none⟩ = false := Lib.frozen_of_heap h i
theorem RsAt.put {w : World} {g : Nat} {L : List Value} (h : RsAt w g L) (i : Nat) (v : Value) : RsAt (w.setCell ⟨g, i, none⟩ v) g (L.set i v) := by
  have h2 := heap_setCell_same w g i _ _ v h
  rw [List.setIfInBounds_toArray] at h2
  exact h2
theorem RsAt.puts {g : Nat} : ∀ (vs : List Value) (w : World) (L : List Value) (o : Nat), RsAt w g L → RsAt (w.setCells g o vs) g (setL L o vs)
  | [], _, _, _, h => h
  | v :: r, w, L, o, h => RsAt.puts r _ _ (o + 1) (h.put o v)
theorem RsAt.range {w : World} {g : Nat} {L : List Value} (h : RsAt w g L) (a b c : List Value) (e : L = a ++ (b ++ c)) : w.rangeAt g a.length b := by
  intro j v hj
  have hl := (List.getElem?_eq_some_iff.1 hj).1
  refine h.cell ?_
  rw [e, List.getElem?_append_right (by omega), show a.length + j - a.length = j by omega, List.getElem?_append_left hl]
  exact hj
theorem RsAt.there {w : World} {g : Nat} {L : List Value} (h : RsAt w g L) {o n : Nat} (hn : o + n ≤ L.length) : w.there g o n := by
  intro j hj
  refine ⟨?_, h.free _⟩
  rw [h.cell (List.getElem?_eq_getElem (show o + j < L.length by omega))]
  rfl
/-- the document's archive, with this log and these texts -/
def RsOf (w : World) (g : Nat) (p : ByteArray) (x : Int) (q : ByteArray) (y : Int) (S : Lg) (T : List ByteArray) (sf : Nat) (at_ gen : Int) (ta : Option Addr) (tc : Nat) (ra : Option Addr) (rc : Nat) : Prop :=
  RsAt w g (rsL p x q y at_ gen S.base S.first (.slice ta T.length tc) (.slice ra S.revs.length rc) sf) ∧ StAt w w.heap.size ta T tc ∧ RevsAt w w.heap.size ra S.revs ∧ S.revs.length ≤ rc ∧ S.first.length = 16
theorem RsOf.below {w w' : World} {g : Nat} {p q : ByteArray} {x y : Int} {S : Lg} {T : List ByteArray} {sf : Nat} {at_ gen : Int} {ta ra : Option Addr} {tc rc : Nat} (h : RsOf w g p x q y S T sf at_ gen ta tc ra rc) (hb : Below w.heap.size w w') : RsOf w' g p x q y S T sf at_ gen ta tc ra rc :=
  ⟨h.1.below hb h.1.lt, h.2.1.here hb (Nat.le_refl _), h.2.2.1.here hb (Nat.le_refl _), h.2.2.2⟩
theorem RsOf.cells {w : World} {g : Nat} {p q : ByteArray} {x y : Int} {S : Lg} {T : List ByteArray} {sf : Nat} {at_ gen : Int} {ta ra : Option Addr} {tc rc : Nat} (h : RsOf w g p x q y S T sf at_ gen ta tc ra rc) :
    (w.cell? ⟨g, 0, none⟩ = some (.string p) ∧ w.cell? ⟨g, 1, none⟩ = some (.int .i64 x) ∧ w.cell? ⟨g, 2, none⟩ = some (.string q) ∧ w.cell? ⟨g, 3, none⟩ = some (.int .i64 y)) ∧
    w.cell? ⟨g, 6, none⟩ = some (.int .i64 S.base) ∧ w.cell? ⟨g, 23, none⟩ = some (.slice ta T.length tc) ∧ w.cell? ⟨g, 24, none⟩ = some (.slice ra S.revs.length rc) ∧ w.cell? ⟨g, 25, none⟩ = some (.int .i64 sf) := by
  obtain ⟨_, h1, h2, h3⟩ := rsL_at (p := p) (x := x) (q := q) (y := y) (at_ := at_) (gen := gen) (fl := S.base) (F := S.first) (tv := .slice ta T.length tc) (rv := .slice ra S.revs.length rc) (sf := sf) h.2.2.2.2
  exact ⟨⟨h.1.cell rfl, h.1.cell rfl, h.1.cell rfl, h.1.cell rfl⟩, h.1.cell rfl, h.1.cell h1, h.1.cell h2, h.1.cell h3⟩
set_option maxHeartbeats 1000000 in
theorem RsHead_any {p q : ByteArray} {x y : Int} {S : Lg} {T : List ByteArray} {sf : Nat} {at_ gen : Int} {ta ra : Option Addr} {tc rc : Nat} (g : Nat) (w : World) (h : RsOf w g p x q y S T sf at_ gen ta tc ra rc) (h64 : S.revs.length ≤ 64) (hb : S.base + S.revs.length ≤ 2147483647) :
    Calls Try.prog 43 #[.pointer (some ⟨g, 0, none⟩)] w fun e w' => e = .returned (.int .i64 ((S.base + S.revs.length : Nat) : Int)) ∧ Below w.heap.size w w' := by
  obtain ⟨_, c6, _, c24, _⟩ := h.cells
  have hgl := h.1.lt
  obtain ⟨n, hn⟩ : ∃ n, S.revs.length = n := ⟨_, rfl⟩
  obtain ⟨b, hbs⟩ : ∃ b, S.base = b := ⟨_, rfl⟩
  rw [hn] at c24 h64 hb ⊢
  rw [hbs] at c6 hb ⊢
  obtain ⟨m, hm⟩ : ∃ m, b + n = m := ⟨_, rfl⟩
  have hw : IntKind.i64.wrap ((b : Int) + (n : Int)) = (m : Int) := by rw [IntWalk.i64_in _ ⟨by omega, by omega⟩]; omega
  rw [hm]
  clear h hn hbs hm hb
  go_enter Try.func43, Try.ntmps43
  go_wp2_with fail
  go_quiet (fail)
  go_wp2_with fail
  go_ret
  exact ⟨rfl, below_drewN (Below.refl _ _) _⟩
/-- what is wrong with a revision -/
def thrE (S : Lg) (r : Int) : Int := if r < S.base then 9 else if ((S.base + S.revs.length : Nat) : Int) < r then 8 else 0
set_option maxHeartbeats 1000000 in
theorem RsThere_any {p q : ByteArray} {x y : Int} {S : Lg} {T : List ByteArray} {sf : Nat} {at_ gen : Int} {ta ra : Option Addr} {tc rc : Nat} (r : Int) (g : Nat) (w : World) (h : RsOf w g p x q y S T sf at_ gen ta tc ra rc) (h64 : S.revs.length ≤ 64) (hb : S.base + S.revs.length ≤ 2147483647) :
    Calls Try.prog 46 #[.pointer (some ⟨g, 0, none⟩), .int .i64 r] w fun e w' => e = .returned (.int .i64 (thrE S r)) ∧ Below w.heap.size w w' := by
  obtain ⟨_, c6, _, c24, _⟩ := h.cells
  have hgl := h.1.lt
  have HHd : Hid _ := fun (_ : Unit) => RsHead_any g w h h64 hb
  unfold thrE
  generalize S.base + S.revs.length = m at *
  generalize S.base = b at *
  clear h c24 hb h64
  by_cases h1 : r < (b : Int)
  · rw [if_pos h1]
    clear HHd
    go_enter Try.func46, Try.ntmps46
    go_wp2_with fail
    go_ret
    exact ⟨rfl, Below.refl _ _⟩
  · rw [if_neg h1]
    by_cases h2 : (m : Int) < r
    · rw [if_pos h2]
      go_enter Try.func46, Try.ntmps46
      go_wp2_with fail
      with_reducible refine (HHd.out ()).mono ?_
      rintro e w1 ⟨rfl, hb1⟩
      have HB1 : Hid (Below w.heap.size w w1) := hb1
      clear hb1
      go_wp2_with fail
      go_ret
      exact ⟨rfl, HB1.out⟩
    · rw [if_neg h2]
      go_enter Try.func46, Try.ntmps46
      go_wp2_with fail
      with_reducible refine (HHd.out ()).mono ?_
      rintro e w1 ⟨rfl, hb1⟩
      have HB1 : Hid (Below w.heap.size w w1) := hb1
      clear hb1
      go_wp2_with fail
      go_ret
      exact ⟨rfl, HB1.out⟩
set_option maxHeartbeats 1000000 in
theorem RsText_any {p q : ByteArray} {x y : Int} {S : Lg} {T : List ByteArray} {sf : Nat} {at_ gen : Int} {ta ra : Option Addr} {tc rc : Nat} (k : Nat) (s : ByteArray) (g : Nat) (w : World) (h : RsOf w g p x q y S T sf at_ gen ta tc ra rc) (hk : T[k]? = some s) (hb : S.base + k ≤ 2147483647) :
    Calls Try.prog 47 #[.pointer (some ⟨g, 0, none⟩), .int .i64 ((S.base + k : Nat) : Int)] w fun e w' => e = .returned (.string s) ∧ Below w.heap.size w w' := by
  obtain ⟨_, c6, c23, _, _⟩ := h.cells
  have hgl := h.1.lt
  obtain ⟨bt, off, rfl, hbt, ct⟩ := h.2.1.mem hk
  have hkl := (List.getElem?_eq_some_iff.1 hk).1
  generalize T.length = n at *
  generalize S.base = b at *
  obtain ⟨m, hm⟩ : ∃ m, b + k = m := ⟨_, rfl⟩
  have hw : IntKind.i64.wrap ((m : Int) - (b : Int)) = (k : Int) := by rw [IntWalk.i64_in _ ⟨by omega, by omega⟩]; omega
  have q1 : (0 : Int) ≤ (k : Int) := by omega
  have q2 : (k : Int) < (n : Int) := by omega
  rw [hm]
  clear h hk hm hb hkl
  go_enter Try.func47, Try.ntmps47
  go_wp2_with fail
  go_quiet (fail)
  go_wp2_with fail
  go_ret
  exact ⟨rfl, below_drewN (Below.refl _ _) _⟩
/-- the first table, as it lies there -/
theorem RsOf.first {w : World} {g : Nat} {p q : ByteArray} {x y : Int} {S : Lg} {T : List ByteArray} {sf : Nat} {at_ gen : Int} {ta ra : Option Addr} {tc rc : Nat} (h : RsOf w g p x q y S T sf at_ gen ta tc ra rc) : w.rangeAt g 7 (jzC S.first) :=
  h.1.range [.string p, .int .i64 x, .string q, .int .i64 y, .int .i64 at_, .int .i64 gen, .int .i64 S.base] _ [.slice ta T.length tc, .slice ra S.revs.length rc, .int .i64 sf, .bool false, .int .i64 0, .int .i64 0, .bool false, .bool false] rfl
/-- what is held while a table is made -/
def TrIs (w0 w : World) (B : Nat) (T : List Int) : Prop := TbAt w B (List.replicate 16 0) ∧ TbAt w (B + 1) T ∧ T.length = 16 ∧ Below B w0 w
theorem TrIs.below {w0 w w' : World} {B : Nat} {T : List Int} (h : TrIs w0 w B T) (hb : Below w.heap.size w w') : TrIs w0 w' B T :=
  ⟨h.1.below hb h.1.lt, h.2.1.below hb h.2.1.lt, h.2.2.1, h.2.2.2.trans (hb.mono (Nat.le_of_lt h.1.lt))⟩
theorem TrIs.put {w0 w : World} {B k : Nat} {T : List Int} (h : TrIs w0 w B T) (p q : Int) : TrIs w0 ((w.setCell ⟨B + 1, k * 2, none⟩ (.int .i64 p)).setCell ⟨B + 1, k * 2 + 1, none⟩ (.int .i64 q)) B ((T.set (k * 2) p).set (k * 2 + 1) q) :=
  ⟨(h.1.apart (by omega) _ _).apart (by omega) _ _, (h.2.1.put _ _).put _ _, by rw [List.length_set, List.length_set]; exact h.2.2.1, (h.2.2.2.setCell (p := ⟨B + 1, k * 2, none⟩) (by simp) _).setCell (p := ⟨B + 1, k * 2 + 1, none⟩) (by simp) _⟩
theorem TrIs.drew {w0 w : World} {B : Nat} {T : List Int} (h : TrIs w0 w B T) : TrIs w0 w.drew B T := ⟨h.1, h.2.1, h.2.2.1, h.2.2.2.drew⟩
set_option maxRecDepth 20000 in
set_option maxHeartbeats 8000000 in
theorem RsTable_any {p q : ByteArray} {x y : Int} {S : Lg} {T : List ByteArray} {sf : Nat} {at_ gen : Int} {ta ra : Option Addr} {tc rc : Nat} (g : Nat) (w : World) (h : RsOf w g p x q y S T sf at_ gen ta tc ra rc) (h64 : S.revs.length ≤ 64) (hend : S.base + S.revs.length ≤ 2147483647) (h1 : ∀ r ∈ S.revs, oneE r = 0) :
    Calls Try.prog 45 #[.pointer (some ⟨g, 0, none⟩), .int .i64 ((S.base + S.revs.length : Nat) : Int)] w fun e w' => e = .returned (.agg (jzC (tabK S S.revs.length)).toArray) ∧ Below w.heap.size w w' := by
  have HO : Hid (RsOf w g p x q y S T sf at_ gen ta tc ra rc) := h
  have H1 : Hid _ := h1
  have HI16 : Hid ((Try.prog.info? 80).map (·.size) = some (jzC S.first).toArray.size ∧ (16 : Nat) = (jzC S.first).toArray.size ∧ (jzC S.first).toArray.all (·.oneCell') = true ∧ (Try.prog.info? 80).map (·.size) = some (jzC S.first).length) := by
    have e : (jzC S.first).length = 16 := by rw [jzC_len]; exact h.2.2.2.2
    exact ⟨by rw [List.size_toArray, e]; exact infoTb, by rw [List.size_toArray, e], all_oneCell_toArray (jzC_one _), by rw [e]; exact infoTb⟩
  have hF := h.2.2.2.2
  obtain ⟨B, hB⟩ : ∃ B, w.heap.size = B := ⟨_, rfl⟩
  have HW : Hid (w.heap.size = B) := hB
  have hgB : g < B := by rw [← hB]; exact h.1.lt
  obtain ⟨n, hn⟩ : ∃ n, S.revs.length = n := ⟨_, rfl⟩
  obtain ⟨m, hm⟩ : ∃ m : Int, ((S.base + n : Nat) : Int) = m := ⟨_, rfl⟩
  have HM : Hid (IntKind.i64.wrap (m - (S.base : Int)) = (n : Int)) := by
    show _ = _
    rw [← hm, IntWalk.i64_in _ ⟨by omega, by omega⟩]; omega
  rw [hn] at h64 hend
  rw [hn, hm]
  clear h h1 hm
  go_enter Try.func45, Try.ntmps45
  go_upto_region 1 with fail
  have hb0 : Below w.heap.size w (w.alloc (.cells #[.int .i64 0, .int .i64 0, .int .i64 0, .int .i64 0, .int .i64 0, .int .i64 0, .int .i64 0, .int .i64 0, .int .i64 0, .int .i64 0, .int .i64 0, .int .i64 0, .int .i64 0, .int .i64 0, .int .i64 0, .int .i64 0] 80)) := (Below.refl _ w).alloc (Nat.le_refl _) _
  have H0 : Hid (TbAt (w.alloc (.cells #[.int .i64 0, .int .i64 0, .int .i64 0, .int .i64 0, .int .i64 0, .int .i64 0, .int .i64 0, .int .i64 0, .int .i64 0, .int .i64 0, .int .i64 0, .int .i64 0, .int .i64 0, .int .i64 0, .int .i64 0, .int .i64 0] 80)) B (List.replicate 16 0) ∧ Below B w (w.alloc (.cells #[.int .i64 0, .int .i64 0, .int .i64 0, .int .i64 0, .int .i64 0, .int .i64 0, .int .i64 0, .int .i64 0, .int .i64 0, .int .i64 0, .int .i64 0, .int .i64 0, .int .i64 0, .int .i64 0, .int .i64 0, .int .i64 0] 80)) ∧ (w.alloc (.cells #[.int .i64 0, .int .i64 0, .int .i64 0, .int .i64 0, .int .i64 0, .int .i64 0, .int .i64 0, .int .i64 0, .int .i64 0, .int .i64 0, .int .i64 0, .int .i64 0, .int .i64 0, .int .i64 0, .int .i64 0, .int .i64 0] 80)).heap.size = B + 1) := by
    rw [← hB]
    exact ⟨heap_alloc_new w _, hb0, by simp⟩
  have HO0 : Hid (RsOf (w.alloc (.cells #[.int .i64 0, .int .i64 0, .int .i64 0, .int .i64 0, .int .i64 0, .int .i64 0, .int .i64 0, .int .i64 0, .int .i64 0, .int .i64 0, .int .i64 0, .int .i64 0, .int .i64 0, .int .i64 0, .int .i64 0, .int .i64 0] 80)) g p x q y S T sf at_ gen ta tc ra rc) := HO.out.below hb0
  generalize w.alloc (.cells #[.int .i64 0, .int .i64 0, .int .i64 0, .int .i64 0, .int .i64 0, .int .i64 0, .int .i64 0, .int .i64 0, .int .i64 0, .int .i64 0, .int .i64 0, .int .i64 0, .int .i64 0, .int .i64 0, .int .i64 0, .int .i64 0] 80) = w0 at H0 HO0 ⊢
  clear hB hb0
  have HTk : Hid (TrIs w (w0.alloc (.cells (jzC S.first).toArray 80)) B S.first) := by
    obtain ⟨h1, h3, h4⟩ := H0.out
    have hb : Below w0.heap.size w0 (w0.alloc (.cells (jzC S.first).toArray 80)) := (Below.refl _ w0).alloc (Nat.le_refl _) _
    have hn : (w0.alloc (.cells (jzC S.first).toArray 80)).heap[w0.heap.size]? = some (.cells (jzC S.first).toArray 80 (0, 0)) := heap_alloc_new w0 _
    rw [h4] at hn
    exact ⟨h1.below hb h1.lt, hn, hF, h3.trans (hb.mono (by omega))⟩
  have HRg : Hid (w0.rangeAt g 7 (jzC S.first)) := HO0.out.first
  have hz0 := H0.out.2.2
  have HZ0 : Hid (w0.heap.size = B + 1) := hz0
  have hg0 := HO0.out.1.lt
  have HO1 : Hid (RsOf (w0.alloc (.cells (jzC S.first).toArray 80)) g p x q y S T sf at_ gen ta tc ra rc) := HO0.out.below ((Below.refl _ w0).alloc (Nat.le_refl _) _)
  clear H0 hz0
  go_upto_region 2 with (first | refine wpList_load_mid rfl 80 _ rfl g 7 rfl (jzC S.first) _ HRg.out Try.underlying80 rfl HI16.out.2.2.2 ?_ | refine wpList_store_new rfl 80 _ _ rfl _ (jzC S.first).toArray (by rfl) (by rfl) HI16.out.1 (by exact HI16.out.2.1) HI16.out.2.2.1 ?_)
  generalize w0.alloc (.cells (jzC S.first).toArray 80) = w1 at HTk HO1 ⊢
  rw [HZ0.out]
  clear hg0 HO0 HRg
  obtain ⟨_, c6, _, c24, _⟩ := HO1.out.cells
  have hg1 := HO1.out.1.lt
  have hwk := HM.out
  go_wp2_with fail
  clear c6 c24 hg1 hwk
  go_loopw [18] (fun i wr => ∃ j : Nat, j ≤ n ∧ i = .int .i64 (j : Int) ∧ TrIs w wr B (tabK S j) ∧ RsOf wr g p x q y S T sf at_ gen ta tc ra rc) (fun i _ => n - (intOf i).toNat)
  case atStart => exact ⟨0, Nat.zero_le _, rfl, HTk.out, HO1.out⟩
  case round =>
    rename World => wr
    clear HTk HO1
    obtain ⟨j, hj, rfl, htk, hof⟩ := hrel
    have HT1 : Hid (TrIs w wr B (tabK S j)) := htk
    have HO1 : Hid (RsOf wr g p x q y S T sf at_ gen ta tc ra rc) := hof
    clear htk hof
    by_cases hlt : j < n
    · obtain ⟨r, hr⟩ : ∃ r, S.revs[j]? = some r := ⟨_, List.getElem?_eq_getElem (by omega)⟩
      have hone := H1.out r (List.mem_of_getElem? hr)
      obtain ⟨⟨o1, o2, o3, o4⟩, _⟩ := one_zero hone
      obtain ⟨q', hq⟩ : ∃ q' : Nat, r.who = (q' : Int) := ⟨r.who.toNat, by omega⟩
      have HSuc : Hid (tabK S (j + 1) = ((tabK S j).set (q' * 2) r.seq).set (q' * 2 + 1) (S.base + ((j : Int) + 1))) := by
        show _ = _
        rw [tabK_succ hr, tabPut, hq, Int.toNat_natCast, Nat.mul_comm 2 q']
      obtain ⟨_, c6, _, c24, _⟩ := HO1.out.cells
      obtain ⟨b, off, ai, ci, rfl, hbl, d0, d1, d2, _, _⟩ := HO1.out.2.2.1.mem hr
      have hgr := HO1.out.1.lt
      have hji : (j : Int) < (n : Int) := by omega
      rw [hq] at d0
      rw [hn] at c24
      obtain ⟨t, ht⟩ : ∃ t : Int, (S.base : Int) + ((j : Int) + 1) = t := ⟨_, rfl⟩
      rw [ht] at HSuc
      have hw1 : IntKind.i64.wrap ((S.base : Int) + (j : Int)) = (S.base : Int) + (j : Int) := IntWalk.i64_in _ ⟨by omega, by omega⟩
      have hw2 : IntKind.i64.wrap ((S.base : Int) + (j : Int) + 1) = t := by rw [IntWalk.i64_in _ ⟨by omega, by omega⟩]; omega
      have q0 : (0 : Int) ≤ (q' : Int) := by omega
      have q8 : (q' : Int) < 8 := by omega
      have hb1 : Below wr.heap.size wr (wr.alloc (.cells #[.int .i64 (q' : Int), .int .i64 r.seq, .slice ai r.d.length ci] 40)) := (Below.refl _ wr).alloc (Nat.le_refl _) _
      have HT2 : Hid (TrIs w (wr.alloc (.cells #[.int .i64 (q' : Int), .int .i64 r.seq, .slice ai r.d.length ci] 40)) B (tabK S j)) := HT1.out.below hb1
      have HO2 : Hid (RsOf (wr.alloc (.cells #[.int .i64 (q' : Int), .int .i64 r.seq, .slice ai r.d.length ci] 40)) g p x q y S T sf at_ gen ta tc (some ⟨b, off, none⟩) rc) := HO1.out.below hb1
      have HN2 : Hid ((wr.alloc (.cells #[.int .i64 (q' : Int), .int .i64 r.seq, .slice ai r.d.length ci] 40)).heap[wr.heap.size]? = some (.cells #[.int .i64 (q' : Int), .int .i64 r.seq, .slice ai r.d.length ci] 40 (0, 0))) := heap_alloc_new wr _
      clear hone o1 o2 o3 o4 hq hb1 hr ht
      go_upto_region 6 with fail
      generalize wr.alloc (.cells #[.int .i64 (q' : Int), .int .i64 r.seq, .slice ai r.d.length ci] 40) = w2 at HT2 HN2 HO2 ⊢
      obtain ⟨N, hN⟩ : ∃ N, wr.heap.size = N := ⟨_, rfl⟩
      rw [hN] at HN2 ⊢
      clear hN d0 d1 d2 hbl hgr c6 c24
      have n0 := Lib.cell_of_heap HN2.out 0
      have n1 := Lib.cell_of_heap HN2.out 1
      have hNl := lt_of_heap HN2.out
      obtain ⟨_, c6, _, _, _⟩ := HO2.out.cells
      have hg2 := HO2.out.1.lt
      obtain ⟨y1, hy1⟩ : ∃ y, (tabK S j)[q' * 2]? = some y := ⟨_, List.getElem?_eq_getElem (by rw [HT2.out.2.2.1]; omega)⟩
      obtain ⟨y2, hy2⟩ : ∃ y, (tabK S j)[q' * 2 + 1]? = some y := ⟨_, List.getElem?_eq_getElem (by rw [HT2.out.2.2.1]; omega)⟩
      have t1 := HT2.out.2.1.cell hy1
      have t2 := HT2.out.2.1.cell hy2
      have f1 := HT2.out.2.1.free (q' * 2)
      have f2 := HT2.out.2.1.free (q' * 2 + 1)
      have hB2 := HT2.out.2.1.lt
      have HF : Hid (TrIs w ((w2.setCell ⟨B + 1, q' * 2, none⟩ (.int .i64 r.seq)).setCell ⟨B + 1, q' * 2 + 1, none⟩ (.int .i64 t)) B (tabK S (j + 1))) := by
        rw [HSuc.out]
        exact HT2.out.put (k := q') r.seq t
      have HO3 : Hid (RsOf ((w2.setCell ⟨B + 1, q' * 2, none⟩ (.int .i64 r.seq)).setCell ⟨B + 1, q' * 2 + 1, none⟩ (.int .i64 t)) g p x q y S T sf at_ gen ta tc (some ⟨b, off, none⟩) rc) := HO.out.below (by rw [HW.out]; exact HF.out.2.2.2)
      clear hy1 hy2
      go_region
      go_wp2_with fail
      go_roundw
      case rel => exact ⟨j + 1, hlt, by go_num, HF.out.drew, HO3.out.below (Below.refl _ _).drew⟩
      case measure => simp [intOf]; omega
    · have hji : ¬ (j : Int) < (n : Int) := by omega
      have hjk : j = n := by omega
      subst hjk
      obtain ⟨T', hT⟩ : ∃ T', tabK S j = T' := ⟨_, rfl⟩
      have HTE : Hid (tabK S j = T') := hT
      rw [hT] at HT1
      have hTl := HT1.out.2.2.1
      have HI2 : Hid ((Try.prog.info? 80).map (·.size) = some (jzC T').toArray.size ∧ (Try.prog.info? 80).map (·.size) = some (jzC T').length) := by
        have e : (jzC T').length = 16 := by rw [jzC_len]; exact hTl
        exact ⟨by rw [List.size_toArray, e]; exact infoTb, by rw [e]; exact infoTb⟩
      have HRg2 : Hid (wr.rangeAt (B + 1) 0 (jzC T')) := HT1.out.2.1.all
      have HTh : Hid (wr.there B 0 (jzC T').toArray.size) := by
        show wr.there _ _ _
        rw [List.size_toArray, jzC_len, hTl]
        exact HT1.out.1.there rfl
      have HP : Hid ((wr.setCells B 0 (jzC T')).rangeAt B 0 (jzC T')) := tb_puts HT1.out.1 rfl hTl
      have HBw : Hid (Below w.heap.size w (wr.setCells B 0 (jzC T'))) := by
        show Below _ _ _
        rw [HW.out]
        exact below_cells (Nat.le_refl _) _ _ _ HT1.out.2.2.2
      clear hlt hT hji
      go_wp2_with (first | refine wpList_load_mid rfl 80 _ rfl (B + 1) 0 rfl (jzC T') _ HRg2.out Try.underlying80 rfl HI2.out.2 ?_ | refine wpList_store_mid rfl 80 _ _ rfl B 0 (jzC T').toArray rfl rfl HTh.out HI2.out.1 (all_oneCell_toArray (jzC_one _)) ?_)
      exact bodyPost_ret (v := .agg (jzC T').toArray) (results_one Try.results45 _ _ B (jzC T') _ rfl HP.out Try.underlying80 rfl HI2.out.2) rfl ⟨by rw [HTE.out], HBw.out⟩
end Go.Proofs.Ytgffippimmokiaa
