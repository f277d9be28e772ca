/- What meet.put, meet.pass, meet.byteOf and meet.left answer. -/
import Derived.Test.YtcghojnmnmmpoaaPlcMem
import Derived.Deep.RegionLaw
import Derived.Deep.AppendLies
import Derived.Deep.DeepCutAuto
namespace Go.Proofs.Ytcghojnmnmmpoaa
open Go.RowKit
set_option linter.unusedSimpArgs false
set_option linter.unusedVariables false

abbrev zPlc (t : ByteArray) (c : Bool) : Obj := .cells #[.string t, .bool c] 214
abbrev zPt (k n : Int) (t : ByteArray) : Obj := .cells #[.int .i64 k, .int .i64 n, .string t] 45
set_option maxHeartbeats 400000 in
theorem mput_any (t : ByteArray) (c : Bool) (w : World) :
    Calls Try.prog 146 #[.agg #[.string t, .bool c]] w fun e w' => e = .returned (.agg #[.int .i64 2, .int .i64 0, .string t]) ∧ w' = (w.alloc (zPlc t c)).alloc (zPt 2 0 t) := by
  go_enter Try.func146, Try.ntmps146
  go_wp2
  exact bodyPost_ret (v := .agg #[.int .i64 2, .int .i64 0, .string t]) (by simp [results, Try.results146, go_sem]) rfl ⟨rfl, rfl⟩
set_option maxHeartbeats 400000 in
theorem mpass_any (t : ByteArray) (c : Bool) (w : World) (ht : t.size ≤ 500) :
    Calls Try.prog 147 #[.agg #[.string t, .bool c]] w fun e w' => e = .returned (.agg #[.int .i64 1, .int .i64 t.size, .string ⟨#[]⟩]) ∧ w' = (w.alloc (zPlc t c)).alloc (zPt 1 t.size ⟨#[]⟩) := by
  go_enter Try.func147, Try.ntmps147
  go_wp2
  exact bodyPost_ret (v := .agg #[.int .i64 1, .int .i64 t.size, .string ⟨#[]⟩]) (by simp [results, Try.results147, go_sem]) rfl ⟨rfl, rfl⟩
set_option maxHeartbeats 400000 in
theorem mbyte_any (t : ByteArray) (c : Bool) (w : World) :
    Calls Try.prog 148 #[.agg #[.string t, .bool c]] w fun e w' => e = .returned (.agg #[.int .i64 (if c = true then 3 else 1), .int .i64 1, .string ⟨#[]⟩]) ∧ w' = (w.alloc (zPlc t c)).alloc (zPt (if c = true then 3 else 1) 1 ⟨#[]⟩) := by
  cases c
  · go_enter Try.func148, Try.ntmps148
    go_wp2
    exact bodyPost_ret (v := .agg #[.int .i64 1, .int .i64 1, .string ⟨#[]⟩]) (by simp [results, Try.results148, go_sem]) rfl ⟨rfl, rfl⟩
  · go_enter Try.func148, Try.ntmps148
    go_wp2
    exact bodyPost_ret (v := .agg #[.int .i64 3, .int .i64 1, .string ⟨#[]⟩]) (by simp [results, Try.results148, go_sem]) rfl ⟨rfl, rfl⟩

/-- two rows of parts that are made side by side -/
structure LR (w : World) (B : Nat) (L R : List Pt) (lv rv : Value) : Prop where
  l : w.ownsRow B 45 3 lv L.length (allCells L)
  r : w.ownsRow B 45 3 rv R.length (allCells R)
  ne : ∀ g, lv.ownBlock = some g → rv.ownBlock ≠ some g
theorem LR.start (w : World) (B : Nat) : LR w B [] [] (.slice none 0 0) (.slice none 0 0) := ⟨World.ownsRow_nil _ _ _ _, World.ownsRow_nil _ _ _ _, fun g h => by simp [Value.ownBlock] at h⟩
theorem LR.alloc {w : World} {B : Nat} {L R : List Pt} {lv rv : Value} (h : LR w B L R lv rv) (o : Obj) : LR (w.alloc o) B L R lv rv := ⟨own_alloc h.l o, own_alloc h.r o, h.ne⟩
theorem LR.drew {w : World} {B : Nat} {L R : List Pt} {lv rv : Value} (h : LR w B L R lv rv) : LR w.drew B L R lv rv := ⟨h.l, h.r, h.ne⟩
theorem LR.swap {w : World} {B : Nat} {L R : List Pt} {lv rv : Value} (h : LR w B L R lv rv) : LR w B R L rv lv := ⟨h.r, h.l, fun g h1 h2 => h.ne g h2 h1⟩
theorem LR.addL {w w' : World} {B g m cap : Nat} {L R ps : List Pt} {lv rv : Value} {news : List Value} (h : LR w B L R lv rv) (hn : news = allCells ps) (hm : ps.length = m) (ho : w'.ownsRow B 45 3 (.slice (some ⟨g, 0, none⟩) (L.length + m) cap) (L.length + m) (allCells L ++ news))
    (hg : w.grownBy w' lv.ownBlock) {H : Nat} (hat : lv.ownBlock = some g ∨ g = H) (hH : w.heap.size = H) : LR w' B (L ++ ps) R (.slice (some ⟨g, 0, none⟩) (L.length + m) cap) rv := by
  subst hn hm hH
  refine ⟨?_, ?_, ?_⟩
  · rw [allCells_append, List.length_append]; exact ho
  · refine h.r.kept hg ?_
    cases hl : lv.ownBlock with
    | none =>
      cases hr : rv.ownBlock with
      | none => left; rfl
      | some x => right; simp
    | some x => right; exact h.ne x hl
  · intro x hx
    simp only [Value.ownBlock, Option.some.injEq] at hx
    subst hx
    rcases hat with h1 | h1
    · exact h.ne _ h1
    · intro h2
      have := (h.r.lt _ h2).2
      omega
theorem LR.addR {w w' : World} {B g m cap : Nat} {L R ps : List Pt} {lv rv : Value} {news : List Value} (h : LR w B L R lv rv) (hn : news = allCells ps) (hm : ps.length = m) (ho : w'.ownsRow B 45 3 (.slice (some ⟨g, 0, none⟩) (R.length + m) cap) (R.length + m) (allCells R ++ news))
    (hg : w.grownBy w' rv.ownBlock) {H : Nat} (hat : rv.ownBlock = some g ∨ g = H) (hH : w.heap.size = H) : LR w' B L (R ++ ps) lv (.slice (some ⟨g, 0, none⟩) (R.length + m) cap) := (h.swap.addL hn hm ho hg hat hH).swap
theorem alloc_fifth (w : World) (o1 o2 o3 o4 o5 : Obj) : (((((w.alloc o1).alloc o2).alloc o3).alloc o4).alloc o5).drew.heap[w.heap.size + 1 + 1 + 1 + 1]? = some o5 := by
  have h := heap_alloc_new ((((w.alloc o1).alloc o2).alloc o3).alloc o4) o5
  simp only [Deep.nblk_alloc] at h
  exact h
theorem alloc_third (w : World) (o1 o2 o3 : Obj) : (((w.alloc o1).alloc o2).alloc o3).heap[w.heap.size + 1 + 1]? = some o3 := by
  have h := heap_alloc_new ((w.alloc o1).alloc o2) o3
  simp only [Deep.nblk_alloc] at h
  exact h
theorem below_five {B : Nat} {w wr : World} (h : Below B w wr) (hz : B ≤ wr.heap.size) (o1 o2 o3 o4 o5 : Obj) : Below B w (((((wr.alloc o1).alloc o2).alloc o3).alloc o4).alloc o5).drew :=
  (((((h.alloc hz _).alloc (by simp only [Deep.nblk_alloc]; omega) _).alloc (by simp only [Deep.nblk_alloc]; omega) _).alloc (by simp only [Deep.nblk_alloc]; omega) _).alloc (by simp only [Deep.nblk_alloc]; omega) _).drew
theorem mbelow_three {B : Nat} {w wr : World} (h : Below B w wr) (hz : B ≤ wr.heap.size) (o1 o2 o3 : Obj) : Below B w (((wr.alloc o1).alloc o2).alloc o3) :=
  ((h.alloc hz _).alloc (by simp only [Deep.nblk_alloc]; omega) _).alloc (by simp only [Deep.nblk_alloc]; omega) _
theorem size_five (w : World) (o1 o2 o3 o4 o5 : Obj) : (((((w.alloc o1).alloc o2).alloc o3).alloc o4).alloc o5).drew.heap.size = w.heap.size + 5 := by
  show (((((w.alloc o1).alloc o2).alloc o3).alloc o4).alloc o5).heap.size = _
  simp only [Deep.nblk_alloc]
theorem size_three (w : World) (o1 o2 o3 : Obj) : (((w.alloc o1).alloc o2).alloc o3).heap.size = w.heap.size + 3 := by simp only [Deep.nblk_alloc]

end Go.Proofs.Ytcghojnmnmmpoaa
