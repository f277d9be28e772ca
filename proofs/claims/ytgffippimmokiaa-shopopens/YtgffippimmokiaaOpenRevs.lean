/- An argument that is a list of parts, opened: what lies where. -/
import Derived.Test.YtgffippimmokiaaPtOwn
import Derived.Test.YtgffippimmokiaaPure
import Derived.ProofKit
import Derived.Deep.Slices
import Derived.Deep.Strs
import Derived.OpenShut
namespace Go.Proofs.Ytgffippimmokiaa
open Go.ChangeShapes Go.WideShapes Go.ChangeAt Go.RowKit
set_option linter.unusedSimpArgs false
set_option linter.unusedVariables false

theorem Try.cellsPart : Try.prog.cellsOf 138 = 3 := by kernel_rfl
theorem Try.cellsInt : Try.prog.cellsOf 3 = 1 := by kernel_rfl
theorem Try.cellsString : Try.prog.cellsOf 9 = 1 := by kernel_rfl
theorem own : ownKnob Try.prog.godebug = none := by kernel_rfl
theorem laidOut : laidOutB Try.prog = true := by kernel_rfl

def ptData {H : Type} (p : Pt) : DataW H := .agg [.lit (.int .i64 p.k), .lit (.int .i64 p.n), .lit (.string p.t.data.toList)]

theorem wf_bounds {n : Int} (h : (Lit.int .i64 n).wf = true) : -9223372036854775808 ≤ n ∧ n ≤ 9223372036854775807 := by
  simpa [Lit.wf, IntKind.min, IntKind.max, IntKind.signed, IntKind.bits] using h

set_option maxRecDepth 20000 in
theorem open_part {H : Type} {enc : TypeId × Value → H} {W : World} {base fuel : Nat} {sp : Nat → Bool} {a : Addr} {cs : List Value} {x : DataW H × List MemPlace}
    (hc : W.cells? base a (Try.prog.cellsOf 138) = some cs) (h : DataW.trod enc Try.prog W base sp true fuel 138 cs = some x) :
    ∃ p : Pt, x = (ptData p, []) ∧ a.block < W.heap.size ∧ a.spot = none ∧ p.t.size ≤ 9223372036854775807 ∧ (-9223372036854775808 ≤ p.n ∧ p.n ≤ 9223372036854775807) ∧ (-9223372036854775808 ≤ p.k ∧ p.k ≤ 9223372036854775807) ∧
      W.cell? ⟨a.block, a.off, none⟩ = some (.int .i64 p.k) ∧ W.cell? ⟨a.block, a.off + 1, none⟩ = some (.int .i64 p.n) ∧ W.cell? ⟨a.block, a.off + 2, none⟩ = some (.string p.t) := by
  obtain ⟨y0, y1, y2, n, rfl, hl, h0, h1, h2⟩ := Deep.trod_struct3 Try.underlying138 h
  simp only [Try.cellsPart, Try.cellsInt, Try.cellsString] at hc hl h0 h1 h2
  have hb := World.cells?_block hc (by omega)
  obtain ⟨_, _, hcell⟩ := World.cells?_some hc
  match cs, hl with
  | [c0, c1, c2], _ =>
    simp only [List.drop_zero, List.drop_succ_cons, List.take_succ_cons, List.take_zero] at h0 h1 h2
    obtain ⟨k, e0, rfl, wk⟩ := DataW.trod_int Try.underlying3 h0
    obtain ⟨m, e1, rfl, wm⟩ := DataW.trod_int Try.underlying3 h1
    obtain ⟨s, e2, rfl, hs⟩ := DataW.trod_string Try.underlying9 h2
    simp only [List.cons.injEq, and_true] at e0 e1 e2
    subst e0 e1 e2
    have g0 := hcell 0 (by omega)
    have g1 := hcell 1 (by omega)
    have g2 := hcell 2 (by omega)
    obtain ⟨b, off, spot⟩ := a
    have hspot : spot = none := by simpa [Addr.add] using World.cell?_spot (w := W) (show W.cell? (Addr.add ⟨b, off, spot⟩ 0) = some (.int .i64 k) by simpa using g0)
    subst hspot
    refine ⟨⟨k, m, s⟩, rfl, hb, rfl, by simpa [maxLen] using hs, wf_bounds wm, wf_bounds wk, ?_, ?_, ?_⟩
    · simpa [Addr.add] using g0
    · simpa [Addr.add] using g1
    · simpa [Addr.add] using g2

set_option maxRecDepth 20000 in
theorem open_parts {H : Type} {enc : TypeId × Value → H} {W : World} {base : Nat} {v : Value} {d : DataW H} {ps : List MemPlace}
    (hv : Value.okWide Try.prog W .any base 38 v) (h : DataW.Trod enc Try.prog W 0 (fun _ => true) true 38 v d ps) :
    ∃ (a : Option Addr) (l : List Pt) (cap : Nat), v = .slice a l.length cap ∧ PartsAt W W.heap.size a l ∧ ((d = .nil ∧ l = []) ∨ ∃ sp, d = .slice (l.map ptData) sp) := by
  obtain ⟨a0, len, cap, rfl⟩ := okWide_slice Try.underlying38 hv
  obtain ⟨fuel, hf⟩ := h
  rcases Deep.open_slice Try.underlying38 (by simpa [Value.cells] using hf) with ⟨hcs, hx⟩ | ⟨a, len', cap', m, n, D, Pl, hcs, hb, hl, hm, hmm, hx, hel⟩
  · simp only [List.cons.injEq, Value.slice.injEq, and_true] at hcs
    obtain ⟨rfl, rfl, rfl⟩ := hcs
    simp only [Prod.mk.injEq] at hx
    exact ⟨none, [], 0, rfl, ⟨by simp, Nat.le_refl _, by simp, by simp⟩, Or.inl ⟨hx.1, rfl⟩⟩
  · simp only [List.cons.injEq, Value.slice.injEq, and_true] at hcs
    obtain ⟨rfl, rfl, rfl⟩ := hcs
    simp only [Prod.mk.injEq] at hx
    have hlm : len ≤ m := by rw [hmm]; split <;> omega
    have inh : Inhabited Pt := ⟨⟨0, 0, ByteArray.empty⟩⟩
    obtain ⟨P, hP⟩ := Deep.choose_lt (n := len) (p := fun i (p : Pt) => D i = ptData p ∧ (a.add (i * 3)).block < W.heap.size ∧ (a.add (i * 3)).spot = none ∧ p.t.size ≤ 9223372036854775807 ∧ (-9223372036854775808 ≤ p.n ∧ p.n ≤ 9223372036854775807) ∧ (-9223372036854775808 ≤ p.k ∧ p.k ≤ 9223372036854775807) ∧
      W.cell? ⟨(a.add (i * 3)).block, (a.add (i * 3)).off, none⟩ = some (.int .i64 p.k) ∧ W.cell? ⟨(a.add (i * 3)).block, (a.add (i * 3)).off + 1, none⟩ = some (.int .i64 p.n) ∧ W.cell? ⟨(a.add (i * 3)).block, (a.add (i * 3)).off + 2, none⟩ = some (.string p.t)) (fun i hi => by
        obtain ⟨cs, hc, ht⟩ := hel i (by omega)
        obtain ⟨p, e, rest⟩ := open_part hc ht
        simp only [Try.cellsPart] at rest
        simp only [Prod.mk.injEq] at e
        exact ⟨p, e.1, rest⟩)
    refine ⟨some a, (List.range len).map P, cap, by simp, ⟨by unfold maxLen at hm; simp; omega, Nat.le_refl _, ?_, ?_⟩, Or.inr ⟨_, by rw [hx.1, List.map_map]; congr 1; exact List.map_congr_left fun i hi => (hP i (by simpa using hi)).1⟩⟩
    · intro p hp
      obtain ⟨i, hi, rfl⟩ := List.mem_map.1 hp
      obtain ⟨_, _, _, h1, h2, h3, _⟩ := hP i (by simpa using hi)
      exact ⟨h1, h2.1, h2.2, h3.1, h3.2⟩
    · intro hn
      have hpos : 0 < len := by
        rcases Nat.eq_zero_or_pos len with h0 | h0
        · subst h0; simp at hn
        · exact h0
      obtain ⟨b, off, spot⟩ := a
      have hspot : spot = none := by simpa [Addr.add] using (hP 0 hpos).2.2.1
      subst hspot
      have hbl : b < W.heap.size := by simpa [Addr.add] using (hP 0 hpos).2.1
      refine ⟨b, off, rfl, hbl, fun i p hi => ?_⟩
      have hil : i < len := by
        rcases Nat.lt_or_ge i len with h | h
        · exact h
        · simp [List.getElem?_eq_none (show ((List.range len).map P).length ≤ i by simpa using h)] at hi
      obtain ⟨_, _, _, _, _, _, c1, c2, c3⟩ := hP i hil
      rw [add_plain] at c1 c2 c3
      simp [hil] at hi
      subst hi
      exact ⟨c1, c2, c3⟩

end Go.Proofs.Ytgffippimmokiaa

