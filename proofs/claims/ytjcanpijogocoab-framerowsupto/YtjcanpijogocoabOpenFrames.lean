/- An argument that is a list of frames, opened: what lies where. -/
import Derived.Test.YtjcanpijogocoabOpenFrame
import Derived.Test.YtjcanpijogocoabFrMem
namespace Go.Proofs.Ytjcanpijogocoab
open Go.ChangeShapes Go.WideShapes Go.ChangeAt Go.RowKit
set_option linter.unusedSimpArgs false
set_option linter.unusedVariables false

def frData {H : Type} (f : Fr) : DataW H := .agg [.lit (.int .i64 f.k), .lit (.string f.t)]
theorem open_fr {H : Type} {enc : TypeId × Value → H} {W : World} {base fuel : Nat} {sp : Nat → Bool} {a : Addr} {cs : List Value} {x : DataW H × List MemPlace}
    (hc : W.cells? base a (Try.prog.cellsOf 23) = some cs) (h : DataW.trod enc Try.prog W base sp true fuel 23 cs = some x) :
    ∃ f : Fr, x = (frData f, []) ∧ a.block < W.heap.size ∧ a.spot = none ∧ f.t.length ≤ maxLen ∧ W.cell? ⟨a.block, a.off, none⟩ = some (.int .i64 f.k) ∧ W.cell? ⟨a.block, a.off + 1, none⟩ = some (.string ⟨f.t.toArray⟩) := by
  obtain ⟨y0, y1, n, rfl, hl, h0, h1⟩ := trod_struct2 Try.underlying23 h
  simp only [Try.cellsFrame, Try.cellsInt, Try.cellsString] at hc hl h0 h1
  have hb := World.cells?_block hc (by omega)
  obtain ⟨_, _, hcell⟩ := World.cells?_some hc
  match cs, hl with
  | [c0, c1], _ =>
    simp only [List.drop_zero, List.drop_succ_cons, List.take_succ_cons, List.take_zero] at h0 h1
    obtain ⟨k, e0, rfl, wk⟩ := DataW.trod_int Try.underlying3 h0
    obtain ⟨s, e1, rfl, hs⟩ := DataW.trod_string Try.underlying9 h1
    simp only [List.cons.injEq, and_true] at e0 e1
    subst e0 e1
    have g0 := hcell 0 (by omega)
    have g1 := hcell 1 (by omega)
    obtain ⟨b, off, spot⟩ := a
    have hspot : spot = none := by simpa [Addr.add] using World.cell?_spot (w := W) (show W.cell? (Addr.add ⟨b, off, spot⟩ 0) = some (.int .i64 k) by simpa using g0)
    subst hspot
    refine ⟨⟨k, s.data.toList⟩, rfl, hb, rfl, ?_, ?_, ?_⟩
    · have h2 : s.data.toList.length = s.size := Array.length_toList
      rw [h2]; exact hs
    · simpa [Addr.add] using g0
    · rw [str_eq]; simpa [Addr.add] using g1
theorem open_frs {H : Type} {enc : TypeId × Value → H} {W : World} {base : Nat} {v : Value} {d : DataW H} {ps : List MemPlace}
    (hv : Value.okWide Try.prog W .any base 33 v) (h : DataW.Trod enc Try.prog W 0 (fun _ => true) true 33 v d ps) :
    ∃ (a : Option Addr) (l : List Fr) (cap : Nat), v = .slice a l.length cap ∧ FrsAt W W.heap.size a l ∧ (a = none → cap = 0) ∧ (∀ f ∈ l, f.t.length ≤ maxLen) ∧ ((d = .nil ∧ l = []) ∨ ∃ sp, d = .slice (l.map frData) sp) := by
  obtain ⟨a0, len, cap, rfl⟩ := okWide_slice Try.underlying33 hv
  obtain ⟨fuel, hf⟩ := h
  rcases Deep.open_slice Try.underlying33 (by simpa [Value.cells] using hf) with ⟨hcs, hx⟩ | ⟨a, len', cap', m, n, D, Pl, hcs, hb, hl, hm, hmm, hx, hel⟩
  · simp only [List.cons.injEq, Value.slice.injEq, and_true] at hcs
    obtain ⟨rfl, rfl, rfl⟩ := hcs
    simp only [Prod.mk.injEq] at hx
    exact ⟨none, [], 0, rfl, ⟨Nat.le_refl _, by simp⟩, fun _ => rfl, by simp, Or.inl ⟨hx.1, rfl⟩⟩
  · simp only [List.cons.injEq, Value.slice.injEq, and_true] at hcs
    obtain ⟨rfl, rfl, rfl⟩ := hcs
    simp only [Prod.mk.injEq] at hx
    have hlm : len ≤ m := by rw [hmm]; split <;> omega
    have inh : Inhabited Fr := ⟨⟨0, []⟩⟩
    obtain ⟨P, hP⟩ := Deep.choose_lt (n := len) (p := fun i (f : Fr) => D i = frData f ∧ (a.add (i * 2)).block < W.heap.size ∧ (a.add (i * 2)).spot = none ∧ f.t.length ≤ maxLen ∧
      W.cell? ⟨(a.add (i * 2)).block, (a.add (i * 2)).off, none⟩ = some (.int .i64 f.k) ∧ W.cell? ⟨(a.add (i * 2)).block, (a.add (i * 2)).off + 1, none⟩ = some (.string ⟨f.t.toArray⟩)) (fun i hi => by
        obtain ⟨cs, hc, ht⟩ := hel i (by omega)
        obtain ⟨f, e, rest⟩ := open_fr hc ht
        simp only [Try.cellsFrame] at rest
        simp only [Prod.mk.injEq] at e
        exact ⟨f, e.1, rest⟩)
    refine ⟨some a, (List.range len).map P, cap, by simp, ⟨Nat.le_refl _, ?_⟩, (fun h => by cases h), ?_, Or.inr ⟨_, by rw [hx.1, List.map_map]; congr 1; exact List.map_congr_left fun i hi => (hP i (by simpa using hi)).1⟩⟩
    · intro hne
      have h0 : 0 < len := by
        cases len with
        | zero => simp at hne
        | succ n => omega
      obtain ⟨_, hb0, hs0, _⟩ := hP 0 h0
      obtain ⟨b, off, spot⟩ := a
      have hspot : spot = none := by simpa [Addr.add] using hs0
      subst hspot
      refine ⟨b, off, rfl, by simpa [Addr.add] using hb0, fun i f hi => ?_⟩
      obtain ⟨hil, hif⟩ := List.getElem?_eq_some_iff.1 hi
      have hil' : i < len := by simpa using hil
      have hif' : P i = f := by simpa using hif
      obtain ⟨_, _, _, _, c0, c1⟩ := hP i hil'
      rw [hif'] at c0 c1
      rw [Addr.add_lit] at c0 c1
      exact ⟨c0, c1⟩
    · intro f hf2
      obtain ⟨i, hi, rfl⟩ := List.mem_map.1 hf2
      exact (hP i (by simpa using hi)).2.2.2.1
theorem frs_bulk {H : Type} {d : DataW H} {l : List Fr} (h : (d = .nil ∧ l = []) ∨ ∃ sp, d = .slice (l.map frData) sp) : l.length ≤ Rows.uptoBulk d := by
  rcases h with ⟨_, rfl⟩ | ⟨sp, rfl⟩
  · exact Nat.zero_le _
  · have key : ∀ l : List Fr, l.length ≤ Rows.uptoBulkAll (l.map (frData (H := H))) := by
      intro l
      induction l with
      | nil => exact Nat.zero_le _
      | cons f l ih =>
        have h1 : Rows.uptoBulk (frData (H := H) f) ≥ 1 := by unfold frData; simp only [Rows.uptoBulk]; omega
        rw [List.map_cons, List.length_cons]
        simp only [Rows.uptoBulkAll]
        omega
    have h2 := key l
    simp only [Rows.uptoBulk]
    omega
end Go.Proofs.Ytjcanpijogocoab
