/- A list of parts that came in: nil has no room; and how many there may be. -/
import Derived.Test.YtcghojnmnmmpoaaOpenRevs
import Derived.SizedLaws
namespace Go.Proofs.Ytcghojnmnmmpoaa
open Go.ChangeShapes Go.WideShapes Go.ChangeAt Go.RowKit
set_option linter.unusedSimpArgs false
set_option linter.unusedVariables false

theorem Try.bytesPart : Try.prog.bytesOf 45 = 32 := by kernel_rfl

theorem open_cap {H : Type} {enc : TypeId × Value → H} {W : World} {a : Option Addr} {n cap : Nat} {d : DataW H} {ps : List MemPlace}
    (h : DataW.Trod enc Try.prog W 0 (fun _ => true) true 25 (.slice a n cap) d ps) : a = none → cap = 0 := by
  obtain ⟨fuel, hf⟩ := h
  intro ha
  rcases Deep.open_slice Try.underlying25 (by simpa [Value.cells] using hf) with ⟨hcs, _⟩ | ⟨a', len', cap', m, n', D, Pl, hcs, _⟩
  · simp only [List.cons.injEq, Value.slice.injEq, and_true] at hcs
    exact hcs.2.2
  · simp only [List.cons.injEq, Value.slice.injEq, and_true] at hcs
    rw [ha] at hcs
    cases hcs.1

theorem sized_parts {H : Type} {ts : List TypeId} {ds : List (DataW H)} (hsz : (DataW.weightsEach Try.prog ts ds).all (· ≤ reachBytes) = true) {j : Nat} (ht : ts[j]? = some 25) {d : DataW H} (hd : ds[j]? = some d) {l : List Pt}
    (h : (d = .nil ∧ l = []) ∨ ∃ sp, d = .slice (l.map ptData) sp) : l.length * 32 ≤ 140737488351232 := by
  rcases h with ⟨_, rfl⟩ | ⟨sp, rfl⟩
  · decide
  · have h1 := sized_slice hsz ht hd Try.underlying25
    rw [Try.bytesPart, List.length_map] at h1
    unfold reachBytes at h1
    omega

theorem sized_str {H : Type} {ts : List TypeId} {ds : List (DataW H)} (hsz : (DataW.weightsEach Try.prog ts ds).all (· ≤ reachBytes) = true) {j : Nat} {t : TypeId} (ht : ts[j]? = some t) {s : ByteArray} (hd : ds[j]? = some (.lit (.string s.data.toList))) : s.size ≤ 140737488355328 := by
  have h1 := sized_string hsz ht hd
  have h2 : s.data.toList.length = s.size := Array.length_toList
  unfold reachBytes at h1
  omega

end Go.Proofs.Ytcghojnmnmmpoaa

/- A history that came in: how long it may be, and its deltas. -/
namespace Go.Proofs.Ytcghojnmnmmpoaa
open Go.ChangeShapes Go.WideShapes Go.ChangeAt Go.RowKit
set_option linter.unusedSimpArgs false
set_option linter.unusedVariables false

theorem Try.bytesRev : Try.prog.bytesOf 27 = 40 := by kernel_rfl
theorem weights_mem_all {H : Type} {P : Program} {e : TypeId} : ∀ {ds : List (DataW H)} {d : DataW H}, d ∈ ds → ∀ n ∈ d.weights P e, n ∈ DataW.weightsAll P e ds
  | [], _, h, _, _ => by simp at h
  | x :: r, d, h, n, hn => by
    simp only [DataW.weightsAll, List.mem_append]
    rcases List.mem_cons.1 h with rfl | h
    · exact Or.inl hn
    · exact Or.inr (weights_mem_all h n hn)
theorem delta_w {H : Type} {enc : TypeId × Value → H} {W : World} {base fuel n cap : Nat} {a : Option Addr} {sp : Nat → Bool} {x : DataW H × List MemPlace}
    (h : DataW.trod enc Try.prog W base sp true fuel 25 [.slice a n cap] = some x) : ∀ N, (∀ m ∈ x.1.weights Try.prog 25, m ≤ N) → n * 32 ≤ N := by
  intro N hN
  rcases Deep.open_slice Try.underlying25 h with ⟨hcs, _⟩ | ⟨a', len, cap', m, n', D, Pl, hcs, hb, hl, hm, hmm, hx, _⟩
  · simp only [List.cons.injEq, Value.slice.injEq, and_true] at hcs
    obtain ⟨_, rfl, _⟩ := hcs
    simp
  · simp only [List.cons.injEq, Value.slice.injEq, and_true] at hcs
    obtain ⟨_, rfl, _⟩ := hcs
    subst hx
    simp only [DataW.weights, Try.underlying25] at hN
    have h1 := hN _ (List.mem_cons_self ..)
    rw [Try.bytesPart, List.length_map] at h1
    have h2 : n * 32 ≤ (((List.range n).length) + ((List.range (m - n)).map fun j => D (n + j)).length) * 32 := Nat.mul_le_mul_right 32 (by rw [List.length_range]; omega)
    omega
set_option maxRecDepth 20000 in
theorem open_rev2 {H : Type} {enc : TypeId × Value → H} {W : World} {base fuel : Nat} {sp : Nat → Bool} {a : Addr} {cs : List Value} {x : DataW H × List MemPlace}
    (hc : W.cells? base a (Try.prog.cellsOf 27) = some cs) (h : DataW.trod enc Try.prog W base sp true fuel 27 cs = some x) :
    ∃ r : Rv, a.block < W.heap.size ∧ a.spot = none ∧ (wide r.who ∧ wide r.seq) ∧ (∃ ai ci, RvAt W W.heap.size a.block a.off r ai ci) ∧ ∀ N, (∀ m ∈ x.1.weights Try.prog 27, m ≤ N) → r.d.length * 32 ≤ N := by
  obtain ⟨y0, y1, y2, n, rfl, hl, h0, h1, h2⟩ := Deep.trod_struct3 Try.underlying27 h
  simp only [Try.cellsRev, Try.cellsInt, Try.cellsParts] at hc hl h0 h1 h2
  have hb := World.cells?_block hc (by omega)
  obtain ⟨_, _, hcell⟩ := World.cells?_some hc
  match cs, hl with
  | [c0, c1, c2], _ =>
    simp only [List.drop_zero, List.drop_succ_cons, List.take_succ_cons, List.take_zero] at h0 h1 h2
    obtain ⟨k, e0, rfl, wk⟩ := DataW.trod_int Try.underlying3 h0
    obtain ⟨m, e1, rfl, wm⟩ := DataW.trod_int Try.underlying3 h1
    obtain ⟨ai, l, ci, e2, hp, hr⟩ := open_delta h2
    simp only [List.cons.injEq, and_true] at e0 e1 e2
    subst e0 e1 e2
    have hw := delta_w h2
    have g0 := hcell 0 (by omega)
    have g1 := hcell 1 (by omega)
    have g2 := hcell 2 (by omega)
    obtain ⟨b, off, spot⟩ := a
    have hspot : spot = none := by simpa [Addr.add] using World.cell?_spot (w := W) (show W.cell? (Addr.add ⟨b, off, spot⟩ 0) = some (.int .i64 k) by simpa using g0)
    subst hspot
    refine ⟨⟨k, m, l⟩, hb, rfl, ⟨wf_bounds wk, wf_bounds wm⟩, ⟨ai, ci, ?_, ?_, ?_, hp, hr⟩, fun N hN => hw N fun m hm => hN m ?_⟩
    · simpa [Addr.add] using g0
    · simpa [Addr.add] using g1
    · simpa [Addr.add] using g2
    · simp only [DataW.weights, Try.underlying27]
      exact DataW.weights_mem_each (j := 2) rfl rfl m hm

set_option maxRecDepth 20000 in
theorem open_revs2 {H : Type} {enc : TypeId × Value → H} {W : World} {base : Nat} {v : Value} {d : DataW H} {ps : List MemPlace}
    (hv : Value.okWide Try.prog W .any base 22 v) (h : DataW.Trod enc Try.prog W 0 (fun _ => true) true 22 v d ps) :
    ∃ (a : Option Addr) (l : List Rv) (cap : Nat), v = .slice a l.length cap ∧ RevsAt W W.heap.size a l ∧ l.length ≤ cap ∧ ∀ N, (∀ m ∈ d.weights Try.prog 22, m ≤ N) → l.length * 40 ≤ N ∧ ∀ r ∈ l, r.d.length * 32 ≤ N := by
  obtain ⟨a0, len, cap, rfl⟩ := okWide_slice Try.underlying22 hv
  obtain ⟨fuel, hf⟩ := h
  rcases Deep.open_slice Try.underlying22 (by simpa [Value.cells] using hf) with ⟨hcs, hx⟩ | ⟨a, len', cap', m, n, D, Pl, hcs, hb, hl, hm, hmm, hx, hel⟩
  · simp only [List.cons.injEq, Value.slice.injEq, and_true] at hcs
    obtain ⟨rfl, rfl, rfl⟩ := hcs
    exact ⟨none, [], 0, rfl, ⟨by simp, Nat.le_refl _, by simp, by simp⟩, Nat.le_refl _, fun N _ => ⟨by simp, fun r hr => by simp at hr⟩⟩
  · simp only [List.cons.injEq, Value.slice.injEq, and_true] at hcs
    obtain ⟨rfl, rfl, rfl⟩ := hcs
    have hlm : len ≤ m := by rw [hmm]; split <;> omega
    have inh : Inhabited Rv := ⟨⟨0, 0, []⟩⟩
    obtain ⟨P, hP⟩ := Deep.choose_lt (n := len) (p := fun i (r : Rv) => (a.add (i * 3)).block < W.heap.size ∧ (a.add (i * 3)).spot = none ∧ (wide r.who ∧ wide r.seq) ∧ (∃ ai ci, RvAt W W.heap.size (a.add (i * 3)).block (a.add (i * 3)).off r ai ci) ∧ ∀ N, (∀ m ∈ (D i).weights Try.prog 27, m ≤ N) → r.d.length * 32 ≤ N) (fun i hi => by
        obtain ⟨cs', hc, ht⟩ := hel i (by omega)
        obtain ⟨r, rest⟩ := open_rev2 hc ht
        simp only [Try.cellsRev] at rest
        exact ⟨r, rest⟩)
    refine ⟨some a, (List.range len).map P, cap, by simp, ⟨by unfold maxLen at hm; simp; omega, Nat.le_refl _, ?_, ?_⟩, by simpa using hl, fun N hN => ?_⟩
    · intro r hr
      obtain ⟨i, hi, rfl⟩ := List.mem_map.1 hr
      exact (hP i (by simpa using hi)).2.2.1
    · intro hn
      have hpos : 0 < len := by
        rcases Nat.eq_zero_or_pos len with h0 | h0
        · subst h0; simp at hn
        · exact h0
      obtain ⟨b, off, spot⟩ := a
      have hspot : spot = none := by simpa [Addr.add] using (hP 0 hpos).2.1
      subst hspot
      have hbl : b < W.heap.size := by simpa [Addr.add] using (hP 0 hpos).1
      refine ⟨b, off, rfl, hbl, fun i r hi => ?_⟩
      obtain ⟨hil, hif⟩ := List.getElem?_eq_some_iff.1 hi
      have hil' : i < len := by simpa using hil
      have hif' : P i = r := by simpa using hif
      obtain ⟨_, _, _, ⟨ai, ci, hr⟩, _⟩ := hP i hil'
      rw [hif', Addr.add_lit] at hr
      exact ⟨ai, ci, hr⟩
    · simp only [Prod.mk.injEq] at hx
      obtain ⟨rfl, _⟩ := hx
      simp only [DataW.weights, Try.underlying22] at hN
      refine ⟨?_, fun r hr => ?_⟩
      · have h1 := hN _ (List.mem_cons_self ..)
        rw [Try.bytesRev, List.length_map] at h1
        have h2 : len * 40 ≤ (((List.range len).length) + ((List.range (m - len)).map fun j => D (len + j)).length) * 40 := Nat.mul_le_mul_right 40 (by rw [List.length_range]; omega)
        rw [List.length_map, List.length_range]
        omega
      · obtain ⟨i, hi, rfl⟩ := List.mem_map.1 hr
        refine (hP i (by simpa using hi)).2.2.2.2 N fun k hk => hN k (List.mem_cons_of_mem _ (List.mem_append_left _ (weights_mem_all (List.mem_map.2 ⟨i, hi, rfl⟩) k hk)))
theorem sized_revs {H : Type} {ts : List TypeId} {ds : List (DataW H)} (hsz : (DataW.weightsEach Try.prog ts ds).all (· ≤ reachBytes) = true) {j : Nat} (ht : ts[j]? = some 22) {d : DataW H} (hd : ds[j]? = some d) : ∀ m ∈ d.weights Try.prog 22, m ≤ 140737488351232 := by
  intro m hm
  have h := List.all_eq_true.1 hsz _ (DataW.weights_mem_each ht hd m hm)
  have h : m ≤ reachBytes := by simpa using h
  unfold reachBytes at h
  omega
end Go.Proofs.Ytcghojnmnmmpoaa
