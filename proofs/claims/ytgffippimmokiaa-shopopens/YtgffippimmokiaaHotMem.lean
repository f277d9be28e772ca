/- Revisions as cells, and a row of them that is the call's own. -/
import Derived.Test.YtgffippimmokiaaRevOne
import Derived.Test.YtgffippimmokiaaLogBox
import Derived.Test.YtgffippimmokiaaHotRdRev
import Derived.Test.YtgffippimmokiaaHotP
namespace Go.Proofs.Ytgffippimmokiaa
open Go.RowKit
set_option linter.unusedSimpArgs false
set_option linter.unusedVariables false

theorem infoRev : (Try.prog.info? 40).map (fun i => (i.zero, i.size, i.bytes)) = some (some (.agg #[.int .i64 0, .int .i64 0, .slice none 0 0]), 3, 40) := by kernel_rfl
/-- revisions, and where the delta of each lies -/
def rvOne (x : Rv × Option Addr × Nat) : List Value := [.int .i64 x.1.who, .int .i64 x.1.seq, .slice x.2.1 x.1.d.length x.2.2]
def rvAll : List (Rv × Option Addr × Nat) → List Value
  | [] => []
  | x :: l => rvOne x ++ rvAll l
theorem rvAll_length (l : List (Rv × Option Addr × Nat)) : (rvAll l).length = l.length * 3 := by
  induction l with
  | nil => rfl
  | cons x l ih => rw [rvAll, List.length_append, ih, List.length_cons]; simp only [rvOne, List.length_cons, List.length_nil]; omega
theorem rvAll_app (a b : List (Rv × Option Addr × Nat)) : rvAll (a ++ b) = rvAll a ++ rvAll b := by
  induction a with
  | nil => rfl
  | cons x a ih => rw [List.cons_append, rvAll, rvAll, ih, List.append_assoc]
theorem rvAll_one (l : List (Rv × Option Addr × Nat)) : ∀ u ∈ rvAll l, u.oneCell' = true := by
  induction l with
  | nil => intro u hu; simp [rvAll] at hu
  | cons x l ih =>
    intro u hu
    rw [rvAll, List.mem_append] at hu
    rcases hu with hu | hu
    · simp only [rvOne, List.mem_cons, List.not_mem_nil, or_false] at hu
      rcases hu with rfl | rfl | rfl <;> rfl
    · exact ih u hu
theorem rvAll_at {l : List (Rv × Option Addr × Nat)} {j : Nat} {x : Rv × Option Addr × Nat} (h : l[j]? = some x) :
    (rvAll l)[j * 3]? = some (.int .i64 x.1.who) ∧ (rvAll l)[j * 3 + 1]? = some (.int .i64 x.1.seq) ∧ (rvAll l)[j * 3 + 2]? = some (.slice x.2.1 x.1.d.length x.2.2) := by
  have hj := (List.getElem?_eq_some_iff.1 h).1
  have e : l = l.take j ++ x :: l.drop (j + 1) := by
    obtain ⟨h1, h2⟩ := List.getElem?_eq_some_iff.1 h
    rw [← h2, ← List.drop_eq_getElem_cons h1, List.take_append_drop]
  have hl : (rvAll (l.take j)).length = j * 3 := by rw [rvAll_length, List.length_take, Nat.min_eq_left (by omega)]
  rw [e, rvAll_app, rvAll]
  refine ⟨?_, ?_, ?_⟩
  · rw [List.getElem?_append_right (by omega), hl, Nat.sub_self]; rfl
  · rw [List.getElem?_append_right (by omega), hl, Nat.add_sub_cancel_left]; rfl
  · rw [List.getElem?_append_right (by omega), hl, Nat.add_sub_cancel_left]; rfl
/-- what is to be held of each -/
def RvsOk (w : World) (B : Nat) (xs : List (Rv × Option Addr × Nat)) : Prop := ∀ x ∈ xs, (wide x.1.who ∧ wide x.1.seq) ∧ PartsAt w B x.2.1 x.1.d ∧ Room x.2.1 x.1.d x.2.2
theorem revs_list {w : World} {B : Nat} {a : Option Addr} {l : List Rv} (h : RevsAt w B a l) : ∃ xs : List (Rv × Option Addr × Nat), xs.map (·.1) = l ∧ RvsOk w B xs ∧ ∀ ad, a = some ad → ∀ j u, (rvAll xs)[j]? = some u → w.cell? (ad.add j) = some u := by
  obtain ⟨xs, h1, h2⟩ : ∃ xs : List (Rv × Option Addr × Nat), xs.map (·.1) = l.take l.length ∧ ∀ (i : Nat) (x : Rv × Option Addr × Nat), xs[i]? = some x → ∃ b off, a = some ⟨b, off, none⟩ ∧ RvAt w B b (off + i * 3) x.1 x.2.1 x.2.2 := by
    have H : ∀ k, k ≤ l.length → ∃ xs : List (Rv × Option Addr × Nat), xs.map (·.1) = l.take k ∧ ∀ (i : Nat) (x : Rv × Option Addr × Nat), xs[i]? = some x → ∃ b off, a = some ⟨b, off, none⟩ ∧ RvAt w B b (off + i * 3) x.1 x.2.1 x.2.2 := by
      intro k
      induction k with
      | zero => intro _; exact ⟨[], by simp, by intro i x hx; simp at hx⟩
      | succ k ih =>
        intro hk
        obtain ⟨xs, h1, h2⟩ := ih (by omega)
        obtain ⟨r, hr⟩ : ∃ r, l[k]? = some r := ⟨l[k]'(by omega), List.getElem?_eq_getElem _⟩
        obtain ⟨b, off, ai, ci, ha, _, hv⟩ := h.mem hr
        have hlen : xs.length = k := by
          have := congrArg List.length h1
          rw [List.length_map, List.length_take] at this
          omega
        refine ⟨xs ++ [(r, ai, ci)], by rw [List.map_append, h1, List.take_add_one, hr]; rfl, fun i x hx => ?_⟩
        rcases Nat.lt_or_ge i xs.length with hi | hi
        · rw [List.getElem?_append_left hi] at hx
          exact h2 i x hx
        · rw [List.getElem?_append_right hi] at hx
          have hi0 : i - xs.length = 0 := by
            have := (List.getElem?_eq_some_iff.1 hx).1
            simpa using this
          rw [hi0] at hx
          obtain rfl : (r, ai, ci) = x := by simpa using hx
          exact ⟨b, off, ha, by rw [show i = k by omega]; exact hv⟩
    exact H l.length (Nat.le_refl _)
  rw [List.take_length] at h1
  refine ⟨xs, h1, fun x hx => ?_, fun ad had j u hu => ?_⟩
  · obtain ⟨i, hi⟩ := List.getElem?_of_mem hx
    obtain ⟨b, off, _, _, _, _, h5, h6⟩ := h2 i x hi
    exact ⟨h.2.2.1 x.1 (by rw [← h1]; exact List.mem_map_of_mem hx), h5, h6⟩
  · have hj := (List.getElem?_eq_some_iff.1 hu).1
    rw [rvAll_length] at hj
    obtain ⟨x, hx⟩ : ∃ x, xs[j / 3]? = some x := ⟨xs[j / 3]'(by omega), List.getElem?_eq_getElem _⟩
    obtain ⟨b, off, ha, c1, c2, c3, _, _⟩ := h2 _ x hx
    obtain ⟨d1, d2, d3⟩ := rvAll_at hx
    rw [had] at ha
    obtain rfl := Option.some.inj ha
    rw [Addr.add_lit]
    rcases (by omega : j = j / 3 * 3 ∨ j = j / 3 * 3 + 1 ∨ j = j / 3 * 3 + 2) with e | e | e
    · rw [← e] at c1 d1; rw [c1, ← hu, d1]
    · rw [Nat.add_assoc, ← e] at c2; rw [← e] at d2; rw [c2, ← hu, d2]
    · rw [Nat.add_assoc, ← e] at c3; rw [← e] at d3; rw [c3, ← hu, d3]
theorem RvsOk.below {w w' : World} {B B' : Nat} {xs : List (Rv × Option Addr × Nat)} (h : RvsOk w B xs) (hb : Below B' w w') (hB : B ≤ B') : RvsOk w' B xs :=
  fun x hx => ⟨(h x hx).1, (h x hx).2.1.below hb hB, (h x hx).2.2⟩
theorem RvsOk.wider {w : World} {B B' : Nat} {xs : List (Rv × Option Addr × Nat)} (h : RvsOk w B xs) (h1 : B ≤ B') (h2 : B' ≤ w.heap.size) : RvsOk w B' xs :=
  fun x hx => ⟨(h x hx).1, (h x hx).2.1.wider h1 h2, (h x hx).2.2⟩
theorem revs_own {w : World} {B : Nat} {v : Value} {xs : List (Rv × Option Addr × Nat)} (h : w.ownsRow B 40 3 v xs.length (rvAll xs)) (ho : RvsOk w w.heap.size xs) (hx : xs.length ≤ 1000000) :
    ∃ a c, v = .slice a xs.length c ∧ xs.length ≤ c ∧ RevsAt w w.heap.size a (xs.map (·.1)) := by
  rcases h.2 with ⟨rfl, h0⟩ | ⟨g, cap, cur, rfl, hB, hg, hn, hm, hc, ht⟩
  · have : xs = [] := List.length_eq_zero_iff.1 h0
    subst this
    exact ⟨none, 0, rfl, Nat.le_refl _, by simp, Nat.le_refl _, by simp, by simp⟩
  · refine ⟨some ⟨g, 0, none⟩, cap, rfl, hn, by rw [List.length_map]; omega, Nat.le_refl _, fun r hr => ?_, fun _ => ⟨g, 0, rfl, lt_of_heap hg, fun i r hi => ?_⟩⟩
    · obtain ⟨x, hx, rfl⟩ := List.mem_map.1 hr
      exact (ho x hx).1
    · rw [List.getElem?_map, Option.map_eq_some_iff] at hi
      obtain ⟨x, hxi, rfl⟩ := hi
      obtain ⟨c1, c2, c3⟩ := rvAll_at hxi
      have hil := (List.getElem?_eq_some_iff.1 hxi).1
      have h3 := ho x (List.mem_of_getElem? hxi)
      refine ⟨x.2.1, x.2.2, ?_, ?_, ?_, h3.2.1, h3.2.2⟩
      · rw [Nat.zero_add, h.cellAt _ (by omega)]; exact c1
      · rw [Nat.zero_add, h.cellAt _ (by omega)]; exact c2
      · rw [Nat.zero_add, h.cellAt _ (by omega)]; exact c3
end Go.Proofs.Ytgffippimmokiaa

/- A reader in a block of its own, and its revisions, which are the call's own. -/
namespace Go.Proofs.Ytgffippimmokiaa
open Go.RowKit
set_option linter.unusedSimpArgs false
set_option linter.unusedVariables false

theorem infoRd : (Try.prog.info? 172).map (·.size) = some 39 := by kernel_rfl
/-- a reader in a block of its own -/
def RdAt (w : World) (g : Nat) (L : List Value) : Prop := w.heap[g]? = some (.cells L.toArray 172 (0, 0))
theorem RdAt.lt {w : World} {g : Nat} {L : List Value} (h : RdAt w g L) : g < w.heap.size := lt_of_heap h
theorem RdAt.below {w w' : World} {B g : Nat} {L : List Value} (h : RdAt w g L) (hb : Below B w w') (hg : g < B) : RdAt w' g L := (hb.block g hg).trans h
theorem RdAt.cell {w : World} {g : Nat} {L : List Value} (h : RdAt w g L) {i : Nat} {v : Value} (hi : L[i]? = some v) : w.cell? ⟨g, i, none⟩ = some v := by
  have h2 := Lib.cell_of_heap h i
  rw [h2]
  simpa using hi
theorem RdAt.free {w : World} {g : Nat} {L : List Value} (h : RdAt w g L) (i : Nat) : w.frozen? ⟨g, i, none⟩ = false := Lib.frozen_of_heap h i
theorem RdAt.put {w : World} {g : Nat} {L : List Value} (h : RdAt w g L) (i : Nat) (v : Value) : RdAt (w.setCell ⟨g, i, none⟩ v) g (L.set i v) := by
  have h2 := heap_setCell_same w g i _ _ v h
  rw [List.setIfInBounds_toArray] at h2
  exact h2
theorem RdAt.range {w : World} {g : Nat} {L : List Value} (h : RdAt w g L) (a b c : List Value) (e : L = a ++ (b ++ c)) : w.rangeAt g a.length b := by
  intro j v hj
  have hl := (List.getElem?_eq_some_iff.1 hj).1
  refine h.cell ?_
  rw [e, List.getElem?_append_right (by omega), show a.length + j - a.length = j by omega, List.getElem?_append_left hl]
  exact hj
/-- the cells of a log as it is read -/
def sC (S : Lg) (v : Value) (gd : Int) : List Value := lgC S.gen S.base S.text S.first S.table v S.whole gd
/-- the cells of a reader -/
def rdC (S : Lg) (v : Value) (gd n : Int) : List Value := sC S v gd ++ [.int .i64 n]
theorem sC_len {S : Lg} {v : Value} {gd : Int} (hF : S.first.length = 16) (hT : S.table.length = 16) : (sC S v gd).length = 38 := lgC_len hF hT
theorem lgC_split {gen base : Int} {text : List UInt8} {F T : List Int} {rv : Value} {wh : Bool} {gd : Int} : lgC gen base text F T rv wh gd = (.int .i64 gen :: .int .i64 base :: .string ⟨text.toArray⟩ :: (jzC F ++ jzC T)) ++ [rv, .bool wh, .int .i64 gd] := by
  simp [lgC]
theorem lg_at {gen base : Int} {text : List UInt8} {F T : List Int} {rv : Value} {wh : Bool} {gd : Int} (hF : F.length = 16) (hT : T.length = 16) :
    (lgC gen base text F T rv wh gd)[35]? = some rv ∧ (lgC gen base text F T rv wh gd)[36]? = some (.bool wh) ∧ (lgC gen base text F T rv wh gd)[37]? = some (.int .i64 gd) ∧
    ∀ k q, T[k]? = some q → (lgC gen base text F T rv wh gd)[19 + k]? = some (.int .i64 q) := by
  have e : (Value.int .i64 gen :: .int .i64 base :: .string ⟨text.toArray⟩ :: (jzC F ++ jzC T)).length = 35 := by simp [jzC, hF, hT]
  refine ⟨?_, ?_, ?_, ?_⟩
  · rw [lgC_split, List.getElem?_append_right (by omega), e]; rfl
  · rw [lgC_split, List.getElem?_append_right (by omega), e]; rfl
  · rw [lgC_split, List.getElem?_append_right (by omega), e]; rfl
  · intro k q hk
    have hl := (List.getElem?_eq_some_iff.1 hk).1
    rw [lgC, show 19 + k = (16 + k) + 1 + 1 + 1 by omega]
    simp only [List.getElem?_cons_succ]
    rw [List.getElem?_append_right (by rw [jzC_len]; omega), jzC_len, hF, show 16 + k - 16 = k by omega, List.getElem?_append_left (by rw [jzC_len]; omega), jzC, List.getElem?_map, hk]
    rfl
theorem lg_set {gen base : Int} {text : List UInt8} {F T : List Int} {rv : Value} {wh : Bool} {gd : Int} (hF : F.length = 16) (hT : T.length = 16) (z : List Value) :
    (∀ u, (lgC gen base text F T rv wh gd ++ z).set 35 u = lgC gen base text F T u wh gd ++ z) ∧ (∀ b, (lgC gen base text F T rv wh gd ++ z).set 36 (.bool b) = lgC gen base text F T rv b gd ++ z) ∧ (∀ n, (lgC gen base text F T rv wh gd ++ z).set 37 (.int .i64 n) = lgC gen base text F T rv wh n ++ z) ∧
    ∀ k q, k < 16 → (lgC gen base text F T rv wh gd ++ z).set (19 + k) (.int .i64 q) = lgC gen base text F (T.set k q) rv wh gd ++ z := by
  have e : (Value.int .i64 gen :: .int .i64 base :: .string ⟨text.toArray⟩ :: (jzC F ++ jzC T)).length = 35 := by simp [jzC, hF, hT]
  refine ⟨?_, ?_, ?_, ?_⟩
  · intro u
    rw [lgC_split, lgC_split, List.append_assoc, List.set_append_right _ _ (by omega), e, List.append_assoc]; rfl
  · intro u
    rw [lgC_split, lgC_split, List.append_assoc, List.set_append_right _ _ (by omega), e, List.append_assoc]; rfl
  · intro u
    rw [lgC_split, lgC_split, List.append_assoc, List.set_append_right _ _ (by omega), e, List.append_assoc]; rfl
  · intro k q hk
    rw [lgC, lgC, show 19 + k = (16 + k) + 1 + 1 + 1 by omega]
    simp only [List.cons_append, List.set_cons_succ, List.append_assoc]
    rw [List.set_append_right _ _ (by rw [jzC_len]; omega), jzC_len, hF, show 16 + k - 16 = k by omega, List.set_append_left _ _ (by rw [jzC_len]; omega)]
    simp [jzC, List.map_set]
/-- a revision's delta is the call's own -/
def RzOwn (w : World) (B : Nat) (x : Rv × Option Addr × Nat) : Prop := oneE x.1 = 0 ∧ w.ownsRow B 138 3 (.slice x.2.1 x.1.d.length x.2.2) x.1.d.length (allCells x.1.d)
/-- a row of revisions of the call's own -/
def RzsOwn (w : World) (B : Nat) (v : Value) (xs : List (Rv × Option Addr × Nat)) : Prop := (∀ x ∈ xs, RzOwn w B x) ∧ w.ownsRow B 40 3 v xs.length (rvAll xs)
theorem rz_base {w : World} {B B' n size : Nat} {e : TypeId} {v : Value} {xs : List Value} (h : w.ownsRow B e size v n xs) (hB : B' ≤ B) : w.ownsRow B' e size v n xs := by
  rcases h.2 with ⟨h1, h2⟩ | ⟨g, cap', cur, h1, h2, h3⟩
  · exact ⟨h.1, .inl ⟨h1, h2⟩⟩
  · exact ⟨h.1, .inr ⟨g, cap', cur, h1, Nat.le_trans hB h2, h3⟩⟩
theorem RzOwn.below {w w' : World} {B : Nat} {x : Rv × Option Addr × Nat} (h : RzOwn w B x) (hb : Below w.heap.size w w') : RzOwn w' B x := ⟨h.1, own_stay h.2 hb⟩
theorem RzsOwn.below {w w' : World} {B : Nat} {v : Value} {xs : List (Rv × Option Addr × Nat)} (h : RzsOwn w B v xs) (hb : Below w.heap.size w w') : RzsOwn w' B v xs := ⟨fun x hx => (h.1 x hx).below hb, own_stay h.2 hb⟩
theorem RzOwn.put {w : World} {B : Nat} {x : Rv × Option Addr × Nat} {p : Addr} (h : RzOwn w B x) (hp : p.block < B) (u : Value) : RzOwn (w.setCell p u) B x := ⟨h.1, own_put h.2 hp u⟩
theorem RzsOwn.put {w : World} {B : Nat} {v : Value} {xs : List (Rv × Option Addr × Nat)} {p : Addr} (h : RzsOwn w B v xs) (hp : p.block < B) (u : Value) : RzsOwn (w.setCell p u) B v xs := ⟨fun x hx => (h.1 x hx).put hp u, own_put h.2 hp u⟩
theorem RzOwn.base {w : World} {B B' : Nat} {x : Rv × Option Addr × Nat} (h : RzOwn w B x) (hB : B' ≤ B) : RzOwn w B' x := ⟨h.1, rz_base h.2 hB⟩
theorem RzsOwn.base {w : World} {B B' : Nat} {v : Value} {xs : List (Rv × Option Addr × Nat)} (h : RzsOwn w B v xs) (hB : B' ≤ B) : RzsOwn w B' v xs := ⟨fun x hx => (h.1 x hx).base hB, rz_base h.2 hB⟩
theorem RzOwn.grown {w w' : World} {B B' n : Nat} {x : Rv × Option Addr × Nat} {v : Value} {cs : List Value} (h : RzOwn w B x) (hr : w.ownsRow B' 40 3 v n cs) (hg : w.grownBy w' v.ownBlock) : RzOwn w' B x :=
  ⟨h.1, h.2.kept hg (own_ne2' (rz_base h.2 (Nat.min_le_left B B')) (rz_base hr (Nat.min_le_right B B')) (by decide))⟩
theorem one_bound {r : Rv} (h : oneE r = 0) : Bound r.d := by
  obtain ⟨_, h0⟩ := one_zero h
  obtain ⟨h1, h2⟩ := sizes_zero h0
  have hR := sizes_right h0
  refine ⟨by have := h1.1; omega, fun p hp => ?_⟩
  have h3 := h1.2 p hp
  have h4 := (hR p hp).1
  obtain ⟨k1, k2⟩ := h3
  omega
/-- as they are read -/
theorem rzs_at {w : World} {B : Nat} {v : Value} {xs : List (Rv × Option Addr × Nat)} (h : RzsOwn w B v xs) (hx : xs.length ≤ 64) : ∃ a c, v = .slice a xs.length c ∧ xs.length ≤ c ∧ RevsAt w w.heap.size a (xs.map (·.1)) := by
  refine revs_own h.2 (fun x hxm => ?_) (by omega)
  obtain ⟨h1, h2⟩ := h.1 x hxm
  obtain ⟨⟨a1, a2, a3, a4⟩, _⟩ := one_zero h1
  obtain ⟨a, c, e, p1, p2⟩ := parts_ownC h2 (one_bound h1)
  simp only [Value.slice.injEq, true_and] at e
  obtain ⟨e1, e2⟩ := e
  rw [e1, e2]
  exact ⟨⟨⟨by omega, by omega⟩, ⟨by omega, by omega⟩⟩, p1, p2⟩
theorem rzs_nil (w : World) (B : Nat) : RzsOwn w B (.slice none 0 0) [] := ⟨fun x hx => by simp at hx, World.ownsRow_nil _ _ _ _⟩
theorem rzs_form {w : World} {B : Nat} {v : Value} {xs : List (Rv × Option Addr × Nat)} (h : RzsOwn w B v xs) : ∃ a c, v = .slice a xs.length c := slice_form' h.2
/-- the log as far as it was read, before what is good is counted -/
noncomputable def stepR (S : Lg) (n : Int) (f : Fr) : Option (Lg × Int) := (stepL S n f).map (fun x => ({ x.1 with good := S.good }, x.2))
/-- a reader as it stands -/
def RdIs (w : World) (g : Nat) (S : Lg) (gd n : Int) : Prop := ∃ v xs, RdAt w g (rdC S v gd n) ∧ RzsOwn w (g + 1) v xs ∧ xs.map (·.1) = S.revs
theorem RdIs.below {w w' : World} {g : Nat} {S : Lg} {gd n : Int} (h : RdIs w g S gd n) (hb : Below w.heap.size w w') : RdIs w' g S gd n := by
  obtain ⟨v, xs, h1, h2, h3⟩ := h
  exact ⟨v, xs, h1.below hb h1.lt, h2.below hb, h3⟩
theorem RdIs.lt {w : World} {g : Nat} {S : Lg} {gd n : Int} (h : RdIs w g S gd n) : g < w.heap.size := by
  obtain ⟨v, xs, h1, h2, h3⟩ := h
  exact h1.lt
/-- what taking a frame answers -/
def TookIs (S : Lg) (gd n : Int) (f : Fr) (g : Nat) (w : World) (e : Ending) (w' : World) : Prop :=
  ((∃ S' n', stepR S n f = some (S', n') ∧ e = .returned (.bool true) ∧ RdIs w' g S' gd n') ∨ (stepR S n f = none ∧ e = .returned (.bool false) ∧ RdIs w' g S gd n)) ∧ Below g w w'
theorem stepR_two {S : Lg} {n : Int} {l : List UInt8} : stepR S n ⟨2, l⟩ = match revG l with
    | some r => if nextE S.table S.base S.revs.length n r = 0 then some ({ S with table := tabPut S.table r.who r.seq (S.base + (S.revs.length + 1)), revs := S.revs ++ [r] }, outI r.d) else none
    | none => none := by
  unfold stepR stepL
  rw [if_pos (show (⟨2, l⟩ : Fr).k = 2 from rfl)]
  show Option.map _ (match revG l with | some r => _ | none => none) = _
  cases revG l with
  | none => rfl
  | some r =>
    simp only
    by_cases h : nextE S.table S.base S.revs.length n r = 0
    · rw [if_pos h, if_pos h]; rfl
    · rw [if_neg h, if_neg h]; rfl
theorem stepR_three {S : Lg} {n : Int} {l : List UInt8} : stepR S n ⟨3, l⟩ = if l = [] ∧ S.whole = false then some ({ S with whole := true }, n) else none := by
  unfold stepR stepL
  rw [if_neg (show ¬ (3 : Int) = 2 by decide)]
  show Option.map _ (if (3 : Int) = 3 ∧ l = [] ∧ S.whole = false then _ else none) = _
  by_cases h : l = [] ∧ S.whole = false
  · rw [if_pos ⟨rfl, h⟩, if_pos h]; rfl
  · rw [if_neg (fun e => h e.2), if_neg h]; rfl
theorem stepR_else {S : Lg} {n : Int} {f : Fr} (h2 : f.k ≠ 2) (h3 : f.k ≠ 3) : stepR S n f = none := by
  unfold stepR stepL
  rw [if_neg h2, if_neg (fun e => h3 e.1)]
  rfl
end Go.Proofs.Ytgffippimmokiaa
