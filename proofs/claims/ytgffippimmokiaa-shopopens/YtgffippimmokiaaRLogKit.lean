/- The document's own Log: a log in a block of its own that grows, frames that are cut at the front. -/
import Derived.Test.YtgffippimmokiaaHotRead
import Derived.Test.YtgffippimmokiaaRFrames
import Derived.Test.YtgffippimmokiaaRDecode
import Derived.Test.YtgffippimmokiaaPlDo
import Derived.Test.YtgffippimmokiaaRevL
namespace Go.Proofs.Ytgffippimmokiaa
open Go.RowKit
set_option linter.unusedSimpArgs false
set_option linter.unusedVariables false

theorem s_set {S : Lg} {v : Value} {gd : Int} (hF : S.first.length = 16) (hT : S.table.length = 16) :
    (∀ u, (sC S v gd).set 35 u = sC S u gd) ∧ (∀ b, (sC S v gd).set 36 (.bool b) = sC { S with whole := b } v gd) ∧ (∀ n, (sC S v gd).set 37 (.int .i64 n) = sC S v n) ∧
    ∀ k q, k < 16 → (sC S v gd).set (19 + k) (.int .i64 q) = sC { S with table := S.table.set k q } v gd := by
  have h := lg_set (gen := S.gen) (base := S.base) (text := S.text) (F := S.first) (T := S.table) (rv := v) (wh := S.whole) (gd := gd) hF hT []
  simp only [List.append_nil] at h
  exact h
/-- a log as it stands -/
def LgIs (w : World) (g : Nat) (S : Lg) (gd : Int) (va : Option Addr) (vc : Nat) (xs : List (Rv × Option Addr × Nat)) : Prop := LgAt w g (sC S (.slice va xs.length vc) gd) ∧ RzsOwn w (g + 1) (.slice va xs.length vc) xs ∧ xs.map (·.1) = S.revs
theorem LgIs.below {w w' : World} {g : Nat} {S : Lg} {gd : Int} {va : Option Addr} {vc : Nat} {xs : List (Rv × Option Addr × Nat)} (h : LgIs w g S gd va vc xs) (hb : Below w.heap.size w w') : LgIs w' g S gd va vc xs :=
  ⟨h.1.below hb h.1.lt, h.2.1.below hb, h.2.2⟩
theorem LgIs.lt {w : World} {g : Nat} {S : Lg} {gd : Int} {va : Option Addr} {vc : Nat} {xs : List (Rv × Option Addr × Nat)} (h : LgIs w g S gd va vc xs) : g < w.heap.size := h.1.lt
theorem LgIs.len {w : World} {g : Nat} {S : Lg} {gd : Int} {va : Option Addr} {vc : Nat} {xs : List (Rv × Option Addr × Nat)} (h : LgIs w g S gd va vc xs) : xs.length = S.revs.length := by rw [← h.2.2, List.length_map]
theorem LgIs.cells {w : World} {g : Nat} {S : Lg} {gd : Int} {va : Option Addr} {vc : Nat} {xs : List (Rv × Option Addr × Nat)} (h : LgIs w g S gd va vc xs) (hF : S.first.length = 16) (hT : S.table.length = 16) :
    (w.cell? ⟨g, 1, none⟩ = some (.int .i64 S.base) ∧ w.cell? ⟨g, 35, none⟩ = some (.slice va xs.length vc) ∧ w.cell? ⟨g, 36, none⟩ = some (.bool S.whole) ∧ w.cell? ⟨g, 37, none⟩ = some (.int .i64 gd)) ∧
    (w.frozen? ⟨g, 35, none⟩ = false ∧ w.frozen? ⟨g, 36, none⟩ = false ∧ w.frozen? ⟨g, 37, none⟩ = false) := by
  obtain ⟨l35, l36, l37, _⟩ := lg_at (gen := S.gen) (base := S.base) (text := S.text) (F := S.first) (T := S.table) (rv := .slice va xs.length vc) (wh := S.whole) (gd := gd) hF hT
  exact ⟨⟨h.1.cell rfl, h.1.cell l35, h.1.cell l36, h.1.cell l37⟩, h.1.free 35, h.1.free 36, h.1.free 37⟩
/-- it is whole, and good as far as m -/
theorem LgIs.whole {w : World} {g : Nat} {S : Lg} {gd : Int} {va : Option Addr} {vc : Nat} {xs : List (Rv × Option Addr × Nat)} (h : LgIs w g S gd va vc xs) (hF : S.first.length = 16) (hT : S.table.length = 16) (m : Int) :
    LgIs ((w.setCell ⟨g, 36, none⟩ (.bool true)).setCell ⟨g, 37, none⟩ (.int .i64 m)) g { S with whole := true } m va vc xs := by
  have e := (h.1.put 36 (.bool true)).put 37 (.int .i64 m)
  rw [(s_set hF hT).2.1 true, (s_set (S := { S with whole := true }) hF hT).2.2.1 m] at e
  exact ⟨e, (h.2.1.put (p := ⟨g, 36, none⟩) (Nat.lt_succ_self g) _).put (p := ⟨g, 37, none⟩) (Nat.lt_succ_self g) _, h.2.2⟩
theorem LgIs.good {w : World} {g : Nat} {S : Lg} {gd : Int} {va : Option Addr} {vc : Nat} {xs : List (Rv × Option Addr × Nat)} (h : LgIs w g S gd va vc xs) (hF : S.first.length = 16) (hT : S.table.length = 16) (m : Int) :
    LgIs (w.setCell ⟨g, 37, none⟩ (.int .i64 m)) g S m va vc xs := by
  have e := h.1.put 37 (.int .i64 m)
  rw [(s_set hF hT).2.2.1 m] at e
  exact ⟨e, h.2.1.put (p := ⟨g, 37, none⟩) (Nat.lt_succ_self g) _, h.2.2⟩
theorem lg_stands {w w' : World} {row : Option Nat} {k : Nat} {o : Obj} (hg : w.grownBy w' row) (hk : w.heap[k]? = some o) (hr : row ≠ some k) : w'.heap[k]? = some o := by
  obtain ⟨hl, _⟩ := Array.getElem?_eq_some_iff.1 hk
  exact (hg.block k hl (fun e => hr e.symm)).trans hk
theorem lg_grown {w3 w4 : World} {g h : Nat} {S : Lg} {v : Value} {bo : Option Addr} {cap : Nat} {gd : Int} {r : Rv} {a : Option Addr} {c : Nat} {xs : List (Rv × Option Addr × Nat)} (hF : S.first.length = 16) (hT : S.table.length = 16)
    (hd : LgAt w3 g (sC S v gd)) (hx : RBox w3 h r a c) (hz : RzsOwn w3 (g + 1) v xs) (ho : RzOwn w3 (g + 1) (r, a, c)) (hne : v.ownBlock ≠ some h) (hgh : g < h)
    (hown : w4.ownsRow (g + 1) 40 3 (.slice bo (xs.length + 1) cap) (xs.length + 1) (rvAll xs ++ [.int .i64 r.who, .int .i64 r.seq, .slice a r.d.length c]))
    (hg : (w3.alloc (.cells #[.int .i64 r.who, .int .i64 r.seq, .slice a r.d.length c] 40)).grownBy w4 v.ownBlock) :
    LgAt (w4.setCell ⟨g, 35, none⟩ (.slice bo (xs.length + 1) cap)) g (sC S (.slice bo (xs.length + 1) cap) gd) ∧ RBox (w4.setCell ⟨g, 35, none⟩ (.slice bo (xs.length + 1) cap)) h r a c ∧
    RzsOwn (w4.setCell ⟨g, 35, none⟩ (.slice bo (xs.length + 1) cap)) (g + 1) (.slice bo (xs.length + 1) cap) (xs ++ [(r, a, c)]) ∧ Below g w3 (w4.setCell ⟨g, 35, none⟩ (.slice bo (xs.length + 1) cap)) := by
  have hbW : Below w3.heap.size w3 (w3.alloc (.cells #[.int .i64 r.who, .int .i64 r.seq, .slice a r.d.length c] 40)) := (Below.refl _ w3).alloc (Nat.le_refl _) _
  have hzW := hz.below hbW
  have hoW := ho.below hbW
  have hdW := hd.below hbW hd.lt
  have hneg : v.ownBlock ≠ some g := by
    intro e
    have := (hz.2.lt g e).1
    omega
  have hd4 : LgAt w4 g (sC S v gd) := lg_stands hg hdW hneg
  have hd5 := hd4.put 35 (.slice bo (xs.length + 1) cap)
  rw [(s_set hF hT).1] at hd5
  obtain ⟨x0, x1, x2, x3⟩ := hx.below hbW
  have hgl := hdW.lt
  have o5 := heap_setCell_other w4 ⟨g, 35, none⟩ h (.slice bo (xs.length + 1) cap) (by show h ≠ g; omega)
  have far : ∀ i, w4.cell? ⟨h, i, none⟩ = (w3.alloc (.cells #[.int .i64 r.who, .int .i64 r.seq, .slice a r.d.length c] 40)).cell? ⟨h, i, none⟩ := fun i => hg.cell_far ⟨h, i, none⟩ x3 (Ne.symm hne)
  have hsz : (w3.alloc (.cells #[.int .i64 r.who, .int .i64 r.seq, .slice a r.d.length c] 40)).heap.size ≤ w4.heap.size := hg.size
  refine ⟨hd5, ⟨?_, ?_, ?_, ?_⟩, ⟨?_, ?_⟩, ?_⟩
  · rw [World.cell?_of_block o5, far]; exact x0
  · rw [World.cell?_of_block o5, far]; exact x1
  · rw [World.cell?_of_block o5, far]; exact x2
  · have h7 : (w4.setCell ⟨g, 35, none⟩ (.slice bo (xs.length + 1) cap)).heap.size = w4.heap.size := Deep.nblk_setCell _ _ _
    omega
  · intro x hx
    rcases List.mem_append.1 hx with hx | hx
    · exact ((hzW.1 x hx).grown hzW.2 hg).put (Nat.lt_succ_self g) _
    · rw [List.mem_singleton.1 hx]
      exact (hoW.grown hzW.2 hg).put (Nat.lt_succ_self g) _
  · have h := own_put hown (p := ⟨g, 35, none⟩) (Nat.lt_succ_self g) (.slice bo (xs.length + 1) cap)
    have e2 : rvAll (xs ++ [(r, a, c)]) = rvAll xs ++ [.int .i64 r.who, .int .i64 r.seq, .slice a r.d.length c] := by rw [rvAll_app]; rfl
    rw [e2, List.length_append, List.length_singleton]
    exact h
  · exact (below_own' (hbW.mono (Nat.le_of_lt hd.lt)) (rz_base hzW.2 (Nat.le_succ g)) hg (by omega)).setCell (p := ⟨g, 35, none⟩) (Nat.le_refl _) _
theorem fbox_grown {w3 w4 : World} {g h i : Nat} {k : Int} {t : ByteArray} {v u : Value} {o : Obj} (hx : FBox w3 h k t) (hne : v.ownBlock ≠ some h) (hgh : g < h) (hg : (w3.alloc o).grownBy w4 v.ownBlock) : FBox (w4.setCell ⟨g, i, none⟩ u) h k t := by
  obtain ⟨x0, x1, x3⟩ := hx.below ((Below.refl _ w3).alloc (Nat.le_refl _) o)
  have o5 := heap_setCell_other w4 ⟨g, i, none⟩ h u (by show h ≠ g; omega)
  have far : ∀ i, w4.cell? ⟨h, i, none⟩ = (w3.alloc o).cell? ⟨h, i, none⟩ := fun i => hg.cell_far ⟨h, i, none⟩ x3 (Ne.symm hne)
  have h7 : (w4.setCell ⟨g, i, none⟩ u).heap.size = w4.heap.size := Deep.nblk_setCell _ _ _
  have h8 := hg.size
  exact ⟨by rw [World.cell?_of_block o5, far]; exact x0, by rw [World.cell?_of_block o5, far]; exact x1, by omega⟩
/-- the table's entry, and what is good -/
theorem lg_tabbed {w : World} {g k : Nat} {S : Lg} {v : Value} {gd m t : Int} {r : Rv} (hF : S.first.length = 16) (hT : S.table.length = 16) (hd : LgAt w g (sC S v gd)) (hk : r.who = (k : Int)) (hk7 : k ≤ 7) (l : List Rv) :
    LgAt (((w.setCell ⟨g, 19 + k * 2, none⟩ (.int .i64 r.seq)).setCell ⟨g, 19 + k * 2 + 1, none⟩ (.int .i64 m)).setCell ⟨g, 37, none⟩ (.int .i64 t)) g (sC { S with table := tabPut S.table r.who r.seq m, revs := l } v t) := by
  have h1 := ((hd.put (19 + k * 2) (.int .i64 r.seq)).put (19 + k * 2 + 1) (.int .i64 m)).put 37 (.int .i64 t)
  have e3 : tabPut S.table r.who r.seq m = (S.table.set (k * 2) r.seq).set (k * 2 + 1) m := by rw [tabPut, hk, Int.toNat_natCast, Nat.mul_comm 2 k]
  rw [(s_set hF hT).2.2.2 (k * 2) r.seq (by omega), Nat.add_assoc 19, (s_set (S := { S with table := S.table.set (k * 2) r.seq }) hF (by rw [List.length_set]; exact hT)).2.2.2 (k * 2 + 1) m (by omega), (s_set (S := { S with table := (S.table.set (k * 2) r.seq).set (k * 2 + 1) m }) hF (by simp only [List.length_set]; exact hT)).2.2.1 t] at h1
  rw [e3, Nat.add_assoc 19]
  exact h1
theorem RzsOwn.three {w : World} {B : Nat} {v : Value} {xs : List (Rv × Option Addr × Nat)} {p q r : Addr} (h : RzsOwn w B v xs) (hp : p.block < B) (hq : q.block < B) (hr : r.block < B) (x y z : Value) : RzsOwn (((w.setCell p x).setCell q y).setCell r z) B v xs :=
  ((h.put hp x).put hq y).put hr z
theorem FrsAt.drop {w : World} {B : Nat} {a : Option Addr} {l : List Fr} (h : FrsAt w B a l) (k c : Nat) (hc : l.length ≤ c) : FrsAt w B (if c = k then a else a.map (·.add (k * 2))) (l.drop k) := by
  obtain ⟨h1, h2⟩ := h
  refine ⟨h1, fun hn => ?_⟩
  have hkl : k < l.length := by
    rcases Nat.lt_or_ge k l.length with h | h
    · exact h
    · exact absurd (List.drop_eq_nil_of_le h) hn
  obtain ⟨b, off, ha, hlt, hcell⟩ := h2 (fun e => by subst e; simp at hn)
  subst ha
  refine ⟨b, off + k * 2, by rw [if_neg (by omega)]; simp [Addr.add], hlt, fun i r hi => ?_⟩
  rw [List.getElem?_drop] at hi
  obtain ⟨c1, c2⟩ := hcell (k + i) r hi
  rw [show off + k * 2 + i * 2 = off + (k + i) * 2 by omega]
  exact ⟨c1, c2⟩
theorem Try.sizeFr : ∀ w : World, (sizeOf (Try.prog.elem 119)).run Try.prog w = .ok 2 w := fun w => by kernel_rfl
theorem elemFr : Try.prog.underlying 119 = some (.slice (Try.prog.elem 119)) := by kernel_rfl
/-- l[1:] of frames -/
theorem frun_from {w : World} {B : Nat} {a : Option Addr} {l : List Fr} (h : FrsAt w B a l) {c : Nat} (hc : l.length ≤ c) (hk : 1 ≤ l.length) :
    ∃ l2 a2, l2 = l.drop 1 ∧ l2.length = l.length - 1 ∧ FrsAt w B a2 l2 ∧ ∀ w' : World, (Instr.slice 119 (.slice a l.length c) (some (.int .i64 1)) none none).run Try.prog w' = .ok (.slice a2 l2.length (c - 1)) w' := by
  refine ⟨_, _, rfl, by rw [List.length_drop], h.drop 1 c hc, fun w' => ?_⟩
  rw [run_slice_l w' 119 a l.length c elemFr .i64 1 (by omega) (by omega), Try.sizeFr]
  simp only [Result.andThen, sliced]
  rw [List.length_drop]
  rfl
theorem frs_ownC {w : World} {B : Nat} {v : Value} {l : List Fr} (h : w.ownsRow B 149 2 v l.length (frAll l)) : ∃ a cap, v = .slice a l.length cap ∧ l.length ≤ cap ∧ FrsAt w w.heap.size a l := by
  obtain ⟨a, cap, e, hf⟩ := frs_own h
  refine ⟨a, cap, e, ?_, hf⟩
  rcases h.2 with ⟨e2, h0⟩ | ⟨g, cap', cur, e2, hB, hg, hn, _⟩
  · rw [h0]; exact Nat.zero_le _
  · rw [e] at e2
    cases e2
    exact hn
/-! A frame more, by its kind. -/
theorem step_two {S : Lg} {n : Int} {t : List UInt8} {r : Rv} (h : revG t = some r) : stepL S n ⟨2, t⟩ = if nextE S.table S.base S.revs.length n r = 0 then some ({ S with table := tabPut S.table r.who r.seq (S.base + (S.revs.length + 1)), revs := S.revs ++ [r], good := S.good + (t.length + 7) }, outI r.d) else none := by
  unfold stepL
  rw [if_pos (show (⟨2, t⟩ : Fr).k = 2 from rfl)]
  simp only [h]
theorem step_two_not {S : Lg} {n : Int} {t : List UInt8} (h : revG t = none) : stepL S n ⟨2, t⟩ = none := by
  unfold stepL
  rw [if_pos (show (⟨2, t⟩ : Fr).k = 2 from rfl)]
  simp only [h]
theorem step_three {S : Lg} {n : Int} (h : S.whole = false) : stepL S n ⟨3, []⟩ = some ({ S with whole := true, good := S.good + 7 }, n) := by
  unfold stepL
  rw [if_neg (show ¬ (⟨3, []⟩ : Fr).k = 2 by decide), if_pos ⟨rfl, rfl, h⟩]
theorem step_no {S : Lg} {n : Int} {k : Int} {t : List UInt8} (h2 : k ≠ 2) (h3 : ¬ (k = 3 ∧ t = [] ∧ S.whole = false)) : stepL S n ⟨k, t⟩ = none := by
  unfold stepL
  rw [if_neg h2, if_neg h3]
/-- what comes of a text, as the document's Do says it -/
theorem do_text {d : List Pt} {t : List UInt8} (h : fitsE d (t.length : Nat) = 0) : doT d ⟨t.toArray⟩ = doL d t := by
  have h1 : fitsE d ((⟨t.toArray⟩ : ByteArray).size : Nat) = 0 := h
  rw [doT, if_pos h1]
theorem text_more (s : List UInt8) (l : List Rv) (r : Rv) : textAt s (l ++ [r]) (l ++ [r]).length = doL r.d (textAt s l l.length) := by
  rw [List.length_append, List.length_singleton]; exact textAt_more s l r
end Go.Proofs.Ytgffippimmokiaa
