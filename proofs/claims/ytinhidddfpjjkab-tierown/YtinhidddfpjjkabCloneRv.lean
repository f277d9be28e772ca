/- A history that is copied, and one revision more behind it. -/
import Derived.Test.YtinhidddfpjjkabRevOne
import Derived.Test.YtinhidddfpjjkabCaps
import Derived.Test.YtinhidddfpjjkabPtOwn
namespace Go.Proofs.Ytinhidddfpjjkab
open Go.RowKit
set_option linter.unusedSimpArgs false
set_option linter.unusedVariables false

theorem infoRev : (Try.prog.info? 46).map (fun i => (i.zero, i.size, i.bytes)) = some (some (.agg #[.int .i64 0, .int .i64 0, .slice none 0 0]), 3, 40) := by kernel_rfl
/-- revisions, and where the delta of each lies -/
def rvOne (x : Rv × Option Addr × Nat) : List Value := [.int .i64 x.1.who, .int .i64 x.1.seq, .slice x.2.1 x.1.d.length x.2.2]
def rvAll : List (Rv × Option Addr × Nat) → List Value
  | [] => []
  | x :: l => rvOne x ++ rvAll l
theorem rvAll_length (l : List (Rv × Option Addr × Nat)) : (rvAll l).length = l.length * 3 := by
  induction l with
  | nil => rfl
  | cons x l ih => rw [rvAll, List.length_append, ih, List.length_cons]; simp only [rvOne, List.length_cons, List.length_nil]; omega
theorem rvAll_app (a b : List (Rv × Option Addr × Nat)) : rvAll (a ++ b) = rvAll a ++ rvAll b := by
  induction a with
  | nil => rfl
  | cons x a ih => rw [List.cons_append, rvAll, rvAll, ih, List.append_assoc]
theorem rvAll_one (l : List (Rv × Option Addr × Nat)) : ∀ u ∈ rvAll l, u.oneCell' = true := by
  induction l with
  | nil => intro u hu; simp [rvAll] at hu
  | cons x l ih =>
    intro u hu
    rw [rvAll, List.mem_append] at hu
    rcases hu with hu | hu
    · simp only [rvOne, List.mem_cons, List.not_mem_nil, or_false] at hu
      rcases hu with rfl | rfl | rfl <;> rfl
    · exact ih u hu
theorem rvAll_at {l : List (Rv × Option Addr × Nat)} {j : Nat} {x : Rv × Option Addr × Nat} (h : l[j]? = some x) :
    (rvAll l)[j * 3]? = some (.int .i64 x.1.who) ∧ (rvAll l)[j * 3 + 1]? = some (.int .i64 x.1.seq) ∧ (rvAll l)[j * 3 + 2]? = some (.slice x.2.1 x.1.d.length x.2.2) := by
  have hj := (List.getElem?_eq_some_iff.1 h).1
  have e : l = l.take j ++ x :: l.drop (j + 1) := by
    obtain ⟨h1, h2⟩ := List.getElem?_eq_some_iff.1 h
    rw [← h2, ← List.drop_eq_getElem_cons h1, List.take_append_drop]
  have hl : (rvAll (l.take j)).length = j * 3 := by rw [rvAll_length, List.length_take, Nat.min_eq_left (by omega)]
  rw [e, rvAll_app, rvAll]
  refine ⟨?_, ?_, ?_⟩
  · rw [List.getElem?_append_right (by omega), hl, Nat.sub_self]; rfl
  · rw [List.getElem?_append_right (by omega), hl, Nat.add_sub_cancel_left]; rfl
  · rw [List.getElem?_append_right (by omega), hl, Nat.add_sub_cancel_left]; rfl
/-- what is to be held of each -/
def RvsOk (w : World) (B : Nat) (xs : List (Rv × Option Addr × Nat)) : Prop := ∀ x ∈ xs, (wide x.1.who ∧ wide x.1.seq) ∧ PartsAt w B x.2.1 x.1.d ∧ Room x.2.1 x.1.d x.2.2
theorem revs_list {w : World} {B : Nat} {a : Option Addr} {l : List Rv} (h : RevsAt w B a l) : ∃ xs : List (Rv × Option Addr × Nat), xs.map (·.1) = l ∧ RvsOk w B xs ∧ ∀ ad, a = some ad → ∀ j u, (rvAll xs)[j]? = some u → w.cell? (ad.add j) = some u := by
  obtain ⟨xs, h1, h2⟩ : ∃ xs : List (Rv × Option Addr × Nat), xs.map (·.1) = l.take l.length ∧ ∀ (i : Nat) (x : Rv × Option Addr × Nat), xs[i]? = some x → ∃ b off, a = some ⟨b, off, none⟩ ∧ RvAt w B b (off + i * 3) x.1 x.2.1 x.2.2 := by
    have H : ∀ k, k ≤ l.length → ∃ xs : List (Rv × Option Addr × Nat), xs.map (·.1) = l.take k ∧ ∀ (i : Nat) (x : Rv × Option Addr × Nat), xs[i]? = some x → ∃ b off, a = some ⟨b, off, none⟩ ∧ RvAt w B b (off + i * 3) x.1 x.2.1 x.2.2 := by
      intro k
      induction k with
      | zero => intro _; exact ⟨[], by simp, by intro i x hx; simp at hx⟩
      | succ k ih =>
        intro hk
        obtain ⟨xs, h1, h2⟩ := ih (by omega)
        obtain ⟨r, hr⟩ : ∃ r, l[k]? = some r := ⟨l[k]'(by omega), List.getElem?_eq_getElem _⟩
        obtain ⟨b, off, ai, ci, ha, _, hv⟩ := h.mem hr
        have hlen : xs.length = k := by
          have := congrArg List.length h1
          rw [List.length_map, List.length_take] at this
          omega
        refine ⟨xs ++ [(r, ai, ci)], by rw [List.map_append, h1, List.take_add_one, hr]; rfl, fun i x hx => ?_⟩
        rcases Nat.lt_or_ge i xs.length with hi | hi
        · rw [List.getElem?_append_left hi] at hx
          exact h2 i x hx
        · rw [List.getElem?_append_right hi] at hx
          have hi0 : i - xs.length = 0 := by
            have := (List.getElem?_eq_some_iff.1 hx).1
            simpa using this
          rw [hi0] at hx
          obtain rfl : (r, ai, ci) = x := by simpa using hx
          exact ⟨b, off, ha, by rw [show i = k by omega]; exact hv⟩
    exact H l.length (Nat.le_refl _)
  rw [List.take_length] at h1
  refine ⟨xs, h1, fun x hx => ?_, fun ad had j u hu => ?_⟩
  · obtain ⟨i, hi⟩ := List.getElem?_of_mem hx
    obtain ⟨b, off, _, _, _, _, h5, h6⟩ := h2 i x hi
    exact ⟨h.2.2.1 x.1 (by rw [← h1]; exact List.mem_map_of_mem hx), h5, h6⟩
  · have hj := (List.getElem?_eq_some_iff.1 hu).1
    rw [rvAll_length] at hj
    obtain ⟨x, hx⟩ : ∃ x, xs[j / 3]? = some x := ⟨xs[j / 3]'(by omega), List.getElem?_eq_getElem _⟩
    obtain ⟨b, off, ha, c1, c2, c3, _, _⟩ := h2 _ x hx
    obtain ⟨d1, d2, d3⟩ := rvAll_at hx
    rw [had] at ha
    obtain rfl := Option.some.inj ha
    rw [Addr.add_lit]
    rcases (by omega : j = j / 3 * 3 ∨ j = j / 3 * 3 + 1 ∨ j = j / 3 * 3 + 2) with e | e | e
    · rw [← e] at c1 d1; rw [c1, ← hu, d1]
    · rw [Nat.add_assoc, ← e] at c2; rw [← e] at d2; rw [c2, ← hu, d2]
    · rw [Nat.add_assoc, ← e] at c3; rw [← e] at d3; rw [c3, ← hu, d3]
theorem RvsOk.below {w w' : World} {B B' : Nat} {xs : List (Rv × Option Addr × Nat)} (h : RvsOk w B xs) (hb : Below B' w w') (hB : B ≤ B') : RvsOk w' B xs :=
  fun x hx => ⟨(h x hx).1, (h x hx).2.1.below hb hB, (h x hx).2.2⟩
theorem RvsOk.wider {w : World} {B B' : Nat} {xs : List (Rv × Option Addr × Nat)} (h : RvsOk w B xs) (h1 : B ≤ B') (h2 : B' ≤ w.heap.size) : RvsOk w B' xs :=
  fun x hx => ⟨(h x hx).1, (h x hx).2.1.wider h1 h2, (h x hx).2.2⟩
theorem revs_own {w : World} {B : Nat} {v : Value} {xs : List (Rv × Option Addr × Nat)} (h : w.ownsRow B 46 3 v xs.length (rvAll xs)) (ho : RvsOk w w.heap.size xs) (hx : xs.length ≤ 1000000) :
    ∃ a c, v = .slice a xs.length c ∧ xs.length ≤ c ∧ RevsAt w w.heap.size a (xs.map (·.1)) := by
  rcases h.2 with ⟨rfl, h0⟩ | ⟨g, cap, cur, rfl, hB, hg, hn, hm, hc, ht⟩
  · have : xs = [] := List.length_eq_zero_iff.1 h0
    subst this
    exact ⟨none, 0, rfl, Nat.le_refl _, by simp, Nat.le_refl _, by simp, by simp⟩
  · refine ⟨some ⟨g, 0, none⟩, cap, rfl, hn, by rw [List.length_map]; omega, Nat.le_refl _, fun r hr => ?_, fun _ => ⟨g, 0, rfl, lt_of_heap hg, fun i r hi => ?_⟩⟩
    · obtain ⟨x, hx, rfl⟩ := List.mem_map.1 hr
      exact (ho x hx).1
    · rw [List.getElem?_map, Option.map_eq_some_iff] at hi
      obtain ⟨x, hxi, rfl⟩ := hi
      obtain ⟨c1, c2, c3⟩ := rvAll_at hxi
      have hil := (List.getElem?_eq_some_iff.1 hxi).1
      have h3 := ho x (List.mem_of_getElem? hxi)
      refine ⟨x.2.1, x.2.2, ?_, ?_, ?_, h3.2.1, h3.2.2⟩
      · rw [Nat.zero_add, h.cellAt _ (by omega)]; exact c1
      · rw [Nat.zero_add, h.cellAt _ (by omega)]; exact c2
      · rw [Nat.zero_add, h.cellAt _ (by omega)]; exact c3
theorem rnone_is (c : Nat) (w : World) : (binOp BinOp.eql 22 (Value.slice none 0 c) (Value.slice none 0 0)).run Try.prog w = .ok (.bool true) w := by kernel_rfl
theorem rnone_not (a : Addr) (n c : Nat) (w : World) : (binOp BinOp.eql 22 (Value.slice (some a) n c) (Value.slice none 0 0)).run Try.prog w = .ok (.bool false) w := by kernel_rfl

/-- the delta that keeps all, and where it lies -/
def Above (B : Nat) (a : Option Addr) : Prop := ∀ b off, a = some ⟨b, off, none⟩ → B ≤ b
theorem PartsAt.apart {w w' : World} {B : Nat} {a : Option Addr} {l : List Pt} {o : Option Nat} (h : PartsAt w w.heap.size a l) (hg : w.grownBy w' o) (ha : Above B a) (ho : ∀ g, o = some g → g < B) : PartsAt w' w'.heap.size a l := by
  obtain ⟨h1, h2, h3, h4⟩ := h
  refine ⟨h1, Nat.le_refl _, h3, fun hn => ?_⟩
  obtain ⟨b, off, e, hlt, hc⟩ := h4 hn
  have hb : w'.heap[b]? = w.heap[b]? := hg.block b hlt (fun e2 => by have h5 := ho b e2.symm; have h6 := ha b off e; omega)
  have hlt' : b < w'.heap.size := by
    obtain ⟨x, hx⟩ : ∃ x, w.heap[b]? = some x := ⟨w.heap[b], Array.getElem?_eq_getElem hlt⟩
    exact lt_of_heap (hb.trans hx)
  refine ⟨b, off, e, hlt', fun i p hi => ?_⟩
  obtain ⟨k1, k2, k3⟩ := hc i p hi
  exact ⟨(World.cell?_of_block (a := ⟨b, _, none⟩) hb).trans k1, (World.cell?_of_block (a := ⟨b, _, none⟩) hb).trans k2, (World.cell?_of_block (a := ⟨b, _, none⟩) hb).trans k3⟩
set_option maxHeartbeats 400000 in
theorem AllUp_any (n : Int) (w : World) (h0 : 0 ≤ n) (h1 : n ≤ 9223372036854775807) :
    Calls Try.prog 52 #[.int .i64 n] w fun e w' => ∃ a cap, e = .returned (.slice a (allL n).length cap) ∧ Above w.heap.size a ∧ PartsAt w' w'.heap.size a (allL n) ∧ Room a (allL n) cap ∧ Below w.heap.size w w' := by
  by_cases hn : n = 0
  · have hn' : (n == 0) = true := by simp [hn]
    have HN : Hid (allL n = []) := by show _ = _; simp [allL, hn]
    clear hn
    go_enter Try.func52, Try.ntmps52
    go_wp2
    go_ret
    exact ⟨none, 0, by rw [HN.out]; rfl, (fun b off e => by cases e), by rw [HN.out]; exact ⟨by simp, Nat.le_refl _, by simp, by simp⟩, by rw [HN.out]; exact room_nil, Below.refl _ _⟩
  · have hn' : (n == 0) = false := by simp [hn]
    have HN : Hid (allL n = [⟨1, n, ByteArray.empty⟩]) := by show _ = _; simp [allL, hn]
    clear hn
    go_enter Try.func52, Try.ntmps52
    go_wp2
    go_ret
    refine ⟨some ⟨w.heap.size, 0, none⟩, 1, by rw [HN.out]; rfl, (fun b off e => by cases e; exact Nat.le_refl _), ?_, by rw [HN.out]; exact ⟨by simp, fun e => by cases e⟩, (Below.refl _ _).alloc (Nat.le_refl _) _⟩
    rw [HN.out]
    have h2 := parts_lit w [⟨1, n, ByteArray.empty⟩] ⟨by simp, by intro p hp; simp at hp; subst hp; exact ⟨Nat.zero_le _, by show _ ≤ n; omega, h1, by show _ ≤ (1 : Int); omega, by show (1 : Int) ≤ _; omega⟩⟩
    rw [show (w.alloc (.cells #[.int .i64 1, .int .i64 n, .string ⟨#[]⟩] 58)).heap.size = w.heap.size + 1 from Deep.nblk_alloc _ _]
    exact h2
set_option maxHeartbeats 400000 in
theorem AllHi_any (n : Int) (w : World) (h0 : 0 ≤ n) (h1 : n ≤ 9223372036854775807) :
    Calls Try.prog 21 #[.int .i64 n] w fun e w' => ∃ a cap, e = .returned (.slice a (allL n).length cap) ∧ Above w.heap.size a ∧ PartsAt w' w'.heap.size a (allL n) ∧ Room a (allL n) cap ∧ Below w.heap.size w w' := by
  go_enter Try.func21, Try.ntmps21
  go_wp2_with fail
  refine (AllUp_any n _ h0 h1).mono ?_
  rintro e w1 ⟨a, cap, rfl, hu, hp, hc, hb⟩
  have HA : Hid (Above w.heap.size a ∧ PartsAt w1 w1.heap.size a (allL n) ∧ Room a (allL n) cap ∧ Below w.heap.size w w1) := ⟨hu, hp, hc, hb⟩
  clear hu hp hc hb
  go_wp2_with fail
  go_ret
  first | exact ⟨a, cap, rfl, HA.out⟩ | exact ⟨a, ⟨cap, rfl⟩, HA.out⟩
end Go.Proofs.Ytinhidddfpjjkab
