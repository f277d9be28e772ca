/- What the law on tiers' memory asks: a history with room behind each delta, and what is left as it was. -/
import Derived.Test.YtinhidddfpjjkabTierMem
import Derived.Test.YtinhidddfpjjkabRTiers
import Derived.Test.YtinhidddfpjjkabOwnKit
import Derived.Test.YtinhidddfpjjkabCloneRv
import Derived.Deep.RegionHeld3
import Derived.Deep.AppendLies
namespace Go.Proofs.Ytinhidddfpjjkab
open Go.RowKit
set_option linter.unusedSimpArgs false
set_option linter.unusedVariables false

/-- a delta with room behind it, marked, in a block of its own -/
def RmAt (w : World) (r : Rv) (g : Nat) : Prop := ∃ cur : Array Value, w.heap[g]? = some (.cells cur 58 (0, 0)) ∧ cur.size = (r.d.length + 3) * 3 ∧ cur.toList.take (r.d.length * 3) = allCells r.d ∧
  (∀ j, j < 3 → cur[(r.d.length + j) * 3]? = some (.int .i64 9) ∧ cur[(r.d.length + j) * 3 + 1]? = some (.int .i64 0) ∧ cur[(r.d.length + j) * 3 + 2]? = some (.string mrk))
theorem RmAt.same {w w' : World} {r : Rv} {g : Nat} (h : RmAt w r g) (hb : w'.heap[g]? = w.heap[g]?) : RmAt w' r g := by
  obtain ⟨cur, h1, h2⟩ := h
  exact ⟨cur, hb.trans h1, h2⟩
theorem RmAt.lt {w : World} {r : Rv} {g : Nat} (h : RmAt w r g) : g < w.heap.size := by
  obtain ⟨cur, h1, _⟩ := h
  exact lt_of_heap h1
theorem RmAt.below {w w' : World} {r : Rv} {g : Nat} (h : RmAt w r g) (hb : Below w.heap.size w w') : RmAt w' r g := h.same (hb.block g h.lt)
theorem RmAt.own {w : World} {r : Rv} {g B : Nat} (h : RmAt w r g) (hB : B ≤ g) (hl : r.d.length ≤ 4611686018427387904) : w.ownsRow B 58 3 (.slice (some ⟨g, 0, none⟩) r.d.length (r.d.length + 3)) r.d.length (allCells r.d) := by
  obtain ⟨cur, h1, h2, h3, _⟩ := h
  exact ⟨allCells_length _, .inr ⟨g, r.d.length + 3, cur, rfl, hB, h1, by omega, by unfold maxLen; omega, h2, h3⟩⟩
theorem RmAt.parts {w : World} {r : Rv} {g : Nat} (h : RmAt w r g) (hl : r.d.length ≤ 4611686018427387904) (hb : Bound r.d) : PartsAt w w.heap.size (some ⟨g, 0, none⟩) r.d ∧ Room (some ⟨g, 0, none⟩) r.d (r.d.length + 3) := by
  obtain ⟨a, c, e, h1, h2⟩ := parts_ownC (h.own (Nat.zero_le g) hl) hb
  simp only [Value.slice.injEq, true_and] at e
  obtain ⟨rfl, rfl⟩ := e
  exact ⟨h1, h2⟩
theorem RmAt.kept {w w' : World} {r : Rv} {g B n size : Nat} {e : TypeId} {v : Value} {xs : List Value} (h : RmAt w r g) (ho : w.ownsRow B e size v n xs) (he : e ≠ 58) (hg : w.grownBy w' v.ownBlock) : RmAt w' r g := by
  obtain ⟨cur, h1, h2⟩ := h
  exact ⟨cur, (hg.block g (lt_of_heap h1) (fun e2 => own_ne' ho h1 (fun e3 => he e3.symm) e2.symm)).trans h1, h2⟩
/-- the entry of such a history -/
def inE (x : Rv × Nat) : Rv × Option Addr × Nat := (x.1, some ⟨x.2, 0, none⟩, x.1.d.length + 3)
theorem in_fst (xs : List (Rv × Nat)) : (xs.map inE).map (·.1) = xs.map (·.1) := by rw [List.map_map]; rfl
theorem revs_own2 {w : World} {B : Nat} {v : Value} {xs : List (Rv × Option Addr × Nat)} (h : w.ownsRow B 46 3 v xs.length (rvAll xs)) (ho : RvsOk w w.heap.size xs) (hx : xs.length ≤ 9223372036854775807) :
    ∃ a c, v = .slice a xs.length c ∧ xs.length ≤ c ∧ RevsAt w w.heap.size a (xs.map (·.1)) := by
  rcases h.2 with ⟨rfl, h0⟩ | ⟨g, cap, cur, rfl, hB, hg, hn, hm, hc, ht⟩
  · have : xs = [] := List.length_eq_zero_iff.1 h0
    subst this
    exact ⟨none, 0, rfl, Nat.le_refl _, by simp, Nat.le_refl _, by simp, by simp⟩
  · refine ⟨some ⟨g, 0, none⟩, cap, rfl, hn, by rw [List.length_map]; exact hx, Nat.le_refl _, fun r hr => ?_, fun _ => ⟨g, 0, rfl, lt_of_heap hg, fun i r hi => ?_⟩⟩
    · obtain ⟨x, hx, rfl⟩ := List.mem_map.1 hr
      exact (ho x hx).1
    · rw [List.getElem?_map, Option.map_eq_some_iff] at hi
      obtain ⟨x, hxi, rfl⟩ := hi
      obtain ⟨c1, c2, c3⟩ := rvAll_at hxi
      have hil := (List.getElem?_eq_some_iff.1 hxi).1
      have h3 := ho x (List.mem_of_getElem? hxi)
      refine ⟨x.2.1, x.2.2, ?_, ?_, ?_, h3.2.1, h3.2.2⟩
      · rw [Nat.zero_add, h.cellAt _ (by omega)]; exact c1
      · rw [Nat.zero_add, h.cellAt _ (by omega)]; exact c2
      · rw [Nat.zero_add, h.cellAt _ (by omega)]; exact c3
/-- what lies behind B is as it was -/
def Still (w w' : World) (B : Nat) : Prop := w.heap.size ≤ w'.heap.size ∧ ∀ b, B ≤ b → b < w.heap.size → w'.heap[b]? = w.heap[b]?
theorem Still.refl (w : World) (B : Nat) : Still w w B := ⟨Nat.le_refl _, fun _ _ _ => rfl⟩
theorem Still.below {w w1 w2 : World} {B : Nat} (h : Still w w1 B) (hb : Below w1.heap.size w1 w2) : Still w w2 B :=
  ⟨Nat.le_trans h.1 hb.size, fun b h1 h2 => (hb.block b (Nat.lt_of_lt_of_le h2 h.1)).trans (h.2 b h1 h2)⟩
theorem Still.grown {w w1 w2 : World} {B g : Nat} (h : Still w w1 B) (hg : w1.grownBy w2 (some g)) (hB : g < B) : Still w w2 B :=
  ⟨Nat.le_trans h.1 hg.size, fun b h1 h2 => (hg.block b (Nat.lt_of_lt_of_le h2 h.1) (fun e => by cases e; omega)).trans (h.2 b h1 h2)⟩
theorem own_still {w w' : World} {B B' n size : Nat} {e : TypeId} {v : Value} {xs : List Value} (h : w.ownsRow B' e size v n xs) (hs : Still w w' B) (hB : B ≤ B') : w'.ownsRow B' e size v n xs := by
  rcases h.2 with ⟨h1, h2⟩ | ⟨g, cap', cur, h1, h2, h3, h4⟩
  · exact ⟨h.1, .inl ⟨h1, h2⟩⟩
  · exact ⟨h.1, .inr ⟨g, cap', cur, h1, h2, (hs.2 g (Nat.le_trans hB h2) (lt_of_heap h3)).trans h3, h4⟩⟩
theorem TiersOwn.still {w w' : World} {B B' : Nat} {v : Value} {rs : List Tr} (h : TiersOwn w B' v rs) (hs : Still w w' B) (hB : B ≤ B') : TiersOwn w' B' v rs :=
  ⟨fun r hr => ⟨fun x hx => ⟨((h.1 r hr).1 x hx).1, own_still ((h.1 r hr).1 x hx).2 hs hB⟩, own_still (h.1 r hr).2 hs hB⟩, own_still h.2 hs hB⟩
abbrev rvV (r : Rv) (a : Option Addr) (c : Nat) : Value := .agg #[.int .i64 r.who, .int .i64 r.seq, .slice a r.d.length c]
set_option maxHeartbeats 1000000 in
theorem SameRev_yes (r : Rv) (a b : Option Addr) (ca cb : Nat) (w : World) (ha : PartsAt w w.heap.size a r.d) (hb : PartsAt w w.heap.size b r.d) :
    Calls Try.prog 26 #[rvV r a ca, rvV r b cb] w fun e w' => e = .returned (.bool true) ∧ Below w.heap.size w w' := by
  have hb0 : Below w.heap.size w ((w.alloc (.cells #[.int .i64 r.who, .int .i64 r.seq, .slice a r.d.length ca] 46)).alloc (.cells #[.int .i64 r.who, .int .i64 r.seq, .slice b r.d.length cb] 46)) := ((Below.refl _ _).alloc (Nat.le_refl _) _).alloc (by simp) _
  have HB0 : Hid _ := hb0
  have HP : Hid (PartsAt ((w.alloc (.cells #[.int .i64 r.who, .int .i64 r.seq, .slice a r.d.length ca] 46)).alloc (.cells #[.int .i64 r.who, .int .i64 r.seq, .slice b r.d.length cb] 46)) ((w.alloc (.cells #[.int .i64 r.who, .int .i64 r.seq, .slice a r.d.length ca] 46)).alloc (.cells #[.int .i64 r.who, .int .i64 r.seq, .slice b r.d.length cb] 46)).heap.size a r.d ∧ PartsAt ((w.alloc (.cells #[.int .i64 r.who, .int .i64 r.seq, .slice a r.d.length ca] 46)).alloc (.cells #[.int .i64 r.who, .int .i64 r.seq, .slice b r.d.length cb] 46)) ((w.alloc (.cells #[.int .i64 r.who, .int .i64 r.seq, .slice a r.d.length ca] 46)).alloc (.cells #[.int .i64 r.who, .int .i64 r.seq, .slice b r.d.length cb] 46)).heap.size b r.d) := ⟨ha.here hb0 (Nat.le_refl _), hb.here hb0 (Nat.le_refl _)⟩
  have HB0 : Hid (Below w.heap.size w ((w.alloc (.cells #[.int .i64 r.who, .int .i64 r.seq, .slice a r.d.length ca] 46)).alloc (.cells #[.int .i64 r.who, .int .i64 r.seq, .slice b r.d.length cb] 46))) := hb0
  clear ha hb hb0
  go_enter Try.func26, Try.ntmps26
  go_wp2_with fail
  refine (Same_yes a b r.d ca cb _ HP.out.1 HP.out.2).mono ?_
  rintro e w1 ⟨rfl, hb1⟩
  have HB1 : Hid (Below w.heap.size w w1) := HB0.out.trans (hb1.mono HB0.out.size)
  clear hb1
  go_wp2_with fail
  go_ret
  exact ⟨by first | rfl | simp, HB1.out⟩
/-- another row is kept when a block grows -/
theorem own_grown {w w' : World} {B n size g : Nat} {e : TypeId} {v : Value} {xs : List Value} (h : w.ownsRow B e size v n xs) (hg : w.grownBy w' (some g)) (hn : v.ownBlock ≠ some g) : w'.ownsRow B e size v n xs := by
  rcases h.2 with ⟨h1, h2⟩ | ⟨g', cap', cur, rfl, h2, h3, h4⟩
  · exact ⟨h.1, .inl ⟨h1, h2⟩⟩
  · exact ⟨h.1, .inr ⟨g', cap', cur, rfl, h2, (hg.block g' (lt_of_heap h3) (fun e => hn e)).trans h3, h4⟩⟩
theorem in_at {w : World} {B n ca k : Nat} {ao : Option Addr} {rg : List (Rv × Nat)} {y : Rv × Nat} (h : w.ownsRow B 46 3 (.slice ao n ca) n (rvAll (rg.map inE))) (hn : n = rg.length) (hk : rg[k]? = some y) :
    ∃ g, ao = some ⟨g, 0, none⟩ ∧ g < w.heap.size ∧ w.cell? ⟨g, k * 3, none⟩ = some (.int .i64 y.1.who) ∧ w.cell? ⟨g, k * 3 + 1, none⟩ = some (.int .i64 y.1.seq) ∧ w.cell? ⟨g, k * 3 + 2, none⟩ = some (.slice (some ⟨y.2, 0, none⟩) y.1.d.length (y.1.d.length + 3)) := by
  have hkl := (List.getElem?_eq_some_iff.1 hk).1
  subst hn
  rcases h.2 with ⟨h1, h0⟩ | ⟨g, cap, cur, hv, hB, hg, hn, hm, hc, ht⟩
  · omega
  · simp only [Value.slice.injEq, true_and] at hv
    obtain ⟨rfl, rfl⟩ := hv
    have hx : (rg.map inE)[k]? = some (inE y) := by rw [List.getElem?_map, hk]; rfl
    obtain ⟨c1, c2, c3⟩ := rvAll_at hx
    exact ⟨g, rfl, lt_of_heap hg, by rw [h.cellAt _ (by omega)]; exact c1, by rw [h.cellAt _ (by omega)]; exact c2, by rw [h.cellAt _ (by omega)]; exact c3⟩
/-- what the two builds have answered -/
def TE (w : World) (B : Nat) (T : List (List (List Pt))) (e : Int) (t u : Value) : Prop :=
  (e ≠ 0 → t = .slice none 0 0) ∧ (e = 0 → ∃ rs qs B2, rs.map (fun r : Tr => r.1.map (·.1)) = T ∧ qs.map (fun r : Tr => r.1.map (·.1)) = T ∧ TiersOwn w B t rs ∧ Sep (allEl rs) ∧ TiersOwn w B2 u qs ∧ B ≤ B2 ∧ ∀ x ∈ allEl rs, ∀ g, (elV x).ownBlock = some g → g < B2)
theorem TE.still {w w' : World} {B : Nat} {T : List (List (List Pt))} {e : Int} {t u : Value} (h : TE w B T e t u) (hs : Still w w' B) : TE w' B T e t u := by
  refine ⟨h.1, fun h0 => ?_⟩
  obtain ⟨rs, qs, B2, h1, h2, h3, h4, h5, h6, h7⟩ := h.2 h0
  exact ⟨rs, qs, B2, h1, h2, h3.still hs (Nat.le_refl _), h4, h5.still hs h6, h6, h7⟩
theorem BuildE (s : ByteArray) (a : Option Addr) (l : List Rv) (cap : Nat) (w : World) (hl : RevsAt w w.heap.size a l) (hs : s.size ≤ 9223372036854775807) :
    Calls Try.prog 8 #[.string s, .slice a l.length cap] w fun e w' => ∃ t, e = .returned (.tuple #[t, .int .i64 (checkE s.data.toList l)]) ∧ Below w.heap.size w w' ∧ (checkE s.data.toList l ≠ 0 → t = .slice none 0 0) ∧ (checkE s.data.toList l = 0 → ∃ rs, rs.map (fun r : Tr => r.1.map (·.1)) = tiersL s.data.toList l ∧ TiersOwn w' w.heap.size t rs ∧ Sep (allEl rs)) := by
  by_cases h0 : checkE s.data.toList l = 0
  · refine (Build_ok s a l cap w hl h0).mono ?_
    rintro e w' ⟨v, rs, rfl, h1, h2, h3, hb⟩
    exact ⟨v, by rw [h0], hb, fun h => absurd h0 h, fun _ => ⟨rs, h1, h2, h3⟩⟩
  · refine (Build_not s a l cap w hl hs h0).mono ?_
    rintro e w' ⟨rfl, hb⟩
    exact ⟨_, rfl, hb, fun _ => rfl, fun h => absurd h h0⟩
theorem te_mk {w1 w2 : World} {B : Nat} {T : List (List (List Pt))} {e : Int} {t u : Value} (h1 : e ≠ 0 → t = .slice none 0 0) (h2 : e = 0 → ∃ rs, rs.map (fun r : Tr => r.1.map (·.1)) = T ∧ TiersOwn w1 B t rs ∧ Sep (allEl rs)) (h3 : e = 0 → ∃ rs, rs.map (fun r : Tr => r.1.map (·.1)) = T ∧ TiersOwn w2 w1.heap.size u rs ∧ Sep (allEl rs)) (hb : Below w1.heap.size w1 w2) (hB : B ≤ w1.heap.size) : TE w2 B T e t u := by
  refine ⟨h1, fun h0 => ?_⟩
  obtain ⟨rs, a1, a2, a3⟩ := h2 h0
  obtain ⟨qs, b1, b2, b3⟩ := h3 h0
  exact ⟨rs, qs, w1.heap.size, a1, b1, a2.below hb, a3, b2, hB, fun x hx g hg => ((allEl_own a2 x hx).2.lt g hg).2⟩
/-- each row of the tiers holds something -/
theorem tiers_pos {s : List UInt8} {l : List Rv} (h0 : checkE s l = 0) {X : List (List Pt)} (hX : X ∈ tiersL s l) : 0 < X.length := by
  obtain ⟨_, z2, _⟩ := check_zero h0
  obtain ⟨v, hv, rfl⟩ := List.mem_map.1 hX
  have hv := List.mem_range.1 hv
  have h7 : lvN l.length ≤ 7 := by
    have h := List.length_filter_le (fun v => decide (2 ^ v ≤ l.length)) (List.range 7)
    rw [List.length_range] at h
    exact h
  have h1 := (lvN_iff z2 (show v ≤ 6 by omega)).1 hv
  rw [tierRow, List.length_map, List.length_range]
  exact Nat.div_pos h1 (Nat.pow_pos (by decide))
theorem tr_at {w : World} {B n tc i : Nat} {ta : Option Addr} {rs : List Tr} {r : Tr} (h : w.ownsRow B 40 1 (.slice ta n tc) rs.length (rs.map trV)) (hi : rs[i]? = some r) :
    ∃ g, ta = some ⟨g, 0, none⟩ ∧ g < w.heap.size ∧ w.cell? ⟨g, i, none⟩ = some (trV r) := by
  have hil := (List.getElem?_eq_some_iff.1 hi).1
  rcases h.2 with ⟨h1, h0⟩ | ⟨g, cap, cur, hv, hB, hg, _⟩
  · omega
  · simp only [Value.slice.injEq] at hv
    obtain ⟨rfl, rfl, rfl⟩ := hv
    exact ⟨g, rfl, lt_of_heap hg, by rw [h.cellAt _ (by omega), List.getElem?_map, hi]; rfl⟩
theorem el_at {w : World} {B n xc k : Nat} {xa : Option Addr} {xs : List El} {x : El} (h : w.ownsRow B 33 1 (.slice xa n xc) xs.length (xs.map elV)) (hk : xs[k]? = some x) :
    ∃ g, xa = some ⟨g, 0, none⟩ ∧ g < w.heap.size ∧ w.cell? ⟨g, k, none⟩ = some (elV x) := by
  have hil := (List.getElem?_eq_some_iff.1 hk).1
  rcases h.2 with ⟨h1, h0⟩ | ⟨g, cap, cur, hv, hB, hg, _⟩
  · omega
  · simp only [Value.slice.injEq] at hv
    obtain ⟨rfl, rfl, rfl⟩ := hv
    exact ⟨g, rfl, lt_of_heap hg, by rw [h.cellAt _ (by omega), List.getElem?_map, hk]; rfl⟩
/-- tiers of which the delta at i, k may be anything -/
def SpT (w : World) (B : Nat) (v : Value) (rs : List Tr) (i k : Nat) : Prop :=
  w.ownsRow B 40 1 v rs.length (rs.map trV) ∧ ∀ a r, rs[a]? = some r → w.ownsRow B 33 1 (trV r) r.1.length (r.1.map elV) ∧ ∀ b x, r.1[b]? = some x → (a ≠ i ∨ b ≠ k) → ElOwn w B x
theorem SpT.below {w w' : World} {B i k : Nat} {v : Value} {rs : List Tr} (h : SpT w B v rs i k) (hb : Below w.heap.size w w') : SpT w' B v rs i k :=
  ⟨own_belowO h.1 hb (Nat.le_refl _), fun a r ha => ⟨own_belowO (h.2 a r ha).1 hb (Nat.le_refl _), fun b x hx hn => ((h.2 a r ha).2 b x hx hn).below hb⟩⟩
theorem sep_ne {rs : List Tr} {a b i k : Nat} {r r' : Tr} {x x' : El} (hs : Sep (allEl rs)) (hr : rs[i]? = some r) (hx : r.1[k]? = some x) (hr' : rs[a]? = some r') (hx' : r'.1[b]? = some x') (hn : a ≠ i ∨ b ≠ k) : (elV x').ownBlock = none ∨ (elV x').ownBlock ≠ (elV x).ownBlock := by
  by_cases h0 : (elV x').ownBlock = none
  · exact .inl h0
  right
  intro he
  obtain ⟨g, hg⟩ : ∃ g, (elV x').ownBlock = some g := by
    cases h : (elV x').ownBlock with
    | none => exact absurd h h0
    | some g => exact ⟨g, rfl⟩
  have hg2 : (elV x).ownBlock = some g := by rw [← he]; exact hg
  unfold Sep allEl at hs
  obtain ⟨h1, h2⟩ := List.pairwise_flatMap.1 hs
  obtain ⟨l1, e1⟩ := List.getElem?_eq_some_iff.1 hr
  obtain ⟨l2, e2⟩ := List.getElem?_eq_some_iff.1 hr'
  obtain ⟨l3, e3⟩ := List.getElem?_eq_some_iff.1 hx
  obtain ⟨l4, e4⟩ := List.getElem?_eq_some_iff.1 hx'
  have hlt : ¬ g < g := Nat.lt_irrefl g
  rcases Nat.lt_trichotomy a i with h | h | h
  · have h3 := List.pairwise_iff_getElem.1 h2 a i l2 l1 h
    rw [e1, e2] at h3
    exact hlt (h3 x' (List.mem_of_getElem? hx') x (List.mem_of_getElem? hx) g g hg hg2)
  · subst h
    rw [hr] at hr'
    obtain rfl := Option.some.inj hr'
    have h3 := h1 r (List.mem_of_getElem? hr)
    rcases Nat.lt_trichotomy b k with h | h | h
    · have h4 := List.pairwise_iff_getElem.1 h3 b k l4 l3 h
      rw [e3, e4] at h4
      exact hlt (h4 g g hg hg2)
    · omega
    · have h4 := List.pairwise_iff_getElem.1 h3 k b l3 l4 h
      rw [e3, e4] at h4
      exact hlt (h4 g g hg2 hg)
  · have h3 := List.pairwise_iff_getElem.1 h2 i a l1 l2 h
    rw [e1, e2] at h3
    exact hlt (h3 x (List.mem_of_getElem? hx) x' (List.mem_of_getElem? hx') g g hg2 hg)
theorem sp_mk {w w' : World} {B i k : Nat} {v : Value} {rs : List Tr} {r : Tr} {x : El} (h : TiersOwn w B v rs) (hs : Sep (allEl rs)) (hr : rs[i]? = some r) (hx : r.1[k]? = some x) (hg : w.grownBy w' (elV x).ownBlock) : SpT w' B v rs i k := by
  have hxo : ElOwn w B x := (h.1 r (List.mem_of_getElem? hr)).1 x (List.mem_of_getElem? hx)
  refine ⟨h.2.kept hg (own_ne4 h.2 hxo.2 (by decide)), fun a r' ha => ?_⟩
  have hro := h.1 r' (List.mem_of_getElem? ha)
  refine ⟨hro.2.kept hg (own_ne4 hro.2 hxo.2 (by decide)), fun b x' hb hn => ?_⟩
  have hx' := hro.1 x' (List.mem_of_getElem? hb)
  exact ⟨hx'.1, hx'.2.kept hg (sep_ne hs hr hx ha hb hn)⟩
theorem still_grown {w w' : World} {v : Value} {B : Nat} (hg : w.grownBy w' v.ownBlock) (h : ∀ g, v.ownBlock = some g → g < B) : Still w w' B :=
  ⟨hg.size, fun b h1 h2 => hg.block b h2 (fun e => by have := h b e.symm; omega)⟩
/-- what the last two loops hold -/
def SpE (w : World) (B B2 : Nat) (t u : Value) (rs qs : List Tr) (i k : Nat) : Prop := SpT w B t rs i k ∧ TiersOwn w B2 u qs
theorem SpE.below {w w' : World} {B B2 i k : Nat} {t u : Value} {rs qs : List Tr} (h : SpE w B B2 t u rs qs i k) (hb : Below w.heap.size w w') : SpE w' B B2 t u rs qs i k := ⟨h.1.below hb, h.2.below hb⟩
theorem of_map {rs : List Tr} {T : List (List (List Pt))} (h : rs.map (fun r : Tr => r.1.map (·.1)) = T) {a : Nat} {X : List (List Pt)} (ha : T[a]? = some X) : ∃ r, rs[a]? = some r ∧ r.1.map (·.1) = X := by
  rw [← h, List.getElem?_map, Option.map_eq_some_iff] at ha
  exact ha
theorem of_row {r : Tr} {X : List (List Pt)} (h : r.1.map (·.1) = X) {b : Nat} {d : List Pt} (hb : X[b]? = some d) : ∃ x, r.1[b]? = some x ∧ x.1 = d := by
  rw [← h, List.getElem?_map, Option.map_eq_some_iff] at hb
  exact hb
end Go.Proofs.Ytinhidddfpjjkab
