/- Rows of deltas, and tiers of them, as they lie in memory: read, or the call's own. -/
import Derived.Test.YtgffippimmokiaaOwns
import Derived.Test.YtgffippimmokiaaRevOne
import Derived.Test.YtgffippimmokiaaTierL
import Derived.Laws.OwnMore
import Derived.Test.YtgffippimmokiaaCompL
import Derived.Deep.RegionHeld3
import Derived.Test.YtgffippimmokiaaBlkMem
import Derived.Test.YtgffippimmokiaaFirstRev
import Derived.Test.YtgffippimmokiaaShRun
namespace Go.Proofs.Ytgffippimmokiaa
open Go.RowKit
set_option linter.unusedSimpArgs false
set_option linter.unusedVariables false

/-- the deltas X lie from address a on, below block B, with room for c -/
def RowAt (w : World) (B : Nat) (a : Option Addr) (X : List (List Pt)) (c : Nat) : Prop :=
  X.length ≤ c ∧ c ≤ 9223372036854775807 ∧ B ≤ w.heap.size ∧ (X ≠ [] → ∃ b off, a = some ⟨b, off, none⟩ ∧ b < B ∧ ∀ (i : Nat) (x : List Pt), X[i]? = some x → ∃ ai ci, w.cell? ⟨b, off + i, none⟩ = some (.slice ai x.length ci) ∧ PartsAt w B ai x ∧ Room ai x ci)
theorem RowAt.below {w w' : World} {B B' : Nat} {a : Option Addr} {X : List (List Pt)} {c : Nat} (h : RowAt w B a X c) (hb : Below B' w w') (hB : B ≤ B') : RowAt w' B a X c := by
  obtain ⟨h1, h0, h2, h3⟩ := h
  refine ⟨h1, h0, Nat.le_trans h2 hb.size, fun hn => ?_⟩
  obtain ⟨b, off, ha, hlt, hc⟩ := h3 hn
  have hlt' : b < B' := Nat.lt_of_lt_of_le hlt hB
  refine ⟨b, off, ha, hlt, fun i x hi => ?_⟩
  obtain ⟨ai, ci, c1, c2, c3⟩ := hc i x hi
  exact ⟨ai, ci, (hb.cell (p := ⟨b, _, none⟩) hlt').trans c1, c2.below hb hB, c3⟩
theorem RowAt.wider {w : World} {B B' : Nat} {a : Option Addr} {X : List (List Pt)} {c : Nat} (h : RowAt w B a X c) (h1 : B ≤ B') (h2 : B' ≤ w.heap.size) : RowAt w B' a X c :=
  ⟨h.1, h.2.1, h2, fun hn => by
    obtain ⟨b, off, ha, hlt, hc⟩ := h.2.2.2 hn
    refine ⟨b, off, ha, by omega, fun i x hi => ?_⟩
    obtain ⟨ai, ci, c1, c2, c3⟩ := hc i x hi
    exact ⟨ai, ci, c1, c2.wider h1 h2, c3⟩⟩
theorem RowAt.here {w w' : World} {B B' : Nat} {a : Option Addr} {X : List (List Pt)} {c : Nat} (h : RowAt w B a X c) (hb : Below B' w w') (hB : B ≤ B') : RowAt w' w'.heap.size a X c :=
  (h.below hb hB).wider (h.below hb hB).2.2.1 (Nat.le_refl _)
theorem RowAt.mem {w : World} {B : Nat} {a : Option Addr} {X : List (List Pt)} {c : Nat} (h : RowAt w B a X c) {i : Nat} {x : List Pt} (hi : X[i]? = some x) :
    ∃ b off ai ci, a = some ⟨b, off, none⟩ ∧ b < B ∧ w.cell? ⟨b, off + i, none⟩ = some (.slice ai x.length ci) ∧ PartsAt w B ai x ∧ Room ai x ci := by
  obtain ⟨b, off, ha, hlt, hc⟩ := h.2.2.2 (fun e => by subst e; simp at hi)
  obtain ⟨ai, ci, c1, c2, c3⟩ := hc i x hi
  exact ⟨b, off, ai, ci, ha, hlt, c1, c2, c3⟩
theorem row_nil (w : World) (B : Nat) (hB : B ≤ w.heap.size) : RowAt w B none [] 0 := ⟨by simp, by simp, hB, by simp⟩
/-- tiers: rows of deltas, one behind the other -/
def TiersAt (w : World) (B : Nat) (a : Option Addr) (T : List (List (List Pt))) (c : Nat) : Prop :=
  T.length ≤ c ∧ c ≤ 9223372036854775807 ∧ B ≤ w.heap.size ∧ (T ≠ [] → ∃ b off, a = some ⟨b, off, none⟩ ∧ b < B ∧ ∀ (i : Nat) (X : List (List Pt)), T[i]? = some X → ∃ ai ci, w.cell? ⟨b, off + i, none⟩ = some (.slice ai X.length ci) ∧ RowAt w B ai X ci)
theorem TiersAt.below {w w' : World} {B B' : Nat} {a : Option Addr} {T : List (List (List Pt))} {c : Nat} (h : TiersAt w B a T c) (hb : Below B' w w') (hB : B ≤ B') : TiersAt w' B a T c := by
  obtain ⟨h1, h0, h2, h3⟩ := h
  refine ⟨h1, h0, Nat.le_trans h2 hb.size, fun hn => ?_⟩
  obtain ⟨b, off, ha, hlt, hc⟩ := h3 hn
  have hlt' : b < B' := Nat.lt_of_lt_of_le hlt hB
  refine ⟨b, off, ha, hlt, fun i x hi => ?_⟩
  obtain ⟨ai, ci, c1, c2⟩ := hc i x hi
  exact ⟨ai, ci, (hb.cell (p := ⟨b, _, none⟩) hlt').trans c1, c2.below hb hB⟩
theorem TiersAt.wider {w : World} {B B' : Nat} {a : Option Addr} {T : List (List (List Pt))} {c : Nat} (h : TiersAt w B a T c) (h1 : B ≤ B') (h2 : B' ≤ w.heap.size) : TiersAt w B' a T c :=
  ⟨h.1, h.2.1, h2, fun hn => by
    obtain ⟨b, off, ha, hlt, hc⟩ := h.2.2.2 hn
    refine ⟨b, off, ha, by omega, fun i x hi => ?_⟩
    obtain ⟨ai, ci, c1, c2⟩ := hc i x hi
    exact ⟨ai, ci, c1, c2.wider h1 h2⟩⟩
theorem TiersAt.here {w w' : World} {B B' : Nat} {a : Option Addr} {T : List (List (List Pt))} {c : Nat} (h : TiersAt w B a T c) (hb : Below B' w w') (hB : B ≤ B') : TiersAt w' w'.heap.size a T c :=
  (h.below hb hB).wider (h.below hb hB).2.2.1 (Nat.le_refl _)
theorem TiersAt.mem {w : World} {B : Nat} {a : Option Addr} {T : List (List (List Pt))} {c : Nat} (h : TiersAt w B a T c) {i : Nat} {X : List (List Pt)} (hi : T[i]? = some X) :
    ∃ b off ai ci, a = some ⟨b, off, none⟩ ∧ b < B ∧ w.cell? ⟨b, off + i, none⟩ = some (.slice ai X.length ci) ∧ RowAt w B ai X ci := by
  obtain ⟨b, off, ha, hlt, hc⟩ := h.2.2.2 (fun e => by subst e; simp at hi)
  obtain ⟨ai, ci, c1, c2⟩ := hc i X hi
  exact ⟨b, off, ai, ci, ha, hlt, c1, c2⟩
theorem tiers_nil (w : World) (B : Nat) (hB : B ≤ w.heap.size) : TiersAt w B none [] 0 := ⟨by simp, by simp, hB, by simp⟩

/-- a delta, and where it lies -/
abbrev El := List Pt × Option Addr × Nat
def elV (x : El) : Value := .slice x.2.1 x.1.length x.2.2
def ElOwn (w : World) (B : Nat) (x : El) : Prop := sizesE x.1 = 0 ∧ w.ownsRow B 138 3 (elV x) x.1.length (allCells x.1)
theorem bound_right {l : List Pt} (h : sizesE l = 0) : Bound l := by
  obtain ⟨h1, h2⟩ := sizes_zero h
  have hR := sizes_right h
  refine ⟨by have := h1.1; omega, fun p hp => ?_⟩
  have h3 := h1.2 p hp
  have h4 := (hR p hp).1
  obtain ⟨k1, k2⟩ := h3
  omega
/-- a row of the call's own, each delta in it too -/
def RowOwn (w : World) (B : Nat) (v : Value) (xs : List El) : Prop := (∀ x ∈ xs, ElOwn w B x) ∧ w.ownsRow B 38 1 v xs.length (xs.map elV)
theorem el_parts {w : World} {B : Nat} {x : El} (h : ElOwn w B x) : PartsAt w w.heap.size x.2.1 x.1 ∧ Room x.2.1 x.1 x.2.2 := by
  obtain ⟨a, c, e, h1, h2⟩ := parts_ownC h.2 (bound_right h.1)
  simp only [elV, Value.slice.injEq, true_and] at e
  obtain ⟨e1, e2⟩ := e
  rw [e1, e2]
  exact ⟨h1, h2⟩
theorem row_own {w : World} {B : Nat} {v : Value} {xs : List El} (h : RowOwn w B v xs) : ∃ a c, v = .slice a xs.length c ∧ RowAt w w.heap.size a (xs.map (·.1)) c ∧ (a = none → c = 0) := by
  obtain ⟨h0, h⟩ := h
  rcases h.2 with ⟨rfl, hz⟩ | ⟨g, cap, cur, rfl, hB, hg, hn, hm, hc, ht⟩
  · have : xs = [] := List.length_eq_zero_iff.1 hz
    subst this
    exact ⟨none, 0, rfl, row_nil w _ (Nat.le_refl _), fun _ => rfl⟩
  · refine ⟨some ⟨g, 0, none⟩, cap, rfl, ⟨by rw [List.length_map]; exact hn, by simpa [maxLen] using hm, Nat.le_refl _, fun _ => ⟨g, 0, rfl, lt_of_heap hg, fun i x hi => ?_⟩⟩, fun e => by cases e⟩
    rw [List.getElem?_map, Option.map_eq_some_iff] at hi
    obtain ⟨y, hy, rfl⟩ := hi
    have hil := (List.getElem?_eq_some_iff.1 hy).1
    obtain ⟨p1, p2⟩ := el_parts (h0 y (List.mem_of_getElem? hy))
    refine ⟨y.2.1, y.2.2, ?_, p1, p2⟩
    rw [Nat.zero_add, h.cellAt _ (by omega), List.getElem?_map, hy]; rfl
theorem ElOwn.below {w w' : World} {B : Nat} {x : El} (h : ElOwn w B x) (hb : Below w.heap.size w w') : ElOwn w' B x := ⟨h.1, own_belowO h.2 hb (Nat.le_refl _)⟩
theorem RowOwn.below {w w' : World} {B : Nat} {v : Value} {xs : List El} (h : RowOwn w B v xs) (hb : Below w.heap.size w w') : RowOwn w' B v xs := ⟨fun x hx => (h.1 x hx).below hb, own_belowO h.2 hb (Nat.le_refl _)⟩
theorem ElOwn.base {w : World} {B B' : Nat} {x : El} (h : ElOwn w B x) (hB : B' ≤ B) : ElOwn w B' x := ⟨h.1, own_base h.2 hB⟩
theorem RowOwn.base {w : World} {B B' : Nat} {v : Value} {xs : List El} (h : RowOwn w B v xs) (hB : B' ≤ B) : RowOwn w B' v xs := ⟨fun x hx => (h.1 x hx).base hB, own_base h.2 hB⟩
theorem own_ne4 {w : World} {B B' n n' size size' : Nat} {e t : TypeId} {v v' : Value} {xs xs' : List Value} (h : w.ownsRow B e size v n xs) (h' : w.ownsRow B' t size' v' n' xs') (ht : t ≠ e) : v.ownBlock = none ∨ v.ownBlock ≠ v'.ownBlock := by
  rcases h'.2 with ⟨rfl, _⟩ | ⟨g', cap, cur, rfl, _, hc, _⟩
  · rcases h.2 with ⟨rfl, _⟩ | ⟨g, cap, cur, rfl, _⟩
    · left; rfl
    · right; simp [Value.ownBlock]
  · right; exact own_ne' h hc ht
theorem ElOwn.grown {w w' : World} {B B' n size : Nat} {x : El} {e : TypeId} {v : Value} {cs : List Value} (h : ElOwn w B x) (hr : w.ownsRow B' e size v n cs) (he : e ≠ 138) (hg : w.grownBy w' v.ownBlock) : ElOwn w' B x :=
  ⟨h.1, h.2.kept hg (own_ne4 h.2 hr he)⟩
theorem RowOwn.grown {w w' : World} {B B' n size : Nat} {xs : List El} {e : TypeId} {u v : Value} {cs : List Value} (h : RowOwn w B u xs) (hr : w.ownsRow B' e size v n cs) (he : e ≠ 138) (he2 : e ≠ 38) (hg : w.grownBy w' v.ownBlock) : RowOwn w' B u xs :=
  ⟨fun x hx => (h.1 x hx).grown hr he hg, h.2.kept hg (own_ne4 h.2 hr he2)⟩
/-- the blocks of the deltas rise: no two are one -/
def Sep (xs : List El) : Prop := xs.Pairwise (fun x y => ∀ g h, (elV x).ownBlock = some g → (elV y).ownBlock = some h → g < h)
theorem sep_nil : Sep [] := List.Pairwise.nil
theorem sep_app {w : World} {B N : Nat} {xs ys : List El} (hx : Sep xs) (hy : Sep ys) (h1 : ∀ x ∈ xs, ElOwn w B x) (hw : w.heap.size ≤ N) (h2 : ∀ y ∈ ys, ∀ h, (elV y).ownBlock = some h → N ≤ h) : Sep (xs ++ ys) := by
  refine List.pairwise_append.2 ⟨hx, hy, fun x hx y hy g h hg hh => ?_⟩
  have h3 := ((h1 x hx).2.lt g hg).2
  have h4 := h2 y hy h hh
  omega
theorem sep_one (x : El) : Sep [x] := List.pairwise_singleton _ _
/-- a row of deltas, and where it lies -/
abbrev Tr := List El × Option Addr × Nat
def trV (r : Tr) : Value := .slice r.2.1 r.1.length r.2.2
def TiersOwn (w : World) (B : Nat) (v : Value) (rs : List Tr) : Prop := (∀ r ∈ rs, RowOwn w B (trV r) r.1) ∧ w.ownsRow B 123 1 v rs.length (rs.map trV)
theorem tiers_own {w : World} {B : Nat} {v : Value} {rs : List Tr} (h : TiersOwn w B v rs) : ∃ a c, v = .slice a rs.length c ∧ TiersAt w w.heap.size a (rs.map (fun r => r.1.map (·.1))) c ∧ (a = none → c = 0) := by
  obtain ⟨h0, h⟩ := h
  rcases h.2 with ⟨rfl, hz⟩ | ⟨g, cap, cur, rfl, hB, hg, hn, hm, hc, ht⟩
  · have : rs = [] := List.length_eq_zero_iff.1 hz
    subst this
    exact ⟨none, 0, rfl, tiers_nil w _ (Nat.le_refl _), fun _ => rfl⟩
  · refine ⟨some ⟨g, 0, none⟩, cap, rfl, ⟨by rw [List.length_map]; exact hn, by simpa [maxLen] using hm, Nat.le_refl _, fun _ => ⟨g, 0, rfl, lt_of_heap hg, fun i x hi => ?_⟩⟩, fun e => by cases e⟩
    rw [List.getElem?_map, Option.map_eq_some_iff] at hi
    obtain ⟨y, hy, rfl⟩ := hi
    have hil := (List.getElem?_eq_some_iff.1 hy).1
    obtain ⟨a1, c1, e1, h1, _⟩ := row_own (h0 y (List.mem_of_getElem? hy))
    simp only [trV, Value.slice.injEq, true_and] at e1
    obtain ⟨e2, e3⟩ := e1
    refine ⟨y.2.1, y.2.2, ?_, by rw [e2, e3]; exact h1⟩
    rw [Nat.zero_add, h.cellAt _ (by omega), List.getElem?_map, hy, List.length_map]; rfl
theorem TiersOwn.below {w w' : World} {B : Nat} {v : Value} {rs : List Tr} (h : TiersOwn w B v rs) (hb : Below w.heap.size w w') : TiersOwn w' B v rs := ⟨fun r hr => (h.1 r hr).below hb, own_belowO h.2 hb (Nat.le_refl _)⟩
theorem cells_slice (l : List Value) (h : ∀ v ∈ l, ∃ a n c, v = .slice a n c) : ∀ u ∈ l, u.oneCell' = true := by
  intro u hu
  obtain ⟨a, n, c, rfl⟩ := h u hu
  rfl
theorem infoSl1 : (Try.prog.info? 38).map (fun i => (i.zero, i.size, i.bytes)) = some (some (.slice none 0 0), 1, 24) := by kernel_rfl
theorem infoSl2 : (Try.prog.info? 123).map (fun i => (i.zero, i.size, i.bytes)) = some (some (.slice none 0 0), 1, 24) := by kernel_rfl
/-- one revision alone -/
theorem bet_one {s : List UInt8} {l : List Rv} {i : Nat} {r : Rv} (h : checkE s l = 0) (hi : l[i]? = some r) : betO s l i (i + 1) = r.d := by
  obtain ⟨h1, h2, h3⟩ := check_zero h
  obtain ⟨o1, o2, o3, o4⟩ := hist_at h3 hi
  have hl := (List.getElem?_eq_some_iff.1 hi).1
  have e : (l.take (i + 1)).drop i = [r] := by
    have h4 : (l.take (i + 1))[i]? = some r := by rw [List.getElem?_take, if_pos (by omega)]; exact hi
    rw [drop_rv h4, List.drop_eq_nil_of_le (by rw [List.length_take]; omega)]
  rw [betO, e, ← o4]
  obtain ⟨_, _, u3, u4⟩ := comp_units o2
  show compR r.d (allN (outI r.d)) = r.d
  rw [compR, if_pos u3, u4]
/-- two and two of a row -/
def pairL : List (List Pt) → List (List Pt)
  | a :: b :: r => compR a b :: pairL r
  | _ => []
theorem pair_len : ∀ (n : Nat) (X : List (List Pt)), X.length ≤ n → (pairL X).length = X.length / 2 := by
  intro n
  induction n with
  | zero => intro X h; have : X = [] := List.length_eq_zero_iff.1 (by omega); subst this; rfl
  | succ n ih =>
    intro X h
    match X with
    | [] => rfl
    | [x] => simp [pairL]
    | a :: b :: r =>
      rw [pairL, List.length_cons, ih r (by simp at h; omega)]
      simp only [List.length_cons]; omega
theorem pair_at : ∀ (m : Nat) (X : List (List Pt)) (a b : List Pt), X[2 * m]? = some a → X[2 * m + 1]? = some b → (pairL X)[m]? = some (compR a b) := by
  intro m
  induction m with
  | zero =>
    intro X a b ha hb
    match X with
    | [] => simp at ha
    | [x] => simp at hb
    | x :: y :: r =>
      simp at ha hb
      subst ha hb
      rfl
  | succ m ih =>
    intro X a b ha hb
    match X with
    | [] => simp at ha
    | [x] => simp at hb
    | x :: y :: r =>
      rw [show 2 * (m + 1) = 2 * m + 1 + 1 by omega] at ha hb
      simp only [List.getElem?_cons_succ] at ha hb
      rw [pairL, List.getElem?_cons_succ]
      exact ih r a b ha hb
theorem tier_at {s : List UInt8} {l : List Rv} {v b : Nat} (h : b < l.length / 2 ^ v) : (tierRow s l v)[b]? = some (betO s l (b * 2 ^ v) ((b + 1) * 2 ^ v)) := by
  rw [tierRow, List.getElem?_map, List.getElem?_range h]; rfl
theorem tier_len (s : List UInt8) (l : List Rv) (v : Nat) : (tierRow s l v).length = l.length / 2 ^ v := by rw [tierRow, List.length_map, List.length_range]
theorem blk_in2 {n v b : Nat} (h : b < n / 2 ^ v) : (b + 1) * 2 ^ v ≤ n := by
  have hp : 0 < 2 ^ v := Nat.two_pow_pos v
  exact (Nat.le_div_iff_mul_le hp).1 h
theorem tier_next {s : List UInt8} {l : List Rv} {v : Nat} (h : checkE s l = 0) : pairL (tierRow s l v) = tierRow s l (v + 1) := by
  apply List.ext_getElem?
  intro m
  have hlen : (pairL (tierRow s l v)).length = l.length / 2 ^ (v + 1) := by rw [pair_len _ _ (Nat.le_refl _), tier_len, tier_half]
  rcases Nat.lt_or_ge m (l.length / 2 ^ (v + 1)) with hm | hm
  · have hm2 := hm
    rw [tier_half] at hm2
    rw [tier_at hm]
    have a1 := tier_at (s := s) (l := l) (v := v) (b := 2 * m) (by omega)
    have a2 := tier_at (s := s) (l := l) (v := v) (b := 2 * m + 1) (by omega)
    rw [pair_at m _ _ _ a1 a2]
    obtain ⟨t1, t2⟩ := tier_pair (s := s) (v := v) (b := m) h (blk_in2 hm)
    rw [show 2 * m + 1 + 1 = 2 * m + 2 by omega, t2]
  · rw [List.getElem?_eq_none (by omega), List.getElem?_eq_none (by rw [tier_len]; exact hm)]
/-- each two fit, and make a delta -/
theorem tier_fits {s : List UInt8} {l : List Rv} {v m : Nat} {a b : List Pt} (h : checkE s l = 0) (ha : (tierRow s l v)[2 * m]? = some a) (hb : (tierRow s l v)[2 * m + 1]? = some b) : compE a b = 0 ∧ sizesE (compR a b) = 0 := by
  have h1 := (List.getElem?_eq_some_iff.1 hb).1
  rw [tier_len] at h1
  have hm : m < l.length / 2 ^ (v + 1) := by rw [tier_half]; omega
  rw [tier_at (by omega)] at ha
  rw [tier_at h1] at hb
  obtain ⟨t1, t2⟩ := tier_pair (s := s) (v := v) (b := m) h (blk_in2 hm)
  obtain rfl := Option.some.inj ha
  obtain rfl := Option.some.inj hb
  rw [show 2 * m + 1 + 1 = 2 * m + 2 by omega]
  refine ⟨t1, ?_⟩
  rw [t2]
  have hp : 0 < 2 ^ (v + 1) := Nat.two_pow_pos _
  have h2 := up_next m (v + 1)
  exact (bet_says h (by omega) (blk_in2 hm)).1
theorem tier_zero {s : List UInt8} {l : List Rv} (h : checkE s l = 0) : tierRow s l 0 = l.map (·.d) := by
  apply List.ext_getElem?
  intro m
  rcases Nat.lt_or_ge m l.length with hm | hm
  · obtain ⟨r, hr⟩ : ∃ r, l[m]? = some r := ⟨l[m], List.getElem?_eq_getElem hm⟩
    rw [tier_at (by simpa using hm), List.getElem?_map, hr]
    have := bet_one h hr
    simp only [Nat.pow_zero, Nat.mul_one]
    rw [this]; rfl
  · rw [List.getElem?_eq_none (by rw [tier_len]; simpa using hm), List.getElem?_map, List.getElem?_eq_none hm]; rfl
end Go.Proofs.Ytgffippimmokiaa

/- The program's Build: single revisions, two and two of them, and so on. -/
namespace Go.Proofs.Ytgffippimmokiaa
open Go.RowKit
set_option linter.unusedSimpArgs false
set_option linter.unusedVariables false

set_option maxHeartbeats 1000000 in
theorem tcopied_any (a : Option Addr) (d : List Pt) (c : Nat) (w : World) (hp : PartsAt w w.heap.size a d) (h : sizesE d = 0) :
    Calls Try.prog 101 #[.slice a d.length c] w fun e w' => ∃ a' c', e = .returned (.slice a' d.length c') ∧ ElOwn w' w.heap.size (d, a', c') ∧ Below w.heap.size w w' := by
  have HN : Hid (∀ w : World, PartsAt w w.heap.size a d → _) := fun w hp => NormO_any a d c w hp
  obtain ⟨n1, n2⟩ := norm_delta h
  rw [n1, n2] at HN
  have HP : Hid (PartsAt w w.heap.size a d) := hp
  have HS : Hid (sizesE d = 0) := h
  clear hp n1 n2 h
  go_enter Try.func101, Try.ntmps101
  go_wp2_with fail
  refine (HN.out _ HP.out).mono ?_
  rintro e w1 ⟨v, rfl, ho, hb⟩
  obtain ⟨a1, c1, rfl⟩ := slice_form' ho
  have HO : Hid (ElOwn w1 w.heap.size (d, a1, c1) ∧ Below w.heap.size w w1) := ⟨⟨HS.out, ho⟩, hb⟩
  clear ho hb
  go_wp2_with fail
  go_ret
  exact ⟨a1, c1, rfl, HO.out.1, HO.out.2⟩
/-- one delta more in a row -/
theorem row_grow {w w' : World} {B : Nat} {u v : Value} {xs : List El} {x : El} (h : RowOwn w B v xs) (hx : ElOwn w B x) (ho : w'.ownsRow B 38 1 u (xs.length + 1) (xs.map elV ++ [elV x])) (hg : (w.alloc (.cells #[elV x] 38)).grownBy w' v.ownBlock) : RowOwn w' B u (xs ++ [x]) := by
  have hr := own_alloc h.2 (.cells #[elV x] 38)
  have hel : ∀ y, ElOwn w B y → ElOwn w' B y := fun y hy => ElOwn.grown (e := 38) ⟨hy.1, own_alloc hy.2 _⟩ hr (by decide) hg
  refine ⟨fun y hy => ?_, by rw [List.length_append, List.map_append]; exact ho⟩
  rcases List.mem_append.1 hy with hy | hy
  · exact hel y (h.1 y hy)
  · obtain rfl : y = x := by simpa using hy
    exact hel y hx
set_option maxHeartbeats 4000000 in
theorem single_any (a : Option Addr) (l : List Rv) (cap : Nat) (w : World) (hl : RevsAt w w.heap.size a l) (h64 : l.length ≤ 64) (hd : ∀ r ∈ l, sizesE r.d = 0) :
    Calls Try.prog 69 #[.slice a l.length cap] w fun e w' => ∃ v xs, e = .returned v ∧ xs.map (·.1) = l.map (·.d) ∧ RowOwn w' w.heap.size v xs ∧ Sep xs ∧ Below w.heap.size w w' := by
  obtain ⟨ip, hip, hp0, hp1, hp2⟩ := info_parts infoSl1
  have HL : Hid (RevsAt w w.heap.size a l) := hl
  have HD : Hid (∀ r ∈ l, sizesE r.d = 0) := hd
  clear hl hd
  go_enter Try.func69, Try.ntmps69
  go_wp2_with fail
  go_loopw [3, 8] (fun v i wr => ∃ (k : Nat) (xs : List El), k ≤ l.length ∧ i = .int .i64 k ∧ xs.map (·.1) = (l.take k).map (·.d) ∧ RowOwn wr w.heap.size v xs ∧ Sep xs ∧ Below w.heap.size w wr) (fun _ i _ => l.length - (intOf i).toNat)
  case atStart => exact ⟨0, [], Nat.zero_le _, rfl, rfl, ⟨fun x hx => by simp at hx, World.ownsRow_nil _ _ _ _⟩, sep_nil, Below.refl _ _⟩
  case round =>
    rename World => wr
    obtain ⟨k, xs, hk, rfl, hxs, hown, hsep, hb⟩ := hrel
    have hlen : xs.length = k := by
      have := congrArg List.length hxs
      rw [List.length_map, List.length_map, List.length_take] at this
      omega
    obtain ⟨ao, ca, rfl⟩ := slice_form' hown.2
    have hz := hb.size
    have HB : Hid (Below w.heap.size w wr) := hb
    have HO : Hid (RowOwn wr w.heap.size (.slice ao xs.length ca) xs) := hown
    have HX : Hid (xs.map (·.1) = (l.take k).map (·.d) ∧ Sep xs ∧ xs.length = k) := ⟨hxs, hsep, hlen⟩
    clear hown hxs hsep
    by_cases hlt : k < l.length
    · obtain ⟨r, hr⟩ : ∃ r, l[k]? = some r := ⟨l[k], List.getElem?_eq_getElem hlt⟩
      have hki : (k : Int) < (l.length : Int) := by omega
      obtain ⟨g, og, ai, ci, e1, hg, c1, c2, c3, hp, hroom⟩ := (HL.out.here hb (Nat.le_refl _)).mem hr
      subst e1
      have hbx : Below wr.heap.size wr (wr.alloc (.cells #[.int .i64 r.who, .int .i64 r.seq, .slice ai r.d.length ci] 40)) := (Below.refl _ _).alloc (Nat.le_refl _) _
      have HP1 : Hid (PartsAt (wr.alloc (.cells #[.int .i64 r.who, .int .i64 r.seq, .slice ai r.d.length ci] 40)) (wr.alloc (.cells #[.int .i64 r.who, .int .i64 r.seq, .slice ai r.d.length ci] 40)).heap.size ai r.d) := hp.here hbx (Nat.le_refl _)
      have HB1 : Hid (Below w.heap.size w (wr.alloc (.cells #[.int .i64 r.who, .int .i64 r.seq, .slice ai r.d.length ci] 40))) := HB.out.alloc hz _
      have HO1 : Hid (RowOwn (wr.alloc (.cells #[.int .i64 r.who, .int .i64 r.seq, .slice ai r.d.length ci] 40)) w.heap.size (.slice ao xs.length ca) xs) := HO.out.below hbx
      have HR : Hid (l[k]? = some r) := hr
      have HSZ : Hid ((wr.alloc (.cells #[.int .i64 r.who, .int .i64 r.seq, .slice ai r.d.length ci] 40)).heap.size = wr.heap.size + 1) := Deep.nblk_alloc _ _
      have hxl : xs.length ≤ 64 := by omega
      clear hp hroom hbx hb hr hlen
      go_wp2_with fail
      refine (tcopied_any ai r.d ci _ HP1.out (HD.out r (List.mem_of_getElem? HR.out))).mono ?_
      rintro e w1 ⟨a1, c1', rfl, hel, hb1⟩
      have HB2 : Hid (Below w.heap.size w w1) := HB1.out.trans (hb1.mono HB1.out.size)
      have HO2 : Hid (RowOwn w1 w.heap.size (.slice ao xs.length ca) xs) := HO1.out.below hb1
      have hle : w.heap.size ≤ (wr.alloc (.cells #[.int .i64 r.who, .int .i64 r.seq, .slice ai r.d.length ci] 40)).heap.size := HB1.out.size
      have HE2 : Hid (ElOwn w1 w.heap.size (r.d, a1, c1')) := hel.base hle
      have HS2 : Hid (Sep (xs ++ [(r.d, a1, c1')])) := by
        refine sep_app HX.out.2.1 (sep_one _) HO.out.1 (N := wr.heap.size) (Nat.le_refl _) (fun y hy h hh => ?_)
        obtain rfl : y = (r.d, a1, c1') := by simpa using hy
        have h5 := (hel.2.lt h hh).1
        have h6 := HSZ.out
        omega
      have hz2 := HB2.out.size
      have hA := own_alloc HO2.out.2 (.cells #[elV (r.d, a1, c1')] 38)
      clear hel hb1 hle
      go_wp2_with (at_builtin; refine wpList_append_own _ rfl _ _ 123 rfl w.heap.size 38 ip _ 1 24 Try.underlying123 hip hp0 hp1 hp2 rfl (by decide) _ _ _ rfl hA ⟨w1.heap.size, 0, none⟩ 1 1 [elV (r.d, a1, c1')] rfl rfl (cell_one_new _ _ _) (by simp [Value.oneCell', elV]) ?c3 ?c4 ?c5 ?_)
      case c3 => unfold maxLen; omega
      case c4 => omega
      case c5 => first | omega | (simp; omega)
      intro v' w3 hown2 hgrow _
      have HB4 : Hid (Below w.heap.size w w3) := below_own' (HB2.out.alloc hz2 _) hA hgrow (by simp; omega)
      have HO3 : Hid (RowOwn w3 w.heap.size v' (xs ++ [(r.d, a1, c1')])) := row_grow HO2.out HE2.out hown2 hgrow
      have HX3 : Hid ((xs ++ [(r.d, a1, c1')]).map (·.1) = (l.take (k + 1)).map (·.d)) := by
        show _ = _
        rw [List.map_append, HX.out.1, List.take_add_one, HR.out, List.map_append]; rfl
      clear hown2 hgrow hA
      go_wp2_with fail
      go_roundw
      case rel => exact ⟨k + 1, xs ++ [(r.d, a1, c1')], by omega, by go_num, HX3.out, HO3.out, HS2.out, HB4.out⟩
      case measure => simp [intOf]; omega
    · have hki : ¬ (k : Int) < (l.length : Int) := by omega
      have HX2 : Hid (xs.map (·.1) = l.map (·.d)) := by
        show _ = _
        rw [HX.out.1, List.take_of_length_le (by omega)]
      clear hb hlen
      go_wp2_with fail
      go_ret
      first | exact ⟨_, xs, rfl, HX2.out, HO.out, HX.out.2.1, HB.out⟩ | exact ⟨_, rfl, xs, HX2.out, HO.out, HX.out.2.1, HB.out⟩

set_option maxHeartbeats 4000000 in
theorem paired_any (a : Option Addr) (X : List (List Pt)) (cap : Nat) (w : World) (hv : RowAt w w.heap.size a X cap) (h64 : X.length ≤ 64)
    (hf : ∀ m x y, X[2 * m]? = some x → X[2 * m + 1]? = some y → compE x y = 0 ∧ sizesE (compR x y) = 0) :
    Calls Try.prog 70 #[.slice a X.length cap] w fun e w' => ∃ v xs, e = .returned v ∧ xs.map (·.1) = pairL X ∧ RowOwn w' w.heap.size v xs ∧ Sep xs ∧ Below w.heap.size w w' := by
  obtain ⟨ip, hip, hp0, hp1, hp2⟩ := info_parts infoSl1
  have HV : Hid (RowAt w w.heap.size a X cap) := hv
  have HF : Hid (∀ m x y, X[2 * m]? = some x → X[2 * m + 1]? = some y → compE x y = 0 ∧ sizesE (compR x y) = 0) := hf
  have HPL : Hid ((pairL X).length = X.length / 2) := pair_len _ _ (Nat.le_refl _)
  clear hv hf
  go_enter Try.func70, Try.ntmps70
  go_wp2_with fail
  go_loopw [3, 4] (fun v i wr => ∃ (m : Nat) (xs : List El), m ≤ X.length / 2 ∧ i = .int .i64 ((2 * m + 1 : Nat) : Int) ∧ xs.map (·.1) = (pairL X).take m ∧ RowOwn wr w.heap.size v xs ∧ Sep xs ∧ Below w.heap.size w wr) (fun _ i _ => X.length + 2 - (intOf i).toNat)
  case atStart => exact ⟨0, [], Nat.zero_le _, rfl, rfl, ⟨fun x hx => by simp at hx, World.ownsRow_nil _ _ _ _⟩, sep_nil, Below.refl _ _⟩
  case round =>
    rename World => wr
    obtain ⟨m, xs, hm, rfl, hxs, hown, hsep, hb⟩ := hrel
    have hlen : xs.length = m := by
      have := congrArg List.length hxs
      rw [List.length_map, List.length_take, HPL.out] at this
      omega
    obtain ⟨ao, ca, rfl⟩ := slice_form' hown.2
    have hz := hb.size
    have HB : Hid (Below w.heap.size w wr) := hb
    have HO : Hid (RowOwn wr w.heap.size (.slice ao xs.length ca) xs) := hown
    have HX : Hid (xs.map (·.1) = (pairL X).take m ∧ Sep xs ∧ xs.length = m) := ⟨hxs, hsep, hlen⟩
    clear hown hxs hsep
    obtain ⟨i, hi⟩ : ∃ i, 2 * m + 1 = i := ⟨_, rfl⟩
    have HI : Hid (i = 2 * m + 1) := hi.symm
    rw [hi]
    by_cases hlt : 2 * m + 1 < X.length
    · obtain ⟨x, hx⟩ : ∃ x, X[2 * m]? = some x := ⟨X[2 * m], List.getElem?_eq_getElem (by omega)⟩
      obtain ⟨y, hy⟩ : ∃ y, X[2 * m + 1]? = some y := ⟨X[2 * m + 1], List.getElem?_eq_getElem hlt⟩
      obtain ⟨j, hj⟩ : ∃ j, 2 * m = j := ⟨_, rfl⟩
      have hvr := HV.out.here hb (Nat.le_refl _)
      obtain ⟨g, og, ax, cx, e1, hg, x1, x2, x3⟩ := hvr.mem hx
      obtain ⟨g', og', ay, cy, e2, _, y1, y2, y3⟩ := hvr.mem hy
      subst e1
      simp only [Option.some.injEq, Addr.mk.injEq, and_true] at e2
      obtain ⟨rfl, rfl⟩ := e2
      rw [hi] at y1
      rw [hj] at x1
      obtain ⟨f1, f2⟩ := HF.out m x y hx hy
      have HPX : Hid (PartsAt wr wr.heap.size ax x) := x2
      have HPY : Hid (PartsAt wr wr.heap.size ay y) := y2
      have hcx := x3.1
      have HCO : Hid (∀ w : World, PartsAt w w.heap.size ax x → PartsAt w w.heap.size ay y → _) := fun w h1 h2 => CompO_any ax ay x y cx cy w h1 h2 hcx
      rw [f1] at HCO
      have HS : Hid (sizesE (compR x y) = 0 ∧ (pairL X).take (m + 1) = (pairL X).take m ++ [compR x y]) := ⟨f2, by rw [List.take_add_one, pair_at m X x y hx hy]; rfl⟩
      obtain ⟨z, hz'⟩ : ∃ z, compR x y = z := ⟨_, rfl⟩
      rw [hz'] at HCO HS
      have hii : ((i : Nat) : Int) < (X.length : Int) := by omega
      have hjj : ((j : Nat) : Int) < (X.length : Int) := by omega
      have hij2 : IntKind.i64.wrap ((i : Int) - 1) = (j : Int) := by rw [show (i : Int) - 1 = (j : Int) by omega]; exact IntWalk.i64_in (j : Int) ⟨by omega, by omega⟩
      have hi0 : (0 : Int) ≤ (i : Int) := by omega
      have hj0 : (0 : Int) ≤ (j : Int) := by omega
      have hxl : xs.length ≤ 64 := by omega
      have hi66 : (i : Int) ≤ 66 := by omega
      clear hvr hx hy x2 x3 y2 y3 f1 f2 hz' hcx hb hj hlen hi
      go_wp2_with fail
      go_region_held3 (fun w' => w'.cell? ⟨g, og + j, none⟩ = some (.slice ax x.length cx) ∧ w'.cell? ⟨g, og + i, none⟩ = some (.slice ay y.length cy)) (first | go_keep | exact held2 (w := wr.drew) x1 y1 hb1 hg hg) (first | (go_at_call 75; refine (HCO.out _ (HPX.out.here (Below.refl _ _).drew (Nat.le_refl _)) (HPY.out.here (Below.refl _ _).drew (Nat.le_refl _))).mono ?_; rintro e w1 ⟨v1, rfl, ho1, hb1⟩))
      obtain ⟨a1, c1, rfl⟩ := slice_form' ho1
      have hbd : Below wr.heap.size wr w1 := ((Below.refl _ wr).drew).trans hb1
      have HB2 : Hid (Below w.heap.size w w1) := HB.out.trans (hbd.mono hz)
      have HO2 : Hid (RowOwn w1 w.heap.size (.slice ao xs.length ca) xs) := HO.out.below hbd
      have hel : ElOwn w1 wr.heap.size (z, a1, c1) := ⟨HS.out.1, ho1⟩
      have HE2 : Hid (ElOwn w1 w.heap.size (z, a1, c1)) := hel.base hz
      have HS2 : Hid (Sep (xs ++ [(z, a1, c1)])) := by
        refine sep_app HX.out.2.1 (sep_one _) HO.out.1 (N := wr.heap.size) (Nat.le_refl _) (fun y hy h hh => ?_)
        obtain rfl : y = (z, a1, c1) := by simpa using hy
        exact (hel.2.lt h hh).1
      have hz2 := HB2.out.size
      have hA := own_alloc HO2.out.2 (.cells #[elV (z, a1, c1)] 38)
      clear hel hb1 hbd ho1 x1 y1 hij2
      go_wp2_with (at_builtin; refine wpList_append_own _ rfl _ _ 123 rfl w.heap.size 38 ip _ 1 24 Try.underlying123 hip hp0 hp1 hp2 rfl (by decide) _ _ _ rfl hA ⟨w1.heap.size, 0, none⟩ 1 1 [elV (z, a1, c1)] rfl rfl (cell_one_new _ _ _) (by simp [Value.oneCell', elV]) ?c3 ?c4 ?c5 ?_)
      case c3 => unfold maxLen; omega
      case c4 => omega
      case c5 => first | omega | (simp; omega)
      intro v' w3 hown2 hgrow _
      have HB4 : Hid (Below w.heap.size w w3) := below_own' (HB2.out.alloc hz2 _) hA hgrow (by simp; omega)
      have HO3 : Hid (RowOwn w3 w.heap.size v' (xs ++ [(z, a1, c1)])) := row_grow HO2.out HE2.out hown2 hgrow
      have HX3 : Hid ((xs ++ [(z, a1, c1)]).map (·.1) = (pairL X).take (m + 1)) := by
        show _ = _
        rw [HS.out.2, List.map_append, HX.out.1]; rfl
      clear hown2 hgrow hA
      go_wp2_with fail
      have hi := HI.out
      go_roundw
      case rel => exact ⟨m + 1, xs ++ [(z, a1, c1)], by omega, by rw [show ((2 * (m + 1) + 1 : Nat) : Int) = (i : Int) + 2 by omega], HX3.out, HO3.out, HS2.out, HB4.out⟩
      case measure => simp [intOf]; omega
    · have hki : ¬ (i : Int) < (X.length : Int) := by omega
      have HX2 : Hid (xs.map (·.1) = pairL X) := by
        show _ = _
        rw [HX.out.1, List.take_of_length_le (by rw [HPL.out]; omega)]
      clear hb hlen hi
      go_wp2_with fail
      go_ret
      first | exact ⟨_, xs, rfl, HX2.out, HO.out, HX.out.2.1, HB.out⟩ | exact ⟨_, rfl, xs, HX2.out, HO.out, HX.out.2.1, HB.out⟩

/-- the levels that are made -/
theorem lv_end {n v : Nat} (h : n ≤ 64) (hv : v ≤ lvN n) (h0 : n / 2 ^ v = 0) : lvN n = v := by
  have hp : 0 < 2 ^ v := Nat.two_pow_pos v
  have h1 : n < 2 ^ v := by rw [Nat.div_eq_zero_iff] at h0; omega
  have h7 : lvN n ≤ 7 := by
    rw [lvN]
    exact Nat.le_trans (List.length_filter_le _ _) (by simp)
  rcases Nat.lt_or_ge v (lvN n) with h2 | h2
  · have := (lvN_iff h (by omega)).1 h2; omega
  · omega
theorem lv_more {n v : Nat} (h : n ≤ 64) (hv : v ≤ lvN n) (h0 : 0 < n / 2 ^ v) : v + 1 ≤ lvN n := by
  have hp : 0 < 2 ^ v := Nat.two_pow_pos v
  have h1 : 2 ^ v ≤ n := by
    rcases Nat.lt_or_ge n (2 ^ v) with h2 | h2
    · rw [Nat.div_eq_of_lt h2] at h0; omega
    · exact h2
  have h7 : v ≤ 6 := by
    rcases Nat.lt_or_ge v 7 with h2 | h2
    · omega
    · have : 2 ^ 7 ≤ 2 ^ v := Nat.pow_le_pow_right (by omega) h2
      omega
  exact (lvN_iff h h7).2 h1
/-- one row more -/
theorem tiers_grow {w w' : World} {B : Nat} {u v : Value} {rs : List Tr} {r : Tr} (h : TiersOwn w B v rs) (hr : RowOwn w B (trV r) r.1) (ho : w'.ownsRow B 123 1 u (rs.length + 1) (rs.map trV ++ [trV r])) (hg : (w.alloc (.cells #[trV r] 123)).grownBy w' v.ownBlock) : TiersOwn w' B u (rs ++ [r]) := by
  have hb : Below w.heap.size w (w.alloc (.cells #[trV r] 123)) := (Below.refl _ _).alloc (Nat.le_refl _) _
  have hv := own_alloc h.2 (.cells #[trV r] 123)
  have hel : ∀ y : Tr, RowOwn w B (trV y) y.1 → RowOwn w' B (trV y) y.1 := fun y hy => RowOwn.grown (e := 123) (hy.below hb) hv (by decide) (by decide) hg
  refine ⟨fun y hy => ?_, by rw [List.length_append, List.map_append]; exact ho⟩
  rcases List.mem_append.1 hy with hy | hy
  · exact hel y (h.1 y hy)
  · obtain rfl : y = r := by simpa using hy
    exact hel y hr
/-- all deltas of tiers -/
def allEl (rs : List Tr) : List El := rs.flatMap (·.1)
theorem allEl_app (rs : List Tr) (r : Tr) : allEl (rs ++ [r]) = allEl rs ++ r.1 := by simp [allEl]
theorem allEl_own {w : World} {B : Nat} {v : Value} {rs : List Tr} (h : TiersOwn w B v rs) : ∀ x ∈ allEl rs, ElOwn w B x := by
  intro x hx
  obtain ⟨r, hr, hx⟩ := List.mem_flatMap.1 hx
  exact (h.1 r hr).1 x hx
/-- how many there are -/
def trowN : Value → Nat
  | .slice _ n _ => n
  | _ => 0
set_option maxHeartbeats 4000000 in
theorem Build_ok (s : ByteArray) (a : Option Addr) (l : List Rv) (cap : Nat) (w : World) (hl : RevsAt w w.heap.size a l) (h0 : checkE s.data.toList l = 0) :
    Calls Try.prog 28 #[.string s, .slice a l.length cap] w fun e w' => ∃ v rs, e = .returned (.tuple #[v, .int .i64 0]) ∧ rs.map (fun r : Tr => r.1.map (·.1)) = tiersL s.data.toList l ∧ TiersOwn w' w.heap.size v rs ∧ Sep (allEl rs) ∧ Below w.heap.size w w' := by
  obtain ⟨ip, hip, hp0, hp1, hp2⟩ := info_parts infoSl2
  obtain ⟨z1, z2, z3⟩ := check_zero h0
  have hsl : s.data.toList.length = s.size := Array.length_toList
  have hC : Hid (∀ w : World, RevsAt w w.heap.size a l → _) := fun w hl => RevCheck_any s a l cap w hl (by omega)
  rw [h0] at hC
  have HL : Hid (RevsAt w w.heap.size a l) := hl
  have H0 : Hid (checkE s.data.toList l = 0) := h0
  have HD : Hid (∀ r ∈ l, sizesE r.d = 0) := fun r hr => by
    obtain ⟨i, hi⟩ := List.getElem?_of_mem hr
    exact (hist_at z3 hi).2.1
  clear hl h0 z1 z3 hsl
  go_enter Try.func28, Try.ntmps28
  go_wp2_with fail
  refine (hC.out _ HL.out).mono ?_
  rintro e w1 ⟨rfl, hb1⟩
  have HB1 : Hid (Below w.heap.size w w1) := hb1
  have HL1 : Hid (RevsAt w1 w1.heap.size a l) := HL.out.here hb1 (Nat.le_refl _)
  have hz1 := hb1.size
  clear hb1
  go_wp2_with fail
  refine (single_any a l cap _ HL1.out z2 HD.out).mono ?_
  rintro e w2 ⟨v2, xs, rfl, hxs, hown, hsep, hb2⟩
  have HB2 : Hid (Below w.heap.size w w2) := HB1.out.trans (hb2.mono hz1)
  have HX2 : Hid (xs.map (·.1) = tierRow s.data.toList l 0) := hxs.trans (tier_zero H0.out).symm
  have HO2 : Hid (RowOwn w2 w.heap.size v2 xs ∧ Sep xs ∧ ∀ x ∈ xs, ∀ h, (elV x).ownBlock = some h → w.heap.size ≤ h) := ⟨hown.base hz1, hsep, fun x hx h hh => by have := ((hown.1 x hx).2.lt h hh).1; omega⟩
  clear hxs hown hsep hb2
  go_wp2_with fail
  go_loopw [7, 8] (fun tv rv wr => ∃ (v : Nat) (rs : List Tr) (xs : List El), v ≤ lvN l.length ∧ rs.map (fun r : Tr => r.1.map (·.1)) = (List.range v).map (tierRow s.data.toList l) ∧ TiersOwn wr w.heap.size tv rs ∧ xs.map (·.1) = tierRow s.data.toList l v ∧ RowOwn wr w.heap.size rv xs ∧ Sep (allEl rs ++ xs) ∧ Below w.heap.size w wr) (fun _ rv _ => trowN rv)
  case atStart => exact ⟨0, [], xs, Nat.zero_le _, rfl, ⟨fun r hr => by simp at hr, World.ownsRow_nil _ _ _ _⟩, HX2.out, HO2.out.1, HO2.out.2.1, HB2.out⟩
  case round =>
    rename World => wr
    obtain ⟨v, rs, xs, hv, hrs, hto, hxs, hro, hsep, hb⟩ := hrel
    obtain ⟨at_, ct, rfl⟩ := slice_form' hto.2
    obtain ⟨ar, cr, rfl, hra, _⟩ := row_own hro
    have hrl : rs.length = v := by
      have := congrArg List.length hrs
      rw [List.length_map, List.length_map, List.length_range] at this
      exact this
    have hxl : xs.length = l.length / 2 ^ v := by
      have := congrArg List.length hxs
      rw [List.length_map, tier_len] at this
      exact this
    have hz := hb.size
    have HB : Hid (Below w.heap.size w wr) := hb
    have HTO : Hid (TiersOwn wr w.heap.size (.slice at_ rs.length ct) rs) := hto
    have HRO : Hid (RowOwn wr w.heap.size (.slice ar xs.length cr) xs) := hro
    have HX : Hid (rs.map (fun r : Tr => r.1.map (·.1)) = (List.range v).map (tierRow s.data.toList l) ∧ xs.map (·.1) = tierRow s.data.toList l v ∧ Sep (allEl rs ++ xs) ∧ xs.length = l.length / 2 ^ v) := ⟨hrs, hxs, hsep, hxl⟩
    have hv7 : lvN l.length ≤ 7 := by
      rw [lvN]
      exact Nat.le_trans (List.length_filter_le _ _) (by simp)
    have hxl64 : xs.length ≤ 64 := by rw [hxl]; exact Nat.le_trans (Nat.div_le_self _ _) z2
    clear hrs hto hxs hro hsep hb hra hxl
    by_cases hlt : 0 < xs.length
    · have hli : (0 : Int) < (xs.length : Int) := by omega
      have hA := own_alloc HTO.out.2 (.cells #[trV (xs, ar, cr)] 123)
      have hr7 : rs.length ≤ 7 := by omega
      have HV1 : Hid (v + 1 ≤ lvN l.length) := lv_more z2 hv (by have := HX.out.2.2.2; omega)
      clear hrl
      go_wp2_with (at_builtin; refine wpList_append_own _ rfl _ _ 64 rfl w.heap.size 123 ip _ 1 24 Try.underlying64 hip hp0 hp1 hp2 rfl (by decide) _ _ _ rfl hA ⟨wr.heap.size, 0, none⟩ 1 1 [trV (xs, ar, cr)] rfl rfl (cell_one_new _ _ _) (by simp [Value.oneCell', trV]) ?c3 ?c4 ?c5 ?_)
      case c3 => unfold maxLen; omega
      case c4 => omega
      case c5 => first | omega | (simp; omega)
      intro v' w3 hown2 hgrow _
      have HB3 : Hid (Below w.heap.size w w3) := below_own' (HB.out.alloc hz _) hA hgrow (by simp; omega)
      have HT3 : Hid (TiersOwn w3 w.heap.size v' (rs ++ [(xs, ar, cr)])) := tiers_grow HTO.out HRO.out hown2 hgrow
      have hz3 := HB3.out.size
      obtain ⟨ar', cr', e3, hra3, _⟩ := row_own (HT3.out.1 (xs, ar, cr) (by simp))
      simp only [trV, Value.slice.injEq, true_and] at e3
      obtain ⟨rfl, rfl⟩ := e3
      rw [HX.out.2.1] at hra3
      have HRA : Hid (RowAt w3 w3.heap.size ar (tierRow s.data.toList l v) cr) := hra3
      have htl : (tierRow s.data.toList l v).length = xs.length := by rw [← HX.out.2.1, List.length_map]
      have HPA : Hid (∀ w : World, RowAt w w.heap.size ar (tierRow s.data.toList l v) cr → _) := fun w h => paired_any ar (tierRow s.data.toList l v) cr w h (by omega) (fun m x y hx hy => tier_fits H0.out hx hy)
      rw [htl, tier_next H0.out] at HPA
      clear hown2 hgrow hA hra3 htl
      go_wp2_with fail
      refine (HPA.out _ HRA.out).mono ?_
      rintro e w4 ⟨v4, ys, rfl, hys, hro4, hsep4, hb4⟩
      have HB4 : Hid (Below w.heap.size w w4) := HB3.out.trans (hb4.mono hz3)
      have HT4 : Hid (TiersOwn w4 w.heap.size v' (rs ++ [(xs, ar, cr)])) := HT3.out.below hb4
      have HR4 : Hid (RowOwn w4 w.heap.size v4 ys ∧ ys.map (·.1) = tierRow s.data.toList l (v + 1)) := ⟨hro4.base hz3, hys⟩
      have HS4 : Hid (Sep (allEl (rs ++ [(xs, ar, cr)]) ++ ys)) := by
        refine sep_app (by rw [allEl_app]; exact HX.out.2.2.1) hsep4 (allEl_own HT3.out) (N := w3.heap.size) (Nat.le_refl _) (fun y hy h hh => ((hro4.1 y hy).2.lt h hh).1)
      have hyl : ys.length = l.length / 2 ^ (v + 1) := by
        have := congrArg List.length hys
        rw [List.length_map, tier_len] at this
        exact this
      obtain ⟨a4, c4, e4⟩ := slice_form' hro4.2
      subst e4
      have HM : Hid (ys.length < xs.length) := by
        show _ < _
        rw [hyl, tier_half, ← HX.out.2.2.2]; omega
      clear hb4 hro4 hsep4 hys hyl
      go_wp2_with fail
      go_roundw
      case rel =>
        refine ⟨v + 1, rs ++ [(xs, ar, cr)], ys, HV1.out, ?_, HT4.out, HR4.out.2, HR4.out.1, HS4.out, HB4.out⟩
        rw [List.map_append, HX.out.1, List.range_succ, List.map_append, List.map_cons, List.map_nil, List.map_cons, List.map_nil, HX.out.2.1]
      case measure => simpa [trowN] using HM.out
    · have hli : ¬ (0 : Int) < (xs.length : Int) := by omega
      have HE : Hid (lvN l.length = v) := lv_end z2 hv (by have := HX.out.2.2.2; omega)
      have HX3 : Hid (rs.map (fun r : Tr => r.1.map (·.1)) = tiersL s.data.toList l) := by
        show _ = _
        rw [HX.out.1, tiersL, HE.out]
      have HS3 : Hid (Sep (allEl rs)) := by
        have h := HX.out.2.2.1
        have hx0 : xs = [] := List.length_eq_zero_iff.1 (by omega)
        rw [hx0, List.append_nil] at h
        exact h
      clear hrl
      go_wp2_with fail
      go_ret2
      first | exact ⟨_, rs, rfl, HX3.out, HTO.out, HS3.out, HB.out⟩ | exact ⟨_, rfl, rs, HX3.out, HTO.out, HS3.out, HB.out⟩
set_option maxHeartbeats 1000000 in
theorem Build_not (s : ByteArray) (a : Option Addr) (l : List Rv) (cap : Nat) (w : World) (hl : RevsAt w w.heap.size a l) (hs : s.size ≤ 9223372036854775807) (h0 : checkE s.data.toList l ≠ 0) :
    Calls Try.prog 28 #[.string s, .slice a l.length cap] w fun e w' => e = .returned (.tuple #[.slice none 0 0, .int .i64 (checkE s.data.toList l)]) ∧ Below w.heap.size w w' := by
  have hC : Hid (∀ w : World, RevsAt w w.heap.size a l → _) := fun w hl => RevCheck_any s a l cap w hl hs
  obtain ⟨E, hE⟩ : ∃ E, checkE s.data.toList l = E := ⟨_, rfl⟩
  rw [hE] at hC h0 ⊢
  have h0' : (E != 0) = true := by simp [h0]
  have HL : Hid (RevsAt w w.heap.size a l) := hl
  clear hl hE h0
  go_enter Try.func28, Try.ntmps28
  go_wp2_with fail
  refine (hC.out _ HL.out).mono ?_
  rintro e w1 ⟨rfl, hb1⟩
  have HB1 : Hid (Below w.heap.size w w1) := hb1
  clear hb1
  go_wp2_with fail
  go_ret2
  exact ⟨rfl, HB1.out⟩
end Go.Proofs.Ytgffippimmokiaa

/- The program's find and Between: the deltas of a cover's blocks as one. -/
namespace Go.Proofs.Ytgffippimmokiaa
open Go.RowKit
set_option linter.unusedSimpArgs false
set_option linter.unusedVariables false

/-- find's error, and its answer -/
def findE (T : List (List (List Pt))) (x : Nat × Nat) : Int := match blkT T x with
  | none => 7
  | some d => sizesE d
def findL (T : List (List (List Pt))) (x : Nat × Nat) : List Pt := match blkT T x with
  | none => []
  | some d => if sizesE d = 0 then d else []
theorem find_none {T : List (List (List Pt))} {x : Nat × Nat} (h : blkT T x = none) : findE T x = 7 ∧ findL T x = [] := by rw [findE, findL, h]; exact ⟨rfl, rfl⟩
theorem find_bad {T : List (List (List Pt))} {x : Nat × Nat} {d : List Pt} (h : blkT T x = some d) (hd : sizesE d ≠ 0) : findE T x = sizesE d ∧ findL T x = [] := by rw [findE, findL, h]; exact ⟨rfl, if_neg hd⟩
theorem find_ok {T : List (List (List Pt))} {x : Nat × Nat} {d : List Pt} (h : blkT T x = some d) (hd : sizesE d = 0) : findE T x = 0 ∧ findL T x = d := by rw [findE, findL, h]; exact ⟨hd, if_pos hd⟩
theorem blk_far {T : List (List (List Pt))} {x : Nat × Nat} (h : T.length ≤ x.1) : blkT T x = none := by rw [blkT, List.getElem?_eq_none h]; rfl
theorem blk_out {T : List (List (List Pt))} {x : Nat × Nat} {X : List (List Pt)} (h : T[x.1]? = some X) (hx : X.length ≤ x.2) : blkT T x = none := by rw [blkT, h]; exact List.getElem?_eq_none hx
theorem blk_at {T : List (List (List Pt))} {x : Nat × Nat} {X : List (List Pt)} {d : List Pt} (h : T[x.1]? = some X) (hx : X[x.2]? = some d) : blkT T x = some d := by rw [blkT, h]; exact hx
theorem bet_fst {T : List (List (List Pt))} {x : Nat × Nat} {r : List (Nat × Nat)} : betT 7 T none (x :: r) = if findE T x = 0 then betT 7 T (some (findL T x)) r else ([], findE T x) := by
  rw [betT]
  cases h : blkT T x with
  | none => rw [(find_none h).1, if_neg (by decide)]
  | some d =>
    simp only
    by_cases hd : sizesE d = 0
    · rw [if_pos hd, (find_ok h hd).1, if_pos rfl, (find_ok h hd).2]
    · rw [if_neg hd, (find_bad h hd).1, if_neg hd]
theorem bet_snd {T : List (List (List Pt))} {e : List Pt} {x : Nat × Nat} {r : List (Nat × Nat)} : betT 7 T (some e) (x :: r) = if findE T x = 0 then (if compE e (findL T x) = 0 then betT 7 T (some (compR e (findL T x))) r else ([], compE e (findL T x))) else ([], findE T x) := by
  rw [betT]
  cases h : blkT T x with
  | none => rw [(find_none h).1, if_neg (by decide)]
  | some d =>
    simp only
    by_cases hd : sizesE d = 0
    · rw [if_pos hd, (find_ok h hd).1, if_pos rfl, (find_ok h hd).2]
    · rw [if_neg hd, (find_bad h hd).1, if_neg hd]
set_option maxHeartbeats 4000000 in
theorem find_any (a : Option Addr) (T : List (List (List Pt))) (c : Nat) (x y : Nat) (w : World) (hv : TiersAt w w.heap.size a T c) :
    Calls Try.prog 74 #[.slice a T.length c, .agg #[.int .i64 (x : Int), .int .i64 (y : Int)]] w fun e w' => ∃ ao co, e = .returned (.tuple #[.slice ao (findL T (x, y)).length co, .int .i64 (findE T (x, y))]) ∧ PartsAt w' w'.heap.size ao (findL T (x, y)) ∧ Room ao (findL T (x, y)) co ∧ Below w.heap.size w w' := by
  have hcap : T.length ≤ 9223372036854775807 := Nat.le_trans hv.1 hv.2.1
  obtain ⟨w0, hw0⟩ : ∃ w0, w0 = w.alloc (.cells #[.int .i64 (x : Int), .int .i64 (y : Int)] 130) := ⟨_, rfl⟩
  have hb0 : Below w.heap.size w w0 := by subst hw0; exact (Below.refl _ _).alloc (Nat.le_refl _) _
  have HB0 : Hid (Below w.heap.size w w0) := hb0
  have HV0 : Hid (TiersAt w0 w0.heap.size a T c) := hv.here hb0 (Nat.le_refl _)
  have hx0 : w0.cell? ⟨w.heap.size, 0, none⟩ = some (.int .i64 (x : Int)) := by
    have h : w0.heap[w.heap.size]? = some (.cells #[.int .i64 (x : Int), .int .i64 (y : Int)] 130 (0, 0)) := by subst hw0; exact Deep.blk_alloc_new w _
    exact Lib.cell_of_heap h 0
  have hx1 : w0.cell? ⟨w.heap.size, 1, none⟩ = some (.int .i64 (y : Int)) := by
    have h : w0.heap[w.heap.size]? = some (.cells #[.int .i64 (x : Int), .int .i64 (y : Int)] 130 (0, 0)) := by subst hw0; exact Deep.blk_alloc_new w _
    exact Lib.cell_of_heap h 1
  have hxs : w.heap.size < w0.heap.size := by subst hw0; rw [Deep.nblk_alloc]; omega
  clear hv hb0
  subst hw0
  go_enter Try.func74, Try.ntmps74
  by_cases hfar : T.length ≤ x
  · have HE : Hid _ := find_none (T := T) (x := (x, y)) (blk_far hfar)
    have hd : decide ((T.length : Int) ≤ (x : Int)) = true := decide_eq_true (by omega)
    have hfi : (T.length : Int) ≤ (x : Int) := by omega
    go_wp2_with fail
    go_quiet (fail)
    go_wp2_with fail
    go_ret2
    rw [HE.out.1, HE.out.2]
    exact ⟨none, 0, rfl, ⟨by simp, Nat.le_refl _, by simp, by simp⟩, room_nil, below_drewN HB0.out _⟩
  · obtain ⟨X, hX⟩ : ∃ X, T[x]? = some X := ⟨T[x]'(by omega), List.getElem?_eq_getElem _⟩
    obtain ⟨g, og, aX, cX, e1, hg, t1, t2⟩ := HV0.out.mem hX
    subst e1
    have hxl : X.length ≤ 9223372036854775807 := Nat.le_trans t2.1 t2.2.1
    have hd : decide (T.length ≤ x) = false := decide_eq_false (by omega)
    have hfi : (x : Int) < (T.length : Int) := by omega
    have hx00 : (0 : Int) ≤ (x : Int) := by omega
    have HRX : Hid (RowAt (w.alloc (.cells #[.int .i64 (x : Int), .int .i64 (y : Int)] 130)) (w.alloc (.cells #[.int .i64 (x : Int), .int .i64 (y : Int)] 130)).heap.size aX X cX) := t2
    have HX : Hid (T[x]? = some X) := hX
    clear t2 hX hfar
    by_cases hout : X.length ≤ y
    · have HE : Hid _ := find_none (T := T) (x := (x, y)) (blk_out HX.out hout)
      have hd2 : decide (X.length ≤ y) = true := decide_eq_true (by omega)
      have hyi : (X.length : Int) ≤ (y : Int) := by omega
      go_wp2_with fail
      go_quiet (fail)
      go_wp2_with fail
      go_ret2
      rw [HE.out.1, HE.out.2]
      exact ⟨none, 0, rfl, ⟨by simp, Nat.le_refl _, by simp, by simp⟩, room_nil, below_drewN HB0.out _⟩
    · obtain ⟨d, hdd⟩ : ∃ d, X[y]? = some d := ⟨X[y]'(by omega), List.getElem?_eq_getElem _⟩
      obtain ⟨g2, og2, ad, cd, e2, hg2, r1, r2, r3⟩ := HRX.out.mem hdd
      subst e2
      have hd2 : decide (X.length ≤ y) = false := decide_eq_false (by omega)
      have hyi : (y : Int) < (X.length : Int) := by omega
      have hy00 : (0 : Int) ≤ (y : Int) := by omega
      have HPD : Hid (PartsAt (w.alloc (.cells #[.int .i64 (x : Int), .int .i64 (y : Int)] 130)) (w.alloc (.cells #[.int .i64 (x : Int), .int .i64 (y : Int)] 130)).heap.size ad d) := r2
      have HBK : Hid (blkT T (x, y) = some d) := blk_at HX.out hdd
      clear r2 r3 hdd hout
      go_wp2_with fail
      go_quiet (fail)
      rename Nat => n1
      go_wp2_with fail
      go_quiet (fail)
      rename Nat => n2
      have hb2 : Below (w.alloc (.cells #[.int .i64 (x : Int), .int .i64 (y : Int)] 130)).heap.size (w.alloc (.cells #[.int .i64 (x : Int), .int .i64 (y : Int)] 130)) (((w.alloc (.cells #[.int .i64 (x : Int), .int .i64 (y : Int)] 130)).drewN n1).drewN n2) := below_drewN (below_drewN (Below.refl _ _) _) _
      have HP2 : Hid (PartsAt (((w.alloc (.cells #[.int .i64 (x : Int), .int .i64 (y : Int)] 130)).drewN n1).drewN n2) (((w.alloc (.cells #[.int .i64 (x : Int), .int .i64 (y : Int)] 130)).drewN n1).drewN n2).heap.size ad d) := HPD.out.here hb2 (Nat.le_refl _)
      have HB2 : Hid (Below w.heap.size w (((w.alloc (.cells #[.int .i64 (x : Int), .int .i64 (y : Int)] 130)).drewN n1).drewN n2)) := below_drewN (below_drewN HB0.out _) _
      generalize (((w.alloc (.cells #[.int .i64 (x : Int), .int .i64 (y : Int)] 130)).drewN n1).drewN n2) = w2 at HP2 HB2 ⊢
      clear hb2 HPD HRX HV0 hx0 hx1 hxs r1 t1 hg hg2 hd hd2 hfi hx00 hyi hy00 hxl
      go_wp2_with fail
      refine (Check_any ad d cd _ HP2.out).mono ?_
      rintro e w3 ⟨rfl, hb3⟩
      have HB3 : Hid (Below w.heap.size w w3) := HB2.out.trans (hb3.mono HB2.out.size)
      have HP3 : Hid (PartsAt w3 w3.heap.size ad d) := HP2.out.here hb3 (Nat.le_refl _)
      clear hb3
      by_cases hs : sizesE d = 0
      · have HF : Hid _ := find_ok HBK.out hs
        have HS : Hid (sizesE d = 0) := hs
        rw [hs]
        clear hs
        go_wp2_with fail
        refine (tcopied_any ad d cd _ HP3.out HS.out).mono ?_
        rintro e w4 ⟨a4, c4, rfl, hel, hb4⟩
        have HB4 : Hid (Below w.heap.size w w4) := HB3.out.trans (hb4.mono HB3.out.size)
        have HE4 : Hid _ := el_parts hel
        clear hel hb4
        go_wp2_with fail
        go_ret2
        rw [HF.out.1, HF.out.2]
        exact ⟨a4, c4, rfl, HE4.out.1, HE4.out.2, HB4.out⟩
      · have HF : Hid _ := find_bad HBK.out hs
        obtain ⟨E, hE⟩ : ∃ E, sizesE d = E := ⟨_, rfl⟩
        rw [hE] at hs HF ⊢
        have hs' : (E != 0) = true := by simp [hs]
        clear hs hE
        go_wp2_with fail
        go_ret2
        rw [HF.out.1, HF.out.2]
        exact ⟨none, 0, rfl, ⟨by simp, Nat.le_refl _, by simp, by simp⟩, room_nil, HB3.out⟩
set_option maxHeartbeats 4000000 in
theorem TBet_ok (a : Option Addr) (T : List (List (List Pt))) (c i k : Nat) (w : World) (hv : TiersAt w w.heap.size a T c) (hik : i < k) (hk : k ≤ 64) :
    Calls Try.prog 31 #[.slice a T.length c, .int .i64 (i : Int), .int .i64 (k : Int)] w fun e w' => ∃ ao co, e = .returned (.tuple #[.slice ao (betT 7 T none (covL i k)).1.length co, .int .i64 (betT 7 T none (covL i k)).2]) ∧ PartsAt w' w'.heap.size ao (betT 7 T none (covL i k)).1 ∧ Room ao (betT 7 T none (covL i k)).1 co ∧ Below w.heap.size w w' := by
  have HV : Hid (TiersAt w w.heap.size a T c) := hv
  have HC : Hid (∀ w : World, _) := fun w => Cover_ok i k w (by omega) hk
  obtain ⟨x, X, hX⟩ : ∃ x X, covL i k = x :: X := by
    have ht := cov_is (Nat.le_of_lt hik) hk
    cases h : covL i k with
    | nil => rw [h] at ht; have : i = k := ht; omega
    | cons x X => exact ⟨x, X, rfl⟩
  rw [hX] at HC ⊢
  have hne : ((i : Int) == (k : Int)) = false := by simp; omega
  obtain ⟨O, hO⟩ : ∃ O, betT 7 T none (x :: X) = O := ⟨_, rfl⟩
  have HO : Hid (O = if findE T x = 0 then betT 7 T (some (findL T x)) X else ([], findE T x)) := hO.symm.trans bet_fst
  rw [hO]
  clear hX hv hO
  go_enter Try.func31, Try.ntmps31
  go_wp2_with fail
  refine (HC.out _).mono ?_
  rintro e w1 ⟨ac, cc, rfl, hn1, hb1⟩
  have HB1 : Hid (Below w.heap.size w w1) := hb1
  have HV1 : Hid (TiersAt w1 w1.heap.size a T c) := HV.out.here hb1 (Nat.le_refl _)
  have HN1 : Hid (BksAt w1 w1.heap.size ac (x :: X) cc) := hn1
  obtain ⟨g, og, e1, hg, y1, y2⟩ := hn1.mem (i := 0) (f := x) rfl
  subst e1
  simp only [Nat.zero_mul, Nat.add_zero] at y1 y2
  obtain ⟨r, ar, hr, hrn, hrun⟩ := bks_from hn1 (k := 1) (by simp) 1 rfl
  have hrr : r = X := by rw [hr]; rfl
  subst hrr
  have hlc : (x :: r).length = r.length + 1 := rfl
  have HRN : Hid (BksAt w1 w1.heap.size ar r (cc - 1)) := hrn
  have hl0 : (0 : Int) < ((x :: r).length : Int) := by rw [hlc]; omega
  clear hn1 hb1 hr hrn hlc
  obtain ⟨n, hn⟩ : ∃ n, (x :: r).length = n := ⟨_, rfl⟩
  rw [hn] at hrun hl0 ⊢
  obtain ⟨m, hm⟩ : ∃ m, cc - 1 = m := ⟨_, rfl⟩
  rw [hm] at hrun HRN
  have hrl : r.length ≤ 9223372036854775807 := Nat.le_trans HRN.out.1 HRN.out.2.1
  clear hn hm
  go_wp2_with fail
  refine (find_any a T c x.1 x.2 _ HV1.out).mono ?_
  rintro e w2 ⟨ad, cd, rfl, hp2, hr2, hb2⟩
  have HB2 : Hid (Below w.heap.size w w2) := HB1.out.trans (hb2.mono HB1.out.size)
  have HP2 : Hid (PartsAt w2 w2.heap.size ad (findL T x) ∧ Room ad (findL T x) cd) := ⟨hp2, hr2⟩
  have HB12 : Hid (Below w1.heap.size w1 w2) := hb2
  obtain ⟨E, hE⟩ : ∃ E, findE T x = E := ⟨_, rfl⟩
  obtain ⟨D0, hD⟩ : ∃ D0, findL T x = D0 := ⟨_, rfl⟩
  rw [show findE T (x.1, x.2) = E from hE, show findL T (x.1, x.2) = D0 from hD]
  rw [hE, hD] at HO
  rw [hD] at HP2
  clear hp2 hr2 hb2 hE hD y1 y2 hg
  by_cases h0 : E = 0
  · subst h0
    have HO2 : Hid (O = betT 7 T (some D0) r) := by show _ = _; rw [HO.out, if_pos rfl]
    clear HO
    go_wp2_with fail
    go_loopw [10, 42] (fun dv z wr => ∃ (j : Nat) (D : List Pt) (ad : Option Addr) (cd : Nat), j ≤ r.length ∧ z = .int .i64 j ∧ dv = .slice ad D.length cd ∧ PartsAt wr wr.heap.size ad D ∧ Room ad D cd ∧ O = betT 7 T (some D) (r.drop j) ∧ Below w.heap.size w wr ∧ Below w1.heap.size w1 wr) (fun _ z _ => r.length - (intOf z).toNat)
    case atStart => exact ⟨0, D0, ad, cd, Nat.zero_le _, rfl, rfl, HP2.out.1, HP2.out.2, HO2.out, HB2.out, HB12.out⟩
    case round =>
      rename World => wr
      obtain ⟨j, D, ad, cd, hj, rfl, rfl, hp, hroom, hOd, hb, hb1⟩ := hrel
      have HB : Hid (Below w.heap.size w wr ∧ Below w1.heap.size w1 wr) := ⟨hb, hb1⟩
      have HP : Hid (PartsAt wr wr.heap.size ad D ∧ Room ad D cd) := ⟨hp, hroom⟩
      have HOD : Hid (O = betT 7 T (some D) (r.drop j)) := hOd
      have hz := hb.size
      have hz1 := hb1.size
      clear hOd hp hroom hb HP2 HO2 HB2 HB12
      by_cases hlt : j < r.length
      · obtain ⟨y, hy⟩ : ∃ y, r[j]? = some y := ⟨r[j], List.getElem?_eq_getElem hlt⟩
        have hji : (j : Int) < (r.length : Int) := by omega
        obtain ⟨g2, og2, e2, hg2, y1, y2⟩ := (HRN.out.here hb1 (Nat.le_refl _)).mem hy
        subst e2
        have hbx : Below wr.heap.size wr (wr.alloc (.cells #[.int .i64 (y.1 : Int), .int .i64 (y.2 : Int)] 130)) := (Below.refl _ _).alloc (Nat.le_refl _) _
        have HV2 : Hid (TiersAt (wr.alloc (.cells #[.int .i64 (y.1 : Int), .int .i64 (y.2 : Int)] 130)) (wr.alloc (.cells #[.int .i64 (y.1 : Int), .int .i64 (y.2 : Int)] 130)).heap.size a T c) := HV1.out.here (hb1.trans (hbx.mono hz1)) (Nat.le_refl _)
        have HBx : Hid (Below wr.heap.size wr (wr.alloc (.cells #[.int .i64 (y.1 : Int), .int .i64 (y.2 : Int)] 130))) := hbx
        have HOE : Hid (O = if findE T y = 0 then (if compE D (findL T y) = 0 then betT 7 T (some (compR D (findL T y))) (r.drop (j + 1)) else ([], compE D (findL T y))) else ([], findE T y)) := by
          show _ = _
          have hdr : r.drop j = y :: r.drop (j + 1) := by
            obtain ⟨h1, h2⟩ := List.getElem?_eq_some_iff.1 hy
            rw [List.drop_eq_getElem_cons h1, h2]
          rw [HOD.out, hdr, bet_snd]
        clear hy hbx hb1
        go_wp2_with fail
        refine (find_any a T c y.1 y.2 _ HV2.out).mono ?_
        rintro e w3 ⟨a3, c3, rfl, hp3, hr3, hb3⟩
        have hbw : Below wr.heap.size wr w3 := HBx.out.trans (hb3.mono HBx.out.size)
        have HB3 : Hid (Below w.heap.size w w3 ∧ Below w1.heap.size w1 w3) := ⟨HB.out.1.trans (hbw.mono hz), HB.out.2.trans (hbw.mono hz1)⟩
        obtain ⟨E, hE⟩ : ∃ E, findE T y = E := ⟨_, rfl⟩
        obtain ⟨D1, hD⟩ : ∃ D1, findL T y = D1 := ⟨_, rfl⟩
        rw [show findE T (y.1, y.2) = E from hE, show findL T (y.1, y.2) = D1 from hD]
        have hp3' : PartsAt w3 w3.heap.size a3 D1 := by rw [← hD]; exact hp3
        have hr3' : Room a3 D1 c3 := by rw [← hD]; exact hr3
        rw [hE, hD] at HOE
        have HP3 : Hid (PartsAt w3 w3.heap.size ad D ∧ PartsAt w3 w3.heap.size a3 D1 ∧ D.length ≤ cd) := ⟨HP.out.1.here hbw (Nat.le_refl _), hp3', HP.out.2.1⟩
        clear hp3 hr3 hp3' hr3' hb3 hbw hE hD y1 y2 hg2
        by_cases h0 : E = 0
        · subst h0
          have HO3 : Hid (O = if compE D D1 = 0 then betT 7 T (some (compR D D1)) (r.drop (j + 1)) else ([], compE D D1)) := by show _ = _; rw [HOE.out, if_pos rfl]
          clear HOE
          go_wp2_with fail
          refine (CompOf_any ad a3 D D1 cd c3 _ HP3.out.1 HP3.out.2.1 HP3.out.2.2).mono ?_
          rintro e w4 ⟨a4, c4, rfl, hp4, hr4, hb4⟩
          have HB4 : Hid (Below w.heap.size w w4 ∧ Below w1.heap.size w1 w4) := ⟨HB3.out.1.trans (hb4.mono HB3.out.1.size), HB3.out.2.trans (hb4.mono HB3.out.2.size)⟩
          have HP4 : Hid (PartsAt w4 w4.heap.size a4 (compR D D1) ∧ Room a4 (compR D D1) c4) := ⟨hp4, hr4⟩
          obtain ⟨E, hE⟩ : ∃ E, compE D D1 = E := ⟨_, rfl⟩
          obtain ⟨D2, hD⟩ : ∃ D2, compR D D1 = D2 := ⟨_, rfl⟩
          rw [hE, hD] at HO3
          rw [hE, hD]
          rw [hD] at HP4
          clear hp4 hr4 hb4 hE hD
          by_cases h0 : E = 0
          · subst h0
            have HO4 : Hid (O = betT 7 T (some D2) (r.drop (j + 1))) := by show _ = _; rw [HO3.out, if_pos rfl]
            clear HO3
            go_wp2_with fail
            go_roundw
            case rel => exact ⟨j + 1, D2, a4, c4, by omega, by go_num, rfl, HP4.out.1, HP4.out.2, HO4.out, HB4.out.1, HB4.out.2⟩
            case measure => simp [intOf]; omega
          · have HO4 : Hid (O = ([], E)) := by show _ = _; rw [HO3.out, if_neg h0]
            have h0' : (E != 0) = true := by simp [h0]
            clear h0 HO3
            go_wp2_with fail
            go_ret2
            rw [HO4.out]
            exact ⟨none, 0, rfl, ⟨by simp, Nat.le_refl _, by simp, by simp⟩, room_nil, HB4.out.1⟩
        · have HO4 : Hid (O = ([], E)) := by show _ = _; rw [HOE.out, if_neg h0]
          have h0' : (E != 0) = true := by simp [h0]
          clear h0 HOE
          go_wp2_with fail
          go_ret2
          rw [HO4.out]
          exact ⟨none, 0, rfl, ⟨by simp, Nat.le_refl _, by simp, by simp⟩, room_nil, HB3.out.1⟩
      · have hji : ¬ (j : Int) < (r.length : Int) := by omega
        have HO4 : Hid (O = (D, 0)) := by
          show _ = _
          rw [HOD.out, List.drop_eq_nil_of_le (by omega)]; rfl
        clear hb1
        go_wp2_with fail
        go_ret2
        rw [HO4.out]
        exact ⟨ad, cd, rfl, HP.out.1, HP.out.2, HB.out.1⟩
  · have HO4 : Hid (O = ([], E)) := by show _ = _; rw [HO.out, if_neg h0]
    have h0' : (E != 0) = true := by simp [h0]
    clear h0 HO
    go_wp2_with fail
    go_ret2
    rw [HO4.out]
    exact ⟨none, 0, rfl, ⟨by simp, Nat.le_refl _, by simp, by simp⟩, room_nil, HB2.out⟩
theorem TBet_not (a : Option Addr) (T : List (List (List Pt))) (c : Nat) (i k : Int) (w : World) (h : ¬ (0 ≤ i ∧ i < k ∧ k ≤ 64)) :
    Calls Try.prog 31 #[.slice a T.length c, .int .i64 i, .int .i64 k] w fun e w' => e = .returned (.tuple #[.slice none 0 0, .int .i64 1]) ∧ Below w.heap.size w w' := by
  by_cases hE : covE i k = 0
  · have h2 : ¬ (i < 0 ∨ k < i ∨ 64 < k) := by
      intro hh; rw [covE, if_pos hh] at hE; omega
    obtain ⟨m, rfl⟩ : ∃ m : Nat, i = (m : Int) := ⟨i.toNat, by omega⟩
    obtain rfl : k = (m : Int) := by omega
    have HC : Hid (∀ w : World, _) := fun w => Cover_ok m m w (Nat.le_refl _) (by omega)
    have he : ((m : Int) == (m : Int)) = true := by simp
    clear h h2 hE
    go_enter Try.func31, Try.ntmps31
    go_wp2_with fail
    refine (HC.out _).mono ?_
    rintro e w1 ⟨ac, cc, rfl, _, hb1⟩
    have HB1 : Hid (Below w.heap.size w w1) := hb1
    clear hb1
    go_wp2_with fail
    go_ret2
    exact ⟨rfl, HB1.out⟩
  · have HC : Hid (∀ w : World, _) := fun w => Cover_not i k w hE
    clear h hE
    go_enter Try.func31, Try.ntmps31
    go_wp2_with fail
    refine (HC.out _).mono ?_
    rintro e w1 ⟨rfl, we⟩
    subst we
    go_wp2_with fail
    go_ret2
    exact ⟨rfl, Below.refl _ _⟩
end Go.Proofs.Ytgffippimmokiaa

/- What the laws on tiers ask: Build's answer to be read, and the first answers. -/
namespace Go.Proofs.Ytgffippimmokiaa
open Go.RowKit
set_option linter.unusedSimpArgs false
set_option linter.unusedVariables false

theorem min_nn (ts : Array TypeId) (t : TypeId) (a b m : Nat) (h : m = min a b) (w : World) : (Builtin.min_ ts t #[.int .i64 (a : Int), .int .i64 (b : Int)]).run Try.prog w = .ok (.int .i64 (m : Int)) w := by
  subst h
  by_cases h : a < b
  · have h2 : ¬ b < a := by omega
    have h1' : (a : Int) < (b : Int) := by omega
    have h2' : ¬ (b : Int) < (a : Int) := by omega
    simp [Builtin.min_, Builtin.min2, h1', h2']; omega
  · have h1' : ¬ (a : Int) < (b : Int) := by omega
    by_cases h2 : b < a
    · have h2' : (b : Int) < (a : Int) := by omega
      simp [Builtin.min_, Builtin.min2, h1', h2']; omega
    · have h2' : ¬ (b : Int) < (a : Int) := by omega
      simp [Builtin.min_, Builtin.min2, h1', h2']; omega
theorem max_nn (ts : Array TypeId) (t : TypeId) (a b m : Nat) (h : m = max a b) (w : World) : (Builtin.max_ ts t #[.int .i64 (a : Int), .int .i64 (b : Int)]).run Try.prog w = .ok (.int .i64 (m : Int)) w := by
  subst h
  by_cases h : a < b
  · have h2 : ¬ b < a := by omega
    have h1' : (a : Int) < (b : Int) := by omega
    simp [Builtin.max_, Builtin.max2, h1']; omega
  · have h1' : ¬ (a : Int) < (b : Int) := by omega
    simp [Builtin.max_, Builtin.max2, h1']; omega
theorem Build_at (s : ByteArray) (a : Option Addr) (l : List Rv) (cap : Nat) (w : World) (hl : RevsAt w w.heap.size a l) (h0 : checkE s.data.toList l = 0) :
    Calls Try.prog 28 #[.string s, .slice a l.length cap] w fun e w' => ∃ a' c', e = .returned (.tuple #[.slice a' (tiersL s.data.toList l).length c', .int .i64 0]) ∧ TiersAt w' w'.heap.size a' (tiersL s.data.toList l) c' ∧ Below w.heap.size w w' := by
  refine (Build_ok s a l cap w hl h0).mono ?_
  rintro e w' ⟨v, rs, rfl, hrs, hto, _, hb⟩
  obtain ⟨a', c', rfl, h1, _⟩ := tiers_own hto
  have hlen := congrArg List.length hrs
  rw [List.length_map] at hlen
  rw [hrs] at h1
  exact ⟨a', c', by rw [hlen], h1, hb⟩
abbrev putA : List Pt := [⟨2, 0, ⟨#[97]⟩⟩]
/-- the tiers of one revision that is written out -/
theorem BuildFirst (w : World) (ad : Addr) (hp : PartsAt w w.heap.size (some ad) putA) :
    Calls Try.prog 28 #[.string ⟨#[]⟩, .slice (some ⟨w.heap.size, 0, none⟩) 1 1] (w.alloc (.cells #[.int .i64 1, .int .i64 1, .slice (some ad) 1 1] 40)) fun e w' => ∃ a' c', e = .returned (.tuple #[.slice a' 1 c', .int .i64 0]) ∧ TiersAt w' w'.heap.size a' [[putA]] c' ∧ Below w.heap.size w w' := by
  have h2 := revs_one w ⟨1, 1, putA⟩ ⟨⟨by decide, by decide⟩, ⟨by decide, by decide⟩⟩ (some ad) 1 hp ⟨by decide, fun e => by cases e⟩
  have h3 := Build_at ⟨#[]⟩ (some ⟨w.heap.size, 0, none⟩) [⟨1, 1, putA⟩] 1 _ h2 (by decide)
  rw [show tiersL (⟨#[]⟩ : ByteArray).data.toList [⟨1, 1, putA⟩] = [[putA]] by rfl] at h3
  refine Calls.mono h3 ?_
  rintro e w' ⟨a', c', rfl, h5, hb⟩
  have h4 : Below w.heap.size w (w.alloc (.cells #[.int .i64 1, .int .i64 1, .slice (some ad) 1 1] 40)) := (Below.refl _ w).alloc (Nat.le_refl _) _
  exact ⟨a', c', rfl, h5, h4.trans (hb.mono h4.size)⟩
theorem TBetFirst (a : Option Addr) (c : Nat) (w : World) (hv : TiersAt w w.heap.size a [[putA]] c) :
    Calls Try.prog 31 #[.slice a 1 c, .int .i64 0, .int .i64 1] w fun e w' => ∃ ao co, e = .returned (.tuple #[.slice ao 1 co, .int .i64 0]) ∧ PartsAt w' w'.heap.size ao putA ∧ Below w.heap.size w w' := by
  have h := TBet_ok a [[putA]] c 0 1 w hv (by decide) (by decide)
  rw [show betT 7 [[putA]] none (covL 0 1) = (putA, 0) by rfl] at h
  refine Calls.mono h ?_
  rintro e w' ⟨ao, co, rfl, h1, _, h2⟩
  exact ⟨ao, co, rfl, h1, h2⟩
end Go.Proofs.Ytgffippimmokiaa
