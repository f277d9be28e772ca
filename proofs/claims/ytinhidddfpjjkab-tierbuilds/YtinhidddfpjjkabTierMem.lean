/- Rows of deltas, and tiers of them, as they lie in memory: read, or the call's own. -/
import Derived.Test.YtinhidddfpjjkabOwns
import Derived.Test.YtinhidddfpjjkabRevOne
import Derived.Test.YtinhidddfpjjkabTierL
import Derived.Laws.OwnMore
namespace Go.Proofs.Ytinhidddfpjjkab
open Go.RowKit
set_option linter.unusedSimpArgs false
set_option linter.unusedVariables false

/-- the deltas X lie from address a on, below block B, with room for c -/
def RowAt (w : World) (B : Nat) (a : Option Addr) (X : List (List Pt)) (c : Nat) : Prop :=
  X.length ≤ c ∧ c ≤ 9223372036854775807 ∧ B ≤ w.heap.size ∧ (X ≠ [] → ∃ b off, a = some ⟨b, off, none⟩ ∧ b < B ∧ ∀ (i : Nat) (x : List Pt), X[i]? = some x → ∃ ai ci, w.cell? ⟨b, off + i, none⟩ = some (.slice ai x.length ci) ∧ PartsAt w B ai x ∧ Room ai x ci)
theorem RowAt.below {w w' : World} {B B' : Nat} {a : Option Addr} {X : List (List Pt)} {c : Nat} (h : RowAt w B a X c) (hb : Below B' w w') (hB : B ≤ B') : RowAt w' B a X c := by
  obtain ⟨h1, h0, h2, h3⟩ := h
  refine ⟨h1, h0, Nat.le_trans h2 hb.size, fun hn => ?_⟩
  obtain ⟨b, off, ha, hlt, hc⟩ := h3 hn
  have hlt' : b < B' := Nat.lt_of_lt_of_le hlt hB
  refine ⟨b, off, ha, hlt, fun i x hi => ?_⟩
  obtain ⟨ai, ci, c1, c2, c3⟩ := hc i x hi
  exact ⟨ai, ci, (hb.cell (p := ⟨b, _, none⟩) hlt').trans c1, c2.below hb hB, c3⟩
theorem RowAt.wider {w : World} {B B' : Nat} {a : Option Addr} {X : List (List Pt)} {c : Nat} (h : RowAt w B a X c) (h1 : B ≤ B') (h2 : B' ≤ w.heap.size) : RowAt w B' a X c :=
  ⟨h.1, h.2.1, h2, fun hn => by
    obtain ⟨b, off, ha, hlt, hc⟩ := h.2.2.2 hn
    refine ⟨b, off, ha, by omega, fun i x hi => ?_⟩
    obtain ⟨ai, ci, c1, c2, c3⟩ := hc i x hi
    exact ⟨ai, ci, c1, c2.wider h1 h2, c3⟩⟩
theorem RowAt.here {w w' : World} {B B' : Nat} {a : Option Addr} {X : List (List Pt)} {c : Nat} (h : RowAt w B a X c) (hb : Below B' w w') (hB : B ≤ B') : RowAt w' w'.heap.size a X c :=
  (h.below hb hB).wider (h.below hb hB).2.2.1 (Nat.le_refl _)
theorem RowAt.mem {w : World} {B : Nat} {a : Option Addr} {X : List (List Pt)} {c : Nat} (h : RowAt w B a X c) {i : Nat} {x : List Pt} (hi : X[i]? = some x) :
    ∃ b off ai ci, a = some ⟨b, off, none⟩ ∧ b < B ∧ w.cell? ⟨b, off + i, none⟩ = some (.slice ai x.length ci) ∧ PartsAt w B ai x ∧ Room ai x ci := by
  obtain ⟨b, off, ha, hlt, hc⟩ := h.2.2.2 (fun e => by subst e; simp at hi)
  obtain ⟨ai, ci, c1, c2, c3⟩ := hc i x hi
  exact ⟨b, off, ai, ci, ha, hlt, c1, c2, c3⟩
theorem row_nil (w : World) (B : Nat) (hB : B ≤ w.heap.size) : RowAt w B none [] 0 := ⟨by simp, by simp, hB, by simp⟩
/-- tiers: rows of deltas, one behind the other -/
def TiersAt (w : World) (B : Nat) (a : Option Addr) (T : List (List (List Pt))) (c : Nat) : Prop :=
  T.length ≤ c ∧ c ≤ 9223372036854775807 ∧ B ≤ w.heap.size ∧ (T ≠ [] → ∃ b off, a = some ⟨b, off, none⟩ ∧ b < B ∧ ∀ (i : Nat) (X : List (List Pt)), T[i]? = some X → ∃ ai ci, w.cell? ⟨b, off + i, none⟩ = some (.slice ai X.length ci) ∧ RowAt w B ai X ci)
theorem TiersAt.below {w w' : World} {B B' : Nat} {a : Option Addr} {T : List (List (List Pt))} {c : Nat} (h : TiersAt w B a T c) (hb : Below B' w w') (hB : B ≤ B') : TiersAt w' B a T c := by
  obtain ⟨h1, h0, h2, h3⟩ := h
  refine ⟨h1, h0, Nat.le_trans h2 hb.size, fun hn => ?_⟩
  obtain ⟨b, off, ha, hlt, hc⟩ := h3 hn
  have hlt' : b < B' := Nat.lt_of_lt_of_le hlt hB
  refine ⟨b, off, ha, hlt, fun i x hi => ?_⟩
  obtain ⟨ai, ci, c1, c2⟩ := hc i x hi
  exact ⟨ai, ci, (hb.cell (p := ⟨b, _, none⟩) hlt').trans c1, c2.below hb hB⟩
theorem TiersAt.wider {w : World} {B B' : Nat} {a : Option Addr} {T : List (List (List Pt))} {c : Nat} (h : TiersAt w B a T c) (h1 : B ≤ B') (h2 : B' ≤ w.heap.size) : TiersAt w B' a T c :=
  ⟨h.1, h.2.1, h2, fun hn => by
    obtain ⟨b, off, ha, hlt, hc⟩ := h.2.2.2 hn
    refine ⟨b, off, ha, by omega, fun i x hi => ?_⟩
    obtain ⟨ai, ci, c1, c2⟩ := hc i x hi
    exact ⟨ai, ci, c1, c2.wider h1 h2⟩⟩
theorem TiersAt.here {w w' : World} {B B' : Nat} {a : Option Addr} {T : List (List (List Pt))} {c : Nat} (h : TiersAt w B a T c) (hb : Below B' w w') (hB : B ≤ B') : TiersAt w' w'.heap.size a T c :=
  (h.below hb hB).wider (h.below hb hB).2.2.1 (Nat.le_refl _)
theorem TiersAt.mem {w : World} {B : Nat} {a : Option Addr} {T : List (List (List Pt))} {c : Nat} (h : TiersAt w B a T c) {i : Nat} {X : List (List Pt)} (hi : T[i]? = some X) :
    ∃ b off ai ci, a = some ⟨b, off, none⟩ ∧ b < B ∧ w.cell? ⟨b, off + i, none⟩ = some (.slice ai X.length ci) ∧ RowAt w B ai X ci := by
  obtain ⟨b, off, ha, hlt, hc⟩ := h.2.2.2 (fun e => by subst e; simp at hi)
  obtain ⟨ai, ci, c1, c2⟩ := hc i X hi
  exact ⟨b, off, ai, ci, ha, hlt, c1, c2⟩
theorem tiers_nil (w : World) (B : Nat) (hB : B ≤ w.heap.size) : TiersAt w B none [] 0 := ⟨by simp, by simp, hB, by simp⟩

/-- a delta, and where it lies -/
abbrev El := List Pt × Option Addr × Nat
def elV (x : El) : Value := .slice x.2.1 x.1.length x.2.2
def ElOwn (w : World) (B : Nat) (x : El) : Prop := sizesE x.1 = 0 ∧ w.ownsRow B 58 3 (elV x) x.1.length (allCells x.1)
theorem bound_right {l : List Pt} (h : sizesE l = 0) : Bound l := by
  obtain ⟨h1, h2⟩ := sizes_zero h
  have hR := sizes_right h
  refine ⟨by have := h1.1; omega, fun p hp => ?_⟩
  have h3 := h1.2 p hp
  have h4 := (hR p hp).1
  obtain ⟨k1, k2⟩ := h3
  omega
/-- a row of the call's own, each delta in it too -/
def RowOwn (w : World) (B : Nat) (v : Value) (xs : List El) : Prop := (∀ x ∈ xs, ElOwn w B x) ∧ w.ownsRow B 33 1 v xs.length (xs.map elV)
theorem el_parts {w : World} {B : Nat} {x : El} (h : ElOwn w B x) : PartsAt w w.heap.size x.2.1 x.1 ∧ Room x.2.1 x.1 x.2.2 := by
  obtain ⟨a, c, e, h1, h2⟩ := parts_ownC h.2 (bound_right h.1)
  simp only [elV, Value.slice.injEq, true_and] at e
  obtain ⟨e1, e2⟩ := e
  rw [e1, e2]
  exact ⟨h1, h2⟩
theorem row_own {w : World} {B : Nat} {v : Value} {xs : List El} (h : RowOwn w B v xs) : ∃ a c, v = .slice a xs.length c ∧ RowAt w w.heap.size a (xs.map (·.1)) c ∧ (a = none → c = 0) := by
  obtain ⟨h0, h⟩ := h
  rcases h.2 with ⟨rfl, hz⟩ | ⟨g, cap, cur, rfl, hB, hg, hn, hm, hc, ht⟩
  · have : xs = [] := List.length_eq_zero_iff.1 hz
    subst this
    exact ⟨none, 0, rfl, row_nil w _ (Nat.le_refl _), fun _ => rfl⟩
  · refine ⟨some ⟨g, 0, none⟩, cap, rfl, ⟨by rw [List.length_map]; exact hn, by simpa [maxLen] using hm, Nat.le_refl _, fun _ => ⟨g, 0, rfl, lt_of_heap hg, fun i x hi => ?_⟩⟩, fun e => by cases e⟩
    rw [List.getElem?_map, Option.map_eq_some_iff] at hi
    obtain ⟨y, hy, rfl⟩ := hi
    have hil := (List.getElem?_eq_some_iff.1 hy).1
    obtain ⟨p1, p2⟩ := el_parts (h0 y (List.mem_of_getElem? hy))
    refine ⟨y.2.1, y.2.2, ?_, p1, p2⟩
    rw [Nat.zero_add, h.cellAt _ (by omega), List.getElem?_map, hy]; rfl
theorem ElOwn.below {w w' : World} {B : Nat} {x : El} (h : ElOwn w B x) (hb : Below w.heap.size w w') : ElOwn w' B x := ⟨h.1, own_belowO h.2 hb (Nat.le_refl _)⟩
theorem RowOwn.below {w w' : World} {B : Nat} {v : Value} {xs : List El} (h : RowOwn w B v xs) (hb : Below w.heap.size w w') : RowOwn w' B v xs := ⟨fun x hx => (h.1 x hx).below hb, own_belowO h.2 hb (Nat.le_refl _)⟩
theorem ElOwn.base {w : World} {B B' : Nat} {x : El} (h : ElOwn w B x) (hB : B' ≤ B) : ElOwn w B' x := ⟨h.1, own_base h.2 hB⟩
theorem RowOwn.base {w : World} {B B' : Nat} {v : Value} {xs : List El} (h : RowOwn w B v xs) (hB : B' ≤ B) : RowOwn w B' v xs := ⟨fun x hx => (h.1 x hx).base hB, own_base h.2 hB⟩
theorem own_ne4 {w : World} {B B' n n' size size' : Nat} {e t : TypeId} {v v' : Value} {xs xs' : List Value} (h : w.ownsRow B e size v n xs) (h' : w.ownsRow B' t size' v' n' xs') (ht : t ≠ e) : v.ownBlock = none ∨ v.ownBlock ≠ v'.ownBlock := by
  rcases h'.2 with ⟨rfl, _⟩ | ⟨g', cap, cur, rfl, _, hc, _⟩
  · rcases h.2 with ⟨rfl, _⟩ | ⟨g, cap, cur, rfl, _⟩
    · left; rfl
    · right; simp [Value.ownBlock]
  · right; exact own_ne' h hc ht
theorem ElOwn.grown {w w' : World} {B B' n size : Nat} {x : El} {e : TypeId} {v : Value} {cs : List Value} (h : ElOwn w B x) (hr : w.ownsRow B' e size v n cs) (he : e ≠ 58) (hg : w.grownBy w' v.ownBlock) : ElOwn w' B x :=
  ⟨h.1, h.2.kept hg (own_ne4 h.2 hr he)⟩
theorem RowOwn.grown {w w' : World} {B B' n size : Nat} {xs : List El} {e : TypeId} {u v : Value} {cs : List Value} (h : RowOwn w B u xs) (hr : w.ownsRow B' e size v n cs) (he : e ≠ 58) (he2 : e ≠ 33) (hg : w.grownBy w' v.ownBlock) : RowOwn w' B u xs :=
  ⟨fun x hx => (h.1 x hx).grown hr he hg, h.2.kept hg (own_ne4 h.2 hr he2)⟩
/-- the blocks of the deltas rise: no two are one -/
def Sep (xs : List El) : Prop := xs.Pairwise (fun x y => ∀ g h, (elV x).ownBlock = some g → (elV y).ownBlock = some h → g < h)
theorem sep_nil : Sep [] := List.Pairwise.nil
theorem sep_app {w : World} {B N : Nat} {xs ys : List El} (hx : Sep xs) (hy : Sep ys) (h1 : ∀ x ∈ xs, ElOwn w B x) (hw : w.heap.size ≤ N) (h2 : ∀ y ∈ ys, ∀ h, (elV y).ownBlock = some h → N ≤ h) : Sep (xs ++ ys) := by
  refine List.pairwise_append.2 ⟨hx, hy, fun x hx y hy g h hg hh => ?_⟩
  have h3 := ((h1 x hx).2.lt g hg).2
  have h4 := h2 y hy h hh
  omega
theorem sep_one (x : El) : Sep [x] := List.pairwise_singleton _ _
/-- a row of deltas, and where it lies -/
abbrev Tr := List El × Option Addr × Nat
def trV (r : Tr) : Value := .slice r.2.1 r.1.length r.2.2
def TiersOwn (w : World) (B : Nat) (v : Value) (rs : List Tr) : Prop := (∀ r ∈ rs, RowOwn w B (trV r) r.1) ∧ w.ownsRow B 40 1 v rs.length (rs.map trV)
theorem tiers_own {w : World} {B : Nat} {v : Value} {rs : List Tr} (h : TiersOwn w B v rs) : ∃ a c, v = .slice a rs.length c ∧ TiersAt w w.heap.size a (rs.map (fun r => r.1.map (·.1))) c ∧ (a = none → c = 0) := by
  obtain ⟨h0, h⟩ := h
  rcases h.2 with ⟨rfl, hz⟩ | ⟨g, cap, cur, rfl, hB, hg, hn, hm, hc, ht⟩
  · have : rs = [] := List.length_eq_zero_iff.1 hz
    subst this
    exact ⟨none, 0, rfl, tiers_nil w _ (Nat.le_refl _), fun _ => rfl⟩
  · refine ⟨some ⟨g, 0, none⟩, cap, rfl, ⟨by rw [List.length_map]; exact hn, by simpa [maxLen] using hm, Nat.le_refl _, fun _ => ⟨g, 0, rfl, lt_of_heap hg, fun i x hi => ?_⟩⟩, fun e => by cases e⟩
    rw [List.getElem?_map, Option.map_eq_some_iff] at hi
    obtain ⟨y, hy, rfl⟩ := hi
    have hil := (List.getElem?_eq_some_iff.1 hy).1
    obtain ⟨a1, c1, e1, h1, _⟩ := row_own (h0 y (List.mem_of_getElem? hy))
    simp only [trV, Value.slice.injEq, true_and] at e1
    obtain ⟨e2, e3⟩ := e1
    refine ⟨y.2.1, y.2.2, ?_, by rw [e2, e3]; exact h1⟩
    rw [Nat.zero_add, h.cellAt _ (by omega), List.getElem?_map, hy, List.length_map]; rfl
theorem TiersOwn.below {w w' : World} {B : Nat} {v : Value} {rs : List Tr} (h : TiersOwn w B v rs) (hb : Below w.heap.size w w') : TiersOwn w' B v rs := ⟨fun r hr => (h.1 r hr).below hb, own_belowO h.2 hb (Nat.le_refl _)⟩
theorem cells_slice (l : List Value) (h : ∀ v ∈ l, ∃ a n c, v = .slice a n c) : ∀ u ∈ l, u.oneCell' = true := by
  intro u hu
  obtain ⟨a, n, c, rfl⟩ := h u hu
  rfl
theorem infoSl1 : (Try.prog.info? 33).map (fun i => (i.zero, i.size, i.bytes)) = some (some (.slice none 0 0), 1, 24) := by kernel_rfl
theorem infoSl2 : (Try.prog.info? 40).map (fun i => (i.zero, i.size, i.bytes)) = some (some (.slice none 0 0), 1, 24) := by kernel_rfl
/-- one revision alone -/
theorem bet_one {s : List UInt8} {l : List Rv} {i : Nat} {r : Rv} (h : checkE s l = 0) (hi : l[i]? = some r) : betO s l i (i + 1) = r.d := by
  obtain ⟨h1, h2, h3⟩ := check_zero h
  obtain ⟨o1, o2, o3, o4⟩ := hist_at h3 hi
  have hl := (List.getElem?_eq_some_iff.1 hi).1
  have e : (l.take (i + 1)).drop i = [r] := by
    have h4 : (l.take (i + 1))[i]? = some r := by rw [List.getElem?_take, if_pos (by omega)]; exact hi
    rw [drop_rv h4, List.drop_eq_nil_of_le (by rw [List.length_take]; omega)]
  rw [betO, e, ← o4]
  obtain ⟨_, _, u3, u4⟩ := comp_units o2
  show compR r.d (allN (outI r.d)) = r.d
  rw [compR, if_pos u3, u4]
/-- two and two of a row -/
def pairL : List (List Pt) → List (List Pt)
  | a :: b :: r => compR a b :: pairL r
  | _ => []
theorem pair_len : ∀ (n : Nat) (X : List (List Pt)), X.length ≤ n → (pairL X).length = X.length / 2 := by
  intro n
  induction n with
  | zero => intro X h; have : X = [] := List.length_eq_zero_iff.1 (by omega); subst this; rfl
  | succ n ih =>
    intro X h
    match X with
    | [] => rfl
    | [x] => simp [pairL]
    | a :: b :: r =>
      rw [pairL, List.length_cons, ih r (by simp at h; omega)]
      simp only [List.length_cons]; omega
theorem pair_at : ∀ (m : Nat) (X : List (List Pt)) (a b : List Pt), X[2 * m]? = some a → X[2 * m + 1]? = some b → (pairL X)[m]? = some (compR a b) := by
  intro m
  induction m with
  | zero =>
    intro X a b ha hb
    match X with
    | [] => simp at ha
    | [x] => simp at hb
    | x :: y :: r =>
      simp at ha hb
      subst ha hb
      rfl
  | succ m ih =>
    intro X a b ha hb
    match X with
    | [] => simp at ha
    | [x] => simp at hb
    | x :: y :: r =>
      rw [show 2 * (m + 1) = 2 * m + 1 + 1 by omega] at ha hb
      simp only [List.getElem?_cons_succ] at ha hb
      rw [pairL, List.getElem?_cons_succ]
      exact ih r a b ha hb
theorem tier_at {s : List UInt8} {l : List Rv} {v b : Nat} (h : b < l.length / 2 ^ v) : (tierRow s l v)[b]? = some (betO s l (b * 2 ^ v) ((b + 1) * 2 ^ v)) := by
  rw [tierRow, List.getElem?_map, List.getElem?_range h]; rfl
theorem tier_len (s : List UInt8) (l : List Rv) (v : Nat) : (tierRow s l v).length = l.length / 2 ^ v := by rw [tierRow, List.length_map, List.length_range]
theorem blk_in2 {n v b : Nat} (h : b < n / 2 ^ v) : (b + 1) * 2 ^ v ≤ n := by
  have hp : 0 < 2 ^ v := Nat.two_pow_pos v
  exact (Nat.le_div_iff_mul_le hp).1 h
theorem tier_next {s : List UInt8} {l : List Rv} {v : Nat} (h : checkE s l = 0) : pairL (tierRow s l v) = tierRow s l (v + 1) := by
  apply List.ext_getElem?
  intro m
  have hlen : (pairL (tierRow s l v)).length = l.length / 2 ^ (v + 1) := by rw [pair_len _ _ (Nat.le_refl _), tier_len, tier_half]
  rcases Nat.lt_or_ge m (l.length / 2 ^ (v + 1)) with hm | hm
  · have hm2 := hm
    rw [tier_half] at hm2
    rw [tier_at hm]
    have a1 := tier_at (s := s) (l := l) (v := v) (b := 2 * m) (by omega)
    have a2 := tier_at (s := s) (l := l) (v := v) (b := 2 * m + 1) (by omega)
    rw [pair_at m _ _ _ a1 a2]
    obtain ⟨t1, t2⟩ := tier_pair (s := s) (v := v) (b := m) h (blk_in2 hm)
    rw [show 2 * m + 1 + 1 = 2 * m + 2 by omega, t2]
  · rw [List.getElem?_eq_none (by omega), List.getElem?_eq_none (by rw [tier_len]; exact hm)]
/-- each two fit, and make a delta -/
theorem tier_fits {s : List UInt8} {l : List Rv} {v m : Nat} {a b : List Pt} (h : checkE s l = 0) (ha : (tierRow s l v)[2 * m]? = some a) (hb : (tierRow s l v)[2 * m + 1]? = some b) : compE a b = 0 ∧ sizesE (compR a b) = 0 := by
  have h1 := (List.getElem?_eq_some_iff.1 hb).1
  rw [tier_len] at h1
  have hm : m < l.length / 2 ^ (v + 1) := by rw [tier_half]; omega
  rw [tier_at (by omega)] at ha
  rw [tier_at h1] at hb
  obtain ⟨t1, t2⟩ := tier_pair (s := s) (v := v) (b := m) h (blk_in2 hm)
  obtain rfl := Option.some.inj ha
  obtain rfl := Option.some.inj hb
  rw [show 2 * m + 1 + 1 = 2 * m + 2 by omega]
  refine ⟨t1, ?_⟩
  rw [t2]
  have hp : 0 < 2 ^ (v + 1) := Nat.two_pow_pos _
  have h2 := up_next m (v + 1)
  exact (bet_says h (by omega) (blk_in2 hm)).1
theorem tier_zero {s : List UInt8} {l : List Rv} (h : checkE s l = 0) : tierRow s l 0 = l.map (·.d) := by
  apply List.ext_getElem?
  intro m
  rcases Nat.lt_or_ge m l.length with hm | hm
  · obtain ⟨r, hr⟩ : ∃ r, l[m]? = some r := ⟨l[m], List.getElem?_eq_getElem hm⟩
    rw [tier_at (by simpa using hm), List.getElem?_map, hr]
    have := bet_one h hr
    simp only [Nat.pow_zero, Nat.mul_one]
    rw [this]; rfl
  · rw [List.getElem?_eq_none (by rw [tier_len]; simpa using hm), List.getElem?_map, List.getElem?_eq_none hm]; rfl
end Go.Proofs.Ytinhidddfpjjkab
