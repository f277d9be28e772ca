/- The law ShopOwn, walked: it answers true. (laws/mkshown.py) -/
import Derived.Test.YtcghojnmnmmpoaaShMove
import Derived.Test.YtcghojnmnmmpoaaShRevs
import Derived.Test.YtcghojnmnmmpoaaShRun
import Derived.Test.YtcghojnmnmmpoaaOwnKit
import Derived.Test.YtcghojnmnmmpoaaHotLaw
import Derived.Test.YtcghojnmnmmpoaaDiskKit
import Derived.Deep.RegionHeld3
import Derived.Deep.AppendLies
import Derived.Deep.DeepCutAuto
namespace Go.Proofs.Ytcghojnmnmmpoaa
open Go.RowKit
set_option linter.unusedSimpArgs false
set_option linter.unusedVariables false

/-- a copy of parts that lie anywhere -/
theorem clone_far (a : Option Addr) (l : List Pt) (cap : Nat) (w : World) (hp : PartsAt w w.heap.size a l) (hr : Room a l cap) (hl : l.length * 32 ≤ 140737488351232) :
    Calls Try.prog 20 #[.slice a l.length cap] w fun e w' => ∃ v', e = .returned v' ∧ w'.ownsRow w.heap.size 45 3 v' l.length (allCells l) ∧ Below w.heap.size w w' := by
  obtain ⟨ip, hip, hp0, hp1, hp2⟩ := info_parts infoPart
  cases a with
  | none =>
    have h0 := parts_nil hp
    obtain rfl : l = [] := List.length_eq_zero_iff.1 h0
    obtain rfl : cap = 0 := hr.2 rfl
    have hq := onil_is
    clear hp hr
    go_enter Try.func20, Try.ntmps20
    go_wp2_with fail
    go_ret
    exact ⟨.slice none 0 0, rfl, World.ownsRow_nil _ _ _ _, Below.refl _ _⟩
  | some ad =>
    have HB0 : Hid (Below w.heap.size w (w.alloc (.cells #[] 45))) := (Below.refl _ _).alloc (Nat.le_refl _) _
    have HP : Hid (PartsAt (w.alloc (.cells #[] 45)) (w.alloc (.cells #[] 45)).heap.size (some ad) l) := hp.here HB0.out (Nat.le_refl _)
    have HO : Hid ((w.alloc (.cells #[] 45)).ownsRow w.heap.size 45 3 (.slice (some ⟨w.heap.size, 0, none⟩) 0 0) 0 []) :=
      ⟨rfl, .inr ⟨w.heap.size, 0, #[], rfl, Nat.le_refl _, Deep.blk_alloc_new _ _, Nat.le_refl _, by unfold maxLen; omega, rfl, rfl⟩⟩
    clear hp hr
    go_enter Try.func20, Try.ntmps20
    have hq := fun w => nil_not ad l.length cap w
    go_wp2_with (at_builtin; refine wpList_append_own _ rfl _ _ 25 rfl w.heap.size 45 ip _ 3 32 Try.underlying25 hip hp0 hp1 hp2 rfl (by decide) _ _ _ rfl HO.out ad l.length cap (allCells l) rfl (allCells_length l) (parts_cells HP.out) (allCells_one l) ?c3 ?c4 ?c5 ?_)
    case c3 => unfold maxLen; omega
    case c4 => omega
    case c5 => simp
    intro v' w2 hown hgrow _
    obtain ⟨bo, cb, rfl⟩ := slice_form' hown
    have HO2 : Hid (w2.ownsRow w.heap.size 45 3 (.slice bo (0 + l.length) cb) l.length (allCells l)) := by
      have h := hown
      simp only [Nat.zero_add, List.nil_append] at h ⊢
      exact h
    have HB2 : Hid (Below w.heap.size w w2) := below_own' HB0.out HO.out hgrow (by simp)
    clear hown hgrow
    go_wp2_with fail
    go_ret
    exact ⟨_, rfl, by simpa using HO2.out, HB2.out⟩
theorem grown_none {w w' : World} (h : w.grownBy w' none) : Below w.heap.size w w' := ⟨h.os, h.tape, h.output, h.size, fun k hk => h.block k hk (by simp)⟩
theorem spare_new {w : World} {B : Nat} {v : Value} {xs : List (Rv × Option Addr × Nat)} {k : Nat} (h : RzsOwn w B v xs) (hk : w.heap.size ≤ k) : Spare k xs := by
  intro x hx e
  have := ((h.1 x hx).2.lt k e).2
  omega
/-- what is done to a row of parts that is none of its own -/
theorem ShOf.spoiled {w w' : World} {g B n : Nat} {S : Sh} {v vk : Value} {xs : List (Rv × Option Addr × Nat)} {cs : List Value} (h : ShOf w g S v xs) (ho : w.ownsRow B 45 3 vk n cs) (hg : w.grownBy w' vk.ownBlock) (hs : ∀ k, vk.ownBlock = some k → Spare k xs) : ShOf w' g S v xs := by
  cases hb : vk.ownBlock with
  | none => rw [hb] at hg; exact h.below (grown_none hg)
  | some k =>
    have hsk := hs k hb
    refine ⟨(hg.block g h.1.lt ?_).trans h.1, ⟨fun x hx => ⟨(h.2.1.1 x hx).1, (h.2.1.1 x hx).2.kept hg (.inr ?_)⟩, h.2.1.2.kept hg (own_ne2' h.2.1.2 (rz_base ho (Nat.zero_le _)) (by decide))⟩, h.2.2⟩
    · exact fun e => own_ne' ho h.1 (by decide) e.symm
    · rw [hb]; exact hsk x hx
theorem ShOf.aside {w w' : World} {g k : Nat} {S : Sh} {v : Value} {xs : List (Rv × Option Addr × Nat)} {C : Array Value} {t : TypeId} {fz : Nat × Nat} (h : ShOf w g S v xs) (hk : w.heap[k]? = some (.cells C t fz)) (ht : t ≠ 45) (ht2 : t ≠ 27) (hne : g ≠ k) (ha : Aside k w w') : ShOf w' g S v xs :=
  ⟨ha.block h.1 hne, h.2.1.aside hk ht ht2 ha, h.2.2⟩
theorem GAdd_of (S : Sh) (r : Rv) (a : Option Addr) (c g : Nat) (w : World) {v : Value} {xs : List (Rv × Option Addr × Nat)} (h : ShOf w g S v xs) (hg : SGood S) (hp : PartsFar w g a r.d) :
    Calls Try.prog 21 #[.pointer (some ⟨g, 0, none⟩), .agg #[.int .i64 r.who, .int .i64 r.seq, .slice a r.d.length c]] w fun e w' => e = .returned (.tuple #[.int .i64 (addN S r), .int .i64 (addE S r)]) ∧ (∃ v' xs', ShOf w' g (addT S r) v' xs' ∧ ∀ k, k < w.heap.size → Spare k xs → Spare k xs') ∧ Aside g w w' := by
  obtain ⟨a', b', m, hi, hm⟩ := hg
  exact ShAdd_of S r a c g w h hi.ok hp hi.rooms.1 hi.rooms.2
/-- a revision's cells, in what came later -/
theorem rev_cells {w w' : World} {H : Nat} {x y : Int} {v : Value} (h : w.heap[H]? = some (.cells #[.int .i64 x, .int .i64 y, v] 27 (0, 0))) (hb : Below w.heap.size w w') : w'.cell? ⟨H, 0, none⟩ = some (.int .i64 x) ∧ w'.cell? ⟨H, 1, none⟩ = some (.int .i64 y) ∧ w'.cell? ⟨H, 2, none⟩ = some v := by
  have h2 := (hb.block H (lt_of_heap h)).trans h
  exact ⟨Lib.cell_of_heap h2 0, Lib.cell_of_heap h2 1, Lib.cell_of_heap h2 2⟩
theorem rev_set {w2 w4 : World} {B X n : Nat} {v a b c x y z : Value} {cs : List Value} (hg : w4.heap[X]? = some (.cells #[x, y, z] 27 (0, 0))) (ho : w4.ownsRow B 45 3 v n cs) (hb : Below B w2 w4) (hX : B ≤ X) :
    (((w4.setCell ⟨X, 0, none⟩ a).setCell ⟨X, 1, none⟩ b).setCell ⟨X, 2, none⟩ c).heap[X]? = some (.cells #[a, b, c] 27 (0, 0)) ∧ (((w4.setCell ⟨X, 0, none⟩ a).setCell ⟨X, 1, none⟩ b).setCell ⟨X, 2, none⟩ c).ownsRow B 45 3 v n cs ∧ Below B w2 (((w4.setCell ⟨X, 0, none⟩ a).setCell ⟨X, 1, none⟩ b).setCell ⟨X, 2, none⟩ c) := by
  have h1 := heap_setCell_same w4 X 0 _ _ a hg
  have h2 := heap_setCell_same _ X 1 _ _ b h1
  have h3 := heap_setCell_same _ X 2 _ _ c h2
  have ha : Aside X w4 (((w4.setCell ⟨X, 0, none⟩ a).setCell ⟨X, 1, none⟩ b).setCell ⟨X, 2, none⟩ c) := (((Aside.refl X w4).put 0 a).put 1 b).put 2 c
  exact ⟨h3, ho.kept ha (.inr (own_ne' ho hg (by decide))), ((hb.setCell (p := ⟨X, 0, none⟩) hX _).setCell (p := ⟨X, 1, none⟩) hX _).setCell (p := ⟨X, 2, none⟩) hX _⟩
/-- two archives, and the world that there was -/
def OwAll (W w : World) (B g1 g2 : Nat) (S T : Sh) (v1 : Value) (x1 : List (Rv × Option Addr × Nat)) (v2 : Value) (x2 : List (Rv × Option Addr × Nat)) : Prop := ShOf W g1 S v1 x1 ∧ ShOf W g2 T v2 x2 ∧ Below B w W ∧ B ≤ W.heap.size
theorem ow_size {W w : World} {B g1 g2 : Nat} {S T : Sh} {v1 v2 : Value} {x1 x2 : List (Rv × Option Addr × Nat)} (h : Hid (OwAll W w B g1 g2 S T v1 x1 v2 x2)) : B ≤ W.heap.size := h.out.2.2.2
theorem ow_one {W w : World} {B g1 g2 : Nat} {S T : Sh} {v1 v2 : Value} {x1 x2 : List (Rv × Option Addr × Nat)} (h : Hid (OwAll W w B g1 g2 S T v1 x1 v2 x2)) : ShOf W g1 S v1 x1 := h.out.1
theorem ow_sg1 {W w : World} {B g1 g2 : Nat} {S T : Sh} {v1 v2 : Value} {x1 x2 : List (Rv × Option Addr × Nat)} (h : Hid (OwAll W w B g1 g2 S T v1 x1 v2 x2)) (hg : SGood S) : SG W g1 S := ⟨⟨_, _, h.out.1⟩, hg⟩
theorem ow_sg2 {W w : World} {B g1 g2 : Nat} {S T : Sh} {v1 v2 : Value} {x1 x2 : List (Rv × Option Addr × Nat)} (h : Hid (OwAll W w B g1 g2 S T v1 x1 v2 x2)) (hg : SGood T) : SG W g2 T := ⟨⟨_, _, h.out.2.1⟩, hg⟩
theorem ow_next {W W' w : World} {B g1 g2 : Nat} {S T : Sh} {v1 v2 : Value} {x1 x2 : List (Rv × Option Addr × Nat)} (h : Hid (OwAll W w B g1 g2 S T v1 x1 v2 x2)) (hb : Below W.heap.size W W') : Hid (OwAll W' w B g1 g2 S T v1 x1 v2 x2) := by
  obtain ⟨h1, h2, h3, h4⟩ := h.out
  exact ⟨h1.below hb, h2.below hb, h3.trans (hb.mono h4), Nat.le_trans h4 hb.size⟩
theorem ow_spoil {W W' w : World} {B g1 g2 Bk n : Nat} {S T : Sh} {v1 v2 vk : Value} {x1 x2 : List (Rv × Option Addr × Nat)} {cs : List Value} (h : Hid (OwAll W w B g1 g2 S T v1 x1 v2 x2)) (ho : W.ownsRow Bk 45 3 vk n cs) (hg : W.grownBy W' vk.ownBlock) (hB : B ≤ Bk)
    (h1 : ∀ k, vk.ownBlock = some k → Spare k x1) (h2 : ∀ k, vk.ownBlock = some k → Spare k x2) : Hid (OwAll W' w B g1 g2 S T v1 x1 v2 x2) := by
  obtain ⟨k1, k2, k3, k4⟩ := h.out
  have hb : Below B w W' := below_own' k3 (rz_base ho hB) hg k4
  exact ⟨k1.spoiled ho hg h1, k2.spoiled ho hg h2, hb, Nat.le_trans k4 hg.size⟩
theorem rz_at {w : World} {B n ca k : Nat} {ao : Option Addr} {xs : List (Rv × Option Addr × Nat)} {y : Rv × Option Addr × Nat} (h : w.ownsRow B 27 3 (.slice ao n ca) n (rvAll xs)) (hn : n = xs.length) (hk : xs[k]? = some y) :
    ∃ g, ao = some ⟨g, 0, none⟩ ∧ g < w.heap.size ∧ w.cell? ⟨g, k * 3, none⟩ = some (.int .i64 y.1.who) ∧ w.cell? ⟨g, k * 3 + 1, none⟩ = some (.int .i64 y.1.seq) ∧ w.cell? ⟨g, k * 3 + 2, none⟩ = some (.slice y.2.1 y.1.d.length y.2.2) := by
  have hkl := (List.getElem?_eq_some_iff.1 hk).1
  subst hn
  rcases h.2 with ⟨h1, h0⟩ | ⟨g, cap, cur, hv, hB, hg, hn, hm, hc, ht⟩
  · omega
  · simp only [Value.slice.injEq, true_and] at hv
    obtain ⟨rfl, rfl⟩ := hv
    obtain ⟨c1, c2, c3⟩ := rvAll_at hk
    exact ⟨g, rfl, lt_of_heap hg, by rw [h.cellAt _ (by omega)]; exact c1, by rw [h.cellAt _ (by omega)]; exact c2, by rw [h.cellAt _ (by omega)]; exact c3⟩
/-- the revisions that were told, from one on -/
def LeftA (w : World) (M j : Nat) (ao : Option Addr) (ca : Nat) (xs : List (Rv × Option Addr × Nat)) : Prop := (∀ x ∈ xs.drop j, RzOwn w M x) ∧ w.ownsRow M 27 3 (.slice ao xs.length ca) xs.length (rvAll xs)
theorem LeftA.below {w w' : World} {M j : Nat} {ao : Option Addr} {ca : Nat} {xs : List (Rv × Option Addr × Nat)} (h : LeftA w M j ao ca xs) (hb : Below w.heap.size w w') : LeftA w' M j ao ca xs := ⟨fun x hx => (h.1 x hx).below hb, own_stay h.2 hb⟩
theorem LeftA.at {w : World} {M j : Nat} {ao : Option Addr} {ca : Nat} {xs : List (Rv × Option Addr × Nat)} {y : Rv × Option Addr × Nat} (h : LeftA w M j ao ca xs) (hy : xs[j]? = some y) : RzOwn w M y := by
  have hjl := (List.getElem?_eq_some_iff.1 hy).1
  have hd : xs.drop j = y :: xs.drop (j + 1) := by rw [List.drop_eq_getElem_cons hjl, (List.getElem?_eq_some_iff.1 hy).2]
  exact h.1 y (by rw [hd]; exact List.mem_cons_self ..)
theorem left_row {w : World} {M j : Nat} {ao : Option Addr} {ca : Nat} {xs : List (Rv × Option Addr × Nat)} {y : Rv × Option Addr × Nat} (h : LeftA w M j ao ca xs) (hy : xs[j]? = some y) : w.ownsRow M 45 3 (.slice y.2.1 y.1.d.length y.2.2) y.1.d.length (allCells y.1.d) := (h.at hy).2
theorem LeftA.spoil {w w' : World} {M j : Nat} {ao : Option Addr} {ca : Nat} {xs : List (Rv × Option Addr × Nat)} {y : Rv × Option Addr × Nat} (h : LeftA w M j ao ca xs) (hy : xs[j]? = some y) (hp : Apt xs) (hg : w.grownBy w' (Value.slice y.2.1 y.1.d.length y.2.2).ownBlock) : LeftA w' M (j + 1) ao ca xs := by
  have hjl := (List.getElem?_eq_some_iff.1 hy).1
  have hd : xs.drop j = y :: xs.drop (j + 1) := by rw [List.drop_eq_getElem_cons hjl, (List.getElem?_eq_some_iff.1 hy).2]
  have hyo := h.1 y (by rw [hd]; exact List.mem_cons_self ..)
  have hpd : (xs.drop j).Pairwise (fun x y => ∀ k, (Value.slice x.2.1 x.1.d.length x.2.2).ownBlock = some k → (Value.slice y.2.1 y.1.d.length y.2.2).ownBlock ≠ some k) := List.Pairwise.sublist (List.drop_sublist _ _) hp
  rw [hd] at hpd
  have hpy := (List.pairwise_cons.1 hpd).1
  refine ⟨fun x hx => ?_, h.2.kept hg (own_ne2' h.2 hyo.2 (by decide))⟩
  have hxo := h.1 x (by rw [hd]; exact List.mem_cons_of_mem _ hx)
  refine ⟨hxo.1, hxo.2.kept hg ?_⟩
  cases e : (Value.slice y.2.1 y.1.d.length y.2.2).ownBlock with
  | none =>
    cases e2 : (Value.slice x.2.1 x.1.d.length x.2.2).ownBlock with
    | none => exact .inl rfl
    | some k => exact .inr (by simp)
  | some k => exact .inr (hpy x hx k e)
set_option maxRecDepth 20000 in
set_option maxHeartbeats 16000000 in
theorem ShopOwn_any (a : Option Addr) (l : List Rv) (cap : Nat) (w : World) (hl : RevsAt w w.heap.size a l) (hc : l.length ≤ cap) (hd32 : ∀ r ∈ l, r.d.length * 32 ≤ 140737488351232) :
    Calls Try.prog 4 #[.slice a l.length cap] w fun e w' => e = .returned (.bool true) ∧ Below w.heap.size w w' := by
  have HL : Hid (RevsAt w w.heap.size a l) := hl
  have HD32 : Hid (∀ r ∈ l, r.d.length * 32 ≤ 140737488351232) := hd32
  have hll : l.length ≤ 9223372036854775807 := hl.1
  obtain ⟨B, hB⟩ : ∃ B, w.heap.size = B := ⟨_, rfl⟩
  have HWB : Hid (w.heap.size = B) := hB
  rw [hB] at HL
  have HF1 : Hid _ := fun w => first_any ⟨#[97]⟩ w (by decide)
  have HO1 : Hid _ := fun w ad hp => fill_one2 w ad hp
  obtain ⟨o1, _⟩ := one_facts
  have HH1 : Hid (∀ w g, SG w g (fillS [oneRv]) → Calls Try.prog 15 #[.pointer (some ⟨g, 0, none⟩)] w fun e w' => e = .returned (.int .i64 1) ∧ Below w.heap.size w w') := by
    intro w g h
    have h2 := GHead (fillS [oneRv]) g w h
    rw [o1] at h2
    exact h2
  clear o1 hl hB hd32
  generalize fillS [oneRv] = F1 at *
  have HFn : Hid (∀ w : World, Calls Try.prog 9 #[.slice none 0 0] w fun e w' => ∃ g, e = .returned (.pointer (some ⟨g, 0, none⟩)) ∧ w.heap.size ≤ g ∧ SG w' g (fillS []) ∧ Below w.heap.size w w') := fun w => Filled_any none [] 0 w (revs_nil w)
  have HFl : Hid _ := fun w h => Filled_any a l cap w h
  have HRv : Hid (∀ k w g, SG w g (fillS (l.take k)) → Calls Try.prog 12 #[.pointer (some ⟨g, 0, none⟩), .int .i64 0] w fun e w' => ∃ v xs, e = .returned (.tuple #[v, .int .i64 0]) ∧ RzsOwn w' w.heap.size v xs ∧ Apt xs ∧ xs.length ≤ 64 ∧ xs.map (·.1) = (fillS (l.take k)).log.revs ∧ Below w.heap.size w w') := by
    intro k w g h
    obtain ⟨_, _, hg3, _⟩ := fill_is (l.take k)
    have hgd := (fill_good (l.take k)).bounds
    have h0 : hasE (fillS (l.take k)) 0 = 0 := by unfold hasE; rw [if_neg (by omega), if_neg (by omega)]
    have hR : revsR (fillS (l.take k)) 0 = (fillS (l.take k)).log.revs := by rw [revsR, if_pos h0, hg3]; rfl
    have h2 := GRevs_apt (fillS (l.take k)) 0 g w h
    rw [h0, hR] at h2
    refine h2.mono fun e w' ⟨v, xs, e1, e2, e3, e4, e5⟩ => ⟨v, xs, e1, e2, e3, ?_, e4, e5⟩
    have h3 := congrArg List.length e4
    rw [List.length_map] at h3
    omega
  have HGd : Hid (∀ k, SGood (fillS (l.take k))) := fun k => fill_good _
  have HTk : Hid (l.take l.length = l) := List.take_length
  have HT0 : Hid (fillS [] = fillS (l.take 0)) := by rw [List.take_zero]; rfl
  have HNx : Hid (∀ (k : Nat) (r : Rv), l[k]? = some r → fillS (l.take (k + 1)) = addT (fillS (l.take k)) r) := by
    intro k r hr
    rw [List.take_add_one, hr]
    exact adds_snoc newS (l.take k) r
  have HGl : Hid (SGood (fillS l)) := fill_good l
  go_enter Try.func4, Try.ntmps4
  go_wp2_with fail
  with_reducible refine (HF1.out _).mono ?_
  rintro e w1 ⟨ad, rfl, hp1, hb1⟩
  have HB1 : Hid (Below B w w1) := by rw [← HWB.out]; exact hb1
  have HP1 : Hid _ := hp1
  clear hp1 hb1
  have HOne1 : Hid (Calls Try.prog 9 #[.slice (some ⟨w1.heap.size, 0, none⟩) 1 1] (w1.alloc (.cells #[.int .i64 1, .int .i64 1, .slice (some ad) 1 1] 27)) fun e w' => ∃ g, e = .returned (.pointer (some ⟨g, 0, none⟩)) ∧ w1.heap.size ≤ g ∧ SG w' g F1 ∧ Below w1.heap.size w1 w') := HO1.out w1 ad HP1.out
  go_wp2_with fail
  with_reducible refine Calls.mono HOne1.out ?_
  rintro e w2 ⟨g0, rfl, hg0, hs2, hb2⟩
  have HB2 : Hid (Below B w w2) := HB1.out.trans (hb2.mono (by have := HB1.out.size; have := HWB.out; omega))
  have HS2 : Hid (SG w2 g0 F1) := hs2
  clear hs2 HOne1 hg0 hb2
  go_wp2_with fail
  with_reducible refine (HH1.out _ _ HS2.out).mono ?_
  rintro e w3 ⟨rfl, hb3⟩
  have HB3 : Hid (Below B w w3) := HB2.out.trans (hb3.mono (by have := HB2.out.size; have := HWB.out; omega))
  clear hb3 HS2 HB1 HB2 HP1 HF1 HO1 HH1
  go_wp2_with fail
  with_reducible refine (HFn.out _).mono ?_
  rintro e w4 ⟨g1, rfl, hg1, hs4, hb4⟩
  have HS4 : Hid (SG w4 g1 (fillS (l.take 0))) := by rw [← HT0.out]; exact hs4
  have HB4 : Hid (Below B w w4) := HB3.out.trans (hb4.mono (by have := HB3.out.size; have := HWB.out; omega))
  have hg1B : B ≤ g1 := by have := HB3.out.size; have := HWB.out; omega
  have hg14 := hs4.lt
  clear hs4 hb4 hg1 HFn HT0
  go_wp2_with fail
  with_reducible refine (HFl.out _ (HL.out.here HB4.out (Nat.le_refl _))).mono ?_
  rintro e w5 ⟨g2, rfl, hg2, hs5, hb5⟩
  have HG : Hid (B ≤ g1 ∧ g1 < g2) := ⟨hg1B, by omega⟩
  obtain ⟨v1, x1, ho1⟩ := (HS4.out.below hb5).1
  obtain ⟨v2, x2, ho2⟩ := hs5.1
  have HX5 : Hid (OwAll w5 w B g1 g2 (fillS (l.take 0)) (fillS l) v1 x1 v2 x2) := ⟨ho1, ho2, HB4.out.trans (hb5.mono (by have := HB4.out.size; have := HWB.out; omega)), by have := HB4.out.size; have := HWB.out; have := hb5.size; omega⟩
  obtain ⟨M0, hM0⟩ : ∃ M0, w5.heap.size = M0 := ⟨_, rfl⟩
  have HSp2 : Hid (∀ k, M0 ≤ k → Spare k x2) := fun k hk => spare_new ho2.2.1 (by omega)
  have HM0 : Hid (B ≤ M0 ∧ w5.heap.size = M0) := ⟨by have := HX5.out.2.2.2; omega, hM0⟩
  clear hg1B hg14 hg2 hs5 hb5 ho1 ho2 HS4 HB4 HB3 HFl hM0
  go_wp2_with fail
  go_loopw [31] (fun i wr => ∃ (k : Nat) (v1 : Value) (x1 : List (Rv × Option Addr × Nat)), k ≤ l.length ∧ i = .int .i64 (k : Int) ∧ M0 ≤ wr.heap.size ∧ OwAll wr w B g1 g2 (fillS (l.take k)) (fillS l) v1 x1 v2 x2) (fun i _ => l.length - (intOf i).toNat)
  case atStart => exact ⟨0, v1, x1, Nat.zero_le _, rfl, Nat.le_of_eq HM0.out.2.symm, HX5.out⟩
  case round =>
    rename World => wr
    clear HX5
    obtain ⟨k, v1, x1, hk, rfl, hMr, hx⟩ := hrel
    have HX : Hid (OwAll wr w B g1 g2 (fillS (l.take k)) (fillS l) v1 x1 v2 x2) := hx
    clear hx
    by_cases hlt : k < l.length
    · have hki : (k : Int) < (l.length : Int) := by omega
      obtain ⟨r, hr⟩ : ∃ r, l[k]? = some r := ⟨_, List.getElem?_eq_getElem hlt⟩
      obtain ⟨b, off, ai, ci, rfl, hbl, hrv⟩ := (HL.out.below HX.out.2.2.1 (Nat.le_refl _)).mem hr
      have hgw : g1 < wr.heap.size := HX.out.1.1.lt
      have hbw : b < wr.heap.size := by have := HX.out.2.2.2; omega
      obtain ⟨d0, d1, d2, hpp, hroom⟩ := hrv
      have hr32 := HD32.out r (List.mem_of_getElem? hr)
      have HBd : Hid (Bound r.d) := ⟨hpp.1, hpp.2.2.1⟩
      have HNk : Hid (fillS (l.take (k + 1)) = addT (fillS (l.take k)) r) := HNx.out k r hr
      have HCl : Hid _ := fun w h => clone_far ai r.d ci w h hroom hr32
      have hb2 : Below wr.heap.size wr (wr.alloc (.cells #[.int .i64 r.who, .int .i64 r.seq, .slice ai r.d.length ci] 27)) := (Below.refl _ wr).alloc (Nat.le_refl _) _
      have HX2 := ow_next HX hb2
      have HPp : Hid (PartsAt (wr.alloc (.cells #[.int .i64 r.who, .int .i64 r.seq, .slice ai r.d.length ci] 27)) (wr.alloc (.cells #[.int .i64 r.who, .int .i64 r.seq, .slice ai r.d.length ci] 27)).heap.size ai r.d) := hpp.here (hb2.mono (by have := HX.out.2.2.2; omega)) (Nat.le_refl _)
      have HN2 : Hid ((wr.alloc (.cells #[.int .i64 r.who, .int .i64 r.seq, .slice ai r.d.length ci] 27)).heap[wr.heap.size]? = some (.cells #[.int .i64 r.who, .int .i64 r.seq, .slice ai r.d.length ci] 27 (0, 0))) := heap_alloc_new wr _
      have hz2 : (wr.alloc (.cells #[.int .i64 r.who, .int .i64 r.seq, .slice ai r.d.length ci] 27)).heap.size = wr.heap.size + 1 := by simp
      clear hr hb2 hpp hroom hr32
      go_upto_region 8 with fail
      generalize wr.alloc (.cells #[.int .i64 r.who, .int .i64 r.seq, .slice ai r.d.length ci] 27) = w2 at HX2 HPp HN2 hz2 ⊢
      obtain ⟨H, hH⟩ : ∃ H, wr.heap.size = H := ⟨_, rfl⟩
      rw [hH] at HN2 hz2 hMr ⊢
      clear d0 d1 d2 hbl hbw hgw hH HX
      have n0 := Lib.cell_of_heap HN2.out 0
      have n1 := Lib.cell_of_heap HN2.out 1
      have n2 := Lib.cell_of_heap HN2.out 2
      have hHl := lt_of_heap HN2.out
      have hzB := ow_size HX2
      have HZ2 : Hid (w2.heap.size = H + 1) := hz2
      clear hz2
      go_cut [7] (fun xv wc => ∃ (X : Nat) (a2 : Option Addr) (c2 : Nat), xv = .pointer (some ⟨X, 0, none⟩) ∧ wc.heap[X]? = some (.cells #[.int .i64 r.who, .int .i64 r.seq, .slice a2 r.d.length c2] 27 (0, 0)) ∧ wc.ownsRow w2.heap.size 45 3 (.slice a2 r.d.length c2) r.d.length (allCells r.d) ∧ w2.heap.size ≤ X ∧ Below w2.heap.size w2 wc)
      case first =>
        go_region_held3 (fun w' => w'.cell? ⟨H, 0, none⟩ = some (.int .i64 r.who) ∧ w'.cell? ⟨H, 1, none⟩ = some (.int .i64 r.seq) ∧ w'.cell? ⟨H, 2, none⟩ = some (.slice ai r.d.length ci)) (first | exact rev_cells HN2.out HB4.out | exact rev_cells HN2.out (HB4.out.alloc HB4.out.size _) | exact rev_cells HN2.out (rev_set (a := .int .i64 r.who) (b := .int .i64 r.seq) (c := .slice a2 r.d.length c2) HG4.out HO4.out HB4.out (Nat.le_refl _)).2.2 | go_keep | fail) (first
          | (go_at_call 20; refine (HCl.out _ (HPp.out.here (Below.refl _ _).drew (Nat.le_refl _))).mono ?_; rintro e w4 ⟨v4, rfl, ho4, hb4⟩; obtain ⟨a2, c2, rfl⟩ := slice_form' ho4; have HO4 : Hid (w4.ownsRow w2.heap.size 45 3 (.slice a2 r.d.length c2) r.d.length (allCells r.d)) := ho4; have HB4 : Hid (Below w2.heap.size w2 w4) := ((Below.refl _ w2).drew).trans hb4; clear ho4 hb4)
          | (go_at_call 20; refine (HCl.out _ (HPp.out.here ((Below.refl _ _).drew.alloc (Nat.le_refl _) _) (Nat.le_refl _))).mono ?_; rintro e w4 ⟨v4, rfl, ho4, hb4⟩; obtain ⟨a2, c2, rfl⟩ := slice_form' ho4; have HO4 : Hid (w4.ownsRow w2.heap.size 45 3 (.slice a2 r.d.length c2) r.d.length (allCells r.d)) := rz_base ho4 (by simp); have HG4 : Hid (w4.heap[w2.heap.size]? = some (.cells #[.int .i64 0, .int .i64 0, .slice none 0 0] 27 (0, 0))) := (hb4.block w2.heap.size (by simp)).trans (heap_alloc_new _ _); have HB4 : Hid (Below w2.heap.size w2 w4) := ((Below.refl _ w2).drew.alloc (Nat.le_refl _) (.cells #[.int .i64 0, .int .i64 0, .slice none 0 0] 27)).trans (hb4.mono (by simp)); have k0 := Lib.cell_of_heap HG4.out 0; have k1 := Lib.cell_of_heap HG4.out 1; have k2 := Lib.cell_of_heap HG4.out 2; have f0 := Lib.frozen_of_heap HG4.out 0; have f1 := Lib.frozen_of_heap HG4.out 1; have f2 := Lib.frozen_of_heap HG4.out 2; have hXl := lt_of_heap HG4.out; clear ho4 hb4)
          | fail)
        all_goals
          go_wp2_with fail
          refine Met.intro ?_
          try go_simp
          go_step
          (repeat apply Exists.intro)
          refine ⟨?rel, rfl⟩
          case rel =>
            first
              | (revert HG4; intro HG4
                 have hf := rev_set (a := .int .i64 r.who) (b := .int .i64 r.seq) (c := .slice a2 r.d.length c2) HG4.out HO4.out HB4.out (Nat.le_refl _)
                 exact ⟨_, a2, c2, rfl, hf.1, hf.2.1, Nat.le_refl _, hf.2.2⟩)
              | exact ⟨_, a2, c2, rfl, heap_alloc_new _ _, own_stay HO4.out ((Below.refl _ w4).alloc (Nat.le_refl _) _), HB4.out.size, HB4.out.alloc HB4.out.size _⟩
      case rest =>
        obtain ⟨X, a2, c2, rfl, hXc, hown, hX2, hbc⟩ := hcut
        have HXc : Hid (wc.heap[X]? = some (.cells #[.int .i64 r.who, .int .i64 r.seq, .slice a2 r.d.length c2] 27 (0, 0))) := hXc
        have HO : Hid (wc.ownsRow w2.heap.size 45 3 (.slice a2 r.d.length c2) r.d.length (allCells r.d)) := hown
        have HX3 := ow_next HX2 hbc
        have HWc : Hid (w2.heap.size ≤ wc.heap.size) := hbc.size
        have HS1 : Hid (∀ k, w2.heap.size ≤ k → Spare k x1) := fun k hk => spare_new HX2.out.1.2.1 hk
        have HXg : Hid (X ≠ g1) := by have := HX2.out.1.1.lt; show X ≠ g1; omega
        have HMk : Hid (M0 ≤ w2.heap.size ∧ B ≤ w2.heap.size) := ⟨by have := HZ2.out; omega, hzB⟩
        clear hXc hown hbc n0 n1 n2 hHl hzB hX2 HN2 HPp HCl
        have e0 := Lib.cell_of_heap HXc.out 0
        have e1 := Lib.cell_of_heap HXc.out 1
        have e2 := Lib.cell_of_heap HXc.out 2
        have hXl := lt_of_heap HXc.out
        have HPF : Hid (PartsFar wc g1 a2 r.d) := by
          intro w' ha
          have h4 := HO.out.kept ha (.inr (own_ne' HO.out HX3.out.1.1 (by decide)))
          obtain ⟨a, c, e, p1⟩ := parts_own h4 HBd.out
          simp only [Value.slice.injEq, true_and] at e
          obtain ⟨e1, _⟩ := e
          rw [e1]
          exact p1
        have HA : Hid _ := fun w h hp => GAdd_of (fillS (l.take k)) r a2 c2 g1 w (v := v1) (xs := x1) h (HGd.out k) hp
        have HSq : Hid _ := fun w h => spoil_any w2.heap.size r.d.length (.slice a2 r.d.length c2) (allCells r.d) 7 w h
        go_wp2_with fail
        with_reducible refine (HA.out _ (ow_one HX3) HPF.out).mono ?_
        rintro e w4 ⟨rfl, ⟨v1', x1', hs4, hsp⟩, ha4⟩
        have HX4 : Hid (OwAll w4 w B g1 g2 (fillS (l.take (k + 1))) (fillS l) v1' x1' v2 x2) := ⟨by rw [HNk.out]; exact hs4, HX3.out.2.1.aside HX3.out.1.1 (by decide) (by decide) (by have := HG.out; omega) ha4, HX3.out.2.2.1.trans (ha4.below HG.out.1 HX3.out.2.2.2), Nat.le_trans HX3.out.2.2.2 ha4.size⟩
        have HO4 : Hid (w4.ownsRow w2.heap.size 45 3 (.slice a2 r.d.length c2) r.d.length (allCells r.d)) := HO.out.kept ha4 (.inr (own_ne' HO.out HX3.out.1.1 (by decide)))
        have HXc4 : Hid (w4.heap[X]? = some (.cells #[.int .i64 r.who, .int .i64 r.seq, .slice a2 r.d.length c2] 27 (0, 0))) := ha4.block HXc.out HXg.out
        have HSq1 : Hid (∀ k, (Value.slice a2 r.d.length c2).ownBlock = some k → Spare k x1') := fun k e => hsp k (HO.out.lt k e).2 (HS1.out k (HO.out.lt k e).1)
        have HSq2 : Hid (∀ k, (Value.slice a2 r.d.length c2).ownBlock = some k → Spare k x2) := fun k e => HSp2.out k (by have := (HO.out.lt k e).1; have := HMk.out; omega)
        have HW4 : Hid (w2.heap.size ≤ w4.heap.size) := Nat.le_trans HWc.out ha4.size
        clear hs4 hsp ha4 e0 e1 e2 hXl HPF HA HX2 HX3 HO HXc HS1 HXg
        have e2 := Lib.cell_of_heap HXc4.out 2
        have hXl := lt_of_heap HXc4.out
        go_wp2_with fail
        with_reducible refine (HSq.out _ HO4.out).mono ?_
        rintro e w5 ⟨rfl, hg5⟩
        have HX5 := ow_spoil HX4 HO4.out hg5 HMk.out.2 HSq1.out HSq2.out
        have hM5 : M0 ≤ w5.heap.size := by have h7 : w4.heap.size ≤ w5.heap.size := hg5.size; have := HW4.out; have := HMk.out; omega
        clear hg5 e2 hXl HX4 HO4 HXc4 HSq HSq1 HSq2
        go_wp2_with fail
        with_reducible refine (HRv.out (k + 1) _ _ (ow_sg1 HX5 (HGd.out (k + 1)))).mono ?_
        rintro e w6 ⟨v8, x8, rfl, hz6, hap6, hl6, _, hb6⟩
        obtain ⟨a8, c8, rfl⟩ := rzs_form hz6
        have HX6 := ow_next HX5 hb6
        obtain ⟨M, hM⟩ : ∃ M, w5.heap.size = M := ⟨_, rfl⟩
        have HSs : Hid (∀ k, M ≤ k → Spare k x1') := fun k hk => spare_new HX5.out.1.2.1 (by omega)
        have HLf : Hid (LeftA w6 M 0 a8 c8 x8) := by
          rw [hM] at hz6
          exact ⟨by rw [List.drop_zero]; exact hz6.1, hz6.2⟩
        have HAp : Hid (Apt x8) := hap6
        have HM6 : Hid (M0 ≤ M ∧ B ≤ M ∧ M ≤ w6.heap.size) := ⟨by omega, by have := ow_size HX5; omega, by have := hb6.size; omega⟩
        clear hz6 hap6 hb6 HX5 hM hM5
        go_wp2_with fail
        go_loopw [59] (fun i wz => ∃ j : Nat, j ≤ x8.length ∧ i = .int .i64 (j : Int) ∧ LeftA wz M j a8 c8 x8 ∧ M ≤ wz.heap.size ∧ OwAll wz w B g1 g2 (fillS (l.take (k + 1))) (fillS l) v1' x1' v2 x2) (fun i _ => x8.length - (intOf i).toNat)
        case atStart => exact ⟨0, Nat.zero_le _, rfl, HLf.out, HM6.out.2.2, HX6.out⟩
        case round =>
          rename World => wz
          clear HLf HX6
          obtain ⟨j, hj, rfl, hlf, hMz, hx⟩ := hrel
          have HLf : Hid (LeftA wz M j a8 c8 x8) := hlf
          have HX6 : Hid (OwAll wz w B g1 g2 (fillS (l.take (k + 1))) (fillS l) v1' x1' v2 x2) := hx
          clear hlf hx
          by_cases hlt2 : j < x8.length
          · have hji : (j : Int) < (x8.length : Int) := by omega
            obtain ⟨y, hy⟩ : ∃ y, x8[j]? = some y := ⟨_, List.getElem?_eq_getElem hlt2⟩
            obtain ⟨g8, rfl, hgl, d0, d1, d2⟩ := rz_at HLf.out.2 rfl hy
            have hb7 : Below wz.heap.size wz (wz.alloc (.cells #[.int .i64 y.1.who, .int .i64 y.1.seq, .slice y.2.1 y.1.d.length y.2.2] 27)) := (Below.refl _ wz).alloc (Nat.le_refl _) _
            have HL7 : Hid (LeftA (wz.alloc (.cells #[.int .i64 y.1.who, .int .i64 y.1.seq, .slice y.2.1 y.1.d.length y.2.2] 27)) M j (some ⟨g8, 0, none⟩) c8 x8) := HLf.out.below hb7
            have HX7 := ow_next HX6 hb7
            have HN7 : Hid ((wz.alloc (.cells #[.int .i64 y.1.who, .int .i64 y.1.seq, .slice y.2.1 y.1.d.length y.2.2] 27)).heap[wz.heap.size]? = some (.cells #[.int .i64 y.1.who, .int .i64 y.1.seq, .slice y.2.1 y.1.d.length y.2.2] 27 (0, 0))) := heap_alloc_new wz _
            have hz7 : (wz.alloc (.cells #[.int .i64 y.1.who, .int .i64 y.1.seq, .slice y.2.1 y.1.d.length y.2.2] 27)).heap.size = wz.heap.size + 1 := by simp
            have HY : Hid (x8[j]? = some y) := hy
            have HSr : Hid _ := fun w h => spoil_any M y.1.d.length (.slice y.2.1 y.1.d.length y.2.2) (allCells y.1.d) 8 w h
            clear hy hb7
            go_upto_region 17 with fail
            generalize wz.alloc (.cells #[.int .i64 y.1.who, .int .i64 y.1.seq, .slice y.2.1 y.1.d.length y.2.2] 27) = w7 at HL7 HX7 HN7 hz7 ⊢
            obtain ⟨G, hG⟩ : ∃ G, wz.heap.size = G := ⟨_, rfl⟩
            rw [hG] at HN7 hz7 hMz ⊢
            have hM7 : M ≤ w7.heap.size := by omega
            clear d0 d1 d2 hgl hG hz7
            have n2 := Lib.cell_of_heap HN7.out 2
            have hGl := lt_of_heap HN7.out
            go_wp2_with fail
            with_reducible refine (HSr.out _ (left_row HL7.out HY.out)).mono ?_
            rintro e w9 ⟨rfl, hg9⟩
            have ho7 := (HL7.out.at HY.out).2
            have HX9 := ow_spoil HX7 ho7 hg9 HM6.out.2.1 (fun k e => HSs.out k (ho7.lt k e).1) (fun k e => HSp2.out k (by have := (ho7.lt k e).1; have := HM6.out; omega))
            have HL9 : Hid (LeftA w9 M (j + 1) (some ⟨g8, 0, none⟩) c8 x8) := HL7.out.spoil HY.out HAp.out hg9
            have HM9 : Hid (M ≤ w9.heap.size) := Nat.le_trans hM7 hg9.size
            clear hg9 ho7 n2 hGl
            go_wp2_with fail
            go_roundw
            case rel => exact ⟨j + 1, hlt2, by go_num, HL9.out, HM9.out, HX9.out⟩
            case measure => simp [intOf]; omega
          · have hji : ¬ (j : Int) < (x8.length : Int) := by omega
            have HMe : Hid (M0 ≤ wz.heap.size) := Nat.le_trans HM6.out.1 hMz
            go_wp2_with fail
            go_roundw
            case rel => exact ⟨k + 1, v1', x1', hlt, by go_num, HMe.out, HX6.out⟩
            case measure => simp [intOf]; omega
    · have hki : ¬ (k : Int) < (l.length : Int) := by omega
      obtain rfl : k = l.length := by omega
      have HXe : Hid (OwAll wr w B g1 g2 (fillS l) (fillS l) v1 x1 v2 x2) := by
        have h := HX.out
        rw [HTk.out] at h
        exact h
      have HRe : Hid (∀ w g, SG w g (fillS l) → Calls Try.prog 12 #[.pointer (some ⟨g, 0, none⟩), .int .i64 0] w fun e w' => ∃ a c, e = .returned (.tuple #[.slice a (fillS l).log.revs.length c, .int .i64 0]) ∧ RevsAt w' w'.heap.size a (fillS l).log.revs ∧ Below w.heap.size w w') := by
        intro w g h
        have h2 := HRv.out l.length w g (by rw [HTk.out]; exact h)
        rw [HTk.out] at h2
        refine h2.mono ?_
        rintro e w' ⟨v, xs, e1, e2, _, e4, e5, e6⟩
        obtain ⟨a, c, f1, _, f3⟩ := rzs_at e2 e4
        have f4 := congrArg List.length e5
        rw [List.length_map] at f4
        rw [e5] at f3
        rw [f4] at f1
        exact ⟨a, c, by rw [e1, f1], f3, e6⟩
      have HDk : Hid (∀ w g, SG w g (fillS l) → Calls Try.prog 24 #[.pointer (some ⟨g, 0, none⟩)] w fun e w' => e = .returned (.agg #[.string (fillS l).p0, .int .i64 (fillS l).x0, .string (fillS l).p1, .int .i64 (fillS l).x1]) ∧ Below w.heap.size w w') := fun w g h => GDisk (fillS l) g w h
      have heq := disk_eql (fillS l).p0 (fillS l).p1 (fillS l).x0 (fillS l).x1
      have HSm : Hid _ := fun a b ca cb w h1 h2 => SameRvs_yes a b (fillS l).log.revs ca cb w h1 h2
      clear hlt HX HRv HNx HTk HSp2 HL HD32
      have HGL : Hid (SGood (fillS l)) := HGl.out
      clear HGl HGd
      generalize fillS l = Fl at *
      generalize Fl.log.revs = X at *
      generalize Fl.p0 = p0 at *
      generalize Fl.x0 = q0 at *
      generalize Fl.p1 = p1 at *
      generalize Fl.x1 = q1 at *
      go_wp2_with fail
      with_reducible refine (HRe.out _ _ (ow_sg1 HXe HGL.out)).mono ?_
      rintro e w4 ⟨a4, c4, rfl, hr4, hb4⟩
      have HX4 := ow_next HXe hb4
      have HR4 : Hid (RevsAt w4 w4.heap.size a4 X) := hr4
      clear hr4 hb4 HXe
      go_wp2_with fail
      with_reducible refine (HRe.out _ _ (ow_sg2 HX4 HGL.out)).mono ?_
      rintro e w5 ⟨a5, c5, rfl, hr5, hb5⟩
      have HX5 := ow_next HX4 hb5
      have HR5 : Hid (RevsAt w5 w5.heap.size a4 X ∧ RevsAt w5 w5.heap.size a5 X) := ⟨HR4.out.here hb5 (Nat.le_refl _), hr5⟩
      clear hr5 hb5 HX4 HR4
      go_wp2_with fail
      with_reducible refine (HSm.out _ _ _ _ _ HR5.out.1 HR5.out.2).mono ?_
      rintro e w6 ⟨rfl, hb6⟩
      have HX6 := ow_next HX5 hb6
      clear hb6 HX5 HR5
      go_wp2_with fail
      with_reducible refine (HDk.out _ _ (ow_sg1 HX6 HGL.out)).mono ?_
      rintro e w7 ⟨rfl, hb7⟩
      have HX7 := ow_next HX6 hb7
      clear hb7 HX6
      go_wp2_with fail
      with_reducible refine (HDk.out _ _ (ow_sg2 HX7 HGL.out)).mono ?_
      rintro e w8 ⟨rfl, hb8⟩
      have HX8 := ow_next HX7 hb8
      clear hb8 HX7
      go_wp2_with fail
      go_ret
      exact ⟨rfl, by rw [HWB.out]; exact HX8.out.2.2.1⟩
end Go.Proofs.Ytcghojnmnmmpoaa
