/- What KeepMore asks besides: pins that are copied, and whether one of a row lacks in another. -/
import Derived.Test.YtinhidddfpjjkaaKeepKit
import Derived.Test.YtinhidddfpjjkaaRPol
import Derived.Laws.OwnMore
import Derived.Laws.Entries
namespace Go.Proofs.Ytinhidddfpjjkaa
open Go.RowKit
set_option linter.unusedSimpArgs false
set_option linter.unusedVariables false

/-- numbers, as cells -/
def izC (x : List Int) : List Value := x.map (fun n => Value.int .i64 n)
theorem izC_len (x : List Int) : (izC x).length = x.length := List.length_map _
theorem izC_one (x : List Int) : ∀ u ∈ izC x, u.oneCell' = true := by
  intro u hu
  obtain ⟨q, _, rfl⟩ := List.mem_map.1 hu
  rfl
theorem IzAt.cells {w : World} {B : Nat} {ad : Addr} {x : List Int} {c : Nat} (h : IzAt w B (some ad) x c) : ∀ j u, (izC x)[j]? = some u → w.cell? (ad.add j) = some u := by
  intro j u hj
  rw [izC, List.getElem?_map, Option.map_eq_some_iff] at hj
  obtain ⟨q, hq, rfl⟩ := hj
  obtain ⟨b, off, e, _, hc⟩ := h.mem hq
  obtain rfl := Option.some.inj e
  rw [Addr.add_lit]; exact hc
theorem iz_own {w : World} {B : Nat} {v : Value} {x : List Int} (h : w.ownsRow B 3 1 v x.length (izC x)) : ∃ a c, v = .slice a x.length c ∧ IzAt w w.heap.size a x c := by
  rcases h.2 with ⟨rfl, h0⟩ | ⟨g, cap, cur, rfl, hB, hg, hn, hm, hc, ht⟩
  · have : x = [] := List.length_eq_zero_iff.1 h0
    subst this
    exact ⟨none, 0, rfl, iz_nil _ _ _ (Nat.le_refl _) (by decide) _⟩
  · refine ⟨some ⟨g, 0, none⟩, cap, rfl, hn, by simpa [maxLen] using hm, Nat.le_refl _, fun _ => ⟨g, 0, rfl, lt_of_heap hg, fun i q hi => ?_⟩⟩
    have hil := (List.getElem?_eq_some_iff.1 hi).1
    rw [Nat.zero_add, h.cellAt _ (by omega), izC, List.getElem?_map, hi]; rfl
theorem inone_is (c : Nat) (w : World) : (binOp BinOp.eql 22 (Value.slice none 0 c) (Value.slice none 0 0)).run Try.prog w = .ok (.bool true) w := by kernel_rfl
theorem inone_not (a : Addr) (n c : Nat) (w : World) : (binOp BinOp.eql 22 (Value.slice (some a) n c) (Value.slice none 0 0)).run Try.prog w = .ok (.bool false) w := by kernel_rfl
set_option maxHeartbeats 1000000 in
theorem CloneIz_any (a : Option Addr) (x : List Int) (c : Nat) (w : World) (h : IzAt w w.heap.size a x c) (hl : x.length ≤ 16) :
    Calls Try.prog 18 #[.slice a x.length c] w fun e w' => ∃ v, e = .returned v ∧ w'.ownsRow w.heap.size 3 1 v x.length (izC x) ∧ Below w.heap.size w w' := by
  obtain ⟨ip, hip, hp0, hp1, hp2⟩ := info_parts infoInt
  cases a with
  | none =>
    have hnil : x = [] := by
      cases x with
      | nil => rfl
      | cons f l =>
        obtain ⟨b, off, he, _⟩ := h.2.2.2 (by simp)
        cases he
    subst hnil
    have hq := fun w => inone_is c w
    clear h
    go_enter Try.func18, Try.ntmps18
    go_wp2_with fail
    go_ret
    exact ⟨.slice none 0 0, rfl, World.ownsRow_nil _ _ _ _, Below.refl _ _⟩
  | some ad =>
    have HB0 : Hid (Below w.heap.size w (w.alloc (.cells #[] 3))) := (Below.refl _ _).alloc (Nat.le_refl _) _
    have hcs := (h.below HB0.out (Nat.le_refl _)).cells
    have HO := World.ownsRow_lit (base := w.heap.size) (e := 3) (size := 1) w #[] 0 (Nat.le_refl _) (by decide) rfl
    have hq := fun w => inone_not ad x.length c w
    clear h
    go_enter Try.func18, Try.ntmps18
    go_wp2_with (at_builtin; refine wpList_append_own _ rfl _ _ 22 rfl w.heap.size 3 ip _ 1 8 Try.underlying22 hip hp0 hp1 hp2 rfl (by decide) _ _ _ rfl HO ad x.length c (izC x) rfl (by rw [izC_len, Nat.mul_one]) hcs (izC_one x) ?c3 ?c4 ?c5 ?_)
    case c3 => unfold maxLen; omega
    case c4 => omega
    try (case c5 => simp)
    intro v' w3 hown2 hgrow _
    have HB4 : Hid (Below w.heap.size w w3) := below_own HB0.out HO hgrow (by simp)
    have HO3 : Hid (w3.ownsRow w.heap.size 3 1 v' x.length (izC x)) := by
      show World.ownsRow _ _ _ _ _ _ _
      simpa using hown2
    clear hown2 hgrow HO
    go_wp2_with fail
    go_ret
    exact ⟨v', rfl, HO3.out, HB4.out⟩
/-- the box that a closure of KeepMore looks into -/
def LBox (w : World) (g : Nat) (s : Value) : Prop := w.cell? ⟨g, 0, none⟩ = some s ∧ g < w.heap.size
set_option maxHeartbeats 1000000 in
theorem moreOne_any (g : Nat) (b : Option Addr) (K : List Nat) (c r : Nat) (w : World) (hx : LBox w g (.slice b K.length c)) (hv : NatsAt w w.heap.size b K c) (hr : r ∈ K) :
    Calls Try.prog 20 #[.int .i64 (r : Int), .pointer (some ⟨g, 0, none⟩)] w fun e w' => e = .returned (.bool false) ∧ w' = w := by
  obtain ⟨x0, x1⟩ := hx
  have HV : Hid (NatsAt w w.heap.size b K c) := hv
  have HR : Hid (r ∈ K) := hr
  clear hv hr
  go_enter Try.func20, Try.ntmps20
  go_wp2_with fail
  refine (KCo_yes b K c r _ HV.out HR.out).mono ?_
  rintro e w1 ⟨rfl, we⟩
  subst we
  go_wp2_with fail
  go_ret
  exact ⟨rfl, rfl⟩
set_option maxHeartbeats 1000000 in
theorem moreIx_any (g : Nat) (b : Option Addr) (K2 : List Nat) (c2 : Nat) (a : Option Addr) (K : List Nat) (c : Nat) (w : World) (hx : LBox w g (.slice b K2.length c2)) (hv2 : NatsAt w w.heap.size b K2 c2) (hv : NatsAt w w.heap.size a K c) (hs : ∀ r ∈ K, r ∈ K2) :
    Calls Try.prog 27 #[.slice a K.length c, .func (.func 20) #[] #[.pointer (some ⟨g, 0, none⟩)]] w fun e w' => e = .returned (.int .i64 (-1)) ∧ w' = w := by
  have hl : K.length ≤ 9223372036854775807 := Nat.le_trans hv.1 hv.2.1
  have HV : Hid (NatsAt w w.heap.size a K c) := hv
  have HV2 : Hid (LBox w g (.slice b K2.length c2) ∧ NatsAt w w.heap.size b K2 c2) := ⟨hx, hv2⟩
  have HS : Hid (∀ r ∈ K, r ∈ K2) := hs
  clear hv hv2 hx hs
  go_enter Try.func27, Try.ntmps27
  go_wp2_with fail
  go_loopw [8] (fun i wr => ∃ k : Nat, k ≤ K.length ∧ i = .int .i64 k ∧ wr = w) (fun i _ => K.length - (intOf i).toNat)
  case atStart => exact ⟨0, Nat.zero_le _, rfl, rfl⟩
  case round =>
    obtain ⟨k, hk, rfl, rfl⟩ := hrel
    by_cases hlt : k < K.length
    · obtain ⟨y, hy⟩ : ∃ y, K[k]? = some y := ⟨K[k], List.getElem?_eq_getElem hlt⟩
      have hki : (k : Int) < (K.length : Int) := by omega
      obtain ⟨g1, og, e1, hg, y1⟩ := HV.out.mem hy
      subst e1
      have HY : Hid (y ∈ K2) := HS.out y (List.mem_of_getElem? hy)
      clear hy
      go_wp2_with fail
      refine (moreOne_any g b K2 c2 y _ HV2.out.1 HV2.out.2 HY.out).mono ?_
      rintro e w1 ⟨rfl, we⟩
      subst we
      go_wp2_with fail
      go_roundw
      case rel => exact ⟨k + 1, by omega, by go_num, by first | rfl | trivial⟩
      case measure => simp [intOf]; omega
    · have hki : ¬ (k : Int) < (K.length : Int) := by omega
      go_wp2_with fail
      go_ret
      exact ⟨rfl, rfl⟩
set_option maxHeartbeats 400000 in
theorem moreCo_any (g : Nat) (b : Option Addr) (K2 : List Nat) (c2 : Nat) (a : Option Addr) (K : List Nat) (c : Nat) (w : World) (hx : LBox w g (.slice b K2.length c2)) (hv2 : NatsAt w w.heap.size b K2 c2) (hv : NatsAt w w.heap.size a K c) (hs : ∀ r ∈ K, r ∈ K2) :
    Calls Try.prog 19 #[.slice a K.length c, .func (.func 20) #[] #[.pointer (some ⟨g, 0, none⟩)]] w fun e w' => e = .returned (.bool false) ∧ w' = w := by
  have HX : Hid (∀ w0 : World, w0 = w → _) := fun w0 _ => moreIx_any g b K2 c2 a K c w hx hv2 hv hs
  clear hx hv2 hv hs
  go_enter Try.func19, Try.ntmps19
  go_wp2_with fail
  refine (HX.out _ rfl).mono ?_
  rintro e w1 ⟨rfl, we⟩
  subst we
  go_wp2_with fail
  go_ret
  exact ⟨rfl, rfl⟩
/-- the policy with more is right, too -/
theorem pol_more {last every : Int} {pins : List Int} {m r : Nat} (h : polE last every pins = 0) (h1 : last ≤ 1000) (h2 : pins.length ≤ 15) (hm : m < 1000) (hr : r < 1000) : polE (last + m) every (pins ++ [(r : Int)]) = 0 := by
  obtain ⟨a, b, c, d, e, f⟩ := pol_zero h
  have hl : (pins ++ [(r : Int)]).length = pins.length + 1 := by simp
  rw [polE_pins (by omega), if_neg (by omega), if_neg]
  refine all_pins fun q hq => ?_
  rcases List.mem_append.1 hq with hq | hq
  · exact f q hq
  · obtain rfl : q = (r : Int) := by simpa using hq
    omega
theorem own_setK {w : World} {B n size g o : Nat} {e : TypeId} {v u : Value} {xs : List Value} (h : w.ownsRow B e size v n xs) (hn : v.ownBlock ≠ some g) : (w.setCell ⟨g, o, none⟩ u).ownsRow B e size v n xs :=
  h.kept (row := some g) ⟨rfl, rfl, rfl, by simp [World.setCell], fun k _ hk => Deep.blk_setCell_other w _ u k (fun e => hk (by rw [e]))⟩ (.inr hn)
theorem set_atK {w : World} {b o : Nat} {cs : Array Value} {t : TypeId} {v : Value} (h : w.heap[b]? = some (.cells cs t (0, 0))) : (w.setCell ⟨b, o, none⟩ v).heap[b]? = some (.cells (cs.setIfInBounds o v) t (0, 0)) := by
  simp [World.setCell, Array.getElem?_modify, h]
/-- a policy's box, filled -/
theorem fin_set {w4 w7 : World} {B g gg cap n : Nat} {x0 x1 x2 : Value} {L E : Int} {pins : List Int} (hl : n = pins.length) (ho : w7.ownsRow B 3 1 (.slice (some ⟨gg, 0, none⟩) n cap) n (izC pins)) (hg : w7.heap[g]? = some (.cells #[x0, x1, x2] 24 (0, 0))) (hne : gg ≠ g) (hb : Below w4.heap.size w4 w7) (hB : w4.heap.size ≤ g) :
    let W := ((w7.setCell ⟨g, 0, none⟩ (.int .i64 L)).setCell ⟨g, 1, none⟩ (.int .i64 E)).setCell ⟨g, 2, none⟩ (.slice (some ⟨gg, 0, none⟩) n cap)
    PBox W g L E (.slice (some ⟨gg, 0, none⟩) n cap) ∧ IzAt W W.heap.size (some ⟨gg, 0, none⟩) pins cap ∧ Below w4.heap.size w4 W := by
  intro W
  have hn : (Value.slice (some ⟨gg, 0, none⟩) n cap).ownBlock ≠ some g := by simp [Value.ownBlock, hne]
  have hW : W.heap[g]? = some (.cells (((#[x0, x1, x2].setIfInBounds 0 (.int .i64 L)).setIfInBounds 1 (.int .i64 E)).setIfInBounds 2 (.slice (some ⟨gg, 0, none⟩) n cap)) 24 (0, 0)) := set_atK (set_atK (set_atK hg))
  have hO : W.ownsRow B 3 1 (.slice (some ⟨gg, 0, none⟩) n cap) n (izC pins) := own_setK (own_setK (own_setK ho hn) hn) hn
  subst hl
  obtain ⟨a, c, e, h1⟩ := iz_own hO
  simp only [Value.slice.injEq, true_and] at e
  obtain ⟨rfl, rfl⟩ := e
  refine ⟨⟨?_, ?_, ?_, lt_of_heap hW⟩, h1, ((hb.setCell (p := ⟨g, 0, none⟩) hB _).setCell (p := ⟨g, 1, none⟩) hB _).setCell (p := ⟨g, 2, none⟩) hB _⟩
  · rw [Lib.cell_of_heap hW]; rfl
  · rw [Lib.cell_of_heap hW]; rfl
  · rw [Lib.cell_of_heap hW]; rfl
theorem fin_new {w4 w7 : World} {B gg cap n : Nat} {L E : Int} {pins : List Int} (hl : n = pins.length) (ho : w7.ownsRow B 3 1 (.slice (some ⟨gg, 0, none⟩) n cap) n (izC pins)) (hb : Below w4.heap.size w4 w7) :
    PBox (w7.alloc (.cells #[.int .i64 L, .int .i64 E, .slice (some ⟨gg, 0, none⟩) n cap] 24)) w7.heap.size L E (.slice (some ⟨gg, 0, none⟩) n cap) ∧ IzAt (w7.alloc (.cells #[.int .i64 L, .int .i64 E, .slice (some ⟨gg, 0, none⟩) n cap] 24)) (w7.alloc (.cells #[.int .i64 L, .int .i64 E, .slice (some ⟨gg, 0, none⟩) n cap] 24)).heap.size (some ⟨gg, 0, none⟩) pins cap ∧ Below w4.heap.size w4 (w7.alloc (.cells #[.int .i64 L, .int .i64 E, .slice (some ⟨gg, 0, none⟩) n cap] 24)) := by
  have hO := own_alloc ho (.cells #[.int .i64 L, .int .i64 E, .slice (some ⟨gg, 0, none⟩) n cap] 24)
  subst hl
  obtain ⟨a, c, e, h1⟩ := iz_own hO
  simp only [Value.slice.injEq, true_and] at e
  obtain ⟨rfl, rfl⟩ := e
  exact ⟨pbox_new _ _ _ _, h1, hb.alloc hb.size _⟩
end Go.Proofs.Ytinhidddfpjjkaa
