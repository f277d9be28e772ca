/- The law BlameParts, walked: it answers true. -/
import Derived.Test.YtgjofbihdokefaaBlameOf
import Derived.Test.YtgjofbihdokefaaBlameQ
import Derived.Test.YtgjofbihdokefaaRevText
import Derived.Test.YtgjofbihdokefaaRevLit
import Derived.Test.YtgjofbihdokefaaNumWithin
namespace Go.Proofs.Ytgjofbihdokefaa
open Go.RowKit
set_option linter.unusedSimpArgs false
set_option linter.unusedVariables false

theorem BlameAb (w : World) : Calls Try.prog 9 #[.string ⟨#[97, 98]⟩, .slice none 0 0] w fun e w' => ∃ a' c', e = .returned (.tuple #[.slice a' 2 c', .int .i64 0]) ∧ NatsAt w' w'.heap.size a' [0, 0] c' ∧ Below w.heap.size w w' :=
  BlameOf_ok ⟨#[97, 98]⟩ none [] 0 w ⟨by simp, Nat.le_refl _, by simp, by simp⟩ (by decide)

set_option maxRecDepth 20000 in
set_option maxHeartbeats 8000000 in
theorem BlameParts_any (s : ByteArray) (a : Option Addr) (l : List Rv) (cap : Nat) (k : Int) (w : World) (hl : RevsAt w w.heap.size a l) (hc : l.length ≤ cap) (hs : s.size ≤ 9223372036854775807) :
    Calls Try.prog 4 #[.string s, .slice a l.length cap, .int .i64 k] w fun e w' => e = .returned (.bool true) ∧ Below w.heap.size w w' := by
  have hll := hl.1
  have hsl : s.data.toList.length = s.size := Array.length_toList
  have HL : Hid (RevsAt w w.heap.size a l) := hl
  have HSL : Hid (s.data.toList.length = s.size) := hsl
  clear hl hsl
  go_enter Try.func4, Try.ntmps4
  go_wp2_with fail
  refine Calls.mono (BlameAb w) ?_
  rintro e w1 ⟨a1, c1, rfl, hn1, hb1⟩
  have HB1 : Hid (Below w.heap.size w w1) := hb1
  have hz1 := hb1.size
  have HEQ : Hid _ := fun w (h1 : NatsAt w w.heap.size a1 [0, 0] c1) (h2 : NatsAt w w.heap.size (some ⟨w1.heap.size, 0, none⟩) [0, 0] 2) => (show Calls Try.prog 10 #[.slice a1 2 c1, .slice (some ⟨w1.heap.size, 0, none⟩) 2 2] w _ from EqNats_yes a1 (some ⟨w1.heap.size, 0, none⟩) [0, 0] c1 2 w h1 h2)
  have HNL : Hid (NatsAt (w1.alloc (.cells #[.int .i64 0, .int .i64 0] 3)) (w1.alloc (.cells #[.int .i64 0, .int .i64 0] 3)).heap.size (some ⟨w1.heap.size, 0, none⟩) [0, 0] 2) := by
    have h := World.ownsRow_lit (base := w1.heap.size) (e := 3) (size := 1) w1 #[.int .i64 0, .int .i64 0] 2 (Nat.le_refl _) (by decide) rfl
    obtain ⟨a', c', e, h1⟩ := nats_own (x := [0, 0]) h
    simp only [Value.slice.injEq] at e
    obtain ⟨rfl, _, rfl⟩ := e
    exact h1
  have HN2 : Hid (NatsAt (w1.alloc (.cells #[.int .i64 0, .int .i64 0] 3)) (w1.alloc (.cells #[.int .i64 0, .int .i64 0] 3)).heap.size a1 [0, 0] c1) := hn1.here ((Below.refl _ w1).alloc (Nat.le_refl _) _) (Nat.le_refl _)
  have HB2 : Hid (Below w.heap.size w (w1.alloc (.cells #[.int .i64 0, .int .i64 0] 3))) := hb1.alloc hz1 _
  clear hb1 hn1
  go_wp2_with fail
  refine Calls.mono (HEQ.out _ HN2.out HNL.out) ?_
  rintro e w2 ⟨rfl, hb2⟩
  have HB3 : Hid (Below w.heap.size w w2) := HB2.out.trans (hb2.mono HB2.out.size)
  clear hb2
  by_cases h0 : checkE s.data.toList l = 0
  · obtain ⟨z1, z2, z3⟩ := check_zero h0
    have hs5 : s.size ≤ 500 := by have := HSL.out; omega
    have HBO : Hid _ := fun w hh => BlameOf_ok s a l cap w hh h0
    obtain ⟨x, hx⟩ : ∃ x, blameL (List.replicate s.size 0) l 1 = x := ⟨_, rfl⟩
    rw [hx] at HBO
    go_wp2_with fail
    refine (HBO.out _ (HL.out.here HB3.out (Nat.le_refl _))).mono ?_
    rintro e w4 ⟨a4, c4, rfl, hn4, hb4⟩
    have HB4 : Hid (Below w.heap.size w w4) := HB3.out.trans (hb4.mono HB3.out.size)
    have HN4 : Hid (NatsAt w4 w4.heap.size a4 x c4) := hn4
    clear hb4 hn4
    have HX : Hid _ := hx
    have H0 : Hid _ := h0
    clear hx h0
    go_wp2_with fail
    rw [show (l.length : Int) + 1 = ((l.length + 1 : Nat) : Int) by omega]
    refine (Within3_any k (l.length + 1) _ (by omega) (by omega)).mono ?_
    rintro e w3 ⟨n, rfl, hn, e3⟩
    subst e3
    obtain ⟨l3, a3, hl3, hlen3, hc3, hr3, hrun3⟩ := run_from HL.out hc (show n ≤ l.length by omega)
    obtain ⟨_, x2⟩ := check_cut H0.out n
    rw [← hl3] at x2
    have HR3 : Hid (RevsAt w w.heap.size a3 l3) := hr3
    have HK : Hid _ := fun w hh => Text_ok s a l cap n w hh hc H0.out (by omega)
    obtain ⟨t, ht⟩ : ∃ t : ByteArray, (⟨(textAt s.data.toList l n).toArray⟩ : ByteArray) = t := ⟨_, rfl⟩
    have htl : t.data.toList = textAt s.data.toList l n := by rw [← ht]
    have hts : t.size = (textAt s.data.toList l n).length := by rw [← ht]; rfl
    rw [ht] at HK
    rw [← htl] at x2
    have HBY : Hid _ := fun w hh => BlameOf_ok t a3 l3 (cap - n) w hh x2
    have HXY : Hid (x.map (· - n) = blameL (List.replicate t.size 0) l3 1) := by
      show _ = _
      have h := blame_parts z3 (show n ≤ l.length by omega)
      rw [HSL.out, HX.out] at h
      rw [h, hts, hl3]
    obtain ⟨y, hy⟩ : ∃ y, blameL (List.replicate t.size 0) l3 1 = y := ⟨_, rfl⟩
    rw [hy] at HBY HXY
    have hxy : (x.length : Int) = (y.length : Int) := by rw [← HXY.out, List.length_map]
    have hne : ((x.length : Int) != (y.length : Int)) = false := by simp [hxy]
    have HXL : Hid (x.length = y.length) := by show _ = _; omega
    have HQ : Hid (∀ (i q : Nat), x[i]? = some q → q ≤ l.length) := by
      intro i q h
      have h1 := List.mem_of_getElem? h
      rw [← HX.out] at h1
      exact each_le h1
    have hx9 : x.length ≤ 9223372036854775807 := Nat.le_trans HN4.out.1 HN4.out.2.1
    clear hl3 hlen3 hr3 x2 ht htl hts hy hxy hc3 z1 z3
    go_wp2_with fail
    with_reducible refine (HK.out _ (HL.out.here HB4.out (Nat.le_refl _))).mono ?_
    rintro e w5 ⟨rfl, hb5⟩
    have HB5 : Hid (Below w.heap.size w w5) := HB4.out.trans (hb5.mono HB4.out.size)
    have HN5 : Hid (NatsAt w5 w5.heap.size a4 x c4) := HN4.out.here hb5 (Nat.le_refl _)
    clear hb5
    go_wp2_with fail
    with_reducible refine (HBY.out _ (HR3.out.here HB5.out (Nat.le_refl _))).mono ?_
    rintro e w6 ⟨a6, c6, rfl, hn6, hb6⟩
    have HB6 : Hid (Below w.heap.size w w6) := HB5.out.trans (hb6.mono HB5.out.size)
    have HN6 : Hid (NatsAt w6 w6.heap.size a4 x c4) := HN5.out.here hb6 (Nat.le_refl _)
    have HM6 : Hid (NatsAt w6 w6.heap.size a6 y c6) := hn6
    clear hb6 hn6
    go_wp2_with fail
    go_loopw [73] (fun i wr => ∃ j : Nat, j ≤ x.length ∧ i = .int .i64 j ∧ Below w6.heap.size w6 wr) (fun i _ => x.length - (intOf i).toNat)
    case atStart => exact ⟨0, Nat.zero_le _, rfl, Below.refl _ _⟩
    case round =>
      obtain ⟨j, hj, rfl, hb⟩ := hrel
      have hz := hb.size
      by_cases hjx : j < x.length
      · obtain ⟨q, hq⟩ : ∃ q, x[j]? = some q := ⟨x[j], List.getElem?_eq_getElem hjx⟩
        have hqy : y[j]? = some (q - n) := by rw [← HXY.out, List.getElem?_map, hq]; rfl
        have hql := HQ.out j q hq
        have hji : (j : Int) < (x.length : Int) := by omega
        have hjy : (j : Int) < (y.length : Int) := by have := HXL.out; omega
        obtain ⟨g, og, e1, hg, y1⟩ := (HN6.out.below hb (Nat.le_refl _)).mem hq
        obtain ⟨h, oh, e2, hh, y2⟩ := (HM6.out.below hb (Nat.le_refl _)).mem hqy
        subst e1 e2
        have hgw : g < wr.heap.size := by omega
        have hhw : h < wr.heap.size := by omega
        obtain ⟨m, hm⟩ : ∃ m : Nat, q - n = m := ⟨_, rfl⟩
        rw [hm] at y2
        have r1 : IntKind.i64.wrap ((q : Int) - (n : Int)) = (q : Int) - (n : Int) := by rw [IntKind.wrap_i64]; omega
        have r2 : (max 0 ((q : Int) - (n : Int)) != (m : Int)) = false := by rw [bne_eq_false_iff_eq]; omega
        have HB : Hid (Below w6.heap.size w6 wr) := hb
        clear hb hq hqy hm
        go_wp2_with fail
        go_region
        all_goals
          go_wp2_with fail
          go_roundw
          case rel => exact ⟨j + 1, by omega, by go_num, HB.out.drew⟩
          case measure => simp [intOf]; omega
      · have hji : ¬ (j : Int) < (x.length : Int) := by omega
        have HB : Hid (Below w.heap.size w wr) := HB6.out.trans (hb.mono HB6.out.size)
        clear hb
        go_wp2_with fail
        go_ret
        exact ⟨rfl, HB.out⟩
  · have HBO : Hid _ := fun w hh => BlameOf_not s a l cap w hh hs h0
    have q2 : (checkE s.data.toList l != 0) = true := by simp [h0]
    clear h0
    go_wp2_with fail
    refine (HBO.out _ (HL.out.here HB3.out (Nat.le_refl _))).mono ?_
    rintro e w4 ⟨rfl, hb4⟩
    have HB4 : Hid (Below w.heap.size w w4) := HB3.out.trans (hb4.mono HB3.out.size)
    clear hb4
    go_wp2_with fail
    go_ret
    exact ⟨rfl, HB4.out⟩
end Go.Proofs.Ytgjofbihdokefaa
