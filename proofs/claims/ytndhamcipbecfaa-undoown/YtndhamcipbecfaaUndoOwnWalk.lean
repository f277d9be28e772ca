/- The law UndoOwn, walked: it answers true. -/
import Derived.Test.YtndhamcipbecfaaUndoLit
import Derived.Test.YtndhamcipbecfaaMeetKit
import Derived.Test.YtndhamcipbecfaaRevTwo
import Derived.Test.YtndhamcipbecfaaBlameOf
import Derived.Deep.QuietTactic
import Derived.BigQuiet
namespace Go.Proofs.Ytndhamcipbecfaa
open Go.RowKit
set_option linter.unusedSimpArgs false
set_option linter.unusedVariables false

theorem lit_undo2 : checkE [] [⟨1, 1, [⟨2, 0, ⟨#[97]⟩⟩]⟩, ⟨2, 1, [⟨2, 0, ⟨#[98]⟩⟩, ⟨1, 1, ⟨#[]⟩⟩]⟩] = 0 ∧ undoD [] [⟨1, 1, [⟨2, 0, ⟨#[97]⟩⟩]⟩, ⟨2, 1, [⟨2, 0, ⟨#[98]⟩⟩, ⟨1, 1, ⟨#[]⟩⟩]⟩] 1 = ([keepP 1, cutP 1], 0) := ⟨by rfl, by rfl⟩
/-- the first of two revisions -/
theorem UndoTwo (w w2 : World) (ad : Addr) (hp : PartsAt w w.heap.size (some ad) [⟨2, 0, ⟨#[97]⟩⟩]) (h2 : w2 = w.alloc (.cells #[.int .i64 2, .int .i64 0, .string ⟨#[98]⟩, .int .i64 1, .int .i64 1, .string ⟨#[]⟩] 43)) :
    Calls Try.prog 9 #[.string ⟨#[]⟩, .slice (some ⟨w.heap.size + 1, 0, none⟩) 2 2, .int .i64 1] (w2.alloc (.cells #[.int .i64 1, .int .i64 1, .slice (some ad) 1 1, .int .i64 2, .int .i64 1, .slice (some ⟨w.heap.size, 0, none⟩) 2 2] 40)) fun e w' => ∃ a' c', e = .returned (.tuple #[.slice a' 2 c', .int .i64 0]) ∧ PartsAt w' w'.heap.size a' [keepP 1, cutP 1] ∧ Below w.heap.size w w' := by
  have hz : w2.heap.size = w.heap.size + 1 := by rw [h2]; exact Deep.nblk_alloc _ _
  have h1 : Below w.heap.size w w2 := by rw [h2]; exact (Below.refl _ w).alloc (Nat.le_refl _) _
  have hq : PartsAt w2 w2.heap.size (some ⟨w.heap.size, 0, none⟩) [⟨2, 0, ⟨#[98]⟩⟩, ⟨1, 1, ⟨#[]⟩⟩] := by
    rw [h2]; exact lit_at w [⟨2, 0, ⟨#[98]⟩⟩, ⟨1, 1, ⟨#[]⟩⟩] (small_bound (by decide)) _ rfl
  have h3 := revs_two w2 ⟨1, 1, [⟨2, 0, ⟨#[97]⟩⟩]⟩ ⟨2, 1, [⟨2, 0, ⟨#[98]⟩⟩, ⟨1, 1, ⟨#[]⟩⟩]⟩ ⟨⟨⟨by decide, by decide⟩, ⟨by decide, by decide⟩⟩, ⟨by decide, by decide⟩, ⟨by decide, by decide⟩⟩ (some ad) (some ⟨w.heap.size, 0, none⟩) 1 2 (hp.here h1 (Nat.le_refl _)) ⟨by decide, fun e => by cases e⟩ hq ⟨by decide, fun e => by cases e⟩
  have h4 := h3.wider (Nat.le_of_eq (Deep.nblk_alloc w2 _).symm) (Nat.le_refl _)
  rw [hz] at h4
  have h5 := UndoOf_ok ⟨#[]⟩ (some ⟨w.heap.size + 1, 0, none⟩) [⟨1, 1, [⟨2, 0, ⟨#[97]⟩⟩]⟩, ⟨2, 1, [⟨2, 0, ⟨#[98]⟩⟩, ⟨1, 1, ⟨#[]⟩⟩]⟩] 2 1 _ h4 (Nat.le_refl _) lit_undo2.1 (Nat.le_refl _) (by decide)
  rw [show undoD (⟨#[]⟩ : ByteArray).data.toList [⟨1, 1, [⟨2, 0, ⟨#[97]⟩⟩]⟩, ⟨2, 1, [⟨2, 0, ⟨#[98]⟩⟩, ⟨1, 1, ⟨#[]⟩⟩]⟩] 1 = ([keepP 1, cutP 1], 0) from lit_undo2.2] at h5
  refine Calls.mono h5 ?_
  rintro e w' ⟨a', c', rfl, h6, h7, hb⟩
  have h8 : Below w.heap.size w (w2.alloc (.cells #[.int .i64 1, .int .i64 1, .slice (some ad) 1 1, .int .i64 2, .int .i64 1, .slice (some ⟨w.heap.size, 0, none⟩) 2 2] 40)) := h1.alloc h1.size _
  exact ⟨a', c', rfl, h6, h8.trans (hb.mono h8.size)⟩
/-- part by part: where each begins, and whose its bytes are -/
theorem own_parts {s : List UInt8} {l : List Rv} {n : Nat} (hh : histE s l = 0) (hs : s.length ≤ 500) (h1 : 1 ≤ n) (h2 : n ≤ l.length) {D : List Pt} (he : undoD s l n = (D, 0)) {x : List Nat} (hx : blameL (List.replicate s.length 0) l 1 = x) :
    ∃ A : Nat → Nat, A 0 = 0 ∧ A D.length = x.length ∧ x.length ≤ 500 ∧ ∀ (j : Nat) (p : Pt), D[j]? = some p → A j ≤ 500 ∧ 0 ≤ p.n ∧ p.n ≤ 500 ∧ (A (j + 1) : Int) = A j + p.n ∧ ∀ i : Nat, (i : Int) < p.n → ∃ q, x[A j + i]? = some q ∧ (q = n ↔ p.k = 3) := by
  have hsz : sizesE D = 0 ∧ inI D = ((textAt s l l.length).length : Nat) := by
    rcases undo_says hh h1 h2 with h | h
    · rw [he] at h; exact h.2
    · rw [he] at h; cases h.1
  have hp := undo_own hh h1 h2 (by rw [he])
  rw [he, hx] at hp
  obtain ⟨g, c, i, o, b1, b2⟩ := delta_facts hsz.1
  have hxl : x.length = (textAt s l l.length).length := by rw [← hx]; exact blame_len hh (by simp)
  have hG : ∀ j, inI (D.take j) = inW (wordL (D.take j)) := fun j => inI_word (fun p hp => g p (List.mem_of_mem_take hp))
  have hsm := (sizes_zero hsz.1).1
  refine ⟨fun j => inW (wordL (D.take j)), rfl, ?_, ?_, fun j p hj => ?_⟩
  · have := hsz.2
    show inW (wordL (D.take D.length)) = _
    rw [List.take_length]; omega
  · rw [hxl]; exact text_le hh hs _
  · have hpm := List.mem_of_getElem? hj
    obtain ⟨p1, p2, _⟩ := hsm.2 p hpm
    have hsn := inI_snoc hj
    rw [hG, hG] at hsn
    have hle : inW (wordL (D.take j)) ≤ 500 := by
      have e : inI D = inI (D.take j) + inI (D.drop j) := by rw [← inI_app, List.take_append_drop]
      have e2 : 0 ≤ inI (D.drop j) := (inI_bd (fun q hq => hsm.2 q (List.mem_of_mem_drop hq))).1
      have := hG j
      omega
    exact ⟨hle, p1, p2, hsn, fun i hi => pat_part (sizes_right hsz.1) hp hj hi⟩

set_option maxRecDepth 20000 in
set_option maxHeartbeats 8000000 in
theorem UndoOwn_any (s : ByteArray) (a : Option Addr) (l : List Rv) (cap : Nat) (k : Int) (w : World) (hl : RevsAt w w.heap.size a l) (hc : l.length ≤ cap) (hs : s.size ≤ 9223372036854775807) :
    Calls Try.prog 6 #[.string s, .slice a l.length cap, .int .i64 k] w fun e w' => e = .returned (.bool true) ∧ Below w.heap.size w w' := by
  have hll := hl.1
  have HL : Hid (RevsAt w w.heap.size a l) := hl
  clear hl
  have HU : Hid _ := fun w hh => UndoOf_any s a l cap k w hh hc hs
  go_enter Try.func6, Try.ntmps6
  go_wp2_with fail
  refine (first_any ⟨#[97]⟩ _ (by decide)).mono ?_
  rintro e w1 ⟨ad, rfl, hp1, hb1⟩
  have HB1 : Hid (Below w.heap.size w w1) := hb1
  have HT1 : Hid (∀ _ : Unit, _) := fun _ => UndoTwo w1 _ ad hp1 rfl
  clear hp1 hb1
  go_wp2_with fail
  refine Calls.mono (HT1.out ()) ?_
  rintro e w2 ⟨a2, c2, rfl, hp2, hb2⟩
  have HB2 : Hid (Below w.heap.size w w2) := HB1.out.trans (hb2.mono HB1.out.size)
  have HB2' : Hid (Below w.heap.size w (w2.alloc (.cells #[.int .i64 1, .int .i64 1, .string ⟨#[]⟩, .int .i64 3, .int .i64 1, .string ⟨#[]⟩] 43))) := HB2.out.alloc HB2.out.size _
  have HP2 : Hid (PartsAt (w2.alloc (.cells #[.int .i64 1, .int .i64 1, .string ⟨#[]⟩, .int .i64 3, .int .i64 1, .string ⟨#[]⟩] 43)) (w2.alloc (.cells #[.int .i64 1, .int .i64 1, .string ⟨#[]⟩, .int .i64 3, .int .i64 1, .string ⟨#[]⟩] 43)).heap.size a2 [keepP 1, cutP 1]) := hp2.here ((Below.refl _ _).alloc (Nat.le_refl _) _) (Nat.le_refl _)
  have HQ2 : Hid (PartsAt (w2.alloc (.cells #[.int .i64 1, .int .i64 1, .string ⟨#[]⟩, .int .i64 3, .int .i64 1, .string ⟨#[]⟩] 43)) (w2.alloc (.cells #[.int .i64 1, .int .i64 1, .string ⟨#[]⟩, .int .i64 3, .int .i64 1, .string ⟨#[]⟩] 43)).heap.size (some ⟨w2.heap.size, 0, none⟩) [keepP 1, cutP 1]) := lit_at w2 [keepP 1, cutP 1] (small_bound (by decide)) _ rfl
  clear hp2 hb2 HT1
  go_wp2_with fail
  refine (same_n (la := [keepP 1, cutP 1]) a2 (some ⟨w2.heap.size, 0, none⟩) c2 2 _ HP2.out HQ2.out 2 (by rfl)).mono ?_
  rintro e w3 ⟨rfl, hb3⟩
  have HB3 : Hid (Below w.heap.size w w3) := HB2'.out.trans (hb3.mono HB2'.out.size)
  clear hb3
  go_wp2_with fail
  refine (HU.out _ (HL.out.here HB3.out (Nat.le_refl _))).mono ?_
  rintro e w4 ⟨a4, c4, rfl, hp4, hr4, hb4⟩
  have HB4 : Hid (Below w.heap.size w w4) := HB3.out.trans (hb4.mono HB3.out.size)
  have HP4 : Hid (PartsAt w4 w4.heap.size a4 (undoA s.data.toList l k).1) := hp4
  clear hp4 hr4 hb4
  by_cases h0 : (undoA s.data.toList l k).2 = 0
  · obtain ⟨hc0, n, rfl, hn1, hn2, hA⟩ := undoA_zero h0
    obtain ⟨z1, z2, z3⟩ := check_zero hc0
    rw [hA] at HP4 h0 ⊢
    have HBO : Hid _ := fun w hh => BlameOf_ok s a l cap w hh hc0
    obtain ⟨x, hx⟩ : ∃ x, blameL (List.replicate s.size 0) l 1 = x := ⟨_, rfl⟩
    rw [hx] at HBO
    obtain ⟨U, hU⟩ : ∃ U, undoD s.data.toList l n = U := ⟨_, rfl⟩
    rw [hU] at HP4 h0 ⊢
    obtain ⟨D, E⟩ := U
    obtain rfl : E = 0 := h0
    obtain ⟨A, hA0, hAe, hx5, hAp⟩ := own_parts (x := x) z3 z1 hn1 hn2 hU (by rw [Array.length_toList]; exact hx)
    have HA0 : Hid (A 0 = 0) := hA0
    have HAe : Hid (A D.length = x.length) := hAe
    have HAp : Hid (∀ (j : Nat) (p : Pt), D[j]? = some p → A j ≤ 500 ∧ 0 ≤ p.n ∧ p.n ≤ 500 ∧ (A (j + 1) : Int) = A j + p.n ∧ ∀ i : Nat, (i : Int) < p.n → ∃ q, x[A j + i]? = some q ∧ (q = n ↔ p.k = 3)) := hAp
    have HP4 : Hid (PartsAt w4 w4.heap.size a4 D) := HP4.out
    have hDl := HP4.out.1
    clear hc0 hA z1 z3 hx hU hA0 hAe hAp HU
    go_wp2_with fail
    refine (HBO.out _ (HL.out.here HB4.out (Nat.le_refl _))).mono ?_
    rintro e w6 ⟨a6, c6, rfl, hn6, hb6⟩
    have HB6 : Hid (Below w.heap.size w w6) := HB4.out.trans (hb6.mono HB4.out.size)
    have HN6 : Hid (NatsAt w6 w6.heap.size a6 x c6) := hn6
    have HP6 : Hid (PartsAt w6 w6.heap.size a4 D) := HP4.out.here hb6 (Nat.le_refl _)
    clear hn6 hb6 HBO
    go_wp2_with fail
    go_loopw [12, 58] (fun v y wr => ∃ j : Nat, j ≤ D.length ∧ y = .int .i64 j ∧ v = .int .i64 (A j) ∧ Below w6.heap.size w6 wr) (fun _ y _ => D.length - (intOf y).toNat)
    case atStart => exact ⟨0, Nat.zero_le _, rfl, by rw [HA0.out]; rfl, Below.refl _ _⟩
    case round =>
      rename World => wo
      obtain ⟨j, hj, rfl, rfl, hb⟩ := hrel
      have hz := hb.size
      by_cases hlt : j < D.length
      · obtain ⟨p, hpj⟩ : ∃ p, D[j]? = some p := ⟨D[j], List.getElem?_eq_getElem hlt⟩
        obtain ⟨hAj, hp0, hp5, hA1, hPt⟩ := HAp.out j p hpj
        obtain ⟨g, off, e1, hg, y1, y2, y3⟩ := (HP6.out.below hb (Nat.le_refl _)).mem hpj
        subst e1
        have hgw : g < wo.heap.size := by omega
        have hji : (j : Int) < (D.length : Int) := by omega
        obtain ⟨B, hBB⟩ : ∃ B, A j = B := ⟨_, rfl⟩
        obtain ⟨C, hCC⟩ : ∃ C, A (j + 1) = C := ⟨_, rfl⟩
        rw [hBB] at hAj hA1 hPt ⊢
        rw [hCC] at hA1
        have HCC : Hid (A (j + 1) = C) := hCC
        have HPt : Hid (∀ i : Nat, (i : Int) < p.n → ∃ q, x[B + i]? = some q ∧ (q = n ↔ p.k = 3)) := hPt
        have HC1 : Hid ((C : Int) = B + p.n) := hA1
        have HB : Hid (Below w6.heap.size w6 wo) := hb
        obtain ⟨wb, hwb⟩ : ∃ wb, wo.alloc (.cells #[.int .i64 p.k, .int .i64 p.n, .string p.t] 43) = wb := ⟨_, rfl⟩
        have HX : Hid (Below w6.heap.size w6 wb ∧ wb.cell? ⟨wo.heap.size, 0, none⟩ = some (.int .i64 p.k) ∧ wb.cell? ⟨wo.heap.size, 1, none⟩ = some (.int .i64 p.n) ∧ wo.heap.size < wb.heap.size) := by
          rw [← hwb]
          have h : (wo.alloc (.cells #[.int .i64 p.k, .int .i64 p.n, .string p.t] 43)).heap[wo.heap.size]? = some (.cells #[.int .i64 p.k, .int .i64 p.n, .string p.t] 43 (0, 0)) := Deep.blk_alloc_new wo _
          exact ⟨hb.alloc hz _, Lib.cell_of_heap h 0, Lib.cell_of_heap h 1, lt_of_heap h⟩
        have HWB : Hid (wo.alloc (.cells #[.int .i64 p.k, .int .i64 p.n, .string p.t] 43) = wb) := hwb
        clear hb hpj hBB hCC hA1 hPt hwb
        go_wp2_with fail
        rw [HWB.out]
        go_loopw [64] (fun v wr => ∃ i : Nat, (i : Int) ≤ p.n ∧ v = .int .i64 i ∧ Below wb.heap.size wb wr) (fun v _ => (p.n - intOf v).toNat)
        case atStart => exact ⟨0, by omega, rfl, Below.refl _ _⟩
        case round =>
          obtain ⟨i, hi, rfl, hb⟩ := hrel
          obtain ⟨u1, u2, u3, u4⟩ := HX.out
          have hzb := hb.size
          have v2 := (hb.cell (p := ⟨wo.heap.size, 0, none⟩) u4).trans u2
          have v3 := (hb.cell (p := ⟨wo.heap.size, 1, none⟩) u4).trans u3
          have hgb : wo.heap.size < wr.heap.size := by omega
          have HBR : Hid (Below w6.heap.size w6 wr) := u1.trans (hb.mono u1.size)
          by_cases hii : (i : Int) < p.n
          · obtain ⟨q, hq, hqn⟩ := HPt.out i hii
            obtain ⟨m, hm⟩ : ∃ m, B + i = m := ⟨_, rfl⟩
            rw [hm] at hq
            obtain ⟨g6, o6, e6, hg6, d6⟩ := (HN6.out.below HBR.out (Nat.le_refl _)).mem hq
            subst e6
            have hz6 := HBR.out.size
            have hg6w : g6 < wr.heap.size := by omega
            have hmx := (List.getElem?_eq_some_iff.1 hq).1
            have r1 : IntKind.i64.wrap ((B : Int) + (i : Int)) = (m : Int) := by rw [show (B : Int) + (i : Int) = (m : Int) by omega]; exact IntWalk.i64_in _ ⟨by omega, by omega⟩
            have r2 : (0 : Int) ≤ (m : Int) := by omega
            have r3 : (m : Int) < (x.length : Int) := by omega
            have r4 : decide ((x.length : Int) ≤ (m : Int)) = false := by simp; omega
            have r5 : ¬ (x.length : Int) ≤ (m : Int) := by omega
            have HBI : Hid (Below wb.heap.size wb wr) := hb
            by_cases h3 : p.k = 3
            · have s1 : (p.k == 3) = true := by simp [h3]
              have s2 : ((q : Int) == (n : Int)) = true := by rw [beq_iff_eq]; have := hqn.2 h3; omega
              clear hb hq hqn hm h3 u1 u2 u3
              go_wp2_with fail
              go_quiet (fail)
              go_wp2_with fail
              go_roundw
              case rel => exact ⟨i + 1, by omega, by go_num, below_drewN HBI.out _⟩
              case measure => simp [intOf]; omega
            · have s1 : (p.k == 3) = false := by simp [h3]
              have s2 : ((q : Int) == (n : Int)) = false := by simp; intro e; exact h3 (hqn.1 (by omega))
              clear hb hq hqn hm h3 u1 u2 u3
              go_wp2_with fail
              go_quiet (fail)
              go_wp2_with fail
              go_roundw
              case rel => exact ⟨i + 1, by omega, by go_num, below_drewN HBI.out _⟩
              case measure => simp [intOf]; omega
          · have hii' : ¬ (i : Int) < p.n := hii
            clear hb u1 u2 u3
            go_wp2_with fail
            go_roundw
            case rel => exact ⟨j + 1, by omega, by go_num, by rw [HCC.out]; have := HC1.out; go_num, HBR.out⟩
            case measure => simp [intOf]; omega
      · have hji : ¬ (j : Int) < (D.length : Int) := by omega
        obtain rfl : j = D.length := by omega
        have hAx : A D.length = x.length := HAe.out
        have HB : Hid (Below w.heap.size w wo) := HB6.out.trans (hb.mono HB6.out.size)
        rw [hAx]
        clear hb hAx
        go_wp2_with fail
        go_ret
        exact ⟨rfl, HB.out⟩
  · have hn := undoA_not h0
    obtain ⟨U, hU⟩ : ∃ U, undoA s.data.toList l k = U := ⟨_, rfl⟩
    rw [hU] at hn h0 ⊢
    obtain ⟨D, E⟩ := U
    obtain rfl : D = [] := hn
    have q1 : (E != 0) = true := by simpa using h0
    clear hU h0 HP4 HU
    go_wp2_with fail
    go_ret
    exact ⟨rfl, HB4.out⟩
end Go.Proofs.Ytndhamcipbecfaa
