/- The law UndoPuts, walked: it answers true. -/
import Derived.Test.YtndhamcipbecfabUndoLit
import Derived.Test.YtndhamcipbecfabMeetKit
import Derived.Test.YtndhamcipbecfabBlameQ
import Derived.Test.YtndhamcipbecfabRevL
namespace Go.Proofs.Ytndhamcipbecfab
open Go.RowKit
set_option linter.unusedSimpArgs false
set_option linter.unusedVariables false

theorem cuts_snoc {d : List Pt} {j : Nat} {p : Pt} (h : d[j]? = some p) : cutsI (d.take (j + 1)) = cutsI (d.take j) + (if p.k = 3 then p.n else 0) := by
  have happ : ∀ a b : List Pt, cutsI (a ++ b) = cutsI a + cutsI b := by
    intro a b
    induction a with
    | nil => simp [cutsI]
    | cons q r ih => rw [List.cons_append, cutsI, cutsI, ih]; omega
  rw [take_snoc h, happ]; simp [cutsI]
theorem cuts_bd {d : List Pt} (h : ∀ p ∈ d, 0 ≤ p.n ∧ p.n ≤ 500) : 0 ≤ cutsI d ∧ cutsI d ≤ 500 * d.length := by
  induction d with
  | nil => simp [cutsI]
  | cons p r ih =>
    have h1 := ih (fun q hq => h q (by simp [hq]))
    have h2 := h p (by simp)
    rw [cutsI, List.length_cons]
    split <;> omega
theorem lit_undo3 : checkE [97, 98] [⟨0, 1, [⟨3, 2, ⟨#[]⟩⟩]⟩] = 0 ∧ undoD [97, 98] [⟨0, 1, [⟨3, 2, ⟨#[]⟩⟩]⟩] 1 = ([putP ⟨#[97, 98]⟩], 0) := ⟨by rfl, by rfl⟩
/-- one that cuts all -/
theorem UndoCut (w w2 : World) (h2 : w2 = w.alloc (.cells #[.int .i64 3, .int .i64 2, .string ⟨#[]⟩] 28)) :
    Calls Try.prog 6 #[.string ⟨#[97, 98]⟩, .slice (some ⟨w.heap.size + 1, 0, none⟩) 1 1, .int .i64 1] (w2.alloc (.cells #[.int .i64 0, .int .i64 1, .slice (some ⟨w.heap.size, 0, none⟩) 1 1] 30)) fun e w' => ∃ a' c', e = .returned (.tuple #[.slice a' 1 c', .int .i64 0]) ∧ PartsAt w' w'.heap.size a' [putP ⟨#[97, 98]⟩] ∧ Below w.heap.size w w' := by
  have hz : w2.heap.size = w.heap.size + 1 := by rw [h2]; exact Deep.nblk_alloc _ _
  have h1 : Below w.heap.size w w2 := by rw [h2]; exact (Below.refl _ w).alloc (Nat.le_refl _) _
  have hq : PartsAt w2 w2.heap.size (some ⟨w.heap.size, 0, none⟩) [⟨3, 2, ⟨#[]⟩⟩] := by
    rw [h2]; exact lit_at w [⟨3, 2, ⟨#[]⟩⟩] (small_bound (by decide)) _ rfl
  have h4 := revs_one w2 ⟨0, 1, [⟨3, 2, ⟨#[]⟩⟩]⟩ ⟨⟨by decide, by decide⟩, ⟨by decide, by decide⟩⟩ (some ⟨w.heap.size, 0, none⟩) 1 hq ⟨by decide, fun e => by cases e⟩
  rw [hz] at h4
  have h5 := UndoOf_ok ⟨#[97, 98]⟩ (some ⟨w.heap.size + 1, 0, none⟩) [⟨0, 1, [⟨3, 2, ⟨#[]⟩⟩]⟩] 1 1 _ h4 (Nat.le_refl _) lit_undo3.1 (Nat.le_refl _) (by decide)
  rw [show undoD (⟨#[97, 98]⟩ : ByteArray).data.toList [⟨0, 1, [⟨3, 2, ⟨#[]⟩⟩]⟩] 1 = ([putP ⟨#[97, 98]⟩], 0) from lit_undo3.2] at h5
  refine Calls.mono h5 ?_
  rintro e w' ⟨a', c', rfl, h6, h7, hb⟩
  have h8 : Below w.heap.size w (w2.alloc (.cells #[.int .i64 0, .int .i64 1, .slice (some ⟨w.heap.size, 0, none⟩) 1 1] 30)) := h1.alloc h1.size _
  exact ⟨a', c', rfl, h6, h8.trans (hb.mono h8.size)⟩

set_option maxRecDepth 20000 in
set_option maxHeartbeats 8000000 in
theorem UndoPuts_any (s : ByteArray) (a : Option Addr) (l : List Rv) (cap : Nat) (k : Int) (w : World) (hl : RevsAt w w.heap.size a l) (hc : l.length ≤ cap) (hs : s.size ≤ 9223372036854775807) :
    Calls Try.prog 3 #[.string s, .slice a l.length cap, .int .i64 k] w fun e w' => e = .returned (.bool true) ∧ Below w.heap.size w w' := by
  have hll := hl.1
  have HL : Hid (RevsAt w w.heap.size a l) := hl
  clear hl
  have HU : Hid _ := fun w hh => UndoOf_any s a l cap k w hh hc hs
  have HT1 : Hid (∀ _ : Unit, _) := fun _ => UndoCut w _ rfl
  go_enter Try.func3, Try.ntmps3
  go_wp2_with fail
  refine Calls.mono (HT1.out ()) ?_
  rintro e w2 ⟨a2, c2, rfl, hp2, hb2⟩
  have HB2 : Hid (Below w.heap.size w w2) := hb2
  have HP2 : Hid (PartsAt w2 w2.heap.size a2 [putP ⟨#[97, 98]⟩]) := hp2
  clear hp2 hb2 HT1
  go_wp2_with fail
  refine (put_any ⟨#[97, 98]⟩ _ (by decide)).mono ?_
  rintro e w3 ⟨rfl, hp3, hb3⟩
  have HB3 : Hid (Below w.heap.size w w3) := HB2.out.trans (hb3.mono HB2.out.size)
  have HP3 : Hid (PartsAt w3 w3.heap.size a2 [putP ⟨#[97, 98]⟩]) := HP2.out.here hb3 (Nat.le_refl _)
  have HQ3 : Hid (PartsAt w3 w3.heap.size (some ⟨w2.heap.size, 0, none⟩) [putP ⟨#[97, 98]⟩]) := hp3
  clear hp3 hb3
  go_wp2_with fail
  refine (same_n (la := [putP ⟨#[97, 98]⟩]) a2 (some ⟨w2.heap.size, 0, none⟩) c2 1 _ HP3.out HQ3.out 1 (by rfl)).mono ?_
  rintro e w5 ⟨rfl, hb5⟩
  have HB5 : Hid (Below w.heap.size w w5) := HB3.out.trans (hb5.mono HB3.out.size)
  clear hb5
  go_wp2_with fail
  refine (HU.out _ (HL.out.here HB5.out (Nat.le_refl _))).mono ?_
  rintro e w4 ⟨a4, c4, rfl, hp4, hr4, hb4⟩
  have HB4 : Hid (Below w.heap.size w w4) := HB5.out.trans (hb4.mono HB5.out.size)
  have HP4 : Hid (PartsAt w4 w4.heap.size a4 (undoA s.data.toList l k).1) := hp4
  clear hp4 hr4 hb4 HU
  by_cases h0 : (undoA s.data.toList l k).2 = 0
  · obtain ⟨hc0, n, rfl, hn1, hn2, hA⟩ := undoA_zero h0
    obtain ⟨z1, z2, z3⟩ := check_zero hc0
    rw [hA] at HP4 h0 ⊢
    obtain ⟨m, hm⟩ : ∃ m : Nat, n - 1 = m := ⟨_, rfl⟩
    obtain ⟨r, hr⟩ : ∃ r, l[n - 1]? = some r := ⟨l[n - 1]'(by omega), List.getElem?_eq_getElem _⟩
    have hput := undo_puts z3 hn1 hn2 hr h0
    obtain ⟨q1, q2, q3, q4⟩ := hist_at z3 hr
    have hdz : sizesE (undoD s.data.toList l n).1 = 0 := by
      rcases undo_says z3 hn1 hn2 with h | h
      · exact h.2.1
      · rw [h.1] at h0; cases h0
    obtain ⟨U, hU⟩ : ∃ U, undoD s.data.toList l n = U := ⟨_, rfl⟩
    rw [hU] at HP4 h0 hput hdz ⊢
    obtain ⟨D, E⟩ := U
    obtain rfl : E = 0 := h0
    have HP4 : Hid (PartsAt w4 w4.heap.size a4 D) := HP4.out
    have HD : Hid (Small D) := (sizes_zero hdz).1
    have HRs : Hid (Small r.d) := (sizes_zero q2).1
    have hDl := HD.out.1
    have hRl := HRs.out.1
    have HPut : Hid ((putsI D : Int) = cutsI r.d) := hput
    have HPB : Hid (∀ j, putsI (D.take j) ≤ 800000) := by
      intro j
      have h := puts_bd (d := D.take j) (fun p hp => (HD.out.2 p (List.mem_of_mem_take hp)).2.2)
      rw [List.length_take] at h
      omega
    have HCB : Hid (∀ j, 0 ≤ cutsI (r.d.take j) ∧ cutsI (r.d.take j) ≤ 800000) := by
      intro j
      have h := cuts_bd (d := r.d.take j) (fun p hp => ⟨(HRs.out.2 p (List.mem_of_mem_take hp)).1, (HRs.out.2 p (List.mem_of_mem_take hp)).2.1⟩)
      rw [List.length_take] at h
      omega
    rw [hm] at hr
    obtain ⟨g, og, ai, ci, e0, hg, d1, d2, d3, hpd, _⟩ := HL.out.mem hr
    subst e0
    have HPd : Hid (PartsAt w w.heap.size ai r.d) := hpd
    have D3 : Hid (w.cell? ⟨g, og + m * 3 + 2, none⟩ = some (.slice ai r.d.length ci)) := d3
    have k0 : ¬ (n : Int) < 1 := by omega
    have k1 : ¬ (l.length : Int) < (n : Int) := by omega
    have im : (n : Int) - 1 = (m : Int) := by omega
    have im0 : 0 ≤ (m : Int) := by omega
    have im1 : (m : Int) < (l.length : Int) := by omega
    clear hc0 hA z1 z3 hU hput hdz hr q1 q2 q3 q4 hpd d1 d2 d3
    go_wp2_with fail
    go_loopw [11, 54] (fun v y wr => ∃ j : Nat, j ≤ D.length ∧ y = .int .i64 j ∧ v = .int .i64 (putsI (D.take j) : Nat) ∧ Below w4.heap.size w4 wr) (fun _ y _ => D.length - (intOf y).toNat)
    case atStart => exact ⟨0, Nat.zero_le _, rfl, rfl, Below.refl _ _⟩
    case round =>
      obtain ⟨j, hj, rfl, rfl, hb⟩ := hrel
      have hz := hb.size
      by_cases hlt : j < D.length
      · obtain ⟨p, hpj⟩ : ∃ p, D[j]? = some p := ⟨D[j], List.getElem?_eq_getElem hlt⟩
        have HSn : Hid (putsI (D.take (j + 1)) = putsI (D.take j) + p.t.size) := puts_snoc hpj
        have hpt := (HD.out.2 p (List.mem_of_getElem? hpj)).2.2
        have hpb := HPB.out j
        obtain ⟨g2, off, e1, hg2, y1, y2, y3⟩ := (HP4.out.below hb (Nat.le_refl _)).mem hpj
        subst e1
        have hgw : g2 < wr.heap.size := by omega
        have hji : (j : Int) < (D.length : Int) := by omega
        obtain ⟨B, hBB⟩ : ∃ B, putsI (D.take j) = B := ⟨_, rfl⟩
        rw [hBB] at HSn hpb ⊢
        have HB : Hid (Below w4.heap.size w4 wr) := hb
        clear hb hpj hBB
        go_wp2_with fail
        go_roundw
        case rel => exact ⟨j + 1, by omega, by go_num, by rw [HSn.out]; go_num, HB.out.alloc hz _⟩
        case measure => simp [intOf]; omega
      · have hji : ¬ (j : Int) < (D.length : Int) := by omega
        obtain rfl : j = D.length := by omega
        rw [List.take_length]
        have hD5 : putsI D ≤ 800000 := by have := HPB.out D.length; rw [List.take_length] at this; exact this
        have HBW : Hid (Below w.heap.size w wr) := HB4.out.trans (hb.mono HB4.out.size)
        have y3 := (HBW.out.cell (p := ⟨g, og + m * 3 + 2, none⟩) hg).trans D3.out
        have hgw : g < wr.heap.size := Nat.lt_of_lt_of_le hg HBW.out.size
        obtain ⟨B, hBB⟩ : ∃ B, putsI D = B := ⟨_, rfl⟩
        rw [hBB] at HPut hD5 ⊢
        have HPr : Hid (PartsAt wr wr.heap.size ai r.d) := HPd.out.here HBW.out (Nat.le_refl _)
        clear hb hBB
        rename World => wo
        go_wp2_with fail
        go_loopw [11, 71] (fun v y wr => ∃ (j : Nat) (z : Int), j ≤ r.d.length ∧ y = .int .i64 j ∧ v = .int .i64 z ∧ z = (B : Int) - cutsI (r.d.take j) ∧ Below wo.heap.size wo wr) (fun _ y _ => r.d.length - (intOf y).toNat)
        case atStart => exact ⟨0, _, Nat.zero_le _, rfl, rfl, by simp [cutsI], Below.refl _ _⟩
        case round =>
          obtain ⟨j, z, hj, rfl, rfl, hzz, hb⟩ := hrel
          have hz := hb.size
          by_cases hlt : j < r.d.length
          · obtain ⟨p, hpj⟩ : ∃ p, r.d[j]? = some p := ⟨r.d[j], List.getElem?_eq_getElem hlt⟩
            have hsn := cuts_snoc hpj
            have hpn := HRs.out.2 p (List.mem_of_getElem? hpj)
            have hcb := HCB.out j
            obtain ⟨g2, off, e1, hg2, y1, y2, y3⟩ := (HPr.out.below hb (Nat.le_refl _)).mem hpj
            subst e1
            have hgw2 : g2 < wr.heap.size := by omega
            have hji : (j : Int) < (r.d.length : Int) := by omega
            have hz1 : -800000 ≤ z ∧ z ≤ 800000 := by omega
            obtain ⟨hz2, hz3⟩ := hz1
            obtain ⟨hp0, hp5, _⟩ := hpn
            have HB : Hid (Below wo.heap.size wo wr) := hb
            by_cases h3 : p.k = 3
            · rw [if_pos h3] at hsn
              have HZ : Hid (z - p.n = (B : Int) - cutsI (r.d.take (j + 1))) := by show _ = _; omega
              have s1 : (p.k == 3) = true := by simp [h3]
              clear hb hpj hsn hcb hzz h3
              go_wp2_with fail
              go_roundw
              case rel => exact ⟨j + 1, z - p.n, by omega, by go_num, by go_num, HZ.out, HB.out.alloc hz _⟩
              case measure => simp [intOf]; omega
            · rw [if_neg h3] at hsn
              have HZ : Hid (z = (B : Int) - cutsI (r.d.take (j + 1))) := by show _ = _; omega
              have s1 : (p.k == 3) = false := by simp [h3]
              clear hb hpj hsn hcb hzz h3
              go_wp2_with fail
              go_roundw
              case rel => exact ⟨j + 1, z, by omega, by go_num, rfl, HZ.out, HB.out.alloc hz _⟩
              case measure => simp [intOf]; omega
          · have hji : ¬ (j : Int) < (r.d.length : Int) := by omega
            obtain rfl : z = 0 := by
              rw [List.take_of_length_le (by omega)] at hzz
              have := HPut.out
              omega
            have HB : Hid (Below w.heap.size w wr) := HBW.out.trans (hb.mono HBW.out.size)
            clear hb hzz
            go_wp2_with fail
            go_ret
            exact ⟨rfl, HB.out⟩
  · have hn := undoA_not h0
    obtain ⟨U, hU⟩ : ∃ U, undoA s.data.toList l k = U := ⟨_, rfl⟩
    rw [hU] at hn h0 ⊢
    obtain ⟨D, E⟩ := U
    obtain rfl : D = [] := hn
    have q1 : (E != 0) = true := by simpa using h0
    clear hU h0 HP4
    go_wp2_with fail
    go_ret
    exact ⟨rfl, HB4.out⟩
end Go.Proofs.Ytndhamcipbecfab
