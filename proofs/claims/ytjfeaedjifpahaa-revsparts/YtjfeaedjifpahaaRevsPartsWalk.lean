/- The law RevsParts, walked: it answers true. -/
import Derived.Test.YtjfeaedjifpahaaRevBet
import Derived.Test.YtjfeaedjifpahaaRevText
import Derived.Test.YtjfeaedjifpahaaRevLit
import Derived.Test.YtjfeaedjifpahaaSort3
import Derived.Test.YtjfeaedjifpahaaSame
import Derived.Test.YtjfeaedjifpahaaBesideWalk
import Derived.Test.YtjfeaedjifpahaaNumWithin
import Derived.Deep.RegionHeld3
namespace Go.Proofs.Ytjfeaedjifpahaa
open Go.RowKit
set_option linter.unusedSimpArgs false
set_option linter.unusedVariables false

/-- the cells of a revision's own block, behind a call -/
theorem rcell_kept {w w1 : World} (hb : Below (w.alloc (.cells #[.int .i64 0, .int .i64 0, .slice none 0 0] 25)).heap.size (w.alloc (.cells #[.int .i64 0, .int .i64 0, .slice none 0 0] 25)) w1) :
    (∀ o, w1.frozen? ⟨w.heap.size, o, none⟩ = false) ∧ w1.cell? ⟨w.heap.size, 0, none⟩ = some (.int .i64 0) ∧ w1.cell? ⟨w.heap.size, 1, none⟩ = some (.int .i64 0) ∧ w1.cell? ⟨w.heap.size, 2, none⟩ = some (.slice none 0 0) ∧ w.heap.size < w1.heap.size := by
  have h : (w.alloc (.cells #[.int .i64 0, .int .i64 0, .slice none 0 0] 25)).heap[w.heap.size]? = some (.cells #[.int .i64 0, .int .i64 0, .slice none 0 0] 25 (0, 0)) := Deep.blk_alloc_new w _
  have h1 := (hb.block w.heap.size (lt_of_heap h)).trans h
  exact ⟨fun o => by simp [World.frozen?, h1], Lib.cell_of_heap h1 0, Lib.cell_of_heap h1 1, Lib.cell_of_heap h1 2, lt_of_heap h1⟩
set_option maxHeartbeats 1000000 in
theorem first_any (s : ByteArray) (w : World) (hs : s.size ≤ 9223372036854775807) :
    Calls Try.prog 20 #[.string s] w fun e w' => ∃ ad, e = .returned (.agg #[.int .i64 1, .int .i64 1, .slice (some ad) 1 1]) ∧ PartsAt w' w'.heap.size (some ad) [⟨2, 0, s⟩] ∧ Below w.heap.size w w' := by
  have H0 : Hid (Below w.heap.size w (w.alloc (.cells #[.int .i64 0, .int .i64 0, .slice none 0 0] 25))) := (Below.refl _ w).alloc (Nat.le_refl _) _
  go_enter Try.func20, Try.ntmps20
  go_wp2_with fail
  refine (put_any s _ hs).mono ?_
  rintro e w1 ⟨rfl, hp, hb⟩
  obtain ⟨f0, d0, d1, d2, d3⟩ := rcell_kept hb
  have HB : Hid (Below w.heap.size w w1) := H0.out.trans (hb.mono H0.out.size)
  have hz : w.heap.size + 1 ≤ w1.heap.size := by omega
  rw [show (w.alloc (.cells #[.int .i64 0, .int .i64 0, .slice none 0 0] 25)).heap.size = w.heap.size + 1 from Deep.nblk_alloc _ _] at hp
  rw [show (w.alloc (.cells #[.int .i64 0, .int .i64 0, .slice none 0 0] 25)).heap.size = w.heap.size + 1 from Deep.nblk_alloc _ _]
  have HP : Hid (PartsAt w1 w1.heap.size (some ⟨w.heap.size + 1, 0, none⟩) [⟨2, 0, s⟩]) := hp
  clear hp hb
  go_wp2_with fail
  refine bodyPost_ret (v := .agg #[.int .i64 1, .int .i64 1, .slice (some ⟨w.heap.size + 1, 0, none⟩) 1 1]) (by simp [results, Try.results20, go_sem, *]) rfl ⟨_, rfl, ?_, ?_⟩
  · obtain ⟨q1, q2, q3, q4⟩ := HP.out
    refine ⟨q1, Nat.le_refl _, q3, fun hn => ?_⟩
    obtain ⟨b, off, ha, hlt, hcs⟩ := q4 hn
    simp only [Option.some.injEq, Addr.mk.injEq, and_true] at ha
    obtain ⟨rfl, rfl⟩ := ha
    have hsame : (((w1.setCell ⟨w.heap.size, 0, none⟩ (.int .i64 1)).setCell ⟨w.heap.size, 1, none⟩ (.int .i64 1)).setCell ⟨w.heap.size, 2, none⟩ (.slice (some ⟨w.heap.size + 1, 0, none⟩) 1 1)).heap[w.heap.size + 1]? = w1.heap[w.heap.size + 1]? := by
      rw [Deep.blk_setCell_other _ _ _ _ (by simp), Deep.blk_setCell_other _ _ _ _ (by simp), Deep.blk_setCell_other _ _ _ _ (by simp)]
    refine ⟨_, _, rfl, by simpa [World.setCell] using hlt, fun i p hi => ?_⟩
    obtain ⟨k1, k2, k3⟩ := hcs i p hi
    exact ⟨(World.cell?_of_block (a := ⟨w.heap.size + 1, _, none⟩) hsame).trans k1, (World.cell?_of_block (a := ⟨w.heap.size + 1, _, none⟩) hsame).trans k2, (World.cell?_of_block (a := ⟨w.heap.size + 1, _, none⟩) hsame).trans k3⟩
  · exact ((HB.out.setCell (p := ⟨w.heap.size, 0, none⟩) (Nat.le_refl _) _).setCell (p := ⟨w.heap.size, 1, none⟩) (Nat.le_refl _) _).setCell (p := ⟨w.heap.size, 2, none⟩) (Nat.le_refl _) _
/-- the text of one revision that is written out -/
theorem TextFirst (w : World) (ad : Addr) (hp : PartsAt w w.heap.size (some ad) [⟨2, 0, ⟨#[97]⟩⟩]) :
    Calls Try.prog 13 #[.string ⟨#[]⟩, .slice (some ⟨w.heap.size, 0, none⟩) 1 1, .int .i64 1] (w.alloc (.cells #[.int .i64 1, .int .i64 1, .slice (some ad) 1 1] 25)) fun e w' => e = .returned (.tuple #[.string ⟨#[97]⟩, .int .i64 0]) ∧ Below w.heap.size w w' := by
  have h2 := revs_one w ⟨1, 1, [⟨2, 0, ⟨#[97]⟩⟩]⟩ ⟨⟨by decide, by decide⟩, ⟨by decide, by decide⟩⟩ (some ad) 1 hp ⟨by decide, fun e => by cases e⟩
  have h3 := Text_ok ⟨#[]⟩ (some ⟨w.heap.size, 0, none⟩) [⟨1, 1, [⟨2, 0, ⟨#[97]⟩⟩]⟩] 1 1 _ h2 (Nat.le_refl _) (by decide) (Nat.le_refl _)
  refine Calls.mono h3 ?_
  rintro e w' ⟨rfl, hb⟩
  have h4 : Below w.heap.size w (w.alloc (.cells #[.int .i64 1, .int .i64 1, .slice (some ad) 1 1] 25)) := (Below.refl _ w).alloc (Nat.le_refl _) _
  exact ⟨rfl, h4.trans (hb.mono h4.size)⟩
theorem IntRow.three {w : World} {B g p q r : Nat} (h : IntRow w B g [p, q, r]) : w.cell? ⟨g, 0, none⟩ = some (.int .i64 (p : Int)) ∧ w.cell? ⟨g, 1, none⟩ = some (.int .i64 (q : Int)) ∧ w.cell? ⟨g, 2, none⟩ = some (.int .i64 (r : Int)) :=
  ⟨IntRow.cellOf h rfl, IntRow.cellOf h rfl, IntRow.cellOf h rfl⟩

set_option maxRecDepth 20000 in
set_option maxHeartbeats 8000000 in
theorem RevsParts_any (s : ByteArray) (a : Option Addr) (l : List Rv) (cap : Nat) (i j k : Int) (w : World) (hl : RevsAt w w.heap.size a l) (hc : l.length ≤ cap) (hs : s.size ≤ 9223372036854775807) :
    Calls Try.prog 6 #[.string s, .slice a l.length cap, .int .i64 i, .int .i64 j, .int .i64 k] w fun e w' => e = .returned (.bool true) ∧ Below w.heap.size w w' := by
  have hll := hl.1
  have HL : Hid (RevsAt w w.heap.size a l) := hl
  clear hl
  go_enter Try.func6, Try.ntmps6
  go_wp2_with fail
  refine (first_any ⟨#[97]⟩ _ (by decide)).mono ?_
  rintro e w1 ⟨ad, rfl, hp1, hb1⟩
  have HB1 : Hid (Below w.heap.size w w1) := hb1
  have HT1 : Hid _ := TextFirst w1 ad hp1
  clear hp1 hb1
  go_wp2_with fail
  refine Calls.mono HT1.out ?_
  rintro e w2 ⟨rfl, hb2⟩
  have HB2 : Hid (Below w.heap.size w w2) := HB1.out.trans (hb2.mono HB1.out.size)
  clear hb2
  go_wp2_with fail
  refine (RevCheck_any s a l cap _ (HL.out.here HB2.out (Nat.le_refl _)) hs).mono ?_
  rintro e w3 ⟨rfl, hb3⟩
  have HB3 : Hid (Below w.heap.size w w3) := HB2.out.trans (hb3.mono HB2.out.size)
  have hz3 := HB3.out.size
  clear hb3
  by_cases h0 : checkE s.data.toList l = 0
  · rw [h0]
    have z2 := (check_zero h0).2.1
    have H0 : Hid (checkE s.data.toList l = 0) := h0
    clear h0
    go_wp2_with fail
    rw [show (l.length : Int) + 1 = ((l.length + 1 : Nat) : Int) by omega]
    refine (Within3_any i (l.length + 1) _ (by omega) (by omega)).mono ?_
    rintro e wx ⟨n1, rfl, hn1, e3⟩
    subst wx
    go_wp2_with fail
    try rw [show (l.length : Int) + 1 = ((l.length + 1 : Nat) : Int) by omega]
    refine (Within3_any j (l.length + 1) _ (by omega) (by omega)).mono ?_
    rintro e wx ⟨n2, rfl, hn2, e3⟩
    subst wx
    go_wp2_with fail
    try rw [show (l.length : Int) + 1 = ((l.length + 1 : Nat) : Int) by omega]
    refine (Within3_any k (l.length + 1) _ (by omega) (by omega)).mono ?_
    rintro e wx ⟨n3, rfl, hn3, e3⟩
    subst wx
    have HRW : Hid (IntRow (w3.alloc (.cells #[.int .i64 (n1 : Int), .int .i64 (n2 : Int), .int .i64 (n3 : Int)] 3)) w3.heap.size w3.heap.size [n1, n2, n3]) :=
      World.ownsRow_lit (base := w3.heap.size) (e := 3) (size := 1) w3 #[.int .i64 (n1 : Int), .int .i64 (n2 : Int), .int .i64 (n3 : Int)] 3 (Nat.le_refl _) (by decide) rfl
    have HB3' : Hid (Below w.heap.size w (w3.alloc (.cells #[.int .i64 (n1 : Int), .int .i64 (n2 : Int), .int .i64 (n3 : Int)] 3))) := HB3.out.alloc hz3 _
    go_wp2_with fail
    refine (Sort3_any n1 n2 n3 w3.heap.size w3.heap.size _ HRW.out).mono ?_
    rintro e w4 ⟨rfl, p, q, r, hpq, hqr, hA, hrow, hb4⟩
    have HB4 : Hid (Below w.heap.size w w4) := HB3'.out.trans (hb4.mono hz3)
    have HR4 : Hid (IntRow w4 w3.heap.size w3.heap.size [p, q, r]) := hrow
    have hmax := hA l.length (by omega) (by omega) (by omega)
    have hrl : r ≤ l.length := hmax.2.2
    have hth4 := (IntRow.there hrow).2
    obtain ⟨b1, b2, b3⟩ := bet_three H0.out hpq hqr hrl |> fun h => (⟨h.1, h.2, bet_says H0.out (Nat.le_trans hpq hqr) hrl⟩ : _ ∧ _ ∧ _)
    obtain ⟨y1, y2, y3, y4⟩ := b3
    have HT0 : Hid _ := fun w hh => Text_ok s a l cap p w hh hc H0.out (by omega)
    have HT2 : Hid _ := fun w hh => Text_ok s a l cap r w hh hc H0.out hrl
    have HA : Hid _ := fun w hh => Between_ok s a l cap p q w hh hc H0.out hpq (by omega)
    have HBb : Hid _ := fun w hh => Between_ok s a l cap q r w hh hc H0.out hqr hrl
    have HC : Hid _ := fun w hh => Between_ok s a l cap p r w hh hc H0.out (by omega) hrl
    have htp := text_le (check_zero H0.out).2.2 (check_zero H0.out).1 p
    obtain ⟨t0, ht0⟩ : ∃ t : ByteArray, (⟨(textAt s.data.toList l p).toArray⟩ : ByteArray) = t := ⟨_, rfl⟩
    obtain ⟨t2, ht2⟩ : ∃ t : ByteArray, (⟨(textAt s.data.toList l r).toArray⟩ : ByteArray) = t := ⟨_, rfl⟩
    have ht0s : t0.size = (textAt s.data.toList l p).length := by rw [← ht0]; rfl
    have hfit : fitsE (betO s.data.toList l p r) (t0.size : Nat) = 0 := fits_of y1 (by rw [y2, ht0s])
    have HDo : Hid (∀ (ad : Option Addr) (c : Nat) (w : World), PartsAt w w.heap.size ad (betO s.data.toList l p r) → Calls Try.prog 24 #[.slice ad (betO s.data.toList l p r).length c, .string t0] w fun e w' => e = .returned (.tuple #[.string t2, .int .i64 0]) ∧ Below w.heap.size w w') := by
      intro ad c w hp
      have h := Do_any ad (betO s.data.toList l p r) c t0 w hp (by omega)
      have e1 : doT (betO s.data.toList l p r) t0 = textAt s.data.toList l r := by
        rw [doT, if_pos hfit, ← y4, ← ht0]
      rw [e1, hfit, ht2] at h
      exact h
    rw [ht0] at HT0
    rw [ht2] at HT2
    obtain ⟨D1, hD1⟩ : ∃ D, betO s.data.toList l p q = D := ⟨_, rfl⟩
    obtain ⟨D2, hD2⟩ : ∃ D, betO s.data.toList l q r = D := ⟨_, rfl⟩
    obtain ⟨D3, hD3⟩ : ∃ D, betO s.data.toList l p r = D := ⟨_, rfl⟩
    rw [hD1] at HA b1 b2
    rw [hD2] at HBb b1 b2
    rw [hD3] at HC HDo b2
    have HCO : Hid (∀ (ad bd : Option Addr) (ca cb : Nat) (w : World), PartsAt w w.heap.size ad D1 → PartsAt w w.heap.size bd D2 → D1.length ≤ ca → Calls Try.prog 23 #[.slice ad D1.length ca, .slice bd D2.length cb] w fun e w' => ∃ a' c', e = .returned (.tuple #[.slice a' D3.length c', .int .i64 0]) ∧ PartsAt w' w'.heap.size a' D3 ∧ Room a' D3 c' ∧ Below w.heap.size w w') := by
      intro ad bd ca cb w h1 h2 h3
      have h := CompOf_any ad bd D1 D2 ca cb w h1 h2 h3
      rw [b1, b2] at h
      exact h
    have HL4 : Hid (RevsAt w4.drew w4.drew.heap.size a l) := HL.out.here HB4.out.drew (Nat.le_refl _)
    clear hpq hqr hA hrow hb4 hmax b1 b2 y1 y2 y3 y4 htp ht0 ht2 ht0s hfit hD1 hD2 hD3
    go_wp2_with fail
    go_region_held3 (fun w' => w'.cell? ⟨w3.heap.size, 0, none⟩ = some (.int .i64 (p : Int)) ∧ w'.cell? ⟨w3.heap.size, 1, none⟩ = some (.int .i64 (q : Int)) ∧ w'.cell? ⟨w3.heap.size, 2, none⟩ = some (.int .i64 (r : Int))) (first | exact IntRow.three HR4.out.drew | exact IntRow.three (HR4.out.drew.below hb5) | fail) (first | (go_at_call 14; refine (HA.out _ HL4.out).mono ?_; rintro e w5 ⟨a1, c1, rfl, hp5, hr5, hb5⟩) | fail)
    have HB5 : Hid (Below w.heap.size w w5) := HB4.out.drew.trans (hb5.mono HB4.out.size)
    have HR5 : Hid (IntRow w5 w3.heap.size w3.heap.size [p, q, r]) := HR4.out.drew.below hb5
    have HP5 : Hid (PartsAt w5 w5.heap.size a1 D1) := hp5
    have hl1 : D1.length ≤ c1 := hr5.1
    have HL5 : Hid (RevsAt w5.drew w5.drew.heap.size a l) := HL.out.here HB5.out.drew (Nat.le_refl _)
    have hth5 := (IntRow.there HR5.out).2
    clear hp5 hr5 hb5
    go_wp2_with fail
    go_region_held3 (fun w' => w'.cell? ⟨w3.heap.size, 0, none⟩ = some (.int .i64 (p : Int)) ∧ w'.cell? ⟨w3.heap.size, 1, none⟩ = some (.int .i64 (q : Int)) ∧ w'.cell? ⟨w3.heap.size, 2, none⟩ = some (.int .i64 (r : Int))) (first | exact IntRow.three HR5.out.drew | exact IntRow.three (HR5.out.drew.below hb6) | fail) (first | (go_at_call 14; refine (HBb.out _ HL5.out).mono ?_; rintro e w6 ⟨a2, c2, rfl, hp6, hr6, hb6⟩) | fail)
    have HB6 : Hid (Below w.heap.size w w6) := HB5.out.drew.trans (hb6.mono HB5.out.size)
    have HR6 : Hid (IntRow w6 w3.heap.size w3.heap.size [p, q, r]) := HR5.out.drew.below hb6
    have HP6 : Hid (PartsAt w6 w6.heap.size a1 D1) := HP5.out.here ((Below.refl w5.heap.size w5).drew.trans hb6) (Nat.le_refl _)
    have HQ6 : Hid (PartsAt w6 w6.heap.size a2 D2) := hp6
    have HL6 : Hid (RevsAt w6.drew w6.drew.heap.size a l) := HL.out.here HB6.out.drew (Nat.le_refl _)
    have hth6 := (IntRow.there HR6.out).2
    clear hp6 hr6 hb6
    go_wp2_with fail
    go_region_held3 (fun w' => w'.cell? ⟨w3.heap.size, 0, none⟩ = some (.int .i64 (p : Int)) ∧ w'.cell? ⟨w3.heap.size, 1, none⟩ = some (.int .i64 (q : Int)) ∧ w'.cell? ⟨w3.heap.size, 2, none⟩ = some (.int .i64 (r : Int))) (first | exact IntRow.three HR6.out.drew | exact IntRow.three (HR6.out.drew.below hb7) | fail) (first | (go_at_call 14; refine (HC.out _ HL6.out).mono ?_; rintro e w7 ⟨a3, c3, rfl, hp7, hr7, hb7⟩) | fail)
    have HB7 : Hid (Below w.heap.size w w7) := HB6.out.drew.trans (hb7.mono HB6.out.size)
    have HR7 : Hid (IntRow w7 w3.heap.size w3.heap.size [p, q, r]) := HR6.out.drew.below hb7
    have HP7 : Hid (PartsAt w7 w7.heap.size a1 D1) := HP6.out.here ((Below.refl w6.heap.size w6).drew.trans hb7) (Nat.le_refl _)
    have HQ7 : Hid (PartsAt w7 w7.heap.size a2 D2) := HQ6.out.here ((Below.refl w6.heap.size w6).drew.trans hb7) (Nat.le_refl _)
    have HS7 : Hid (PartsAt w7 w7.heap.size a3 D3) := hp7
    have hth7 := (IntRow.there HR7.out).2
    obtain ⟨x0, x1, x2⟩ := IntRow.three HR7.out
    clear hp7 hr7 hb7
    go_wp2_with fail
    refine (HT0.out _ (HL.out.here HB7.out (Nat.le_refl _))).mono ?_
    rintro e w8 ⟨rfl, hb8⟩
    have HB8 : Hid (Below w.heap.size w w8) := HB7.out.trans (hb8.mono HB7.out.size)
    have HR8 : Hid (IntRow w8 w3.heap.size w3.heap.size [p, q, r]) := HR7.out.below hb8
    have HP8 : Hid (PartsAt w8 w8.heap.size a1 D1) := HP7.out.here hb8 (Nat.le_refl _)
    have HQ8 : Hid (PartsAt w8 w8.heap.size a2 D2) := HQ7.out.here hb8 (Nat.le_refl _)
    have HS8 : Hid (PartsAt w8 w8.heap.size a3 D3) := HS7.out.here hb8 (Nat.le_refl _)
    have hth8 := (IntRow.there HR8.out).2
    clear x0 x1 x2 hb8
    obtain ⟨x0, x1, x2⟩ := IntRow.three HR8.out
    go_wp2_with fail
    refine (HT2.out _ (HL.out.here HB8.out (Nat.le_refl _))).mono ?_
    rintro e w9 ⟨rfl, hb9⟩
    have HB9 : Hid (Below w.heap.size w w9) := HB8.out.trans (hb9.mono HB8.out.size)
    have HP9 : Hid (PartsAt w9 w9.heap.size a1 D1) := HP8.out.here hb9 (Nat.le_refl _)
    have HQ9 : Hid (PartsAt w9 w9.heap.size a2 D2) := HQ8.out.here hb9 (Nat.le_refl _)
    have HS9 : Hid (PartsAt w9 w9.heap.size a3 D3) := HS8.out.here hb9 (Nat.le_refl _)
    clear x0 x1 x2 hb9
    go_wp2_with fail
    refine (HCO.out a1 a2 c1 c2 _ HP9.out HQ9.out hl1).mono ?_
    rintro e w10 ⟨a10, c10, rfl, hp10, hr10, hb10⟩
    have HB10 : Hid (Below w.heap.size w w10) := HB9.out.trans (hb10.mono HB9.out.size)
    have HS10 : Hid (PartsAt w10 w10.heap.size a3 D3) := HS9.out.here hb10 (Nat.le_refl _)
    have HC10 : Hid (PartsAt w10 w10.heap.size a10 D3) := hp10
    clear hp10 hr10 hb10
    go_wp2_with fail
    refine (HDo.out a3 c3 _ HS10.out).mono ?_
    rintro e w11 ⟨rfl, hb11⟩
    have HB11 : Hid (Below w.heap.size w w11) := HB10.out.trans (hb11.mono HB10.out.size)
    have HS11 : Hid (PartsAt w11 w11.heap.size a3 D3) := HS10.out.here hb11 (Nat.le_refl _)
    have HC11 : Hid (PartsAt w11 w11.heap.size a10 D3) := HC10.out.here hb11 (Nat.le_refl _)
    clear hb11
    go_wp2_with fail
    refine (Same_yes a3 a10 D3 c3 c10 _ HS11.out HC11.out).mono ?_
    rintro e w12 ⟨rfl, hb12⟩
    have HB12 : Hid (Below w.heap.size w w12) := HB11.out.trans (hb12.mono HB11.out.size)
    clear hb12
    go_wp2_with fail
    go_ret
    exact ⟨rfl, HB12.out⟩
  · have q2 : (checkE s.data.toList l != 0) = true := by simp [h0]
    clear h0
    go_wp2_with fail
    go_ret
    exact ⟨rfl, HB3.out⟩
end Go.Proofs.Ytjfeaedjifpahaa
