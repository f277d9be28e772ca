/- The law ShopHands, walked: it answers true. (laws/mkhands.py) -/
import Derived.Test.YtcghojnmnmmpoaaShMove
import Derived.Test.YtcghojnmnmmpoaaShRevs
import Derived.Test.YtcghojnmnmmpoaaShTab
import Derived.Test.YtcghojnmnmmpoaaShRank
import Derived.Test.YtcghojnmnmmpoaaShRun
import Derived.BigQuiet
namespace Go.Proofs.Ytcghojnmnmmpoaa
open Go.RowKit
set_option linter.unusedSimpArgs false
set_option linter.unusedVariables false

/-- what a log's table is: all that its revisions put there -/
theorem table_all {S : Sh} (h : SGood S) : S.log.table = tabK S.log S.log.revs.length := by
  obtain ⟨a, b, m, h, _⟩ := h
  unfold tabK tableAt
  rw [List.take_length, h.revs, h.table]
  rfl
theorem first_adds (l : List Rv) : ∀ S : Sh, (addsT S l).log.first = S.log.first := by
  induction l with
  | nil => intro S; rfl
  | cons r l ih =>
    intro S
    refine (ih (addT S r)).trans ?_
    unfold addT
    split <;> rfl
theorem fill_first (l : List Rv) : (fillS l).log.first = List.replicate 16 0 := by
  unfold fillS
  rw [first_adds, newS_is]
  rfl
/-- a table beside an archive -/
theorem TbAt.aside {w w' : World} {g b : Nat} {t : List Int} (h : TbAt w b t) (ha : Aside g w w') (hb : b ≠ g) : TbAt w' b t := ha.block h hb
theorem tb_two {T : List Int} (h : T.length = 16) {k : Nat} (hk : k < 8) : ∃ p q : Int, T[k * 2]? = some p ∧ T[k * 2 + 1]? = some q ∧ lastP T k = p ∧ lastQ T k = q ∧ lastE (k : Int) = 0 := by
  obtain ⟨p, hp⟩ : ∃ p, T[k * 2]? = some p := ⟨_, List.getElem?_eq_getElem (by omega)⟩
  obtain ⟨q, hq⟩ : ∃ q, T[k * 2 + 1]? = some q := ⟨_, List.getElem?_eq_getElem (by omega)⟩
  have hw : ¬ ((k : Int) < 0 ∨ 7 < (k : Int)) := by omega
  refine ⟨p, q, hp, hq, ?_, ?_, ?_⟩
  · rw [lastP, if_neg hw, Int.toNat_natCast, Nat.mul_comm 2 k, hp]; rfl
  · rw [lastQ, if_neg hw, Int.toNat_natCast, Nat.mul_comm 2 k, hq]; rfl
  · rw [lastE, if_neg hw]
theorem one_last : lastP (fillS [oneRv]).log.table 1 = 1 ∧ lastQ (fillS [oneRv]).log.table 1 = 1 ∧ lastE 1 = 0 := by
  rw [one_fill]
  refine ⟨?_, ?_, rfl⟩
  · show lastP (tabPut newS.log.table 1 1 _) 1 = 1
    rw [newS_is]
    rfl
  · show lastQ (tabPut newS.log.table 1 1 (newS.log.base + (newS.log.revs.length + 1))) 1 = 1
    rw [newS_is]
    rfl
theorem GLast (S : Sh) (who : Int) (g : Nat) (w : World) (h : SG w g S) : Calls Try.prog 11 #[.pointer (some ⟨g, 0, none⟩), .int .i64 who] w fun e w' => e = .returned (.tuple #[.agg #[.int .i64 (lastP S.log.table who), .int .i64 (lastQ S.log.table who)], .int .i64 (lastE who)]) ∧ Below w.heap.size w w' := ShLast_any S who g w h.1
/-- a table beside an archive, written -/
theorem sg_table {w : World} {g M : Nat} {S : Sh} {T : List Int} (h : SG w g S) (ht : TbAt w M T) (hg : g ≠ M) (i j : Nat) (u v : Value) : SG ((w.setCell ⟨M, i, none⟩ u).setCell ⟨M, j, none⟩ v) g S := by
  have ha : Aside M w ((w.setCell ⟨M, i, none⟩ u).setCell ⟨M, j, none⟩ v) := ((Aside.refl M w).put i u).put j v
  exact ⟨ShIs.aside h.1 ht (by decide) (by decide) hg ha, h.2⟩
set_option maxRecDepth 20000 in
set_option maxHeartbeats 16000000 in
theorem ShopHands_any (a : Option Addr) (l : List Rv) (cap : Nat) (floor : Int) (w : World) (hl : RevsAt w w.heap.size a l) (hc : l.length ≤ cap) :
    Calls Try.prog 3 #[.slice a l.length cap, .int .i64 floor] w fun e w' => e = .returned (.bool true) ∧ Below w.heap.size w w' := by
  have HL : Hid (RevsAt w w.heap.size a l) := hl
  have hll : l.length ≤ 9223372036854775807 := hl.1
  obtain ⟨B, hB⟩ : ∃ B, w.heap.size = B := ⟨_, rfl⟩
  have HWB : Hid (w.heap.size = B) := hB
  rw [hB] at HL
  have HF1 : Hid _ := fun w => first_any ⟨#[97]⟩ w (by decide)
  have HO1 : Hid _ := fun w ad hp => fill_one2 w ad hp
  obtain ⟨o1, o2, o3⟩ := one_last
  have HLa1 : Hid (∀ w g, SG w g (fillS [oneRv]) → Calls Try.prog 11 #[.pointer (some ⟨g, 0, none⟩), .int .i64 1] w fun e w' => e = .returned (.tuple #[.agg #[.int .i64 1, .int .i64 1], .int .i64 0]) ∧ Below w.heap.size w w') := by
    intro w g h
    have h2 := GLast (fillS [oneRv]) 1 g w h
    rw [o1, o2, o3] at h2
    exact h2
  clear o1 o2 o3 hl hB
  generalize fillS [oneRv] = F1 at *
  have HW : Hid _ := fun k m w h1 h2 => Within3_any k m w h1 h2
  have HFl : Hid _ := fun w h => Filled_any a l cap w h
  obtain ⟨hg1, hg2, hg3, hg4⟩ := fill_is l
  have hgd := (fill_good l).bounds
  have HH : Hid _ := fun w g h => GHead (fillS l) g w h
  have hRv : revsR (fillS l) 0 = (fillS l).log.revs := by
    have h0 : hasE (fillS l) 0 = 0 := by unfold hasE; rw [if_neg (by omega), if_neg (by omega)]
    rw [revsR, if_pos h0, hg3]
    rfl
  have HRv : Hid (∀ w g, SG w g (fillS l) → Calls Try.prog 12 #[.pointer (some ⟨g, 0, none⟩), .int .i64 0] w fun e w' => ∃ v xs, e = .returned (.tuple #[v, .int .i64 0]) ∧ RzsOwn w' w.heap.size v xs ∧ xs.map (·.1) = (fillS l).log.revs ∧ Below w.heap.size w w') := by
    intro w g h
    have h2 := GRevs (fillS l) 0 g w h
    have h0 : hasE (fillS l) 0 = 0 := by unfold hasE; rw [if_neg (by omega), if_neg (by omega)]
    rw [h0, hRv] at h2
    exact h2
  obtain ⟨T, hT⟩ : ∃ T, (fillS l).log.table = T := ⟨_, rfl⟩
  have HTab : Hid (tabK (fillS l).log (fillS l).log.revs.length = T) := (table_all (fill_good l)).symm.trans hT
  have HT0 : Hid (tabK (fillS l).log 0 = List.replicate 16 0) := fill_first l
  have HTl : Hid (∀ j, (tabK (fillS l).log j).length = 16) := tabK_len _ (by rw [fill_first]; rfl)
  have HTs : Hid (∀ (j : Nat) (r : Rv), (fillS l).log.revs[j]? = some r → tabK (fillS l).log (j + 1) = tabPut (tabK (fillS l).log j) r.who r.seq ((j : Int) + 1)) := by
    intro j r h
    rw [tabK_succ h, hg3]
    congr 1
    omega
  have HOne : Hid (∀ q ∈ (fillS l).log.revs, oneE q = 0) := by
    obtain ⟨n, h⟩ := (fill_good l).lok
    exact hist_ones h.hist
  have hT16 : T.length = 16 := by rw [← HTab.out]; exact HTl.out _
  obtain ⟨N, hN⟩ : ∃ N, headN (fillS l) = N := ⟨_, rfl⟩
  have hNr : (fillS l).log.revs.length = N := by rw [← hN, fill_head]
  have HK : Hid (∀ k : Nat, k < N + 1 → ∀ w g, SG w g (fillS l) → Calls Try.prog 13 #[.pointer (some ⟨g, 0, none⟩), .int .i64 k] w fun e w' => e = .returned (.int .i64 0) ∧ (∃ S, SG w' g S ∧ MvSt S k 0 ∧ S.log.table = T) ∧ Aside g w w') := by
    intro k hk w g h
    obtain ⟨k1, k2⟩ := keep_ok hg1 (by rw [hg4]; decide) (k := k) (by rw [hg3]; omega) (by rw [hN]; omega)
    have h2 := GKeep (fillS l) k g w h
    rw [k1] at h2
    refine h2.mono fun e w' ⟨h1, h2, h3⟩ => ⟨h1, ⟨_, h2, .inl ?_, by rw [keepS_revs]; exact hT⟩, h3⟩
    rw [k2]
    exact ⟨rfl, rfl, rfl, rfl, hg3, hg4, by show k ≤ headN (fillS l); omega⟩
  rw [hN] at HH
  have hN2 : N ≤ 64 := by rw [← hN, fill_head]; exact hgd.1
  clear hgd hg1 hg2 hg3 hg4 hN hRv hT
  generalize fillS l = Fl at *
  go_enter Try.func3, Try.ntmps3
  go_wp2_with fail
  with_reducible refine (HF1.out _).mono ?_
  rintro e w1 ⟨ad, rfl, hp1, hb1⟩
  have HB1 : Hid (Below B w w1) := by rw [← HWB.out]; exact hb1
  have HP1 : Hid _ := hp1
  clear hp1 hb1
  have HOne1 : Hid (Calls Try.prog 9 #[.slice (some ⟨w1.heap.size, 0, none⟩) 1 1] (w1.alloc (.cells #[.int .i64 1, .int .i64 1, .slice (some ad) 1 1] 27)) fun e w' => ∃ g, e = .returned (.pointer (some ⟨g, 0, none⟩)) ∧ w1.heap.size ≤ g ∧ SG w' g F1 ∧ Below w1.heap.size w1 w') := HO1.out w1 ad HP1.out
  go_wp2_with fail
  with_reducible refine Calls.mono HOne1.out ?_
  rintro e w2 ⟨g1, rfl, hg1, hs2, hb2⟩
  have HB2 : Hid (Below B w w2) := HB1.out.trans (hb2.mono (by have := HB1.out.size; have := HWB.out; omega))
  have HS2 : Hid (SG w2 g1 F1) := hs2
  clear hs2 HOne1 hg1 hb2
  go_wp2_with fail
  with_reducible refine (HLa1.out _ _ HS2.out).mono ?_
  rintro e w3 ⟨rfl, hb3⟩
  have HB3 : Hid (Below B w w3) := HB2.out.trans (hb3.mono (by have := HB2.out.size; have := HWB.out; omega))
  have HB4 : Hid (Below B w (w3.alloc (.cells #[.int .i64 1, .int .i64 1] 30))) := HB3.out.alloc (by have := HB3.out.size; have := HWB.out; omega) _
  have hz34 : (w3.alloc (.cells #[.int .i64 1, .int .i64 1] 30)).heap.size = w3.heap.size + 1 := by simp
  clear hb3 HS2 HB1 HB2 HP1 HF1 HO1 HLa1
  --
  go_wp2_with fail
  with_reducible refine (HFl.out _ (HL.out.here HB4.out (Nat.le_refl _))).mono ?_
  rintro e w7 ⟨g, rfl, hg, hs7, hb7⟩
  have HB7 : Hid (Below B w w7) := HB4.out.trans (hb7.mono (by have := HB4.out.size; have := HWB.out; omega))
  have HG : Hid (B ≤ g) := by have := HB4.out.size; have := HWB.out; show B ≤ g; omega
  have HS7 : Hid (SG w7 g Fl) := hs7
  clear hg hs7 hb7 HFl hz34
  go_wp2_with fail
  with_reducible refine (HRv.out _ _ HS7.out).mono ?_
  rintro e w8 ⟨v8, xs8, rfl, hz8, hx8, hb8⟩
  have HS8 : Hid (SG w8 g Fl) := HS7.out.below hb8
  have HB8 : Hid (Below B w w8) := HB7.out.trans (hb8.mono (by have := HB7.out.size; have := HWB.out; omega))
  have hlen8 : xs8.length = N := by rw [← hNr, ← hx8, List.length_map]
  obtain ⟨a8, c8, rfl, hc8, hR8⟩ := rzs_at hz8 (by omega)
  rw [hx8] at hR8
  rw [hlen8] at hc8
  rw [hlen8]
  have HR8 : Hid (RevsAt w8 w8.heap.size a8 Fl.log.revs) := hR8
  have hgw8 : g < w8.heap.size := HS8.out.lt
  have hB8z : B ≤ w8.heap.size := by have := HB8.out.size; have := HWB.out; omega
  have HTb0 : Hid (TbAt (w8.alloc (.cells #[.int .i64 0, .int .i64 0, .int .i64 0, .int .i64 0, .int .i64 0, .int .i64 0, .int .i64 0, .int .i64 0, .int .i64 0, .int .i64 0, .int .i64 0, .int .i64 0, .int .i64 0, .int .i64 0, .int .i64 0, .int .i64 0] 36)) w8.heap.size (tabK Fl.log 0)) := by rw [HT0.out]; exact Deep.blk_alloc_new w8 _
  have hbA : Below w8.heap.size w8 (w8.alloc (.cells #[.int .i64 0, .int .i64 0, .int .i64 0, .int .i64 0, .int .i64 0, .int .i64 0, .int .i64 0, .int .i64 0, .int .i64 0, .int .i64 0, .int .i64 0, .int .i64 0, .int .i64 0, .int .i64 0, .int .i64 0, .int .i64 0] 36)) := (Below.refl _ w8).alloc (Nat.le_refl _) _
  have HSA : Hid (SG (w8.alloc (.cells #[.int .i64 0, .int .i64 0, .int .i64 0, .int .i64 0, .int .i64 0, .int .i64 0, .int .i64 0, .int .i64 0, .int .i64 0, .int .i64 0, .int .i64 0, .int .i64 0, .int .i64 0, .int .i64 0, .int .i64 0, .int .i64 0] 36)) g Fl) := HS8.out.below hbA
  have HBA : Hid (Below w8.heap.size w8 (w8.alloc (.cells #[.int .i64 0, .int .i64 0, .int .i64 0, .int .i64 0, .int .i64 0, .int .i64 0, .int .i64 0, .int .i64 0, .int .i64 0, .int .i64 0, .int .i64 0, .int .i64 0, .int .i64 0, .int .i64 0, .int .i64 0, .int .i64 0] 36))) := hbA
  clear hz8 hx8 hb8 hlen8 hR8 hbA HS7 HB7 HRv
  go_upto_region 12 with fail
  generalize w8.alloc (.cells #[.int .i64 0, .int .i64 0, .int .i64 0, .int .i64 0, .int .i64 0, .int .i64 0, .int .i64 0, .int .i64 0, .int .i64 0, .int .i64 0, .int .i64 0, .int .i64 0, .int .i64 0, .int .i64 0, .int .i64 0, .int .i64 0] 36) = wA at HTb0 HSA HBA ⊢
  obtain ⟨M, hM⟩ : ∃ M, w8.heap.size = M := ⟨_, rfl⟩
  have HM8 : Hid (w8.heap.size = M) := hM
  rw [hM] at HTb0 HBA HR8 hgw8 hB8z ⊢
  clear hM
  go_wp2_with fail
  go_loopw [47] (fun i wr => ∃ j : Nat, j ≤ N ∧ i = .int .i64 (j : Int) ∧ TbAt wr M (tabK Fl.log j) ∧ SG wr g Fl ∧ Below M w8 wr) (fun i _ => N - (intOf i).toNat)
  case atStart => exact ⟨0, Nat.zero_le _, rfl, HTb0.out, HSA.out, HBA.out⟩
  case round =>
    rename World => wr
    clear HTb0 HSA HBA
    obtain ⟨j, hj, rfl, htb, hs, hb⟩ := hrel
    have HT1 : Hid (TbAt wr M (tabK Fl.log j)) := htb
    have HS1 : Hid (SG wr g Fl) := hs
    have HBr : Hid (Below M w8 wr) := hb
    clear htb hs hb
    by_cases hlt : j < N
    · obtain ⟨r, hr⟩ : ∃ r, Fl.log.revs[j]? = some r := ⟨_, List.getElem?_eq_getElem (by omega)⟩
      have hone := HOne.out r (List.mem_of_getElem? hr)
      obtain ⟨⟨o1, o2, o3, o4⟩, _⟩ := one_zero hone
      obtain ⟨q, hq⟩ : ∃ q : Nat, r.who = (q : Int) := ⟨r.who.toNat, by omega⟩
      have HSuc : Hid (tabK Fl.log (j + 1) = ((tabK Fl.log j).set (q * 2) r.seq).set (q * 2 + 1) ((j : Int) + 1)) := by
        show _ = _
        rw [HTs.out j r hr, tabPut, hq, Int.toNat_natCast, Nat.mul_comm 2 q]
      obtain ⟨b, off, ai, ci, rfl, hbl, d0, d1, d2, _, _⟩ := (HR8.out.below HBr.out (Nat.le_refl _)).mem hr
      have hz := HBr.out.size
      have hz2 := HM8.out
      have hbw : b < wr.heap.size := by omega
      have hji : (j : Int) < (N : Int) := by omega
      rw [hq] at d0
      have hw1 : IntKind.i64.wrap ((j : Int) + 1) = (j : Int) + 1 := IntWalk.i64_in _ ⟨by omega, by omega⟩
      have q0 : (0 : Int) ≤ (q : Int) := by omega
      have q8 : (q : Int) < 8 := by omega
      have hb1 : Below wr.heap.size wr (wr.alloc (.cells #[.int .i64 (q : Int), .int .i64 r.seq, .slice ai r.d.length ci] 27)) := (Below.refl _ wr).alloc (Nat.le_refl _) _
      have HT2 : Hid (TbAt (wr.alloc (.cells #[.int .i64 (q : Int), .int .i64 r.seq, .slice ai r.d.length ci] 27)) M (tabK Fl.log j)) := HT1.out.below hb1 HT1.out.lt
      have HS2 : Hid (SG (wr.alloc (.cells #[.int .i64 (q : Int), .int .i64 r.seq, .slice ai r.d.length ci] 27)) g Fl) := HS1.out.below hb1
      have HB2 : Hid (Below M w8 (wr.alloc (.cells #[.int .i64 (q : Int), .int .i64 r.seq, .slice ai r.d.length ci] 27))) := HBr.out.trans (hb1.mono (by omega))
      have HN2 : Hid ((wr.alloc (.cells #[.int .i64 (q : Int), .int .i64 r.seq, .slice ai r.d.length ci] 27)).heap[wr.heap.size]? = some (.cells #[.int .i64 (q : Int), .int .i64 r.seq, .slice ai r.d.length ci] 27 (0, 0))) := heap_alloc_new wr _
      clear hone o1 o2 o3 o4 hq hb1 hr
      go_upto_region 15 with fail
      generalize wr.alloc (.cells #[.int .i64 (q : Int), .int .i64 r.seq, .slice ai r.d.length ci] 27) = w2 at HT2 HN2 HS2 HB2 ⊢
      obtain ⟨Nn, hNn⟩ : ∃ Nn, wr.heap.size = Nn := ⟨_, rfl⟩
      rw [hNn] at HN2 ⊢
      clear hNn d0 d1 d2 hbl hbw hz
      have n0 := Lib.cell_of_heap HN2.out 0
      have n1 := Lib.cell_of_heap HN2.out 1
      have hNl := lt_of_heap HN2.out
      have hl16 := HTl.out j
      obtain ⟨y1, hy1⟩ : ∃ y, (tabK Fl.log j)[q * 2]? = some y := ⟨_, List.getElem?_eq_getElem (by omega)⟩
      obtain ⟨y2, hy2⟩ : ∃ y, (tabK Fl.log j)[q * 2 + 1]? = some y := ⟨_, List.getElem?_eq_getElem (by omega)⟩
      have t1 := HT2.out.cell hy1
      have t2 := HT2.out.cell hy2
      have f1 := HT2.out.free (q * 2)
      have f2 := HT2.out.free (q * 2 + 1)
      have hB2 := HT2.out.lt
      have hgM : g ≠ M := by omega
      have HF : Hid (TbAt ((w2.setCell ⟨M, q * 2, none⟩ (.int .i64 r.seq)).setCell ⟨M, q * 2 + 1, none⟩ (.int .i64 ((j : Int) + 1))) M (tabK Fl.log (j + 1))) := by
        rw [HSuc.out]
        exact (HT2.out.put (q * 2) r.seq).put (q * 2 + 1) _
      have HFS : Hid (SG ((w2.setCell ⟨M, q * 2, none⟩ (.int .i64 r.seq)).setCell ⟨M, q * 2 + 1, none⟩ (.int .i64 ((j : Int) + 1))) g Fl) := sg_table HS2.out HT2.out hgM _ _ _ _
      have HFB : Hid (Below M w8 ((w2.setCell ⟨M, q * 2, none⟩ (.int .i64 r.seq)).setCell ⟨M, q * 2 + 1, none⟩ (.int .i64 ((j : Int) + 1)))) := (HB2.out.setCell (p := ⟨M, q * 2, none⟩) (Nat.le_refl _) _).setCell (p := ⟨M, q * 2 + 1, none⟩) (Nat.le_refl _) _
      clear hy1 hy2 hl16
      go_wp2_with fail
      go_roundw
      case rel => exact ⟨j + 1, hlt, by go_num, HF.out, HFS.out, HFB.out⟩
      case measure => simp [intOf]; omega
    · have hji : ¬ (j : Int) < (N : Int) := by omega
      obtain rfl : N = j := by omega
      have HT10 : Hid (TbAt wr M T) := by
        have h := HT1.out
        rw [← hNr, HTab.out] at h
        exact h
      have hzr := HBr.out.size
      have HB10 : Hid (Below B w wr) := HB8.out.trans (HBr.out.mono hB8z)
      have HS10 : Hid (SG wr g Fl) := HS1.out
      have HGM : Hid (M ≠ g ∧ B ≤ M) := ⟨by omega, hB8z⟩
      clear hlt HT1 HS1 HBr HTs HTl HT0 HTab HOne HR8 hzr HS8 HB8 hgw8 hB8z HM8 HB3 HB4
      have HS9 : Hid (SG wr g Fl) := HS10.out
      have HT9 : Hid (TbAt wr M T) := HT10.out
      have HB9 : Hid (Below B w wr) := HB10.out
      clear HS10 HT10 HB10
      go_wp2_with fail
      with_reducible refine (HH.out _ _ HS9.out).mono ?_
      rintro e w11 ⟨rfl, hb11⟩
      have HT11 : Hid (TbAt w11 M T) := HT9.out.below hb11 HT9.out.lt
      have HS11 : Hid (SG w11 g Fl) := HS9.out.below hb11
      have HB11 : Hid (Below B w w11) := HB9.out.trans (hb11.mono (by have := HB9.out.size; have := HWB.out; omega))
      clear hb11
      go_wp2_with fail
      rw [show (N : Int) + 1 = ((N + 1 : Nat) : Int) by omega]
      with_reducible refine (HW.out _ _ _ (by omega) (by omega)).mono ?_
      rintro e w12 ⟨fl, rfl, hfl, rfl⟩
      have HKf : Hid _ := HK.out fl hfl
      go_wp2_with fail
      with_reducible refine (HKf.out _ _ HS11.out).mono ?_
      rintro e w13 ⟨rfl, ⟨S0, hs13, hmv, htb⟩, ha13⟩
      have HS13 : Hid (SG w13 g S0) := hs13
      have HM13 : Hid (MvSt S0 fl 0 ∧ S0.log.table = T) := ⟨hmv, htb⟩
      have HT13 : Hid (TbAt w13 M T) := HT11.out.aside ha13 HGM.out.1
      have HB13 : Hid (Below B w w13) := HB11.out.trans (ha13.below HG.out (by have := HB11.out.size; have := HWB.out; omega))
      clear hs13 hmv htb ha13 HKf HK HS9 HT9 HB9 HS11 HT11 HB11 HH HW
      go_wp2_with fail
      go_loopw [] (fun wr => ∃ n S, SG wr g S ∧ (MvSt S fl n ∧ S.log.table = T) ∧ TbAt wr M T ∧ Below B w wr) (fun wr => rkW wr g)
      case atStart => exact ⟨0, S0, HS13.out, HM13.out, HT13.out, HB13.out⟩
      case round =>
        rename World => wq
        clear HS13 HM13 HB13 HT13
        obtain ⟨n, S, hs, hmv, htb, hb⟩ := hrel
        have HS : Hid (SG wq g S) := hs
        have HMv : Hid (MvSt S fl n ∧ S.log.table = T) := hmv
        have HT : Hid (TbAt wq M T) := htb
        have HB : Hid (Below B w wq) := hb
        have HSt : Hid _ := fun w h => GStep S g w h
        clear hs hmv hb htb
        by_cases h0 : S.stage = 0
        · rw [stepB_no h0, stepS_none h0] at HSt
          have HSy : Hid (∀ w, SG w g S → Calls Try.prog 18 #[.pointer (some ⟨g, 0, none⟩)] w fun e w' => e = .returned (.tuple #[]) ∧ SG w' g (syncS S) ∧ Aside g w w') := fun w h => GSync S g w h
          have HTS : Hid ((syncS S).log.table = T) := HMv.out.2
          have hsf : (syncS S).safe = headN (syncS S) := rfl
          have HOp : Hid (∀ w, SG w g (syncS S) → Calls Try.prog 19 #[.pointer (some ⟨g, 0, none⟩), .int .i64 0, .int .i64 0] w fun e w' => ∃ g' X, e = .returned (.pointer (some ⟨g', 0, none⟩)) ∧ w.heap.size ≤ g' ∧ SG w' g' X ∧ X.log.table = T ∧ Below w.heap.size w w') := by
            intro w h
            refine (opened_any (syncS S) 0 0 g w h).mono ?_
            rintro e w' ⟨g', X, e1, e2, e3, e4, _, e5⟩
            exact ⟨g', X, e1, e2, e3, (e4.table hsf).trans HTS.out, e5⟩
          clear h0 HMv hsf
          generalize syncS S = S2 at *
          go_wp2_with fail
          with_reducible refine (HSt.out _ HS.out).mono ?_
          rintro e w12 ⟨rfl, hs12, ha12⟩
          have HS12 : Hid (SG w12 g S) := hs12
          have HT12 : Hid (TbAt w12 M T) := HT.out.aside ha12 HGM.out.1
          have HB12 : Hid (Below B w w12) := HB.out.trans (ha12.below HG.out (by have := HB.out.size; have := HWB.out; omega))
          clear hs12 ha12 HS HB HT HSt
          go_wp2_with fail
          with_reducible refine (HSy.out _ HS12.out).mono ?_
          rintro e w13 ⟨rfl, hs13, ha13⟩
          have HS13 : Hid (SG w13 g S2) := hs13
          have HT13 : Hid (TbAt w13 M T) := HT12.out.aside ha13 HGM.out.1
          have HB13 : Hid (Below B w w13) := HB12.out.trans (ha13.below HG.out (by have := HB12.out.size; have := HWB.out; omega))
          clear hs13 ha13 HS12 HT12 HB12 HSy
          go_wp2_with fail
          with_reducible refine (HOp.out _ HS13.out).mono ?_
          rintro e w14 ⟨g2, X, rfl, hg2, hs14, htX, hb14⟩
          have HX14 : Hid (SG w14 g2 X) := hs14
          have HT14 : Hid (TbAt w14 M T) := HT13.out.below hb14 HT13.out.lt
          have HS14 : Hid (SG w14 g S2) := HS13.out.below hb14
          have HB14 : Hid (Below B w w14) := HB13.out.trans (hb14.mono (by have := HB13.out.size; have := HWB.out; omega))
          have HLS : Hid (∀ k : Nat, k < 8 → ∀ w, SG w g S2 → Calls Try.prog 11 #[.pointer (some ⟨g, 0, none⟩), .int .i64 k] w fun e w' => e = .returned (.tuple #[.agg #[.int .i64 (lastP T k), .int .i64 (lastQ T k)], .int .i64 0]) ∧ Below w.heap.size w w') := by
            intro k hk w h
            have h2 := GLast S2 k g w h
            obtain ⟨_, _, _, _, _, _, h3⟩ := tb_two hT16 hk
            rw [HTS.out, h3] at h2
            exact h2
          have HLX : Hid (∀ k : Nat, k < 8 → ∀ w, SG w g2 X → Calls Try.prog 11 #[.pointer (some ⟨g2, 0, none⟩), .int .i64 k] w fun e w' => e = .returned (.tuple #[.agg #[.int .i64 (lastP T k), .int .i64 (lastQ T k)], .int .i64 0]) ∧ Below w.heap.size w w') := by
            intro k hk w h
            have h2 := GLast X k g2 w h
            obtain ⟨_, _, _, _, _, _, h3⟩ := tb_two hT16 hk
            rw [htX, h3] at h2
            exact h2
          clear hs14 htX hb14 hg2 HS13 HT13 HB13 HTS HOp
          go_wp2_with fail
          go_loopw [82] (fun i wr => ∃ k : Nat, k ≤ 8 ∧ i = .int .i64 (k : Int) ∧ SG wr g S2 ∧ SG wr g2 X ∧ TbAt wr M T ∧ Below B w wr) (fun i _ => 8 - (intOf i).toNat)
          case atStart => exact ⟨0, Nat.zero_le _, rfl, HS14.out, HX14.out, HT14.out, HB14.out⟩
          case round =>
            rename World => wz
            clear HS14 HX14 HT14 HB14
            obtain ⟨k, hk, rfl, hs, hx, htb, hb⟩ := hrel
            have HS : Hid (SG wz g S2) := hs
            have HX : Hid (SG wz g2 X) := hx
            have HT : Hid (TbAt wz M T) := htb
            have HB : Hid (Below B w wz) := hb
            clear hs hx htb hb
            by_cases hlt : k < 8
            · have hki : (k : Int) < 8 := by omega
              have hk0 : (0 : Int) ≤ (k : Int) := by omega
              have HA1 : Hid _ := HLS.out k hlt
              have HA2 : Hid _ := HLX.out k hlt
              obtain ⟨p, q, hp, hq, e1, e2, _⟩ := tb_two hT16 hlt
              rw [e1, e2] at HA1 HA2
              clear e1 e2
              go_wp2_with fail
              with_reducible refine (HA1.out _ HS.out).mono ?_
              rintro e w15 ⟨rfl, hb15⟩
              have HS15 : Hid (SG w15 g S2) := HS.out.below hb15
              have HX15 : Hid (SG w15 g2 X) := HX.out.below hb15
              have HT15 : Hid (TbAt w15 M T) := HT.out.below hb15 HT.out.lt
              have HB15 : Hid (Below B w w15) := HB.out.trans (hb15.mono (by have := HB.out.size; have := HWB.out; omega))
              clear hb15 HS HX HT HB
              have hbY : Below w15.heap.size w15 (w15.alloc (.cells #[.int .i64 p, .int .i64 q] 30)) := (Below.refl _ w15).alloc (Nat.le_refl _) _
              have HN16 : Hid ((w15.alloc (.cells #[.int .i64 p, .int .i64 q] 30)).heap[w15.heap.size]? = some (.cells #[.int .i64 p, .int .i64 q] 30 (0, 0))) := heap_alloc_new w15 _
              have HS16 : Hid (SG (w15.alloc (.cells #[.int .i64 p, .int .i64 q] 30)) g S2) := HS15.out.below hbY
              have HX16 : Hid (SG (w15.alloc (.cells #[.int .i64 p, .int .i64 q] 30)) g2 X) := HX15.out.below hbY
              have HT16 : Hid (TbAt (w15.alloc (.cells #[.int .i64 p, .int .i64 q] 30)) M T) := HT15.out.below hbY HT15.out.lt
              have HB16 : Hid (Below B w (w15.alloc (.cells #[.int .i64 p, .int .i64 q] 30))) := HB15.out.trans (hbY.mono (by have := HB15.out.size; have := HWB.out; omega))
              clear hbY HS15 HX15 HT15 HB15
              go_upto_region 30 with fail
              generalize w15.alloc (.cells #[.int .i64 p, .int .i64 q] 30) = w16 at HN16 HS16 HX16 HT16 HB16 ⊢
              obtain ⟨X1, hX1⟩ : ∃ X1, w15.heap.size = X1 := ⟨_, rfl⟩
              rw [hX1] at HN16 ⊢
              clear hX1
              go_wp2_with fail
              with_reducible refine (HA2.out _ HX16.out).mono ?_
              rintro e w17 ⟨rfl, hb17⟩
              have HN17 : Hid (w17.heap[X1]? = some (.cells #[.int .i64 p, .int .i64 q] 30 (0, 0))) := (hb17.block X1 (lt_of_heap HN16.out)).trans HN16.out
              have hbZ : Below w17.heap.size w17 (w17.alloc (.cells #[.int .i64 p, .int .i64 q] 30)) := (Below.refl _ w17).alloc (Nat.le_refl _) _
              have hbZ2 : Below w16.heap.size w16 (w17.alloc (.cells #[.int .i64 p, .int .i64 q] 30)) := hb17.trans (hbZ.mono hb17.size)
              have HM18 : Hid ((w17.alloc (.cells #[.int .i64 p, .int .i64 q] 30)).heap[w17.heap.size]? = some (.cells #[.int .i64 p, .int .i64 q] 30 (0, 0))) := heap_alloc_new w17 _
              have HN18 : Hid ((w17.alloc (.cells #[.int .i64 p, .int .i64 q] 30)).heap[X1]? = some (.cells #[.int .i64 p, .int .i64 q] 30 (0, 0))) := (hbZ2.block X1 (lt_of_heap HN16.out)).trans HN16.out
              have HS18 : Hid (SG (w17.alloc (.cells #[.int .i64 p, .int .i64 q] 30)) g S2) := HS16.out.below hbZ2
              have HX18 : Hid (SG (w17.alloc (.cells #[.int .i64 p, .int .i64 q] 30)) g2 X) := HX16.out.below hbZ2
              have HT18 : Hid (TbAt (w17.alloc (.cells #[.int .i64 p, .int .i64 q] 30)) M T) := HT16.out.below hbZ2 HT16.out.lt
              have HB18 : Hid (Below B w (w17.alloc (.cells #[.int .i64 p, .int .i64 q] 30))) := HB16.out.trans (hbZ2.mono (by have := HB16.out.size; have := HWB.out; omega))
              clear hbZ hbZ2 hb17 HS16 HX16 HT16 HB16 HN16 HN17
              go_upto_region 31 with fail
              generalize w17.alloc (.cells #[.int .i64 p, .int .i64 q] 30) = w18 at HM18 HN18 HS18 HX18 HT18 HB18 ⊢
              obtain ⟨X2, hX2⟩ : ∃ X2, w17.heap.size = X2 := ⟨_, rfl⟩
              rw [hX2] at HM18 ⊢
              clear hX2
              have n0 := Lib.cell_of_heap HN18.out 0
              have n1 := Lib.cell_of_heap HN18.out 1
              have m0 := Lib.cell_of_heap HM18.out 0
              have m1 := Lib.cell_of_heap HM18.out 1
              have t1 := HT18.out.cell hp
              have t2 := HT18.out.cell hq
              have hMl := HT18.out.lt
              have hX1l := lt_of_heap HN18.out
              have hX2l := lt_of_heap HM18.out
              clear hp hq
              go_wp2_with fail
              go_quiet (fail)
              clear n0 n1 m0 m1 t1 t2 hMl hX1l hX2l
              go_wp2_with fail
              go_roundw
              case rel => exact ⟨k + 1, hlt, by go_num, HS18.out.below (below_drewN (Below.refl _ _) _), HX18.out.below (below_drewN (Below.refl _ _) _), HT18.out.below (below_drewN (Below.refl w18.heap.size _) _) HT18.out.lt, below_drewN HB18.out _⟩
              case measure => simp [intOf]; omega
            · have hki : ¬ (k : Int) < 8 := by omega
              have HBe : Hid (Below w.heap.size w wz) := by rw [HWB.out]; exact HB.out
              go_wp2_with fail
              go_ret
              exact ⟨rfl, HBe.out⟩
        · rw [stepB_yes HS.out.2 h0] at HSt
          have HM2 : Hid (MvSt (stepS S) fl (n + 1) ∧ (stepS S).log.table = T) := ⟨mv_step HS.out.2 HMv.out.1 h0, (step_said HS.out.2).table.trans HMv.out.2⟩
          have HRk : Hid (rk (stepS S).stage (stepS S).said < rkW wq g) := by
            show _ < _
            rw [rkW_is HS.out]
            exact rk_step HS.out.2 h0
          have hbd := (good_step HS.out.2).bounds.2.2.2
          have HBa : Hid _ := fun w h => GBase (stepS S) g w h
          have HHd : Hid _ := fun w h => GHead (stepS S) g w h
          obtain ⟨hd, hhd⟩ : ∃ hd, headN (stepS S) = hd := ⟨_, rfl⟩
          obtain ⟨bs, hbs⟩ : ∃ bs, (stepS S).log.base = bs := ⟨_, rfl⟩
          rw [hhd] at HHd hbd
          rw [hbs] at HBa hbd
          have hnot : ¬ (hd : Int) < (bs : Int) := by omega
          clear hhd hbs hbd h0 HMv
          generalize stepS S = S2 at *
          go_wp2_with fail
          with_reducible refine (HSt.out _ HS.out).mono ?_
          rintro e w12 ⟨rfl, hs12, ha12⟩
          have HS12 : Hid (SG w12 g S2) := hs12
          have HT12 : Hid (TbAt w12 M T) := HT.out.aside ha12 HGM.out.1
          have HB12 : Hid (Below B w w12) := HB.out.trans (ha12.below HG.out (by have := HB.out.size; have := HWB.out; omega))
          clear hs12 ha12 HS HT HB
          go_wp2_with fail
          with_reducible refine (HBa.out _ HS12.out).mono ?_
          rintro e w13 ⟨rfl, hb13⟩
          have HT13 : Hid (TbAt w13 M T) := HT12.out.below hb13 HT12.out.lt
          have HS13 : Hid (SG w13 g S2) := HS12.out.below hb13
          have HB13 : Hid (Below B w w13) := HB12.out.trans (hb13.mono (by have := HB12.out.size; have := HWB.out; omega))
          clear hb13
          go_wp2_with fail
          with_reducible refine (HHd.out _ HS13.out).mono ?_
          rintro e w14 ⟨rfl, hb14⟩
          have HT14 : Hid (TbAt w14 M T) := HT13.out.below hb14 HT13.out.lt
          have HS14 : Hid (SG w14 g S2) := HS13.out.below hb14
          have HB14 : Hid (Below B w w14) := HB13.out.trans (hb14.mono (by have := HB13.out.size; have := HWB.out; omega))
          clear hb14
          go_wp2_with fail
          go_roundw
          case rel => exact ⟨n + 1, S2, HS14.out, HM2.out, HT14.out, HB14.out⟩
          case measure =>
            rw [rkW_is HS14.out]
            exact HRk.out
end Go.Proofs.Ytcghojnmnmmpoaa
