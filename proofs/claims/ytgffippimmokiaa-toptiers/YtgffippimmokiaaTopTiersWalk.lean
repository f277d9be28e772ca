/- The law TopTiers, walked: it answers true. (laws/mktiers.py) -/
import Derived.Test.YtgffippimmokiaaShRun
import Derived.Test.YtgffippimmokiaaTierMem
import Derived.Test.YtgffippimmokiaaKeepOf
import Derived.Test.YtgffippimmokiaaRevText
namespace Go.Proofs.Ytgffippimmokiaa
open Go.RowKit
set_option linter.unusedSimpArgs false
set_option linter.unusedVariables false

/-- a policy in a block of its own -/
def PolAt (w : World) (P : Nat) (last every : Int) (s : Value) : Prop := w.heap[P]? = some (.cells #[.int .i64 last, .int .i64 every, s] 63 (0, 0))
theorem PolAt.cells {w : World} {P : Nat} {last every : Int} {s : Value} (h : PolAt w P last every s) : w.cell? ⟨P, 0, none⟩ = some (.int .i64 last) ∧ w.cell? ⟨P, 1, none⟩ = some (.int .i64 every) ∧ w.cell? ⟨P, 2, none⟩ = some s :=
  ⟨Lib.cell_of_heap h 0, Lib.cell_of_heap h 1, Lib.cell_of_heap h 2⟩
theorem PolAt.lt {w : World} {P : Nat} {last every : Int} {s : Value} (h : PolAt w P last every s) : P < w.heap.size := lt_of_heap h
theorem PolAt.below {w w' : World} {P : Nat} {last every : Int} {s : Value} (h : PolAt w P last every s) (hb : Below w.heap.size w w') : PolAt w' P last every s := (hb.block P h.lt).trans h
/-- a row of numbers of the law's own -/
def Nw (w : World) (B : Nat) (ao : Option Addr) (co : Nat) (x : List Nat) : Prop := w.ownsRow B 3 1 (.slice ao x.length co) x.length (x.map intV)
theorem Nw.below {w w' : World} {B : Nat} {ao : Option Addr} {co : Nat} {x : List Nat} (h : Nw w B ao co x) (hb : Below w.heap.size w w') : Nw w' B ao co x := own_below h hb
theorem Nw.at {w : World} {B k q : Nat} {ao : Option Addr} {co : Nat} {x : List Nat} (h : Nw w B ao co x) (hk : x[k]? = some q) : ∃ gi, ao = some ⟨gi, 0, none⟩ ∧ w.cell? ⟨gi, k, none⟩ = some (.int .i64 (q : Int)) ∧ gi < w.heap.size := by
  obtain ⟨gi, cg, e, h1, h2⟩ := own_at (j := k) (u := intV q) h (by simp [hk])
  simp only [Value.slice.injEq, true_and] at e
  exact ⟨gi, e.1, h1, h2⟩
theorem cov_twelve {i k : Nat} (h1 : i ≤ k) (h2 : k ≤ 64) : (covL i k).length ≤ 12 := by
  have H : ∀ k ∈ List.range 65, ∀ i ∈ List.range 65, i ≤ k → (covL i k).length ≤ 12 := by decide +kernel
  exact H k (List.mem_range.2 (by omega)) i (List.mem_range.2 (by omega)) h1
theorem kept_in {last every : Int} {pins : List Int} {N : Nat} (h : keepE last every pins (N : Int) = 0) : ∀ r ∈ polL last every pins (N : Int), r ≤ N := by
  obtain ⟨h1, h2, h3⟩ := keepE_zero h
  have e := polL_ok h1 h2 h3
  rw [show ((N : Int)).toNat = N from rfl] at e
  rw [e]
  exact fun r hr => (kept_mem.1 hr).1
/-- one text is made from the other -/
theorem made_text {l : List Rv} {i k : Nat} (h : checkE [] l = 0) (hi : i ≤ k) (hk : k ≤ l.length) (ad : Option Addr) (c : Nat) (w : World) (hp : PartsAt w w.heap.size ad (betO [] l i k)) :
    Calls Try.prog 34 #[.slice ad (betO [] l i k).length c, .string ⟨(textAt [] l i).toArray⟩] w fun e w' => e = .returned (.tuple #[.string ⟨(textAt [] l k).toArray⟩, .int .i64 0]) ∧ Below w.heap.size w w' := by
  obtain ⟨h1, h2, h3, h4⟩ := bet_says h hi hk
  obtain ⟨c1, c2, c3⟩ := check_zero h
  have hle := text_le c3 c1 i
  have hs : (⟨(textAt [] l i).toArray⟩ : ByteArray).size = (textAt [] l i).length := by show (textAt [] l i).toArray.size = _; rw [List.size_toArray]
  have hfit : fitsE (betO [] l i k) ((⟨(textAt [] l i).toArray⟩ : ByteArray).size : Nat) = 0 := by rw [hs]; exact fits_of h1 h2
  have h := Do_any ad (betO [] l i k) c ⟨(textAt [] l i).toArray⟩ w hp (by rw [hs]; omega)
  rw [doT, if_pos hfit, hfit, show (⟨(textAt [] l i).toArray⟩ : ByteArray).data.toList = textAt [] l i by simp, h4] at h
  exact h
set_option maxRecDepth 20000 in
set_option maxHeartbeats 16000000 in
theorem TopTiers_any (a : Option Addr) (l : List Rv) (cap : Nat) (last every : Int) (ap : Option Addr) (pins : List Int) (cp : Nat) (w : World) (hl : RevsAt w w.heap.size a l) (hc : l.length ≤ cap) (hv : IzAt w w.heap.size ap pins cp) :
    Calls Try.prog 8 #[.slice a l.length cap, polV last every ap pins.length cp] w fun e w' => e = .returned (.bool true) ∧ Below w.heap.size w w' := by
  have HL : Hid (RevsAt w w.heap.size a l) := hl
  have HV : Hid (IzAt w w.heap.size ap pins cp) := hv
  have hll : l.length ≤ 9223372036854775807 := hl.1
  have HP0 : Hid (PolAt (w.alloc (.cells #[.int .i64 last, .int .i64 every, .slice ap pins.length cp] 63)) w.heap.size last every (.slice ap pins.length cp) ∧ Below w.heap.size w (w.alloc (.cells #[.int .i64 last, .int .i64 every, .slice ap pins.length cp] 63))) := ⟨heap_alloc_new _ _, (Below.refl _ w).alloc (Nat.le_refl _) _⟩
  have HBg : Hid _ := fun w => begun_any w
  have HKp : Hid _ := fun w h => KeepOf_own last every ap pins cp (l.length : Int) w h
  have HKf : Hid (keepE last every pins (l.length : Int) = 0 → ∀ r ∈ polL last every pins (l.length : Int), r ≤ l.length) := kept_in
  obtain ⟨E, hE⟩ : ∃ E, keepE last every pins (l.length : Int) = E := ⟨_, rfl⟩
  obtain ⟨x, hx⟩ : ∃ x, polL last every pins (l.length : Int) = x := ⟨_, rfl⟩
  rw [hE, hx] at HKp HKf
  clear hl hv hE hx
  by_cases h0 : checkE [] l = 0
  · have HBd : Hid _ := fun w h => Build_at ⟨#[]⟩ a l cap w h h0
    obtain ⟨_, hl64, _⟩ := check_zero h0
    have HC0 : Hid (checkE [] l = 0) := h0
    obtain ⟨T, hT⟩ : ∃ T, tiersL (⟨#[]⟩ : ByteArray).data.toList l = T := ⟨_, rfl⟩
    have HTT : Hid (tiersL [] l = T) := hT
    rw [hT] at HBd
    clear h0 hT
    go_enter Try.func8, Try.ntmps8
    go_wp2_with fail
    generalize w.alloc (.cells #[.int .i64 last, .int .i64 every, .slice ap pins.length cp] 63) = w0 at HP0 ⊢
    obtain ⟨B, hB⟩ : ∃ B, w.heap.size = B := ⟨_, rfl⟩
    have HWB : Hid (w.heap.size = B) := hB
    rw [hB] at HL HV HP0 ⊢
    clear hB
    have HB0 : Hid (Below B w w0) := HP0.out.2
    have HX0 : Hid (PolAt w0 B last every (.slice ap pins.length cp)) := HP0.out.1
    have hz0 := HX0.out.lt
    clear HP0
    with_reducible refine (HBd.out _ (HL.out.here HB0.out (Nat.le_refl _))).mono ?_
    rintro e w1 ⟨at_, ct, rfl, ht1, hb1⟩
    have HT1 : Hid (TiersAt w1 w1.heap.size at_ T ct) := ht1
    have HX1 : Hid (PolAt w1 B last every (.slice ap pins.length cp)) := HX0.out.below hb1
    have HB1 : Hid (Below B w w1) := HB0.out.trans (hb1.mono (by have := HWB.out; omega))
    clear ht1 hb1 HX0 HB0 hz0
    obtain ⟨c0, c1, c2⟩ := HX1.out.cells
    have hz1 := HX1.out.lt
    go_wp2_with fail
    with_reducible refine (HKp.out _ (HV.out.here HB1.out (Nat.le_refl _))).mono ?_
    rintro e w2 ⟨ao, co, rfl, hn2, hown2, hb2⟩
    have HN2 : Hid (Nw w2 B ao co x) := own_low1 hown2 (by omega)
    have HB2 : Hid (Below w1.heap.size w1 w2) := hb2
    clear hown2 hb2 hn2 c0 c1 c2 HX1
    go_wp2_with fail
    with_reducible refine (HBg.out _).mono ?_
    rintro e w3 ⟨rfl, hb3⟩
    have HN3 : Hid (Nw w3 B ao co x) := HN2.out.below hb3
    have HB3 : Hid (Below w1.heap.size w1 w3) := HB2.out.trans (hb3.mono HB2.out.size)
    clear hb3 HN2 HB2
    by_cases hE : E = 0
    · subst hE
      have HXr : Hid (∀ r ∈ x, r ≤ l.length) := HKf.out rfl
      have hxl : x.length ≤ 9223372036854775807 := by
        have h := HN3.out
        unfold Nw at h
        rcases h.2 with ⟨h1, h2⟩ | ⟨g, cap', cur, h1, h2, h3, h4, h5, _⟩
        · omega
        · unfold maxLen at h5; omega
      have HTx : Hid (∀ k : Nat, k ≤ l.length → ∀ w, RevsAt w w.heap.size a l → Calls Try.prog 33 #[.string ⟨#[]⟩, .slice a l.length cap, .int .i64 (k : Int)] w fun e w' => e = .returned (.tuple #[.string ⟨(textAt [] l k).toArray⟩, .int .i64 0]) ∧ Below w.heap.size w w') := fun k hk w h => Text_ok ⟨#[]⟩ a l cap k w h hc HC0.out hk
      have HBt : Hid (∀ i k : Nat, i < k → k ≤ l.length → ∀ w, TiersAt w w.heap.size at_ T ct → Calls Try.prog 31 #[.slice at_ T.length ct, .int .i64 (i : Int), .int .i64 (k : Int)] w fun e w' => ∃ ao co, e = .returned (.tuple #[.slice ao (betO [] l i k).length co, .int .i64 0]) ∧ PartsAt w' w'.heap.size ao (betO [] l i k) ∧ Below w.heap.size w w') := by
        intro i k hik hk w h
        have h2 := TBet_ok at_ T ct i k w h hik (by omega)
        rw [← HTT.out, tiers_same HC0.out hik hk, HTT.out] at h2
        exact h2.mono fun e w' ⟨ao, co, h3, h4, _, h5⟩ => ⟨ao, co, h3, h4, h5⟩
      have HCv : Hid (∀ i k : Nat, i ≤ k → k ≤ l.length → ∀ w : World, Calls Try.prog 32 #[.int .i64 (i : Int), .int .i64 (k : Int)] w fun e w' => ∃ a n c, e = .returned (.tuple #[.slice a n c, .int .i64 0]) ∧ n ≤ 12 ∧ Below w.heap.size w w') := fun i k hik hk w => (Cover_ok i k w hik (by omega)).mono fun e w' ⟨a, c, h1, _, h2⟩ => ⟨a, _, c, h1, cov_twelve hik (by omega), h2⟩
      have HDo : Hid (∀ i k : Nat, i ≤ k → k ≤ l.length → ∀ (ad : Option Addr) (c : Nat) (w : World), PartsAt w w.heap.size ad (betO [] l i k) → Calls Try.prog 34 #[.slice ad (betO [] l i k).length c, .string ⟨(textAt [] l i).toArray⟩] w fun e w' => e = .returned (.tuple #[.string ⟨(textAt [] l k).toArray⟩, .int .i64 0]) ∧ Below w.heap.size w w') := fun i k hik hk ad c w h => made_text HC0.out hik hk ad c w h
      clear HKf HKp HBd HBg HTT HC0 HV
      obtain ⟨C, hC⟩ : ∃ C, w1.heap.size = C := ⟨_, rfl⟩
      have HCB : Hid (B ≤ C ∧ w1.heap.size = C) := ⟨by omega, hC⟩
      rw [hC] at HT1 HB3
      clear hC hz1
      go_wp2_with fail
      go_loopw [48] (fun i wr => ∃ k : Nat, k ≤ x.length ∧ i = .int .i64 (k : Int) ∧ Nw wr B ao co x ∧ Below C w1 wr) (fun i _ => x.length - (intOf i).toNat)
      case atStart => exact ⟨0, Nat.zero_le _, rfl, HN3.out, HB3.out⟩
      case round =>
        rename World => wr
        clear HN3 HB3
        obtain ⟨j, hj, rfl, hn, hb⟩ := hrel
        have HN : Hid (Nw wr B ao co x) := hn
        have HB : Hid (Below C w1 wr) := hb
        clear hn hb
        by_cases hlt : j < x.length
        · have hji : (j : Int) < (x.length : Int) := by omega
          obtain ⟨i, hi⟩ : ∃ i, x[j]? = some i := ⟨_, List.getElem?_eq_getElem hlt⟩
          obtain ⟨gi, hao, hcell, hgi⟩ := HN.out.at hi
          have hir := HXr.out i (List.mem_of_getElem? hi)
          subst hao
          clear hi
          go_wp2_with fail
          clear hcell hgi
          go_loopw [54] (fun i wr => ∃ k : Nat, k ≤ x.length ∧ i = .int .i64 (k : Int) ∧ Nw wr B (some ⟨gi, 0, none⟩) co x ∧ Below C w1 wr) (fun i _ => x.length - (intOf i).toNat)
          case atStart => exact ⟨0, Nat.zero_le _, rfl, HN.out, HB.out⟩
          case round =>
            rename World => wq
            clear HN HB
            obtain ⟨m, hm, rfl, hn, hb⟩ := hrel
            have HN : Hid (Nw wq B (some ⟨gi, 0, none⟩) co x) := hn
            have HB : Hid (Below C w1 wq) := hb
            clear hn hb
            by_cases hlt2 : m < x.length
            · have hmi : (m : Int) < (x.length : Int) := by omega
              obtain ⟨k, hk⟩ : ∃ k, x[m]? = some k := ⟨_, List.getElem?_eq_getElem hlt2⟩
              obtain ⟨gi2, hao, hcell, hgi⟩ := HN.out.at hk
              have hkr := HXr.out k (List.mem_of_getElem? hk)
              simp only [Option.some.injEq, Addr.mk.injEq, and_true] at hao
              subst hao
              clear hk
              by_cases hik : i < k
              · have hik2 : ¬ (k : Int) ≤ (i : Int) := by omega
                have HA1 : Hid _ := HBt.out i k hik hkr
                have HA2 : Hid _ := HCv.out i k (Nat.le_of_lt hik) hkr
                have HA3 : Hid _ := HTx.out i hir
                have HA4 : Hid _ := HTx.out k hkr
                have HA5 : Hid _ := HDo.out i k (Nat.le_of_lt hik) hkr
                generalize betO [] l i k = D at *
                generalize (⟨(textAt [] l i).toArray⟩ : ByteArray) = ti at *
                generalize (⟨(textAt [] l k).toArray⟩ : ByteArray) = tk at *
                go_wp2_with fail
                with_reducible refine (HA1.out _ (HT1.out.here HB.out (Nat.le_refl _))).mono ?_
                rintro e w4 ⟨aD, cD, rfl, hp4, hb4⟩
                have HP4 : Hid (PartsAt w4 w4.heap.size aD D) := hp4
                have HN4 : Hid (Nw w4 B (some ⟨gi, 0, none⟩) co x) := HN.out.below hb4
                have HB4 : Hid (Below C w1 w4) := HB.out.trans (hb4.mono (by have := HB.out.size; have := HCB.out.2; omega))
                clear hp4 hb4 hcell hgi
                go_wp2_with fail
                with_reducible refine (HA2.out _).mono ?_
                rintro e w5 ⟨aC, nC, cC, rfl, hnC, hb5⟩
                have HP5 : Hid (PartsAt w5 w5.heap.size aD D) := HP4.out.here hb5 (Nat.le_refl _)
                have HN5 : Hid (Nw w5 B (some ⟨gi, 0, none⟩) co x) := HN4.out.below hb5
                have HB5 : Hid (Below C w1 w5) := HB4.out.trans (hb5.mono (by have := HB4.out.size; have := HCB.out.2; omega))
                clear hb5
                go_wp2_with fail
                with_reducible refine (HA3.out _ (HL.out.here (HB1.out.trans (HB5.out.mono HCB.out.1)) (Nat.le_refl _))).mono ?_
                rintro e w6 ⟨rfl, hb6⟩
                have HP6 : Hid (PartsAt w6 w6.heap.size aD D) := HP5.out.here hb6 (Nat.le_refl _)
                have HN6 : Hid (Nw w6 B (some ⟨gi, 0, none⟩) co x) := HN5.out.below hb6
                have HB6 : Hid (Below C w1 w6) := HB5.out.trans (hb6.mono (by have := HB5.out.size; have := HCB.out.2; omega))
                clear hb6
                go_wp2_with fail
                with_reducible refine (HA4.out _ (HL.out.here (HB1.out.trans (HB6.out.mono HCB.out.1)) (Nat.le_refl _))).mono ?_
                rintro e w7 ⟨rfl, hb7⟩
                have HP7 : Hid (PartsAt w7 w7.heap.size aD D) := HP6.out.here hb7 (Nat.le_refl _)
                have HN7 : Hid (Nw w7 B (some ⟨gi, 0, none⟩) co x) := HN6.out.below hb7
                have HB7 : Hid (Below C w1 w7) := HB6.out.trans (hb7.mono (by have := HB6.out.size; have := HCB.out.2; omega))
                clear hb7
                go_wp2_with fail
                with_reducible refine (HA5.out _ _ _ HP7.out).mono ?_
                rintro e w8 ⟨rfl, hb8⟩
                have HN8 : Hid (Nw w8 B (some ⟨gi, 0, none⟩) co x) := HN7.out.below hb8
                have HB8 : Hid (Below C w1 w8) := HB7.out.trans (hb8.mono (by have := HB7.out.size; have := HCB.out.2; omega))
                have hn12 : ¬ (12 : Int) < (nC : Int) := by omega
                clear hb8
                go_wp2_with fail
                go_roundw
                case rel => exact ⟨m + 1, hlt2, by go_num, HN8.out, HB8.out⟩
                case measure => simp [intOf]; omega
              · have hik2 : (k : Int) ≤ (i : Int) := by omega
                go_wp2_with fail
                clear hcell hgi
                go_roundw
                case rel => exact ⟨m + 1, hlt2, by go_num, HN.out, HB.out⟩
                case measure => simp [intOf]; omega
            · have hmi : ¬ (m : Int) < (x.length : Int) := by omega
              go_wp2_with fail
              go_roundw
              case rel => exact ⟨j + 1, hlt, by go_num, HN.out, HB.out⟩
              case measure => simp [intOf]; omega
        · have hji : ¬ (j : Int) < (x.length : Int) := by omega
          have HBe : Hid (Below w.heap.size w wr) := by
            rw [HWB.out]
            exact HB1.out.trans (HB.out.mono HCB.out.1)
          go_wp2_with fail
          go_ret
          exact ⟨rfl, HBe.out⟩
    · have hE' : (E != 0) = true := by simp [hE]
      clear hE
      go_wp2_with fail
      with_reducible refine (HBg.out _).mono ?_
      rintro e w4 ⟨rfl, hb4⟩
      have HBe : Hid (Below w.heap.size w w4) := by
        rw [HWB.out]
        exact (HB1.out.trans (HB3.out.mono (by omega))).trans (hb4.mono (by have := HB3.out.size; omega))
      clear hb4
      go_wp2_with fail
      go_ret
      exact ⟨rfl, HBe.out⟩
  · have h0' : (checkE [] l != 0) = true := by simp [h0]
    have HBd : Hid _ := fun w h => Build_not ⟨#[]⟩ a l cap w h (by decide) h0
    obtain ⟨E1, hE1⟩ : ∃ E1, checkE (⟨#[]⟩ : ByteArray).data.toList l = E1 := ⟨_, rfl⟩
    have hE1' : checkE [] l = E1 := hE1
    rw [hE1] at HBd
    rw [hE1'] at h0'
    clear h0 hE1 hE1'
    go_enter Try.func8, Try.ntmps8
    go_wp2_with fail
    generalize w.alloc (.cells #[.int .i64 last, .int .i64 every, .slice ap pins.length cp] 63) = w0 at HP0 ⊢
    obtain ⟨B, hB⟩ : ∃ B, w.heap.size = B := ⟨_, rfl⟩
    have HWB : Hid (w.heap.size = B) := hB
    rw [hB] at HL HV HP0 ⊢
    clear hB
    have HB0 : Hid (Below B w w0) := HP0.out.2
    have HX0 : Hid (PolAt w0 B last every (.slice ap pins.length cp)) := HP0.out.1
    have hz0 := HX0.out.lt
    clear HP0
    with_reducible refine (HBd.out _ (HL.out.here HB0.out (Nat.le_refl _))).mono ?_
    rintro e w1 ⟨rfl, hb1⟩
    have HX1 : Hid (PolAt w1 B last every (.slice ap pins.length cp)) := HX0.out.below hb1
    have HB1 : Hid (Below B w w1) := HB0.out.trans (hb1.mono (by have := HWB.out; omega))
    clear hb1 HX0 HB0 hz0
    obtain ⟨c0, c1, c2⟩ := HX1.out.cells
    have hz1 := HX1.out.lt
    go_wp2_with fail
    with_reducible refine (HKp.out _ (HV.out.here HB1.out (Nat.le_refl _))).mono ?_
    rintro e w2 ⟨ao, co, rfl, hn2, hown2, hb2⟩
    have HB2 : Hid (Below B w w2) := HB1.out.trans (hb2.mono (by omega))
    clear hown2 hb2 hn2 c0 c1 c2 HX1
    go_wp2_with fail
    with_reducible refine (HBg.out _).mono ?_
    rintro e w3 ⟨rfl, hb3⟩
    have HB3 : Hid (Below B w w3) := HB2.out.trans (hb3.mono (by have := HB2.out.size; have := HWB.out; omega))
    clear hb3 HB2
    go_wp2_with fail
    with_reducible refine (HBg.out _).mono ?_
    rintro e w4 ⟨rfl, hb4⟩
    have HBe : Hid (Below w.heap.size w w4) := by
      rw [HWB.out]
      exact HB3.out.trans (hb4.mono (by have := HB3.out.size; have := HWB.out; omega))
    clear hb4
    go_wp2_with fail
    go_ret
    exact ⟨rfl, HBe.out⟩
end Go.Proofs.Ytgffippimmokiaa
