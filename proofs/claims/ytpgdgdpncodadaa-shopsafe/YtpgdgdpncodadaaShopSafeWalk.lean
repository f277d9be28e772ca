/- The law ShopSafe, walked: it answers true. -/
import Derived.Test.YtpgdgdpncodadaaShRun
namespace Go.Proofs.Ytpgdgdpncodadaa
open Go.RowKit
set_option linter.unusedSimpArgs false
set_option linter.unusedVariables false

/-- an archive without a move, in its first log -/
def SQ (w : World) (g : Nat) : Prop := ∃ S, SG w g S ∧ S.stage = 0 ∧ S.log.gen = 1
theorem SQ.below {w w' : World} {g : Nat} (h : SQ w g) (hb : Below w.heap.size w w') : SQ w' g := by
  obtain ⟨S, h1, h2⟩ := h
  exact ⟨S, h1.below hb, h2⟩
/-- an archive -/
def SA (w : World) (g : Nat) : Prop := ∃ S, SG w g S
theorem SA.below {w w' : World} {g : Nat} (h : SA w g) (hb : Below w.heap.size w w') : SA w' g := by
  obtain ⟨S, h1⟩ := h
  exact ⟨S, h1.below hb⟩
theorem SA.lt {w : World} {g : Nat} (h : SA w g) : g < w.heap.size := by
  obtain ⟨S, h1⟩ := h
  exact h1.lt
theorem SQ.lt {w : World} {g : Nat} (h : SQ w g) : g < w.heap.size := by
  obtain ⟨S, h1, _⟩ := h
  exact h1.lt
theorem QAdd (r : Rv) (a : Option Addr) (c g : Nat) (w : World) (h : SQ w g) (hp : PartsFar w g a r.d) :
    Calls Try.prog 19 #[.pointer (some ⟨g, 0, none⟩), .agg #[.int .i64 r.who, .int .i64 r.seq, .slice a r.d.length c]] w fun e w' => (∃ n q : Int, e = .returned (.tuple #[.int .i64 n, .int .i64 q])) ∧ SQ w' g ∧ Aside g w w' := by
  obtain ⟨S, h1, h2, h3⟩ := h
  obtain ⟨q1, _, _, _, _, q2, _⟩ := addT_same S r
  exact (GAdd S r a c g w h1 hp).mono fun e w' ⟨e1, e2, e3⟩ => ⟨⟨_, _, e1⟩, ⟨_, e2, q1.trans h2, q2.trans h3⟩, e3⟩
theorem AAdd (r : Rv) (a : Option Addr) (c g : Nat) (w : World) (h : SA w g) (hp : PartsFar w g a r.d) :
    Calls Try.prog 19 #[.pointer (some ⟨g, 0, none⟩), .agg #[.int .i64 r.who, .int .i64 r.seq, .slice a r.d.length c]] w fun e w' => (∃ n q : Int, e = .returned (.tuple #[.int .i64 n, .int .i64 q])) ∧ SA w' g ∧ Aside g w w' := by
  obtain ⟨S, h1⟩ := h
  exact (GAdd S r a c g w h1 hp).mono fun e w' ⟨e1, e2, e3⟩ => ⟨⟨_, _, e1⟩, ⟨_, e2⟩, e3⟩
theorem QSync (g : Nat) (w : World) (h : SQ w g) :
    Calls Try.prog 24 #[.pointer (some ⟨g, 0, none⟩)] w fun e w' => e = .returned (.tuple #[]) ∧ SQ w' g ∧ Aside g w w' := by
  obtain ⟨S, h1, h2, h3⟩ := h
  exact (GSync S g w h1).mono fun e w' ⟨e1, e2, e3⟩ => ⟨e1, ⟨_, e2, h2, h3⟩, e3⟩
theorem AStep (g : Nat) (w : World) (h : SA w g) :
    Calls Try.prog 16 #[.pointer (some ⟨g, 0, none⟩)] w fun e w' => (∃ b, e = .returned (.bool b)) ∧ SA w' g ∧ Aside g w w' := by
  obtain ⟨S, h1⟩ := h
  exact (GStep S g w h1).mono fun e w' ⟨e1, e2, e3⟩ => ⟨⟨_, e1⟩, ⟨_, e2⟩, e3⟩
set_option maxRecDepth 20000 in
set_option maxHeartbeats 8000000 in
theorem ShopSafe_any (a : Option Addr) (l : List Rv) (cap : Nat) (sync floor steps : Int) (am : Option Addr) (m : List Rv) (capm : Nat) (p q : Int) (w : World) (hl : RevsAt w w.heap.size a l) (hc : l.length ≤ cap) (hm : RevsAt w w.heap.size am m) (hcm : m.length ≤ capm) :
    Calls Try.prog 5 #[.slice a l.length cap, .int .i64 sync, .int .i64 floor, .int .i64 steps, .slice am m.length capm, .int .i64 p, .int .i64 q] w fun e w' => e = .returned (.bool true) ∧ Below w.heap.size w w' := by
  have HL : Hid (RevsAt w w.heap.size a l) := hl
  have HM : Hid (RevsAt w w.heap.size am m) := hm
  have hll : l.length ≤ 9223372036854775807 := hl.1
  have hml : m.length ≤ 9223372036854775807 := hm.1
  obtain ⟨B, hB⟩ : ∃ B, w.heap.size = B := ⟨_, rfl⟩
  have HWB : Hid (w.heap.size = B) := hB
  rw [hB] at HL HM
  have HF1 : Hid _ := fun w => first_any ⟨#[97]⟩ w (by decide)
  have HO1 : Hid _ := fun w ad hp => fill_one w ad hp
  obtain ⟨o1, o2, o3, o4, o5⟩ := one_facts
  obtain ⟨oc, oc2⟩ := one_cut
  have HS1 : Hid (∀ w g, SG w g (fillS [oneRv]) → Calls Try.prog 21 #[.pointer (some ⟨g, 0, none⟩)] w fun e w' => e = .returned (.int .i64 0) ∧ Below w.heap.size w w') := by
    intro w g h
    have h2 := GSafe (fillS [oneRv]) g w h
    rw [o2] at h2
    exact h2
  have HC1 : Hid (∀ w g, SG w g (fillS [oneRv]) → Calls Try.prog 22 #[.pointer (some ⟨g, 0, none⟩), .int .i64 0, .int .i64 0] w fun e w' => ∃ g', e = .returned (.pointer (some ⟨g', 0, none⟩)) ∧ SG w' g' newS ∧ Below w.heap.size w w') := by
    intro w g h
    refine (opened_any (fillS [oneRv]) 0 0 g w h).mono ?_
    rintro e w' ⟨g', X, h1, h2, h3, h4, h5, h6⟩
    have h7 := (h5 (Int.le_refl _) (Int.le_refl _)).trans oc
    rw [h7] at h3
    exact ⟨g', h1, h3, h6⟩
  have HH0 : Hid (∀ w g, SG w g newS → Calls Try.prog 14 #[.pointer (some ⟨g, 0, none⟩)] w fun e w' => e = .returned (.int .i64 0) ∧ Below w.heap.size w w') := by
    intro w g h
    have h2 := GHead newS g w h
    rw [oc2] at h2
    exact h2
  have HN : Hid (∀ w, Calls Try.prog 23 #[] w fun e w' => ∃ g, e = .returned (.pointer (some ⟨g, 0, none⟩)) ∧ w.heap.size ≤ g ∧ SQ w' g ∧ Below w.heap.size w w') := fun w =>
    (GNew w).mono fun e w' ⟨g, h1, h2, h3, h4⟩ => ⟨g, h1, h2, ⟨newS, h3, by rw [newS_is], by rw [newS_is]; rfl⟩, h4⟩
  clear oc oc2 o1 o2 o3 o4 o5 hl hm hB
  generalize fillS [oneRv] = F1 at *
  generalize newS = N0 at *
  have HW : Hid _ := fun k m w h1 h2 => Within3_any k m w h1 h2
  have HW12 : Hid (∀ (k : Int) (w : World), Calls Try.prog 17 #[.int .i64 k, .int .i64 12] w fun e w' => ∃ r : Nat, e = .returned (.int .i64 r) ∧ r < 12 ∧ w' = w) := fun k w => Within3_any k 12 w (by omega) (by omega)
  go_enter Try.func5, Try.ntmps5
  go_wp2_with fail
  with_reducible refine (HF1.out _).mono ?_
  rintro e w1 ⟨ad, rfl, hp1, hb1⟩
  have HB1 : Hid (Below B w w1) := by rw [← HWB.out]; exact hb1
  have HP1 : Hid _ := hp1
  clear hp1 hb1
  have HOne : Hid (Calls Try.prog 12 #[.slice (some ⟨w1.heap.size, 0, none⟩) 1 1] (w1.alloc (.cells #[.int .i64 1, .int .i64 1, .slice (some ad) 1 1] 40)) fun e w' => ∃ g, e = .returned (.pointer (some ⟨g, 0, none⟩)) ∧ SG w' g F1 ∧ Below w1.heap.size w1 w') := HO1.out w1 ad HP1.out
  go_wp2_with fail
  with_reducible refine Calls.mono HOne.out ?_
  rintro e w2 ⟨g1, rfl, hs2, hb2⟩
  have HB2 : Hid (Below B w w2) := HB1.out.trans (hb2.mono (by have := HB1.out.size; have := HWB.out; omega))
  have HS2 : Hid (SG w2 g1 F1) := hs2
  clear hs2 hb2 HOne
  go_wp2_with fail
  with_reducible refine (HS1.out _ _ HS2.out).mono ?_
  rintro e w3 ⟨rfl, hb3⟩
  have HB3 : Hid (Below B w w3) := HB2.out.trans (hb3.mono (by have := HB2.out.size; have := HWB.out; omega))
  have HS3 : Hid (SG w3 g1 F1) := HS2.out.below hb3
  clear hb3
  go_wp2_with fail
  with_reducible refine (HC1.out _ _ HS3.out).mono ?_
  rintro e w4 ⟨g2, rfl, hs4, hb4⟩
  have HB4 : Hid (Below B w w4) := HB3.out.trans (hb4.mono (by have := HB3.out.size; have := HWB.out; omega))
  have HS4 : Hid (SG w4 g2 N0) := hs4
  clear hs4 hb4
  go_wp2_with fail
  with_reducible refine (HH0.out _ _ HS4.out).mono ?_
  rintro e w5 ⟨rfl, hb5⟩
  have HB5 : Hid (Below B w w5) := HB4.out.trans (hb5.mono (by have := HB4.out.size; have := HWB.out; omega))
  clear hb5
  go_wp2_with fail
  with_reducible refine (HN.out _).mono ?_
  rintro e w6 ⟨g, rfl, hg, hs6, hb6⟩
  have HB6 : Hid (Below B w w6 ∧ B ≤ g) := ⟨HB5.out.trans (hb6.mono (by have := HB5.out.size; have := HWB.out; omega)), by have := HB5.out.size; have := HWB.out; omega⟩
  have HS6 : Hid (SQ w6 g) := hs6
  clear hs6 hb6 hg
  go_wp2_with fail
  clear HP1 HO1 HF1 HS1 HC1 HH0 HS2 HS3 HS4
  go_loopw [49] (fun i wr => ∃ k : Nat, k ≤ l.length ∧ i = .int .i64 (k : Int) ∧ SQ wr g ∧ Below B w wr) (fun i _ => l.length - (intOf i).toNat)
  case atStart => exact ⟨0, Nat.zero_le _, rfl, HS6.out, HB6.out.1⟩
  case round =>
    rename World => wr
    obtain ⟨k, hk, rfl, hs, hb⟩ := hrel
    have HS : Hid (SQ wr g) := hs
    have HB : Hid (Below B w wr) := hb
    clear hs hb
    by_cases hlt : k < l.length
    · obtain ⟨r, hr⟩ : ∃ r, l[k]? = some r := ⟨_, List.getElem?_eq_getElem hlt⟩
      obtain ⟨b, off, ai, ci, rfl, hbl, hrv⟩ := (HL.out.below HB.out (Nat.le_refl _)).mem hr
      have HFar : Hid (PartsFar wr g ai r.d) := revs_far hrv HB6.out.2
      have hgw : g < wr.heap.size := HS.out.lt
      have hbw : b < wr.heap.size := by have := HB6.out.2; omega
      obtain ⟨d0, d1, d2, _⟩ := hrv
      have hki : (k : Int) < (l.length : Int) := by omega
      have hb2 : Below wr.heap.size wr (wr.alloc (.cells #[.int .i64 r.who, .int .i64 r.seq, .slice ai r.d.length ci] 40)) := (Below.refl _ wr).alloc (Nat.le_refl _) _
      have HS2 : Hid (SQ (wr.alloc (.cells #[.int .i64 r.who, .int .i64 r.seq, .slice ai r.d.length ci] 40)) g) := HS.out.below hb2
      have HF2 : Hid (PartsFar (wr.alloc (.cells #[.int .i64 r.who, .int .i64 r.seq, .slice ai r.d.length ci] 40)) g ai r.d) := HFar.out.on (below_aside hb2 g)
      have HB2 : Hid (Below B w (wr.alloc (.cells #[.int .i64 r.who, .int .i64 r.seq, .slice ai r.d.length ci] 40))) := HB.out.trans (hb2.mono (by have := HB6.out.2; omega))
      have HA : Hid _ := fun w h hp => QAdd r ai ci g w h hp
      clear hr hb2
      go_wp2_with fail
      with_reducible refine (HA.out _ HS2.out HF2.out).mono ?_
      rintro e w3 ⟨⟨n0, q0, rfl⟩, hs3, ha3⟩
      have HS3 : Hid (SQ w3 g) := hs3
      have HB3 : Hid (Below B w w3) := HB2.out.trans (ha3.below HB6.out.2 (by have := HS2.out.lt; have := HB6.out.2; omega))
      clear hs3 ha3 d0 d1 d2 hbl
      go_wp2_with fail
      with_reducible refine (HW.out _ l.length _ (by omega) hll).mono ?_
      rintro e w4 ⟨k2, rfl, hk2, rfl⟩
      by_cases hkk : k = k2
      · subst hkk
        have HSy : Hid _ := fun w h => QSync g w h
        go_wp2_with fail
        with_reducible refine (HSy.out _ HS3.out).mono ?_
        rintro e w5 ⟨rfl, hs5, ha5⟩
        have HS5 : Hid (SQ w5 g) := hs5
        have HB5 : Hid (Below B w w5) := HB3.out.trans (ha5.below HB6.out.2 (by have := HS3.out.lt; have := HB6.out.2; omega))
        clear hs5 ha5
        go_wp2_with fail
        go_roundw
        case rel => exact ⟨k + 1, hlt, by go_num, HS5.out, HB5.out⟩
        case measure => simp [intOf]; omega
      · have hkk2 : ((k : Int) == (k2 : Int)) = false := by simp; omega
        go_wp2_with fail
        go_roundw
        case rel => exact ⟨k + 1, hlt, by go_num, HS3.out, HB3.out⟩
        case measure => simp [intOf]; omega
    · have hki : ¬ (k : Int) < (l.length : Int) := by omega
      clear hlt hk
      obtain ⟨S, hS, hst, hgen⟩ := HS.out
      obtain ⟨N, hN⟩ : ∃ N, headN S = N := ⟨_, rfl⟩
      obtain ⟨Bs, hBs⟩ : ∃ Bs, S.log.base = Bs := ⟨_, rfl⟩
      have hbd := hS.2.bounds
      have HBa : Hid _ := fun w h => GBase S g w h
      have HHd : Hid _ := fun w h => GHead S g w h
      have HK : Hid (∀ k : Int, (Bs : Int) ≤ k → k ≤ (N : Int) → ∀ w, SG w g S → Calls Try.prog 15 #[.pointer (some ⟨g, 0, none⟩), .int .i64 k] w fun e w' => e = .returned (.int .i64 0) ∧ SA w' g ∧ Aside g w w') := by
        intro k h1 h2 w h
        obtain ⟨k', rfl⟩ : ∃ k' : Nat, k = (k' : Int) := ⟨k.toNat, by omega⟩
        obtain ⟨k1, k2⟩ := keep_ok hst (by rw [hgen]; decide) (k := k') (by omega) (by omega)
        have h3 := GKeep S k' g w h
        rw [k1] at h3
        exact h3.mono fun e w' ⟨h1, h2, h3⟩ => ⟨h1, ⟨_, h2⟩, h3⟩
      rw [hBs] at HBa
      rw [hN] at HHd
      have hN2 : N ≤ 2147483647 := by rw [← hN]; exact hbd.2.1
      have hBN : Bs ≤ N := by rw [← hN, ← hBs]; exact hbd.2.2.2
      have HS7 : Hid (SG wr g S) := hS
      clear hS hst hgen hN hBs hbd HS
      go_wp2_with fail
      with_reducible refine (HBa.out _ HS7.out).mono ?_
      rintro e w8 ⟨rfl, hb8⟩
      have HS8 : Hid (SG w8 g S) := HS7.out.below hb8
      have HB8 : Hid (Below B w w8) := HB.out.trans (hb8.mono (by have := HB.out.size; have := HWB.out; omega))
      clear hb8
      go_wp2_with fail
      with_reducible refine (HHd.out _ HS8.out).mono ?_
      rintro e w9 ⟨rfl, hb9⟩
      have HS9 : Hid (SG w9 g S) := HS8.out.below hb9
      have HB9 : Hid (Below B w w9) := HB8.out.trans (hb9.mono (by have := HB8.out.size; have := HWB.out; omega))
      clear hb9
      go_wp2_with fail
      with_reducible refine (HBa.out _ HS9.out).mono ?_
      rintro e w10 ⟨rfl, hb10⟩
      have HS10 : Hid (SG w10 g S) := HS9.out.below hb10
      have HB10 : Hid (Below B w w10) := HB9.out.trans (hb10.mono (by have := HB9.out.size; have := HWB.out; omega))
      clear hb10
      go_wp2_with fail
      rw [show (N : Int) - (Bs : Int) + 1 = ((N - Bs + 1 : Nat) : Int) by omega]
      with_reducible refine (HW.out _ _ _ (by omega) (by omega)).mono ?_
      rintro e w11 ⟨kf, rfl, hkf, rfl⟩
      have hkf2 : Bs + kf ≤ N := by omega
      clear hkf
      go_wp2_with fail
      with_reducible refine (HK.out _ (by omega) (by omega) _ HS10.out).mono ?_
      rintro e w12 ⟨rfl, hs12, ha12⟩
      have HS12 : Hid (SA w12 g) := hs12
      have HB12 : Hid (Below B w w12) := HB10.out.trans (ha12.below HB6.out.2 (by have := HS10.out.lt; have := HB6.out.2; omega))
      clear hs12 ha12
      go_wp2_with fail
      with_reducible refine (HW12.out _ _).mono ?_
      rintro e w13 ⟨n, rfl, hn, rfl⟩
      go_wp2_with fail
      clear HK HBa HHd HS7 HS8 HS9 HS10 HB8 HB9 HB10 hkf2 hN2 hBN
      clear HL hll
      go_loopw [82] (fun i wr => ∃ k : Nat, k ≤ n ∧ i = .int .i64 (k : Int) ∧ SA wr g ∧ Below B w wr) (fun i _ => n - (intOf i).toNat)
      case atStart => exact ⟨0, Nat.zero_le _, rfl, HS12.out, HB12.out⟩
      case round =>
        rename World => wr
        obtain ⟨k, hk, rfl, hs, hb⟩ := hrel
        have HS : Hid (SA wr g) := hs
        have HB : Hid (Below B w wr) := hb
        clear hs hb
        by_cases hlt : k < n
        · have hki : (k : Int) < (n : Int) := by omega
          have HSt : Hid _ := fun w h => AStep g w h
          go_wp2_with fail
          with_reducible refine (HSt.out _ HS.out).mono ?_
          rintro e w9 ⟨⟨b9, rfl⟩, hs9, ha9⟩
          have HS9 : Hid (SA w9 g) := hs9
          have HB9 : Hid (Below B w w9) := HB.out.trans (ha9.below HB6.out.2 (by have := HS.out.lt; have := HB6.out.2; omega))
          clear hs9 ha9
          by_cases hmm : k < m.length
          · obtain ⟨r, hr⟩ : ∃ r, m[k]? = some r := ⟨_, List.getElem?_eq_getElem hmm⟩
            obtain ⟨b, off, ai, ci, rfl, hbl, hrv⟩ := (HM.out.below HB9.out (Nat.le_refl _)).mem hr
            have HFar : Hid (PartsFar w9 g ai r.d) := revs_far hrv HB6.out.2
            obtain ⟨d0, d1, d2, _⟩ := hrv
            have hmi : (k : Int) < (m.length : Int) := by omega
            have HA : Hid _ := fun w h hp => AAdd r ai ci g w h hp
            clear hr
            go_wp2_with fail
            with_reducible refine (HA.out _ HS9.out HFar.out).mono ?_
            rintro e w3 ⟨⟨n0, q0, rfl⟩, hs3, ha3⟩
            have HS3 : Hid (SA w3 g) := hs3
            have HB3 : Hid (Below B w w3) := HB9.out.trans (ha3.below HB6.out.2 (by have := HS9.out.lt; have := HB6.out.2; omega))
            clear hs3 ha3 d0 d1 d2 hbl
            go_wp2_with fail
            go_roundw
            case rel => exact ⟨k + 1, hlt, by go_num, HS3.out, HB3.out⟩
            case measure => simp [intOf]; omega
          · have hmi : ¬ (k : Int) < (m.length : Int) := by omega
            go_wp2_with fail
            go_roundw
            case rel => exact ⟨k + 1, hlt, by go_num, HS9.out, HB9.out⟩
            case measure => simp [intOf]; omega
        · have hki : ¬ (k : Int) < (n : Int) := by omega
          clear hlt hk
          obtain ⟨S, hS⟩ := HS.out
          have HS7 : Hid (SG wr g S) := hS
          have HCr : Hid _ := fun w h => opened_any S p q g w h
          clear hS HS
          go_wp2_with fail
          with_reducible refine (HCr.out _ HS7.out).mono ?_
          rintro e w14 ⟨gx, X, rfl, hgx, hsx, hcr, _, hb14⟩
          have HS14 : Hid (SG w14 g S) := HS7.out.below hb14
          have HX14 : Hid (SG w14 gx X) := hsx
          have HB14 : Hid (Below B w w14) := HB.out.trans (hb14.mono (by have := HB.out.size; have := HWB.out; omega))
          have hbd := HS14.out.2.bounds
          have hbx := HX14.out.2.bounds
          have hsafe := hcr.safe
          have hhead := hcr.head
          have hall := hcr.all
          have HTx : Hid (∀ k : Nat, X.log.base ≤ k → S.log.base ≤ k → k ≤ headN X → ∃ T : ByteArray, (∀ w, SG w gx X → Calls Try.prog 18 #[.pointer (some ⟨gx, 0, none⟩), .int .i64 k] w fun e w' => e = .returned (.tuple #[.string T, .int .i64 0]) ∧ Below w.heap.size w w') ∧ (∀ w, SG w g S → Calls Try.prog 18 #[.pointer (some ⟨g, 0, none⟩), .int .i64 k] w fun e w' => e = .returned (.tuple #[.string T, .int .i64 0]) ∧ Below w.heap.size w w')) := by
            intro k k1 k2 k3
            refine ⟨⟨(shTextR X k).toArray⟩, fun w h => ?_, fun w h => ?_⟩
            · have h2 := GText X k gx w h
              have h3 : hasE X (k : Int) = 0 := by unfold hasE; rw [if_neg (by omega), if_neg (by omega)]
              rw [h3] at h2
              exact h2
            · have h2 := GText S k g w h
              have h3 : hasE S (k : Int) = 0 := by unfold hasE; rw [if_neg (by omega), if_neg (by omega)]
              rw [h3, ← hcr.text k k2 k1 k3] at h2
              exact h2
          have HXf : Hid (Fresh X) := hcr.fresh
          have HHx : Hid _ := fun w h => GHead X gx w h
          have HHs : Hid _ := fun w h => GHead S g w h
          have HSs : Hid _ := fun w h => GSafe S g w h
          have HSx : Hid _ := fun w h => GSafe X gx w h
          have HBx : Hid _ := fun w h => GBase X gx w h
          have HBs : Hid _ := fun w h => GBase S g w h
          rw [hall] at HSx
          have HCr2 : Hid _ := fun w h => opened_any X q p gx w h
          have HDx : Hid (∀ gx w, SG w gx X → Calls Try.prog 25 #[.pointer (some ⟨gx, 0, none⟩)] w fun e w' => e = .returned (.agg #[.string X.p0, .int .i64 X.x0, .string X.p1, .int .i64 X.x1]) ∧ Below w.heap.size w w') := fun gx w h => GDisk X gx w h
          have HHy : Hid _ := fun gx w h => GHead X gx w h
          have HBy : Hid _ := fun gx w h => GBase X gx w h
          obtain ⟨N, hN⟩ : ∃ N, headN S = N := ⟨_, rfl⟩
          obtain ⟨Nx, hNx⟩ : ∃ Nx, headN X = Nx := ⟨_, rfl⟩
          obtain ⟨bs, hbs⟩ : ∃ b, S.log.base = b := ⟨_, rfl⟩
          obtain ⟨bx, hbbx⟩ : ∃ b, X.log.base = b := ⟨_, rfl⟩
          obtain ⟨sf, hsf⟩ : ∃ s, S.safe = s := ⟨_, rfl⟩
          rw [hNx, hbbx, hbs] at HTx
          rw [hNx] at HHx HSx HHy hsafe hhead
          rw [hN] at HHs hhead
          rw [hsf] at HSs hsafe
          rw [hbbx] at HBx HBy
          rw [hbs] at HBs
          have hbx1 : bx ≤ Nx := by omega
          have hNx2 : Nx ≤ 2147483647 := by omega
          have hbs1 : bs ≤ 2147483647 := by omega
          have hc1 : ¬ (Nx : Int) < (sf : Int) := by omega
          have hc2 : ¬ (N : Int) < (Nx : Int) := by omega
          clear hgx hsx hcr hb14 hbd hbx hall hN hNx hbs hbbx hsf HCr HM HW HW12
          go_wp2_with fail
          with_reducible refine (HHx.out _ HX14.out).mono ?_
          rintro e w15 ⟨rfl, hb15⟩
          have HS15 : Hid (SG w15 g S) := HS14.out.below hb15
          have HX15 : Hid (SG w15 gx X) := HX14.out.below hb15
          have HB15 : Hid (Below B w w15) := HB14.out.trans (hb15.mono (by have := HB14.out.size; have := HWB.out; omega))
          clear hb15
          go_wp2_with fail
          with_reducible refine (HSs.out _ HS15.out).mono ?_
          rintro e w16 ⟨rfl, hb16⟩
          have HS16 : Hid (SG w16 g S) := HS15.out.below hb16
          have HX16 : Hid (SG w16 gx X) := HX15.out.below hb16
          have HB16 : Hid (Below B w w16) := HB15.out.trans (hb16.mono (by have := HB15.out.size; have := HWB.out; omega))
          clear hb16
          go_wp2_with fail
          with_reducible refine (HHx.out _ HX16.out).mono ?_
          rintro e w17 ⟨rfl, hb17⟩
          have HS17 : Hid (SG w17 g S) := HS16.out.below hb17
          have HX17 : Hid (SG w17 gx X) := HX16.out.below hb17
          have HB17 : Hid (Below B w w17) := HB16.out.trans (hb17.mono (by have := HB16.out.size; have := HWB.out; omega))
          clear hb17
          go_wp2_with fail
          with_reducible refine (HHs.out _ HS17.out).mono ?_
          rintro e w18 ⟨rfl, hb18⟩
          have HS18 : Hid (SG w18 g S) := HS17.out.below hb18
          have HX18 : Hid (SG w18 gx X) := HX17.out.below hb18
          have HB18 : Hid (Below B w w18) := HB17.out.trans (hb18.mono (by have := HB17.out.size; have := HWB.out; omega))
          clear hb18
          go_wp2_with fail
          with_reducible refine (HSx.out _ HX18.out).mono ?_
          rintro e w19 ⟨rfl, hb19⟩
          have HS19 : Hid (SG w19 g S) := HS18.out.below hb19
          have HX19 : Hid (SG w19 gx X) := HX18.out.below hb19
          have HB19 : Hid (Below B w w19) := HB18.out.trans (hb19.mono (by have := HB18.out.size; have := HWB.out; omega))
          clear hb19
          go_wp2_with fail
          with_reducible refine (HHx.out _ HX19.out).mono ?_
          rintro e w20 ⟨rfl, hb20⟩
          have HS20 : Hid (SG w20 g S) := HS19.out.below hb20
          have HX20 : Hid (SG w20 gx X) := HX19.out.below hb20
          have HB20 : Hid (Below B w w20) := HB19.out.trans (hb20.mono (by have := HB19.out.size; have := HWB.out; omega))
          clear hb20
          go_wp2_with fail
          with_reducible refine (HBx.out _ HX20.out).mono ?_
          rintro e w21 ⟨rfl, hb21⟩
          have HS21 : Hid (SG w21 g S) := HS20.out.below hb21
          have HX21 : Hid (SG w21 gx X) := HX20.out.below hb21
          have HB21 : Hid (Below B w w21) := HB20.out.trans (hb21.mono (by have := HB20.out.size; have := HWB.out; omega))
          clear hb21
          go_wp2_with fail
          with_reducible refine (HBs.out _ HS21.out).mono ?_
          rintro e w22 ⟨rfl, hb22⟩
          have HS22 : Hid (SG w22 g S) := HS21.out.below hb22
          have HX22 : Hid (SG w22 gx X) := HX21.out.below hb22
          have HB22 : Hid (Below B w w22) := HB21.out.trans (hb22.mono (by have := HB21.out.size; have := HWB.out; omega))
          clear hb22
          obtain ⟨mx, hmx⟩ : ∃ mx : Nat, max bx bs = mx := ⟨_, rfl⟩
          have hmr := max_run (bx : Int) (bs : Int) (mx : Int) (by omega)
          have hm1 : bx ≤ mx ∧ bs ≤ mx ∧ mx ≤ 2147483647 := by omega
          clear hmx HS14 HS15 HS16 HS17 HS18 HS19 HS20 HS21 HX14 HX15 HX16 HX17 HX18 HX19 HX20 HX21 HB14 HB15 HB16 HB17 HB18 HB19 HB20 HB21
          go_wp2_with fail
          clear HHs HSs HSx HBx HBs hc1 hc2 hsafe hhead
          go_loopw [21] (fun i wr => ∃ k : Nat, mx ≤ k ∧ (k ≤ Nx + 1 ∨ k = mx) ∧ i = .int .i64 (k : Int) ∧ SG wr g S ∧ SG wr gx X ∧ Below B w wr) (fun i _ => Nx + 1 - (intOf i).toNat)
          case atStart => exact ⟨mx, Nat.le_refl _, .inr rfl, rfl, HS22.out, HX22.out, HB22.out⟩
          case round =>
            rename World => wq
            obtain ⟨k, hk1, hk2, rfl, hs, hx, hb⟩ := hrel
            have HS23 : Hid (SG wq g S) := hs
            have HX23 : Hid (SG wq gx X) := hx
            have HB23 : Hid (Below B w wq) := hb
            have hk3 : k ≤ 2147483648 := by omega
            clear hs hx hb
            go_wp2_with fail
            with_reducible refine (HHx.out _ HX23.out).mono ?_
            rintro e w24 ⟨rfl, hb24⟩
            have HS24 : Hid (SG w24 g S) := HS23.out.below hb24
            have HX24 : Hid (SG w24 gx X) := HX23.out.below hb24
            have HB24 : Hid (Below B w w24) := HB23.out.trans (hb24.mono (by have := HB23.out.size; have := HWB.out; omega))
            clear hb24
            by_cases hle : k ≤ Nx
            · have hki : (k : Int) ≤ (Nx : Int) := by omega
              obtain ⟨T, hT1, hT2⟩ := HTx.out k (by omega) (by omega) hle
              have HT1 : Hid _ := hT1
              have HT2 : Hid _ := hT2
              clear hT1 hT2
              go_wp2_with fail
              with_reducible refine (HT1.out _ HX24.out).mono ?_
              rintro e w25 ⟨rfl, hb25⟩
              have HS25 : Hid (SG w25 g S) := HS24.out.below hb25
              have HX25 : Hid (SG w25 gx X) := HX24.out.below hb25
              have HB25 : Hid (Below B w w25) := HB24.out.trans (hb25.mono (by have := HB24.out.size; have := HWB.out; omega))
              clear hb25
              go_wp2_with fail
              with_reducible refine (HT2.out _ HS25.out).mono ?_
              rintro e w26 ⟨rfl, hb26⟩
              have HS26 : Hid (SG w26 g S) := HS25.out.below hb26
              have HX26 : Hid (SG w26 gx X) := HX25.out.below hb26
              have HB26 : Hid (Below B w w26) := HB25.out.trans (hb26.mono (by have := HB25.out.size; have := HWB.out; omega))
              clear hb26
              go_wp2_with fail
              go_roundw
              case rel => exact ⟨k + 1, by omega, .inl (by omega), by go_num, HS26.out, HX26.out, HB26.out⟩
              case measure => simp [intOf]; omega
            · have hki : ¬ (k : Int) ≤ (Nx : Int) := by omega
              have heq := disk_eql X.p0 X.p1 X.x0 X.x1
              go_wp2_with fail
              with_reducible refine (HCr2.out _ HX24.out).mono ?_
              rintro e w25 ⟨gy, Y, rfl, hgy, hsy, hcy, _, hb25⟩
              obtain rfl : Y = X := hcy.again HXf.out
              have HX25 : Hid (SG w25 gx Y) := HX24.out.below hb25
              have HY25 : Hid (SG w25 gy Y) := hsy
              have HB25 : Hid (Below B w w25) := HB24.out.trans (hb25.mono (by have := HB24.out.size; have := HWB.out; omega))
              clear hgy hsy hcy hb25 HTx HXf HCr2
              go_wp2_with fail
              with_reducible refine (HDx.out _ _ HY25.out).mono ?_
              rintro e w26 ⟨rfl, hb26⟩
              have HX26 : Hid (SG w26 gx Y) := HX25.out.below hb26
              have HY26 : Hid (SG w26 gy Y) := HY25.out.below hb26
              have HB26 : Hid (Below B w w26) := HB25.out.trans (hb26.mono (by have := HB25.out.size; have := HWB.out; omega))
              clear hb26
              go_wp2_with fail
              with_reducible refine (HDx.out _ _ HX26.out).mono ?_
              rintro e w27 ⟨rfl, hb27⟩
              have HX27 : Hid (SG w27 gx Y) := HX26.out.below hb27
              have HY27 : Hid (SG w27 gy Y) := HY26.out.below hb27
              have HB27 : Hid (Below B w w27) := HB26.out.trans (hb27.mono (by have := HB26.out.size; have := HWB.out; omega))
              clear hb27
              go_wp2_with fail
              with_reducible refine (HHy.out _ _ HY27.out).mono ?_
              rintro e w28 ⟨rfl, hb28⟩
              have HX28 : Hid (SG w28 gx Y) := HX27.out.below hb28
              have HY28 : Hid (SG w28 gy Y) := HY27.out.below hb28
              have HB28 : Hid (Below B w w28) := HB27.out.trans (hb28.mono (by have := HB27.out.size; have := HWB.out; omega))
              clear hb28
              go_wp2_with fail
              with_reducible refine (HHy.out _ _ HX28.out).mono ?_
              rintro e w29 ⟨rfl, hb29⟩
              have HX29 : Hid (SG w29 gx Y) := HX28.out.below hb29
              have HY29 : Hid (SG w29 gy Y) := HY28.out.below hb29
              have HB29 : Hid (Below B w w29) := HB28.out.trans (hb29.mono (by have := HB28.out.size; have := HWB.out; omega))
              clear hb29
              go_wp2_with fail
              with_reducible refine (HBy.out _ _ HY29.out).mono ?_
              rintro e w30 ⟨rfl, hb30⟩
              have HX30 : Hid (SG w30 gx Y) := HX29.out.below hb30
              have HY30 : Hid (SG w30 gy Y) := HY29.out.below hb30
              have HB30 : Hid (Below B w w30) := HB29.out.trans (hb30.mono (by have := HB29.out.size; have := HWB.out; omega))
              clear hb30
              go_wp2_with fail
              with_reducible refine (HBy.out _ _ HX30.out).mono ?_
              rintro e w31 ⟨rfl, hb31⟩
              have HX31 : Hid (SG w31 gx Y) := HX30.out.below hb31
              have HY31 : Hid (SG w31 gy Y) := HY30.out.below hb31
              have HB31 : Hid (Below B w w31) := HB30.out.trans (hb31.mono (by have := HB30.out.size; have := HWB.out; omega))
              clear hb31
              go_wp2_with fail
              go_ret
              exact ⟨rfl, by rw [HWB.out]; exact HB31.out⟩
end Go.Proofs.Ytpgdgdpncodadaa
