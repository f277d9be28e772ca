/- What package meet's Of answers. -/
import Derived.Test.YtcghojnmnmmpoaaMeetLeftW
import Derived.Test.YtcghojnmnmmpoaaCaps
namespace Go.Proofs.Ytcghojnmnmmpoaa
open Go.RowKit
set_option linter.unusedSimpArgs false
set_option linter.unusedVariables false

def mlenE (a b : List Pt) : Int := if sizesE a = 0 then (if sizesE b = 0 then (if inI a = inI b then 0 else 4) else sizesE b) else sizesE a
def mlenI (a b : List Pt) : Int := if mlenE a b = 0 then inI a else 0
theorem mlen_zero {a b : List Pt} (h : mlenE a b = 0) : sizesE a = 0 ∧ sizesE b = 0 ∧ inI a = inI b := by
  unfold mlenE at h
  split at h
  · rename_i h1
    split at h
    · rename_i h2
      split at h
      · rename_i h3; exact ⟨h1, h2, h3⟩
      · omega
    · contradiction
  · contradiction
theorem mlen_not {a b : List Pt} (h : mlenE a b ≠ 0) : meetE a b = mlenE a b ∧ meetL a b = [] ∧ meetR a b = [] := by
  have e : meetE a b = mlenE a b := by
    unfold meetE mlenE at *
    split at h
    · rename_i h1
      rw [if_pos h1, if_pos h1]
      split at h
      · rename_i h2
        rw [if_pos h2, if_pos h2]
        split at h
        · omega
        · rename_i h3; rw [if_neg h3, if_neg h3]
      · rename_i h2; rw [if_neg h2, if_neg h2]
    · rename_i h1; rw [if_neg h1, if_neg h1]
  exact ⟨e, by rw [meetL, if_neg (by omega)], by rw [meetR, if_neg (by omega)]⟩

set_option maxHeartbeats 1000000 in
theorem mlength_any (a b : Option Addr) (la lb : List Pt) (ca cb : Nat) (w : World) (ha : PartsAt w w.heap.size a la) (hb : PartsAt w w.heap.size b lb) :
    Calls Try.prog 126 #[.slice a la.length ca, .slice b lb.length cb] w fun e w' => e = .returned (.tuple #[.int .i64 (mlenI la lb), .int .i64 (mlenE la lb)]) ∧ Below w.heap.size w w' := by
  have HA : Hid (PartsAt w w.heap.size a la) := ha
  have HB : Hid (PartsAt w w.heap.size b lb) := hb
  clear ha hb
  go_enter Try.func126, Try.ntmps126
  go_wp2_with fail
  refine (Sizes_any a la ca _ HA.out).mono ?_
  rintro e w1 ⟨rfl, hb1⟩
  have HE1 : Hid (Below w.heap.size w w1) := hb1
  have HB1 : Hid (PartsAt w1 w1.heap.size b lb) := HB.out.here hb1 (Nat.le_refl _)
  clear hb1
  by_cases h1 : sizesE la = 0
  · have r1 : (sizesE la != 0) = false := by simp [h1]
    have HI1 : Hid (sizesIn la = inI la) := (sizes_zero h1).2.1
    have HZ1 : Hid (sizesE la = 0) := h1
    clear h1
    go_wp2_with fail
    refine (Sizes_any b lb cb _ HB1.out).mono ?_
    rintro e w2 ⟨rfl, hb2⟩
    have HE2 : Hid (Below w.heap.size w w2) := HE1.out.trans (hb2.mono HE1.out.size)
    clear hb2
    by_cases h2 : sizesE lb = 0
    · have r2 : (sizesE lb != 0) = false := by simp [h2]
      have HI2 : Hid (sizesIn lb = inI lb) := (sizes_zero h2).2.1
      have HZ2 : Hid (sizesE lb = 0) := h2
      clear h2
      rw [HI1.out, HI2.out]
      by_cases h3 : inI la = inI lb
      · have r3 : (inI la != inI lb) = false := by simp [h3]
        have HR : Hid (mlenI la lb = inI la ∧ mlenE la lb = 0) := by
          have e : mlenE la lb = 0 := by rw [mlenE, if_pos HZ1.out, if_pos HZ2.out, if_pos h3]
          exact ⟨by rw [mlenI, if_pos e], e⟩
        clear h3
        go_wp2_with fail
        go_ret2
        rw [HR.out.1, HR.out.2]
        exact ⟨rfl, HE2.out⟩
      · have r3 : (inI la != inI lb) = true := by simp [h3]
        have HR : Hid (mlenI la lb = 0 ∧ mlenE la lb = 4) := by
          have e : mlenE la lb = 4 := by rw [mlenE, if_pos HZ1.out, if_pos HZ2.out, if_neg h3]
          exact ⟨by rw [mlenI, if_neg (by omega)], e⟩
        clear h3
        go_wp2_with fail
        go_ret2
        rw [HR.out.1, HR.out.2]
        exact ⟨rfl, HE2.out⟩
    · have r2 : (sizesE lb != 0) = true := by simp [h2]
      have HR : Hid (mlenI la lb = 0 ∧ mlenE la lb = sizesE lb) := by
        have e : mlenE la lb = sizesE lb := by rw [mlenE, if_pos HZ1.out, if_neg h2]
        exact ⟨by rw [mlenI, if_neg (by omega)], e⟩
      clear h2
      go_wp2_with fail
      go_ret2
      rw [HR.out.1, HR.out.2]
      exact ⟨rfl, HE2.out⟩
  · have r1 : (sizesE la != 0) = true := by simp [h1]
    have HR : Hid (mlenI la lb = 0 ∧ mlenE la lb = sizesE la) := by
      have e : mlenE la lb = sizesE la := by rw [mlenE, if_neg h1]
      exact ⟨by rw [mlenI, if_neg (by omega)], e⟩
    clear h1
    go_wp2_with fail
    go_ret2
    rw [HR.out.1, HR.out.2]
    exact ⟨rfl, HE1.out⟩

theorem small_boundL {l : List Pt} (h : Small l) (hk : ∀ p ∈ l, p.k = 1 ∨ p.k = 2 ∨ p.k = 3) : Bound l := by
  refine ⟨by have := h.1; omega, fun p hp => ?_⟩
  have h3 := h.2 p hp
  have h4 := hk p hp
  exact ⟨by omega, by omega, by omega, by omega, by omega⟩

set_option maxHeartbeats 2000000 in
theorem MeetOf_any (a b : Option Addr) (la lb : List Pt) (ca cb : Nat) (w : World) (ha : PartsAt w w.heap.size a la) (hb : PartsAt w w.heap.size b lb) :
    Calls Try.prog 99 #[.slice a la.length ca, .slice b lb.length cb] w fun e w' => ∃ x cx y cy, e = .returned (.tuple #[.slice x (meetL la lb).length cx, .slice y (meetR la lb).length cy, .int .i64 (meetE la lb)]) ∧
      PartsAt w' w'.heap.size x (meetL la lb) ∧ Room x (meetL la lb) cx ∧ PartsAt w' w'.heap.size y (meetR la lb) ∧ Room y (meetR la lb) cy ∧ Below w.heap.size w w' := by
  have HA : Hid (PartsAt w w.heap.size a la) := ha
  have HB : Hid (PartsAt w w.heap.size b lb) := hb
  clear ha hb
  go_enter Try.func99, Try.ntmps99
  go_wp2_with fail
  refine (mlength_any a b la lb ca cb _ HA.out HB.out).mono ?_
  rintro e w1 ⟨rfl, hb1⟩
  have HE1 : Hid (Below w.heap.size w w1) := hb1
  have HA1 : Hid (PartsAt w1 w1.heap.size a la) := HA.out.here hb1 (Nat.le_refl _)
  have HB1 : Hid (PartsAt w1 w1.heap.size b lb) := HB.out.here hb1 (Nat.le_refl _)
  clear hb1
  by_cases h0 : mlenE la lb = 0
  · have r0 : (mlenE la lb != 0) = false := by simp [h0]
    obtain ⟨za, zb, zi⟩ := mlen_zero h0
    obtain ⟨ga, cna, ia, oa, la1, ma⟩ := delta_facts za
    obtain ⟨gb, cnb, ib, ob, lb1, mb⟩ := delta_facts zb
    have k1 := ofAll_keptlen (l := la) (fun p hp => ⟨(ga p hp).2.1, (ga p hp).2.2.1⟩)
    have k2 := ofAll_keptlen (l := lb) (fun p hp => ⟨(gb p hp).2.1, (gb p hp).2.2.1⟩)
    obtain ⟨n, hn⟩ : ∃ n : Nat, (n : Int) = inI la := ⟨inW (wordL la), by omega⟩
    have pa := places_word ga.kinds
    have pb := places_word gb.kinds
    have sa := places_size (ofAll_len la)
    have sb := places_size (ofAll_len lb)
    rw [pa] at sa
    rw [pb] at sb
    have HRD : Hid _ := meet_road za zb zi pa pb (ofAll_len la) (ofAll_len lb) (by omega) (by omega)
    have HN : Hid ((n : Int) = inI la ∧ (n : Int) = inI lb) := ⟨hn, by omega⟩
    have HZ : Hid (sizesE la = 0 ∧ sizesE lb = 0) := ⟨za, zb⟩
    have HQ : Hid ((ofAll la).2.length = n ∧ (ofAll lb).2.length = n ∧ n ≤ 500 ∧ (∀ q ∈ (ofAll la).1, q.size ≤ 500) ∧ (∀ q ∈ (ofAll lb).1, q.size ≤ 500)) :=
      ⟨by omega, by omega, by omega, fun q hq => by have := sa q hq; omega, fun q hq => by have := sb q hq; omega⟩
    have HBL : Hid (Bound (leftL (ofAll la).1 (ofAll la).2 (ofAll lb).1 (ofAll lb).2) ∧ Bound (leftR (ofAll la).1 (ofAll la).2 (ofAll lb).1 (ofAll lb).2)) := by
      obtain ⟨⟨g1, g2⟩, ⟨g3, g4⟩, g5, g6⟩ := left_good HQ.out.2.2.2.1 HQ.out.2.2.2.2 (ofAll la).2 (ofAll lb).2
      exact ⟨small_boundL HRD.out.1.1 (fun p hp => (g1 p hp).1), small_boundL HRD.out.2.1 (fun p hp => (g3 p hp).1)⟩
    rw [show mlenI la lb = (n : Int) by rw [mlenI, if_pos h0, hn]]
    clear h0 za zb zi ga cna ia oa la1 ma gb cnb ib ob lb1 mb k1 k2 hn pa pb sa sb
    go_wp2_with fail
    refine (mplaces_any a la ca n _ HA1.out HZ.out.1 HN.out.1).mono ?_
    rintro e w2 ⟨va, rfl, hva, hb2⟩
    have HE2 : Hid (Below w.heap.size w w2) := HE1.out.trans (hb2.mono HE1.out.size)
    have HB2 : Hid (PartsAt w2 w2.heap.size b lb) := HB1.out.here hb2 (Nat.le_refl _)
    have HVA : Hid (w2.ownsRow w1.heap.size 214 2 va (n + 1) (plcCells (zipPl (ofAll la).1 (ofAll la).2))) := hva
    clear hva hb2
    go_wp2_with fail
    refine (mplaces_any b lb cb n _ HB2.out HZ.out.2 HN.out.2).mono ?_
    rintro e w3 ⟨vb, rfl, hvb, hb3⟩
    have HE3 : Hid (Below w.heap.size w w3) := HE2.out.trans (hb3.mono HE2.out.size)
    have HVA3 : Hid (w3.ownsRow w1.heap.size 214 2 va (n + 1) (plcCells (zipPl (ofAll la).1 (ofAll la).2))) := by
      have h := HVA.out
      rcases h.2 with ⟨h1, h2⟩ | ⟨g, cap', cur, h1, h2, h3, h4⟩
      · exact ⟨h.1, .inl ⟨h1, h2⟩⟩
      · exact ⟨h.1, .inr ⟨g, cap', cur, h1, h2, (hb3.block g (lt_of_heap h3)).trans h3, h4⟩⟩
    have HVB : Hid (w3.ownsRow w2.heap.size 214 2 vb (n + 1) (plcCells (zipPl (ofAll lb).1 (ofAll lb).2))) := hvb
    clear hvb hb3
    go_wp2_with fail
    refine (left_any w1.heap.size w2.heap.size va vb (ofAll la).1 (ofAll lb).1 (ofAll la).2 (ofAll lb).2 n _ HVA3.out HVB.out (ofAll_len la) (ofAll_len lb) HQ.out.1 HQ.out.2.1 HQ.out.2.2.1 HQ.out.2.2.2.1 HQ.out.2.2.2.2).mono ?_
    rintro e w4 ⟨lv, rv, rfl, hlr, hb4⟩
    have HE4 : Hid (Below w.heap.size w w4) := HE3.out.trans (hb4.mono HE3.out.size)
    obtain ⟨x4, c4, rfl, hp4⟩ := parts_own hlr.l HBL.out.1
    obtain ⟨y4, d4, rfl, hq4⟩ := parts_own hlr.r HBL.out.2
    obtain ⟨LL, HLL⟩ : ∃ LL, Hid (leftL (ofAll la).1 (ofAll la).2 (ofAll lb).1 (ofAll lb).2 = LL) := ⟨_, rfl⟩
    obtain ⟨RR, HRR⟩ : ∃ RR, Hid (leftR (ofAll la).1 (ofAll la).2 (ofAll lb).1 (ofAll lb).2 = RR) := ⟨_, rfl⟩
    rw [HLL.out] at hp4 HRD ⊢
    rw [HRR.out] at hq4 HRD ⊢
    have HP4 : Hid (PartsAt w4 w4.heap.size x4 LL) := hp4
    have HQ4 : Hid (PartsAt w4 w4.heap.size y4 RR) := hq4
    clear hlr hb4 hp4 hq4 HBL
    go_wp2_with fail
    refine (NormC_any x4 LL c4 _ HP4.out).mono ?_
    rintro e w5 ⟨x5, c5, rfl, hp5, hc5, hb5⟩
    have HE5 : Hid (Below w.heap.size w w5) := HE4.out.trans (hb5.mono HE4.out.size)
    have HQ5 : Hid (PartsAt w5 w5.heap.size y4 RR) := HQ4.out.here hb5 (Nat.le_refl _)
    obtain ⟨⟨s1, s2, s3, s4, s5⟩, t1, t2, t3, t4, t5⟩ := HRD.out
    rw [s5] at hp5 hc5
    rw [s4, s5]
    have HP5 : Hid (PartsAt w5 w5.heap.size x5 (meetL la lb)) := hp5
    have HC5 : Hid (Room x5 (meetL la lb) c5) := hc5
    clear hp5 hc5 hb5 s1 s2 s3 s4 s5 t1 t2 t3 t4 t5
    by_cases hm : meetE la lb = 0
    · have rm : (meetE la lb != 0) = false := by simp [hm]
      clear hm
      go_wp2_with fail
      refine (NormC_any y4 RR d4 _ HQ5.out).mono ?_
      rintro e w6 ⟨y6, d6, rfl, hq6, hc6, hb6⟩
      have HE6 : Hid (Below w.heap.size w w6) := HE5.out.trans (hb6.mono HE5.out.size)
      have HP6 : Hid (PartsAt w6 w6.heap.size x5 (meetL la lb)) := HP5.out.here hb6 (Nat.le_refl _)
      obtain ⟨⟨s1, s2, s3, s4, s5⟩, t1, t2, t3, t4, t5⟩ := HRD.out
      rw [t5] at hq6 hc6
      rw [t4, t5]
      have HQ6 : Hid (PartsAt w6 w6.heap.size y6 (meetR la lb)) := hq6
      have HC6 : Hid (Room y6 (meetR la lb) d6) := hc6
      clear hq6 hc6 hb6 s1 s2 s3 s4 s5 t1 t2 t3 t4 t5
      go_wp2_with fail
      go_ret3
      exact ⟨x5, c5, y6, d6, rfl, HP6.out, HC5.out, HQ6.out, HC6.out, HE6.out⟩
    · have rm : (meetE la lb != 0) = true := by simp [hm]
      have HR : Hid (meetL la lb = [] ∧ meetR la lb = []) := ⟨by rw [meetL, if_neg hm], by rw [meetR, if_neg hm]⟩
      clear hm
      go_wp2_with fail
      go_ret3
      rw [HR.out.1, HR.out.2]
      exact ⟨none, 0, none, 0, rfl, ⟨by simp, Nat.le_refl _, by simp, by simp⟩, room_nil, ⟨by simp, Nat.le_refl _, by simp, by simp⟩, room_nil, HE5.out⟩
  · have r0 : (mlenE la lb != 0) = true := by simp [h0]
    have HR : Hid (meetE la lb = mlenE la lb ∧ meetL la lb = [] ∧ meetR la lb = []) := mlen_not h0
    clear h0
    go_wp2_with fail
    go_ret3
    rw [HR.out.1, HR.out.2.1, HR.out.2.2]
    exact ⟨none, 0, none, 0, rfl, ⟨by simp, Nat.le_refl _, by simp, by simp⟩, room_nil, ⟨by simp, Nat.le_refl _, by simp, by simp⟩, room_nil, HE1.out⟩

end Go.Proofs.Ytcghojnmnmmpoaa
