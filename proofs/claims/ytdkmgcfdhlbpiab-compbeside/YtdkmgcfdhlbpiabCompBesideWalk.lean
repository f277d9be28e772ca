/- The law CompBeside, walked: it answers true. -/
import Derived.Test.YtdkmgcfdhlbpiabLawKit
namespace Go.Proofs.Ytdkmgcfdhlbpiab
open Go.RowKit
set_option linter.unusedSimpArgs false
set_option linter.unusedVariables false

theorem compR_len (a b : List Pt) : (compR a b).length ≤ 1600 := by
  unfold compR
  split
  · rename_i h
    obtain ⟨r, hr, e, f1, f2, f3, f4, f5⟩ := comp_facts h
    exact (sizes_scan f1).1
  · simp
theorem CompLitB (x y : Addr) (w : World) (hx : PartsAt w w.heap.size (some x) [putP ⟨#[97]⟩]) (hy : PartsAt w w.heap.size (some y) [cutP 1]) :
    Calls Try.prog 6 #[.slice (some x) 1 1, .slice (some y) 1 1] w fun e w' => ∃ a' c', e = .returned (.tuple #[.slice a' 0 c', .int .i64 0]) ∧ Below w.heap.size w w' :=
  (show Calls Try.prog 6 #[.slice (some x) 1 1, .slice (some y) 1 1] w _ from comp_lit litB.1 litB.2 (some x) (some y) 1 1 w hx hy (by decide)).mono (fun e w' ⟨a', c', h1, h2, h3, h4⟩ => ⟨a', c', h1, h4⟩)
theorem CompLitC (x y : Addr) (w : World) (hx : PartsAt w w.heap.size (some x) [putP ⟨#[97]⟩]) (hy : PartsAt w w.heap.size (some y) [putP ⟨#[97]⟩]) :
    Calls Try.prog 6 #[.slice (some x) 1 1, .slice (some y) 1 1] w fun e w' => ∃ a' c', e = .returned (.tuple #[.slice a' 0 c', .int .i64 4]) ∧ Below w.heap.size w w' := by
  have h := CompOf_any (some x) (some y) [putP ⟨#[97]⟩] [putP ⟨#[97]⟩] 1 1 w hx hy (by decide)
  have e : compR [putP ⟨#[97]⟩] [putP ⟨#[97]⟩] = [] := by rw [compR, if_neg (by rw [litC]; decide)]
  rw [litC, e] at h
  exact (show Calls Try.prog 6 #[.slice (some x) 1 1, .slice (some y) 1 1] w _ from h).mono (fun e w' ⟨a', c', h1, h2, h3, h4⟩ => ⟨a', c', h1, h4⟩)

set_option maxHeartbeats 4000000 in
theorem CompBeside_any (a : Option Addr) (la : List Pt) (ca : Nat) (b : Option Addr) (lb : List Pt) (cb : Nat) (c : Option Addr) (lc : List Pt) (cc : Nat) (d : Option Addr) (ld : List Pt) (cd : Nat) (w : World)
    (ha : PartsAt w w.heap.size a la) (hb : PartsAt w w.heap.size b lb) (hc : PartsAt w w.heap.size c lc) (hd : PartsAt w w.heap.size d ld)
    (ha0 : a = none → ca = 0) (hb0 : b = none → cb = 0) (hc0 : c = none → cc = 0) (hd0 : d = none → cd = 0)
    (hla : la.length * 32 ≤ 140737488351232) (hlb : lb.length * 32 ≤ 140737488351232) (hlc : lc.length * 32 ≤ 140737488351232) (hld : ld.length * 32 ≤ 140737488351232)
    (hca : la.length ≤ ca) (hcb : lb.length ≤ cb) (hcc : lc.length ≤ cc) (hcd : ld.length ≤ cd) :
    Calls Try.prog 3 #[.slice a la.length ca, .slice b lb.length cb, .slice c lc.length cc, .slice d ld.length cd] w fun e w' => e = .returned (.bool true) ∧ Below w.heap.size w w' := by
  have HA : Hid (PartsAt w w.heap.size a la) := ha
  have HB : Hid (PartsAt w w.heap.size b lb) := hb
  have HC : Hid (PartsAt w w.heap.size c lc) := hc
  have HD : Hid (PartsAt w w.heap.size d ld) := hd
  have HA0 : Hid (a = none → ca = 0) := ha0
  have HB0 : Hid (b = none → cb = 0) := hb0
  have HC0 : Hid (c = none → cc = 0) := hc0
  have HD0 : Hid (d = none → cd = 0) := hd0
  clear ha hb hc hd ha0 hb0 hc0 hd0
  go_enter Try.func3, Try.ntmps3
  go_wp2_with fail
  refine (put_any ⟨#[97]⟩ _ (by decide)).mono ?_
  rintro e w1 ⟨rfl, hp1, hb1⟩
  have HP1 : Hid (PartsAt (w1.alloc (.cells #[.int .i64 3, .int .i64 1, .string ⟨#[]⟩] 28)) (w1.alloc (.cells #[.int .i64 3, .int .i64 1, .string ⟨#[]⟩] 28)).heap.size (some ⟨w.heap.size, 0, none⟩) [putP ⟨#[97]⟩]) := hp1.here ((Below.refl _ _).alloc (Nat.le_refl _) _) (Nat.le_refl _)
  have HL1 : Hid (PartsAt (w1.alloc (.cells #[.int .i64 3, .int .i64 1, .string ⟨#[]⟩] 28)) (w1.alloc (.cells #[.int .i64 3, .int .i64 1, .string ⟨#[]⟩] 28)).heap.size (some ⟨w1.heap.size, 0, none⟩) [cutP 1]) := lit_at w1 _ (small_bound (by decide)) _ rfl
  have HE1 : Hid (Below w.heap.size w (w1.alloc (.cells #[.int .i64 3, .int .i64 1, .string ⟨#[]⟩] 28))) := hb1.alloc hb1.size _
  clear hp1 hb1
  go_wp2_with fail
  refine (CompLitB _ _ _ HP1.out HL1.out).mono ?_
  rintro e w2 ⟨a2, c2, rfl, hb2⟩
  have HE2 : Hid (Below w.heap.size w w2) := HE1.out.trans (hb2.mono HE1.out.size)
  clear hb2
  go_wp2_with fail
  refine (put_any ⟨#[97]⟩ _ (by decide)).mono ?_
  rintro e w3 ⟨rfl, hp3, hb3⟩
  have HE3 : Hid (Below w.heap.size w w3) := HE2.out.trans (hb3.mono HE2.out.size)
  have HP3 : Hid (PartsAt w3 w3.heap.size (some ⟨w2.heap.size, 0, none⟩) [putP ⟨#[97]⟩]) := hp3
  clear hp3 hb3
  go_wp2_with fail
  refine (put_any ⟨#[97]⟩ _ (by decide)).mono ?_
  rintro e w4 ⟨rfl, hp4, hb4⟩
  have HE4 : Hid (Below w.heap.size w w4) := HE3.out.trans (hb4.mono HE3.out.size)
  have HP4 : Hid (PartsAt w4 w4.heap.size (some ⟨w3.heap.size, 0, none⟩) [putP ⟨#[97]⟩]) := hp4
  have HQ4 : Hid (PartsAt w4 w4.heap.size (some ⟨w2.heap.size, 0, none⟩) [putP ⟨#[97]⟩]) := HP3.out.here hb4 (Nat.le_refl _)
  clear hp4 hb4
  go_wp2_with fail
  refine (CompLitC _ _ _ HQ4.out HP4.out).mono ?_
  rintro e w5 ⟨a5, c5, rfl, hb5⟩
  have HE5 : Hid (Below w.heap.size w w5) := HE4.out.trans (hb5.mono HE4.out.size)
  have HA5 : Hid (PartsAt w5 w5.heap.size a la) := HA.out.here HE5.out (Nat.le_refl _)
  have HB5 : Hid (PartsAt w5 w5.heap.size b lb) := HB.out.here HE5.out (Nat.le_refl _)
  clear hb5
  go_wp2_with fail
  refine (CompOf_any a b la lb ca cb _ HA5.out HB5.out hca).mono ?_
  rintro e w6 ⟨a6, c6, rfl, hp6, hc6, hb6⟩
  have HE6 : Hid (Below w.heap.size w w6) := HE5.out.trans (hb6.mono HE5.out.size)
  have HP6 : Hid (PartsAt w6 w6.heap.size a6 (compR la lb)) := hp6
  have HR6 : Hid (Room a6 (compR la lb) c6) := hc6
  have HC6 : Hid (PartsAt w6 w6.heap.size c lc) := HC.out.here HE6.out (Nat.le_refl _)
  have HD6 : Hid (PartsAt w6 w6.heap.size d ld) := HD.out.here HE6.out (Nat.le_refl _)
  clear hp6 hc6 hb6
  go_wp2_with fail
  refine (CompOf_any c d lc ld cc cd _ HC6.out HD6.out hcc).mono ?_
  rintro e w7 ⟨a7, c7, rfl, hp7, hc7, hb7⟩
  have HE7 : Hid (Below w.heap.size w w7) := HE6.out.trans (hb7.mono HE6.out.size)
  have HP7 : Hid (PartsAt w7 w7.heap.size a7 (compR lc ld)) := hp7
  have HR7 : Hid (Room a7 (compR lc ld) c7) := hc7
  have HQ7 : Hid (PartsAt w7 w7.heap.size a6 (compR la lb)) := HP6.out.here hb7 (Nat.le_refl _)
  have HA7 : Hid (PartsAt w7 w7.heap.size a la) := HA.out.here HE7.out (Nat.le_refl _)
  have HC7 : Hid (PartsAt w7 w7.heap.size c lc) := HC.out.here HE7.out (Nat.le_refl _)
  clear hp7 hc7 hb7
  go_wp2_with fail
  refine (besideC_any a c la lc ca cc _ HA7.out HC7.out HA0.out HC0.out hla hlc).mono ?_
  rintro e w8 ⟨a8, c8, rfl, hp8, hc8, hb8⟩
  have HE8 : Hid (Below w.heap.size w w8) := HE7.out.trans (hb8.mono HE7.out.size)
  have HP8 : Hid (PartsAt w8 w8.heap.size a8 (normL (la ++ lc))) := hp8
  have HR8 : Hid (Room a8 (normL (la ++ lc)) c8) := hc8
  have HQ8 : Hid (PartsAt w8 w8.heap.size a6 (compR la lb)) := HQ7.out.here hb8 (Nat.le_refl _)
  have HS8 : Hid (PartsAt w8 w8.heap.size a7 (compR lc ld)) := HP7.out.here hb8 (Nat.le_refl _)
  have HB8 : Hid (PartsAt w8 w8.heap.size b lb) := HB.out.here HE8.out (Nat.le_refl _)
  have HD8 : Hid (PartsAt w8 w8.heap.size d ld) := HD.out.here HE8.out (Nat.le_refl _)
  clear hp8 hc8 hb8
  go_wp2_with fail
  refine (besideC_any b d lb ld cb cd _ HB8.out HD8.out HB0.out HD0.out hlb hld).mono ?_
  rintro e w9 ⟨a9, c9, rfl, hp9, hc9, hb9⟩
  have HE9 : Hid (Below w.heap.size w w9) := HE8.out.trans (hb9.mono HE8.out.size)
  have HP9 : Hid (PartsAt w9 w9.heap.size a9 (normL (lb ++ ld))) := hp9
  have HT9 : Hid (PartsAt w9 w9.heap.size a8 (normL (la ++ lc))) := HP8.out.here hb9 (Nat.le_refl _)
  have HQ9 : Hid (PartsAt w9 w9.heap.size a6 (compR la lb)) := HQ8.out.here hb9 (Nat.le_refl _)
  have HS9 : Hid (PartsAt w9 w9.heap.size a7 (compR lc ld)) := HS8.out.here hb9 (Nat.le_refl _)
  have hk1 := compR_len la lb
  have hk2 := compR_len lc ld
  clear hp9 hc9 hb9
  go_wp2_with fail
  refine (besideC_any a6 a7 (compR la lb) (compR lc ld) c6 c7 _ HQ9.out HS9.out HR6.out.2 HR7.out.2 (by omega) (by omega)).mono ?_
  rintro e w10 ⟨a10, c10, rfl, hp10, hc10, hb10⟩
  have HE10 : Hid (Below w.heap.size w w10) := HE9.out.trans (hb10.mono HE9.out.size)
  have HP10 : Hid (PartsAt w10 w10.heap.size a10 (normL (compR la lb ++ compR lc ld))) := hp10
  have HT10 : Hid (PartsAt w10 w10.heap.size a8 (normL (la ++ lc))) := HT9.out.here hb10 (Nat.le_refl _)
  have HQ10 : Hid (PartsAt w10 w10.heap.size a9 (normL (lb ++ ld))) := HP9.out.here hb10 (Nat.le_refl _)
  clear hp10 hc10 hb10 hk1 hk2
  by_cases h1 : compE la lb = 0
  · by_cases h2 : compE lc ld = 0
    · by_cases h3 : normE (la ++ lc) = 0
      · by_cases h4 : normE (lb ++ ld) = 0
        · by_cases h5 : normE (compR la lb ++ compR lc ld) = 0
          · have r1 : (compE la lb != 0) = false := by simp [h1]
            have r2 : (compE lc ld != 0) = false := by simp [h2]
            have r3 : (normE (la ++ lc) != 0) = false := by simp [h3]
            have r4 : (normE (lb ++ ld) != 0) = false := by simp [h4]
            have r5 : (normE (compR la lb ++ compR lc ld) != 0) = false := by simp [h5]
            have hR1 : compR la lb = compL la lb := by rw [compR, if_pos h1]
            have hR2 : compR lc ld = compL lc ld := by rw [compR, if_pos h2]
            rw [hR1, hR2] at h5
            obtain ⟨k1, k2⟩ := comp_beside h1 h2 h3 h4 h5
            have hR3 : compR (normL (la ++ lc)) (normL (lb ++ ld)) = compL (normL (la ++ lc)) (normL (lb ++ ld)) := by rw [compR, if_pos k1]
            have HK : Hid (normL (compR la lb ++ compR lc ld) = compR (normL (la ++ lc)) (normL (lb ++ ld))) := by show _ = _; rw [hR1, hR2, hR3, k2]
            have r6 : (compE (normL (la ++ lc)) (normL (lb ++ ld)) == 0) = true := by simp [k1]
            clear h1 h2 h3 h4 h5 hR1 hR2 hR3 k1 k2
            go_wp2_with fail
            refine (CompOf_any a8 a9 (normL (la ++ lc)) (normL (lb ++ ld)) c8 c9 _ HT10.out HQ10.out HR8.out.1).mono ?_
            rintro e w11 ⟨a11, c11, rfl, hp11, hc11, hb11⟩
            have HE11 : Hid (Below w.heap.size w w11) := HE10.out.trans (hb11.mono HE10.out.size)
            have HP11 : Hid (PartsAt w11 w11.heap.size a11 (compR (normL (la ++ lc)) (normL (lb ++ ld)))) := hp11
            have HX11 : Hid (PartsAt w11 w11.heap.size a10 (normL (compR la lb ++ compR lc ld))) := HP10.out.here hb11 (Nat.le_refl _)
            clear hp11 hc11 hb11
            go_wp2_with fail
            refine (Same_any a10 a11 (normL (compR la lb ++ compR lc ld)) (compR (normL (la ++ lc)) (normL (lb ++ ld))) c10 c11 _ HX11.out HP11.out).mono ?_
            rintro e w12 ⟨r, rfl, hr, hb12⟩
            obtain rfl : r = true := hr.2 HK.out
            have HE12 : Hid (Below w.heap.size w w12) := HE11.out.trans (hb12.mono HE11.out.size)
            clear hr hb12
            go_wp2_with fail
            go_ret
            exact ⟨rfl, HE12.out⟩
          · have r1 : (compE la lb != 0) = false := by simp [h1]
            have r2 : (compE lc ld != 0) = false := by simp [h2]
            have r3 : (normE (la ++ lc) != 0) = false := by simp [h3]
            have r4 : (normE (lb ++ ld) != 0) = false := by simp [h4]
            have r5 : (normE (compR la lb ++ compR lc ld) != 0) = true := by simp [h5]
            clear h1 h2 h3 h4 h5
            go_wp2_with fail
            go_ret
            exact ⟨rfl, HE10.out⟩
        · have r1 : (compE la lb != 0) = false := by simp [h1]
          have r2 : (compE lc ld != 0) = false := by simp [h2]
          have r3 : (normE (la ++ lc) != 0) = false := by simp [h3]
          have r4 : (normE (lb ++ ld) != 0) = true := by simp [h4]
          clear h1 h2 h3 h4
          go_wp2_with fail
          go_ret
          exact ⟨rfl, HE10.out⟩
      · have r1 : (compE la lb != 0) = false := by simp [h1]
        have r2 : (compE lc ld != 0) = false := by simp [h2]
        have r3 : (normE (la ++ lc) != 0) = true := by simp [h3]
        clear h1 h2 h3
        go_wp2_with fail
        go_ret
        exact ⟨rfl, HE10.out⟩
    · have r1 : (compE la lb != 0) = false := by simp [h1]
      have r2 : (compE lc ld != 0) = true := by simp [h2]
      clear h1 h2
      go_wp2_with fail
      go_ret
      exact ⟨rfl, HE10.out⟩
  · have r1 : (compE la lb != 0) = true := by simp [h1]
    clear h1
    go_wp2_with fail
    go_ret
    exact ⟨rfl, HE10.out⟩

end Go.Proofs.Ytdkmgcfdhlbpiab
