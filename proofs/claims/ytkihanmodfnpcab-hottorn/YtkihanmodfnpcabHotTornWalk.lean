/- The law HotTorn, walked: it answers true. -/
import Derived.Test.YtkihanmodfnpcabHotLaw
import Derived.Test.YtkihanmodfnpcabNumWithin
import Derived.Deep.RegionHeld3
import Derived.Deep.DeepCutAuto
import Derived.BigQuiet
namespace Go.Proofs.Ytkihanmodfnpcab
open Go.RowKit
set_option linter.unusedSimpArgs false
set_option linter.unusedVariables false

theorem scan_x : logE (scanL [120]).1 = 7 := by
  rw [scans_bad (l := [120]) (by decide)]
  rfl
theorem ext_beg (s : ByteArray) (n : Nat) : (s.extract 0 n).data.toList = s.data.toList.take n := by rw [Lib.extract_data]; simp
theorem grew_take {S R : Lg} (h : Grew S R) : S.revs = R.revs.take S.revs.length ∧ S.revs.length ≤ R.revs.length := by
  obtain ⟨_, _, _, _, ⟨c, hc⟩, _⟩ := h
  rw [hc]
  exact ⟨by simp, by simp⟩
theorem went10 {w w' : World} (hb : Below w.drew.heap.size w.drew w') : Below w.heap.size w w' := ((Below.refl w.heap.size w).drew).trans hb
theorem torn_held {w w' : World} {g h : Nat} {S R : Lg} {a b : Option Addr} {c d : Nat} (h1 : RlAt w g S a c) (h2 : RlAt w h R b d) (hg : S.gen = R.gen) (ht : S.text = R.text) (hb : Below w.heap.size w w') :
    w'.cell? ⟨h, 0, none⟩ = some (.int .i64 S.gen) ∧ w'.cell? ⟨g, 0, none⟩ = some (.int .i64 S.gen) ∧ w'.cell? ⟨h, 2, none⟩ = some (.string ⟨S.text.toArray⟩) ∧ w'.cell? ⟨g, 2, none⟩ = some (.string ⟨S.text.toArray⟩) ∧
    w'.cell? ⟨h, 35, none⟩ = some (.slice b R.revs.length d) ∧ w'.cell? ⟨g, 35, none⟩ = some (.slice a S.revs.length c) ∧ w'.cell? ⟨h, 37, none⟩ = some (.int .i64 R.good) ∧ w'.cell? ⟨g, 37, none⟩ = some (.int .i64 S.good) := by
  obtain ⟨x0, _, x2, x35, _, x37⟩ := (h1.next hb).cells
  obtain ⟨y0, _, y2, y35, _, y37⟩ := (h2.next hb).cells
  rw [← hg] at y0
  rw [← ht] at y2
  exact ⟨y0, x0, y2, x2, y35, x35, y37, x37⟩
set_option maxRecDepth 100000 in
set_option maxHeartbeats 8000000 in
theorem HotTorn_any (s : ByteArray) (k : Int) (w : World) (hs : s.size ≤ 140737488355328) :
    Calls Try.prog 6 #[.string s, .int .i64 k] w fun e w' => e = .returned (.bool true) ∧ Below w.heap.size w w' := by
  have hl : s.data.toList.length = s.size := Array.length_toList
  have HX : Hid (∀ w, Calls Try.prog 16 #[.string ⟨#[120]⟩] w fun e w' => ReadTo (logS (scanL [120]).1) 7 w e w') := fun w => by
    have h := Read_to ⟨#[120]⟩ w (by decide)
    change Calls Try.prog 16 #[.string ⟨#[120]⟩] w fun e w' => ReadTo (logS (scanL [120]).1) (logE (scanL [120]).1) w e w' at h
    rw [scan_x] at h
    exact h
  have HR : Hid _ := fun w => Read_to s w (by omega)
  have HCut : Hid (∀ k w, Calls Try.prog 16 #[.string (s.extract 0 k)] w fun e w' => ReadTo (logS (scanL (s.data.toList.take k)).1) (logE (scanL (s.data.toList.take k)).1) w e w') := fun k w => by
    have h := Read_to (s.extract 0 k) w (by rw [ByteArray.size_extract]; omega)
    rw [ext_beg] at h
    exact h
  have HWi : Hid (∀ w : World, Calls Try.prog 19 #[.int .i64 k, .int .i64 ((s.size : Int) + 1)] w fun e w' => ∃ r : Nat, e = .returned (.int .i64 r) ∧ r < s.size + 1 ∧ w' = w) := fun w => Within3_any k (s.size + 1) w (by omega) (by omega)
  obtain ⟨l, hll⟩ : ∃ l, s.data.toList = l := ⟨_, rfl⟩
  rw [hll] at HR HCut hl
  have HL : Hid (l.length = s.size) := hl
  have HTb : Hid (∀ s, (logS (scanL s).1).first.length = 16 ∧ (logS (scanL s).1).table.length = 16) := logS_tabs
  clear hll hl
  obtain ⟨S0, hS0⟩ : ∃ S, logS (scanL [120]).1 = S := ⟨_, rfl⟩
  have HS0 : Hid (S0.first.length = 16 ∧ S0.table.length = 16) := by show _ ∧ _; rw [← hS0]; exact logS_tabs _
  rw [hS0] at HX
  clear hS0
  obtain ⟨S, hS⟩ : ∃ S, logS (scanL l).1 = S := ⟨_, rfl⟩
  obtain ⟨q, hq⟩ : ∃ q, logE (scanL l).1 = q := ⟨_, rfl⟩
  have HS : Hid (S.first.length = 16 ∧ S.table.length = 16) := by show _ ∧ _; rw [← hS]; exact logS_tabs _
  have HSQ : Hid (logS (scanL l).1 = S ∧ logE (scanL l).1 = q) := ⟨hS, hq⟩
  rw [hS, hq] at HR
  clear hS hq
  go_enter Try.func6, Try.ntmps6
  go_wp2_with fail
  with_reducible refine (HX.out _).mono ?_
  rintro e w1 ⟨a0, c0, rfl, hr0, hc0, hb1⟩
  have HB1 : Hid (Below w.heap.size w (w1.alloc (.cells (rlC S0 a0 c0).toArray 38))) := hb1.alloc hb1.size _
  have HI0 : Hid _ := log_into (sC_len HS0.out.1 HS0.out.2) (rl_one S0 a0 c0)
  clear hb1
  go_upto_region 2 with (refine wpList_store_new rfl 38 _ _ rfl _ (rlC S0 a0 c0).toArray (by rfl) (by rfl) HI0.out.1 (by exact HI0.out.2.1) HI0.out.2.2.1 ?_)
  generalize w1.alloc (.cells (rlC S0 a0 c0).toArray 38) = w2 at HB1 ⊢
  clear hr0 hc0 HI0
  go_wp2_with fail
  with_reducible refine (HR.out _).mono ?_
  rintro e w3 ⟨a, c, rfl, hr, hc, hb3⟩
  have HB3 : Hid (Below w.heap.size w (w3.alloc (.cells (rlC S a c).toArray 38))) := (HB1.out.trans (hb3.mono HB1.out.size)).alloc (HB1.out.trans (hb3.mono HB1.out.size)).size _
  have HR3 : Hid (RlAt (w3.alloc (.cells (rlC S a c).toArray 38)) w3.heap.size S a c) := rl_new hr hc HS.out.1 HS.out.2
  have HI : Hid _ := log_into (sC_len HS.out.1 HS.out.2) (rl_one S a c)
  clear hb3 hr hc
  go_upto_region 5 with (refine wpList_store_new rfl 38 _ _ rfl _ (rlC S a c).toArray (by rfl) (by rfl) HI.out.1 (by exact HI.out.2.1) HI.out.2.2.1 ?_)
  generalize w3.alloc (.cells (rlC S a c).toArray 38) = w4 at HB3 HR3 ⊢
  obtain ⟨g, hg⟩ : ∃ g, w3.heap.size = g := ⟨_, rfl⟩
  rw [hg] at HR3 ⊢
  clear hg
  by_cases hq0 : q = 0
  · subst hq0
    obtain ⟨G1, G2, G3, G4⟩ := log_good HSQ.out.2
    have HCU := log_cut HSQ.out.2
    rw [HSQ.out.1] at G1 G2 G3 G4 HCU
    have HC2 : Hid (∀ w, Calls Try.prog 16 #[.string (s.extract 0 S.good)] w fun e w' => ReadTo S 0 w e w') := fun w => by
      have h := HCut.out S.good w
      rw [G3, G4] at h
      exact h
    have HCC : Hid (∀ k, logE (scanL (l.take k)).1 = 7 ∨ logE (scanL (l.take k)).1 = 0 ∧ Grew (logS (scanL (l.take k)).1) S) := HCU
    obtain ⟨z0, z1, z2, z35, z36, z37⟩ := HR3.out.cells
    have hgl := HR3.out.lt
    have hls := HL.out
    have g1 : ¬ (S.good : Int) < 7 := by omega
    have g2 : ¬ (s.size : Int) < (S.good : Int) := by omega
    have g3 : (S.good : Int) ≤ (s.size : Int) := by omega
    clear G1 G2 G3 G4 HCU hls
    go_wp2_with fail
    with_reducible refine (HC2.out _).mono ?_
    rintro e w5 ⟨b, d, rfl, hr, hc, hb5⟩
    have HB5 : Hid (Below w.heap.size w (w5.alloc (.cells (rlC S b d).toArray 38))) := (HB3.out.trans (hb5.mono HB3.out.size)).alloc (HB3.out.trans (hb5.mono HB3.out.size)).size _
    have HR5 : Hid (RlAt (w5.alloc (.cells (rlC S a c).toArray 38)) g S a c) := (HR3.out.next hb5).next ((Below.refl _ w5).alloc (Nat.le_refl _) _)
    have HR5' : Hid (RlAt (w5.alloc (.cells (rlC S b d).toArray 38)) g S a c) := (HR3.out.next hb5).next ((Below.refl _ w5).alloc (Nat.le_refl _) _)
    have HQ5 : Hid (RlAt (w5.alloc (.cells (rlC S b d).toArray 38)) w5.heap.size S b d) := rl_new hr hc HS.out.1 HS.out.2
    have HI2 : Hid _ := log_into (sC_len HS.out.1 HS.out.2) (rl_one S b d)
    clear hb5 hr hc z0 z1 z2 z35 z36 z37 HR5 g1 g2 g3 hgl
    go_upto_region 10 with (refine wpList_store_new rfl 38 _ _ rfl _ (rlC S b d).toArray (by rfl) (by rfl) HI2.out.1 (by exact HI2.out.2.1) HI2.out.2.2.1 ?_)
    generalize w5.alloc (.cells (rlC S b d).toArray 38) = w6 at HB5 HR5' HQ5 ⊢
    obtain ⟨h, hh⟩ : ∃ h, w5.heap.size = h := ⟨_, rfl⟩
    rw [hh] at HQ5 ⊢
    clear hh
    have HSM : Hid _ := fun w h1 h2 => Same_to S a b c d w HS.out.1 HS.out.2 h1 h2
    have HA1 : Hid (w6.rangeAt g 0 (rlC S a c)) := HR5'.out.all
    have HA2 : Hid (w6.rangeAt h 0 (rlC S b d)) := HQ5.out.all
    go_wp2_with (first | refine wpList_load_on (by rfl) 38 _ rfl g 0 rfl (rlC S a c) _ HA1.out Try.underlying38 rfl HI.out.2.2.2 ?_ | refine wpList_load_on (by rfl) 38 _ rfl h 0 rfl (rlC S b d) _ HA2.out Try.underlying38 rfl HI2.out.2.2.2 ?_)
    with_reducible refine (HSM.out _ HR5'.out.revs.1 HQ5.out.revs.1).mono ?_
    rintro e w7 ⟨rfl, hb7⟩
    have HB7 : Hid (Below w.heap.size w w7) := HB5.out.trans (hb7.mono HB5.out.size)
    have HR7 : Hid (RlAt w7 g S a c) := HR5'.out.next hb7
    have hn1 : (s.size : Int) + 1 ≤ 9223372036854775807 := by omega
    clear hb7 HA1 HA2
    go_wp2_with fail
    with_reducible refine (HWi.out _).mono ?_
    rintro e w8 ⟨r, rfl, hr8, e8⟩
    have e8 := e8.symm
    subst e8
    have hri : (r : Int) ≤ (s.size : Int) := by omega
    have HCR : Hid _ := HCut.out r
    obtain ⟨R, hR⟩ : ∃ R, logS (scanL (l.take r)).1 = R := ⟨_, rfl⟩
    obtain ⟨p, hp⟩ : ∃ p, logE (scanL (l.take r)).1 = p := ⟨_, rfl⟩
    have HCK := HCC.out r
    have HRT : Hid (R.first.length = 16 ∧ R.table.length = 16) := by show _ ∧ _; rw [← hR]; exact logS_tabs _
    rw [hR, hp] at HCR HCK
    clear hR hp hr8 hn1
    go_wp2_with fail
    with_reducible refine (HCR.out _).mono ?_
    rintro e w8 ⟨b2, d2, rfl, hr, hc, hb8⟩
    have HB8 : Hid (Below w.heap.size w (w8.alloc (.cells (rlC R b2 d2).toArray 38))) := (HB7.out.trans (hb8.mono HB7.out.size)).alloc (HB7.out.trans (hb8.mono HB7.out.size)).size _
    have HR8 : Hid (RlAt (w8.alloc (.cells (rlC R b2 d2).toArray 38)) g S a c) := (HR7.out.next hb8).next ((Below.refl _ w8).alloc (Nat.le_refl _) _)
    have HQ8 : Hid (RlAt (w8.alloc (.cells (rlC R b2 d2).toArray 38)) w8.heap.size R b2 d2) := rl_new hr hc HRT.out.1 HRT.out.2
    have HI3 : Hid _ := log_into (sC_len HRT.out.1 HRT.out.2) (rl_one R b2 d2)
    have HCK' : Hid (p = 7 ∨ p = 0 ∧ Grew R S) := HCK
    clear hb8 hr hc hri HCK
    go_upto_region 13 with (refine wpList_store_new rfl 38 _ _ rfl _ (rlC R b2 d2).toArray (by rfl) (by rfl) HI3.out.1 (by exact HI3.out.2.1) HI3.out.2.2.1 ?_)
    generalize w8.alloc (.cells (rlC R b2 d2).toArray 38) = w9 at HB8 HR8 HQ8 ⊢
    obtain ⟨m, hm⟩ : ∃ m, w8.heap.size = m := ⟨_, rfl⟩
    rw [hm] at HQ8 ⊢
    clear hm
    rcases HCK'.out with hp | ⟨hp, hgr⟩
    · subst hp
      go_wp2_with fail
      go_ret
      exact ⟨rfl, HB8.out⟩
    · subst hp
      obtain ⟨t1, t2⟩ := grew_take hgr
      obtain ⟨g1, _, g3, _, _, g6⟩ := hgr
      have HGE : Hid (S.gen = R.gen ∧ S.text = R.text) := ⟨g1, g3⟩
      have HSR : Hid _ := fun w h1 h2 => SameRvs_yes b2 a R.revs d2 c w h1 h2
      have HRR : Hid (∀ w', RevsAt w' w'.heap.size a S.revs → RevsAt w' w'.heap.size a R.revs) := fun w' h => by rw [t1]; exact h.take _
      have hrun : ∀ w' : World, (Instr.slice 36 (.slice a S.revs.length c) none (some (.int .i64 (R.revs.length : Int))) none).run Try.prog w' = .ok (.slice a R.revs.length c) w' := by
        obtain ⟨l2, e1, e2, _, hrun⟩ := run_to HR8.out.revs.1 HR8.out.revs.2 t2
        rw [e2] at hrun
        exact hrun
      have hle1 : decide (R.revs.length ≤ S.revs.length) = true := decide_eq_true t2
      have hle2 : decide (R.good ≤ S.good) = true := decide_eq_true g6
      clear t1 t2 g1 g3 g6
      go_wp2_with fail
      go_region_held3 (fun w' => w'.cell? ⟨m, 0, none⟩ = some (.int .i64 S.gen) ∧ w'.cell? ⟨g, 0, none⟩ = some (.int .i64 S.gen) ∧ w'.cell? ⟨m, 2, none⟩ = some (.string ⟨S.text.toArray⟩) ∧ w'.cell? ⟨g, 2, none⟩ = some (.string ⟨S.text.toArray⟩) ∧
    w'.cell? ⟨m, 35, none⟩ = some (.slice b2 R.revs.length d2) ∧ w'.cell? ⟨g, 35, none⟩ = some (.slice a S.revs.length c) ∧ w'.cell? ⟨m, 37, none⟩ = some (.int .i64 R.good) ∧ w'.cell? ⟨g, 37, none⟩ = some (.int .i64 S.good)) (first | exact torn_held HR8.out HQ8.out HGE.out.1 HGE.out.2 (Below.refl _ w9).drew | exact torn_held HR8.out HQ8.out HGE.out.1 HGE.out.2 (went10 hb10) | fail)
        (first | (go_at_call 21; with_reducible refine (HSR.out _ (HQ8.out.next (Below.refl _ w9).drew).revs.1 (HRR.out _ (HR8.out.next (Below.refl _ w9).drew).revs.1)).mono ?_; rintro e w10 ⟨rfl, hb10⟩) | fail)
      go_wp2_with fail
      go_ret
      exact ⟨rfl, HB8.out.trans ((went10 hb10).mono HB8.out.size)⟩
  · have hqb : (q != 0) = true := by simp [hq0]
    have HZS : Hid (S = nilLg) := by
      show _ = _
      rw [← HSQ.out.1]
      exact logS_not (by rw [HSQ.out.2]; exact hq0)
    have HN : Hid (∀ w, RevsAt w w.heap.size a S.revs → Calls Try.prog 18 #[.agg (rlC S a c).toArray, .agg #[.int .i64 0, .int .i64 0, .string ⟨#[]⟩, .int .i64 0, .int .i64 0, .int .i64 0, .int .i64 0, .int .i64 0, .int .i64 0, .int .i64 0, .int .i64 0, .int .i64 0, .int .i64 0, .int .i64 0, .int .i64 0, .int .i64 0, .int .i64 0, .int .i64 0, .int .i64 0, .int .i64 0, .int .i64 0, .int .i64 0, .int .i64 0, .int .i64 0, .int .i64 0, .int .i64 0, .int .i64 0, .int .i64 0, .int .i64 0, .int .i64 0, .int .i64 0, .int .i64 0, .int .i64 0, .int .i64 0, .int .i64 0, .slice none 0 0, .bool false, .int .i64 0]] w fun e w' => e = .returned (.bool true) ∧ Below w.heap.size w w') := fun w h => by
      have hh := Same_to S a none c 0 w HS.out.1 HS.out.2 h (by rw [HZS.out]; exact revs_nil w)
      have e : rlC S none 0 = zeroC := by rw [HZS.out]; rfl
      rw [e, zeroC_is] at hh
      exact hh
    have HA1 : Hid (w4.rangeAt g 0 (rlC S a c)) := HR3.out.all
    clear hq0
    go_wp2_with (refine wpList_load_mid rfl 38 _ rfl g 0 rfl (rlC S a c) _ HA1.out Try.underlying38 rfl HI.out.2.2.2 ?_)
    with_reducible refine (HN.out _ HR3.out.revs.1).mono ?_
    rintro e w5 ⟨rfl, hb5⟩
    have HB5 : Hid (Below w.heap.size w w5) := HB3.out.trans (hb5.mono HB3.out.size)
    clear hb5
    go_wp2_with fail
    go_ret
    exact ⟨rfl, HB5.out⟩
end Go.Proofs.Ytkihanmodfnpcab
