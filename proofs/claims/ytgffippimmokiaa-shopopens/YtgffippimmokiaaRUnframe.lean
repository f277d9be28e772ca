/- What the document's own Unframe answers. -/
import Derived.Test.YtgffippimmokiaaFrameKit
import Derived.Test.YtgffippimmokiaaHotHead
namespace Go.Proofs.Ytgffippimmokiaa
open Go.RowKit
set_option linter.unusedSimpArgs false
set_option linter.unusedVariables false

set_option maxRecDepth 20000 in
set_option maxHeartbeats 2000000 in
theorem RUnframe_any (s : ByteArray) (w : World) (hs : s.size ≤ 9223372036854775807) :
    Calls Try.prog 109 #[.string s] w fun e w' => e = .returned (.tuple #[frV (gotK s.data.toList) (gotB s.data.toList), .int .i64 (gotN s.data.toList), .int .i64 (gotE s.data.toList)]) ∧ Below w.heap.size w w' := by
  have hl : s.data.toList.length = s.size := Array.length_toList
  by_cases h7 : s.size < 7
  · have hE : gotE s.data.toList = 5 := by rw [gotE, hl, if_pos h7]
    obtain ⟨g1, g2, g3⟩ := got_bad (l := s.data.toList) (by rw [hE]; decide)
    rw [hE, g1, g2, g3]
    have h7' : (s.size : Int) < 7 := by omega
    clear hE g1 g2 g3
    go_enter Try.func109, Try.ntmps109
    go_wp2_with fail
    exact bodyPost_ret (v := .tuple #[.agg #[.int .i64 0, .string ⟨#[]⟩], .int .i64 0, .int .i64 5]) (by simp [results, Try.results109, go_sem]) rfl ⟨rfl, (Below.refl _ _).alloc (Nat.le_refl _) _⟩
  · obtain ⟨c0, c1, c2, a0, a1, a2, hk, hb⟩ := first_three (s := s) (by omega)
    have t0 := at_byte a0 (by omega)
    have t1 := at_byte a1 (by omega)
    have t2 := at_byte a2 (by omega)
    have l0 := c0.toNat_lt
    have l1 := c1.toNat_lt
    have l2 := c2.toNat_lt
    have s0 : (0 : Int) < (s.size : Int) := by omega
    have s1 : (1 : Int) < (s.size : Int) := by omega
    have s2 : (2 : Int) < (s.size : Int) := by omega
    have h7' : ¬ (s.size : Int) < 7 := by omega
    obtain ⟨n, hn⟩ : ∃ n, 256 * c1.toNat + c2.toNat = n := ⟨_, rfl⟩
    rw [hn] at hb
    go_enter Try.func109, Try.ntmps109
    go_wp2_with fail
    go_quiet (fail)
    rename Nat => nq
    rw [show (256 * (c1.toNat : Int) + (c2.toNat : Int)) = (n : Int) by omega]
    have hbox := box_drewN w nq
    have HB1 : Hid (Below w.heap.size w ((w.alloc (.cells #[.int .i64 0, .string ⟨#[]⟩] 149)).drewN nq)) := below_drewN ((Below.refl _ w).alloc (Nat.le_refl _) _) nq
    generalize (w.alloc (.cells #[.int .i64 0, .string ⟨#[]⟩] 149)).drewN nq = W1 at hbox HB1 ⊢
    obtain ⟨z1, hheap⟩ := hbox
    have d0 : W1.cell? ⟨w.heap.size, 0, none⟩ = some (.int .i64 0) := Lib.cell_of_heap hheap 0
    have d1 : W1.cell? ⟨w.heap.size, 1, none⟩ = some (.string ⟨#[]⟩) := Lib.cell_of_heap hheap 1
    have f0 := Lib.frozen_of_heap hheap 0
    have f1 := Lib.frozen_of_heap hheap 1
    have HBX : Hid (BoxAt W1 w.heap.size) := ⟨d0, d1, f0, f1, by omega⟩
    obtain ⟨B, hB⟩ : ∃ B, w.heap.size = B := ⟨_, rfl⟩
    have HW : Hid _ := hB
    rw [hB] at d0 d1 f0 f1 z1 HB1 HBX ⊢
    have hBW : B < W1.heap.size := by omega
    clear a0 a1 a2 t1 t2 s1 s2 hn hheap hB z1
    by_cases h3 : c0.toNat = 0 ∨ 4000 < n
    · have hE : gotE s.data.toList = 3 := by rw [gotE, hl, if_neg h7, hk, hb, if_pos h3]
      obtain ⟨g1, g2, g3⟩ := got_bad (l := s.data.toList) (by rw [hE]; decide)
      have HE : Hid _ := And.intro hE (And.intro g1 (And.intro g2 g3))
      clear hE g1 g2 g3 hk hb
      by_cases hc0 : c0.toNat = 0
      · have hc0' : ((c0.toNat : Int) == 0) = true := by rw [hc0]; rfl
        clear h3 hc0
        go_wp2_with fail
        refine bodyPost_ret (v := .tuple #[.agg #[.int .i64 0, .string ⟨#[]⟩], .int .i64 0, .int .i64 3]) (by simp [results, Try.results109, go_sem, *]) rfl ⟨by rw [HE.out.1, HE.out.2.1, HE.out.2.2.1, HE.out.2.2.2]; rfl, ?_⟩
        rw [HW.out]
        exact (HB1.out.setCell (p := ⟨B, 0, none⟩) (Nat.le_refl _) _).setCell (p := ⟨B, 1, none⟩) (Nat.le_refl _) _
      · have hc0' : ((c0.toNat : Int) == 0) = false := by rw [beq_eq_false_iff_ne]; omega
        have hn4 : (4000 : Int) < (n : Int) := by omega
        clear h3 hc0
        go_wp2_with fail
        refine bodyPost_ret (v := .tuple #[.agg #[.int .i64 0, .string ⟨#[]⟩], .int .i64 0, .int .i64 3]) (by simp [results, Try.results109, go_sem, *]) rfl ⟨by rw [HE.out.1, HE.out.2.1, HE.out.2.2.1, HE.out.2.2.2]; rfl, ?_⟩
        rw [HW.out]
        exact (HB1.out.setCell (p := ⟨B, 0, none⟩) (Nat.le_refl _) _).setCell (p := ⟨B, 1, none⟩) (Nat.le_refl _) _
    · have hc0' : ((c0.toNat : Int) == 0) = false := by rw [beq_eq_false_iff_ne]; omega
      have hn4 : ¬ (4000 : Int) < (n : Int) := by omega
      have hE0 : gotE s.data.toList = if s.size < n + 7 then 5 else if sumB (crcL (s.data.toList.take (n + 3))) = (s.data.toList.drop (n + 3)).take 4 then 0 else 6 := by
        rw [gotE, hl, if_neg h7, hk, hb, if_neg h3]
      have HK : Hid _ := And.intro hk hb
      have HCP : Hid (1 ≤ c0.toNat) := by show _ ≤ _; omega
      clear hk hb h3
      by_cases h5 : s.size < n + 7
      · rw [if_pos h5] at hE0
        obtain ⟨g1, g2, g3⟩ := got_bad (l := s.data.toList) (by rw [hE0]; decide)
        have HE : Hid _ := And.intro hE0 (And.intro g1 (And.intro g2 g3))
        have h5' : (s.size : Int) < 7 + (n : Int) := by omega
        clear hE0 g1 g2 g3 h5
        go_wp2_with fail
        refine bodyPost_ret (v := .tuple #[.agg #[.int .i64 0, .string ⟨#[]⟩], .int .i64 0, .int .i64 5]) (by simp [results, Try.results109, go_sem, *]) rfl ⟨by rw [HE.out.1, HE.out.2.1, HE.out.2.2.1, HE.out.2.2.2]; rfl, ?_⟩
        rw [HW.out]
        exact (HB1.out.setCell (p := ⟨B, 0, none⟩) (Nat.le_refl _) _).setCell (p := ⟨B, 1, none⟩) (Nat.le_refl _) _
      · rw [if_neg h5] at hE0
        have h5' : ¬ (s.size : Int) < 7 + (n : Int) := by omega
        have hbn := HK.out.2
        have hft := frame_take (l := s.data.toList) (by rw [hl, hbn]; omega)
        rw [HK.out.1, hbn] at hft
        obtain ⟨en, hen⟩ : ∃ en : Nat, 3 + n = en := ⟨_, rfl⟩
        obtain ⟨sz, hsz⟩ : ∃ sz : Nat, 7 + n = sz := ⟨_, rfl⟩
        have hsx : (s.extract 3 en).data.toList = (s.data.toList.drop 3).take n := by rw [Lib.extract_data, show en - 3 = n by omega]
        have hsy : (s.extract 0 sz).data.toList = s.data.toList.take (n + 7) := by rw [Lib.extract_data, show sz - 0 = n + 7 by omega]; simp
        have HF : Hid _ := fun w => RFrame_any (c0.toNat : Int) (s.extract 3 en) w (by rw [ByteArray.size_extract]; omega)
        have hpe : putE (c0.toNat : Int) (s.extract 3 en).data.toList = 0 := by
          refine putE_of (by have := HCP.out; omega) (by omega) ?_
          rw [hsx, List.length_take]; omega
        have hpt : putT (c0.toNat : Int) (s.extract 3 en).data.toList = frameL c0.toNat ((s.data.toList.drop 3).take n) := by
          rw [putT, hpe, hsx]; rfl
        rw [hpe, hpt] at HF
        obtain ⟨u, hu⟩ : ∃ u, frameL c0.toNat ((s.data.toList.drop 3).take n) = u := ⟨_, rfl⟩
        rw [hu] at HF hft
        obtain ⟨v, hv⟩ : ∃ v, s.data.toList.take (n + 7) = v := ⟨_, rfl⟩
        rw [hv] at hsy hft
        have HFT : Hid _ := hft
        have w1 : (3 : Int) + (n : Int) = (en : Int) := by omega
        have w1' : IntKind.i64.wrap ((3 : Int) + (n : Int)) = (en : Int) := by rw [IntWalk.i64_in _ ⟨by omega, by omega⟩]; exact w1
        have w2 : (7 : Int) + (n : Int) = (sz : Int) := by omega
        have k0 : (0 : Int) ≤ (en : Int) := by omega
        have k1 : (en : Int) ≤ (s.size : Int) := by omega
        have k2 : (0 : Int) ≤ (sz : Int) := by omega
        have k3 : (sz : Int) ≤ (s.size : Int) := by omega
        have hk3 : (3 : Int) ≤ (en : Int) := by omega
        have HN : Hid (3 + n = en ∧ 7 + n = sz) := ⟨hen, hsz⟩
        clear hu hv hsx hen hsz hpe hpt hbn hft
        go_wp2_with fail
        go_region
        have hp2 := fbox_new W1 (c0.toNat : Int) (s.extract 3 en)
        have HBX1 : Hid (BoxAt (W1.alloc (.cells #[.int .i64 (c0.toNat : Int), .string (s.extract 3 en)] 149)).drew B) := HBX.out.below (((Below.refl _ W1).alloc (Nat.le_refl _) _).drew)
        have HB2 : Hid (Below B w (W1.alloc (.cells #[.int .i64 (c0.toNat : Int), .string (s.extract 3 en)] 149)).drew) := (HB1.out.alloc (Nat.le_of_lt hBW) _).drew
        generalize (W1.alloc (.cells #[.int .i64 (c0.toNat : Int), .string (s.extract 3 en)] 149)).drew = W2 at hp2 HBX1 HB2 ⊢
        have HP2 : Hid (FBox W2 W1.heap.size (c0.toNat : Int) (s.extract 3 en)) := hp2
        obtain ⟨g, hg⟩ : ∃ g, W1.heap.size = g := ⟨_, rfl⟩
        rw [hg] at hp2 HP2 hBW ⊢
        clear hg
        obtain ⟨p0, p1, p2⟩ := hp2
        have hBW2 := HBX1.out.2.2.2.2
        clear d0 d1 f0 f1
        go_wp2_with fail
        refine (HF.out _).mono ?_
        rintro e w3 ⟨rfl, hb3⟩
        have HB3 : Hid (Below B w w3) := HB2.out.trans (hb3.mono (Nat.le_of_lt hBW2))
        obtain ⟨e0, e1, e2, e3, e4⟩ := HBX1.out.below hb3
        obtain ⟨q0, q1, q2⟩ := HP2.out.below hb3
        clear hb3 p0 p1 p2
        by_cases huv : u = v
        · have hx : (u == (s.extract 0 sz).toList) = true := by rw [ByteArray.toList_eq, hsy, huv]; exact beq_self_eq_true _
          rw [if_pos (HFT.out.1 huv)] at hE0
          obtain ⟨g1, g2, g3⟩ := got_good hE0
          rw [HK.out.1] at g1
          rw [HK.out.2] at g2 g3
          have HE : Hid _ := And.intro hE0 (And.intro g1 (And.intro g2 g3))
          have hx' : (!(u == (s.extract 0 sz).toList)) = false := by rw [hx]; rfl
          have HX : Hid (s.extract 3 en = ⟨((s.data.toList.drop 3).take n).toArray⟩) := by
            show _ = _
            rw [← str_eq (s.extract 3 en), Lib.extract_data, show en - 3 = n by have := HN.out.1; omega]
          have HSZ : Hid ((sz : Int) = ((n + 7 : Nat) : Int)) := by show _ = _; have := HN.out; omega
          clear hE0 g1 g2 g3 huv hsy hx
          go_wp2_with fail
          refine bodyPost_ret (v := .tuple #[.agg #[.int .i64 (c0.toNat : Int), .string (s.extract 3 en)], .int .i64 (sz : Int), .int .i64 0]) (by simp [results, Try.results109, go_sem, *]) rfl ⟨by rw [HE.out.1, HE.out.2.1, HE.out.2.2.1, HE.out.2.2.2, HX.out, HSZ.out]; rfl, ?_⟩
          rw [HW.out]
          exact (HB3.out.setCell (p := ⟨B, 0, none⟩) (Nat.le_refl _) _).setCell (p := ⟨B, 1, none⟩) (Nat.le_refl _) _
        · have hx : (u == (s.extract 0 sz).toList) = false := by rw [ByteArray.toList_eq, hsy]; exact beq_eq_false_iff_ne.2 huv
          rw [if_neg (fun h => huv (HFT.out.2 h))] at hE0
          obtain ⟨g1, g2, g3⟩ := got_bad (l := s.data.toList) (by rw [hE0]; decide)
          have HE : Hid _ := And.intro hE0 (And.intro g1 (And.intro g2 g3))
          have hx' : (!(u == (s.extract 0 sz).toList)) = true := by rw [hx]; rfl
          clear hE0 g1 g2 g3 huv hsy hx
          go_wp2_with fail
          refine bodyPost_ret (v := .tuple #[.agg #[.int .i64 0, .string ⟨#[]⟩], .int .i64 0, .int .i64 6]) (by simp [results, Try.results109, go_sem, *]) rfl ⟨by rw [HE.out.1, HE.out.2.1, HE.out.2.2.1, HE.out.2.2.2]; rfl, ?_⟩
          rw [HW.out]
          exact (HB3.out.setCell (p := ⟨B, 0, none⟩) (Nat.le_refl _) _).setCell (p := ⟨B, 1, none⟩) (Nat.le_refl _) _
end Go.Proofs.Ytgffippimmokiaa
