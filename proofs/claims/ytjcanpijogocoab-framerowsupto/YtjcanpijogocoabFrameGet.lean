/- What frame.Get answers. -/
import Derived.Test.YtjcanpijogocoabFramePut
import Derived.Test.YtjcanpijogocoabClone
import Derived.Deep.RegionHeld3
import Derived.BigQuiet
namespace Go.Proofs.Ytjcanpijogocoab
open Go.RowKit
set_option linter.unusedSimpArgs false
set_option linter.unusedVariables false

theorem first_three {s : ByteArray} (h : 7 ≤ s.size) : ∃ c0 c1 c2 : UInt8, s.data.toList[0]? = some c0 ∧ s.data.toList[1]? = some c1 ∧ s.data.toList[2]? = some c2 ∧ kindN s.data.toList = c0.toNat ∧ bodyN s.data.toList = 256 * c1.toNat + c2.toNat := by
  have hl : s.data.toList.length = s.size := Array.length_toList
  have h0 := List.getElem?_eq_getElem (l := s.data.toList) (i := 0) (by omega)
  have h1 := List.getElem?_eq_getElem (l := s.data.toList) (i := 1) (by omega)
  have h2 := List.getElem?_eq_getElem (l := s.data.toList) (i := 2) (by omega)
  refine ⟨_, _, _, h0, h1, h2, ?_, ?_⟩
  · unfold kindN; rw [h0]; rfl
  · unfold bodyN; rw [h1, h2]; rfl
def frV (k : Nat) (b : List UInt8) : Value := .agg #[.int .i64 (k : Int), .string ⟨b.toArray⟩]

theorem box_drewN (w : World) (nq : Nat) : ((w.alloc (.cells #[.int .i64 0, .string ⟨#[]⟩] 23)).drewN nq).heap.size = w.heap.size + 1 ∧ ((w.alloc (.cells #[.int .i64 0, .string ⟨#[]⟩] 23)).drewN nq).heap[w.heap.size]? = some (.cells #[.int .i64 0, .string ⟨#[]⟩] 23 (0, 0)) :=
  ⟨Deep.nblk_alloc _ _, Deep.blk_alloc_new w _⟩
/-- a frame that is nothing yet -/
def BoxAt (w : World) (B : Nat) : Prop := w.cell? ⟨B, 0, none⟩ = some (.int .i64 0) ∧ w.cell? ⟨B, 1, none⟩ = some (.string ⟨#[]⟩) ∧ w.frozen? ⟨B, 0, none⟩ = false ∧ w.frozen? ⟨B, 1, none⟩ = false ∧ B < w.heap.size
theorem BoxAt.below {w w' : World} {B : Nat} (h : BoxAt w B) (hb : Below w.heap.size w w') : BoxAt w' B := by
  obtain ⟨h1, h2, h3, h4, h5⟩ := h
  have h6 := hb.block B h5
  refine ⟨?_, ?_, ?_, ?_, Nat.lt_of_lt_of_le h5 hb.size⟩
  · rw [World.cell?_of_block h6]; exact h1
  · rw [World.cell?_of_block h6]; exact h2
  · simp only [World.frozen?, h6]; exact h3
  · simp only [World.frozen?, h6]; exact h4
theorem BoxAt.drew {w : World} {B : Nat} (h : BoxAt w B) : BoxAt w.drew B := h
set_option maxRecDepth 20000 in
set_option maxHeartbeats 2000000 in
theorem FGet_any (s : ByteArray) (w : World) (hs : s.size ≤ 9223372036854775807) :
    Calls Try.prog 6 #[.string s] w fun e w' => e = .returned (.tuple #[frV (gotK s.data.toList) (gotB s.data.toList), .int .i64 (gotN s.data.toList), .int .i64 (gotE s.data.toList)]) ∧ Below w.heap.size w w' := by
  have hl : s.data.toList.length = s.size := Array.length_toList
  by_cases h7 : s.size < 7
  · have hE : gotE s.data.toList = 5 := by rw [gotE, hl, if_pos h7]
    obtain ⟨g1, g2, g3⟩ := got_bad (l := s.data.toList) (by rw [hE]; decide)
    rw [hE, g1, g2, g3]
    have h7' : (s.size : Int) < 7 := by omega
    clear hE g1 g2 g3
    go_enter Try.func6, Try.ntmps6
    go_wp2_with fail
    exact bodyPost_ret (v := .tuple #[.agg #[.int .i64 0, .string ⟨#[]⟩], .int .i64 0, .int .i64 5]) (by simp [results, Try.results6, go_sem]) rfl ⟨rfl, (Below.refl _ _).alloc (Nat.le_refl _) _⟩
  · obtain ⟨c0, c1, c2, a0, a1, a2, hk, hb⟩ := first_three (s := s) (by omega)
    have t0 := at_byte a0 (by omega)
    have t1 := at_byte a1 (by omega)
    have t2 := at_byte a2 (by omega)
    have l0 := c0.toNat_lt
    have l1 := c1.toNat_lt
    have l2 := c2.toNat_lt
    have s0 : (0 : Int) < (s.size : Int) := by omega
    have s1 : (1 : Int) < (s.size : Int) := by omega
    have s2 : (2 : Int) < (s.size : Int) := by omega
    have h7' : ¬ (s.size : Int) < 7 := by omega
    obtain ⟨n, hn⟩ : ∃ n, 256 * c1.toNat + c2.toNat = n := ⟨_, rfl⟩
    rw [hn] at hb
    go_enter Try.func6, Try.ntmps6
    go_wp2_with fail
    go_quiet (fail)
    rename Nat => nq
    rw [show ((c1.toNat : Int) * 256 + (c2.toNat : Int)) = (n : Int) by omega]
    have hbox := box_drewN w nq
    have HB1 : Hid (Below w.heap.size w ((w.alloc (.cells #[.int .i64 0, .string ⟨#[]⟩] 23)).drewN nq)) := below_drewN ((Below.refl _ w).alloc (Nat.le_refl _) _) nq
    generalize (w.alloc (.cells #[.int .i64 0, .string ⟨#[]⟩] 23)).drewN nq = W1 at hbox HB1 ⊢
    obtain ⟨z1, hheap⟩ := hbox
    have d0 : W1.cell? ⟨w.heap.size, 0, none⟩ = some (.int .i64 0) := Lib.cell_of_heap hheap 0
    have d1 : W1.cell? ⟨w.heap.size, 1, none⟩ = some (.string ⟨#[]⟩) := Lib.cell_of_heap hheap 1
    have f0 := Lib.frozen_of_heap hheap 0
    have f1 := Lib.frozen_of_heap hheap 1
    have HBX : Hid (BoxAt W1 w.heap.size) := ⟨d0, d1, f0, f1, by omega⟩
    obtain ⟨B, hB⟩ : ∃ B, w.heap.size = B := ⟨_, rfl⟩
    have HW : Hid _ := hB
    rw [hB] at d0 d1 f0 f1 z1 HB1 HBX ⊢
    have hBW : B < W1.heap.size := by omega
    clear a0 a1 a2 t0 t1 t2 s0 s1 s2 hn hheap hB z1
    by_cases h3 : c0.toNat = 0 ∨ 4000 < n
    · have hE : gotE s.data.toList = 3 := by rw [gotE, hl, if_neg h7, hk, hb, if_pos h3]
      obtain ⟨g1, g2, g3⟩ := got_bad (l := s.data.toList) (by rw [hE]; decide)
      have HE : Hid _ := And.intro hE (And.intro g1 (And.intro g2 g3))
      clear hE g1 g2 g3 hk hb
      by_cases hc0 : c0.toNat = 0
      · have hc0' : ((c0.toNat : Int) == 0) = true := by rw [hc0]; rfl
        clear h3 hc0
        go_wp2_with fail
        refine bodyPost_ret (v := .tuple #[.agg #[.int .i64 0, .string ⟨#[]⟩], .int .i64 0, .int .i64 3]) (by simp [results, Try.results6, go_sem, *]) rfl ⟨by rw [HE.out.1, HE.out.2.1, HE.out.2.2.1, HE.out.2.2.2]; rfl, ?_⟩
        rw [HW.out]
        exact (HB1.out.setCell (p := ⟨B, 0, none⟩) (Nat.le_refl _) _).setCell (p := ⟨B, 1, none⟩) (Nat.le_refl _) _
      · have hc0' : ((c0.toNat : Int) == 0) = false := by rw [beq_eq_false_iff_ne]; omega
        have hn4 : (4000 : Int) < (n : Int) := by omega
        clear h3 hc0
        go_wp2_with fail
        refine bodyPost_ret (v := .tuple #[.agg #[.int .i64 0, .string ⟨#[]⟩], .int .i64 0, .int .i64 3]) (by simp [results, Try.results6, go_sem, *]) rfl ⟨by rw [HE.out.1, HE.out.2.1, HE.out.2.2.1, HE.out.2.2.2]; rfl, ?_⟩
        rw [HW.out]
        exact (HB1.out.setCell (p := ⟨B, 0, none⟩) (Nat.le_refl _) _).setCell (p := ⟨B, 1, none⟩) (Nat.le_refl _) _
    · have hc0' : ((c0.toNat : Int) == 0) = false := by rw [beq_eq_false_iff_ne]; omega
      have hn4 : ¬ (4000 : Int) < (n : Int) := by omega
      have hE0 : gotE s.data.toList = if s.size < n + 7 then 5 else if sumB (crcL (s.data.toList.take (n + 3))) = (s.data.toList.drop (n + 3)).take 4 then 0 else 6 := by
        rw [gotE, hl, if_neg h7, hk, hb, if_neg h3]
      have HK : Hid _ := And.intro hk hb
      clear hk hb h3
      by_cases h5 : s.size < n + 7
      · rw [if_pos h5] at hE0
        obtain ⟨g1, g2, g3⟩ := got_bad (l := s.data.toList) (by rw [hE0]; decide)
        have HE : Hid _ := And.intro hE0 (And.intro g1 (And.intro g2 g3))
        have h5' : (s.size : Int) < 3 + (n : Int) + 4 := by omega
        clear hE0 g1 g2 g3 h5
        go_wp2_with fail
        refine bodyPost_ret (v := .tuple #[.agg #[.int .i64 0, .string ⟨#[]⟩], .int .i64 0, .int .i64 5]) (by simp [results, Try.results6, go_sem, *]) rfl ⟨by rw [HE.out.1, HE.out.2.1, HE.out.2.2.1, HE.out.2.2.2]; rfl, ?_⟩
        rw [HW.out]
        exact (HB1.out.setCell (p := ⟨B, 0, none⟩) (Nat.le_refl _) _).setCell (p := ⟨B, 1, none⟩) (Nat.le_refl _) _
      · rw [if_neg h5] at hE0
        have h5' : ¬ (s.size : Int) < 3 + (n : Int) + 4 := by omega
        have hsx : (s.extract 0 (3 + n)).data.toList = s.data.toList.take (n + 3) := by rw [Lib.extract_data, Nat.add_comm 3 n]; simp
        have hsy : (s.extract (3 + n) (3 + n + 4)).data.toList = (s.data.toList.drop (n + 3)).take 4 := by rw [Lib.extract_data, Nat.add_comm 3 n, show n + 3 + 4 - (n + 3) = 4 by omega]
        have HS : Hid _ := fun w => sumOf_any (s.extract 0 (3 + n)) w (by rw [ByteArray.size_extract]; omega)
        rw [hsx] at HS
        obtain ⟨u, hu⟩ : ∃ u, sumB (crcL (s.data.toList.take (n + 3))) = u := ⟨_, rfl⟩
        obtain ⟨v, hv⟩ : ∃ v, (s.data.toList.drop (n + 3)).take 4 = v := ⟨_, rfl⟩
        rw [hu] at HS
        rw [hu, hv] at hE0
        rw [hv] at hsy
        obtain ⟨en, hen⟩ : ∃ en : Nat, 3 + n = en := ⟨_, rfl⟩
        rw [hen] at HS hsy
        have w1 : (3 : Int) + (n : Int) = (en : Int) := by omega
        have k0 : (0 : Int) ≤ (en : Int) := by omega
        have k1 : (en : Int) ≤ (s.size : Int) := by omega
        obtain ⟨sz, hsz⟩ : ∃ sz : Nat, en + 4 = sz := ⟨_, rfl⟩
        rw [hsz] at hsy
        have w2 : (en : Int) + 4 = (sz : Int) := by omega
        have k2 : (en : Int) ≤ (sz : Int) := by omega
        have k3 : (sz : Int) ≤ (s.size : Int) := by omega
        have HN : Hid (3 + n = en ∧ en + 4 = sz) := ⟨hen, hsz⟩
        have hcz : (s.extract 3 en).size ≤ 281474976710656 := by rw [ByteArray.size_extract]; omega
        have HC : Hid _ := fun w => Clone_any (s.extract 3 en) w hcz
        have hk3 : (3 : Int) ≤ (en : Int) := by omega
        clear hu hv hsx hen hsz hcz
        go_wp2_with fail
        go_region_held3 (fun _ => True) (trivial) (first | (go_at_call 12; refine (HS.out _).mono ?_; rintro e w2 ⟨rfl, hb2⟩))
        all_goals
          have HB2 : Hid (Below B w w2) := HB1.out.drew.trans (hb2.mono (Nat.le_of_lt hBW))
          obtain ⟨e0, e1, e2, e3, e4⟩ := BoxAt.below HBX.out.drew hb2
          clear hb2
          by_cases huv : u = v
          · have hx : (u == (s.extract en sz).toList) = true := by rw [ByteArray.toList_eq, hsy, huv]; exact beq_self_eq_true _
            rw [if_pos huv] at hE0
            obtain ⟨g1, g2, g3⟩ := got_good hE0
            rw [HK.out.1] at g1
            rw [HK.out.2] at g2 g3
            have HE : Hid _ := And.intro hE0 (And.intro g1 (And.intro g2 g3))
            clear hE0 g1 g2 g3 huv hsy
            try simp only [hx, Bool.not_true, Bool.not_false]
            clear hx
            have HX : Hid (s.extract 3 en = ⟨((s.data.toList.drop 3).take n).toArray⟩) := by
              show _ = _
              rw [← str_eq (s.extract 3 en), Lib.extract_data, show en - 3 = n by have := HN.out.1; omega]
            have HSZ : Hid ((sz : Int) = ((n + 7 : Nat) : Int)) := by show _ = _; have := HN.out; omega
            have HBX2 : Hid (BoxAt w2 B) := ⟨e0, e1, e2, e3, e4⟩
            clear e0 e1 e2 e3 d0 d1 f0 f1
            go_wp2_with fail
            refine (HC.out _).mono ?_
            rintro e w3 ⟨rfl, hb3⟩
            have HB3 : Hid (Below B w w3) := HB2.out.trans (hb3.mono (Nat.le_of_lt e4))
            obtain ⟨e0, e1, e2, e3, e5⟩ := HBX2.out.below hb3
            clear hb3
            go_wp2_with fail
            refine bodyPost_ret (v := .tuple #[.agg #[.int .i64 (c0.toNat : Int), .string (s.extract 3 en)], .int .i64 (sz : Int), .int .i64 0]) (by simp [results, Try.results6, go_sem, *]) rfl ⟨by rw [HE.out.1, HE.out.2.1, HE.out.2.2.1, HE.out.2.2.2, HX.out, HSZ.out]; rfl, ?_⟩
            rw [HW.out]
            exact (HB3.out.setCell (p := ⟨B, 0, none⟩) (Nat.le_refl _) _).setCell (p := ⟨B, 1, none⟩) (Nat.le_refl _) _
          · have hx : (u == (s.extract en sz).toList) = false := by rw [ByteArray.toList_eq, hsy]; exact beq_eq_false_iff_ne.2 huv
            rw [if_neg huv] at hE0
            obtain ⟨g1, g2, g3⟩ := got_bad (l := s.data.toList) (by rw [hE0]; decide)
            have HE : Hid _ := And.intro hE0 (And.intro g1 (And.intro g2 g3))
            clear hE0 g1 g2 g3 huv hsy
            try simp only [hx, Bool.not_true, Bool.not_false]
            clear hx d0 d1 f0 f1
            go_wp2_with fail
            refine bodyPost_ret (v := .tuple #[.agg #[.int .i64 0, .string ⟨#[]⟩], .int .i64 0, .int .i64 6]) (by simp [results, Try.results6, go_sem, *]) rfl ⟨by rw [HE.out.1, HE.out.2.1, HE.out.2.2.1, HE.out.2.2.2]; rfl, ?_⟩
            rw [HW.out]
            exact (HB2.out.setCell (p := ⟨B, 0, none⟩) (Nat.le_refl _) _).setCell (p := ⟨B, 1, none⟩) (Nat.le_refl _) _
end Go.Proofs.Ytjcanpijogocoab
