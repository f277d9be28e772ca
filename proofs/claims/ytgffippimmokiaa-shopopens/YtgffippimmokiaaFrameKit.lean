/- What frame.sumOf and frame.Put answer. -/
import Derived.Test.YtgffippimmokiaaCrcOf
import Derived.Test.YtgffippimmokiaaFrameP
import Derived.Test.YtgffippimmokiaaPtOwn
import Derived.Test.YtgffippimmokiaaCodeRead
import Derived.Deep.RegionHeld3
import Derived.BigQuiet
import Derived.Laws.StructEq
import Derived.OwnWalk
import Derived.Laws.OwnMore
import Derived.Deep.AppendLies
namespace Go.Proofs.Ytgffippimmokiaa
open Go.RowKit
set_option linter.unusedSimpArgs false
set_option linter.unusedVariables false

/-- bytes that are written out, as a text -/
theorem lit_text (w : World) (cs : Array Value) (l : List UInt8) (n : Nat) (hn : l.length = n) (hc : cs.toList = Lib.byteCells l) : (convert 134 9 (.slice (some ⟨w.heap.size, 0, none⟩) n n)).run Try.prog (w.alloc (.cells cs 5)) = .ok (.string ⟨l.toArray⟩) (w.alloc (.cells cs 5)) := by
  subst hn
  refine run_convert_bytes_back _ 134 9 5 ⟨w.heap.size, 0, none⟩ l.length l Try.underlying134 Try.underlying5 Try.underlying9 (fun j hj => ?_)
  rw [Addr.add_lit, Nat.zero_add, Lib.cell_of_heap (Deep.blk_alloc_new w _), ← Array.getElem?_toList, hc]
  simp [Lib.byteCells, hj]
theorem byte_of {n : Nat} : ((n : Int) % 256) = ((UInt8.ofNat n).toNat : Int) := by rw [UInt8.toNat_ofNat']; simp

set_option maxRecDepth 20000 in
set_option maxHeartbeats 1000000 in
theorem sumOf_any (s : ByteArray) (w : World) (hs : s.size ≤ 9223372036854775807) :
    Calls Try.prog 121 #[.string s] w fun e w' => e = .returned (.string ⟨(sumB (crcL s.data.toList)).toArray⟩) ∧ Below w.heap.size w w' := by
  have H1 : Hid _ := fun w => CrcOf_any s w hs
  have hlt := (crcL s.data.toList).isLt
  unfold sumB
  obtain ⟨n, hn⟩ : ∃ n, (crcL s.data.toList).toNat = n := ⟨_, rfl⟩
  rw [hn] at H1 hlt
  rw [hn]
  obtain ⟨b0, h0⟩ : ∃ b, UInt8.ofNat n = b := ⟨_, rfl⟩
  obtain ⟨b1, h1⟩ : ∃ b, UInt8.ofNat (n / 256) = b := ⟨_, rfl⟩
  obtain ⟨b2, h2⟩ : ∃ b, UInt8.ofNat (n / 65536) = b := ⟨_, rfl⟩
  obtain ⟨b3, h3⟩ : ∃ b, UInt8.ofNat (n / 16777216) = b := ⟨_, rfl⟩
  rw [h0, h1, h2, h3]
  have e0 : (n : Int) % 256 = (b0.toNat : Int) := by rw [← h0]; exact byte_of
  have e1 : (n : Int) / 256 % 256 = (b1.toNat : Int) := by rw [← h1, ← byte_of]; rfl
  have e2 : (n : Int) / 65536 % 256 = (b2.toNat : Int) := by rw [← h2, ← byte_of]; rfl
  have e3 : (n : Int) / 16777216 % 256 = (b3.toNat : Int) := by rw [← h3, ← byte_of]; rfl
  have e4 : (n : Int) / 16777216 = (b3.toNat : Int) := by rw [← e3]; omega
  have hcv := fun (w : World) => lit_text w #[.int .u8 (b0.toNat : Int), .int .u8 (b1.toNat : Int), .int .u8 (b2.toNat : Int), .int .u8 (b3.toNat : Int)] [b0, b1, b2, b3] 4 rfl rfl
  clear h0 h1 h2 h3 hn
  go_enter Try.func121, Try.ntmps121
  go_wp2_with fail
  refine (H1.out _).mono ?_
  rintro e w1 ⟨rfl, hb1⟩
  have HB1 : Hid (Below w.heap.size w w1) := hb1
  have hz1 := hb1.size
  clear hb1
  go_wp2_with fail
  go_ret
  exact ⟨rfl, HB1.out.alloc hz1 _⟩

set_option maxRecDepth 20000 in
set_option maxHeartbeats 1000000 in
theorem FPut_any (k : Int) (t : ByteArray) (w : World) (hs : t.size ≤ 9223372036854775807) :
    Calls Try.prog 96 #[.agg #[.int .i64 k, .string t]] w fun e w' => e = .returned (.tuple #[.string ⟨(putT k t.data.toList).toArray⟩, .int .i64 (putE k t.data.toList)]) ∧ Below w.heap.size w w' := by
  have htl : t.data.toList.length = t.size := Array.length_toList
  by_cases h1 : k < 1
  · have hE : putE k t.data.toList = 1 := by rw [putE, if_pos (Or.inl h1)]
    have hT : putT k t.data.toList = [] := by rw [putT, hE]; rfl
    rw [hE, hT]
    clear hE hT
    go_enter Try.func96, Try.ntmps96
    go_wp2_with fail
    go_ret2
    exact ⟨rfl, (Below.refl _ _).alloc (Nat.le_refl _) _⟩
  · by_cases h2 : 255 < k
    · have hE : putE k t.data.toList = 1 := by rw [putE, if_pos (Or.inr h2)]
      have hT : putT k t.data.toList = [] := by rw [putT, hE]; rfl
      rw [hE, hT]
      clear hE hT
      go_enter Try.func96, Try.ntmps96
      go_wp2_with fail
      go_ret2
      exact ⟨rfl, (Below.refl _ _).alloc (Nat.le_refl _) _⟩
    · by_cases h3 : 4000 < t.size
      · have hE : putE k t.data.toList = 2 := by rw [putE, if_neg (by omega), if_pos (by rw [htl]; exact h3)]
        have hT : putT k t.data.toList = [] := by rw [putT, hE]; rfl
        rw [hE, hT]
        have h3' : (4000 : Int) < (t.size : Int) := by omega
        clear hE hT
        go_enter Try.func96, Try.ntmps96
        go_wp2_with fail
        go_ret2
        exact ⟨rfl, (Below.refl _ _).alloc (Nat.le_refl _) _⟩
      · have hE : putE k t.data.toList = 0 := by rw [putE, if_neg (by omega), if_neg (by rw [htl]; exact h3)]
        have hT : putT k t.data.toList = frameL k.toNat t.data.toList := by rw [putT, hE]; rfl
        have h3' : ¬ (4000 : Int) < (t.size : Int) := by omega
        rw [hE, hT]
        obtain ⟨m, rfl⟩ : ∃ m : Nat, k = m := ⟨k.toNat, by omega⟩
        rw [Int.toNat_natCast]
        unfold frameL
        obtain ⟨b0, c0⟩ : ∃ b, UInt8.ofNat m = b := ⟨_, rfl⟩
        obtain ⟨b1, c1⟩ : ∃ b, UInt8.ofNat (t.size / 256) = b := ⟨_, rfl⟩
        obtain ⟨b2, c2⟩ : ∃ b, UInt8.ofNat t.size = b := ⟨_, rfl⟩
        have hH : headL m t.data.toList = [b0, b1, b2] ++ t.data.toList := by
          unfold headL
          rw [htl, c0, c1, c2]; rfl
        have e0 : (m : Int) = (b0.toNat : Int) := by rw [← c0, ← byte_of]; omega
        have e1 : (t.size : Int) / 256 = (b1.toNat : Int) := by
          rw [← c1, ← byte_of]
          show _ = (t.size : Int) / 256 % 256
          omega
        have e2 : (t.size : Int) % 256 = (b2.toNat : Int) := by rw [← c2]; exact byte_of
        have hcv := lit_text (w.alloc (.cells #[.int .i64 (m : Int), .string t] 149)) #[.int .u8 (m : Int), .int .u8 ((t.size : Int) / 256), .int .u8 (b2.toNat : Int)] [b0, b1, b2] 3 rfl (by rw [e0, e1]; rfl)
        rw [show (w.alloc (.cells #[.int .i64 (m : Int), .string t] 149)).heap.size = w.heap.size + 1 from Deep.nblk_alloc _ _] at hcv
        rw [hH]
        have HS : Hid _ := fun w => sumOf_any (⟨#[b0, b1, b2]⟩ ++ t) w (by rw [ByteArray.size_append]; show 3 + _ ≤ _; omega)
        have hdl : ((⟨#[b0, b1, b2]⟩ : ByteArray) ++ t).data.toList = [b0, b1, b2] ++ t.data.toList := by simp
        rw [hdl] at HS
        obtain ⟨u, hu⟩ : ∃ u, sumB (crcL ([b0, b1, b2] ++ t.data.toList)) = u := ⟨_, rfl⟩
        have hul : u.length = 4 := by rw [← hu]; rfl
        rw [hu] at HS
        rw [hu]
        have HDL : Hid _ := hdl
        have hz : ((⟨#[b0, b1, b2]⟩ : ByteArray) ++ t).size = 3 + t.size := by rw [ByteArray.size_append]; rfl
        have sa : ∀ w : World, (Op.stringOp .add ⟨#[b0, b1, b2]⟩ t).run Try.prog w = .ok (.string (⟨#[b0, b1, b2]⟩ ++ t)) w := fun w => run_string_add_sum _ _ _ (by show 3 + _ ≤ _; omega)
        obtain ⟨q, hq⟩ : ∃ q, (⟨#[b0, b1, b2]⟩ : ByteArray) ++ t = q := ⟨_, rfl⟩
        rw [hq] at HS sa HDL hz
        have sb : ∀ w : World, (Op.stringOp .add q ⟨u.toArray⟩).run Try.prog w = .ok (.string (q ++ ⟨u.toArray⟩)) w := fun w => run_string_add_sum _ _ _ (by show q.size + u.toArray.size ≤ _; simp; omega)
        have HE : Hid (q ++ ⟨u.toArray⟩ = ⟨([b0, b1, b2] ++ t.data.toList ++ u).toArray⟩) := by
          show _ = _
          rw [← str_eq (q ++ ⟨u.toArray⟩), ByteArray.data_append, Array.toList_append, HDL.out]
        clear hE hT c0 c1 c2 hH e0 e1 hdl hu hq
        go_enter Try.func96, Try.ntmps96
        go_wp2_with fail
        refine (HS.out _).mono ?_
        rintro e w1 ⟨rfl, hb1⟩
        have HB1 : Hid (Below w.heap.size w w1) := (((Below.refl _ w).alloc (Nat.le_refl _) _).alloc (by simp) _).trans (hb1.mono (by simp; omega))
        clear hb1
        go_wp2_with fail
        go_ret2
        exact ⟨by rw [HE.out]; rfl, HB1.out⟩
end Go.Proofs.Ytgffippimmokiaa

/- What frame.Get answers. -/
namespace Go.Proofs.Ytgffippimmokiaa
open Go.RowKit
set_option linter.unusedSimpArgs false
set_option linter.unusedVariables false

theorem first_three {s : ByteArray} (h : 7 ≤ s.size) : ∃ c0 c1 c2 : UInt8, s.data.toList[0]? = some c0 ∧ s.data.toList[1]? = some c1 ∧ s.data.toList[2]? = some c2 ∧ kindN s.data.toList = c0.toNat ∧ bodyN s.data.toList = 256 * c1.toNat + c2.toNat := by
  have hl : s.data.toList.length = s.size := Array.length_toList
  have h0 := List.getElem?_eq_getElem (l := s.data.toList) (i := 0) (by omega)
  have h1 := List.getElem?_eq_getElem (l := s.data.toList) (i := 1) (by omega)
  have h2 := List.getElem?_eq_getElem (l := s.data.toList) (i := 2) (by omega)
  refine ⟨_, _, _, h0, h1, h2, ?_, ?_⟩
  · unfold kindN; rw [h0]; rfl
  · unfold bodyN; rw [h1, h2]; rfl
def frV (k : Nat) (b : List UInt8) : Value := .agg #[.int .i64 (k : Int), .string ⟨b.toArray⟩]

theorem box_drewN (w : World) (nq : Nat) : ((w.alloc (.cells #[.int .i64 0, .string ⟨#[]⟩] 149)).drewN nq).heap.size = w.heap.size + 1 ∧ ((w.alloc (.cells #[.int .i64 0, .string ⟨#[]⟩] 149)).drewN nq).heap[w.heap.size]? = some (.cells #[.int .i64 0, .string ⟨#[]⟩] 149 (0, 0)) :=
  ⟨Deep.nblk_alloc _ _, Deep.blk_alloc_new w _⟩
/-- a frame that is nothing yet -/
def BoxAt (w : World) (B : Nat) : Prop := w.cell? ⟨B, 0, none⟩ = some (.int .i64 0) ∧ w.cell? ⟨B, 1, none⟩ = some (.string ⟨#[]⟩) ∧ w.frozen? ⟨B, 0, none⟩ = false ∧ w.frozen? ⟨B, 1, none⟩ = false ∧ B < w.heap.size
theorem BoxAt.below {w w' : World} {B : Nat} (h : BoxAt w B) (hb : Below w.heap.size w w') : BoxAt w' B := by
  obtain ⟨h1, h2, h3, h4, h5⟩ := h
  have h6 := hb.block B h5
  refine ⟨?_, ?_, ?_, ?_, Nat.lt_of_lt_of_le h5 hb.size⟩
  · rw [World.cell?_of_block h6]; exact h1
  · rw [World.cell?_of_block h6]; exact h2
  · simp only [World.frozen?, h6]; exact h3
  · simp only [World.frozen?, h6]; exact h4
theorem BoxAt.drew {w : World} {B : Nat} (h : BoxAt w B) : BoxAt w.drew B := h
set_option maxRecDepth 20000 in
set_option maxHeartbeats 2000000 in
theorem FGet_any (s : ByteArray) (w : World) (hs : s.size ≤ 9223372036854775807) :
    Calls Try.prog 99 #[.string s] w fun e w' => e = .returned (.tuple #[frV (gotK s.data.toList) (gotB s.data.toList), .int .i64 (gotN s.data.toList), .int .i64 (gotE s.data.toList)]) ∧ Below w.heap.size w w' := by
  have hl : s.data.toList.length = s.size := Array.length_toList
  by_cases h7 : s.size < 7
  · have hE : gotE s.data.toList = 5 := by rw [gotE, hl, if_pos h7]
    obtain ⟨g1, g2, g3⟩ := got_bad (l := s.data.toList) (by rw [hE]; decide)
    rw [hE, g1, g2, g3]
    have h7' : (s.size : Int) < 7 := by omega
    clear hE g1 g2 g3
    go_enter Try.func99, Try.ntmps99
    go_wp2_with fail
    exact bodyPost_ret (v := .tuple #[.agg #[.int .i64 0, .string ⟨#[]⟩], .int .i64 0, .int .i64 5]) (by simp [results, Try.results99, go_sem]) rfl ⟨rfl, (Below.refl _ _).alloc (Nat.le_refl _) _⟩
  · obtain ⟨c0, c1, c2, a0, a1, a2, hk, hb⟩ := first_three (s := s) (by omega)
    have t0 := at_byte a0 (by omega)
    have t1 := at_byte a1 (by omega)
    have t2 := at_byte a2 (by omega)
    have l0 := c0.toNat_lt
    have l1 := c1.toNat_lt
    have l2 := c2.toNat_lt
    have s0 : (0 : Int) < (s.size : Int) := by omega
    have s1 : (1 : Int) < (s.size : Int) := by omega
    have s2 : (2 : Int) < (s.size : Int) := by omega
    have h7' : ¬ (s.size : Int) < 7 := by omega
    obtain ⟨n, hn⟩ : ∃ n, 256 * c1.toNat + c2.toNat = n := ⟨_, rfl⟩
    rw [hn] at hb
    go_enter Try.func99, Try.ntmps99
    go_wp2_with fail
    go_quiet (fail)
    rename Nat => nq
    rw [show ((c1.toNat : Int) * 256 + (c2.toNat : Int)) = (n : Int) by omega]
    have hbox := box_drewN w nq
    have HB1 : Hid (Below w.heap.size w ((w.alloc (.cells #[.int .i64 0, .string ⟨#[]⟩] 149)).drewN nq)) := below_drewN ((Below.refl _ w).alloc (Nat.le_refl _) _) nq
    generalize (w.alloc (.cells #[.int .i64 0, .string ⟨#[]⟩] 149)).drewN nq = W1 at hbox HB1 ⊢
    obtain ⟨z1, hheap⟩ := hbox
    have d0 : W1.cell? ⟨w.heap.size, 0, none⟩ = some (.int .i64 0) := Lib.cell_of_heap hheap 0
    have d1 : W1.cell? ⟨w.heap.size, 1, none⟩ = some (.string ⟨#[]⟩) := Lib.cell_of_heap hheap 1
    have f0 := Lib.frozen_of_heap hheap 0
    have f1 := Lib.frozen_of_heap hheap 1
    have HBX : Hid (BoxAt W1 w.heap.size) := ⟨d0, d1, f0, f1, by omega⟩
    obtain ⟨B, hB⟩ : ∃ B, w.heap.size = B := ⟨_, rfl⟩
    have HW : Hid _ := hB
    rw [hB] at d0 d1 f0 f1 z1 HB1 HBX ⊢
    have hBW : B < W1.heap.size := by omega
    clear a0 a1 a2 t0 t1 t2 s0 s1 s2 hn hheap hB z1
    by_cases h3 : c0.toNat = 0 ∨ 4000 < n
    · have hE : gotE s.data.toList = 3 := by rw [gotE, hl, if_neg h7, hk, hb, if_pos h3]
      obtain ⟨g1, g2, g3⟩ := got_bad (l := s.data.toList) (by rw [hE]; decide)
      have HE : Hid _ := And.intro hE (And.intro g1 (And.intro g2 g3))
      clear hE g1 g2 g3 hk hb
      by_cases hc0 : c0.toNat = 0
      · have hc0' : ((c0.toNat : Int) == 0) = true := by rw [hc0]; rfl
        clear h3 hc0
        go_wp2_with fail
        refine bodyPost_ret (v := .tuple #[.agg #[.int .i64 0, .string ⟨#[]⟩], .int .i64 0, .int .i64 3]) (by simp [results, Try.results99, go_sem, *]) rfl ⟨by rw [HE.out.1, HE.out.2.1, HE.out.2.2.1, HE.out.2.2.2]; rfl, ?_⟩
        rw [HW.out]
        exact (HB1.out.setCell (p := ⟨B, 0, none⟩) (Nat.le_refl _) _).setCell (p := ⟨B, 1, none⟩) (Nat.le_refl _) _
      · have hc0' : ((c0.toNat : Int) == 0) = false := by rw [beq_eq_false_iff_ne]; omega
        have hn4 : (4000 : Int) < (n : Int) := by omega
        clear h3 hc0
        go_wp2_with fail
        refine bodyPost_ret (v := .tuple #[.agg #[.int .i64 0, .string ⟨#[]⟩], .int .i64 0, .int .i64 3]) (by simp [results, Try.results99, go_sem, *]) rfl ⟨by rw [HE.out.1, HE.out.2.1, HE.out.2.2.1, HE.out.2.2.2]; rfl, ?_⟩
        rw [HW.out]
        exact (HB1.out.setCell (p := ⟨B, 0, none⟩) (Nat.le_refl _) _).setCell (p := ⟨B, 1, none⟩) (Nat.le_refl _) _
    · have hc0' : ((c0.toNat : Int) == 0) = false := by rw [beq_eq_false_iff_ne]; omega
      have hn4 : ¬ (4000 : Int) < (n : Int) := by omega
      have hE0 : gotE s.data.toList = if s.size < n + 7 then 5 else if sumB (crcL (s.data.toList.take (n + 3))) = (s.data.toList.drop (n + 3)).take 4 then 0 else 6 := by
        rw [gotE, hl, if_neg h7, hk, hb, if_neg h3]
      have HK : Hid _ := And.intro hk hb
      clear hk hb h3
      by_cases h5 : s.size < n + 7
      · rw [if_pos h5] at hE0
        obtain ⟨g1, g2, g3⟩ := got_bad (l := s.data.toList) (by rw [hE0]; decide)
        have HE : Hid _ := And.intro hE0 (And.intro g1 (And.intro g2 g3))
        have h5' : (s.size : Int) < 3 + (n : Int) + 4 := by omega
        clear hE0 g1 g2 g3 h5
        go_wp2_with fail
        refine bodyPost_ret (v := .tuple #[.agg #[.int .i64 0, .string ⟨#[]⟩], .int .i64 0, .int .i64 5]) (by simp [results, Try.results99, go_sem, *]) rfl ⟨by rw [HE.out.1, HE.out.2.1, HE.out.2.2.1, HE.out.2.2.2]; rfl, ?_⟩
        rw [HW.out]
        exact (HB1.out.setCell (p := ⟨B, 0, none⟩) (Nat.le_refl _) _).setCell (p := ⟨B, 1, none⟩) (Nat.le_refl _) _
      · rw [if_neg h5] at hE0
        have h5' : ¬ (s.size : Int) < 3 + (n : Int) + 4 := by omega
        have hsx : (s.extract 0 (3 + n)).data.toList = s.data.toList.take (n + 3) := by rw [Lib.extract_data, Nat.add_comm 3 n]; simp
        have hsy : (s.extract (3 + n) (3 + n + 4)).data.toList = (s.data.toList.drop (n + 3)).take 4 := by rw [Lib.extract_data, Nat.add_comm 3 n, show n + 3 + 4 - (n + 3) = 4 by omega]
        have HS : Hid _ := fun w => sumOf_any (s.extract 0 (3 + n)) w (by rw [ByteArray.size_extract]; omega)
        rw [hsx] at HS
        obtain ⟨u, hu⟩ : ∃ u, sumB (crcL (s.data.toList.take (n + 3))) = u := ⟨_, rfl⟩
        obtain ⟨v, hv⟩ : ∃ v, (s.data.toList.drop (n + 3)).take 4 = v := ⟨_, rfl⟩
        rw [hu] at HS
        rw [hu, hv] at hE0
        rw [hv] at hsy
        obtain ⟨en, hen⟩ : ∃ en : Nat, 3 + n = en := ⟨_, rfl⟩
        rw [hen] at HS hsy
        have w1 : (3 : Int) + (n : Int) = (en : Int) := by omega
        have k0 : (0 : Int) ≤ (en : Int) := by omega
        have k1 : (en : Int) ≤ (s.size : Int) := by omega
        obtain ⟨sz, hsz⟩ : ∃ sz : Nat, en + 4 = sz := ⟨_, rfl⟩
        rw [hsz] at hsy
        have w2 : (en : Int) + 4 = (sz : Int) := by omega
        have k2 : (en : Int) ≤ (sz : Int) := by omega
        have k3 : (sz : Int) ≤ (s.size : Int) := by omega
        have HN : Hid (3 + n = en ∧ en + 4 = sz) := ⟨hen, hsz⟩
        have hcz : (s.extract 3 en).size ≤ 281474976710656 := by rw [ByteArray.size_extract]; omega
        have HC : Hid _ := fun w => Clone_any (s.extract 3 en) w hcz
        have hk3 : (3 : Int) ≤ (en : Int) := by omega
        clear hu hv hsx hen hsz hcz
        go_wp2_with fail
        go_region_held3 (fun _ => True) (trivial) (first | (go_at_call 121; refine (HS.out _).mono ?_; rintro e w2 ⟨rfl, hb2⟩))
        all_goals
          have HB2 : Hid (Below B w w2) := HB1.out.drew.trans (hb2.mono (Nat.le_of_lt hBW))
          obtain ⟨e0, e1, e2, e3, e4⟩ := BoxAt.below HBX.out.drew hb2
          clear hb2
          by_cases huv : u = v
          · have hx : (u == (s.extract en sz).toList) = true := by rw [ByteArray.toList_eq, hsy, huv]; exact beq_self_eq_true _
            rw [if_pos huv] at hE0
            obtain ⟨g1, g2, g3⟩ := got_good hE0
            rw [HK.out.1] at g1
            rw [HK.out.2] at g2 g3
            have HE : Hid _ := And.intro hE0 (And.intro g1 (And.intro g2 g3))
            clear hE0 g1 g2 g3 huv hsy
            try simp only [hx, Bool.not_true, Bool.not_false]
            clear hx
            have HX : Hid (s.extract 3 en = ⟨((s.data.toList.drop 3).take n).toArray⟩) := by
              show _ = _
              rw [← str_eq (s.extract 3 en), Lib.extract_data, show en - 3 = n by have := HN.out.1; omega]
            have HSZ : Hid ((sz : Int) = ((n + 7 : Nat) : Int)) := by show _ = _; have := HN.out; omega
            have HBX2 : Hid (BoxAt w2 B) := ⟨e0, e1, e2, e3, e4⟩
            clear e0 e1 e2 e3 d0 d1 f0 f1
            go_wp2_with fail
            refine (HC.out _).mono ?_
            rintro e w3 ⟨rfl, hb3⟩
            have HB3 : Hid (Below B w w3) := HB2.out.trans (hb3.mono (Nat.le_of_lt e4))
            obtain ⟨e0, e1, e2, e3, e5⟩ := HBX2.out.below hb3
            clear hb3
            go_wp2_with fail
            refine bodyPost_ret (v := .tuple #[.agg #[.int .i64 (c0.toNat : Int), .string (s.extract 3 en)], .int .i64 (sz : Int), .int .i64 0]) (by simp [results, Try.results99, go_sem, *]) rfl ⟨by rw [HE.out.1, HE.out.2.1, HE.out.2.2.1, HE.out.2.2.2, HX.out, HSZ.out]; rfl, ?_⟩
            rw [HW.out]
            exact (HB3.out.setCell (p := ⟨B, 0, none⟩) (Nat.le_refl _) _).setCell (p := ⟨B, 1, none⟩) (Nat.le_refl _) _
          · have hx : (u == (s.extract en sz).toList) = false := by rw [ByteArray.toList_eq, hsy]; exact beq_eq_false_iff_ne.2 huv
            rw [if_neg huv] at hE0
            obtain ⟨g1, g2, g3⟩ := got_bad (l := s.data.toList) (by rw [hE0]; decide)
            have HE : Hid _ := And.intro hE0 (And.intro g1 (And.intro g2 g3))
            clear hE0 g1 g2 g3 huv hsy
            try simp only [hx, Bool.not_true, Bool.not_false]
            clear hx d0 d1 f0 f1
            go_wp2_with fail
            refine bodyPost_ret (v := .tuple #[.agg #[.int .i64 0, .string ⟨#[]⟩], .int .i64 0, .int .i64 6]) (by simp [results, Try.results99, go_sem, *]) rfl ⟨by rw [HE.out.1, HE.out.2.1, HE.out.2.2.1, HE.out.2.2.2]; rfl, ?_⟩
            rw [HW.out]
            exact (HB2.out.setCell (p := ⟨B, 0, none⟩) (Nat.le_refl _) _).setCell (p := ⟨B, 1, none⟩) (Nat.le_refl _) _
end Go.Proofs.Ytgffippimmokiaa

/- Frames in blocks of their own; two frames held against each other. -/
namespace Go.Proofs.Ytgffippimmokiaa
open Go.RowKit
set_option linter.unusedSimpArgs false
set_option linter.unusedVariables false

/-- a frame in a block of its own -/
def FBox (w : World) (g : Nat) (k : Int) (t : ByteArray) : Prop := w.cell? ⟨g, 0, none⟩ = some (.int .i64 k) ∧ w.cell? ⟨g, 1, none⟩ = some (.string t) ∧ g < w.heap.size
theorem FBox.below {w w' : World} {g : Nat} {k : Int} {t : ByteArray} (h : FBox w g k t) (hb : Below w.heap.size w w') : FBox w' g k t := by
  obtain ⟨h1, h2, h3⟩ := h
  have h6 := hb.block g h3
  refine ⟨?_, ?_, Nat.lt_of_lt_of_le h3 hb.size⟩
  · rw [World.cell?_of_block h6]; exact h1
  · rw [World.cell?_of_block h6]; exact h2
theorem fbox_new (w : World) (k : Int) (t : ByteArray) : FBox (w.alloc (.cells #[.int .i64 k, .string t] 149)).drew w.heap.size k t := by
  have h : (w.alloc (.cells #[.int .i64 k, .string t] 149)).drew.heap[w.heap.size]? = some (.cells #[.int .i64 k, .string t] 149 (0, 0)) := Deep.blk_alloc_new w _
  exact ⟨Lib.cell_of_heap h 0, Lib.cell_of_heap h 1, lt_of_heap h⟩
theorem fbox_here (w : World) (k : Int) (t : ByteArray) : FBox (w.alloc (.cells #[.int .i64 k, .string t] 149)) w.heap.size k t := by
  have h : (w.alloc (.cells #[.int .i64 k, .string t] 149)).heap[w.heap.size]? = some (.cells #[.int .i64 k, .string t] 149 (0, 0)) := Deep.blk_alloc_new w _
  exact ⟨Lib.cell_of_heap h 0, Lib.cell_of_heap h 1, lt_of_heap h⟩
theorem fieldsFrame : Try.prog.underlying 149 = some (.struct (Try.prog.fieldsOf 149)) := by kernel_rfl
theorem heldFrame : Try.prog.stoodInHeld 149 = false := by kernel_rfl
set_option maxRecDepth 10000 in
theorem same_frame (k k' : Int) (t t' : ByteArray) (w : World) : (binOp .eql 149 (.agg #[.int .i64 k, .string t]) (.agg #[.int .i64 k', .string t'])).run Try.prog w = .ok (.bool (k == k' && (t.toList == t'.toList))) w := by
  rw [run_eql_struct, run_equalIn_agg w 9999 149 _ _ fieldsFrame heldFrame]
  simp only [Program.fieldsOf, Try.underlying149]
  cases h1 : (k == k') <;> cases h2 : (t.toList == t'.toList) <;> simp [go_sem, Op.eqFields, part, h1, h2, Try.underlying3, Try.underlying9]

end Go.Proofs.Ytgffippimmokiaa

/- A list of frames as it lies in memory; rows of frames of the call's own. -/
namespace Go.Proofs.Ytgffippimmokiaa
open Go.RowKit
set_option linter.unusedSimpArgs false
set_option linter.unusedVariables false

/-- the frames l lie from address a on, below block B -/
def FrsAt (w : World) (B : Nat) (a : Option Addr) (l : List Fr) : Prop :=
  B ≤ w.heap.size ∧ (l ≠ [] → ∃ b off, a = some ⟨b, off, none⟩ ∧ b < B ∧ ∀ i f, l[i]? = some f → w.cell? ⟨b, off + i * 2, none⟩ = some (.int .i64 f.k) ∧ w.cell? ⟨b, off + i * 2 + 1, none⟩ = some (.string ⟨f.t.toArray⟩))
theorem FrsAt.below {w w' : World} {B B' : Nat} {a : Option Addr} {l : List Fr} (h : FrsAt w B a l) (hb : Below B' w w') (hB : B ≤ B') : FrsAt w' B a l := by
  obtain ⟨h1, h2⟩ := h
  refine ⟨Nat.le_trans h1 hb.size, fun hn => ?_⟩
  obtain ⟨b, off, ha, hlt, hc⟩ := h2 hn
  have hlt' : b < B' := Nat.lt_of_lt_of_le hlt hB
  refine ⟨b, off, ha, hlt, fun i f hi => ?_⟩
  obtain ⟨c1, c2⟩ := hc i f hi
  exact ⟨(hb.cell (p := ⟨b, _, none⟩) hlt').trans c1, (hb.cell (p := ⟨b, _, none⟩) hlt').trans c2⟩
theorem FrsAt.wider {w : World} {B B' : Nat} {a : Option Addr} {l : List Fr} (h : FrsAt w B a l) (h1 : B ≤ B') (h2 : B' ≤ w.heap.size) : FrsAt w B' a l := by
  refine ⟨h2, fun hn => ?_⟩
  obtain ⟨b, off, ha, hlt, hc⟩ := h.2 hn
  exact ⟨b, off, ha, by omega, hc⟩
theorem FrsAt.here {w w' : World} {B B' : Nat} {a : Option Addr} {l : List Fr} (h : FrsAt w B a l) (hb : Below B' w w') (hB : B ≤ B') : FrsAt w' w'.heap.size a l :=
  (h.below hb hB).wider (h.below hb hB).1 (Nat.le_refl _)
theorem FrsAt.mem {w : World} {B : Nat} {a : Option Addr} {l : List Fr} (h : FrsAt w B a l) {i : Nat} {f : Fr} (hi : l[i]? = some f) :
    ∃ b off, a = some ⟨b, off, none⟩ ∧ b < B ∧ w.cell? ⟨b, off + i * 2, none⟩ = some (.int .i64 f.k) ∧ w.cell? ⟨b, off + i * 2 + 1, none⟩ = some (.string ⟨f.t.toArray⟩) := by
  obtain ⟨b, off, ha, hlt, hc⟩ := h.2 (fun e => by subst e; simp at hi)
  exact ⟨b, off, ha, hlt, hc i f hi⟩
def frAll (l : List Fr) : List Value := l.flatMap (fun f => [.int .i64 f.k, .string ⟨f.t.toArray⟩])
theorem frAll_cons (f : Fr) (l : List Fr) : frAll (f :: l) = .int .i64 f.k :: .string ⟨f.t.toArray⟩ :: frAll l := rfl
theorem frAll_append (a b : List Fr) : frAll (a ++ b) = frAll a ++ frAll b := by simp [frAll]
theorem frAll_length (l : List Fr) : (frAll l).length = l.length * 2 := by
  induction l with
  | nil => rfl
  | cons f l ih => rw [frAll_cons]; simp only [List.length_cons, ih]; omega
theorem frAll_one (l : List Fr) : ∀ u ∈ frAll l, u.oneCell' = true := by
  intro u hu
  simp only [frAll, List.mem_flatMap] at hu
  obtain ⟨f, _, hu⟩ := hu
  simp only [List.mem_cons, List.not_mem_nil, or_false] at hu
  rcases hu with rfl | rfl <;> rfl
theorem frAll_at {l : List Fr} {i : Nat} {f : Fr} (h : l[i]? = some f) : (frAll l)[i * 2]? = some (.int .i64 f.k) ∧ (frAll l)[i * 2 + 1]? = some (.string ⟨f.t.toArray⟩) := by
  induction l generalizing i with
  | nil => simp at h
  | cons g l ih =>
    cases i with
    | zero =>
      simp at h
      subst h
      simp [frAll_cons]
    | succ j =>
      have h2 := ih (i := j) (by simpa using h)
      rw [frAll_cons, show (j + 1) * 2 = j * 2 + 1 + 1 by omega]
      refine ⟨by simpa using h2.1, ?_⟩
      rw [show j * 2 + 1 + 1 + 1 = (j * 2 + 1) + 1 + 1 by omega]
      simpa using h2.2
theorem frs_own {w : World} {B : Nat} {v : Value} {l : List Fr} (h : w.ownsRow B 149 2 v l.length (frAll l)) : ∃ a cap, v = .slice a l.length cap ∧ FrsAt w w.heap.size a l := by
  rcases h.2 with ⟨rfl, h0⟩ | ⟨g, cap, cur, rfl, hB, hg, hn, hm, hc, ht⟩
  · have : l = [] := List.length_eq_zero_iff.1 h0
    subst this
    exact ⟨none, 0, rfl, Nat.le_refl _, by simp⟩
  · refine ⟨some ⟨g, 0, none⟩, cap, rfl, Nat.le_refl _, fun _ => ⟨g, 0, rfl, lt_of_heap hg, fun i f hi => ?_⟩⟩
    obtain ⟨c1, c2⟩ := frAll_at hi
    have hil := (List.getElem?_eq_some_iff.1 hi).1
    refine ⟨?_, ?_⟩
    · rw [Nat.zero_add, h.cellAt _ (by omega)]; exact c1
    · rw [Nat.zero_add, h.cellAt _ (by omega)]; exact c2
theorem fr_snoc {w : World} {B : Nat} {v : Value} {l : List Fr} {f : Fr} (h : w.ownsRow B 149 2 v (l.length + 1) (frAll l ++ [.int .i64 f.k, .string ⟨f.t.toArray⟩])) : w.ownsRow B 149 2 v (l ++ [f]).length (frAll (l ++ [f])) := by
  rw [frAll_append, List.length_append]; exact h
theorem infoFrame : (Try.prog.info? 149).map (fun i => (i.zero, i.size, i.bytes)) = some (some (.agg #[.int .i64 0, .string ⟨#[]⟩]), 2, 24) := by kernel_rfl
set_option maxRecDepth 10000 in
theorem unlike_frame (k : Int) (t : ByteArray) (w : World) : (binOp .neq 149 (.agg #[.int .i64 k, .string t]) (.agg #[.int .i64 k, .string t])).run Try.prog w = .ok (.bool false) w := by
  have h := same_frame k k t t w
  rw [run_eql_struct] at h
  rw [run_neq_struct]
  cases hq : (Op.equalIn 10000 149 (.agg #[.int .i64 k, .string t]) (.agg #[.int .i64 k, .string t])).run Try.prog w with
  | ok b w' =>
    rw [hq] at h
    simp only [Result.andThen, Result.ok.injEq, Value.bool.injEq] at h
    obtain ⟨h1, rfl⟩ := h
    subst h1
    simp [Result.andThen]
  | halt x w' => rw [hq] at h; simp [Result.andThen] at h

end Go.Proofs.Ytgffippimmokiaa

/- What frame.Scan answers. -/
namespace Go.Proofs.Ytgffippimmokiaa
open Go.RowKit
set_option linter.unusedSimpArgs false
set_option linter.unusedVariables false

theorem drop_at (s : ByteArray) (a : Nat) : (s.extract a s.size).data.toList = s.data.toList.drop a := by
  rw [Lib.extract_data]
  have h : s.data.toList.length = s.size := Array.length_toList
  exact List.take_of_length_le (by rw [List.length_drop, h]; omega)

set_option maxRecDepth 20000 in
set_option maxHeartbeats 4000000 in
theorem Scan_any (s : ByteArray) (w : World) (hs : s.size ≤ 1000000000000) :
    Calls Try.prog 67 #[.string s] w fun e w' => ∃ v, e = .returned (.tuple #[v, .int .i64 (scanL s.data.toList).2]) ∧ w'.ownsRow w.heap.size 149 2 v (scanL s.data.toList).1.length (frAll (scanL s.data.toList).1) ∧ Below w.heap.size w w' := by
  obtain ⟨ip, hip, hp0, hp1, hp2⟩ := info_parts infoFrame
  have hl : s.data.toList.length = s.size := Array.length_toList
  have HL : Hid _ := hl
  clear hl
  go_enter Try.func67, Try.ntmps67
  go_wp2_with fail
  go_loopw [4, 5] (fun v a wr => ∃ (p : Nat) (out : List Fr) (ao : Option Addr) (co : Nat), p ≤ s.size ∧ a = .int .i64 p ∧ v = .slice ao out.length co ∧ wr.ownsRow w.heap.size 149 2 (.slice ao out.length co) out.length (frAll out) ∧
    scanL s.data.toList = (out ++ (scanL (s.data.toList.drop p)).1, p + (scanL (s.data.toList.drop p)).2) ∧ 7 * out.length ≤ p ∧ Below w.heap.size w wr) (fun _ a _ => s.size - (intOf a).toNat)
  case atStart => exact ⟨0, [], none, 0, Nat.zero_le _, rfl, rfl, World.ownsRow_nil _ _ _ _, by simp, by simp, Below.refl _ _⟩
  case round =>
    rename World => wr
    obtain ⟨p, out, ao, co, hp, rfl, rfl, hown, hx, h7, hb⟩ := hrel
    have hz := hb.size
    have HO : Hid (wr.ownsRow w.heap.size 149 2 (.slice ao out.length co) out.length (frAll out)) := hown
    have HB : Hid (Below w.heap.size w wr) := hb
    have HX : Hid _ := hx
    have HG : Hid _ := fun w => FGet_any (s.extract p s.size) w (by rw [ByteArray.size_extract]; omega)
    rw [drop_at] at HG
    unfold frV at HG
    obtain ⟨l, hll⟩ : ∃ l, s.data.toList.drop p = l := ⟨_, rfl⟩
    rw [hll] at HG HX
    have hln : l.length = s.size - p := by rw [← hll, List.length_drop, HL.out]
    have HDD : Hid (∀ q, l.drop q = s.data.toList.drop (p + q)) := fun q => by rw [← hll, List.drop_drop]
    have hpi : (p : Int) ≤ (s.size : Int) := by omega
    clear hown hb hx hll
    by_cases hE : gotE l = 0
    · obtain ⟨_, _, _, h4, h5, _⟩ := got_put hE
      have HSC : Hid _ := scans_good hE
      rw [hE] at HG
      obtain ⟨n, hn⟩ : ∃ n, gotN l = n := ⟨_, rfl⟩
      obtain ⟨f, hf⟩ : ∃ f : Fr, (⟨(gotK l : Int), gotB l⟩ : Fr) = f := ⟨_, rfl⟩
      have f1 : ((gotK l : Nat) : Int) = f.k := by rw [← hf]
      have f2 : gotB l = f.t := by rw [← hf]
      rw [f1, f2, hn] at HG
      rw [hf, hn] at HSC
      rw [hn] at h4 h5
      clear f1 f2 hf hn hE
      go_wp2_with fail
      refine (HG.out _).mono ?_
      rintro e w1 ⟨rfl, hb1⟩
      have HB1 : Hid (Below w.heap.size w w1) := HB.out.trans (hb1.mono hz)
      have HO1 : Hid (w1.ownsRow w.heap.size 149 2 (.slice ao out.length co) out.length (frAll out)) := own_stay HO.out hb1
      have hz1 := HB1.out.size
      clear hb1
      have hAs := own_alloc (own_alloc HO1.out (.cells #[.int .i64 f.k, .string ⟨f.t.toArray⟩] 149)) (.cells #[.int .i64 f.k, .string ⟨f.t.toArray⟩] 149)
      go_wp2_with (at_builtin; refine wpList_append_own _ rfl _ _ 119 rfl w.heap.size 149 ip _ 2 24 Try.underlying119 hip hp0 hp1 hp2 rfl (by decide) _ _ _ rfl hAs ⟨w1.heap.size + 1, 0, none⟩ 1 1 [.int .i64 f.k, .string ⟨f.t.toArray⟩] rfl rfl ?c2 (by simp [Value.oneCell']) ?c3 ?c4 ?c5 ?_)
      case c2 => exact World.news_of_block (cs := #[.int .i64 f.k, .string ⟨f.t.toArray⟩]) (t := 149) (fr := (0, 0)) (by have h := heap_alloc_new (w1.alloc (.cells #[.int .i64 f.k, .string ⟨f.t.toArray⟩] 149)) (.cells #[.int .i64 f.k, .string ⟨f.t.toArray⟩] 149); rw [show (w1.alloc (.cells #[.int .i64 f.k, .string ⟨f.t.toArray⟩] 149)).heap.size = w1.heap.size + 1 from Deep.nblk_alloc _ _] at h; exact h)
      case c3 => unfold maxLen; omega
      case c4 => omega
      case c5 => first | omega | (simp; omega)
      intro v' w2 hown2 hgrow _
      obtain ⟨bo, cb2, rfl⟩ := slice_form' hown2
      have HB2 : Hid (Below w.heap.size w w2) := below_own' ((HB1.out.alloc hz1 _).alloc (by simp; omega) _) hAs hgrow (by simp; omega)
      have HO2 : Hid (w2.ownsRow w.heap.size 149 2 (.slice bo (out.length + 1) cb2) (out ++ [f]).length (frAll (out ++ [f]))) := fr_snoc hown2
      clear hown2 hgrow hAs
      go_wp2_with fail
      go_roundw
      case rel =>
        refine ⟨p + n, out ++ [f], bo, cb2, by omega, by go_num, by simp, by have h := HO2.out; rw [List.length_append] at h ⊢; exact h, ?_, by rw [List.length_append, List.length_singleton]; omega, HB2.out⟩
        rw [HX.out, HSC.out, HDD.out n]
        simp only [List.append_assoc, List.singleton_append, Prod.mk.injEq, true_and]
        omega
      case measure => simp [intOf]; omega
    · have HSC : Hid _ := scans_bad hE
      rw [HSC.out] at HX
      obtain ⟨q, hq⟩ : ∃ q, gotE l = q := ⟨_, rfl⟩
      rw [hq] at HG hE
      have hq' : (q != 0) = true := by simp [hE]
      clear hq hE HSC
      go_wp2_with fail
      refine (HG.out _).mono ?_
      rintro e w1 ⟨rfl, hb1⟩
      have HB1 : Hid (Below w.heap.size w w1) := HB.out.trans (hb1.mono hz)
      have HO1 : Hid (w1.ownsRow w.heap.size 149 2 (.slice ao out.length co) out.length (frAll out)) := own_stay HO.out hb1
      have hz1 := HB1.out.size
      clear hb1
      go_wp2_with fail
      go_ret2
      refine ⟨_, by rw [HX.out]; rfl, ?_, HB1.out.alloc hz1 _⟩
      rw [HX.out, List.append_nil]
      exact own_alloc HO1.out _
end Go.Proofs.Ytgffippimmokiaa
