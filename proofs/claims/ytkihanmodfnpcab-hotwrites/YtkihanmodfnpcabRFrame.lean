/- What the document's own Frame answers. -/
import Derived.Test.YtkihanmodfnpcabFramePut
import Derived.Test.YtkihanmodfnpcabRCrc
namespace Go.Proofs.Ytkihanmodfnpcab
open Go.RowKit
set_option linter.unusedSimpArgs false
set_option linter.unusedVariables false

set_option maxRecDepth 20000 in
set_option maxHeartbeats 1000000 in
theorem RFrame_any (k : Int) (t : ByteArray) (w : World) (hs : t.size ≤ 9223372036854775807) :
    Calls Try.prog 34 #[.agg #[.int .i64 k, .string t]] w fun e w' => e = .returned (.tuple #[.string ⟨(putT k t.data.toList).toArray⟩, .int .i64 (putE k t.data.toList)]) ∧ Below w.heap.size w w' := by
  have htl : t.data.toList.length = t.size := Array.length_toList
  by_cases h1 : k < 1
  · have hE : putE k t.data.toList = 1 := by rw [putE, if_pos (Or.inl h1)]
    have hT : putT k t.data.toList = [] := by rw [putT, hE]; rfl
    rw [hE, hT]
    clear hE hT
    go_enter Try.func34, Try.ntmps34
    go_wp2_with fail
    go_ret2
    exact ⟨rfl, (Below.refl _ _).alloc (Nat.le_refl _) _⟩
  · by_cases h2 : 255 < k
    · have hE : putE k t.data.toList = 1 := by rw [putE, if_pos (Or.inr h2)]
      have hT : putT k t.data.toList = [] := by rw [putT, hE]; rfl
      rw [hE, hT]
      clear hE hT
      go_enter Try.func34, Try.ntmps34
      go_wp2_with fail
      go_ret2
      exact ⟨rfl, (Below.refl _ _).alloc (Nat.le_refl _) _⟩
    · by_cases h3 : 4000 < t.size
      · have hE : putE k t.data.toList = 2 := by rw [putE, if_neg (by omega), if_pos (by rw [htl]; exact h3)]
        have hT : putT k t.data.toList = [] := by rw [putT, hE]; rfl
        rw [hE, hT]
        have h3' : (4000 : Int) < (t.size : Int) := by omega
        clear hE hT
        go_enter Try.func34, Try.ntmps34
        go_wp2_with fail
        go_ret2
        exact ⟨rfl, (Below.refl _ _).alloc (Nat.le_refl _) _⟩
      · have hE : putE k t.data.toList = 0 := by rw [putE, if_neg (by omega), if_neg (by rw [htl]; exact h3)]
        have hT : putT k t.data.toList = frameL k.toNat t.data.toList := by rw [putT, hE]; rfl
        have h3' : ¬ (4000 : Int) < (t.size : Int) := by omega
        rw [hE, hT]
        obtain ⟨m, rfl⟩ : ∃ m : Nat, k = m := ⟨k.toNat, by omega⟩
        rw [Int.toNat_natCast]
        unfold frameL
        obtain ⟨b0, c0⟩ : ∃ b, UInt8.ofNat m = b := ⟨_, rfl⟩
        obtain ⟨b1, c1⟩ : ∃ b, UInt8.ofNat (t.size / 256) = b := ⟨_, rfl⟩
        obtain ⟨b2, c2⟩ : ∃ b, UInt8.ofNat t.size = b := ⟨_, rfl⟩
        have hH : headL m t.data.toList = [b0, b1, b2] ++ t.data.toList := by
          unfold headL
          rw [htl, c0, c1, c2]; rfl
        have e0 : (m : Int) = (b0.toNat : Int) := by rw [← c0, ← byte_of]; omega
        have e1 : (t.size : Int) / 256 = (b1.toNat : Int) := by
          rw [← c1, ← byte_of]
          show _ = (t.size : Int) / 256 % 256
          omega
        have e2 : (t.size : Int) % 256 = (b2.toNat : Int) := by rw [← c2]; exact byte_of
        have hcv := lit_text (w.alloc (.cells #[.int .i64 (m : Int), .string t] 64)) #[.int .u8 (m : Int), .int .u8 ((t.size : Int) / 256), .int .u8 (b2.toNat : Int)] [b0, b1, b2] 3 rfl (by rw [e0, e1]; rfl)
        rw [show (w.alloc (.cells #[.int .i64 (m : Int), .string t] 64)).heap.size = w.heap.size + 1 from Deep.nblk_alloc _ _] at hcv
        rw [hH]
        have HS : Hid _ := fun w => RCrc_any (⟨#[b0, b1, b2]⟩ ++ t) w (by rw [ByteArray.size_append]; show 3 + _ ≤ _; omega)
        have hdl : ((⟨#[b0, b1, b2]⟩ : ByteArray) ++ t).data.toList = [b0, b1, b2] ++ t.data.toList := by simp
        rw [hdl] at HS
        obtain ⟨u, hu⟩ : ∃ u, sumB (crcL ([b0, b1, b2] ++ t.data.toList)) = u := ⟨_, rfl⟩
        have hul : u.length = 4 := by rw [← hu]; rfl
        rw [hu]
        have hlt := (crcL ([b0, b1, b2] ++ t.data.toList)).isLt
        unfold sumB at hu
        obtain ⟨n, hn⟩ : ∃ n, (crcL ([b0, b1, b2] ++ t.data.toList)).toNat = n := ⟨_, rfl⟩
        rw [hn] at HS hlt hu
        obtain ⟨d0, h0⟩ : ∃ b, UInt8.ofNat n = b := ⟨_, rfl⟩
        obtain ⟨d1, h1'⟩ : ∃ b, UInt8.ofNat (n / 256) = b := ⟨_, rfl⟩
        obtain ⟨d2, h2'⟩ : ∃ b, UInt8.ofNat (n / 65536) = b := ⟨_, rfl⟩
        obtain ⟨d3, h3''⟩ : ∃ b, UInt8.ofNat (n / 16777216) = b := ⟨_, rfl⟩
        rw [h0, h1', h2', h3''] at hu
        have x0 : (n : Int) % 256 = (d0.toNat : Int) := by rw [← h0]; exact byte_of
        have x1 : (n : Int) / 256 % 256 = (d1.toNat : Int) := by rw [← h1', ← byte_of]; rfl
        have x2 : (n : Int) / 65536 % 256 = (d2.toNat : Int) := by rw [← h2', ← byte_of]; rfl
        have x3 : (n : Int) / 16777216 % 256 = (d3.toNat : Int) := by rw [← h3'', ← byte_of]; rfl
        have x4 : (n : Int) / 16777216 = (d3.toNat : Int) := by rw [← x3]; omega
        have hcv2 := fun (w : World) => lit_text w #[.int .u8 (d0.toNat : Int), .int .u8 (d1.toNat : Int), .int .u8 (d2.toNat : Int), .int .u8 (d3.toNat : Int)] [d0, d1, d2, d3] 4 rfl rfl
        rw [hu] at hcv2
        clear h0 h1' h2' h3'' hn
        have HDL : Hid _ := hdl
        have hz : ((⟨#[b0, b1, b2]⟩ : ByteArray) ++ t).size = 3 + t.size := by rw [ByteArray.size_append]; rfl
        have sa : ∀ w : World, (Op.stringOp .add ⟨#[b0, b1, b2]⟩ t).run Try.prog w = .ok (.string (⟨#[b0, b1, b2]⟩ ++ t)) w := fun w => run_string_add_sum _ _ _ (by show 3 + _ ≤ _; omega)
        obtain ⟨q, hq⟩ : ∃ q, (⟨#[b0, b1, b2]⟩ : ByteArray) ++ t = q := ⟨_, rfl⟩
        rw [hq] at HS sa HDL hz
        have HU : Hid ([d0, d1, d2, d3] = u) := hu
        have sb : ∀ w : World, (Op.stringOp .add q ⟨u.toArray⟩).run Try.prog w = .ok (.string (q ++ ⟨u.toArray⟩)) w := fun w => run_string_add_sum _ _ _ (by show q.size + u.toArray.size ≤ _; simp; omega)
        have HE : Hid (q ++ ⟨u.toArray⟩ = ⟨([b0, b1, b2] ++ t.data.toList ++ u).toArray⟩) := by
          show _ = _
          rw [← str_eq (q ++ ⟨u.toArray⟩), ByteArray.data_append, Array.toList_append, HDL.out]
        clear hE hT c0 c1 c2 hH e0 e1 hdl hu hq
        go_enter Try.func34, Try.ntmps34
        go_wp2_with fail
        refine (HS.out _).mono ?_
        rintro e w1 ⟨rfl, hb1⟩
        have HB1 : Hid (Below w.heap.size w w1) := by show Below _ _ _; rw [hb1]; exact ((Below.refl _ w).alloc (Nat.le_refl _) _).alloc (by simp) _
        have hz1 := HB1.out.size
        clear hb1
        go_wp2_with fail
        go_ret2
        exact ⟨by rw [HE.out]; rfl, HB1.out.alloc hz1 _⟩
end Go.Proofs.Ytkihanmodfnpcab
