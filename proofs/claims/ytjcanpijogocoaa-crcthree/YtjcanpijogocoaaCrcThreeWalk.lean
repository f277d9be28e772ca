/- The law CrcThree, walked: it answers true. -/
import Derived.Test.YtjcanpijogocoaaCrcOf
import Derived.Test.YtjcanpijogocoaaBytesAt
import Derived.Deep.RegionHeld3
import Derived.Deep.OwnRows
namespace Go.Proofs.Ytjcanpijogocoaa
open Go.RowKit
set_option linter.unusedSimpArgs false
set_option linter.unusedVariables false

theorem crc_nine3 : (crcL [49, 50, 51, 52, 53, 54, 55, 56, 57]).toNat = 3808858755 := by decide +kernel
theorem least3 {a b c n : Nat} (h : n = min (min a b) c) (ts : Array TypeId) (t : TypeId) (w : World) :
    (Builtin.min_ ts t #[.int .i64 (a : Int), .int .i64 (b : Int), .int .i64 (c : Int)]).run Try.prog w = .ok (.int .i64 (n : Int)) w := by
  subst h
  by_cases h1 : b < a
  · have h1' : (b : Int) < a := by omega
    by_cases h2 : c < b
    · have h2' : (c : Int) < b := by omega
      simp [Builtin.min_, Builtin.min2, h1', h2']; omega
    · have h2' : ¬ (c : Int) < b := by omega
      simp [Builtin.min_, Builtin.min2, h1', h2']; omega
  · have h1' : ¬ (b : Int) < a := by omega
    by_cases h2 : c < a
    · have h2' : (c : Int) < a := by omega
      simp [Builtin.min_, Builtin.min2, h1', h2']; omega
    · have h2' : ¬ (c : Int) < a := by omega
      simp [Builtin.min_, Builtin.min2, h1', h2']; omega
theorem fill_set {X : List UInt8} {k : Nat} {d : UInt8} (h : X[k]? = some d) : (X.take k ++ List.replicate (X.length - k) 0).set k d = X.take (k + 1) ++ List.replicate (X.length - (k + 1)) 0 := by
  obtain ⟨hk, rfl⟩ := List.getElem?_eq_some_iff.1 h
  have hl : (X.take k).length = k := by rw [List.length_take]; omega
  rw [List.set_append_right _ _ (by omega), hl, Nat.sub_self, show X.length - k = (X.length - (k + 1)) + 1 by omega, List.replicate_succ, List.set_cons_zero, List.take_add_one, h, List.append_assoc]
  rfl
theorem ext_take (s : ByteArray) (n : Nat) : (s.extract 0 n).data.toList = s.data.toList.take n := by rw [Lib.extract_data]; simp

theorem text_keep {w w' : World} {g n : Nat} {X : List UInt8} (hl : X.length = n) (h : BytesAt w g X ∧ (convert 38 9 (.slice (some ⟨g, 0, none⟩) n n)).run Try.prog w = .ok (.string ⟨X.toArray⟩) w) (hb : Below w.heap.size w w') :
    BytesAt w' g X ∧ (convert 38 9 (.slice (some ⟨g, 0, none⟩) n n)).run Try.prog w' = .ok (.string ⟨X.toArray⟩) w' := by
  have h1 := h.1.below hb h.1.here
  have h2 := h1.text n
  rw [hl] at h2
  exact ⟨h1, h2⟩
set_option maxRecDepth 100000 in
set_option maxHeartbeats 4000000 in
theorem CrcThree_any (a b c : ByteArray) (w : World) (ha : a.size ≤ 140737488355328) (hb : b.size ≤ 140737488355328) (hc : c.size ≤ 140737488355328) :
    Calls Try.prog 7 #[.string a, .string b, .string c] w fun e w' => e = .returned (.bool true) ∧ Below w.heap.size w w' := by
  have H0 : Hid _ := fun w => CrcOf_any ⟨#[49, 50, 51, 52, 53, 54, 55, 56, 57]⟩ w (by decide)
  rw [crc_nine3] at H0
  have la : a.data.toList.length = a.size := Array.length_toList
  have lb : b.data.toList.length = b.size := Array.length_toList
  have lc : c.data.toList.length = c.size := Array.length_toList
  obtain ⟨n, hn⟩ : ∃ n, n = min (min a.size b.size) c.size := ⟨_, rfl⟩
  have hmin := fun ts t w => least3 hn ts t w
  have na : n ≤ a.size := by omega
  have nb : n ≤ b.size := by omega
  have nc : n ≤ c.size := by omega
  obtain ⟨X, hX⟩ : ∃ X, List.zipWith (fun x y => x ^^^ y) (List.zipWith (fun x y => x ^^^ y) (a.data.toList.take n) (b.data.toList.take n)) (c.data.toList.take n) = X := ⟨_, rfl⟩
  have hXl : X.length = n := by rw [← hX]; simp; omega
  have h3 := crc_three (a.data.toList.take n) (b.data.toList.take n) (c.data.toList.take n) (by simp; omega) (by simp; omega)
  rw [hX] at h3
  have HX : Hid _ := hX
  have H3 : Hid _ := h3
  have hmk := fun (w : World) => run_make_row' (P := Try.prog) 38 5 (.int .u8 0) 1 Try.underlying38 infoByte rfl .i64 .i64 n (by omega) (by omega) w
  clear hX h3 hn
  go_enter Try.func7, Try.ntmps7
  go_wp2_with fail
  refine (H0.out _).mono ?_
  rintro e w1 ⟨rfl, hb1⟩
  have HB1 : Hid (Below w.heap.size w w1) := hb1
  have hz1 := hb1.size
  clear hb1
  go_wp2_with fail
  have hR := bytes_made w1 n
  have HB2 : Hid (Below w.heap.size w (w1.alloc (.cells (madeCells #[.int .u8 0] n) 5))) := HB1.out.alloc hz1 _
  generalize w1.alloc (.cells (madeCells #[.int .u8 0] n) 5) = W2 at hR HB2 ⊢
  have HR : Hid (BytesAt W2 w1.heap.size (List.replicate n 0)) := hR
  have HHS : Hid (w.heap.size ≤ w1.heap.size) := hz1
  obtain ⟨g, hg⟩ : ∃ g, w1.heap.size = g := ⟨_, rfl⟩
  rw [hg] at HR HHS ⊢
  have HXL : Hid (X.length = n) := hXl
  clear hg hR hmk hmin hz1 hXl H0
  go_loopw [23] (fun i wr => ∃ k : Nat, k ≤ n ∧ i = .int .i64 k ∧ BytesAt wr g (X.take k ++ List.replicate (X.length - k) 0) ∧ Below w.heap.size w wr) (fun i _ => n - (intOf i).toNat)
  case atStart => exact ⟨0, by omega, rfl, by simpa [HXL.out] using HR.out, HB2.out⟩
  case round =>
    rename World => wr
    obtain ⟨k, hk, rfl, hby, hbe⟩ := hrel
    have HBE : Hid (Below w.heap.size w wr) := hbe
    by_cases hlt : k < n
    · obtain ⟨ca, hca⟩ : ∃ x, a.data.toList[k]? = some x := ⟨a.data.toList[k]'(by omega), List.getElem?_eq_getElem _⟩
      obtain ⟨cb, hcb⟩ : ∃ x, b.data.toList[k]? = some x := ⟨b.data.toList[k]'(by omega), List.getElem?_eq_getElem _⟩
      obtain ⟨cc, hcc⟩ : ∃ x, c.data.toList[k]? = some x := ⟨c.data.toList[k]'(by omega), List.getElem?_eq_getElem _⟩
      have ata := at_byte hca (by omega)
      have atb := at_byte hcb (by omega)
      have atc := at_byte hcc (by omega)
      have HD : Hid (X[k]? = some (ca ^^^ cb ^^^ cc)) := by
        show _ = _
        rw [← HX.out]
        simp [List.getElem?_zipWith, List.getElem?_take_of_lt hlt, hca, hcb, hcc]
      have hx8 : bits .xor .u8 (bits .xor .u8 (ca.toNat : Int) (cb.toNat : Int)) (cc.toNat : Int) = ((ca ^^^ cb ^^^ cc).toNat : Int) := by
        rw [u8_xor_nat _ _ ca.toNat_lt cb.toNat_lt, u8_xor_nat _ _ (Nat.xor_lt_two_pow (n := 8) ca.toNat_lt cb.toNat_lt) cc.toNat_lt, UInt8.toNat_xor, UInt8.toNat_xor]
      obtain ⟨d, hd⟩ : ∃ d, ca ^^^ cb ^^^ cc = d := ⟨_, rfl⟩
      rw [hd] at HD hx8
      have hlen : (X.take k ++ List.replicate (X.length - k) (0 : UInt8)).length = n := by rw [List.length_append, List.length_take, List.length_replicate, HXL.out]; omega
      obtain ⟨L, hL⟩ : ∃ L, X.take k ++ List.replicate (X.length - k) (0 : UInt8) = L := ⟨_, rfl⟩
      have HSET : Hid (L.set k d = X.take (k + 1) ++ List.replicate (X.length - (k + 1)) 0) := by show _ = _; rw [← hL]; exact fill_set HD.out
      rw [hL] at hby hlen
      have HBY : Hid (BytesAt wr g L) := hby
      have hfz := hby.loose (j := k) (by omega)
      obtain ⟨c0, hc0⟩ : ∃ x, L[k]? = some x := ⟨L[k]'(by omega), List.getElem?_eq_getElem _⟩
      have hcell := hby.cellOf hc0
      have k0 : (0 : Int) ≤ (k : Int) := by omega
      have ka : (k : Int) < (a.size : Int) := by omega
      have kb : (k : Int) < (b.size : Int) := by omega
      have kc : (k : Int) < (c.size : Int) := by omega
      have kn : (k : Int) < (n : Int) := by omega
      clear hca hcb hcc hd hL hby hbe hlen hc0
      go_wp2_with fail
      go_region
      go_wp2_with fail
      go_roundw
      case rel => exact ⟨k + 1, by omega, by go_num, by rw [← HSET.out]; exact (HBY.out.put k d).drew, (HBE.out.setCell HHS.out _).drew⟩
      case measure => simp [intOf]; omega
    · have hkn : k = n := by omega
      subst hkn
      rw [HXL.out, Nat.sub_self, List.take_of_length_le (by rw [HXL.out]; exact Nat.le_refl _), List.replicate_zero, List.append_nil] at hby
      have htx := hby.text k
      have htx2 := hby.drew.text k
      rw [HXL.out] at htx htx2
      have HBY : Hid (BytesAt wr g X) := hby
      have K1 : Hid _ := fun w => CrcOf_any ⟨X.toArray⟩ w (by show X.toArray.size ≤ _; simp [HXL.out]; omega)
      have K2 : Hid _ := fun w => CrcOf_any (a.extract 0 k) w (by rw [ByteArray.size_extract]; omega)
      have K3 : Hid _ := fun w => CrcOf_any (b.extract 0 k) w (by rw [ByteArray.size_extract]; omega)
      have K4 : Hid _ := fun w => CrcOf_any (c.extract 0 k) w (by rw [ByteArray.size_extract]; omega)
      change Hid (∀ w, Calls Try.prog 9 #[.string ⟨X.toArray⟩] w fun e w' => e = .returned (.int .u32 ((crcL X).toNat : Int)) ∧ Below w.heap.size w w') at K1
      rw [ext_take] at K2 K3 K4
      obtain ⟨x2, hx2⟩ : ∃ x, crcL (a.data.toList.take k) = x := ⟨_, rfl⟩
      obtain ⟨x3, hx3⟩ : ∃ x, crcL (b.data.toList.take k) = x := ⟨_, rfl⟩
      obtain ⟨x4, hx4⟩ : ∃ x, crcL (c.data.toList.take k) = x := ⟨_, rfl⟩
      rw [hx2] at K2
      rw [hx3] at K3
      rw [hx4] at K4
      have hxx : bits .xor .u32 (bits .xor .u32 (x2.toNat : Int) (x3.toNat : Int)) (x4.toNat : Int) = ((crcL X).toNat : Int) := by
        rw [u32_xor_nat _ _ x2.isLt x3.isLt, u32_xor_nat _ _ (xor_lt32 x2.isLt x3.isLt) x4.isLt, H3.out, hx2, hx3, hx4, BitVec.toNat_xor, BitVec.toNat_xor]
      obtain ⟨n1, hn1⟩ : ∃ x, (crcL X).toNat = x := ⟨_, rfl⟩
      obtain ⟨n2, hn2⟩ : ∃ x, x2.toNat = x := ⟨_, rfl⟩
      obtain ⟨n3, hn3⟩ : ∃ x, x3.toNat = x := ⟨_, rfl⟩
      obtain ⟨n4, hn4⟩ : ∃ x, x4.toNat = x := ⟨_, rfl⟩
      rw [hn1] at K1 hxx
      rw [hn2] at K2 hxx
      rw [hn3] at K3 hxx
      rw [hn4] at K4 hxx
      have k0 : (0 : Int) ≤ (k : Int) := by omega
      have ka : (k : Int) ≤ (a.size : Int) := by omega
      have kb : (k : Int) ≤ (b.size : Int) := by omega
      have kc : (k : Int) ≤ (c.size : Int) := by omega
      clear hn1 hn2 hn3 hn4 hx2 hx3 hx4 hby hbe HX H3 HR
      go_wp2_with fail
      go_region_held3 (fun w' => BytesAt w' g X ∧ (convert 38 9 (.slice (some ⟨g, 0, none⟩) k k)).run Try.prog w' = .ok (.string ⟨X.toArray⟩) w') (first | exact ⟨HBY.out, htx⟩ | exact ⟨HBY.out.drew, htx2⟩ | exact text_keep HXL.out (by assumption) hb5 | exact text_keep HXL.out (by assumption) hb6 | exact text_keep HXL.out (by assumption) hb7 | exact text_keep HXL.out (by assumption) hb8) (first | (go_at_call 9; with_reducible refine (K1.out _).mono ?_; rintro e w5 ⟨rfl, hb5⟩) | (go_at_call 9; with_reducible refine (K2.out _).mono ?_; rintro e w6 ⟨rfl, hb6⟩) | (go_at_call 9; with_reducible refine (K3.out _).mono ?_; rintro e w7 ⟨rfl, hb7⟩) | (go_at_call 9; with_reducible refine (K4.out _).mono ?_; rintro e w8 ⟨rfl, hb8⟩))
      all_goals
        have HB5 : Hid (Below w.heap.size w w5) := HBE.out.drew.trans (hb5.mono HBE.out.size)
        have HB6 : Hid (Below w.heap.size w w6) := HB5.out.trans (hb6.mono HB5.out.size)
        have HB7 : Hid (Below w.heap.size w w7) := HB6.out.trans (hb7.mono HB6.out.size)
        have HB8 : Hid (Below w.heap.size w w8) := HB7.out.trans (hb8.mono HB7.out.size)
        clear hb5 hb6 hb7 hb8
        go_wp2_with fail
        go_ret
        exact ⟨rfl, HB8.out⟩
end Go.Proofs.Ytjcanpijogocoaa
