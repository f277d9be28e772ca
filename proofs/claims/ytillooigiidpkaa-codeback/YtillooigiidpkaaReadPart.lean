/- What code.readPart answers. -/
import Derived.Test.YtillooigiidpkaaClone
import Derived.Test.YtillooigiidpkaaNumGet
import Derived.Test.YtillooigiidpkaaCodeReadL
import Derived.Deep.RegionHeld3
namespace Go.Proofs.Ytillooigiidpkaa
open Go.RowKit
set_option linter.unusedSimpArgs false
set_option linter.unusedVariables false

theorem drop_text (s : ByteArray) (a : Nat) : (s.extract a s.size).data.toList = s.data.toList.drop a := by
  rw [Lib.extract_data]
  have h : s.data.toList.length = s.size := Array.length_toList
  exact List.take_of_length_le (by rw [List.length_drop, h]; omega)

set_option maxRecDepth 20000 in
set_option maxHeartbeats 4000000 in
theorem readPart_no (s : ByteArray) (w : World) (hs : s.size ≤ 9223372036854775807) (hr : readP s.data.toList = none) :
    Calls Try.prog 34 #[.string s] w fun e w' => ∃ q : Int, e = .returned (.tuple #[.agg #[.int .i64 0, .int .i64 0, .string ⟨#[]⟩], .string ⟨#[]⟩, .int .i64 q]) ∧ q ≠ 0 ∧ Below w.heap.size w w' := by
  have hsl : s.data.toList.length = s.size := Array.length_toList
  by_cases h0 : getE s.data.toList = 0
  · have hg := get_le h0
    rw [readP, if_pos h0] at hr
    split at hr
    · rename_i h2
      split at hr
      · simp at hr
      · rename_i h4
        rw [List.length_drop, hsl] at h4
        rw [hsl] at hg
        have HG : Hid _ := fun w => Get_any s w (by omega)
        obtain ⟨n, hn⟩ : ∃ n, getN s.data.toList = n := ⟨_, rfl⟩
        obtain ⟨k, hk⟩ : ∃ k, getK s.data.toList = k := ⟨_, rfl⟩
        rw [h0, hn, hk] at HG
        rw [hn, hk] at hg
        rw [hn] at h2
        rw [hn, hk] at h4
        obtain ⟨g1, g2, g3⟩ := hg
        have hm : (n : Int) % 4 = 2 := by omega
        clear h0 hn hk hr hsl h2
        go_enter Try.func34, Try.ntmps34
        go_wp2_with fail
        refine (HG.out _).mono ?_
        rintro e w1 ⟨rfl, e1⟩
        subst e1
        go_wp2_with fail
        exact bodyPost_ret (v := .tuple #[.agg #[.int .i64 0, .int .i64 0, .string ⟨#[]⟩], .string ⟨#[]⟩, .int .i64 5]) (by simp [results, Try.results34, go_sem]) rfl ⟨5, rfl, by decide, (Below.refl _ _).alloc (Nat.le_refl _) _⟩
    · simp at hr
  · have HG : Hid _ := fun w => Get_any s w (by omega)
    obtain ⟨g1, g2⟩ := get_bad h0
    rw [g1, g2] at HG
    obtain ⟨q, hq⟩ : ∃ q, getE s.data.toList = q := ⟨_, rfl⟩
    rw [hq] at HG h0
    have hq' : (q != 0) = true := by simp [h0]
    have HQ : Hid (q ≠ 0) := h0
    clear g1 g2 hq hr h0 hsl
    go_enter Try.func34, Try.ntmps34
    go_wp2_with fail
    refine (HG.out _).mono ?_
    rintro e w1 ⟨rfl, e1⟩
    subst e1
    go_wp2_with fail
    exact bodyPost_ret (v := .tuple #[.agg #[.int .i64 0, .int .i64 0, .string ⟨#[]⟩], .string ⟨#[]⟩, .int .i64 q]) (by simp [results, Try.results34, go_sem]) rfl ⟨q, rfl, HQ.out, (Below.refl _ _).alloc (Nat.le_refl _) _⟩

/-- the cell of the answer, behind a call -/
theorem cell_kept {w w2 : World} (hb : Below ((w.alloc (.cells #[.int .i64 0, .int .i64 0, .string ⟨#[]⟩] 51)).drew).heap.size ((w.alloc (.cells #[.int .i64 0, .int .i64 0, .string ⟨#[]⟩] 51)).drew) w2) :
    w2.frozen? ⟨w.heap.size, 0, none⟩ = false ∧ w2.frozen? ⟨w.heap.size, 1, none⟩ = false ∧ w2.frozen? ⟨w.heap.size, 2, none⟩ = false ∧ w2.cell? ⟨w.heap.size, 0, none⟩ = some (.int .i64 0) ∧ w2.cell? ⟨w.heap.size, 1, none⟩ = some (.int .i64 0) ∧ w2.cell? ⟨w.heap.size, 2, none⟩ = some (.string ⟨#[]⟩) := by
  have h1 : w2.heap[w.heap.size]? = some (.cells #[.int .i64 0, .int .i64 0, .string ⟨#[]⟩] 51 (0, 0)) := by
    rw [hb.block w.heap.size (by show w.heap.size < (w.heap.push _).size; simp)]
    exact Deep.blk_alloc_new w _
  refine ⟨Lib.frozen_of_heap h1 0, Lib.frozen_of_heap h1 1, Lib.frozen_of_heap h1 2, ?_, ?_, ?_⟩ <;> (rw [Lib.cell_of_heap h1]; rfl)

set_option maxRecDepth 20000 in
set_option maxHeartbeats 4000000 in
theorem readPart_ok (s : ByteArray) (p : Pt) (r : List UInt8) (w : World) (hs : s.size ≤ 9223372036854775807) (hr : readP s.data.toList = some (p, r)) :
    Calls Try.prog 34 #[.string s] w fun e w' => ∃ rs : ByteArray, e = .returned (.tuple #[.agg #[.int .i64 p.k, .int .i64 p.n, .string p.t], .string rs, .int .i64 0]) ∧ rs.data.toList = r ∧ Below w.heap.size w w' := by
  have hsl : s.data.toList.length = s.size := Array.length_toList
  by_cases h0 : getE s.data.toList = 0
  · have hg := get_le h0
    rw [readP, if_pos h0] at hr
    have HG : Hid _ := fun w => Get_any s w (by omega)
    have HDT : Hid _ := drop_text s (getK s.data.toList)
    rw [hsl] at hg
    obtain ⟨l, hl⟩ : ∃ l, s.data.toList = l := ⟨_, rfl⟩
    rw [hl] at hr HG hg h0 HDT hsl
    obtain ⟨n, hn⟩ : ∃ n, getN l = n := ⟨_, rfl⟩
    obtain ⟨k, hk⟩ : ∃ k, getK l = k := ⟨_, rfl⟩
    rw [h0, hn, hk] at HG
    rw [hn, hk] at hg hr
    rw [hk] at HDT
    clear hl hn hk h0
    obtain ⟨g1, g2, g3⟩ := hg
    have hxl : (s.extract k s.size).size = s.size - k := by rw [ByteArray.size_extract]; omega
    split at hr
    · rename_i h2
      split at hr
      · rename_i h4
        rw [List.length_drop, hsl] at h4
        simp only [Option.some.injEq, Prod.mk.injEq] at hr
        obtain ⟨rfl, rfl⟩ := hr
        have hm : (n : Int) % 4 = 2 := by omega
        obtain ⟨m, hmn⟩ : ∃ m, n / 4 = m := ⟨_, rfl⟩
        have hq : (n : Int) / 4 = (m : Int) := by omega
        rw [hmn] at h4
        have m0 : (0 : Int) ≤ (m : Int) := by omega
        have m1 : (m : Int) ≤ ((s.size - k : Nat) : Int) := by omega
        have HX : Hid ((s.extract k s.size).extract 0 m = ⟨((l.drop k).take (n / 4)).toArray⟩) := by
          show _ = _
          rw [← str_eq ((s.extract k s.size).extract 0 m), Lib.extract_data, HDT.out, hmn]; simp
        have HY : Hid (((s.extract k s.size).extract m (s.extract k s.size).size).data.toList = (l.drop k).drop (n / 4)) := by
          show _ = _
          rw [drop_text, HDT.out, hmn]
        rw [hxl] at HY
        have HZ : Hid (((s.extract k s.size).extract 0 m).size ≤ 281474976710656) := by
          show _ ≤ _
          rw [ByteArray.size_extract, hxl]
          have : m ≤ 2147483647 := by omega
          omega
        clear h2 hsl hxl hmn HDT
        go_enter Try.func34, Try.ntmps34
        go_wp2_with fail
        refine (HG.out _).mono ?_
        rintro e w1 ⟨rfl, e1⟩
        subst e1
        go_wp2_with fail
        go_region_held3 (fun _ => True) (trivial) (first | (go_at_call 38; refine (Clone_any _ _ HZ.out).mono ?_; rintro e w2 ⟨rfl, hb2⟩; obtain ⟨f0, f1, f2, d0, d1, d2⟩ := cell_kept hb2))
        all_goals
          have hz2 := hb2.size
          have HB2 : Hid (Below w.heap.size w w2) := (((Below.refl _ w).alloc (Nat.le_refl _) _).drew).trans (hb2.mono (by show w.heap.size ≤ (w.heap.push _).size; simp))
          clear hb2
          go_wp2_with fail
          refine bodyPost_ret (v := .tuple #[.agg #[.int .i64 2, .int .i64 0, .string ((s.extract k s.size).extract 0 m)], .string ((s.extract k s.size).extract m (s.size - k)), .int .i64 0]) (by simp [results, Try.results34, go_sem, *]) rfl ⟨_, by rw [HX.out], HY.out, ?_⟩
          exact ((HB2.out.setCell (p := ⟨w.heap.size, 0, none⟩) (Nat.le_refl _) _).setCell (p := ⟨w.heap.size, 1, none⟩) (Nat.le_refl _) _).setCell (p := ⟨w.heap.size, 2, none⟩) (Nat.le_refl _) _
      · simp at hr
    · rename_i h2
      simp only [Option.some.injEq, Prod.mk.injEq] at hr
      obtain ⟨rfl, rfl⟩ := hr
      have hm : ((n : Int) % 4 != 2) = true := by rw [bne_iff_ne]; omega
      have e1 : ((n % 4 : Nat) : Int) = (n : Int) % 4 := by omega
      have e2 : ((n / 4 : Nat) : Int) = (n : Int) / 4 := by omega
      have HE : Hid _ := e1
      have HE2 : Hid _ := e2
      clear h2 e1 e2 hsl hxl
      go_enter Try.func34, Try.ntmps34
      go_wp2_with fail
      refine (HG.out _).mono ?_
      rintro e w1 ⟨rfl, e1⟩
      subst e1
      go_wp2_with fail
      exact bodyPost_ret (v := .tuple #[.agg #[.int .i64 ((n : Int) % 4), .int .i64 ((n : Int) / 4), .string ⟨#[]⟩], .string (s.extract k s.size), .int .i64 0]) (by simp [results, Try.results34, go_sem]) rfl ⟨s.extract k s.size, by rw [HE.out, HE2.out], HDT.out, (Below.refl _ _).alloc (Nat.le_refl _) _⟩
  · rw [readP, if_neg h0] at hr
    simp at hr
end Go.Proofs.Ytillooigiidpkaa
