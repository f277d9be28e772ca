/- As many bytes come of a text as Out says; and what the laws' All answers. -/
import Derived.Test.YtinhidddfpjjkabDelta
import Derived.Test.YtinhidddfpjjkabPtOwn
import Derived.Deep.Heap
namespace Go.Proofs.Ytinhidddfpjjkab
open Go.RowKit
set_option linter.unusedSimpArgs false
set_option linter.unusedVariables false

theorem doL_len {l : List Pt} (hs : ∀ p ∈ l, 0 ≤ p.n ∧ p.n ≤ 500 ∧ p.t.size ≤ 500) (hr : Right l) {s : List UInt8} (h : (s.length : Int) = inI l) : ((doL l s).length : Int) = outI l := by
  induction l generalizing s with
  | nil => simp [doL, outI]
  | cons p r ih =>
    have hp := hr p (by simp)
    have hb := hs p (by simp)
    have hs' : ∀ q ∈ r, 0 ≤ q.n ∧ q.n ≤ 500 ∧ q.t.size ≤ 500 := fun q hq => hs q (List.mem_cons_of_mem _ hq)
    have hr' : Right r := fun q hq => hr q (List.mem_cons_of_mem _ hq)
    have hge := (inI_bd hs').1
    have ih := fun (s : List UInt8) => ih hs' hr' (s := s)
    simp only [inI] at h
    have htl : p.t.data.toList.length = p.t.size := Array.length_toList
    rcases hp with ⟨h1 | h1 | h1, h2, h3, h4⟩
    · have e := ih (s.drop p.n.toNat) (by rw [List.length_drop]; omega)
      have ht := (h3 (by omega)).1
      rw [doL, if_pos h1, outI, if_neg (by omega), List.length_append, List.length_take, ht]
      omega
    · have e := ih s (by have := h2 h1; omega)
      have hn := h2 h1
      rw [doL, if_neg (by omega), if_pos h1, outI, if_neg (by omega), List.length_append, htl, hn]
      omega
    · have e := ih (s.drop p.n.toNat) (by rw [List.length_drop]; omega)
      rw [doL, if_neg (by omega), if_neg (by omega), outI, if_pos h1]
      omega

def allL (n : Int) : List Pt := if n = 0 then [] else [⟨1, n, ByteArray.empty⟩]

set_option maxHeartbeats 400000 in
theorem RAll_any (n : Int) (w : World) (h0 : 0 ≤ n) (h1 : n ≤ 9223372036854775807) :
    Calls Try.prog 52 #[.int .i64 n] w fun e w' => ∃ a cap, e = .returned (.slice a (allL n).length cap) ∧ PartsAt w' w'.heap.size a (allL n) ∧ Below w.heap.size w w' := by
  by_cases hn : n = 0
  · have hn' : (n == 0) = true := by simp [hn]
    have HN : Hid (allL n = []) := by show _ = _; simp [allL, hn]
    clear hn
    go_enter Try.func52, Try.ntmps52
    go_wp2
    go_ret
    exact ⟨none, 0, by rw [HN.out]; rfl, by rw [HN.out]; exact ⟨by simp, Nat.le_refl _, by simp, by simp⟩, Below.refl _ _⟩
  · have hn' : (n == 0) = false := by simp [hn]
    have HN : Hid (allL n = [⟨1, n, ByteArray.empty⟩]) := by show _ = _; simp [allL, hn]
    clear hn
    go_enter Try.func52, Try.ntmps52
    go_wp2
    go_ret
    refine ⟨some ⟨w.heap.size, 0, none⟩, 1, by rw [HN.out]; rfl, ?_, (Below.refl _ _).alloc (Nat.le_refl _) _⟩
    rw [HN.out]
    have h2 := parts_lit w [⟨1, n, ByteArray.empty⟩] ⟨by simp, by intro p hp; simp at hp; subst hp; exact ⟨Nat.zero_le _, by show _ ≤ n; omega, h1, by show _ ≤ (1 : Int); omega, by show (1 : Int) ≤ _; omega⟩⟩
    rw [show (w.alloc (.cells #[.int .i64 1, .int .i64 n, .string ⟨#[]⟩] 58)).heap.size = w.heap.size + 1 from Deep.nblk_alloc _ _]
    exact h2

set_option maxHeartbeats 400000 in
theorem All_any (n : Int) (w : World) (h0 : 0 ≤ n) (h1 : n ≤ 9223372036854775807) :
    Calls Try.prog 21 #[.int .i64 n] w fun e w' => ∃ a cap, e = .returned (.slice a (allL n).length cap) ∧ PartsAt w' w'.heap.size a (allL n) ∧ Below w.heap.size w w' := by
  go_enter Try.func21, Try.ntmps21
  go_wp2_with fail
  refine (RAll_any n _ h0 h1).mono ?_
  rintro e w1 ⟨a, cap, rfl, hp, hb⟩
  have HP : Hid _ := hp
  clear hp
  go_wp2_with fail
  go_ret
  exact ⟨a, cap, rfl, HP.out, hb⟩

end Go.Proofs.Ytinhidddfpjjkab

