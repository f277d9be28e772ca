/- The law HotReads, walked: it answers true. -/
import Derived.Test.YtkihanmodfnpcabHotLaw
import Derived.Test.YtkihanmodfnpcabRLog
namespace Go.Proofs.Ytkihanmodfnpcab
open Go.RowKit
set_option linter.unusedSimpArgs false
set_option linter.unusedVariables false

set_option maxRecDepth 100000 in
set_option maxHeartbeats 4000000 in
theorem HotReads_any (s : ByteArray) (w : World) (hs : s.size ≤ 1000000000000) :
    Calls Try.prog 4 #[.string s] w fun e w' => e = .returned (.bool true) ∧ Below w.heap.size w w' := by
  have HR : Hid _ := fun w => Read_to s w (by omega)
  have HL : Hid (∀ w, Calls Try.prog 17 #[.string s] w fun e w' => ReadTo (logS (scanL s.data.toList).1) (logE (scanL s.data.toList).1) w e w') := fun w => (RLog_any s w hs).mono fun e w' h => read_to h
  obtain ⟨S, hS⟩ : ∃ S, logS (scanL s.data.toList).1 = S := ⟨_, rfl⟩
  obtain ⟨q, hq⟩ : ∃ q, logE (scanL s.data.toList).1 = q := ⟨_, rfl⟩
  have HS : Hid (S.first.length = 16 ∧ S.table.length = 16) := by show _ ∧ _; rw [← hS]; exact logS_tabs _
  rw [hS, hq] at HR HL
  clear hS hq
  go_enter Try.func4, Try.ntmps4
  go_wp2_with fail
  with_reducible refine (HR.out _).mono ?_
  rintro e w1 ⟨a, c, rfl, hr, hc, hb1⟩
  have HB1 : Hid (Below w.heap.size w (w1.alloc (.cells (rlC S a c).toArray 38))) := hb1.alloc hb1.size _
  have HR1 : Hid (RlAt (w1.alloc (.cells (rlC S a c).toArray 38)) w1.heap.size S a c) := rl_new hr hc HS.out.1 HS.out.2
  have HI1 : Hid _ := log_into (sC_len HS.out.1 HS.out.2) (rl_one S a c)
  clear hb1 hr hc
  go_upto_region 2 with (refine wpList_store_new rfl 38 _ _ rfl _ (rlC S a c).toArray (by rfl) (by rfl) HI1.out.1 (by exact HI1.out.2.1) HI1.out.2.2.1 ?_)
  generalize w1.alloc (.cells (rlC S a c).toArray 38) = w2 at HB1 HR1 ⊢
  obtain ⟨g, hg⟩ : ∃ g, w1.heap.size = g := ⟨_, rfl⟩
  rw [hg] at HR1 ⊢
  clear hg
  go_wp2_with fail
  with_reducible refine (HL.out _).mono ?_
  rintro e w3 ⟨b, d, rfl, hr, hc, hb3⟩
  have HB3 : Hid (Below w.heap.size w (w3.alloc (.cells (rlC S b d).toArray 38))) := (HB1.out.trans (hb3.mono HB1.out.size)).alloc (HB1.out.trans (hb3.mono HB1.out.size)).size _
  have HR3 : Hid (RlAt (w3.alloc (.cells (rlC S b d).toArray 38)) g S a c) := (HR1.out.next hb3).next ((Below.refl _ w3).alloc (Nat.le_refl _) _)
  have HQ3 : Hid (RlAt (w3.alloc (.cells (rlC S b d).toArray 38)) w3.heap.size S b d) := rl_new hr hc HS.out.1 HS.out.2
  have HI3 : Hid _ := log_into (sC_len HS.out.1 HS.out.2) (rl_one S b d)
  clear hb3 hr hc
  go_upto_region 3 with (refine wpList_store_new rfl 38 _ _ rfl _ (rlC S b d).toArray (by rfl) (by rfl) HI3.out.1 (by exact HI3.out.2.1) HI3.out.2.2.1 ?_)
  generalize w3.alloc (.cells (rlC S b d).toArray 38) = w4 at HB3 HR3 HQ3 ⊢
  obtain ⟨h, hh⟩ : ∃ h, w3.heap.size = h := ⟨_, rfl⟩
  rw [hh] at HQ3 ⊢
  clear hh
  have HSM : Hid _ := fun w h1 h2 => Same_to S a b c d w HS.out.1 HS.out.2 h1 h2
  have HA1 : Hid (w4.rangeAt g 0 (rlC S a c)) := HR3.out.all
  have HA2 : Hid (w4.rangeAt h 0 (rlC S b d)) := HQ3.out.all
  go_wp2_with (first | refine wpList_load_mid rfl 38 _ rfl g 0 rfl (rlC S a c) _ HA1.out Try.underlying38 rfl HI1.out.2.2.2 ?_ | refine wpList_load_mid rfl 38 _ rfl h 0 rfl (rlC S b d) _ HA2.out Try.underlying38 rfl HI3.out.2.2.2 ?_)
  with_reducible refine (HSM.out _ HR3.out.revs.1 HQ3.out.revs.1).mono ?_
  rintro e w5 ⟨rfl, hb5⟩
  have HB5 : Hid (Below w.heap.size w w5) := HB3.out.trans (hb5.mono HB3.out.size)
  clear hb5 HA1 HA2
  go_wp2_with fail
  go_ret
  exact ⟨rfl, HB5.out⟩
end Go.Proofs.Ytkihanmodfnpcab
