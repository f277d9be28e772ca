/- The law UndoIdle, walked: it answers true. -/
import Derived.Test.YtndhamcipbecfabUndoLit
import Derived.Test.YtndhamcipbecfabMeetKit
import Derived.Test.YtndhamcipbecfabRevTwo
import Derived.Test.YtndhamcipbecfabCloneRv
import Derived.Test.YtndhamcipbecfabRevL
namespace Go.Proofs.Ytndhamcipbecfab
open Go.RowKit
set_option linter.unusedSimpArgs false
set_option linter.unusedVariables false

theorem lit_undo4 : checkE [] [⟨1, 1, [⟨2, 0, ⟨#[97]⟩⟩]⟩, ⟨0, 1, allL 1⟩] = 0 ∧ undoD [] [⟨1, 1, [⟨2, 0, ⟨#[97]⟩⟩]⟩, ⟨0, 1, allL 1⟩] 2 = (allL 1, 0) := ⟨by rfl, by rfl⟩
/-- the second of two revisions, that does nothing -/
theorem UndoAll (w : World) (ad : Addr) (x : Option Addr) (cx : Nat) (hp : PartsAt w w.heap.size (some ad) [⟨2, 0, ⟨#[97]⟩⟩]) (hq : PartsAt w w.heap.size x (allL 1)) (hr : Room x (allL 1) cx) :
    Calls Try.prog 6 #[.string ⟨#[]⟩, .slice (some ⟨w.heap.size, 0, none⟩) 2 2, .int .i64 2] (w.alloc (.cells #[.int .i64 1, .int .i64 1, .slice (some ad) 1 1, .int .i64 0, .int .i64 1, .slice x (allL 1).length cx] 30)) fun e w' => ∃ a' c', e = .returned (.tuple #[.slice a' (allL 1).length c', .int .i64 0]) ∧ PartsAt w' w'.heap.size a' (allL 1) ∧ Below w.heap.size w w' := by
  have h3 := revs_two w ⟨1, 1, [⟨2, 0, ⟨#[97]⟩⟩]⟩ ⟨0, 1, allL 1⟩ ⟨⟨⟨by decide, by decide⟩, ⟨by decide, by decide⟩⟩, ⟨by decide, by decide⟩, ⟨by decide, by decide⟩⟩ (some ad) x 1 cx hp ⟨by decide, fun e => by cases e⟩ hq hr
  have h4 := h3.wider (Nat.le_of_eq (Deep.nblk_alloc w _).symm) (Nat.le_refl _)
  have h5 := UndoOf_ok ⟨#[]⟩ (some ⟨w.heap.size, 0, none⟩) [⟨1, 1, [⟨2, 0, ⟨#[97]⟩⟩]⟩, ⟨0, 1, allL 1⟩] 2 2 _ h4 (Nat.le_refl _) lit_undo4.1 (by decide) (by decide)
  rw [show undoD (⟨#[]⟩ : ByteArray).data.toList [⟨1, 1, [⟨2, 0, ⟨#[97]⟩⟩]⟩, ⟨0, 1, allL 1⟩] 2 = (allL 1, 0) from lit_undo4.2] at h5
  refine Calls.mono h5 ?_
  rintro e w' ⟨a', c', rfl, h6, h7, hb⟩
  have h8 : Below w.heap.size w (w.alloc (.cells #[.int .i64 1, .int .i64 1, .slice (some ad) 1 1, .int .i64 0, .int .i64 1, .slice x (allL 1).length cx] 30)) := (Below.refl _ w).alloc (Nat.le_refl _) _
  exact ⟨a', c', rfl, h6, h8.trans (hb.mono h8.size)⟩

set_option maxRecDepth 20000 in
set_option maxHeartbeats 8000000 in
theorem UndoIdle_any (s : ByteArray) (a : Option Addr) (l : List Rv) (cap : Nat) (w : World) (hl : RevsAt w w.heap.size a l) (hc : l.length ≤ cap) (hs : s.size ≤ 9223372036854775807) :
    Calls Try.prog 4 #[.string s, .slice a l.length cap] w fun e w' => e = .returned (.bool true) ∧ Below w.heap.size w w' := by
  obtain ⟨ip, hip, hp0, hp1, hp2⟩ := info_parts infoRev
  have hll := hl.1
  have HL : Hid (RevsAt w w.heap.size a l) := hl
  clear hl
  go_enter Try.func4, Try.ntmps4
  go_wp2_with fail
  refine (first_any ⟨#[97]⟩ _ (by decide)).mono ?_
  rintro e w1 ⟨ad, rfl, hq1, hb1⟩
  have HB1 : Hid (Below w.heap.size w w1) := hb1
  have HP1 : Hid (PartsAt w1 w1.heap.size (some ad) [⟨2, 0, ⟨#[97]⟩⟩]) := hq1
  clear hq1 hb1
  go_wp2_with fail
  refine (AllHi_any 1 _ (by decide) (by decide)).mono ?_
  rintro e w2 ⟨x2, c2, rfl, _, hq2, hr2, hb2⟩
  have HB2 : Hid (Below w.heap.size w w2) := HB1.out.trans (hb2.mono HB1.out.size)
  have HT2 : Hid (∀ _ : Unit, _) := fun _ => UndoAll w2 ad x2 c2 (HP1.out.here hb2 (Nat.le_refl _)) hq2 hr2
  clear hq2 hr2 hb2 HP1
  go_wp2_with fail
  refine Calls.mono (HT2.out ()) ?_
  rintro e w3 ⟨a3, c3, rfl, hq3, hb3⟩
  have HB3 : Hid (Below w.heap.size w w3) := HB2.out.trans (hb3.mono HB2.out.size)
  have HP3 : Hid (PartsAt w3 w3.heap.size a3 (allL 1)) := hq3
  clear hq3 hb3 HT2
  go_wp2_with fail
  refine (AllHi_any 1 _ (by decide) (by decide)).mono ?_
  rintro e w4 ⟨x4, c4, rfl, _, hq4, _, hb4⟩
  have HB4 : Hid (Below w.heap.size w w4) := HB3.out.trans (hb4.mono HB3.out.size)
  have HP4 : Hid (PartsAt w4 w4.heap.size a3 (allL 1)) := HP3.out.here hb4 (Nat.le_refl _)
  have HQ4 : Hid (PartsAt w4 w4.heap.size x4 (allL 1)) := hq4
  clear hq4 hb4
  go_wp2_with fail
  refine (same_n (la := allL 1) a3 x4 c3 c4 _ HP4.out HQ4.out _ (by rfl)).mono ?_
  rintro e w5 ⟨rfl, hb5⟩
  have HB5 : Hid (Below w.heap.size w w5) := HB4.out.trans (hb5.mono HB4.out.size)
  clear hb5
  by_cases h0 : checkE s.data.toList l = 0
  · obtain ⟨z1, z2, z3⟩ := check_zero h0
    have HT : Hid _ := fun w hh => Text_ok s a l cap l.length w hh hc h0 (Nat.le_refl _)
    have htl := text_le z3 z1 l.length
    obtain ⟨t, ht⟩ : ∃ t : ByteArray, (⟨(textAt s.data.toList l l.length).toArray⟩ : ByteArray) = t := ⟨_, rfl⟩
    have s1 : (textAt s.data.toList l l.length).length = t.size := by rw [← ht]; rfl
    rw [ht] at HT
    rw [s1] at htl
    by_cases h64 : 64 ≤ l.length
    · have q1 : (64 : Int) ≤ (l.length : Int) := by omega
      clear h0 z1 z3 ht s1 h64
      go_wp2_with fail
      refine (HT.out _ (HL.out.here HB5.out (Nat.le_refl _))).mono ?_
      rintro e w6 ⟨rfl, hb6⟩
      have HB6 : Hid (Below w.heap.size w w6) := HB5.out.trans (hb6.mono HB5.out.size)
      clear hb6
      go_wp2_with fail
      go_ret
      exact ⟨rfl, HB6.out⟩
    · have q1 : ¬ (64 : Int) ≤ (l.length : Int) := by omega
      have HI : Hid (∀ (a' : Option Addr) (c' : Nat) (w : World), RevsAt w w.heap.size a' (l ++ [⟨7, 0, allL (t.size : Nat)⟩]) → l.length + 1 ≤ c' → Calls Try.prog 6 #[.string s, .slice a' (l.length + 1) c', .int .i64 ((l.length : Int) + 1)] w fun e w' => ∃ a' c', e = .returned (.tuple #[.slice a' (allL (t.size : Nat)).length c', .int .i64 0]) ∧ PartsAt w' w'.heap.size a' (allL (t.size : Nat)) ∧ Below w.heap.size w w') := by
        intro a' c' w h1 h2
        obtain ⟨i1, i2⟩ := undo_idle (r := ⟨7, 0, allL (t.size : Nat)⟩) h0 (by omega) (by rw [s1]; rfl) ⟨by show (0 : Int) ≤ 7; decide, by show (7 : Int) ≤ 7; decide, by show (0 : Int) ≤ 0; decide, by show (0 : Int) ≤ 2147483647; decide⟩
        have h := UndoOf_ok s a' (l ++ [⟨7, 0, allL (t.size : Nat)⟩]) c' (l.length + 1) w h1 (by simpa using h2) i1 (by omega) (by simp)
        rw [i2, s1] at h
        rw [show (l ++ [(⟨7, 0, allL (t.size : Nat)⟩ : Rv)]).length = l.length + 1 by simp, show ((l.length + 1 : Nat) : Int) = (l.length : Int) + 1 by omega] at h
        refine Calls.mono h ?_
        rintro e w' ⟨a2, c2, rfl, h6, _, hb⟩
        exact ⟨a2, c2, rfl, h6, hb⟩
      have HCl : Hid _ := fun w hh => CloneRv_any a l cap w hh z2
      have hl6 : l.length ≤ 64 := z2
      clear h0 z1 z3 ht s1 h64
      go_wp2_with fail
      refine (HT.out _ (HL.out.here HB5.out (Nat.le_refl _))).mono ?_
      rintro e w6 ⟨rfl, hb6⟩
      have HB6 : Hid (Below w.heap.size w w6) := HB5.out.trans (hb6.mono HB5.out.size)
      clear hb6
      go_wp2_with fail
      refine (HCl.out _ (HL.out.here HB6.out (Nat.le_refl _))).mono ?_
      rintro e w7 ⟨v7, xs, rfl, hxs, hok7, hown7, hb7⟩
      have HB7 : Hid (Below w.heap.size w w7) := HB6.out.trans (hb7.mono HB6.out.size)
      have HXL : Hid (xs.length = l.length) := by show _ = _; rw [← hxs, List.length_map]
      have hx6 : xs.length ≤ 64 := by have := HXL.out; omega
      have HXS : Hid (xs.map (·.1) = l) := hxs
      have HOK7 : Hid (RvsOk w7 w6.heap.size xs) := hok7
      have HOW7 : Hid (w7.ownsRow w6.heap.size 30 3 v7 xs.length (rvAll xs)) := hown7
      obtain ⟨b7, d7, rfl⟩ := slice_form' hown7
      have hz67 := hb7.size
      have HB67 : Hid (Below w6.heap.size w6 w7) := hb7
      clear hxs hok7 hown7 hb7
      go_wp2_with fail
      refine (AllHi_any (t.size : Nat) _ (by omega) (by omega)).mono ?_
      rintro e w8 ⟨x8, c8, rfl, hu8, hq8, hr8, hb8⟩
      have HB8 : Hid (Below w.heap.size w w8) := HB7.out.trans (hb8.mono HB7.out.size)
      have HOW8 : Hid (w8.ownsRow w6.heap.size 30 3 (.slice b7 xs.length d7) xs.length (rvAll xs)) := own_below HOW7.out hb8
      have HOK8 : Hid (RvsOk w8 w6.heap.size xs) := HOK7.out.below hb8 hz67
      have HU8 : Hid (Above w7.heap.size x8 ∧ Room x8 (allL (t.size : Nat)) c8) := ⟨hu8, hr8⟩
      have HG7 : Hid (∀ g, (Value.slice b7 xs.length d7).ownBlock = some g → g < w7.heap.size) := fun g hg => (HOW7.out.lt g hg).2
      obtain ⟨A, hA⟩ : ∃ A, allL ((t.size : Nat) : Int) = A := ⟨_, rfl⟩
      have HP8 : Hid (PartsAt w8 w8.heap.size x8 A) := by rw [← hA]; exact hq8
      have HAA : Hid (allL ((t.size : Nat) : Int) = A) := hA
      rw [hA] at HI HU8 ⊢
      have hz78 := hb8.size
      have HB68 : Hid (Below w6.heap.size w6 w8) := HB67.out.trans (hb8.mono hz67)
      have hAs := own_alloc HOW8.out (.cells #[.int .i64 7, .int .i64 0, .slice x8 A.length c8] 30)
      have hNew : (w8.alloc (.cells #[.int .i64 7, .int .i64 0, .slice x8 A.length c8] 30)).heap[w8.heap.size]? = some (.cells #[.int .i64 7, .int .i64 0, .slice x8 A.length c8] 30 (0, 0)) := heap_alloc_new _ _
      have hB8 := HB8.out.size
      clear hu8 hq8 hr8 hb8 hA
      go_wp2_with (at_builtin; refine wpList_append_own _ rfl _ _ 22 rfl w6.heap.size 30 ip _ 3 40 Try.underlying22 hip hp0 hp1 hp2 rfl (by decide) _ _ _ rfl hAs ⟨w8.heap.size, 0, none⟩ 1 1 [.int .i64 7, .int .i64 0, .slice x8 A.length c8] rfl rfl (World.news_of_block (cs := #[.int .i64 7, .int .i64 0, .slice x8 A.length c8]) (t := 30) (fr := (0, 0)) hNew) (by simp [Value.oneCell']) ?c3 ?c4 ?c5 ?_)
      case c3 => unfold maxLen; omega
      case c4 => omega
      case c5 => first | omega | (simp; omega)
      intro v9 w9 hown9 hgrow _
      have HB9 : Hid (Below w6.heap.size w6 w9) := below_own' (HB68.out.alloc (by omega) _) hAs hgrow (by simp; omega)
      have HBW : Hid (Below w.heap.size w w9) := HB6.out.trans (HB9.out.mono HB6.out.size)
      have hg89 : Below w6.heap.size (w8.alloc (.cells #[.int .i64 7, .int .i64 0, .slice x8 A.length c8] 30)) w9 := below_own' (Below.refl _ _) hAs hgrow (by simp; omega)
      have HOK9 : Hid (RvsOk w9 w6.heap.size xs) := (HOK8.out.below ((Below.refl w6.heap.size w8).alloc (by omega) _) (Nat.le_refl _)).below hg89 (Nat.le_refl _)
      have HP9 : Hid (PartsAt w9 w9.heap.size x8 A) := PartsAt.apart (HP8.out.here ((Below.refl _ w8).alloc (Nat.le_refl _) _) (Nat.le_refl _)) hgrow HU8.out.1 HG7.out
      obtain ⟨a9, c9, e9, hc9, hr9⟩ : ∃ a c, v9 = .slice a (l.length + 1) c ∧ l.length + 1 ≤ c ∧ RevsAt w9 w9.heap.size a (l ++ [⟨7, 0, A⟩]) := by
        have ho : RvsOk w9 w9.heap.size (xs ++ [((⟨7, 0, A⟩ : Rv), x8, c8)]) := by
          intro y hy
          rcases List.mem_append.1 hy with hy | hy
          · exact (HOK9.out.wider HB9.out.size (Nat.le_refl _)) y hy
          · simp only [List.mem_cons, List.not_mem_nil, or_false] at hy
            subst hy
            exact ⟨⟨⟨by show _ ≤ (7 : Int); decide, by show (7 : Int) ≤ _; decide⟩, ⟨by show _ ≤ (0 : Int); decide, by show (0 : Int) ≤ _; decide⟩⟩, HP9.out, HU8.out.2⟩
        have hown : w9.ownsRow w6.heap.size 30 3 v9 (xs ++ [((⟨7, 0, A⟩ : Rv), x8, c8)]).length (rvAll (xs ++ [((⟨7, 0, A⟩ : Rv), x8, c8)])) := by
          rw [rvAll_app, List.length_append]
          exact hown9
        obtain ⟨a9, c9, e1, e2, e3⟩ := revs_own hown ho (by simp; omega)
        rw [List.length_append, HXL.out] at e1 e2
        rw [List.map_append, HXS.out] at e3
        exact ⟨a9, c9, e1, e2, e3⟩
      subst e9
      have HR9 : Hid (RevsAt w9 w9.heap.size a9 (l ++ [⟨7, 0, A⟩])) := hr9
      clear hown9 hgrow hg89 hAs hNew hr9
      go_wp2_with fail
      refine (HI.out a9 c9 _ HR9.out hc9).mono ?_
      rintro e w10 ⟨a10, c10, rfl, hq10, hb10⟩
      have HB10 : Hid (Below w.heap.size w w10) := HBW.out.trans (hb10.mono HBW.out.size)
      have HP10 : Hid (PartsAt w10 w10.heap.size a10 A) := hq10
      clear hq10 hb10
      go_wp2_with fail
      refine (AllHi_any (t.size : Nat) _ (by omega) (by omega)).mono ?_
      rintro e w11 ⟨x11, c11, rfl, _, hq11, _, hb11⟩
      rw [HAA.out] at hq11 ⊢
      have HB11 : Hid (Below w.heap.size w w11) := HB10.out.trans (hb11.mono HB10.out.size)
      have HP11 : Hid (PartsAt w11 w11.heap.size a10 A) := HP10.out.here hb11 (Nat.le_refl _)
      have HQ11 : Hid (PartsAt w11 w11.heap.size x11 A) := hq11
      clear hq11 hb11
      go_wp2_with fail
      refine (Same_yes a10 x11 A c10 c11 _ HP11.out HQ11.out).mono ?_
      rintro e w12 ⟨rfl, hb12⟩
      have HB12 : Hid (Below w.heap.size w w12) := HB11.out.trans (hb12.mono HB11.out.size)
      clear hb12
      go_wp2_with fail
      go_ret
      exact ⟨rfl, HB12.out⟩
  · obtain ⟨t1, t2⟩ := textE_bad (k := (l.length : Int)) h0
    have HT : Hid _ := fun w hh => Text_any s a l cap l.length w hh hc hs
    rw [t1, t2] at HT
    have q1 : (checkE s.data.toList l != 0) = true := by simp [h0]
    have q2 : (checkE s.data.toList l == 0) = false := by simp [h0]
    clear h0 t1 t2
    go_wp2_with fail
    refine (HT.out _ (HL.out.here HB5.out (Nat.le_refl _))).mono ?_
    rintro e w6 ⟨rfl, hb6⟩
    have HB6 : Hid (Below w.heap.size w w6) := HB5.out.trans (hb6.mono HB5.out.size)
    clear hb6
    go_wp2_with fail
    go_ret
    exact ⟨rfl, HB6.out⟩
end Go.Proofs.Ytndhamcipbecfab
