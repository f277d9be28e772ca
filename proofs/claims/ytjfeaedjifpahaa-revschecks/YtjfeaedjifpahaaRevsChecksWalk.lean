/- The law RevsChecks, walked: it answers true. -/
import Derived.Test.YtjfeaedjifpahaaRevText
import Derived.Test.YtjfeaedjifpahaaRTexts
namespace Go.Proofs.Ytjfeaedjifpahaa
open Go.RowKit
set_option linter.unusedSimpArgs false
set_option linter.unusedVariables false

set_option maxRecDepth 20000 in
set_option maxHeartbeats 4000000 in
theorem RevsChecks_any (s : ByteArray) (a : Option Addr) (l : List Rv) (cap : Nat) (k : Int) (w : World) (hl : RevsAt w w.heap.size a l) (hc : l.length ≤ cap) (hs : s.size ≤ 9223372036854775807) :
    Calls Try.prog 3 #[.string s, .slice a l.length cap, .int .i64 k] w fun e w' => e = .returned (.bool true) ∧ Below w.heap.size w w' := by
  have hll := hl.1
  have HL : Hid (RevsAt w w.heap.size a l) := hl
  clear hl
  go_enter Try.func3, Try.ntmps3
  go_wp2_with fail
  go_loopw [15] (fun i wr => ∃ j : Nat, j ≤ l.length ∧ i = .int .i64 j ∧ Below w.heap.size w wr) (fun i _ => l.length - (intOf i).toNat)
  case atStart => exact ⟨0, Nat.zero_le _, rfl, Below.refl _ _⟩
  case round =>
    obtain ⟨j, hj, rfl, hb⟩ := hrel
    by_cases hlt : j < l.length
    · obtain ⟨r, hrj⟩ : ∃ r, l[j]? = some r := ⟨l[j], List.getElem?_eq_getElem hlt⟩
      have hji : (j : Int) < (l.length : Int) := by omega
      obtain ⟨b, off, ai, ci, rfl, hblt, c1, c2, c3, hpd, hrm⟩ := (HL.out.below hb (Nat.le_refl _)).mem hrj
      have hz := hb.size
      have hbw : b < wr.heap.size := by omega
      have H0 : Hid (RHeld w w.heap.size wr.heap.size r ai ci (wr.alloc (.cells #[.int .i64 r.who, .int .i64 r.seq, .slice ai r.d.length ci] 25)).drew) := (rheld_new (w0 := w) (r := r) (a := ai) (c := ci) hpd hb hz).drew
      have hself : (oneE r != oneE r) = false := by simp
      clear hb hpd hrm hrj
      go_wp2_with fail
      go_region_held3 (fun w' => w'.cell? ⟨wr.heap.size, 0, none⟩ = some (.int .i64 r.who) ∧ w'.cell? ⟨wr.heap.size, 1, none⟩ = some (.int .i64 r.seq) ∧ w'.cell? ⟨wr.heap.size, 2, none⟩ = some (.slice ai r.d.length ci) ∧ RHeld w w.heap.size wr.heap.size r ai ci w')
        (first | exact H0.out.all | exact H0.out.keep hb2 | exact H0.out.keep hb3 | exact (H0.out.next hb2).keep hb3 | exact (H0.out.next hb3).keep hb2 | fail)
        (first | (go_at_call 9; with_reducible refine (One_any r ai ci _ H0.out.parts).mono ?_; rintro e w2 ⟨rfl, hb2⟩) | (go_at_call 9; with_reducible refine (One_any r ai ci _ (H0.out.next hb3).parts).mono ?_; rintro e w2 ⟨rfl, hb2⟩) | (go_at_call 10; with_reducible refine (RRev_any r ai ci _ H0.out.parts).mono ?_; rintro e w3 ⟨rfl, hb3⟩) | (go_at_call 10; with_reducible refine (RRev_any r ai ci _ (H0.out.next hb2).parts).mono ?_; rintro e w3 ⟨rfl, hb3⟩) | fail)
      all_goals
        first
        | have HBx : Hid (Below w.heap.size w w3) := (RHeld.next (H0.out.next hb2) hb3).2.2.1
        | have HBx : Hid (Below w.heap.size w w2) := (RHeld.next (H0.out.next hb3) hb2).2.2.1
        clear hb2 hb3
        go_wp2_with fail
        go_roundw
        case rel => exact ⟨j + 1, by omega, by go_num, HBx.out⟩
        case measure => simp [intOf]; omega
    · have hji : ¬ (j : Int) < (l.length : Int) := by omega
      have HB : Hid (Below w.heap.size w wr) := hb
      clear hb
      go_wp2_with fail
      refine (RTexts_any s a l cap _ (HL.out.here HB.out (Nat.le_refl _)) hs).mono ?_
      rintro e w1 ⟨v, rfl, hown, hb1⟩
      have HB1 : Hid (Below w.heap.size w w1) := HB.out.trans (hb1.mono HB.out.size)
      have HO : Hid _ := hown
      have hz1 := hb1.size
      clear hb1 hown
      go_wp2_with fail
      refine (RevCheck_any s a l cap _ (HL.out.here HB1.out (Nat.le_refl _)) hs).mono ?_
      rintro e w2 ⟨rfl, hb2⟩
      have HB2 : Hid (Below w.heap.size w w2) := HB1.out.trans (hb2.mono HB1.out.size)
      have HO2 : Hid _ := own_below HO.out hb2
      clear hb2
      have hself : (checkE s.data.toList l != checkE s.data.toList l) = false := by simp
      go_wp2_with fail
      refine (Text_any s a l cap k _ (HL.out.here HB2.out (Nat.le_refl _)) hc hs).mono ?_
      rintro e w3 ⟨rfl, hb3⟩
      have HB3 : Hid (Below w.heap.size w w3) := HB2.out.trans (hb3.mono HB2.out.size)
      have HO3 : Hid _ := own_below HO2.out hb3
      clear hb3
      by_cases h0 : checkE s.data.toList l = 0
      · by_cases hk : k < 0 ∨ (l.length : Int) < k
        · obtain ⟨t1, t2⟩ := textE_arg h0 hk
          rw [t1, t2, h0]
          clear t1 t2 h0 hself
          by_cases k0 : k < 0
          · clear hk
            go_wp2_with fail
            go_ret
            exact ⟨rfl, HB3.out⟩
          · have k1 : (l.length : Int) < k := by omega
            clear hk
            go_wp2_with fail
            go_ret
            exact ⟨rfl, HB3.out⟩
        · obtain ⟨n, rfl⟩ : ∃ n : Nat, k = n := ⟨k.toNat, by omega⟩
          obtain ⟨t1, t2⟩ := textE_ok (k := n) h0 (by omega)
          rw [t1, t2, h0]
          have hT : textsR s.data.toList l = textsB s.data.toList l (l.length + 1) := by rw [textsR, if_pos h0]
          have hO := HO3.out
          rw [hT, textsB_len] at hO
          obtain ⟨g, cg, hv, hgc, hgl⟩ := own_at hO (textsB_at s.data.toList l (show n < l.length + 1 by omega))
          subst hv
          obtain ⟨t, ht⟩ : ∃ t : ByteArray, ⟨(textAt s.data.toList l n).toArray⟩ = t := ⟨_, rfl⟩
          rw [ht] at hgc ⊢
          have k0 : ¬ (n : Int) < 0 := by omega
          have k1 : ¬ (l.length : Int) < (n : Int) := by omega
          have k2 : (n : Int) < (l.length : Int) + 1 := by omega
          clear t1 t2 h0 hself hk hT hO ht
          go_wp2_with fail
          go_ret
          exact ⟨rfl, HB3.out⟩
      · obtain ⟨t1, t2⟩ := textE_bad (k := k) h0
        rw [t1, t2]
        have q1 : (checkE s.data.toList l == 0) = false := by simp [h0]
        have q2 : (checkE s.data.toList l != 0) = true := by simp [h0]
        have q3 : (checkE s.data.toList l == checkE s.data.toList l) = true := by simp
        clear t1 t2 h0 hself
        go_wp2_with fail
        go_ret
        exact ⟨rfl, HB3.out⟩
end Go.Proofs.Ytjfeaedjifpahaa
