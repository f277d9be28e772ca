/- What catchup.Of answers. -/
import Derived.Test.YtndhamcipbecfabRevL
import Derived.Test.YtndhamcipbecfabRevBet
import Derived.Test.YtndhamcipbecfabMeetOf
import Derived.Handy
namespace Go.Proofs.Ytndhamcipbecfab
open Go.RowKit
set_option linter.unusedSimpArgs false
set_option linter.unusedVariables false

/-- theirs, ahead, behind -/
def catchT (s : List UInt8) (l : List Rv) (r : Int) (m : List Pt) : List Pt := if catchE s l r m = 0 then betO s l r.toNat l.length else []
def catchR (s : List UInt8) (l : List Rv) (r : Int) (m : List Pt) : List Pt := if catchE s l r m = 0 then meetR (betO s l r.toNat l.length) m else []
def catchB (s : List UInt8) (l : List Rv) (r : Int) (m : List Pt) : List Pt := if catchE s l r m = 0 then meetL (betO s l r.toNat l.length) m else []
theorem catch_bad {s : List UInt8} {l : List Rv} {r : Int} {m : List Pt} {e : Int} (h : catchE s l r m = e) (he : e ≠ 0) : catchT s l r m = [] ∧ catchR s l r m = [] ∧ catchB s l r m = [] := by
  have h1 : ¬ catchE s l r m = 0 := by rw [h]; exact he
  exact ⟨by rw [catchT, if_neg h1], by rw [catchR, if_neg h1], by rw [catchB, if_neg h1]⟩
theorem catch_good {s : List UInt8} {l : List Rv} {n : Nat} {m : List Pt} (h : catchE s l n m = 0) : catchT s l n m = betO s l n l.length ∧ catchR s l n m = meetR (betO s l n l.length) m ∧ catchB s l n m = meetL (betO s l n l.length) m :=
  ⟨by rw [catchT, if_pos h]; rfl, by rw [catchR, if_pos h]; rfl, by rw [catchB, if_pos h]; rfl⟩
theorem catchE_ok {s : List UInt8} {l : List Rv} {n : Nat} {m : List Pt} (h0 : checkE s l = 0) (hn : n ≤ l.length) : catchE s l n m = if fitsE m ((textAt s l n).length : Nat) = 0 then meetE (betO s l n l.length) m else fitsE m ((textAt s l n).length : Nat) := by
  have h1 := (betE_ok (i := n) (k := l.length) h0 hn (Nat.le_refl _)).1
  rw [catchE, if_pos h1]; rfl

set_option maxRecDepth 20000 in
set_option maxHeartbeats 4000000 in
theorem CatchOf_any (s : ByteArray) (a b : Option Addr) (l : List Rv) (m : List Pt) (cap cb : Nat) (r : Int) (w : World) (hl : RevsAt w w.heap.size a l) (hc : l.length ≤ cap) (hm : PartsAt w w.heap.size b m) (hs : s.size ≤ 9223372036854775807) :
    Calls Try.prog 13 #[.string s, .slice a l.length cap, .int .i64 r, .slice b m.length cb] w fun e w' => ∃ a1 c1 a2 c2 a3 c3, e = .returned (.tuple #[.slice a1 (catchT s.data.toList l r m).length c1, .slice a2 (catchR s.data.toList l r m).length c2, .slice a3 (catchB s.data.toList l r m).length c3, .int .i64 (catchE s.data.toList l r m)]) ∧
      PartsAt w' w'.heap.size a1 (catchT s.data.toList l r m) ∧ PartsAt w' w'.heap.size a2 (catchR s.data.toList l r m) ∧ PartsAt w' w'.heap.size a3 (catchB s.data.toList l r m) ∧ Below w.heap.size w w' := by
  have hll := hl.1
  have hnil : ∀ w : World, PartsAt w w.heap.size none [] := fun w => ⟨by simp, Nat.le_refl _, by simp, by simp⟩
  have HN : Hid (∀ w : World, PartsAt w w.heap.size none []) := hnil
  have HL : Hid (RevsAt w w.heap.size a l) := hl
  have HM : Hid (PartsAt w w.heap.size b m) := hm
  by_cases h0 : betE s.data.toList l r l.length = 0
  · have hz : checkE s.data.toList l = 0 ∧ ∃ n : Nat, r = n ∧ n ≤ l.length := by
      by_cases hc0 : checkE s.data.toList l = 0
      · by_cases hk : r < 0 ∨ (l.length : Int) < r ∨ (l.length : Int) < l.length
        · rw [betE, if_pos hc0, if_pos hk] at h0; cases h0
        · exact ⟨hc0, r.toNat, by omega, by omega⟩
      · rw [betE, if_neg hc0] at h0; exact absurd h0 hc0
    obtain ⟨hc0, n, rfl, hn⟩ := hz
    obtain ⟨b1, b2, b3, b4⟩ := bet_says hc0 hn (Nat.le_refl _)
    have HBt : Hid _ := fun w hh => Between_ok s a l cap n l.length w hh hc hc0 hn (Nat.le_refl _)
    obtain ⟨D, hD⟩ : ∃ D, betO s.data.toList l n l.length = D := ⟨_, rfl⟩
    rw [hD] at HBt b1 b2
    obtain ⟨q, hq⟩ : ∃ q : Int, ((textAt s.data.toList l n).length : Nat) = q := ⟨_, rfl⟩
    have hSz : sizesIn D = q := by rw [(sizes_zero b1).2.1, b2, hq]
    have HSz : Hid _ := fun (x : Option Addr) (cx : Nat) w hh => Sizes_any x D cx w hh
    rw [hSz, b1] at HSz
    obtain ⟨so, hso⟩ : ∃ so, sizesOut D = so := ⟨_, rfl⟩
    rw [hso] at HSz
    have hcE : catchE s.data.toList l n m = if fitsE m q = 0 then meetE D m else fitsE m q := by rw [catchE_ok hc0 hn, hq, hD]
    have HCE : Hid (catchE s.data.toList l n m = if fitsE m q = 0 then meetE D m else fitsE m q) := hcE
    have HCG : Hid (catchE s.data.toList l n m = 0 → catchT s.data.toList l n m = D ∧ catchR s.data.toList l n m = meetR D m ∧ catchB s.data.toList l n m = meetL D m) := fun h => by
      have h := catch_good h
      rw [hD] at h
      exact h
    have HF : Hid _ := fun w hh => Fits_any b m cb q w hh
    have HMe : Hid _ := fun (x : Option Addr) (cx : Nat) w h1 h2 => MeetOf_any x b D m cx cb w h1 h2
    obtain ⟨fe, hfe⟩ : ∃ fe, fitsE m q = fe := ⟨_, rfl⟩
    obtain ⟨me, hme⟩ : ∃ me, meetE D m = me := ⟨_, rfl⟩
    obtain ⟨X, hX⟩ : ∃ X, meetL D m = X := ⟨_, rfl⟩
    obtain ⟨Y, hY⟩ : ∃ Y, meetR D m = Y := ⟨_, rfl⟩
    rw [hfe] at HF HCE
    rw [hme] at HCE HMe
    rw [hX, hY] at HCG HMe
    clear hl hm h0 hc0 b1 b2 b3 b4 hD hq hSz hso hcE hfe hme hX hY hnil
    go_enter Try.func13, Try.ntmps13
    go_wp2_with fail
    refine (HBt.out _ HL.out).mono ?_
    rintro e w1 ⟨a1, c1, rfl, hp1, hr1, hb1⟩
    have HB1 : Hid (Below w.heap.size w w1) := hb1
    have HP1 : Hid (PartsAt w1 w1.heap.size a1 D) := hp1
    clear hb1 hp1 hr1
    go_wp2_with fail
    refine (HSz.out a1 c1 _ HP1.out).mono ?_
    rintro e w2 ⟨rfl, hb2⟩
    have HB2 : Hid (Below w.heap.size w w2) := HB1.out.trans (hb2.mono HB1.out.size)
    have HP2 : Hid (PartsAt w2 w2.heap.size a1 D) := HP1.out.here hb2 (Nat.le_refl _)
    clear hb2
    go_wp2_with fail
    refine (HF.out _ (HM.out.here HB2.out (Nat.le_refl _))).mono ?_
    rintro e w3 ⟨rfl, hb3⟩
    have HB3 : Hid (Below w.heap.size w w3) := HB2.out.trans (hb3.mono HB2.out.size)
    have HP3 : Hid (PartsAt w3 w3.heap.size a1 D) := HP2.out.here hb3 (Nat.le_refl _)
    clear hb3
    by_cases hf : fe = 0
    · have hf' : (fe != 0) = false := by simp [hf]
      have HCE : Hid (catchE s.data.toList l n m = me) := by show _ = _; rw [HCE.out, if_pos hf]
      clear hf
      go_wp2_with fail
      refine (HMe.out a1 c1 _ HP3.out (HM.out.here HB3.out (Nat.le_refl _))).mono ?_
      rintro e w4 ⟨x4, cx4, a4, c4, rfl, hpx, hrx, hp4, hr4, hb4⟩
      have HB4 : Hid (Below w.heap.size w w4) := HB3.out.trans (hb4.mono HB3.out.size)
      have HP4 : Hid (PartsAt w4 w4.heap.size a1 D) := HP3.out.here hb4 (Nat.le_refl _)
      have HX4 : Hid (PartsAt w4 w4.heap.size x4 X) := hpx
      have HY4 : Hid (PartsAt w4 w4.heap.size a4 Y) := hp4
      clear hb4 hp4 hr4 hpx hrx
      by_cases hm : me = 0
      · have hm' : (me != 0) = false := by simp [hm]
        have HG : Hid (catchE s.data.toList l n m = 0) := by show _ = _; rw [HCE.out, hm]
        clear hm
        go_wp2_with fail
        go_returns
        obtain ⟨g1, g2, g3⟩ := HCG.out HG.out
        rw [g1, g2, g3, HG.out]
        exact ⟨a1, c1, a4, c4, x4, cx4, rfl, HP4.out, HY4.out, HX4.out, HB4.out⟩
      · have hm' : (me != 0) = true := by simp [hm]
        have HG : Hid (catchT s.data.toList l n m = [] ∧ catchR s.data.toList l n m = [] ∧ catchB s.data.toList l n m = []) := catch_bad HCE.out hm
        clear hm
        go_wp2_with fail
        go_returns
        obtain ⟨g1, g2, g3⟩ := HG.out
        rw [g1, g2, g3, HCE.out]
        exact ⟨none, 0, none, 0, none, 0, rfl, HN.out _, HN.out _, HN.out _, HB4.out⟩
    · have hf' : (fe != 0) = true := by simp [hf]
      have HCE : Hid (catchE s.data.toList l n m = fe) := by show _ = _; rw [HCE.out, if_neg hf]
      have HG : Hid (catchT s.data.toList l n m = [] ∧ catchR s.data.toList l n m = [] ∧ catchB s.data.toList l n m = []) := catch_bad HCE.out hf
      clear hf
      go_wp2_with fail
      go_returns
      obtain ⟨g1, g2, g3⟩ := HG.out
      rw [g1, g2, g3, HCE.out]
      exact ⟨none, 0, none, 0, none, 0, rfl, HN.out _, HN.out _, HN.out _, HB3.out⟩
  · have hE : catchE s.data.toList l r m = betE s.data.toList l r l.length := by rw [catchE, if_neg h0]
    obtain ⟨g1, g2, g3⟩ := catch_bad hE h0
    rw [g1, g2, g3, hE]
    have HBt : Hid _ := fun w hh => Between_any s a l cap r l.length w hh hc hs
    obtain ⟨be, hbe⟩ : ∃ be, betE s.data.toList l r l.length = be := ⟨_, rfl⟩
    obtain ⟨D, hD⟩ : ∃ D, betR s.data.toList l r l.length = D := ⟨_, rfl⟩
    rw [hbe, hD] at HBt
    rw [hbe] at h0 ⊢
    have hq : (be != 0) = true := by simp [h0]
    clear g1 g2 g3 hE hbe hD h0 hl hm hnil
    go_enter Try.func13, Try.ntmps13
    go_wp2_with fail
    refine (HBt.out _ HL.out).mono ?_
    rintro e w1 ⟨a1, c1, rfl, hp1, hr1, hb1⟩
    go_wp2_with fail
    go_returns
    exact ⟨none, 0, none, 0, none, 0, rfl, HN.out _, HN.out _, HN.out _, hb1⟩
end Go.Proofs.Ytndhamcipbecfab
