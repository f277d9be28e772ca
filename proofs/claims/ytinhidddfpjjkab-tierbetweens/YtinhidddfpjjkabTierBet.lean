/- The program's find and Between: the deltas of a cover's blocks as one. -/
import Derived.Test.YtinhidddfpjjkabTierMk
import Derived.Test.YtinhidddfpjjkabCoverOf
namespace Go.Proofs.Ytinhidddfpjjkab
open Go.RowKit
set_option linter.unusedSimpArgs false
set_option linter.unusedVariables false

/-- find's error, and its answer -/
def findE (T : List (List (List Pt))) (x : Nat × Nat) : Int := match blkT T x with
  | none => 7
  | some d => sizesE d
def findL (T : List (List (List Pt))) (x : Nat × Nat) : List Pt := match blkT T x with
  | none => []
  | some d => if sizesE d = 0 then d else []
theorem find_none {T : List (List (List Pt))} {x : Nat × Nat} (h : blkT T x = none) : findE T x = 7 ∧ findL T x = [] := by rw [findE, findL, h]; exact ⟨rfl, rfl⟩
theorem find_bad {T : List (List (List Pt))} {x : Nat × Nat} {d : List Pt} (h : blkT T x = some d) (hd : sizesE d ≠ 0) : findE T x = sizesE d ∧ findL T x = [] := by rw [findE, findL, h]; exact ⟨rfl, if_neg hd⟩
theorem find_ok {T : List (List (List Pt))} {x : Nat × Nat} {d : List Pt} (h : blkT T x = some d) (hd : sizesE d = 0) : findE T x = 0 ∧ findL T x = d := by rw [findE, findL, h]; exact ⟨hd, if_pos hd⟩
theorem blk_far {T : List (List (List Pt))} {x : Nat × Nat} (h : T.length ≤ x.1) : blkT T x = none := by rw [blkT, List.getElem?_eq_none h]; rfl
theorem blk_out {T : List (List (List Pt))} {x : Nat × Nat} {X : List (List Pt)} (h : T[x.1]? = some X) (hx : X.length ≤ x.2) : blkT T x = none := by rw [blkT, h]; exact List.getElem?_eq_none hx
theorem blk_at {T : List (List (List Pt))} {x : Nat × Nat} {X : List (List Pt)} {d : List Pt} (h : T[x.1]? = some X) (hx : X[x.2]? = some d) : blkT T x = some d := by rw [blkT, h]; exact hx
theorem bet_fst {T : List (List (List Pt))} {x : Nat × Nat} {r : List (Nat × Nat)} : betT 7 T none (x :: r) = if findE T x = 0 then betT 7 T (some (findL T x)) r else ([], findE T x) := by
  rw [betT]
  cases h : blkT T x with
  | none => rw [(find_none h).1, if_neg (by decide)]
  | some d =>
    simp only
    by_cases hd : sizesE d = 0
    · rw [if_pos hd, (find_ok h hd).1, if_pos rfl, (find_ok h hd).2]
    · rw [if_neg hd, (find_bad h hd).1, if_neg hd]
theorem bet_snd {T : List (List (List Pt))} {e : List Pt} {x : Nat × Nat} {r : List (Nat × Nat)} : betT 7 T (some e) (x :: r) = if findE T x = 0 then (if compE e (findL T x) = 0 then betT 7 T (some (compR e (findL T x))) r else ([], compE e (findL T x))) else ([], findE T x) := by
  rw [betT]
  cases h : blkT T x with
  | none => rw [(find_none h).1, if_neg (by decide)]
  | some d =>
    simp only
    by_cases hd : sizesE d = 0
    · rw [if_pos hd, (find_ok h hd).1, if_pos rfl, (find_ok h hd).2]
    · rw [if_neg hd, (find_bad h hd).1, if_neg hd]
set_option maxHeartbeats 4000000 in
theorem find_any (a : Option Addr) (T : List (List (List Pt))) (c : Nat) (x y : Nat) (w : World) (hv : TiersAt w w.heap.size a T c) :
    Calls Try.prog 39 #[.slice a T.length c, .agg #[.int .i64 (x : Int), .int .i64 (y : Int)]] w fun e w' => ∃ ao co, e = .returned (.tuple #[.slice ao (findL T (x, y)).length co, .int .i64 (findE T (x, y))]) ∧ PartsAt w' w'.heap.size ao (findL T (x, y)) ∧ Room ao (findL T (x, y)) co ∧ Below w.heap.size w w' := by
  have hcap : T.length ≤ 9223372036854775807 := Nat.le_trans hv.1 hv.2.1
  obtain ⟨w0, hw0⟩ : ∃ w0, w0 = w.alloc (.cells #[.int .i64 (x : Int), .int .i64 (y : Int)] 39) := ⟨_, rfl⟩
  have hb0 : Below w.heap.size w w0 := by subst hw0; exact (Below.refl _ _).alloc (Nat.le_refl _) _
  have HB0 : Hid (Below w.heap.size w w0) := hb0
  have HV0 : Hid (TiersAt w0 w0.heap.size a T c) := hv.here hb0 (Nat.le_refl _)
  have hx0 : w0.cell? ⟨w.heap.size, 0, none⟩ = some (.int .i64 (x : Int)) := by
    have h : w0.heap[w.heap.size]? = some (.cells #[.int .i64 (x : Int), .int .i64 (y : Int)] 39 (0, 0)) := by subst hw0; exact Deep.blk_alloc_new w _
    exact Lib.cell_of_heap h 0
  have hx1 : w0.cell? ⟨w.heap.size, 1, none⟩ = some (.int .i64 (y : Int)) := by
    have h : w0.heap[w.heap.size]? = some (.cells #[.int .i64 (x : Int), .int .i64 (y : Int)] 39 (0, 0)) := by subst hw0; exact Deep.blk_alloc_new w _
    exact Lib.cell_of_heap h 1
  have hxs : w.heap.size < w0.heap.size := by subst hw0; rw [Deep.nblk_alloc]; omega
  clear hv hb0
  subst hw0
  go_enter Try.func39, Try.ntmps39
  by_cases hfar : T.length ≤ x
  · have HE : Hid _ := find_none (T := T) (x := (x, y)) (blk_far hfar)
    have hd : decide ((T.length : Int) ≤ (x : Int)) = true := decide_eq_true (by omega)
    have hfi : (T.length : Int) ≤ (x : Int) := by omega
    go_wp2_with fail
    go_quiet (fail)
    go_wp2_with fail
    go_ret2
    rw [HE.out.1, HE.out.2]
    exact ⟨none, 0, rfl, ⟨by simp, Nat.le_refl _, by simp, by simp⟩, room_nil, below_drewN HB0.out _⟩
  · obtain ⟨X, hX⟩ : ∃ X, T[x]? = some X := ⟨T[x]'(by omega), List.getElem?_eq_getElem _⟩
    obtain ⟨g, og, aX, cX, e1, hg, t1, t2⟩ := HV0.out.mem hX
    subst e1
    have hxl : X.length ≤ 9223372036854775807 := Nat.le_trans t2.1 t2.2.1
    have hd : decide (T.length ≤ x) = false := decide_eq_false (by omega)
    have hfi : (x : Int) < (T.length : Int) := by omega
    have hx00 : (0 : Int) ≤ (x : Int) := by omega
    have HRX : Hid (RowAt (w.alloc (.cells #[.int .i64 (x : Int), .int .i64 (y : Int)] 39)) (w.alloc (.cells #[.int .i64 (x : Int), .int .i64 (y : Int)] 39)).heap.size aX X cX) := t2
    have HX : Hid (T[x]? = some X) := hX
    clear t2 hX hfar
    by_cases hout : X.length ≤ y
    · have HE : Hid _ := find_none (T := T) (x := (x, y)) (blk_out HX.out hout)
      have hd2 : decide (X.length ≤ y) = true := decide_eq_true (by omega)
      have hyi : (X.length : Int) ≤ (y : Int) := by omega
      go_wp2_with fail
      go_quiet (fail)
      go_wp2_with fail
      go_ret2
      rw [HE.out.1, HE.out.2]
      exact ⟨none, 0, rfl, ⟨by simp, Nat.le_refl _, by simp, by simp⟩, room_nil, below_drewN HB0.out _⟩
    · obtain ⟨d, hdd⟩ : ∃ d, X[y]? = some d := ⟨X[y]'(by omega), List.getElem?_eq_getElem _⟩
      obtain ⟨g2, og2, ad, cd, e2, hg2, r1, r2, r3⟩ := HRX.out.mem hdd
      subst e2
      have hd2 : decide (X.length ≤ y) = false := decide_eq_false (by omega)
      have hyi : (y : Int) < (X.length : Int) := by omega
      have hy00 : (0 : Int) ≤ (y : Int) := by omega
      have HPD : Hid (PartsAt (w.alloc (.cells #[.int .i64 (x : Int), .int .i64 (y : Int)] 39)) (w.alloc (.cells #[.int .i64 (x : Int), .int .i64 (y : Int)] 39)).heap.size ad d) := r2
      have HBK : Hid (blkT T (x, y) = some d) := blk_at HX.out hdd
      clear r2 r3 hdd hout
      go_wp2_with fail
      go_quiet (fail)
      rename Nat => n1
      go_wp2_with fail
      go_quiet (fail)
      rename Nat => n2
      have hb2 : Below (w.alloc (.cells #[.int .i64 (x : Int), .int .i64 (y : Int)] 39)).heap.size (w.alloc (.cells #[.int .i64 (x : Int), .int .i64 (y : Int)] 39)) (((w.alloc (.cells #[.int .i64 (x : Int), .int .i64 (y : Int)] 39)).drewN n1).drewN n2) := below_drewN (below_drewN (Below.refl _ _) _) _
      have HP2 : Hid (PartsAt (((w.alloc (.cells #[.int .i64 (x : Int), .int .i64 (y : Int)] 39)).drewN n1).drewN n2) (((w.alloc (.cells #[.int .i64 (x : Int), .int .i64 (y : Int)] 39)).drewN n1).drewN n2).heap.size ad d) := HPD.out.here hb2 (Nat.le_refl _)
      have HB2 : Hid (Below w.heap.size w (((w.alloc (.cells #[.int .i64 (x : Int), .int .i64 (y : Int)] 39)).drewN n1).drewN n2)) := below_drewN (below_drewN HB0.out _) _
      generalize (((w.alloc (.cells #[.int .i64 (x : Int), .int .i64 (y : Int)] 39)).drewN n1).drewN n2) = w2 at HP2 HB2 ⊢
      clear hb2 HPD HRX HV0 hx0 hx1 hxs r1 t1 hg hg2 hd hd2 hfi hx00 hyi hy00 hxl
      go_wp2_with fail
      refine (Check_any ad d cd _ HP2.out).mono ?_
      rintro e w3 ⟨rfl, hb3⟩
      have HB3 : Hid (Below w.heap.size w w3) := HB2.out.trans (hb3.mono HB2.out.size)
      have HP3 : Hid (PartsAt w3 w3.heap.size ad d) := HP2.out.here hb3 (Nat.le_refl _)
      clear hb3
      by_cases hs : sizesE d = 0
      · have HF : Hid _ := find_ok HBK.out hs
        have HS : Hid (sizesE d = 0) := hs
        rw [hs]
        clear hs
        go_wp2_with fail
        refine (copied_any ad d cd _ HP3.out HS.out).mono ?_
        rintro e w4 ⟨a4, c4, rfl, hel, hb4⟩
        have HB4 : Hid (Below w.heap.size w w4) := HB3.out.trans (hb4.mono HB3.out.size)
        have HE4 : Hid _ := el_parts hel
        clear hel hb4
        go_wp2_with fail
        go_ret2
        rw [HF.out.1, HF.out.2]
        exact ⟨a4, c4, rfl, HE4.out.1, HE4.out.2, HB4.out⟩
      · have HF : Hid _ := find_bad HBK.out hs
        obtain ⟨E, hE⟩ : ∃ E, sizesE d = E := ⟨_, rfl⟩
        rw [hE] at hs HF ⊢
        have hs' : (E != 0) = true := by simp [hs]
        clear hs hE
        go_wp2_with fail
        go_ret2
        rw [HF.out.1, HF.out.2]
        exact ⟨none, 0, rfl, ⟨by simp, Nat.le_refl _, by simp, by simp⟩, room_nil, HB3.out⟩
set_option maxHeartbeats 4000000 in
theorem TBet_ok (a : Option Addr) (T : List (List (List Pt))) (c i k : Nat) (w : World) (hv : TiersAt w w.heap.size a T c) (hik : i < k) (hk : k ≤ 64) :
    Calls Try.prog 12 #[.slice a T.length c, .int .i64 (i : Int), .int .i64 (k : Int)] w fun e w' => ∃ ao co, e = .returned (.tuple #[.slice ao (betT 7 T none (covL i k)).1.length co, .int .i64 (betT 7 T none (covL i k)).2]) ∧ PartsAt w' w'.heap.size ao (betT 7 T none (covL i k)).1 ∧ Room ao (betT 7 T none (covL i k)).1 co ∧ Below w.heap.size w w' := by
  have HV : Hid (TiersAt w w.heap.size a T c) := hv
  have HC : Hid (∀ w : World, _) := fun w => Cover_ok i k w (by omega) hk
  obtain ⟨x, X, hX⟩ : ∃ x X, covL i k = x :: X := by
    have ht := cov_is (Nat.le_of_lt hik) hk
    cases h : covL i k with
    | nil => rw [h] at ht; have : i = k := ht; omega
    | cons x X => exact ⟨x, X, rfl⟩
  rw [hX] at HC ⊢
  have hne : ((i : Int) == (k : Int)) = false := by simp; omega
  obtain ⟨O, hO⟩ : ∃ O, betT 7 T none (x :: X) = O := ⟨_, rfl⟩
  have HO : Hid (O = if findE T x = 0 then betT 7 T (some (findL T x)) X else ([], findE T x)) := hO.symm.trans bet_fst
  rw [hO]
  clear hX hv hO
  go_enter Try.func12, Try.ntmps12
  go_wp2_with fail
  refine (HC.out _).mono ?_
  rintro e w1 ⟨ac, cc, rfl, hn1, hb1⟩
  have HB1 : Hid (Below w.heap.size w w1) := hb1
  have HV1 : Hid (TiersAt w1 w1.heap.size a T c) := HV.out.here hb1 (Nat.le_refl _)
  have HN1 : Hid (BksAt w1 w1.heap.size ac (x :: X) cc) := hn1
  obtain ⟨g, og, e1, hg, y1, y2⟩ := hn1.mem (i := 0) (f := x) rfl
  subst e1
  simp only [Nat.zero_mul, Nat.add_zero] at y1 y2
  obtain ⟨r, ar, hr, hrn, hrun⟩ := bks_from hn1 (k := 1) (by simp) 1 rfl
  have hrr : r = X := by rw [hr]; rfl
  subst hrr
  have hlc : (x :: r).length = r.length + 1 := rfl
  have HRN : Hid (BksAt w1 w1.heap.size ar r (cc - 1)) := hrn
  have hl0 : (0 : Int) < ((x :: r).length : Int) := by rw [hlc]; omega
  clear hn1 hb1 hr hrn hlc
  obtain ⟨n, hn⟩ : ∃ n, (x :: r).length = n := ⟨_, rfl⟩
  rw [hn] at hrun hl0 ⊢
  obtain ⟨m, hm⟩ : ∃ m, cc - 1 = m := ⟨_, rfl⟩
  rw [hm] at hrun HRN
  have hrl : r.length ≤ 9223372036854775807 := Nat.le_trans HRN.out.1 HRN.out.2.1
  clear hn hm
  go_wp2_with fail
  refine (find_any a T c x.1 x.2 _ HV1.out).mono ?_
  rintro e w2 ⟨ad, cd, rfl, hp2, hr2, hb2⟩
  have HB2 : Hid (Below w.heap.size w w2) := HB1.out.trans (hb2.mono HB1.out.size)
  have HP2 : Hid (PartsAt w2 w2.heap.size ad (findL T x) ∧ Room ad (findL T x) cd) := ⟨hp2, hr2⟩
  have HB12 : Hid (Below w1.heap.size w1 w2) := hb2
  obtain ⟨E, hE⟩ : ∃ E, findE T x = E := ⟨_, rfl⟩
  obtain ⟨D0, hD⟩ : ∃ D0, findL T x = D0 := ⟨_, rfl⟩
  rw [show findE T (x.1, x.2) = E from hE, show findL T (x.1, x.2) = D0 from hD]
  rw [hE, hD] at HO
  rw [hD] at HP2
  clear hp2 hr2 hb2 hE hD y1 y2 hg
  by_cases h0 : E = 0
  · subst h0
    have HO2 : Hid (O = betT 7 T (some D0) r) := by show _ = _; rw [HO.out, if_pos rfl]
    clear HO
    go_wp2_with fail
    go_loopw [10, 42] (fun dv z wr => ∃ (j : Nat) (D : List Pt) (ad : Option Addr) (cd : Nat), j ≤ r.length ∧ z = .int .i64 j ∧ dv = .slice ad D.length cd ∧ PartsAt wr wr.heap.size ad D ∧ Room ad D cd ∧ O = betT 7 T (some D) (r.drop j) ∧ Below w.heap.size w wr ∧ Below w1.heap.size w1 wr) (fun _ z _ => r.length - (intOf z).toNat)
    case atStart => exact ⟨0, D0, ad, cd, Nat.zero_le _, rfl, rfl, HP2.out.1, HP2.out.2, HO2.out, HB2.out, HB12.out⟩
    case round =>
      rename World => wr
      obtain ⟨j, D, ad, cd, hj, rfl, rfl, hp, hroom, hOd, hb, hb1⟩ := hrel
      have HB : Hid (Below w.heap.size w wr ∧ Below w1.heap.size w1 wr) := ⟨hb, hb1⟩
      have HP : Hid (PartsAt wr wr.heap.size ad D ∧ Room ad D cd) := ⟨hp, hroom⟩
      have HOD : Hid (O = betT 7 T (some D) (r.drop j)) := hOd
      have hz := hb.size
      have hz1 := hb1.size
      clear hOd hp hroom hb HP2 HO2 HB2 HB12
      by_cases hlt : j < r.length
      · obtain ⟨y, hy⟩ : ∃ y, r[j]? = some y := ⟨r[j], List.getElem?_eq_getElem hlt⟩
        have hji : (j : Int) < (r.length : Int) := by omega
        obtain ⟨g2, og2, e2, hg2, y1, y2⟩ := (HRN.out.here hb1 (Nat.le_refl _)).mem hy
        subst e2
        have hbx : Below wr.heap.size wr (wr.alloc (.cells #[.int .i64 (y.1 : Int), .int .i64 (y.2 : Int)] 39)) := (Below.refl _ _).alloc (Nat.le_refl _) _
        have HV2 : Hid (TiersAt (wr.alloc (.cells #[.int .i64 (y.1 : Int), .int .i64 (y.2 : Int)] 39)) (wr.alloc (.cells #[.int .i64 (y.1 : Int), .int .i64 (y.2 : Int)] 39)).heap.size a T c) := HV1.out.here (hb1.trans (hbx.mono hz1)) (Nat.le_refl _)
        have HBx : Hid (Below wr.heap.size wr (wr.alloc (.cells #[.int .i64 (y.1 : Int), .int .i64 (y.2 : Int)] 39))) := hbx
        have HOE : Hid (O = if findE T y = 0 then (if compE D (findL T y) = 0 then betT 7 T (some (compR D (findL T y))) (r.drop (j + 1)) else ([], compE D (findL T y))) else ([], findE T y)) := by
          show _ = _
          have hdr : r.drop j = y :: r.drop (j + 1) := by
            obtain ⟨h1, h2⟩ := List.getElem?_eq_some_iff.1 hy
            rw [List.drop_eq_getElem_cons h1, h2]
          rw [HOD.out, hdr, bet_snd]
        clear hy hbx hb1
        go_wp2_with fail
        refine (find_any a T c y.1 y.2 _ HV2.out).mono ?_
        rintro e w3 ⟨a3, c3, rfl, hp3, hr3, hb3⟩
        have hbw : Below wr.heap.size wr w3 := HBx.out.trans (hb3.mono HBx.out.size)
        have HB3 : Hid (Below w.heap.size w w3 ∧ Below w1.heap.size w1 w3) := ⟨HB.out.1.trans (hbw.mono hz), HB.out.2.trans (hbw.mono hz1)⟩
        obtain ⟨E, hE⟩ : ∃ E, findE T y = E := ⟨_, rfl⟩
        obtain ⟨D1, hD⟩ : ∃ D1, findL T y = D1 := ⟨_, rfl⟩
        rw [show findE T (y.1, y.2) = E from hE, show findL T (y.1, y.2) = D1 from hD]
        have hp3' : PartsAt w3 w3.heap.size a3 D1 := by rw [← hD]; exact hp3
        have hr3' : Room a3 D1 c3 := by rw [← hD]; exact hr3
        rw [hE, hD] at HOE
        have HP3 : Hid (PartsAt w3 w3.heap.size ad D ∧ PartsAt w3 w3.heap.size a3 D1 ∧ D.length ≤ cd) := ⟨HP.out.1.here hbw (Nat.le_refl _), hp3', HP.out.2.1⟩
        clear hp3 hr3 hp3' hr3' hb3 hbw hE hD y1 y2 hg2
        by_cases h0 : E = 0
        · subst h0
          have HO3 : Hid (O = if compE D D1 = 0 then betT 7 T (some (compR D D1)) (r.drop (j + 1)) else ([], compE D D1)) := by show _ = _; rw [HOE.out, if_pos rfl]
          clear HOE
          go_wp2_with fail
          refine (CompOf_any ad a3 D D1 cd c3 _ HP3.out.1 HP3.out.2.1 HP3.out.2.2).mono ?_
          rintro e w4 ⟨a4, c4, rfl, hp4, hr4, hb4⟩
          have HB4 : Hid (Below w.heap.size w w4 ∧ Below w1.heap.size w1 w4) := ⟨HB3.out.1.trans (hb4.mono HB3.out.1.size), HB3.out.2.trans (hb4.mono HB3.out.2.size)⟩
          have HP4 : Hid (PartsAt w4 w4.heap.size a4 (compR D D1) ∧ Room a4 (compR D D1) c4) := ⟨hp4, hr4⟩
          obtain ⟨E, hE⟩ : ∃ E, compE D D1 = E := ⟨_, rfl⟩
          obtain ⟨D2, hD⟩ : ∃ D2, compR D D1 = D2 := ⟨_, rfl⟩
          rw [hE, hD] at HO3
          rw [hE, hD]
          rw [hD] at HP4
          clear hp4 hr4 hb4 hE hD
          by_cases h0 : E = 0
          · subst h0
            have HO4 : Hid (O = betT 7 T (some D2) (r.drop (j + 1))) := by show _ = _; rw [HO3.out, if_pos rfl]
            clear HO3
            go_wp2_with fail
            go_roundw
            case rel => exact ⟨j + 1, D2, a4, c4, by omega, by go_num, rfl, HP4.out.1, HP4.out.2, HO4.out, HB4.out.1, HB4.out.2⟩
            case measure => simp [intOf]; omega
          · have HO4 : Hid (O = ([], E)) := by show _ = _; rw [HO3.out, if_neg h0]
            have h0' : (E != 0) = true := by simp [h0]
            clear h0 HO3
            go_wp2_with fail
            go_ret2
            rw [HO4.out]
            exact ⟨none, 0, rfl, ⟨by simp, Nat.le_refl _, by simp, by simp⟩, room_nil, HB4.out.1⟩
        · have HO4 : Hid (O = ([], E)) := by show _ = _; rw [HOE.out, if_neg h0]
          have h0' : (E != 0) = true := by simp [h0]
          clear h0 HOE
          go_wp2_with fail
          go_ret2
          rw [HO4.out]
          exact ⟨none, 0, rfl, ⟨by simp, Nat.le_refl _, by simp, by simp⟩, room_nil, HB3.out.1⟩
      · have hji : ¬ (j : Int) < (r.length : Int) := by omega
        have HO4 : Hid (O = (D, 0)) := by
          show _ = _
          rw [HOD.out, List.drop_eq_nil_of_le (by omega)]; rfl
        clear hb1
        go_wp2_with fail
        go_ret2
        rw [HO4.out]
        exact ⟨ad, cd, rfl, HP.out.1, HP.out.2, HB.out.1⟩
  · have HO4 : Hid (O = ([], E)) := by show _ = _; rw [HO.out, if_neg h0]
    have h0' : (E != 0) = true := by simp [h0]
    clear h0 HO
    go_wp2_with fail
    go_ret2
    rw [HO4.out]
    exact ⟨none, 0, rfl, ⟨by simp, Nat.le_refl _, by simp, by simp⟩, room_nil, HB2.out⟩
theorem TBet_not (a : Option Addr) (T : List (List (List Pt))) (c : Nat) (i k : Int) (w : World) (h : ¬ (0 ≤ i ∧ i < k ∧ k ≤ 64)) :
    Calls Try.prog 12 #[.slice a T.length c, .int .i64 i, .int .i64 k] w fun e w' => e = .returned (.tuple #[.slice none 0 0, .int .i64 1]) ∧ Below w.heap.size w w' := by
  by_cases hE : covE i k = 0
  · have h2 : ¬ (i < 0 ∨ k < i ∨ 64 < k) := by
      intro hh; rw [covE, if_pos hh] at hE; omega
    obtain ⟨m, rfl⟩ : ∃ m : Nat, i = (m : Int) := ⟨i.toNat, by omega⟩
    obtain rfl : k = (m : Int) := by omega
    have HC : Hid (∀ w : World, _) := fun w => Cover_ok m m w (Nat.le_refl _) (by omega)
    have he : ((m : Int) == (m : Int)) = true := by simp
    clear h h2 hE
    go_enter Try.func12, Try.ntmps12
    go_wp2_with fail
    refine (HC.out _).mono ?_
    rintro e w1 ⟨ac, cc, rfl, _, hb1⟩
    have HB1 : Hid (Below w.heap.size w w1) := hb1
    clear hb1
    go_wp2_with fail
    go_ret2
    exact ⟨rfl, HB1.out⟩
  · have HC : Hid (∀ w : World, _) := fun w => Cover_not i k w hE
    clear h hE
    go_enter Try.func12, Try.ntmps12
    go_wp2_with fail
    refine (HC.out _).mono ?_
    rintro e w1 ⟨rfl, we⟩
    subst we
    go_wp2_with fail
    go_ret2
    exact ⟨rfl, Below.refl _ _⟩
end Go.Proofs.Ytinhidddfpjjkab
