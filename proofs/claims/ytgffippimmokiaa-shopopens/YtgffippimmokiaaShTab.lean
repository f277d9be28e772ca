/- What Sync and Keep do. -/
import Derived.Test.YtgffippimmokiaaShAddW
import Derived.Test.YtgffippimmokiaaLogMem
namespace Go.Proofs.Ytgffippimmokiaa
open Go.RowKit
set_option linter.unusedSimpArgs false
set_option linter.unusedVariables false

def syncS (S : Sh) : Sh := { S with x := S.c.size, y := if twoB S then S.o.size else S.y, safe := headN S }
theorem ShOf.safe {w : World} {g : Nat} {S : Sh} {v : Value} {xs : List (Rv × Option Addr × Nat)} (h : ShOf w g S v xs) (n : Nat) :
    ShOf (w.setCell ⟨g, 43, none⟩ (.int .i64 (n : Nat))) g { S with safe := n } v xs ∧ Aside g w (w.setCell ⟨g, 43, none⟩ (.int .i64 (n : Nat))) := by
  have ha : Aside g w (w.setCell ⟨g, 43, none⟩ (.int .i64 (n : Nat))) := (Aside.refl g w).put 43 _
  have hput := h.1.put 43 (.int .i64 (n : Nat))
  have e : (shC S v).set 43 (.int .i64 (n : Nat)) = shC { S with safe := n } v := (shL_set (sC_len h.2.2.2.1 h.2.2.2.2)).2.1 (n : Nat)
  rw [e] at hput
  exact ⟨h.revs ha hput rfl h.2.2.2.1 h.2.2.2.2, ha⟩
theorem ShOf.moved {w : World} {g : Nat} {S : Sh} {v : Value} {xs : List (Rv × Option Addr × Nat)} (h : ShOf w g S v xs) (st fl sd : Nat) :
    ShOf (((w.setCell ⟨g, 44, none⟩ (.int .i64 (st : Nat))).setCell ⟨g, 45, none⟩ (.int .i64 (fl : Nat))).setCell ⟨g, 46, none⟩ (.int .i64 (sd : Nat))) g { S with stage := st, floor := fl, said := sd } v xs ∧
    Aside g w (((w.setCell ⟨g, 44, none⟩ (.int .i64 (st : Nat))).setCell ⟨g, 45, none⟩ (.int .i64 (fl : Nat))).setCell ⟨g, 46, none⟩ (.int .i64 (sd : Nat))) := by
  have ha : Aside g w (((w.setCell ⟨g, 44, none⟩ (.int .i64 (st : Nat))).setCell ⟨g, 45, none⟩ (.int .i64 (fl : Nat))).setCell ⟨g, 46, none⟩ (.int .i64 (sd : Nat))) := (((Aside.refl g w).put 44 _).put 45 _).put 46 _
  have hput := ((h.1.put 44 (.int .i64 (st : Nat))).put 45 (.int .i64 (fl : Nat))).put 46 (.int .i64 (sd : Nat))
  have l := sC_len (v := v) (gd := S.log.good) h.2.2.2.1 h.2.2.2.2
  have e : (((shC S v).set 44 (.int .i64 (st : Nat))).set 45 (.int .i64 (fl : Nat))).set 46 (.int .i64 (sd : Nat)) = shC { S with stage := st, floor := fl, said := sd } v := by
    have e1 : (shC S v).set 44 (.int .i64 (st : Nat)) = _ := (shL_set l).2.2.1 (st : Nat)
    rw [e1, (shL_set l).2.2.2.1 (fl : Nat), (shL_set l).2.2.2.2 (sd : Nat)]
    rfl
  rw [e] at hput
  exact ⟨h.revs ha hput rfl h.2.2.2.1 h.2.2.2.2, ha⟩
theorem sl_all (b : ByteArray) (h : b.size ≤ 1048576) : slE b (b.size : Nat) = 0 := sl_of h (by omega) (by omega)
set_option maxRecDepth 20000 in
set_option maxHeartbeats 4000000 in
theorem ShSync_any (S : Sh) (g : Nat) (w : World) (h : ShIs w g S) (ok : ShOk S) :
    Calls Try.prog 24 #[.pointer (some ⟨g, 0, none⟩)] w fun e w' => e = .returned (.tuple #[]) ∧ ShIs w' g (syncS S) ∧ Aside g w w' := by
  obtain ⟨v, xs, hof⟩ := h
  obtain ⟨nn, lok⟩ := ok.log
  obtain ⟨_, _, _, c44, c45, c46⟩ := hof.cells
  have hgl := hof.1.lt
  have HO : Hid (ShOf w g S v xs) := hof
  have HOK : Hid (DkOk S ∧ S.log.revs.length ≤ 64 ∧ headN S ≤ 2147483647) := ⟨ok.dk, lok.revs, lok.ends⟩
  have HTw : Hid _ := fun w => Twofold_any (S.stage : Nat) (S.floor : Nat) (S.said : Nat) w
  rw [twoB_is] at HTw
  obtain ⟨tw, htw⟩ : ∃ tw, twoB S = tw := ⟨_, rfl⟩
  have HTE : Hid (twoB S = tw) := htw
  rw [htw] at HTw
  clear htw hof ok lok nn
  go_enter Try.func24, Try.ntmps24
  go_wp2_with fail
  with_reducible refine (HTw.out _).mono ?_
  rintro e w1 ⟨rfl, hb1⟩
  have HO1 : Hid (ShOf w1 g S v xs) := HO.out.below hb1
  have HA1 : Hid (Aside g w w1) := below_aside hb1 g
  clear c44 c45 c46 hgl hb1
  go_upto_if 6 with fail
  go_cut [] (fun wc => ShIs wc g (S.disk S.c S.x S.o (if tw then S.o.size else S.y)) ∧ Aside g w wc)
  case first =>
    cases tw with
    | false =>
      go_wp2_with fail
      go_meet
      case rel => exact ⟨⟨_, _, HO1.out⟩, HA1.out⟩
    | true =>
      obtain ⟨⟨_, _, _, _, c4⟩, _⟩ := HO1.out.cells
      have hgl := HO1.out.1.lt
      have HSy : Hid _ := fun w h => ShMake_oth S g w h HOK.out.1
      have hcur := HOK.out.1.cur
      obtain ⟨m, hm⟩ : ∃ m : Int, 1 - (S.cur : Int) = m := ⟨_, rfl⟩
      have hwm : IntKind.i64.wrap (1 - (S.cur : Int)) = m := by rw [IntWalk.i64_in _ ⟨by omega, by omega⟩, hm]
      rw [hm] at HSy
      have HI1 : Hid (ShIs w1 g S) := ⟨_, _, HO1.out⟩
      clear hm hcur
      go_wp2_with fail
      with_reducible refine (HSy.out _ HI1.out).mono ?_
      rintro e w5 ⟨rfl, hs5, ha5⟩
      have HI5 : Hid (ShIs w5 g (S.disk S.c S.x S.o S.o.size)) := hs5
      have HA5 : Hid (Aside g w w5) := HA1.out.trans ha5
      clear c4 hgl hs5 ha5
      go_wp2_with fail
      go_meet
      case rel => exact ⟨HI5.out, HA5.out⟩
  case rest =>
    obtain ⟨⟨v2, xs2, hof2⟩, ha2⟩ := hcut
    have HY : Hid ((if tw then ((S.o.size : Nat) : Int) else S.y) = (syncS S).y) := by show _ = _; rw [← HTE.out]; rfl
    have HDk : Hid (DkOk (S.disk S.c S.x S.o (if tw then ((S.o.size : Nat) : Int) else S.y))) := by
      refine ⟨HOK.out.1.cur, HOK.out.1.one, ?_⟩
      show slE S.o _ = 0
      cases tw with
      | false => exact HOK.out.1.two
      | true => exact sl_all _ HOK.out.1.lens.2.1
    obtain ⟨y1, hy1⟩ : ∃ y1 : Int, (if tw then ((S.o.size : Nat) : Int) else S.y) = y1 := ⟨_, rfl⟩
    rw [hy1] at HY HDk hof2
    have HO2 : Hid (ShOf wc g (S.disk S.c S.x S.o y1) v2 xs2) := hof2
    have HI2 : Hid (ShIs wc g (S.disk S.c S.x S.o y1)) := ⟨_, _, hof2⟩
    have HA2 : Hid (Aside g w wc) := ha2
    obtain ⟨⟨_, _, _, _, c4⟩, _⟩ := hof2.cells
    have c4b : wc.cell? ⟨g, 4, none⟩ = some (.int .i64 S.cur) := c4
    have hgl := hof2.1.lt
    have HSy : Hid (∀ w, ShIs w g (S.disk S.c S.x S.o y1) → Calls Try.prog 65 #[.pointer (some ⟨g, 0, none⟩), .int .i64 (S.cur : Nat)] w fun e w' => e = .returned (.tuple #[]) ∧ ShIs w' g (S.disk S.c S.c.size S.o y1) ∧ Aside g w w') := fun w h => ShMake_cur (S.disk S.c S.x S.o y1) g w h HDk.out
    clear hof2 ha2 hy1 c4
    go_wp2_with fail
    with_reducible refine (HSy.out _ HI2.out).mono ?_
    rintro e w3 ⟨rfl, hs3, ha3⟩
    have HI3 : Hid (ShIs w3 g (S.disk S.c S.c.size S.o y1)) := hs3
    have HA3 : Hid (Aside g w w3) := HA2.out.trans ha3
    have HHd : Hid (∀ w, ShIs w g (S.disk S.c S.c.size S.o y1) → Calls Try.prog 14 #[.pointer (some ⟨g, 0, none⟩)] w fun e w' => e = .returned (.int .i64 (headN S : Nat)) ∧ Below w.heap.size w w') := fun w h => ShHead_any (S.disk S.c S.c.size S.o y1) g w h HOK.out.2.1 HOK.out.2.2
    clear hs3 ha3 c4b hgl
    go_wp2_with fail
    with_reducible refine (HHd.out _ HI3.out).mono ?_
    rintro e w4 ⟨rfl, hb4⟩
    obtain ⟨v4, xs4, hof4⟩ := HI3.out.below hb4
    have HO4 : Hid (ShOf w4 g (S.disk S.c S.c.size S.o y1) v4 xs4) := hof4
    have HA4 : Hid (Aside g w w4) := HA3.out.next hb4
    obtain ⟨_, _, c43, _⟩ := hof4.cells
    have f43 := hof4.1.free 43
    have HF : Hid _ := hof4.safe (headN S)
    clear hof4 hb4
    go_wp2_with fail
    go_end0
    refine ⟨rfl, ?_, HA4.out.trans HF.out.2⟩
    have e : syncS S = { S.disk S.c S.c.size S.o y1 with safe := headN S } := by rw [HY.out]; rfl
    rw [e]
    exact ⟨_, _, HF.out.1⟩
/-- what Keep answers, and what it leaves -/
def kpE (S : Sh) (r : Int) : Int := if S.stage = 0 then (if hasE S r = 0 then (if 2147483647 ≤ S.log.gen then 11 else 0) else hasE S r) else 13
def keepS (S : Sh) (r : Int) : Sh := if kpE S r = 0 then { S with stage := 1, floor := r.toNat, said := r.toNat } else S
set_option maxRecDepth 20000 in
set_option maxHeartbeats 4000000 in
theorem ShKeep_any (S : Sh) (r : Int) (g : Nat) (w : World) (h : ShIs w g S) (ok : ShOk S) :
    Calls Try.prog 15 #[.pointer (some ⟨g, 0, none⟩), .int .i64 r] w fun e w' => e = .returned (.int .i64 (kpE S r)) ∧ ShIs w' g (keepS S r) ∧ Aside g w w' := by
  obtain ⟨v, xs, hof⟩ := h
  obtain ⟨nn, lok⟩ := ok.log
  obtain ⟨_, ⟨c5, _⟩, _, c44, c45, c46⟩ := hof.cells
  have hgl := hof.1.lt
  have HO : Hid (ShOf w g S v xs) := hof
  have HI : Hid (ShIs w g S) := ⟨_, _, hof⟩
  by_cases hst : S.stage = 0
  · have HH : Hid _ := fun w h => ShHas_any S r g w h lok.revs lok.ends
    have hsb : ((S.stage : Int) != 0) = false := by rw [hst]; rfl
    by_cases h0 : hasE S r = 0
    · obtain ⟨k, hrk, hk⟩ := has_zero h0
      obtain ⟨m, hm⟩ : ∃ m : Nat, S.log.base + k = m := ⟨_, rfl⟩
      rw [hm] at hrk
      subst hrk
      rw [h0] at HH
      by_cases hg : 2147483647 ≤ S.log.gen
      · have hgi : (2147483647 : Int) ≤ (S.log.gen : Int) := by omega
        have HE : Hid (kpE S (m : Int) = 11) := by show _ = _; rw [kpE, if_pos hst, if_pos h0, if_pos hg]
        clear hst h0 hg hof ok lok
        go_enter Try.func15, Try.ntmps15
        go_wp2_with fail
        with_reducible refine (HH.out _ HI.out).mono ?_
        rintro e w1 ⟨rfl, hb1⟩
        have HO1 : Hid (ShOf w1 g S v xs) := HO.out.below hb1
        have HA1 : Hid (Aside g w w1) := below_aside hb1 g
        clear c5 c44 c45 c46 hb1
        have c5 := HO1.out.cells.2.1.1
        obtain ⟨G, hG⟩ : ∃ G : Int, (S.log.gen : Int) = G := ⟨_, rfl⟩
        rw [hG] at c5 hgi
        clear hG
        go_wp2_with fail
        go_ret
        exact ⟨dret HE.out.symm, by rw [keepS, HE.out, if_neg (by decide)]; exact ⟨_, _, HO1.out⟩, HA1.out⟩
      · have hgi : ¬ (2147483647 : Int) ≤ (S.log.gen : Int) := by omega
        have HE : Hid (kpE S (m : Int) = 0) := by show _ = _; rw [kpE, if_pos hst, if_pos h0, if_neg hg]
        clear hst h0 hg hof ok lok
        go_enter Try.func15, Try.ntmps15
        go_wp2_with fail
        with_reducible refine (HH.out _ HI.out).mono ?_
        rintro e w1 ⟨rfl, hb1⟩
        have HO1 : Hid (ShOf w1 g S v xs) := HO.out.below hb1
        have HA1 : Hid (Aside g w w1) := below_aside hb1 g
        clear c5 c44 c45 c46 hb1
        have c5 := HO1.out.cells.2.1.1
        obtain ⟨G, hG⟩ : ∃ G : Int, (S.log.gen : Int) = G := ⟨_, rfl⟩
        rw [hG] at c5 hgi
        clear hG
        obtain ⟨_, c44, c45, c46⟩ := HO1.out.cells.2.2
        have f44 := HO1.out.1.free 44
        have f45 := HO1.out.1.free 45
        have f46 := HO1.out.1.free 46
        have HF : Hid (ShOf (((w1.setCell ⟨g, 44, none⟩ (.int .i64 1)).setCell ⟨g, 45, none⟩ (.int .i64 (m : Int))).setCell ⟨g, 46, none⟩ (.int .i64 (m : Int))) g { S with stage := 1, floor := m, said := m } v xs ∧ Aside g w1 (((w1.setCell ⟨g, 44, none⟩ (.int .i64 1)).setCell ⟨g, 45, none⟩ (.int .i64 (m : Int))).setCell ⟨g, 46, none⟩ (.int .i64 (m : Int)))) := HO1.out.moved 1 m m
        have HKS : Hid (keepS S (m : Int) = { S with stage := 1, floor := m, said := m }) := by
          show _ = _
          rw [keepS, if_pos HE.out, Int.toNat_natCast]
        go_wp2_with fail
        go_ret
        refine ⟨dret HE.out.symm, ?_, HA1.out.trans HF.out.2⟩
        rw [HKS.out]
        exact ⟨_, _, HF.out.1⟩
    · have HE : Hid (kpE S r = hasE S r) := by show _ = _; rw [kpE, if_pos hst, if_neg h0]
      have HS : Hid (keepS S r = S) := by show _ = _; rw [keepS, HE.out, if_neg h0]
      have hq : (hasE S r != 0) = true := by simp [h0]
      obtain ⟨q, hq2⟩ : ∃ q, hasE S r = q := ⟨_, rfl⟩
      rw [hq2] at HH HE hq
      clear hst h0 hof ok lok hq2
      go_enter Try.func15, Try.ntmps15
      go_wp2_with fail
      with_reducible refine (HH.out _ HI.out).mono ?_
      rintro e w1 ⟨rfl, hb1⟩
      have HI1 : Hid (ShIs w1 g S) := HI.out.below hb1
      have HA1 : Hid (Aside g w w1) := below_aside hb1 g
      clear c5 c44 c45 c46 hb1
      go_wp2_with fail
      go_ret
      exact ⟨dret HE.out.symm, by rw [HS.out]; exact HI1.out, HA1.out⟩
  · have HE : Hid (kpE S r = 13) := by show _ = _; rw [kpE, if_neg hst]
    have hsb : ((S.stage : Int) != 0) = true := by simp; omega
    clear hst hof ok lok
    go_enter Try.func15, Try.ntmps15
    go_wp2_with fail
    go_ret
    exact ⟨dret HE.out.symm, by rw [keepS, HE.out, if_neg (by decide)]; exact HI.out, Aside.refl g w⟩
end Go.Proofs.Ytgffippimmokiaa

/- The table at a revision: what shop's tableAt answers. -/
namespace Go.Proofs.Ytgffippimmokiaa
open Go.RowKit
set_option linter.unusedSimpArgs false
set_option linter.unusedVariables false

theorem results_one {fn : Func} {p : Tmp} {ty : TypeId} {P : Program} (h : fn.results = #[.cell p ty]) (tmps : Array Value) (w : World) (g : Nat) (L : List Value) (d : TypeDesc)
    (hp : tmps.getD p undef = .pointer (some ⟨g, 0, none⟩)) (hg : w.rangeAt g 0 L) (hu : P.underlying ty = some d) (hd : d.isRow = true) (hi : (P.info? ty).map (·.size) = some L.length) :
    (results fn tmps).run P w = .ok (.agg L.toArray) w := by
  have hp' : tmps[p]?.getD undef = .pointer (some ⟨g, 0, none⟩) := by simpa using hp
  simp [results, h, hp', asAddr, run_loadVar_mid w g 0 ty L d hg hu hd hi]
/-- the table of a log at a revision -/
def tabK (S : Lg) (k : Nat) : List Int := tableAt S.gen S.base S.first S.text S.revs k
theorem tabK_zero (S : Lg) : tabK S 0 = S.first := rfl
theorem tabK_len (S : Lg) (h : S.first.length = 16) (k : Nat) : (tabK S k).length = 16 := by
  unfold tabK tableAt
  have H : ∀ (l : List Rv) (A : Lg), A.table.length = 16 → (addL A l).table.length = 16 := by
    intro l
    induction l with
    | nil => intro A h; exact h
    | cons r l ih => intro A h; exact ih (addR A r) (by show (tabPut _ _ _ _).length = 16; rw [tabPut_len]; exact h)
  exact H _ _ h
theorem tabK_succ {S : Lg} {k : Nat} {r : Rv} (h : S.revs[k]? = some r) : tabK S (k + 1) = tabPut (tabK S k) r.who r.seq (S.base + ((k : Int) + 1)) := by
  have hk := (List.getElem?_eq_some_iff.1 h).1
  unfold tabK tableAt
  rw [List.take_add_one, h]
  show (addL _ (S.revs.take k ++ [r])).table = _
  rw [add_app]
  obtain ⟨f1, f2, _⟩ := add_facts (S.revs.take k) (headS S.gen S.base S.first S.text)
  show tabPut (addL (headS S.gen S.base S.first S.text) (S.revs.take k)).table r.who r.seq (((addL (headS S.gen S.base S.first S.text) (S.revs.take k)).base : Int) + (((addL (headS S.gen S.base S.first S.text) (S.revs.take k)).revs.length : Int) + 1)) = _
  rw [f1, f2]
  have e : ((headS S.gen S.base S.first S.text).revs ++ S.revs.take k).length = k := by
    show ([] ++ S.revs.take k).length = k
    rw [List.nil_append, List.length_take]; omega
  rw [e]
  rfl
theorem jz_oneCell (F : List Int) : ∀ u ∈ jzC F, u.oneCell' = true := jzC_one F
/-- what is held while a table is made -/
def TkIs (w0 w : World) (B : Nat) (L : List Value) (T : List Int) : Prop := LgAt w B L ∧ TbAt w (B + 1) (List.replicate 16 0) ∧ TbAt w (B + 1 + 1) T ∧ T.length = 16 ∧ Below B w0 w
theorem TkIs.below {w0 w w' : World} {B : Nat} {L : List Value} {T : List Int} (h : TkIs w0 w B L T) (hb : Below w.heap.size w w') : TkIs w0 w' B L T :=
  ⟨h.1.below hb h.1.lt, h.2.1.below hb h.2.1.lt, h.2.2.1.below hb h.2.2.1.lt, h.2.2.2.1, h.2.2.2.2.trans (hb.mono (Nat.le_of_lt h.1.lt))⟩
theorem LgAt.apart {w : World} {g : Nat} {L : List Value} (h : LgAt w g L) {k : Nat} (hk : g ≠ k) (i : Nat) (v : Value) : LgAt (w.setCell ⟨k, i, none⟩ v) g L := h.other v hk
theorem TbAt.apart {w : World} {g : Nat} {L : List Int} (h : TbAt w g L) {k : Nat} (hk : g ≠ k) (i : Nat) (v : Value) : TbAt (w.setCell ⟨k, i, none⟩ v) g L := (heap_setCell_other w ⟨k, i, none⟩ g v hk).trans h
theorem TkIs.put {w0 w : World} {B k : Nat} {L : List Value} {T : List Int} (h : TkIs w0 w B L T) (p q : Int) : TkIs w0 ((w.setCell ⟨B + 1 + 1, k * 2, none⟩ (.int .i64 p)).setCell ⟨B + 1 + 1, k * 2 + 1, none⟩ (.int .i64 q)) B L ((T.set (k * 2) p).set (k * 2 + 1) q) :=
  ⟨(h.1.apart (by omega) _ _).apart (by omega) _ _, (h.2.1.apart (by omega) _ _).apart (by omega) _ _, (h.2.2.1.put _ _).put _ _, by rw [List.length_set, List.length_set]; exact h.2.2.2.1, (h.2.2.2.2.setCell (p := ⟨B + 1 + 1, k * 2, none⟩) (by simp; omega) _).setCell (p := ⟨B + 1 + 1, k * 2 + 1, none⟩) (by simp; omega) _⟩
theorem TbAt.all {w : World} {g : Nat} {T : List Int} (h : TbAt w g T) : w.rangeAt g 0 (jzC T) := by
  intro j v hj
  have h2 := Lib.cell_of_heap h j
  rw [Nat.zero_add, h2]
  simpa using hj
theorem TbAt.there {w : World} {g : Nat} {T : List Int} (h : TbAt w g T) (hT : T.length = 16) : w.there g 0 16 := by
  intro j hj
  refine ⟨?_, h.free _⟩
  rw [h.all j ((jzC T)[j]'(by rw [jzC_len]; omega)) (List.getElem?_eq_getElem _)]
  rfl
theorem tb_puts {w : World} {g : Nat} {T U : List Int} (h : TbAt w g U) (hU : U.length = 16) (hT : T.length = 16) : (w.setCells g 0 (jzC T)).rangeAt g 0 (jzC T) := World.rangeAt_setCells_same _ _ _ _ (by rw [jzC_len, hT]; exact h.there hU)
set_option maxRecDepth 20000 in
set_option maxHeartbeats 8000000 in
theorem TableAt_any (S : Lg) (a : Option Addr) (c k : Nat) (gd : Int) (w : World) (hl : RevsAt w w.heap.size a S.revs) (hc : S.revs.length ≤ c) (hF : S.first.length = 16) (hT : S.table.length = 16) (h64 : S.revs.length ≤ 64) (hend : S.base + S.revs.length ≤ 2147483647) (h1 : ∀ r ∈ S.revs, oneE r = 0) (hk : k ≤ S.revs.length) :
    Calls Try.prog 91 #[.agg (sC S (.slice a S.revs.length c) gd).toArray, .int .i64 ((S.base + k : Nat) : Int)] w fun e w' => e = .returned (.agg (jzC (tabK S k)).toArray) ∧ Below w.heap.size w w' := by
  obtain ⟨L, hL⟩ : ∃ L, sC S (.slice a S.revs.length c) gd = L := ⟨_, rfl⟩
  obtain ⟨l0, _, s1, _, s35, _⟩ := sC_at (S := S) (v := .slice a S.revs.length c) (gd := gd) hF hT
  have sF : L = [.int .i64 S.gen, .int .i64 S.base, .string ⟨S.text.toArray⟩] ++ (jzC S.first ++ (jzC S.table ++ [.slice a S.revs.length c, .bool S.whole, .int .i64 gd])) := by rw [← hL]; rfl
  rw [hL] at l0 s1 s35 ⊢
  have HS : Hid (L[1]? = some (.int .i64 S.base) ∧ L[35]? = some (.slice a S.revs.length c) ∧ L = [.int .i64 S.gen, .int .i64 S.base, .string ⟨S.text.toArray⟩] ++ (jzC S.first ++ (jzC S.table ++ [.slice a S.revs.length c, .bool S.whole, .int .i64 gd]))) := ⟨s1, s35, sF⟩
  have HR : Hid (RevsAt w w.heap.size a S.revs) := hl
  have H1 : Hid _ := h1
  obtain ⟨B, hB⟩ : ∃ B, w.heap.size = B := ⟨_, rfl⟩
  have HW : Hid (w.heap.size = B) := hB
  have HI16 : Hid ((Try.prog.info? 80).map (·.size) = some (jzC S.first).toArray.size ∧ (16 : Nat) = (jzC S.first).toArray.size ∧ (jzC S.first).toArray.all (·.oneCell') = true ∧ (Try.prog.info? 80).map (·.size) = some (jzC S.first).length) := by
    have e : (jzC S.first).length = 16 := by rw [jzC_len]; exact hF
    exact ⟨by rw [List.size_toArray, e]; exact infoTb, by rw [List.size_toArray, e], all_oneCell_toArray (jzC_one _), by rw [e]; exact infoTb⟩
  obtain ⟨m, hm⟩ : ∃ m : Int, ((S.base + k : Nat) : Int) = m := ⟨_, rfl⟩
  have HM : Hid (IntKind.i64.wrap (m - (S.base : Int)) = (k : Int)) := by
    show _ = _
    rw [← hm, IntWalk.i64_in _ ⟨by omega, by omega⟩]; omega
  rw [hm]
  clear hL l0 s1 s35 sF hl h1 hm
  go_enter Try.func91, Try.ntmps91
  go_upto_region 1 with fail
  have H0 : Hid (LgAt ((w.alloc (.cells L.toArray 82)).alloc (.cells #[.int .i64 0, .int .i64 0, .int .i64 0, .int .i64 0, .int .i64 0, .int .i64 0, .int .i64 0, .int .i64 0, .int .i64 0, .int .i64 0, .int .i64 0, .int .i64 0, .int .i64 0, .int .i64 0, .int .i64 0, .int .i64 0] 80)) B L ∧ TbAt ((w.alloc (.cells L.toArray 82)).alloc (.cells #[.int .i64 0, .int .i64 0, .int .i64 0, .int .i64 0, .int .i64 0, .int .i64 0, .int .i64 0, .int .i64 0, .int .i64 0, .int .i64 0, .int .i64 0, .int .i64 0, .int .i64 0, .int .i64 0, .int .i64 0, .int .i64 0] 80)) (B + 1) (List.replicate 16 0) ∧ Below B w ((w.alloc (.cells L.toArray 82)).alloc (.cells #[.int .i64 0, .int .i64 0, .int .i64 0, .int .i64 0, .int .i64 0, .int .i64 0, .int .i64 0, .int .i64 0, .int .i64 0, .int .i64 0, .int .i64 0, .int .i64 0, .int .i64 0, .int .i64 0, .int .i64 0, .int .i64 0] 80)) ∧ ((w.alloc (.cells L.toArray 82)).alloc (.cells #[.int .i64 0, .int .i64 0, .int .i64 0, .int .i64 0, .int .i64 0, .int .i64 0, .int .i64 0, .int .i64 0, .int .i64 0, .int .i64 0, .int .i64 0, .int .i64 0, .int .i64 0, .int .i64 0, .int .i64 0, .int .i64 0] 80)).heap.size = B + 1 + 1) := by
    rw [← hB]
    exact ⟨heap_alloc2_old w _ _, heap_alloc2_new w _ _, ((Below.refl _ w).alloc (Nat.le_refl _) _).alloc (by simp) _, by simp⟩
  generalize (w.alloc (.cells L.toArray 82)).alloc (.cells #[.int .i64 0, .int .i64 0, .int .i64 0, .int .i64 0, .int .i64 0, .int .i64 0, .int .i64 0, .int .i64 0, .int .i64 0, .int .i64 0, .int .i64 0, .int .i64 0, .int .i64 0, .int .i64 0, .int .i64 0, .int .i64 0] 80) = w0 at H0 ⊢
  clear hB
  have HTk : Hid (TkIs w (w0.alloc (.cells (jzC S.first).toArray 80)) B L S.first) := by
    obtain ⟨h1, h2, h3, h4⟩ := H0.out
    have hb : Below w0.heap.size w0 (w0.alloc (.cells (jzC S.first).toArray 80)) := (Below.refl _ w0).alloc (Nat.le_refl _) _
    have hn : (w0.alloc (.cells (jzC S.first).toArray 80)).heap[w0.heap.size]? = some (.cells (jzC S.first).toArray 80 (0, 0)) := heap_alloc_new w0 _
    rw [h4] at hn
    exact ⟨h1.below hb h1.lt, h2.below hb h2.lt, hn, hF, h3.trans (hb.mono (by omega))⟩
  have HRg : Hid (w0.rangeAt B 3 (jzC S.first)) := H0.out.1.range [.int .i64 S.gen, .int .i64 S.base, .string ⟨S.text.toArray⟩] _ _ HS.out.2.2
  have hz0 := H0.out.2.2.2
  have HZ0 : Hid (w0.heap.size = B + 1 + 1) := hz0
  clear H0 hz0
  go_upto_region 2 with (first | refine wpList_load_mid rfl 80 _ rfl B 3 rfl (jzC S.first) _ HRg.out Try.underlying80 rfl HI16.out.2.2.2 ?_ | refine wpList_store_new rfl 80 _ _ rfl _ (jzC S.first).toArray (by rfl) (by rfl) HI16.out.1 (by exact HI16.out.2.1) HI16.out.2.2.1 ?_)
  generalize w0.alloc (.cells (jzC S.first).toArray 80) = w1 at HTk ⊢
  rw [HZ0.out]
  have c1 := HTk.out.1.cell HS.out.1
  have c35 := HTk.out.1.cell HS.out.2.1
  have hlB := HTk.out.1.lt
  obtain ⟨l2, hl2, hl2k, hR2, hrun⟩ := run_to HR.out hc hk
  have hwk := HM.out
  have HL2 : Hid (l2 = S.revs.take k ∧ l2.length = k) := ⟨hl2, hl2k⟩
  have HR2 : Hid (RevsAt w w.heap.size a l2) := hR2
  clear hl2 hR2 HR
  rw [hl2k] at hrun
  clear hl2k
  go_wp2_with fail
  clear c1 c35 hlB hwk hrun
  go_loopw [18] (fun i wr => ∃ j : Nat, j ≤ k ∧ i = .int .i64 (j : Int) ∧ TkIs w wr B L (tabK S j)) (fun i _ => k - (intOf i).toNat)
  case atStart => exact ⟨0, Nat.zero_le _, rfl, HTk.out⟩
  case round =>
    rename World => wr
    obtain ⟨j, hj, rfl, htk⟩ := hrel
    have HT1 : Hid (TkIs w wr B L (tabK S j)) := htk
    clear htk
    have hl2k := HL2.out.2
    by_cases hlt : j < k
    · obtain ⟨r, hr⟩ : ∃ r, l2[j]? = some r := ⟨_, List.getElem?_eq_getElem (by omega)⟩
      have hrS : S.revs[j]? = some r := by
        rw [HL2.out.1, List.getElem?_take, if_pos hlt] at hr
        exact hr
      have hone := H1.out r (List.mem_of_getElem? hrS)
      obtain ⟨⟨o1, o2, o3, o4⟩, _⟩ := one_zero hone
      obtain ⟨q, hq⟩ : ∃ q : Nat, r.who = (q : Int) := ⟨r.who.toNat, by omega⟩
      have HSuc : Hid (tabK S (j + 1) = ((tabK S j).set (q * 2) r.seq).set (q * 2 + 1) (S.base + ((j : Int) + 1))) := by
        show _ = _
        rw [tabK_succ hrS, tabPut, hq, Int.toNat_natCast, Nat.mul_comm 2 q]
      obtain ⟨b, off, ai, ci, rfl, hbl, d0, d1, d2, _, _⟩ := (HR2.out.below HT1.out.2.2.2.2 (by rw [HW.out]; exact Nat.le_refl _)).mem hr
      have hz := HT1.out.2.2.2.2.size
      have hbw : b < wr.heap.size := by omega
      have hji : (j : Int) < (k : Int) := by omega
      rw [hq] at d0
      obtain ⟨t, ht⟩ : ∃ t : Int, (S.base : Int) + ((j : Int) + 1) = t := ⟨_, rfl⟩
      rw [ht] at HSuc
      have hw1 : IntKind.i64.wrap ((S.base : Int) + (j : Int)) = (S.base : Int) + (j : Int) := IntWalk.i64_in _ ⟨by omega, by omega⟩
      have hw2 : IntKind.i64.wrap ((S.base : Int) + (j : Int) + 1) = t := by rw [IntWalk.i64_in _ ⟨by omega, by omega⟩]; omega
      have q0 : (0 : Int) ≤ (q : Int) := by omega
      have q8 : (q : Int) < 8 := by omega
      have hb1 : Below wr.heap.size wr (wr.alloc (.cells #[.int .i64 (q : Int), .int .i64 r.seq, .slice ai r.d.length ci] 40)) := (Below.refl _ wr).alloc (Nat.le_refl _) _
      have HT2 : Hid (TkIs w (wr.alloc (.cells #[.int .i64 (q : Int), .int .i64 r.seq, .slice ai r.d.length ci] 40)) B L (tabK S j)) := HT1.out.below hb1
      have HN2 : Hid ((wr.alloc (.cells #[.int .i64 (q : Int), .int .i64 r.seq, .slice ai r.d.length ci] 40)).heap[wr.heap.size]? = some (.cells #[.int .i64 (q : Int), .int .i64 r.seq, .slice ai r.d.length ci] 40 (0, 0))) := heap_alloc_new wr _
      clear hone o1 o2 o3 o4 hq hb1 hr hrS ht
      go_upto_region 5 with fail
      generalize wr.alloc (.cells #[.int .i64 (q : Int), .int .i64 r.seq, .slice ai r.d.length ci] 40) = w2 at HT2 HN2 ⊢
      obtain ⟨N, hN⟩ : ∃ N, wr.heap.size = N := ⟨_, rfl⟩
      rw [hN] at HN2 ⊢
      clear hN d0 d1 d2 hbl hbw hz
      have n0 := Lib.cell_of_heap HN2.out 0
      have n1 := Lib.cell_of_heap HN2.out 1
      have hNl := lt_of_heap HN2.out
      have c1 := HT2.out.1.cell HS.out.1
      obtain ⟨y1, hy1⟩ : ∃ y, (tabK S j)[q * 2]? = some y := ⟨_, List.getElem?_eq_getElem (by rw [HT2.out.2.2.2.1]; omega)⟩
      obtain ⟨y2, hy2⟩ : ∃ y, (tabK S j)[q * 2 + 1]? = some y := ⟨_, List.getElem?_eq_getElem (by rw [HT2.out.2.2.2.1]; omega)⟩
      have t1 := HT2.out.2.2.1.cell hy1
      have t2 := HT2.out.2.2.1.cell hy2
      have f1 := HT2.out.2.2.1.free (q * 2)
      have f2 := HT2.out.2.2.1.free (q * 2 + 1)
      have hB2 := HT2.out.2.2.1.lt
      have HF : Hid _ := HT2.out.put (k := q) r.seq t
      rw [← HSuc.out] at HF
      clear hy1 hy2
      go_wp2_with fail
      go_roundw
      case rel => exact ⟨j + 1, hlt, by go_num, HF.out⟩
      case measure => simp [intOf]; omega
    · have hji : ¬ (j : Int) < (k : Int) := by omega
      have hjk : j = k := by omega
      subst hjk
      obtain ⟨T, hT⟩ : ∃ T, tabK S j = T := ⟨_, rfl⟩
      have HTE : Hid (tabK S j = T) := hT
      rw [hT] at HT1
      have hTl := HT1.out.2.2.2.1
      have HI2 : Hid ((Try.prog.info? 80).map (·.size) = some (jzC T).toArray.size ∧ (Try.prog.info? 80).map (·.size) = some (jzC T).length) := by
        have e : (jzC T).length = 16 := by rw [jzC_len]; exact hTl
        exact ⟨by rw [List.size_toArray, e]; exact infoTb, by rw [e]; exact infoTb⟩
      have HRg2 : Hid (wr.rangeAt (B + 1 + 1) 0 (jzC T)) := HT1.out.2.2.1.all
      have HTh : Hid (wr.there (B + 1) 0 (jzC T).toArray.size) := by
        show wr.there _ _ _
        rw [List.size_toArray, jzC_len, hTl]
        exact HT1.out.2.1.there rfl
      have HP : Hid ((wr.setCells (B + 1) 0 (jzC T)).rangeAt (B + 1) 0 (jzC T)) := tb_puts HT1.out.2.1 rfl hTl
      have HBw : Hid (Below w.heap.size w (wr.setCells (B + 1) 0 (jzC T))) := by
        show Below _ _ _
        rw [HW.out]
        exact below_cells (by omega) _ _ _ HT1.out.2.2.2.2
      clear hlt hT hji
      go_wp2_with (first | refine wpList_load_mid rfl 80 _ rfl (B + 1 + 1) 0 rfl (jzC T) _ HRg2.out Try.underlying80 rfl HI2.out.2 ?_ | refine wpList_store_mid rfl 80 _ _ rfl (B + 1) 0 (jzC T).toArray rfl rfl HTh.out HI2.out.1 (all_oneCell_toArray (jzC_one _)) ?_)
      exact bodyPost_ret (v := .agg (jzC T).toArray) (results_one Try.results91 _ _ (B + 1) (jzC T) _ rfl HP.out Try.underlying80 rfl HI2.out.2) rfl ⟨by rw [HTE.out], HBw.out⟩
end Go.Proofs.Ytgffippimmokiaa
