/- The laws' own seen: an archive tells what the document's tells. (laws/mkopens.py) -/
import Derived.Test.YtgffippimmokiaaRShop
import Derived.Test.YtgffippimmokiaaShRun
import Derived.Test.YtgffippimmokiaaShRevs
import Derived.Test.YtgffippimmokiaaRTexts
import Derived.Test.YtgffippimmokiaaHotLaw
import Derived.Test.YtgffippimmokiaaDiskKit
namespace Go.Proofs.Ytgffippimmokiaa
open Go.RowKit
set_option linter.unusedSimpArgs false
set_option linter.unusedVariables false

/-- what a log's table is: all that its revisions put there -/
theorem table_all {S : Sh} (h : SGood S) : S.log.table = tabK S.log S.log.revs.length := by
  obtain ⟨a, b, m, h, _⟩ := h
  unfold tabK tableAt
  rw [List.take_length, h.revs, h.table]
  rfl
theorem GLast (S : Sh) (who : Int) (g : Nat) (w : World) (h : SG w g S) : Calls Try.prog 44 #[.pointer (some ⟨g, 0, none⟩), .int .i64 who] w fun e w' => e = .returned (.tuple #[.agg #[.int .i64 (lastP S.log.table who), .int .i64 (lastQ S.log.table who)], .int .i64 (lastE who)]) ∧ Below w.heap.size w w' := ShLast_any S who g w h.1
theorem last_in {T : List Int} (h : T.length = 16) {k : Nat} (hk : k < 8) : ∃ p q : Int, T[k * 2]? = some p ∧ T[k * 2 + 1]? = some q ∧ lastP T k = p ∧ lastQ T k = q ∧ lastE (k : Int) = 0 := by
  obtain ⟨p, hp⟩ : ∃ p, T[k * 2]? = some p := ⟨_, List.getElem?_eq_getElem (by omega)⟩
  obtain ⟨q, hq⟩ : ∃ q, T[k * 2 + 1]? = some q := ⟨_, List.getElem?_eq_getElem (by omega)⟩
  have hw : ¬ ((k : Int) < 0 ∨ 7 < (k : Int)) := by omega
  refine ⟨p, q, hp, hq, ?_, ?_, ?_⟩
  · rw [lastP, if_neg hw, Int.toNat_natCast, Nat.mul_comm 2 k, hp]; rfl
  · rw [lastQ, if_neg hw, Int.toNat_natCast, Nat.mul_comm 2 k, hq]; rfl
  · rw [lastE, if_neg hw]
theorem last_out (T : List Int) {who : Int} (h : who < 0 ∨ 7 < who) : lastP T who = 0 ∧ lastQ T who = 0 ∧ lastE who = 1 := by
  rw [lastP, lastQ, lastE, if_pos h, if_pos h, if_pos h]
  exact ⟨rfl, rfl, rfl⟩
/-- a hand's row of a table that is a value -/
theorem ix_tab {T : List Int} (hT : T.length = 16) {k : Nat} (hk : k < 8) {p q : Int} (hp : T[k * 2]? = some p) (hq : T[k * 2 + 1]? = some q) (w : World) : Sem.run Try.prog (Instr.index 80 (.agg (jzC T).toArray) (.int .i64 (k : Int))) w = .ok (.agg #[.int .i64 p, .int .i64 q]) w := by
  match T, hT with
  | [t0, t1, t2, t3, t4, t5, t6, t7, t8, t9, t10, t11, t12, t13, t14, t15], _ =>
    rcases (by omega : k = 0 ∨ k = 1 ∨ k = 2 ∨ k = 3 ∨ k = 4 ∨ k = 5 ∨ k = 6 ∨ k = 7) with rfl | rfl | rfl | rfl | rfl | rfl | rfl | rfl <;>
    · simp at hp hq
      subst hp hq
      simp [Instr.index, run_underlying Try.underlying80, asIntOf, go_sem, jzC]
/-- an archive, the document's, and the world that there was -/
def SeAll (W w : World) (B g r : Nat) (X : Sh) (T : List ByteArray) (at_ gen : Int) (ta : Option Addr) (tc : Nat) (ra : Option Addr) (rc : Nat) : Prop :=
  SG W g X ∧ RsOf W r X.p0 X.x0 X.p1 X.x1 X.log T X.safe at_ gen ta tc ra rc ∧ Below B w W ∧ B ≤ W.heap.size
theorem se_next {W w : World} {B g r : Nat} {X : Sh} {T : List ByteArray} {at_ gen : Int} {ta ra : Option Addr} {tc rc : Nat} {W' : World} (h : Hid (SeAll W w B g r X T at_ gen ta tc ra rc)) (hb : Below W.heap.size W W') : Hid (SeAll W' w B g r X T at_ gen ta tc ra rc) := by
  obtain ⟨h1, h2, h3, h4⟩ := h.out
  exact ⟨h1.below hb, h2.below hb, h3.trans (hb.mono h4), Nat.le_trans h4 hb.size⟩
theorem hid_revs2 {w w' : World} {a b : Option Addr} {l : List Rv} (h : Hid (RevsAt w w.heap.size a l ∧ RevsAt w w.heap.size b l)) (hb : Below w.heap.size w w') : Hid (RevsAt w' w'.heap.size a l ∧ RevsAt w' w'.heap.size b l) := ⟨h.out.1.here hb (Nat.le_refl _), h.out.2.here hb (Nat.le_refl _)⟩
theorem hid_fst {p q : Prop} (h : Hid (p ∧ q)) : p := h.out.1
theorem hid_snd {p q : Prop} (h : Hid (p ∧ q)) : q := h.out.2
theorem hid_trans {W0 W W' : World} (h : Hid (Below W0.heap.size W0 W)) (hb : Below W.heap.size W W') : Hid (Below W0.heap.size W0 W') := h.out.trans (hb.mono h.out.size)
theorem se_sg {W w : World} {B g r : Nat} {X : Sh} {T : List ByteArray} {at_ gen : Int} {ta ra : Option Addr} {tc rc : Nat} (h : Hid (SeAll W w B g r X T at_ gen ta tc ra rc)) : SG W g X := h.out.1
theorem se_rs {W w : World} {B g r : Nat} {X : Sh} {T : List ByteArray} {at_ gen : Int} {ta ra : Option Addr} {tc rc : Nat} (h : Hid (SeAll W w B g r X T at_ gen ta tc ra rc)) : RsOf W r X.p0 X.x0 X.p1 X.x1 X.log T X.safe at_ gen ta tc ra rc := h.out.2.1
theorem se_below {W w : World} {B g r : Nat} {X : Sh} {T : List ByteArray} {at_ gen : Int} {ta ra : Option Addr} {tc rc : Nat} (h : Hid (SeAll W w B g r X T at_ gen ta tc ra rc)) : Below B w W := h.out.2.2.1
theorem se_cells {W w : World} {B g r : Nat} {X : Sh} {T : List ByteArray} {at_ gen : Int} {ta ra : Option Addr} {tc rc : Nat} (h : Hid (SeAll W w B g r X T at_ gen ta tc ra rc)) : W.cell? ⟨r, 0, none⟩ = some (.string X.p0) ∧ W.cell? ⟨r, 1, none⟩ = some (.int .i64 X.x0) ∧ W.cell? ⟨r, 2, none⟩ = some (.string X.p1) ∧ W.cell? ⟨r, 3, none⟩ = some (.int .i64 X.x1) ∧ W.cell? ⟨r, 6, none⟩ = some (.int .i64 X.log.base) ∧ W.cell? ⟨r, 24, none⟩ = some (.slice ra X.log.revs.length rc) ∧ W.cell? ⟨r, 25, none⟩ = some (.int .i64 X.safe) := by
  obtain ⟨⟨c0, c1, c2, c3⟩, c6, _, c24, c25⟩ := h.out.2.1.cells
  exact ⟨c0, c1, c2, c3, c6, c24, c25⟩
theorem se_lt {W w : World} {B g r : Nat} {X : Sh} {T : List ByteArray} {at_ gen : Int} {ta ra : Option Addr} {tc rc : Nat} (h : Hid (SeAll W w B g r X T at_ gen ta tc ra rc)) : r < W.heap.size := h.out.2.1.1.lt
set_option maxRecDepth 20000 in
set_option maxHeartbeats 16000000 in
theorem seen_any (X : Sh) (g r : Nat) (at_ gen : Int) (ta ra : Option Addr) (tc rc : Nat) (w : World) (hs : SG w g X) (hr : RsOf w r X.p0 X.x0 X.p1 X.x1 X.log (textsR X.log.text X.log.revs) X.safe at_ gen ta tc ra rc) :
    Calls Try.prog 11 #[.pointer (some ⟨g, 0, none⟩), .pointer (some ⟨r, 0, none⟩)] w fun e w' => e = .returned (.bool true) ∧ Below w.heap.size w w' := by
  have hbd := hs.2.bounds
  have hn64 := hbd.1
  obtain ⟨nn, ok⟩ := hs.2.lok
  have hone := hist_ones ok.hist
  have hck : checkE X.log.text X.log.revs = 0 := by rw [checkE, if_neg (by have := ok.text; omega)]; exact ok.hist
  obtain ⟨T, hT⟩ : ∃ T, textsR X.log.text X.log.revs = T := ⟨_, rfl⟩
  have HTx : Hid (∀ k : Nat, k ≤ X.log.revs.length → T[k]? = some ⟨(textAt X.log.text X.log.revs k).toArray⟩) := by
    intro k hk
    rw [← hT, textsR, if_pos hck]
    simp [textsB, show k < X.log.revs.length + 1 by omega]
  rw [hT] at hr
  obtain ⟨B, hB⟩ : ∃ B, w.heap.size = B := ⟨_, rfl⟩
  have HWB : Hid (w.heap.size = B) := hB
  have HX : Hid (SeAll w w B g r X T at_ gen ta tc ra rc) := ⟨hs, hr, by rw [← hB]; exact Below.refl _ _, Nat.le_of_eq hB.symm⟩
  have HDk : Hid (∀ w, SG w g X → Calls Try.prog 25 #[.pointer (some ⟨g, 0, none⟩)] w fun e w' => e = .returned (.agg #[.string X.p0, .int .i64 X.x0, .string X.p1, .int .i64 X.x1]) ∧ Below w.heap.size w w') := fun w h => GDisk X g w h
  have HBa : Hid _ := fun w h => GBase X g w h
  have HHd : Hid _ := fun w h => GHead X g w h
  have HSf : Hid _ := fun w h => GSafe X g w h
  have HRh : Hid (∀ w, RsOf w r X.p0 X.x0 X.p1 X.x1 X.log T X.safe at_ gen ta tc ra rc → Calls Try.prog 43 #[.pointer (some ⟨r, 0, none⟩)] w fun e w' => e = .returned (.int .i64 (headN X : Nat)) ∧ Below w.heap.size w w') := fun w h => RsHead_any r w h ok.revs ok.ends
  have HRt : Hid (∀ w, RsOf w r X.p0 X.x0 X.p1 X.x1 X.log T X.safe at_ gen ta tc ra rc → Calls Try.prog 45 #[.pointer (some ⟨r, 0, none⟩), .int .i64 (headN X : Nat)] w fun e w' => e = .returned (.agg (jzC X.log.table).toArray) ∧ Below w.heap.size w w') := by
    intro w h
    have h2 := RsTable_any r w h ok.revs ok.ends hone
    rw [← table_all hs.2] at h2
    exact h2
  have HTh : Hid (∀ (k : Int) w, RsOf w r X.p0 X.x0 X.p1 X.x1 X.log T X.safe at_ gen ta tc ra rc → Calls Try.prog 46 #[.pointer (some ⟨r, 0, none⟩), .int .i64 k] w fun e w' => e = .returned (.int .i64 (hasE X k)) ∧ Below w.heap.size w w') := fun k w h => RsThere_any k r w h ok.revs ok.ends
  have HLa : Hid _ := fun who w h => GLast X who g w h
  have HGt : Hid _ := fun k w h => GText X k g w h
  have HGr : Hid _ := fun k w h => GRevs X k g w h
  have hT16 : X.log.table.length = 16 := ok.table
  have heq := disk_neq X.p0 X.p1 X.x0 X.x1
  have hh31 : headN X ≤ 2147483647 := hbd.2.1
  have hbh : X.log.base ≤ headN X := hbd.2.2.2
  have HHn : Hid (headN X = X.log.base + X.log.revs.length) := rfl
  have HOKx : Hid (LOk X.log nn) := ok
  clear hs hr hbd ok hone hck hT hB
  go_enter Try.func11, Try.ntmps11
  have HXq : Hid (SeAll w w B g r X T at_ gen ta tc ra rc) := HX.out
  clear HXq
  obtain ⟨p0, hp0⟩ : ∃ p0, X.p0 = p0 := ⟨_, rfl⟩
  obtain ⟨x0, hx0⟩ : ∃ x0, X.x0 = x0 := ⟨_, rfl⟩
  obtain ⟨p1, hp1⟩ : ∃ p1, X.p1 = p1 := ⟨_, rfl⟩
  obtain ⟨x1, hx1⟩ : ∃ x1, X.x1 = x1 := ⟨_, rfl⟩
  obtain ⟨bs, hbs⟩ : ∃ bs, X.log.base = bs := ⟨_, rfl⟩
  obtain ⟨n, hn⟩ : ∃ n, X.log.revs.length = n := ⟨_, rfl⟩
  obtain ⟨sf, hsf⟩ : ∃ sf, X.safe = sf := ⟨_, rfl⟩
  obtain ⟨hd, hhd⟩ : ∃ hd, headN X = hd := ⟨_, rfl⟩
  have HCe : Hid (∀ W, Hid (SeAll W w B g r X T at_ gen ta tc ra rc) → W.cell? ⟨r, 0, none⟩ = some (.string p0) ∧ W.cell? ⟨r, 1, none⟩ = some (.int .i64 x0) ∧ W.cell? ⟨r, 2, none⟩ = some (.string p1) ∧ W.cell? ⟨r, 3, none⟩ = some (.int .i64 x1) ∧ W.cell? ⟨r, 6, none⟩ = some (.int .i64 bs) ∧ W.cell? ⟨r, 24, none⟩ = some (.slice ra n rc) ∧ W.cell? ⟨r, 25, none⟩ = some (.int .i64 sf)) := by
    intro W h
    have h2 := se_cells h
    rw [hp0, hx0, hp1, hx1, hbs, hn, hsf] at h2
    exact h2
  have HSe : Hid (bs + n = hd ∧ n ≤ 64 ∧ hd ≤ 2147483647 ∧ bs ≤ hd) := ⟨by have := HHn.out; omega, by omega, by omega, by omega⟩
  rw [hp0, hx0, hp1, hx1] at HDk heq
  rw [hbs] at HBa
  rw [hhd] at HHd HRh HRt
  rw [hsf] at HSf
  go_upto_region 1 with fail
  replace HX := se_next HX (Below.refl _ _).drew
  go_region_held3 (fun w' => w'.cell? ⟨r, 0, none⟩ = some (.string p0) ∧ w'.cell? ⟨r, 1, none⟩ = some (.int .i64 x0) ∧ w'.cell? ⟨r, 2, none⟩ = some (.string p1) ∧ w'.cell? ⟨r, 3, none⟩ = some (.int .i64 x1) ∧ w'.cell? ⟨r, 6, none⟩ = some (.int .i64 bs) ∧ w'.cell? ⟨r, 24, none⟩ = some (.slice ra n rc) ∧ w'.cell? ⟨r, 25, none⟩ = some (.int .i64 sf)) (first | exact HCe.out _ HX | go_keep | fail) (first
    | (go_at_call 25; have hsg := se_sg HX; with_reducible refine (HDk.out _ hsg).mono ?_; rintro e w' ⟨rfl, hb⟩; replace HX := se_next HX hb; clear hb hsg)
    | (go_at_call 20; have hsg := se_sg HX; with_reducible refine (HBa.out _ hsg).mono ?_; rintro e w' ⟨rfl, hb⟩; replace HX := se_next HX hb; clear hb hsg)
    | (go_at_call 14; have hsg := se_sg HX; with_reducible refine (HHd.out _ hsg).mono ?_; rintro e w' ⟨rfl, hb⟩; replace HX := se_next HX hb; clear hb hsg)
    | (go_at_call 21; have hsg := se_sg HX; with_reducible refine (HSf.out _ hsg).mono ?_; rintro e w' ⟨rfl, hb⟩; replace HX := se_next HX hb; clear hb hsg)
    | (go_at_call 43; have hsg := se_rs HX; with_reducible refine (HRh.out _ hsg).mono ?_; rintro e w' ⟨rfl, hb⟩; replace HX := se_next HX hb; clear hb hsg)
    | fail)
  clear heq HDk HBa HHd HSf
  have HX1 := HX
  clear HX
  go_wp2_with fail
  go_loopw [5] (fun i wr => ∃ k : Nat, k ≤ 10 ∧ i = .int .i64 ((k : Int) - 1) ∧ SeAll wr w B g r X T at_ gen ta tc ra rc) (fun i _ => (10 - intOf i).toNat)
  case atStart => exact ⟨0, by omega, rfl, HX1.out⟩
  case round =>
    rename World => wr
    clear HX1
    obtain ⟨k, hk, rfl, hx⟩ := hrel
    have HX : Hid (SeAll wr w B g r X T at_ gen ta tc ra rc) := hx
    clear hx
    by_cases hlt : k < 10
    · have hki : (k : Int) - 1 ≤ 8 := by omega
      have hwk : IntKind.i64.wrap ((k : Int) - 1 + 1) = (((k + 1 : Nat) : Int) - 1) := by rw [IntWalk.i64_in _ ⟨by omega, by omega⟩]; omega
      obtain ⟨who, hwho⟩ : ∃ who : Int, (k : Int) - 1 = who := ⟨_, rfl⟩
      have HW : Hid ((k : Int) - 1 = who) := hwho
      rw [hwho] at hki hwk ⊢
      have HA1 : Hid _ := HLa.out who
      obtain ⟨lp, hlp⟩ : ∃ lp, lastP X.log.table who = lp := ⟨_, rfl⟩
      obtain ⟨lq, hlq⟩ : ∃ lq, lastQ X.log.table who = lq := ⟨_, rfl⟩
      obtain ⟨le, hle⟩ : ∃ le, lastE who = le := ⟨_, rfl⟩
      rw [hlp, hlq, hle] at HA1
      clear hwho
      go_wp2_with fail
      with_reducible refine (HA1.out _ (se_sg HX)).mono ?_
      rintro e w2 ⟨rfl, hb2⟩
      replace HX := se_next HX hb2
      have hb3 : Below w2.heap.size w2 (w2.alloc (.cells #[.int .i64 lp, .int .i64 lq] 79)) := (Below.refl _ w2).alloc (Nat.le_refl _) _
      have HX3 := se_next HX hb3
      have HN3 : Hid ((w2.alloc (.cells #[.int .i64 lp, .int .i64 lq] 79)).heap[w2.heap.size]? = some (.cells #[.int .i64 lp, .int .i64 lq] 79 (0, 0))) := heap_alloc_new w2 _
      clear hb2 hb3 HX
      go_upto_region 7 with fail
      generalize w2.alloc (.cells #[.int .i64 lp, .int .i64 lq] 79) = w3 at HX3 HN3 ⊢
      obtain ⟨N, hN⟩ : ∃ N, w2.heap.size = N := ⟨_, rfl⟩
      rw [hN] at HN3 ⊢
      clear hN
      have n0 := Lib.cell_of_heap HN3.out 0
      have n1 := Lib.cell_of_heap HN3.out 1
      have hNl := lt_of_heap HN3.out
      by_cases hout : who < 0 ∨ 7 < who
      · obtain ⟨z1, z2, z3⟩ := last_out X.log.table hout
        obtain rfl : lp = 0 := by omega
        obtain rfl : lq = 0 := by omega
        obtain rfl : le = 1 := by omega
        clear z1 z2 z3 hlp hlq hle
        rcases hout with hout | hout
        · go_wp2_with fail
          clear n0 n1 hNl
          go_roundw
          case rel => exact ⟨k + 1, by omega, by congr 1; omega, HX3.out⟩
          case measure =>
            have := HW.out
            simp [intOf]; omega
        · have hout2 : ¬ who < 0 := by omega
          go_wp2_with fail
          clear n0 n1 hNl
          go_roundw
          case rel => exact ⟨k + 1, by omega, by congr 1; omega, HX3.out⟩
          case measure =>
            have := HW.out
            simp [intOf]; omega
      · have hin1 : ¬ who < 0 := by omega
        have hin2 : ¬ 7 < who := by omega
        obtain ⟨m, hm⟩ : ∃ m : Nat, who = m := ⟨who.toNat, by omega⟩
        have hm8 : m < 8 := by omega
        obtain ⟨p, q, hp, hq, z1, z2, z3⟩ := last_in hT16 hm8
        rw [hm] at hlp hlq hle
        obtain rfl : p = lp := z1.symm.trans hlp
        obtain rfl : q = lq := z2.symm.trans hlq
        obtain rfl : le = 0 := by omega
        have hix := ix_tab hT16 hm8 hp hq
        clear hout z1 z2 z3 hlp hlq hle hp hq
        go_upto_region 10 with fail
        replace HX3 := se_next HX3 (Below.refl _ _).drew
        have HN4 : Hid (w3.drew.heap[N]? = some (.cells #[.int .i64 p, .int .i64 q] 79 (0, 0))) := HN3.out
        have HXN : Hid (∀ W, Below w3.drew.heap.size w3.drew W → W.cell? ⟨N, 0, none⟩ = some (.int .i64 p) ∧ W.cell? ⟨N, 1, none⟩ = some (.int .i64 q)) := fun W hb => by
          have h2 := (hb.block N (lt_of_heap HN4.out)).trans HN4.out
          exact ⟨Lib.cell_of_heap h2 0, Lib.cell_of_heap h2 1⟩
        have HBk : Hid (Below w3.drew.heap.size w3.drew w3.drew) := Below.refl _ _
        clear n0 n1 hNl
        go_region_held3 (fun w' => w'.cell? ⟨N, 0, none⟩ = some (.int .i64 p) ∧ w'.cell? ⟨N, 1, none⟩ = some (.int .i64 q)) (first | exact HXN.out _ HBk.out | go_keep | fail) (first
          | (go_at_call 43; have hsg := se_rs HX3; with_reducible refine (HRh.out _ hsg).mono ?_; rintro e w' ⟨rfl, hb⟩; replace HX3 := se_next HX3 hb; replace HBk := hid_trans HBk hb; clear hb hsg)
          | (go_at_call 45; have hsg := se_rs HX3; with_reducible refine (HRt.out _ hsg).mono ?_; rintro e w' ⟨rfl, hb⟩; replace HX3 := se_next HX3 hb; replace HBk := hid_trans HBk hb; clear hb hsg)
          | fail)
        clear hix HBk HXN HN4 HN3
        go_wp2_with fail
        go_roundw
        case rel => exact ⟨k + 1, by omega, by have := HW.out; congr 1; omega, HX3.out⟩
        case measure =>
            have := HW.out
            simp [intOf]; omega
    · have hki : ¬ (k : Int) - 1 ≤ 8 := by omega
      clear HLa HRt hT16
      obtain ⟨_, _, _, _, c6, _, _⟩ := HCe.out _ HX
      have hrl := se_lt HX
      have hw1 : IntKind.i64.wrap ((bs : Int) - 1) = (bs : Int) - 1 := IntWalk.i64_in _ ⟨by omega, by omega⟩
      go_wp2_with fail
      clear c6 hrl
      go_loopw [8] (fun i wr => ∃ j : Nat, j ≤ n + 3 ∧ i = .int .i64 ((bs : Int) - 1 + (j : Int)) ∧ SeAll wr w B g r X T at_ gen ta tc ra rc) (fun i _ => ((hd : Int) + 3 - intOf i).toNat)
      case atStart => exact ⟨0, by omega, by congr 1; omega, HX.out⟩
      case round =>
        rename World => wq
        clear HX
        obtain ⟨j, hj, rfl, hx⟩ := hrel
        have HX : Hid (SeAll wq w B g r X T at_ gen ta tc ra rc) := hx
        clear hx
        have hse := HSe.out
        obtain ⟨kv, hkv⟩ : ∃ kv : Int, (bs : Int) - 1 + (j : Int) = kv := ⟨_, rfl⟩
        have HK : Hid ((bs : Int) - 1 + (j : Int) = kv) := hkv
        have hwh : IntKind.i64.wrap ((hd : Int) + 1) = (hd : Int) + 1 := IntWalk.i64_in _ ⟨by omega, by omega⟩
        by_cases hlt : j < n + 3
        · have hle : kv ≤ (hd : Int) + 1 := by omega
          have hwk : IntKind.i64.wrap (kv + 1) = kv + 1 := IntWalk.i64_in _ ⟨by omega, by omega⟩
          rw [hkv]
          have HG1 : Hid _ := HGt.out kv
          have HG2 : Hid _ := HGr.out kv
          have HG3 : Hid _ := HTh.out kv
          clear hkv hse
          go_wp2_with fail
          with_reducible refine (HRh.out _ (se_rs HX)).mono ?_
          rintro e w2 ⟨rfl, hb2⟩
          replace HX := se_next HX hb2
          clear hb2
          go_wp2_with fail
          with_reducible refine (HG1.out _ (se_sg HX)).mono ?_
          rintro e w3 ⟨rfl, hb3⟩
          replace HX := se_next HX hb3
          clear hb3
          go_wp2_with fail
          with_reducible refine (HG2.out _ (se_sg HX)).mono ?_
          rintro e w4 ⟨v4, xs, rfl, hz4, hm4, hb4⟩
          replace HX := se_next HX hb4
          obtain ⟨a4, c4, rfl⟩ := rzs_form hz4
          have HZ4 : Hid (RzsOwn w4 w3.heap.size (.slice a4 xs.length c4) xs ∧ xs.map (·.1) = revsR X kv) := ⟨hz4, hm4⟩
          clear hb4 hz4 hm4
          go_wp2_with fail
          with_reducible refine (HG3.out _ (se_rs HX)).mono ?_
          rintro e w5 ⟨rfl, hb5⟩
          replace HX := se_next HX hb5
          have HZ5 : Hid (RzsOwn w5 w3.heap.size (.slice a4 xs.length c4) xs) := HZ4.out.1.below hb5
          clear hb5 HG1 HG2 HG3
          by_cases h0 : hasE X kv = 0
          · obtain ⟨i, hi, hin⟩ := has_zero h0
            have hsx : shTextR X kv = textAt X.log.text X.log.revs i := by rw [hi]; exact (shTextR_ok hin).1
            have hrx : revsR X kv = X.log.revs.drop i := by rw [revsR, if_pos h0, hi]; congr 1; omega
            obtain ⟨l2, a2, hl2, hl2k, hc2, hR2, hrun⟩ := run_from HX.out.2.1.2.2.1 HX.out.2.1.2.2.2.1 hin
            have hxl : xs.length = l2.length := by
              have h := congrArg List.length HZ4.out.2
              rw [List.length_map, hrx] at h
              rw [h, hl2]
            obtain ⟨a5, c5, e5, _, hR5⟩ := rzs_at HZ5.out (by omega)
            rw [HZ4.out.2, hrx, ← hl2] at hR5
            simp only [Value.slice.injEq, true_and] at e5
            obtain ⟨rfl, rfl⟩ := e5
            rw [hxl, h0, hsx]
            have HRl : Hid (RevsAt w5 w5.heap.size a4 l2 ∧ RevsAt w5 w5.heap.size a2 l2) := ⟨hR5, hR2⟩
            have HTi : Hid (∀ w, RsOf w r X.p0 X.x0 X.p1 X.x1 X.log T X.safe at_ gen ta tc ra rc → Calls Try.prog 47 #[.pointer (some ⟨r, 0, none⟩), .int .i64 kv] w fun e w' => e = .returned (.string ⟨(textAt X.log.text X.log.revs i).toArray⟩) ∧ Below w.heap.size w w') := by
              intro w h
              have h2 := RsText_any i _ r w h (HTx.out i hin) (by have := HSe.out; omega)
              rw [← hi] at h2
              exact h2
            have HSm : Hid _ := fun w h1 h2 => SameRvs_yes a4 a2 l2 c4 (rc - i) w h1 h2
            have hws : IntKind.i64.wrap (kv - (bs : Int)) = (i : Int) := by rw [hi, hbs, IntWalk.i64_in _ ⟨by omega, by omega⟩]; omega
            rw [hn] at hrun
            generalize (⟨(textAt X.log.text X.log.revs i).toArray⟩ : ByteArray) = ti at *
            clear h0 hi hin hsx hrx hl2 hl2k hc2 hR2 hxl hR5 HZ4 HZ5
            go_upto_region 21 with fail
            replace HX := se_next HX (Below.refl _ _).drew
            replace HRl := hid_revs2 HRl (Below.refl _ _).drew
            go_region_held3 (fun w' => w'.cell? ⟨r, 0, none⟩ = some (.string p0) ∧ w'.cell? ⟨r, 1, none⟩ = some (.int .i64 x0) ∧ w'.cell? ⟨r, 2, none⟩ = some (.string p1) ∧ w'.cell? ⟨r, 3, none⟩ = some (.int .i64 x1) ∧ w'.cell? ⟨r, 6, none⟩ = some (.int .i64 bs) ∧ w'.cell? ⟨r, 24, none⟩ = some (.slice ra n rc) ∧ w'.cell? ⟨r, 25, none⟩ = some (.int .i64 sf)) (first | exact HCe.out _ HX | go_keep | fail) (first
              | (go_at_call 47; have hsg := se_rs HX; with_reducible refine (HTi.out _ hsg).mono ?_; rintro e w' ⟨rfl, hb⟩; replace HX := se_next HX hb; replace HRl := hid_revs2 HRl hb; clear hb hsg)
              | (go_at_call 48; have h1 := hid_fst HRl; have h2 := hid_snd HRl; with_reducible refine (HSm.out _ h1 h2).mono ?_; rintro e w' ⟨rfl, hb⟩; replace HX := se_next HX hb; clear hb h1 h2 HRl)
              | fail)
            clear hrun hws
            go_wp2_with fail
            go_roundw
            case rel => exact ⟨j + 1, by omega, by have := HK.out; congr 1; omega, HX.out⟩
            case measure => simp [intOf]; omega
          · have hst : shTextR X kv = [] := by rw [shTextR, if_neg h0]
            have hxs : xs.length = 0 := by
              have h := congrArg List.length HZ4.out.2
              rw [List.length_map, revsR, if_neg h0] at h
              exact h
            rw [hst, hxs]
            have hq : (hasE X kv != 0) = true := by simp [h0]
            generalize hasE X kv = E at *
            clear h0 hst hxs HZ4 HZ5
            go_wp2_with fail
            go_roundw
            case rel => exact ⟨j + 1, by omega, by have := HK.out; congr 1; omega, HX.out⟩
            case measure => simp [intOf]; omega
        · have hle : ¬ kv ≤ (hd : Int) + 1 := by omega
          rw [hkv]
          clear hkv hse
          go_wp2_with fail
          with_reducible refine (HRh.out _ (se_rs HX)).mono ?_
          rintro e w2 ⟨rfl, hb2⟩
          replace HX := se_next HX hb2
          clear hb2
          go_wp2_with fail
          go_ret
          exact ⟨rfl, by rw [HWB.out]; exact se_below HX⟩
end Go.Proofs.Ytgffippimmokiaa
