/- The law TopKeep, walked: it answers true. (laws/mkkeep.py) -/
import Derived.Test.YtcghojnmnmmpoaaShMove
import Derived.Test.YtcghojnmnmmpoaaKeepKit
import Derived.Deep.RegionHeld3
import Derived.Deep.AppendLies
namespace Go.Proofs.Ytcghojnmnmmpoaa
open Go.RowKit
set_option linter.unusedSimpArgs false
set_option linter.unusedVariables false

theorem infoStrK : (Try.prog.info? 9).map (fun i => (i.zero, i.size, i.bytes)) = some (some (.string ⟨#[]⟩), 1, 16) := by kernel_rfl
/-- a policy in a block of its own -/
def PolAt (w : World) (P : Nat) (last every : Int) (s : Value) : Prop := w.heap[P]? = some (.cells #[.int .i64 last, .int .i64 every, s] 59 (0, 0))
theorem PolAt.cells {w : World} {P : Nat} {last every : Int} {s : Value} (h : PolAt w P last every s) : w.cell? ⟨P, 0, none⟩ = some (.int .i64 last) ∧ w.cell? ⟨P, 1, none⟩ = some (.int .i64 every) ∧ w.cell? ⟨P, 2, none⟩ = some s :=
  ⟨Lib.cell_of_heap h 0, Lib.cell_of_heap h 1, Lib.cell_of_heap h 2⟩
theorem PolAt.lt {w : World} {P : Nat} {last every : Int} {s : Value} (h : PolAt w P last every s) : P < w.heap.size := lt_of_heap h
theorem PolAt.below {w w' : World} {P : Nat} {last every : Int} {s : Value} (h : PolAt w P last every s) (hb : Below w.heap.size w w') : PolAt w' P last every s := (hb.block P h.lt).trans h
/-- an archive, a policy beside it, and the world that there was -/
def KpAll (W w : World) (B g P : Nat) (S : Sh) (last every : Int) (s : Value) : Prop := SG W g S ∧ PolAt W P last every s ∧ Below B w W ∧ B ≤ W.heap.size
theorem kp_size {W w : World} {B g P : Nat} {S : Sh} {last every : Int} {s : Value} (h : Hid (KpAll W w B g P S last every s)) : B ≤ W.heap.size := h.out.2.2.2
theorem kp_next {W W' w : World} {B g P : Nat} {S : Sh} {last every : Int} {s : Value} (h : Hid (KpAll W w B g P S last every s)) (hb : Below W.heap.size W W') : Hid (KpAll W' w B g P S last every s) := by
  obtain ⟨h1, h2, h3, h4⟩ := h.out
  exact ⟨h1.below hb, h2.below hb, h3.trans (hb.mono h4), Nat.le_trans h4 hb.size⟩
/-- a row of numbers, a row of texts, of the law's own -/
def Nw (w : World) (B : Nat) (ao : Option Addr) (co : Nat) (x : List Nat) : Prop := w.ownsRow B 3 1 (.slice ao x.length co) x.length (x.map intV)
def Tw (w : World) (B : Nat) (v : Value) (T : List ByteArray) : Prop := w.ownsRow B 9 1 v T.length (T.map Value.string)
theorem Nw.below {w w' : World} {B : Nat} {ao : Option Addr} {co : Nat} {x : List Nat} (h : Nw w B ao co x) (hb : Below w.heap.size w w') : Nw w' B ao co x := own_below h hb
theorem Nw.aside {w w' : World} {B g : Nat} {S : Sh} {ao : Option Addr} {co : Nat} {x : List Nat} (h : Nw w B ao co x) (hs : SG w g S) (ha : Aside g w w') : Nw w' B ao co x := by
  obtain ⟨u, ys, hof⟩ := hs.1
  exact World.ownsRow.kept h ha (.inr (own_ne' h hof.1 (by decide)))
theorem Nw.at {w : World} {B k q : Nat} {ao : Option Addr} {co : Nat} {x : List Nat} (h : Nw w B ao co x) (hk : x[k]? = some q) : ∃ gi, ao = some ⟨gi, 0, none⟩ ∧ w.cell? ⟨gi, k, none⟩ = some (.int .i64 (q : Int)) ∧ gi < w.heap.size := by
  obtain ⟨gi, cg, e, h1, h2⟩ := own_at (j := k) (u := intV q) h (by simp [hk])
  simp only [Value.slice.injEq, true_and] at e
  exact ⟨gi, e.1, h1, h2⟩
theorem Tw.below {w w' : World} {B : Nat} {v : Value} {T : List ByteArray} (h : Tw w B v T) (hb : Below w.heap.size w w') : Tw w' B v T := own_below h hb
theorem Tw.aside {w w' : World} {B g : Nat} {S : Sh} {v : Value} {T : List ByteArray} (h : Tw w B v T) (hs : SG w g S) (ha : Aside g w w') : Tw w' B v T := by
  obtain ⟨u, ys, hof⟩ := hs.1
  exact World.ownsRow.kept h ha (.inr (own_ne' h hof.1 (by decide)))
theorem Tw.at {w : World} {B k : Nat} {v : Value} {T : List ByteArray} {s : ByteArray} (h : Tw w B v T) (hk : T[k]? = some s) : ∃ gt cg, v = .slice (some ⟨gt, 0, none⟩) T.length cg ∧ w.cell? ⟨gt, k, none⟩ = some (.string s) ∧ gt < w.heap.size :=
  own_at (j := k) (u := .string s) h (by simp [hk])
theorem Nw.grown {w w' : World} {B n : Nat} {ao : Option Addr} {co : Nat} {x : List Nat} {v : Value} {xs : List Value} (h : Nw w B ao co x) (ho : w.ownsRow B 9 1 v n xs) (hg : w.grownBy w' v.ownBlock) : Nw w' B ao co x :=
  World.ownsRow.kept h hg (own_ne2' h ho (by decide))
theorem nw_of {w : World} {B B' : Nat} {ao : Option Addr} {co : Nat} {x : List Nat} (h : w.ownsRow B' 3 1 (.slice ao x.length co) x.length (x.map intV)) (hB : B ≤ B') : Hid (Nw w B ao co x) := own_low1 h hB
theorem nw_next {w w' : World} {B : Nat} {ao : Option Addr} {co : Nat} {x : List Nat} (h : Hid (Nw w B ao co x)) (hb : Below w.heap.size w w') : Hid (Nw w' B ao co x) := h.out.below hb
/-- the texts of what is kept -/
def textsK (S : Sh) (x : List Nat) : List ByteArray := x.map fun r : Nat => ⟨(shTextR S (r : Int)).toArray⟩
/-- the same texts, as far as the log goes -/
structure SameT (F S : Sh) : Prop where
  head : headN S = headN F
  text : ∀ k : Nat, S.log.base ≤ k → k ≤ headN F → shTextR S (k : Int) = shTextR F (k : Int)
theorem sameT_step {F S : Sh} (hg : SGood S) (h : SameT F S) : SameT F (stepS S) := by
  obtain ⟨h1, h2, h3, _⟩ := step_said hg
  exact ⟨h1.trans h.head, fun k k1 k2 => (h3 k k1 (by rw [h.head]; exact k2)).trans (h.text k (by omega) k2)⟩
theorem kept_facts {last every : Int} {pins : List Int} {N : Nat} (h : keepE last every pins (N : Int) = 0) : floorN last every pins (N : Int) ≤ N ∧ (polL last every pins (N : Int)).length ≤ N + 1 ∧ ∀ r ∈ polL last every pins (N : Int), floorN last every pins (N : Int) ≤ r ∧ r ≤ N := by
  obtain ⟨h1, h2, h3⟩ := keepE_zero h
  obtain ⟨l1, _⟩ := pol_zero h1
  have e := polL_ok h1 h2 h3
  rw [show ((N : Int)).toNat = N from rfl] at e
  obtain ⟨x, hx, hm, hall⟩ := kept_floor (every := every) (pins := pins) (head := N) l1
  have hf : floorN last every pins (N : Int) = x := by rw [floorN, e, hx]; rfl
  rw [hf, e]
  exact ⟨(kept_mem.1 hm).1, keptN_len _ _ _ _ _, fun r hr => ⟨hall r hr, (kept_mem.1 hr).1⟩⟩
set_option maxRecDepth 20000 in
set_option maxHeartbeats 16000000 in
theorem TopKeep_any (a : Option Addr) (l : List Rv) (cap : Nat) (last every : Int) (ap : Option Addr) (pins : List Int) (cp : Nat) (w : World) (hl : RevsAt w w.heap.size a l) (hc : l.length ≤ cap) (hv : IzAt w w.heap.size ap pins cp) :
    Calls Try.prog 5 #[.slice a l.length cap, polV last every ap pins.length cp] w fun e w' => e = .returned (.bool true) ∧ Below w.heap.size w w' := by
  have HL : Hid (RevsAt w w.heap.size a l) := hl
  have HV : Hid (IzAt w w.heap.size ap pins cp) := hv
  have hll : l.length ≤ 9223372036854775807 := hl.1
  have HP0 : Hid (PolAt (w.alloc (.cells #[.int .i64 last, .int .i64 every, .slice ap pins.length cp] 59)) w.heap.size last every (.slice ap pins.length cp) ∧ Below w.heap.size w (w.alloc (.cells #[.int .i64 last, .int .i64 every, .slice ap pins.length cp] 59))) := ⟨heap_alloc_new _ _, (Below.refl _ w).alloc (Nat.le_refl _) _⟩
  have HN : Hid _ := fun w => GNew w
  have HBg : Hid _ := fun w => begun_any w
  obtain ⟨hg1, hg2, hg3, hg4⟩ := fill_is l
  have hgd := (fill_good l).bounds
  have HH : Hid _ := fun w g h => GHead (fillS l) g w h
  have hN64 : headN (fillS l) ≤ 64 := by rw [fill_head]; exact hgd.1
  obtain ⟨ip, hip, hp0, hp1, hp2⟩ := info_parts infoStrK
  clear hl hv
  go_enter Try.func5, Try.ntmps5
  go_wp2_with fail
  generalize w.alloc (.cells #[.int .i64 last, .int .i64 every, .slice ap pins.length cp] 59) = w0 at HP0 ⊢
  obtain ⟨B, hB⟩ : ∃ B, w.heap.size = B := ⟨_, rfl⟩
  have HWB : Hid (w.heap.size = B) := hB
  rw [hB] at HL HV HP0 ⊢
  clear hB
  have HB0 : Hid (Below B w w0) := HP0.out.2
  have HX0 : Hid (PolAt w0 B last every (.slice ap pins.length cp)) := HP0.out.1
  have hz0 := HX0.out.lt
  clear HP0
  with_reducible refine (HN.out _).mono ?_
  rintro e w1 ⟨g, rfl, hg, hs1, hb1⟩
  have HG : Hid (B < g ∧ B ≤ g) := ⟨by omega, by omega⟩
  have HX1 : Hid (KpAll w1 w B g B newS last every (.slice ap pins.length cp)) := ⟨hs1, HX0.out.below hb1, HB0.out.trans (hb1.mono (by omega)), by have := hb1.size; omega⟩
  clear hg hs1 hb1 HX0 HB0 hz0
  go_wp2_with fail
  with_reducible refine (HBg.out _).mono ?_
  rintro e w2 ⟨rfl, hb2⟩
  have HX2 := kp_next HX1 hb2
  clear hb2 HX1 HBg HN
  go_wp2_with fail
  go_loopw [31] (fun i wr => ∃ k : Nat, k ≤ l.length ∧ i = .int .i64 (k : Int) ∧ KpAll wr w B g B (fillS (l.take k)) last every (.slice ap pins.length cp)) (fun i _ => l.length - (intOf i).toNat)
  case atStart => exact ⟨0, Nat.zero_le _, rfl, HX2.out⟩
  case round =>
    rename World => wr
    obtain ⟨k, hk, rfl, hx⟩ := hrel
    have HX : Hid (KpAll wr w B g B (fillS (l.take k)) last every (.slice ap pins.length cp)) := hx
    clear hx HX2
    by_cases hlt : k < l.length
    · obtain ⟨r, hr⟩ : ∃ r, l[k]? = some r := ⟨_, List.getElem?_eq_getElem hlt⟩
      obtain ⟨b, off, ai, ci, rfl, hbl, hrv⟩ := (HL.out.below HX.out.2.2.1 (Nat.le_refl _)).mem hr
      have HFar : Hid (PartsFar wr g ai r.d) := revs_far hrv HG.out.2
      have hgw : g < wr.heap.size := HX.out.1.lt
      have hbw : b < wr.heap.size := by have := HG.out.2; omega
      obtain ⟨d0, d1, d2, _⟩ := hrv
      have hki : (k : Int) < (l.length : Int) := by omega
      have hb2 : Below wr.heap.size wr (wr.alloc (.cells #[.int .i64 r.who, .int .i64 r.seq, .slice ai r.d.length ci] 27)) := (Below.refl _ wr).alloc (Nat.le_refl _) _
      have HX3 := kp_next HX hb2
      have HF2 : Hid (PartsFar (wr.alloc (.cells #[.int .i64 r.who, .int .i64 r.seq, .slice ai r.d.length ci] 27)) g ai r.d) := HFar.out.on (below_aside hb2 g)
      have HNx : Hid (fillS (l.take (k + 1)) = addT (fillS (l.take k)) r) := by
        show _ = _
        rw [List.take_add_one, hr]
        exact adds_snoc newS (l.take k) r
      have HA : Hid _ := fun w h hp => GAdd (fillS (l.take k)) r ai ci g w h hp
      have hsg := HX3.out.1
      clear hr hb2
      go_wp2_with fail
      with_reducible refine (HA.out _ hsg HF2.out).mono ?_
      rintro e w3 ⟨rfl, hs3, ha3⟩
      have HX4 : Hid (KpAll w3 w B g B (fillS (l.take (k + 1))) last every (.slice ap pins.length cp)) := by
        obtain ⟨q1, q2, q3, q4⟩ := HX3.out
        refine ⟨by rw [HNx.out]; exact hs3, ha3.block q2 (by have := HG.out.1; omega), q3.trans (ha3.below HG.out.2 q4), Nat.le_trans q4 ha3.size⟩
      clear hs3 ha3 hsg
      go_wp2_with fail
      go_roundw
      case rel => exact ⟨k + 1, hlt, by go_num, HX4.out⟩
      case measure => simp [intOf]; omega
    · have hki : ¬ (k : Int) < (l.length : Int) := by omega
      have HXl : Hid (KpAll wr.drew w B g B (fillS l) last every (.slice ap pins.length cp)) := by
        have h := HX.out
        rw [List.take_of_length_le (by omega)] at h
        exact (kp_next (show Hid _ from h) (Below.refl _ wr).drew).out
      clear hlt hk HX
      obtain ⟨N, hN⟩ : ∃ N, headN (fillS l) = N := ⟨_, rfl⟩
      rw [hN] at HH hN64
      have HK1 : Hid _ := fun w h => KeepOf_own last every ap pins cp (N : Int) w h
      have HK2 : Hid _ := fun w h => KeepFloor_any last every ap pins cp (N : Int) w h
      have HFx : Hid (keepE last every pins (N : Int) = 0 → floorN last every pins (N : Int) ≤ N ∧ (polL last every pins (N : Int)).length ≤ N + 1 ∧ ∀ r ∈ polL last every pins (N : Int), floorN last every pins (N : Int) ≤ r ∧ r ≤ N) := fun h => kept_facts h
      have HTx : Hid (∀ k : Nat, k ≤ N → ∀ w, SG w g (fillS l) → Calls Try.prog 29 #[.pointer (some ⟨g, 0, none⟩), .int .i64 k] w fun e w' => e = .returned (.tuple #[.string ⟨(shTextR (fillS l) k).toArray⟩, .int .i64 0]) ∧ Below w.heap.size w w') := by
        intro k hk w h
        have h2 := GText (fillS l) k g w h
        have h3 : hasE (fillS l) (k : Int) = 0 := by unfold hasE; rw [if_neg (by omega), if_neg (by omega)]
        rw [h3] at h2
        exact h2
      have HKp : Hid (∀ k : Nat, k ≤ N → ∀ w, SG w g (fillS l) → Calls Try.prog 13 #[.pointer (some ⟨g, 0, none⟩), .int .i64 k] w fun e w' => e = .returned (.int .i64 0) ∧ (∃ S, SG w' g S ∧ MvSt S k 0 ∧ SameT (fillS l) S) ∧ Aside g w w') := by
        intro k hk w h
        obtain ⟨k1, k2⟩ := keep_ok hg1 (by rw [hg4]; decide) (k := k) (by rw [hg3]; omega) (by rw [hN]; omega)
        have h2 := GKeep (fillS l) k g w h
        rw [k1] at h2
        refine h2.mono fun e w' ⟨h1, h2, h3⟩ => ⟨h1, ⟨_, h2, .inl ?_, ⟨head_same (keepS_revs _ _), fun k _ _ => text_same (keepS_revs _ _) k⟩⟩, h3⟩
        rw [k2]
        exact ⟨rfl, rfl, rfl, rfl, hg3, hg4, by show k ≤ headN (fillS l); omega⟩
      clear hg1 hg2 hg3 hg4 hgd HL hll
      have HhN : Hid (headN (fillS l) = N) := hN
      clear hN
      generalize keepE last every pins (N : Int) = E at *
      generalize polL last every pins (N : Int) = x at *
      generalize floorN last every pins (N : Int) = f at *
      generalize fillS l = Fl at *
      obtain ⟨c0, c1, c2⟩ := HXl.out.2.1.cells
      go_wp2_with fail
      go_region_held3 (fun w' => w'.cell? ⟨B, 0, none⟩ = some (.int .i64 last) ∧ w'.cell? ⟨B, 1, none⟩ = some (.int .i64 every) ∧ w'.cell? ⟨B, 2, none⟩ = some (.slice ap pins.length cp)) (first | go_keep | exact HXl.out.2.1.cells | fail) (first
        | (go_at_call 15; have hsg := HXl.out.1; with_reducible refine (HH.out _ _ hsg).mono ?_; rintro e w' ⟨rfl, hb⟩; replace HXl := kp_next HXl hb; clear hb hsg)
        | (go_at_call 27; have hiz := HV.out.here HXl.out.2.2.1 (Nat.le_refl _); with_reducible refine (HK1.out _ hiz).mono ?_; rintro e w' ⟨ao, co, rfl, hn, hown, hb⟩; have hzW := kp_size HXl; replace HXl := kp_next HXl hb)
        | fail)
      clear c0 c1 c2
      have HNw := nw_of hown hzW
      clear hown hzW hn hb hiz
      replace HXl := kp_next HXl (Below.refl _ _).drew
      replace HNw := nw_next HNw (Below.refl _ _).drew
      obtain ⟨c0, c1, c2⟩ := HXl.out.2.1.cells
      go_wp2_with fail
      go_region_held3 (fun w' => w'.cell? ⟨B, 0, none⟩ = some (.int .i64 last) ∧ w'.cell? ⟨B, 1, none⟩ = some (.int .i64 every) ∧ w'.cell? ⟨B, 2, none⟩ = some (.slice ap pins.length cp)) (first | go_keep | exact HXl.out.2.1.cells | fail) (first
        | (go_at_call 15; have hsg := HXl.out.1; with_reducible refine (HH.out _ _ hsg).mono ?_; rintro e w' ⟨rfl, hb⟩; replace HNw := nw_next HNw hb; replace HXl := kp_next HXl hb; clear hb hsg)
        | (go_at_call 28; have hiz := HV.out.here HXl.out.2.2.1 (Nat.le_refl _); with_reducible refine (HK2.out _ hiz).mono ?_; rintro e w' ⟨rfl, hb⟩; replace HNw := nw_next HNw hb; replace HXl := kp_next HXl hb; clear hb hiz)
        | fail)
      clear c0 c1 c2 HK1 HK2 HH HV
      obtain ⟨hs9, _, hb9, hz9⟩ := HXl.out
      have HS9 : Hid (SG _ g Fl) := hs9
      have HB9 : Hid (Below B w _) := hb9
      clear HXl hs9 hb9 hz9
      by_cases hE : E = 0
      · subst hE
        obtain ⟨hf, hxl, hxr⟩ := HFx.out rfl
        have HXr : Hid (∀ r ∈ x, f ≤ r ∧ r ≤ N) := hxr
        clear hxr HFx
        have HKf : Hid _ := HKp.out f hf
        go_wp2_with fail
        go_loopw [12, 64] (fun v i wr => ∃ (k : Nat) (a2 : Option Addr) (ca : Nat), k ≤ x.length ∧ i = .int .i64 (k : Int) ∧ v = .slice a2 k ca ∧ wr.ownsRow B 9 1 (.slice a2 k ca) k ((textsK Fl (x.take k)).map Value.string) ∧ SG wr g Fl ∧ Nw wr B ao co x ∧ Below B w wr) (fun _ i _ => x.length - (intOf i).toNat)
        case atStart => exact ⟨0, none, 0, Nat.zero_le _, rfl, rfl, World.ownsRow_nil _ _ _ _, HS9.out, HNw.out, HB9.out⟩
        case round =>
          rename World => wr
          clear HS9 HNw HB9
          obtain ⟨k, a2, ca, hk, rfl, rfl, hown, hs, hnw, hb⟩ := hrel
          have HS : Hid (SG wr g Fl) := hs
          have HNw : Hid (Nw wr B ao co x) := hnw
          have HB : Hid (Below B w wr) := hb
          have HO : Hid _ := hown
          clear hs hb hown hnw
          by_cases hlt : k < x.length
          · have hki : (k : Int) < (x.length : Int) := by omega
            obtain ⟨r, hr⟩ : ∃ r, x[k]? = some r := ⟨_, List.getElem?_eq_getElem hlt⟩
            obtain ⟨gi, hao, hcell, hgi⟩ := HNw.out.at hr
            have HTk : Hid _ := HTx.out r (HXr.out r (List.mem_of_getElem? hr)).2
            have HSn : Hid (textsK Fl (x.take (k + 1)) = textsK Fl (x.take k) ++ [⟨(shTextR Fl (r : Int)).toArray⟩]) := by
              show _ = _
              unfold textsK
              rw [List.take_add_one, hr, List.map_append]
              rfl
            obtain ⟨y, hy⟩ : ∃ y : ByteArray, (⟨(shTextR Fl (r : Int)).toArray⟩ : ByteArray) = y := ⟨_, rfl⟩
            rw [hy] at HTk HSn
            subst hao
            clear hy hr
            go_wp2_with fail
            with_reducible refine (HTk.out _ HS.out).mono ?_
            rintro e w3 ⟨rfl, hb3⟩
            have hb4 : Below w3.heap.size w3 (w3.alloc (.cells #[.string y] 9)) := (Below.refl _ w3).alloc (Nat.le_refl _) _
            have HS3 : Hid (SG (w3.alloc (.cells #[.string y] 9)) g Fl) := (HS.out.below hb3).below hb4
            have HN3 : Hid (Nw (w3.alloc (.cells #[.string y] 9)) B (some ⟨gi, 0, none⟩) co x) := (HNw.out.below hb3).below hb4
            have HB3 : Hid (Below B w w3) := HB.out.trans (hb3.mono (by have := HB.out.size; have := HWB.out; omega))
            have HO3 : Hid (w3.ownsRow B 9 1 (.slice a2 k ca) k ((textsK Fl (x.take k)).map Value.string)) := own_below HO.out hb3
            have hzw : B ≤ w3.heap.size := by have := HB3.out.size; have := HWB.out; omega
            clear hb3 hb4 hcell hgi
            have hAs := own_alloc HO3.out (.cells #[.string y] 9)
            have hNew : (w3.alloc (.cells #[.string y] 9)).heap[w3.heap.size]? = some (.cells #[.string y] 9 (0, 0)) := heap_alloc_new _ _
            go_wp2_with (at_builtin; refine wpList_append_own _ rfl _ _ 64 rfl B 9 ip _ 1 16 Try.underlying64 hip hp0 hp1 hp2 rfl (by decide) _ _ _ rfl hAs ⟨w3.heap.size, 0, none⟩ 1 1 [.string y] rfl rfl (World.news_of_block (cs := #[.string y]) (t := 9) (fr := (0, 0)) hNew) (by simp [Value.oneCell']) ?c3 ?c4 ?c5 ?_)
            case c3 => unfold maxLen; omega
            case c4 => omega
            case c5 => first | omega | (simp; omega)
            intro v' w4 hown2 hgrow _
            obtain ⟨bo, cb2, rfl⟩ := slice_form hown2
            have HB4 : Hid (Below B w w4) := below_own (HB3.out.alloc hzw _) hAs hgrow (by simp; omega)
            have HS4 : Hid (SG w4 g Fl) := HS3.out.grown hAs hgrow
            have HN4 : Hid (Nw w4 B (some ⟨gi, 0, none⟩) co x) := HN3.out.grown hAs hgrow
            have HO4 : Hid _ := hown2
            clear hown2 hgrow hAs hNew
            go_wp2_with fail
            go_roundw
            case rel => exact ⟨k + 1, bo, cb2, hlt, by go_num, rfl, by rw [HSn.out, List.map_append]; exact HO4.out, HS4.out, HN4.out, HB4.out⟩
            case measure => simp [intOf]; omega
          · have hki : ¬ (k : Int) < (x.length : Int) := by omega
            obtain rfl : k = x.length := by omega
            have hTl : (textsK Fl x).length = x.length := List.length_map _
            have HTw : Hid (Tw wr B (.slice a2 x.length ca) (textsK Fl x)) := by
              have h := HO.out
              rw [List.take_length] at h
              show Tw _ _ _ _
              unfold Tw
              rw [hTl]
              exact h
            clear hlt hk HO
            go_wp2_with fail
            with_reducible refine (HKf.out _ HS.out).mono ?_
            rintro e w11 ⟨rfl, ⟨S0, hs11, hmv, hsm⟩, ha11⟩
            have HS11 : Hid (SG w11 g S0) := hs11
            have HM11 : Hid (MvSt S0 f 0 ∧ SameT Fl S0) := ⟨hmv, hsm⟩
            have HN11 : Hid (Nw w11 B ao co x) := HNw.out.aside HS.out ha11
            have HT11 : Hid (Tw w11 B (.slice a2 x.length ca) (textsK Fl x)) := HTw.out.aside HS.out ha11
            have HB11 : Hid (Below B w w11) := HB.out.trans (ha11.below HG.out.2 (by have := HB.out.size; have := HWB.out; omega))
            clear hs11 hmv hsm ha11 HKf HKp HTx HNw HTw HS HB
            go_wp2_with fail
            go_loopw [17] (fun i wr => ∃ (n : Nat) (S : Sh), i = .int .i64 (n : Int) ∧ SG wr g S ∧ (MvSt S f n ∧ SameT Fl S) ∧ Nw wr B ao co x ∧ Tw wr B (.slice a2 x.length ca) (textsK Fl x) ∧ Below B w wr) (fun i _ => 70 - (intOf i).toNat)
            case atStart => exact ⟨0, S0, rfl, HS11.out, HM11.out, HN11.out, HT11.out, HB11.out⟩
            case round =>
              rename World => wq
              clear HS11 HM11 HN11 HT11 HB11
              obtain ⟨n, S, rfl, hs, hmv, hnw, htw, hb⟩ := hrel
              have HS : Hid (SG wq g S) := hs
              have HM : Hid (MvSt S f n ∧ SameT Fl S) := hmv
              have HNw : Hid (Nw wq B ao co x) := hnw
              have HTw : Hid (Tw wq B (.slice a2 x.length ca) (textsK Fl x)) := htw
              have HB : Hid (Below B w wq) := hb
              have HSt : Hid _ := fun w h => GStep S g w h
              have hn68 := hmv.1.bound hs.2
              clear hs hmv hnw htw hb
              by_cases h0 : S.stage = 0
              · have e0 := stepB_no h0
                have e1 : stepS S = S := by
                  unfold stepS
                  rw [if_neg (by omega), if_neg (by omega), if_neg (by omega), if_neg (by omega)]
                rw [e0, e1] at HSt
                have hbs : S.log.base = f := by
                  rcases HM.out.1 with h | h | h | h | h <;> first | omega | exact h.2.2.1
                have hhd : headN S = N := HM.out.2.head.trans HhN.out
                have HBa : Hid _ := fun w h => GBase S g w h
                rw [hbs] at HBa
                have HTr : Hid (∀ r ∈ x, ∀ w, SG w g S → Calls Try.prog 29 #[.pointer (some ⟨g, 0, none⟩), .int .i64 (r : Nat)] w fun e w' => e = .returned (.tuple #[.string ⟨(shTextR Fl (r : Nat)).toArray⟩, .int .i64 0]) ∧ Below w.heap.size w w') := by
                  intro r hr w h
                  obtain ⟨r1, r2⟩ := HXr.out r hr
                  have h2 := GText S r g w h
                  have h3 : hasE S (r : Int) = 0 := by unfold hasE; rw [if_neg (by omega), if_neg (by omega)]
                  rw [h3, HM.out.2.text r (by omega) (by rw [HhN.out]; exact r2)] at h2
                  exact h2
                have HTg : Hid (∀ w, SG w g S → Calls Try.prog 29 #[.pointer (some ⟨g, 0, none⟩), .int .i64 ((f : Int) - 1)] w fun e w' => (∃ t, e = .returned (.tuple #[.string t, .int .i64 9])) ∧ Below w.heap.size w w') := by
                  intro w h
                  have h2 := GText S ((f : Int) - 1) g w h
                  have h3 : hasE S ((f : Int) - 1) = 9 := by unfold hasE; rw [if_pos (by omega)]
                  rw [h3] at h2
                  exact h2.mono fun e w' ⟨h4, h5⟩ => ⟨⟨_, h4⟩, h5⟩
                clear e0 e1 hbs hhd h0 HM
                go_wp2_with fail
                with_reducible refine (HSt.out _ HS.out).mono ?_
                rintro e w12 ⟨rfl, hs12, ha12⟩
                have HS12 : Hid (SG w12 g S) := hs12
                have HN12 : Hid (Nw w12 B ao co x) := HNw.out.aside HS.out ha12
                have HT12 : Hid (Tw w12 B (.slice a2 x.length ca) (textsK Fl x)) := HTw.out.aside HS.out ha12
                have HB12 : Hid (Below B w w12) := HB.out.trans (ha12.below HG.out.2 (by have := HB.out.size; have := HWB.out; omega))
                clear hs12 ha12 HS HNw HTw HB HSt
                go_wp2_with fail
                go_loopw [93] (fun i wr => ∃ k : Nat, k ≤ x.length ∧ i = .int .i64 (k : Int) ∧ SG wr g S ∧ Nw wr B ao co x ∧ Tw wr B (.slice a2 x.length ca) (textsK Fl x) ∧ Below B w wr) (fun i _ => x.length - (intOf i).toNat)
                case atStart => exact ⟨0, Nat.zero_le _, rfl, HS12.out, HN12.out, HT12.out, HB12.out⟩
                case round =>
                  rename World => wz
                  clear HS12 HN12 HT12 HB12
                  obtain ⟨k, hk, rfl, hs, hnw, htw, hb⟩ := hrel
                  have HS : Hid (SG wz g S) := hs
                  have HNw : Hid (Nw wz B ao co x) := hnw
                  have HTw : Hid (Tw wz B (.slice a2 x.length ca) (textsK Fl x)) := htw
                  have HB : Hid (Below B w wz) := hb
                  clear hs hnw htw hb
                  by_cases hlt : k < x.length
                  · have hki : (k : Int) < (x.length : Int) := by omega
                    obtain ⟨r, hr⟩ : ∃ r, x[k]? = some r := ⟨_, List.getElem?_eq_getElem hlt⟩
                    obtain ⟨gi, hao, hcell, hgi⟩ := HNw.out.at hr
                    have HTk : Hid _ := HTr.out r (List.mem_of_getElem? hr)
                    have HAt : Hid ((textsK Fl x)[k]? = some ⟨(shTextR Fl (r : Int)).toArray⟩) := by
                      show _ = _
                      unfold textsK
                      rw [List.getElem?_map, hr]; rfl
                    obtain ⟨y, hy⟩ : ∃ y : ByteArray, (⟨(shTextR Fl (r : Int)).toArray⟩ : ByteArray) = y := ⟨_, rfl⟩
                    rw [hy] at HTk HAt
                    subst hao
                    clear hy hr
                    go_wp2_with fail
                    with_reducible refine (HTk.out _ HS.out).mono ?_
                    rintro e w13 ⟨rfl, hb13⟩
                    have HS13 : Hid (SG w13 g S) := HS.out.below hb13
                    have HN13 : Hid (Nw w13 B (some ⟨gi, 0, none⟩) co x) := HNw.out.below hb13
                    have HT13 : Hid (Tw w13 B (.slice a2 x.length ca) (textsK Fl x)) := HTw.out.below hb13
                    have HB13 : Hid (Below B w w13) := HB.out.trans (hb13.mono (by have := HB.out.size; have := HWB.out; omega))
                    clear hb13 hcell hgi
                    obtain ⟨gt, cg, ha2, hcell, hgt⟩ := HT13.out.at HAt.out
                    simp only [Value.slice.injEq] at ha2
                    replace ha2 := ha2.1
                    subst ha2
                    go_wp2_with fail
                    go_roundw
                    case rel => exact ⟨k + 1, hlt, by go_num, HS13.out, HN13.out, HT13.out, HB13.out⟩
                    case measure => simp [intOf]; omega
                  · have hki : ¬ (k : Int) < (x.length : Int) := by omega
                    go_wp2_with fail
                    with_reducible refine (HTg.out _ HS.out).mono ?_
                    rintro e w13 ⟨⟨tg, rfl⟩, hb13⟩
                    have HS13 : Hid (SG w13 g S) := HS.out.below hb13
                    have HB13 : Hid (Below B w w13) := HB.out.trans (hb13.mono (by have := HB.out.size; have := HWB.out; omega))
                    clear hb13
                    go_wp2_with fail
                    with_reducible refine (HBa.out _ HS13.out).mono ?_
                    rintro e w14 ⟨rfl, hb14⟩
                    have HB14 : Hid (Below B w w14) := HB13.out.trans (hb14.mono (by have := HB13.out.size; have := HWB.out; omega))
                    clear hb14
                    go_wp2_with fail
                    go_ret
                    exact ⟨rfl, by rw [HWB.out]; exact HB14.out⟩
              · rw [stepB_yes HS.out.2 h0] at HSt
                have HM2 : Hid (MvSt (stepS S) f (n + 1) ∧ SameT Fl (stepS S)) := ⟨mv_step HS.out.2 HM.out.1 h0, sameT_step HS.out.2 HM.out.2⟩
                have h80 : ¬ (80 : Int) < (n : Int) := by omega
                generalize stepS S = S2 at *
                clear h0 HM
                go_wp2_with fail
                with_reducible refine (HSt.out _ HS.out).mono ?_
                rintro e w12 ⟨rfl, hs12, ha12⟩
                have HS12 : Hid (SG w12 g S2) := hs12
                have HN12 : Hid (Nw w12 B ao co x) := HNw.out.aside HS.out ha12
                have HT12 : Hid (Tw w12 B (.slice a2 x.length ca) (textsK Fl x)) := HTw.out.aside HS.out ha12
                have HB12 : Hid (Below B w w12) := HB.out.trans (ha12.below HG.out.2 (by have := HB.out.size; have := HWB.out; omega))
                clear hs12 ha12
                go_wp2_with fail
                go_roundw
                case rel => exact ⟨n + 1, S2, by go_num, HS12.out, HM2.out, HN12.out, HT12.out, HB12.out⟩
                case measure => simp [intOf]; omega
      · have hE' : (E != 0) = true := by simp [hE]
        clear hE
        go_wp2_with fail
        go_ret
        exact ⟨rfl, by rw [HWB.out]; exact HB9.out⟩
end Go.Proofs.Ytcghojnmnmmpoaa
