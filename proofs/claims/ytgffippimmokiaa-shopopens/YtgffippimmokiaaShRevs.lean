/- What Revs answers: copies of all revisions behind one. -/
import Derived.Test.YtgffippimmokiaaShRun
import Derived.Test.YtgffippimmokiaaShDo
import Derived.BigQuiet
import Derived.Deep.AppendLies
namespace Go.Proofs.Ytgffippimmokiaa
open Go.RowKit
set_option linter.unusedSimpArgs false
set_option linter.unusedVariables false

def revsR (S : Sh) (r : Int) : List Rv := if hasE S r = 0 then S.log.revs.drop (r - S.log.base).toNat else []
/-- no two of them in one block -/
def Apt (xs : List (Rv × Option Addr × Nat)) : Prop := xs.Pairwise (fun x y => ∀ k, (Value.slice x.2.1 x.1.d.length x.2.2).ownBlock = some k → (Value.slice y.2.1 y.1.d.length y.2.2).ownBlock ≠ some k)
theorem apt_snoc {w : World} {B gd c : Nat} {v : Value} {r : Rv} {xs : List (Rv × Option Addr × Nat)} (h : Apt xs) (hz : RzsOwn w B v xs) (hg : w.heap.size ≤ gd) : Apt (xs ++ [(r, some ⟨gd, 0, none⟩, c)]) := by
  refine List.pairwise_append.2 ⟨h, List.pairwise_singleton _ _, fun x hx y hy k hk e => ?_⟩
  rw [List.mem_singleton.1 hy] at e
  have e2 : gd = k := Option.some.inj e
  have := ((hz.1 x hx).2.lt k hk).2
  omega
set_option maxRecDepth 20000 in
set_option maxHeartbeats 4000000 in
theorem GRevs_apt (S : Sh) (r : Int) (g : Nat) (w : World) (h : SG w g S) :
    Calls Try.prog 27 #[.pointer (some ⟨g, 0, none⟩), .int .i64 r] w fun e w' => ∃ v xs, e = .returned (.tuple #[v, .int .i64 (hasE S r)]) ∧ RzsOwn w' w.heap.size v xs ∧ Apt xs ∧ xs.map (·.1) = revsR S r ∧ Below w.heap.size w w' := by
  have hbd := h.2.bounds
  have HHas : Hid _ := fun w h => ShHas_any S r g w h hbd.1 hbd.2.1
  have HI : Hid (ShIs w g S) := h.1
  by_cases h0 : hasE S r = 0
  · have hR : revsR S r = S.log.revs.drop (r - S.log.base).toNat := by rw [revsR, if_pos h0]
    obtain ⟨k, hrk, hk⟩ := has_zero h0
    rw [hR, show (r - S.log.base).toNat = k by omega]
    rw [h0] at HHas ⊢
    obtain ⟨ip, hip, hp0, hp1, hp2⟩ := info_parts infoRev
    have hb31 : S.log.base + S.log.revs.length ≤ 2147483647 := hbd.2.1
    have h64 := hbd.1
    have hwk : IntKind.i64.wrap (r - (S.log.base : Int)) = (k : Int) := by rw [IntWalk.i64_in _ ⟨by omega, by omega⟩]; omega
    have HWK : Hid _ := hwk
    clear hR h0 h hbd hrk hwk
    go_enter Try.func27, Try.ntmps27
    go_wp2_with fail
    with_reducible refine (HHas.out _ HI.out).mono ?_
    rintro e w1 ⟨rfl, hb1⟩
    have HB1 : Hid (Below w.heap.size w w1) := hb1
    obtain ⟨v1, xs1, hof⟩ := HI.out.below hb1
    obtain ⟨a, c, rfl, hc, hR1⟩ := hof.revsAt h64
    have HOne : Hid (∀ q ∈ S.log.revs, oneE q = 0) := by
      intro q hq
      rw [← hof.2.2.1] at hq
      obtain ⟨x, hx, rfl⟩ := List.mem_map.1 hq
      exact (hof.2.1.1 x hx).1
    obtain ⟨_, ⟨_, c6, _, c40⟩, _⟩ := hof.cells
    have hgl := hof.1.lt
    have HR1 : Hid (RevsAt w1 w1.heap.size a S.log.revs) := hR1
    obtain ⟨l2, a2, hl2, hl2k, hc2, hR2, hrun⟩ := run_from HR1.out hc hk
    have HR2 : Hid (RevsAt w1 w1.heap.size a2 l2) := hR2
    have HL2 : Hid (l2 = S.log.revs.drop k) := hl2
    have HOne2 : Hid (∀ q ∈ l2, oneE q = 0) := by
      intro q hq
      rw [HL2.out] at hq
      exact HOne.out q (List.mem_of_mem_drop hq)
    have hl264 : l2.length ≤ 64 := by omega
    have hwk := HWK.out
    clear hof hb1 hR1 hR2 hl2 HR1 HOne HHas HI hl2k
    generalize S.log.revs.length = N at *
    generalize S.log.base = Bs at *
    go_wp2_with fail
    go_quiet (fail)
    clear c6 c40 hwk hrun hgl
    go_wp2_with fail
    go_loopw [7, 30] (fun v i wr => ∃ (j : Nat) (ao : Option Addr) (ca : Nat) (xs : List (Rv × Option Addr × Nat)), j ≤ l2.length ∧ i = .int .i64 (j : Int) ∧ v = .slice ao j ca ∧ xs.length = j ∧ xs.map (·.1) = l2.take j ∧ RzsOwn wr w1.heap.size (.slice ao j ca) xs ∧ Apt xs ∧ Below w1.heap.size w1 wr) (fun _ i _ => l2.length - (intOf i).toNat)
    case atStart => exact ⟨0, none, 0, [], Nat.zero_le _, rfl, rfl, rfl, rfl, rzs_nil _ _, List.Pairwise.nil, below_drewN (Below.refl w1.heap.size w1) _⟩
    case round =>
      rename World => wr
      obtain ⟨j, ao, ca, xs, hj, rfl, rfl, hxl, hxm, hrz, hap, hb⟩ := hrel
      have HAp : Hid (Apt xs) := hap
      clear hap
      have HZ : Hid (RzsOwn wr w1.heap.size (.slice ao j ca) xs) := hrz
      have HB : Hid (Below w1.heap.size w1 wr) := hb
      have HX : Hid (xs.length = j ∧ xs.map (·.1) = l2.take j) := ⟨hxl, hxm⟩
      have hz := hb.size
      clear hrz hb hxl hxm
      by_cases hlt : j < l2.length
      · obtain ⟨q, hq⟩ : ∃ q, l2[j]? = some q := ⟨_, List.getElem?_eq_getElem hlt⟩
        obtain ⟨b, off, ai, ci, rfl, hbl, d0, d1, d2, hpd, _⟩ := (HR2.out.below HB.out (Nat.le_refl _)).mem hq
        have hone := HOne2.out q (List.mem_of_getElem? hq)
        have HOq : Hid (oneE q = 0) := hone
        have HCp : Hid _ := fun w hp => ShCopied_any q ai ci w hp (by have := (sizes_zero (one_zero hone).2).1.1; omega) (fun p hpm => (part_small hone p hpm))
        have hbw : b < wr.heap.size := by omega
        have hji : (j : Int) < (l2.length : Int) := by omega
        have HQ : Hid (l2.take (j + 1) = l2.take j ++ [q]) := by show _ = _; rw [List.take_add_one, hq]; rfl
        have hb2 : Below wr.heap.size wr (wr.alloc (.cells #[.int .i64 q.who, .int .i64 q.seq, .slice ai q.d.length ci] 40)) := (Below.refl _ wr).alloc (Nat.le_refl _) _
        have HB2 : Hid (Below w1.heap.size w1 (wr.alloc (.cells #[.int .i64 q.who, .int .i64 q.seq, .slice ai q.d.length ci] 40))) := HB.out.trans (hb2.mono hz)
        have HP2 : Hid (PartsAt (wr.alloc (.cells #[.int .i64 q.who, .int .i64 q.seq, .slice ai q.d.length ci] 40)) (wr.alloc (.cells #[.int .i64 q.who, .int .i64 q.seq, .slice ai q.d.length ci] 40)).heap.size ai q.d) := hpd.here hb2 hz
        have HZ2 : Hid (RzsOwn (wr.alloc (.cells #[.int .i64 q.who, .int .i64 q.seq, .slice ai q.d.length ci] 40)) w1.heap.size (.slice ao j ca) xs) := HZ.out.below hb2
        have HS2 : Hid (w1.heap.size ≤ (wr.alloc (.cells #[.int .i64 q.who, .int .i64 q.seq, .slice ai q.d.length ci] 40)).heap.size) := HB2.out.size
        have hdl : q.d.length ≤ 1000000 := by have := (sizes_zero (one_zero hone).2).1.1; omega
        clear hq hpd hone hb2
        go_wp2_with fail
        with_reducible refine (HCp.out _ HP2.out).mono ?_
        rintro e w3 ⟨gd, rfl, hown, hb3⟩
        have HB3 : Hid (Below w1.heap.size w1 w3) := HB2.out.trans (hb3.mono HS2.out)
        have HZ3 : Hid (RzsOwn w3 w1.heap.size (.slice ao j ca) xs) := HZ2.out.below hb3
        have HO3 : Hid (w3.ownsRow w1.heap.size 138 3 (.slice (some ⟨gd, 0, none⟩) q.d.length q.d.length) q.d.length (allCells q.d)) := rz_base hown HS2.out
        have hz3 := HB3.out.size
        have hgd1 := row_base hown
        have h9 : (wr.alloc (.cells #[.int .i64 q.who, .int .i64 q.seq, .slice ai q.d.length ci] 40)).heap.size = wr.heap.size + 1 := by simp
        have HGd : Hid (wr.heap.size ≤ gd) := by show _ ≤ _; omega
        clear h9
        clear hgd1 hown hb3 d0 d1 d2 hbl hbw
        have hb4 : Below w3.heap.size w3 (w3.alloc (.cells #[.int .i64 q.who, .int .i64 q.seq, .slice (some ⟨gd, 0, none⟩) q.d.length q.d.length] 40)) := (Below.refl _ w3).alloc (Nat.le_refl _) _
        have HZ4 : Hid (RzsOwn (w3.alloc (.cells #[.int .i64 q.who, .int .i64 q.seq, .slice (some ⟨gd, 0, none⟩) q.d.length q.d.length] 40)) w1.heap.size (.slice ao j ca) xs) := HZ3.out.below hb4
        have HO4 : Hid ((w3.alloc (.cells #[.int .i64 q.who, .int .i64 q.seq, .slice (some ⟨gd, 0, none⟩) q.d.length q.d.length] 40)).ownsRow w1.heap.size 138 3 (.slice (some ⟨gd, 0, none⟩) q.d.length q.d.length) q.d.length (allCells q.d)) := own_stay HO3.out hb4
        have hAs := HZ4.out.2
        rw [HX.out.1] at hAs
        clear hb4
        go_wp2_with (at_builtin; refine wpList_append_own _ rfl _ _ 36 rfl w1.heap.size 40 ip _ 3 40 Try.underlying36 hip hp0 hp1 hp2 rfl (by decide) _ _ _ rfl hAs ⟨w3.heap.size, 0, none⟩ 1 1 [.int .i64 q.who, .int .i64 q.seq, .slice (some ⟨gd, 0, none⟩) q.d.length q.d.length] rfl rfl ?c2 (by simp [Value.oneCell']) ?c3 ?c4 ?c5 ?_)
        case c2 => exact World.news_of_block (cs := #[.int .i64 q.who, .int .i64 q.seq, .slice (some ⟨gd, 0, none⟩) q.d.length q.d.length]) (t := 40) (fr := (0, 0)) (heap_alloc_new w3 _)
        case c3 => unfold maxLen; omega
        case c4 => omega
        case c5 => first | omega | (simp; omega)
        intro v' w5 hown2 hgrow _
        obtain ⟨bo, cb2, rfl⟩ := slice_form' hown2
        have HB5 : Hid (Below w1.heap.size w1 w5) := below_own' (HB3.out.alloc hz3 _) hAs hgrow (by simp; omega)
        have HZ5 : Hid (RzsOwn w5 w1.heap.size (.slice bo (j + 1) cb2) (xs ++ [(q, some ⟨gd, 0, none⟩, q.d.length)])) := by
          refine ⟨fun x hx => ?_, ?_⟩
          · rcases List.mem_append.1 hx with hx | hx
            · exact (HZ4.out.1 x hx).grown hAs hgrow
            · rw [List.mem_singleton.1 hx]
              exact RzOwn.grown ⟨HOq.out, HO4.out⟩ hAs hgrow
          · have e : rvAll (xs ++ [(q, some ⟨gd, 0, none⟩, q.d.length)]) = rvAll xs ++ [.int .i64 q.who, .int .i64 q.seq, .slice (some ⟨gd, 0, none⟩) q.d.length q.d.length] := by rw [rvAll_app]; rfl
            rw [e, List.length_append, List.length_singleton, HX.out.1]
            exact hown2
        clear hown2 hgrow hAs
        go_wp2_with fail
        go_roundw
        case rel => exact ⟨j + 1, bo, cb2, _, hlt, by go_num, rfl, by rw [List.length_append, List.length_singleton, HX.out.1], by rw [HQ.out, List.map_append, HX.out.2]; rfl, HZ5.out, apt_snoc HAp.out HZ.out HGd.out, HB5.out⟩
        case measure => simp [intOf]; omega
      · have hji : ¬ (j : Int) < (l2.length : Int) := by omega
        obtain rfl : j = l2.length := by omega
        clear hlt
        go_wp2_with fail
        refine bodyPost_ret (v := .tuple #[.slice ao l2.length ca, .int .i64 0]) (by simp [results, Try.results27, go_sem, *]) rfl ⟨.slice ao l2.length ca, rfl, xs, HZ.out.base HB1.out.size, HAp.out, ?_, HB1.out.trans (HB.out.mono HB1.out.size)⟩
        rw [HX.out.2, List.take_length]
        exact HL2.out
  · have hR : revsR S r = [] := by rw [revsR, if_neg h0]
    rw [hR]
    have hq : (hasE S r != 0) = true := by simp [h0]
    generalize hasE S r = q at *
    clear hR h0 h hbd
    go_enter Try.func27, Try.ntmps27
    go_wp2_with fail
    with_reducible refine (HHas.out _ HI.out).mono ?_
    rintro e w1 ⟨rfl, hb1⟩
    have HB1 : Hid (Below w.heap.size w w1) := hb1
    clear hb1
    go_wp2_with fail
    go_ret2
    exact ⟨_, [], rfl, rzs_nil _ _, List.Pairwise.nil, rfl, HB1.out⟩
theorem GRevs (S : Sh) (r : Int) (g : Nat) (w : World) (h : SG w g S) :
    Calls Try.prog 27 #[.pointer (some ⟨g, 0, none⟩), .int .i64 r] w fun e w' => ∃ v xs, e = .returned (.tuple #[v, .int .i64 (hasE S r)]) ∧ RzsOwn w' w.heap.size v xs ∧ xs.map (·.1) = revsR S r ∧ Below w.heap.size w w' :=
  (GRevs_apt S r g w h).mono fun e w' ⟨v, xs, h1, h2, _, h3, h4⟩ => ⟨v, xs, h1, h2, h3, h4⟩
end Go.Proofs.Ytgffippimmokiaa
