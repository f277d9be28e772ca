/- What the document's own Turn answers: the same as package turn's Of. -/
import Derived.Test.YtndhamcipbecfaaMadeWalk
import Derived.Test.YtndhamcipbecfaaDelta
import Derived.Test.YtndhamcipbecfaaPure
import Derived.Test.YtndhamcipbecfaaTurned
namespace Go.Proofs.Ytndhamcipbecfaa
open Go.RowKit
set_option linter.unusedSimpArgs false
set_option linter.unusedVariables false

theorem pairs_len (w : List Tok) (i k : Nat) : (pairsW w i k).length ≤ inW w := by
  induction w generalizing i k with
  | nil => simp [pairsW]
  | cons t w ih => cases t using Tok.by3 <;> simp [pairsW, inW] <;> first | exact ih _ _ | (have := ih (i + 1) k; omega)
theorem swap_snoc {ps : List (Nat × Nat)} {k i j : Nat} (h : ps[k]? = some (i, j)) : swapP (ps.take (k + 1)) = swapP (ps.take k) ++ [(j, i)] := by
  obtain ⟨hi, e⟩ := List.getElem?_eq_some_iff.1 h
  rw [List.take_succ_eq_append_getElem hi, e]; simp [swapP]
theorem made_bound {n : Nat} {kept : List (Nat × Nat)} {text : List UInt8} {l : List Pt} (h : madeL n kept text = l) (hz : sizesE l = 0) : Bound (madeL n kept text) := by
  rw [h]
  obtain ⟨h1, h2⟩ := sizes_zero hz
  have hR := sizes_right hz
  refine ⟨by have := h1.1; omega, fun p hp => ?_⟩
  have h3 := h1.2 p hp
  have h4 := (hR p hp).1
  exact ⟨by omega, by omega, by omega, by omega, by omega⟩

set_option maxHeartbeats 4000000 in
theorem RTurn_any (a : Option Addr) (l : List Pt) (cap : Nat) (s : ByteArray) (w : World) (hp : PartsAt w w.heap.size a l) (hs : s.size ≤ 9223372036854775807) :
    Calls Try.prog 30 #[.slice a l.length cap, .string s] w fun e w' => ∃ a' c', e = .returned (.tuple #[.slice a' (turnR l s).length c', .int .i64 (fitsE l s.size)]) ∧ PartsAt w' w'.heap.size a' (turnR l s) ∧ Below w.heap.size w w' := by
  obtain ⟨ip, hip, hp0, hp1, hp2⟩ := info_parts infoPair
  have HP : Hid (PartsAt w w.heap.size a l) := hp
  clear hp
  go_enter Try.func30, Try.ntmps30
  go_wp2_with fail
  refine (RFits_any a l cap _ _ HP.out).mono ?_
  rintro e w1 ⟨rfl, hb1⟩
  by_cases h0 : fitsE l s.size = 0
  · obtain ⟨hz0, hin⟩ := fits_zero h0
    have h0' : (fitsE l s.size != 0) = false := by simp [h0]
    obtain ⟨g, c, i, o, b1, b2⟩ := delta_facts hz0
    have hs5 : s.size ≤ 500 := by omega
    have hsl : s.data.toList.length = s.size := Array.length_toList
    have HSM : Hid (Small l) := (sizes_zero hz0).1
    have hpl : (pairsL l).length ≤ 500 := Nat.le_trans (pairs_len _ _ _) b1
    have HPP : Hid (pairsP (ofAll l).1 (ofAll l).2 0 0 = pairsL l) := pairsP_of g.kinds
    have HOL : Hid ((ofAll l).1.length = (ofAll l).2.length + 1 ∧ (ofAll l).2.length ≤ 800000 ∧ ∀ q ∈ (ofAll l).1, q.size ≤ 800000) := by
      have h1 := (sizes_zero hz0).1
      refine ⟨ofAll_len l, ?_, fun q hq => ?_⟩
      · have := ofAll_kept h1.2; have := h1.1; omega
      · have := ofAll_size h1.2 q hq; have := h1.1; omega
    have HTL : Hid (madeL (outW (wordL l)) (swapP (pairsL l)) s.data.toList = turnL l s.data.toList) := by
      show _ = _
      rw [turnL, show (outI l).toNat = outW (wordL l) by omega]
    have HTF : Hid (sizesE (turnL l s.data.toList) = 0) := (turn_facts hz0 (by omega)).1
    have HKO : Hid (KeptOK (outW (wordL l)) s.data.toList.length (swapP (pairsL l)) 0 0) := by
      have h := kept_swaps (wordL l) 0 0 0 0 (Nat.le_refl _) (Nat.le_refl _)
      simp only [Nat.zero_add] at h
      show KeptOK _ _ _ _ _
      rw [hsl, show s.size = inW (wordL l) by omega]
      exact h
    have HR : Hid (turnR l s = turnL l s.data.toList ∧ fitsE l s.size = 0) := ⟨by rw [turnR, if_pos h0], h0⟩
    have HO : Hid (outI l = ((outW (wordL l) : Nat) : Int)) := o
    have HB1 : Hid (Below w.heap.size w w1) := hb1
    have HP1 : Hid (PartsAt w1 w1.heap.size a l) := HP.out.here hb1 (Nat.le_refl _)
    clear h0 hz0 hin g c i o b1 hb1 hsl
    go_wp2_with fail
    refine (Of_any a l cap _ HP1.out HSM.out).mono ?_
    rintro e w2 ⟨pv, kv, rfl, hq, hk, hb2⟩
    have HQ2 : Hid (w2.ownsRow w1.heap.size 9 1 pv (ofAll l).1.length ((ofAll l).1.map Value.string)) := hq
    have HK2 : Hid (w2.ownsRow w1.heap.size 4 1 kv (ofAll l).2.length ((ofAll l).2.map Value.bool)) := hk
    have HB2 : Hid (Below w.heap.size w w2) := HB1.out.trans (hb2.mono HB1.out.size)
    clear hq hk hb2
    go_wp2_with fail
    refine (pairs_any w1.heap.size pv kv (ofAll l).1 (ofAll l).2 _ HQ2.out HK2.out HOL.out.1 HOL.out.2.1 HOL.out.2.2).mono ?_
    rintro e w3 ⟨ov, rfl, hown3, hb3⟩
    rw [HPP.out] at hown3
    obtain ⟨po, pc, rfl⟩ := slice_form' hown3
    have HO3 : Hid (w3.ownsRow w2.heap.size 98 2 (.slice po (pairsL l).length pc) (pairsL l).length (prCells (pairsL l))) := hown3
    have HB3 : Hid (Below w.heap.size w w3) := HB2.out.trans (hb3.mono HB2.out.size)
    obtain ⟨ps, HPS⟩ : ∃ ps, Hid (pairsL l = ps) := ⟨_, rfl⟩
    rw [HPS.out] at HO3 hpl HTL HKO ⊢
    clear hown3 hb3
    go_wp2_with fail
    go_loopw [7, 21] (fun v i wr => ∃ k : Nat, k ≤ ps.length ∧ i = .int .i64 k ∧ wr.ownsRow w3.heap.size 98 2 v (swapP (ps.take k)).length (prCells (swapP (ps.take k))) ∧ Below w3.heap.size w3 wr) (fun _ i _ => ps.length - (intOf i).toNat)
    case atStart => exact ⟨0, Nat.zero_le _, rfl, World.ownsRow_nil _ _ _ _, Below.refl _ _⟩
    case round =>
      obtain ⟨k, hk, rfl, hown, hb⟩ := hrel
      have hz := hb.size
      obtain ⟨eo, ce, rfl⟩ := slice_form' hown
      have HB : Hid (Below w3.heap.size w3 wr) := hb
      by_cases hlt : k < ps.length
      · obtain ⟨p, hpk⟩ : ∃ p, ps[k]? = some p := ⟨ps[k], List.getElem?_eq_getElem hlt⟩
        obtain ⟨i, j⟩ := p
        obtain ⟨gk, ck, hgk, y0, y1, hgkw⟩ := pr_at HO3.out hpk
        simp only [Value.slice.injEq, true_and] at hgk
        obtain ⟨rfl, rfl⟩ := hgk
        have z0 : wr.cell? ⟨gk, k * 2, none⟩ = some (.int .i64 (i : Int)) := (hb.cell (p := ⟨gk, k * 2, none⟩) hgkw).trans y0
        have z1 : wr.cell? ⟨gk, k * 2 + 1, none⟩ = some (.int .i64 (j : Int)) := (hb.cell (p := ⟨gk, k * 2 + 1, none⟩) hgkw).trans y1
        have HSN : Hid _ := swap_snoc hpk
        have hol : (swapP (ps.take k)).length ≤ 500 := by simp [swapP]; omega
        obtain ⟨out, HOUT⟩ : ∃ out, Hid (swapP (ps.take k) = out) := ⟨_, rfl⟩
        rw [HOUT.out] at hown hol
        have hAs := own_alloc (own_alloc hown (.cells #[.int .i64 (i : Int), .int .i64 (j : Int)] 98)) (.cells #[.int .i64 (j : Int), .int .i64 (i : Int)] 98)
        rw [HOUT.out]
        clear hb hpk y0 y1 hown
        go_wp2_with (at_builtin; refine wpList_append_own _ rfl _ _ 96 rfl w3.heap.size 98 ip _ 2 16 Try.underlying96 hip hp0 hp1 hp2 rfl (by decide) _ _ _ rfl hAs ⟨wr.heap.size + 1, 0, none⟩ 1 1 [.int .i64 (j : Int), .int .i64 (i : Int)] rfl rfl ?c2 (by simp [Value.oneCell']) ?c3 ?c4 ?c5 ?_)
        case c2 => exact World.news_of_block (cs := #[.int .i64 (j : Int), .int .i64 (i : Int)]) (t := 98) (fr := (0, 0)) (by have h := heap_alloc_new (wr.alloc (.cells #[.int .i64 (i : Int), .int .i64 (j : Int)] 98)) (.cells #[.int .i64 (j : Int), .int .i64 (i : Int)] 98); rw [show (wr.alloc (.cells #[.int .i64 (i : Int), .int .i64 (j : Int)] 98)).heap.size = wr.heap.size + 1 from Deep.nblk_alloc _ _] at h; exact h)
        case c3 => unfold maxLen; omega
        case c4 => omega
        case c5 => first | omega | (simp; omega)
        intro v' wn hown2 hgrow _
        obtain ⟨fo, cf, rfl⟩ := slice_form' hown2
        have HBN : Hid (Below w3.heap.size w3 wn) := below_own' ((HB.out.alloc hz _).alloc (by simp; omega) _) hAs hgrow (by simp; omega)
        have HON : Hid (wn.ownsRow w3.heap.size 98 2 (.slice fo (out.length + 1) cf) (out ++ [(j, i)]).length (prCells (out ++ [(j, i)]))) := pr_snoc hown2
        clear hown2 hgrow hAs
        go_wp2_with fail
        go_roundw
        case rel =>
          refine ⟨k + 1, by omega, by go_num, ?_, HBN.out⟩
          rw [HSN.out, HOUT.out]
          exact HON.out
        case measure => simp [intOf]; omega
      · have hkk : ps.take k = ps := List.take_of_length_le (by omega)
        rw [hkk] at hown ⊢
        have HON : Hid (wr.ownsRow w3.heap.size 98 2 (.slice eo (swapP ps).length ce) (swapP ps).length (prCells (swapP ps))) := hown
        have HBW : Hid (Below w.heap.size w wr) := HB3.out.trans (hb.mono HB3.out.size)
        have HPW : Hid (PartsAt wr wr.heap.size a l) := HP.out.here HBW.out (Nat.le_refl _)
        have hswl : (swapP ps).length ≤ 500 := by simp [swapP]; omega
        clear hown hb
        go_wp2_with fail
        refine (Out_any a l cap _ HPW.out HSM.out).mono ?_
        rintro e w5 ⟨rfl, hb5⟩
        have HB5 : Hid (Below w.heap.size w w5) := HBW.out.trans (hb5.mono HBW.out.size)
        have HO5 : Hid (w5.ownsRow w3.heap.size 98 2 (.slice eo (swapP ps).length ce) (swapP ps).length (prCells (swapP ps))) := by
          have h := HON.out
          rcases h.2 with ⟨h1, h2⟩ | ⟨g, cap', cur, h1, h2, h3, h4⟩
          · exact ⟨h.1, .inl ⟨h1, h2⟩⟩
          · exact ⟨h.1, .inr ⟨g, cap', cur, h1, h2, (hb5.block g (lt_of_heap h3)).trans h3, h4⟩⟩
        rw [HO.out]
        clear hb5
        go_wp2_with fail
        refine (made_any w3.heap.size (outW (wordL l)) (swapP ps) _ s _ HO5.out b2 (by omega) hswl HKO.out).mono ?_
        rintro e w6 ⟨v6, rfl, hown6, hb6⟩
        obtain ⟨a6, c6, rfl, hp6⟩ := parts_own hown6 (made_bound HTL.out HTF.out)
        rw [HTL.out] at hp6
        have HP6 : Hid (PartsAt w6 w6.heap.size a6 (turnL l s.data.toList)) := hp6
        have HB6 : Hid (Below w.heap.size w w6) := HB5.out.trans (hb6.mono HB5.out.size)
        clear hown6 hb6 hp6
        rw [HTL.out]
        go_wp2_with fail
        go_ret2
        rw [HR.out.1, HR.out.2]
        exact ⟨a6, c6, rfl, HP6.out, HB6.out⟩
  · have h0' : (fitsE l s.size != 0) = true := by simp [h0]
    have HR : Hid (turnR l s = []) := by show _ = _; rw [turnR, if_neg h0]
    clear h0
    go_wp2_with fail
    go_ret2
    rw [HR.out]
    exact ⟨none, 0, rfl, ⟨by simp, Nat.le_refl _, by simp, by simp⟩, hb1⟩

end Go.Proofs.Ytndhamcipbecfaa
