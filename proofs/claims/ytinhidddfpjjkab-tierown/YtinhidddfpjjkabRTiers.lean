/- The document's own Tiers, and two tiers held against each other. -/
import Derived.Test.YtinhidddfpjjkabTierMem
import Derived.Test.YtinhidddfpjjkabRBet
namespace Go.Proofs.Ytinhidddfpjjkab
open Go.RowKit
set_option linter.unusedSimpArgs false
set_option linter.unusedVariables false

set_option maxRecDepth 20000 in
set_option maxHeartbeats 8000000 in
theorem RTiers_any (s : ByteArray) (a : Option Addr) (l : List Rv) (cap : Nat) (w : World) (hl : RevsAt w w.heap.size a l) (h0 : checkE s.data.toList l = 0) :
    Calls Try.prog 11 #[.string s, .slice a l.length cap] w fun e w' => ∃ v rs, e = .returned v ∧ rs.map (fun r : Tr => r.1.map (·.1)) = tiersL s.data.toList l ∧ TiersOwn w' w.heap.size v rs ∧ Below w.heap.size w w' := by
  obtain ⟨ip, hip, i0, i1, i2⟩ := info_parts infoSl2
  obtain ⟨jp, hjp, j0, j1, j2⟩ := info_parts infoSl1
  obtain ⟨z1, z2, z3⟩ := check_zero h0
  have HL : Hid (RevsAt w w.heap.size a l) := hl
  have H0 : Hid (checkE s.data.toList l = 0) := h0
  have h7 : lvN l.length ≤ 7 := by
    rw [lvN]
    exact Nat.le_trans (List.length_filter_le _ _) (by simp)
  clear hl h0 z1 z3
  go_enter Try.func11, Try.ntmps11
  go_wp2_with fail
  go_loopw [5, 6] (fun tv n wr => ∃ (v p : Nat) (rs : List Tr), v ≤ lvN l.length ∧ 2 ^ v = p ∧ n = .int .i64 p ∧ rs.map (fun r : Tr => r.1.map (·.1)) = (List.range v).map (tierRow s.data.toList l) ∧ TiersOwn wr w.heap.size tv rs ∧ Below w.heap.size w wr) (fun _ n _ => 129 - (intOf n).toNat)
  case atStart => exact ⟨0, 1, [], Nat.zero_le _, rfl, rfl, rfl, ⟨fun r hr => by simp at hr, World.ownsRow_nil _ _ _ _⟩, Below.refl _ _⟩
  case round =>
    rename World => wo
    obtain ⟨v, p, rs, hv, hp, rfl, hrs, hto, hb⟩ := hrel
    obtain ⟨at_, ct, rfl⟩ := slice_form' hto.2
    have hrl : rs.length = v := by
      have := congrArg List.length hrs
      rw [List.length_map, List.length_map, List.length_range] at this
      exact this
    have hzo := hb.size
    have HBo : Hid (Below w.heap.size w wo) := hb
    have HTO : Hid (TiersOwn wo w.heap.size (.slice at_ rs.length ct) rs) := hto
    have HRS : Hid (rs.map (fun r : Tr => r.1.map (·.1)) = (List.range v).map (tierRow s.data.toList l)) := hrs
    have HPW : Hid (2 ^ v = p) := hp
    have hp1 : 1 ≤ p := by rw [← hp]; exact Nat.two_pow_pos v
    have hp128 : p ≤ 128 := by rw [← hp]; exact Nat.pow_le_pow_right (by omega) (show v ≤ 7 by omega)
    clear hrs hto hb hp
    by_cases hlt : p ≤ l.length
    · have hpi : (p : Int) ≤ (l.length : Int) := by omega
      have HV1 : Hid (v + 1 ≤ lvN l.length) := by
        refine lv_more z2 hv ?_
        rw [HPW.out]
        exact Nat.div_pos hlt hp1
      have hr7 : rs.length ≤ 7 := by omega
      clear hrl
      go_wp2_with fail
      go_loopw [7, 8] (fun rv i wr => ∃ (b q : Nat) (xs : List El), b ≤ l.length / p ∧ b * p = q ∧ i = .int .i64 q ∧ xs.map (·.1) = (tierRow s.data.toList l v).take b ∧ RowOwn wr wo.heap.size rv xs ∧ Below wo.heap.size wo wr) (fun _ i _ => l.length + 1 - (intOf i).toNat)
      case atStart => exact ⟨0, 0, [], Nat.zero_le _, by simp, rfl, rfl, ⟨fun x hx => by simp at hx, World.ownsRow_nil _ _ _ _⟩, Below.refl _ _⟩
      case round =>
        rename World => wr
        obtain ⟨b, q, xs, hbl, hq, rfl, hxs, hro, hbw⟩ := hrel
        obtain ⟨ar, cr, rfl⟩ := slice_form' hro.2
        have htl : (tierRow s.data.toList l v).length = l.length / p := by rw [tier_len, HPW.out]
        have hxl : xs.length = b := by
          have := congrArg List.length hxs
          rw [List.length_map, List.length_take, htl] at this
          omega
        have hbq : b ≤ q := by rw [← hq]; exact Nat.le_mul_of_pos_right _ hp1
        have hql : q ≤ l.length := by
          rw [← hq]
          exact Nat.le_trans (Nat.mul_le_mul_right _ hbl) (Nat.div_mul_le_self _ _)
        have hz := hbw.size
        have HBw : Hid (Below wo.heap.size wo wr) := hbw
        have HB : Hid (Below w.heap.size w wr) := HBo.out.trans (hbw.mono hzo)
        have HRO : Hid (RowOwn wr wo.heap.size (.slice ar xs.length cr) xs) := hro
        have HX : Hid (xs.map (·.1) = (tierRow s.data.toList l v).take b) := hxs
        have hq2 : (b + 1) * p = q + p := by rw [Nat.add_mul, Nat.one_mul, hq]
        have hdm := Nat.div_add_mod l.length p
        have hml := Nat.mod_lt l.length (show 0 < p by omega)
        obtain ⟨t, ht⟩ : ∃ t, q + p = t := ⟨_, rfl⟩
        have hqp : (q : Int) + (p : Int) = (t : Int) := by omega
        have htb : (t : Int) ≤ 192 := by omega
        have HTQ : Hid (q + p = t) := ht
        rw [ht] at hq2
        clear hxs hro hbw
        by_cases hin : t ≤ l.length
        · have hini : (t : Int) ≤ (l.length : Int) := by omega
          have hb1 : b < l.length / p := by
            rw [Nat.lt_iff_add_one_le, Nat.le_div_iff_mul_le (by omega), hq2]; exact hin
          have HLr : Hid (RevsAt wr wr.heap.size a l) := HL.out.here HB.out (Nat.le_refl _)
          have HRB : Hid (∀ w : World, RevsAt w w.heap.size a l → _) := fun w h => RBetweenO_any s a l cap q t w h H0.out (by omega) hin
          have hAt : (tierRow s.data.toList l v)[b]? = some (betO s.data.toList l q t) := by
            have h := tier_at (s := s.data.toList) (l := l) (v := v) (b := b) (by rw [HPW.out]; exact hb1)
            rw [HPW.out, hq, hq2] at h
            exact h
          have HS : Hid (sizesE (betO s.data.toList l q t) = 0 ∧ (tierRow s.data.toList l v).take (b + 1) = (tierRow s.data.toList l v).take b ++ [betO s.data.toList l q t]) := ⟨(bet_says H0.out (by omega) hin).1, by rw [List.take_add_one, hAt]; rfl⟩
          obtain ⟨D, hD⟩ : ∃ D, betO s.data.toList l q t = D := ⟨_, rfl⟩
          rw [hD] at HRB HS
          have HQ : Hid ((b + 1) * p = t ∧ b + 1 ≤ l.length / p) := ⟨hq2, hb1⟩
          have hxl64 : xs.length ≤ 64 := by omega
          clear hq hq2 hdm hml hAt hD hb1 htl hbl ht hxl
          go_wp2_with fail
          refine (HRB.out _ HLr.out).mono ?_
          rintro e w1 ⟨a1, c1, rfl, ho1, hb1⟩
          have HB1 : Hid (Below wo.heap.size wo w1) := HBw.out.trans (hb1.mono hz)
          have HE1 : Hid (ElOwn w1 wo.heap.size (D, a1, c1)) := ⟨HS.out.1, own_lower ho1 hz⟩
          have HR1 : Hid (RowOwn w1 wo.heap.size (.slice ar xs.length cr) xs) := HRO.out.below hb1
          have hz1 : wo.heap.size ≤ w1.heap.size := HB1.out.size
          have hA := own_alloc HR1.out.2 (.cells #[elV (D, a1, c1)] 33)
          clear hb1 ho1
          go_wp2_with (at_builtin; refine wpList_append_own _ rfl _ _ 40 rfl wo.heap.size 33 jp _ 1 24 Try.underlying40 hjp j0 j1 j2 rfl (by decide) _ _ _ rfl hA ⟨w1.heap.size, 0, none⟩ 1 1 [elV (D, a1, c1)] rfl rfl (cell_one_new _ _ _) (by simp [Value.oneCell', elV]) ?c3 ?c4 ?c5 ?_)
          case c3 => unfold maxLen; omega
          case c4 => omega
          case c5 => first | omega | (simp; omega)
          intro v' w3 hown2 hgrow _
          have HB3 : Hid (Below wo.heap.size wo w3) := below_own' (HB1.out.alloc hz1 _) hA hgrow (by simp; omega)
          have HR3 : Hid (RowOwn w3 wo.heap.size v' (xs ++ [(D, a1, c1)])) := row_grow HR1.out HE1.out hown2 hgrow
          have HX3 : Hid ((xs ++ [(D, a1, c1)]).map (·.1) = (tierRow s.data.toList l v).take (b + 1)) := by
            show _ = _
            rw [HS.out.2, List.map_append, HX.out]; rfl
          clear hown2 hgrow hA
          go_wp2_with fail
          go_roundw
          case rel => exact ⟨b + 1, t, xs ++ [(D, a1, c1)], HQ.out.2, HQ.out.1, by go_num, HX3.out, HR3.out, HB3.out⟩
          case measure => simp [intOf]; omega
        · have hini : ¬ (t : Int) ≤ (l.length : Int) := by omega
          have hbe : b = l.length / p := by
            rcases Nat.lt_or_ge b (l.length / p) with h | h
            · have h2 := (Nat.le_div_iff_mul_le (show 0 < p by omega)).1 (show b + 1 ≤ l.length / p from h)
              rw [hq2] at h2
              exact absurd h2 hin
            · omega
          have HX2 : Hid (xs.map (·.1) = tierRow s.data.toList l v) := by
            show _ = _
            rw [HX.out, List.take_of_length_le (by omega)]
          have HTr : Hid (TiersOwn wr w.heap.size (.slice at_ rs.length ct) rs) := HTO.out.below HBw.out
          have HRr : Hid (RowOwn wr w.heap.size (trV (xs, ar, cr)) xs) := HRO.out.base hzo
          have hA := own_alloc HTr.out.2 (.cells #[trV (xs, ar, cr)] 40)
          have hzw : w.heap.size ≤ wr.heap.size := HB.out.size
          clear hbe hq hq2 hdm hml htl hbl hxl hbq hql ht
          go_wp2_with (at_builtin; refine wpList_append_own _ rfl _ _ 23 rfl w.heap.size 40 ip _ 1 24 Try.underlying23 hip i0 i1 i2 rfl (by decide) _ _ _ rfl hA ⟨wr.heap.size, 0, none⟩ 1 1 [trV (xs, ar, cr)] rfl rfl (cell_one_new _ _ _) (by simp [Value.oneCell', trV]) ?c3 ?c4 ?c5 ?_)
          case c3 => unfold maxLen; omega
          case c4 => omega
          case c5 => first | omega | (simp; omega)
          intro v' w3 hown2 hgrow _
          have HB3 : Hid (Below w.heap.size w w3) := below_own' (HB.out.alloc hzw _) hA hgrow (by simp; omega)
          have HT3 : Hid (TiersOwn w3 w.heap.size v' (rs ++ [(xs, ar, cr)])) := tiers_grow HTr.out HRr.out hown2 hgrow
          have HR3 : Hid ((rs ++ [(xs, ar, cr)]).map (fun r : Tr => r.1.map (·.1)) = (List.range (v + 1)).map (tierRow s.data.toList l)) := by
            show _ = _
            rw [List.map_append, HRS.out, List.range_succ, List.map_append, List.map_cons, List.map_nil, List.map_cons, List.map_nil, HX2.out]
          have HP3 : Hid (2 ^ (v + 1) = p * 2) := by show _ = _; rw [Nat.pow_succ, HPW.out]
          clear hown2 hgrow hA
          go_wp2_with fail
          go_roundw
          case rel => exact ⟨v + 1, p * 2, rs ++ [(xs, ar, cr)], HV1.out, HP3.out, by go_num, HR3.out, HT3.out, HB3.out⟩
          case measure => simp [intOf]; omega
    · have hpi : ¬ (p : Int) ≤ (l.length : Int) := by omega
      have HR3 : Hid (rs.map (fun r : Tr => r.1.map (·.1)) = tiersL s.data.toList l) := by
        show _ = _
        rw [HRS.out, tiersL, lv_end z2 hv (by rw [HPW.out]; exact Nat.div_eq_of_lt (by omega))]
      clear hrl
      go_wp2_with fail
      go_ret
      first | exact ⟨_, rs, rfl, HR3.out, HTO.out, HBo.out⟩ | exact ⟨_, rfl, rs, HR3.out, HTO.out, HBo.out⟩
/-- two rows are one -/
theorem EqRow_yes (a b : Option Addr) (X : List (List Pt)) (ca cb : Nat) (w : World) (ha : RowAt w w.heap.size a X ca) (hb : RowAt w w.heap.size b X cb) :
    Calls Try.prog 36 #[.slice a X.length ca, .slice b X.length cb, .func (.func 16) #[] #[]] w fun e w' => e = .returned (.bool true) ∧ Below w.heap.size w w' := by
  have hl : X.length ≤ 9223372036854775807 := Nat.le_trans ha.1 ha.2.1
  have HU : Hid (RowAt w w.heap.size a X ca) := ha
  have HV : Hid (RowAt w w.heap.size b X cb) := hb
  clear ha hb
  go_enter Try.func36, Try.ntmps36
  go_wp2_with fail
  go_loopw [17] (fun i wr => ∃ k : Nat, k ≤ X.length ∧ i = .int .i64 k ∧ Below w.heap.size w wr) (fun i _ => X.length - (intOf i).toNat)
  case atStart => exact ⟨0, Nat.zero_le _, rfl, Below.refl _ _⟩
  case round =>
    rename World => wr
    obtain ⟨k, hk, rfl, hb⟩ := hrel
    have HB : Hid (Below w.heap.size w wr) := hb
    by_cases hlt : k < X.length
    · obtain ⟨x, hx⟩ : ∃ x, X[k]? = some x := ⟨X[k], List.getElem?_eq_getElem hlt⟩
      have hki : (k : Int) < (X.length : Int) := by omega
      obtain ⟨g, og, ai, ci, e1, hg, y1, y2, _⟩ := (HU.out.here hb (Nat.le_refl _)).mem hx
      obtain ⟨h, oh, bi, di, e2, hh, z1, z2, _⟩ := (HV.out.here hb (Nat.le_refl _)).mem hx
      subst e1 e2
      have HP : Hid (PartsAt wr wr.heap.size ai x ∧ PartsAt wr wr.heap.size bi x) := ⟨y2, z2⟩
      clear hb hx y2 z2
      go_wp2_with fail
      refine (Same_yes ai bi x ci di _ HP.out.1 HP.out.2).mono ?_
      rintro e w1 ⟨rfl, hb1⟩
      have HB1 : Hid (Below w.heap.size w w1) := HB.out.trans (hb1.mono HB.out.size)
      clear hb1
      go_wp2_with fail
      go_roundw
      case rel => exact ⟨k + 1, by omega, by go_num, HB1.out⟩
      case measure => simp [intOf]; omega
    · have hki : ¬ (k : Int) < (X.length : Int) := by omega
      clear hb
      go_wp2_with fail
      go_ret
      exact ⟨rfl, HB.out⟩
theorem EqRowF_yes (a b : Option Addr) (X : List (List Pt)) (ca cb : Nat) (w : World) (ha : RowAt w w.heap.size a X ca) (hb : RowAt w w.heap.size b X cb) :
    Calls Try.prog 35 #[.slice a X.length ca, .slice b X.length cb] w fun e w' => e = .returned (.bool true) ∧ Below w.heap.size w w' := by
  have HE : Hid (∀ w : World, RowAt w w.heap.size a X ca → RowAt w w.heap.size b X cb → _) := fun w h1 h2 => EqRow_yes a b X ca cb w h1 h2
  have HU : Hid (RowAt w w.heap.size a X ca) := ha
  have HV : Hid (RowAt w w.heap.size b X cb) := hb
  clear ha hb
  go_enter Try.func35, Try.ntmps35
  go_wp2_with fail
  refine (HE.out _ HU.out HV.out).mono ?_
  rintro e w1 ⟨rfl, hb1⟩
  have HB1 : Hid (Below w.heap.size w w1) := hb1
  clear hb1
  go_wp2_with fail
  go_ret
  exact ⟨rfl, HB1.out⟩
theorem EqTiers_yes (a b : Option Addr) (T : List (List (List Pt))) (ca cb : Nat) (w : World) (ha : TiersAt w w.heap.size a T ca) (hb : TiersAt w w.heap.size b T cb) :
    Calls Try.prog 34 #[.slice a T.length ca, .slice b T.length cb, .func (.func 35) #[] #[]] w fun e w' => e = .returned (.bool true) ∧ Below w.heap.size w w' := by
  have hl : T.length ≤ 9223372036854775807 := Nat.le_trans ha.1 ha.2.1
  have HU : Hid (TiersAt w w.heap.size a T ca) := ha
  have HV : Hid (TiersAt w w.heap.size b T cb) := hb
  clear ha hb
  go_enter Try.func34, Try.ntmps34
  go_wp2_with fail
  go_loopw [17] (fun i wr => ∃ k : Nat, k ≤ T.length ∧ i = .int .i64 k ∧ Below w.heap.size w wr) (fun i _ => T.length - (intOf i).toNat)
  case atStart => exact ⟨0, Nat.zero_le _, rfl, Below.refl _ _⟩
  case round =>
    rename World => wr
    obtain ⟨k, hk, rfl, hb⟩ := hrel
    have HB : Hid (Below w.heap.size w wr) := hb
    by_cases hlt : k < T.length
    · obtain ⟨x, hx⟩ : ∃ x, T[k]? = some x := ⟨T[k], List.getElem?_eq_getElem hlt⟩
      have hki : (k : Int) < (T.length : Int) := by omega
      obtain ⟨g, og, ai, ci, e1, hg, y1, y2⟩ := (HU.out.here hb (Nat.le_refl _)).mem hx
      obtain ⟨h, oh, bi, di, e2, hh, z1, z2⟩ := (HV.out.here hb (Nat.le_refl _)).mem hx
      subst e1 e2
      have HP : Hid (RowAt wr wr.heap.size ai x ci ∧ RowAt wr wr.heap.size bi x di) := ⟨y2, z2⟩
      clear hb hx y2 z2
      go_wp2_with fail
      refine (EqRowF_yes ai bi x ci di _ HP.out.1 HP.out.2).mono ?_
      rintro e w1 ⟨rfl, hb1⟩
      have HB1 : Hid (Below w.heap.size w w1) := HB.out.trans (hb1.mono HB.out.size)
      clear hb1
      go_wp2_with fail
      go_roundw
      case rel => exact ⟨k + 1, by omega, by go_num, HB1.out⟩
      case measure => simp [intOf]; omega
    · have hki : ¬ (k : Int) < (T.length : Int) := by omega
      clear hb
      go_wp2_with fail
      go_ret
      exact ⟨rfl, HB.out⟩
theorem SameTiers_yes (a b : Option Addr) (T : List (List (List Pt))) (ca cb : Nat) (w : World) (ha : TiersAt w w.heap.size a T ca) (hb : TiersAt w w.heap.size b T cb) :
    Calls Try.prog 10 #[.slice a T.length ca, .slice b T.length cb] w fun e w' => e = .returned (.bool true) ∧ Below w.heap.size w w' := by
  have HE : Hid (∀ w : World, TiersAt w w.heap.size a T ca → TiersAt w w.heap.size b T cb → _) := fun w h1 h2 => EqTiers_yes a b T ca cb w h1 h2
  have HU : Hid (TiersAt w w.heap.size a T ca) := ha
  have HV : Hid (TiersAt w w.heap.size b T cb) := hb
  clear ha hb
  go_enter Try.func10, Try.ntmps10
  go_wp2_with fail
  refine (HE.out _ HU.out HV.out).mono ?_
  rintro e w1 ⟨rfl, hb1⟩
  have HB1 : Hid (Below w.heap.size w w1) := hb1
  clear hb1
  go_wp2_with fail
  go_ret
  exact ⟨rfl, HB1.out⟩
end Go.Proofs.Ytinhidddfpjjkab
