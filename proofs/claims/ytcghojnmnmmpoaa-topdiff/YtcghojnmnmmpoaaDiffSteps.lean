/- What diff.steps and diff.Of answer. -/
import Derived.Test.YtcghojnmnmmpoaaDiffTab
import Derived.Test.YtcghojnmnmmpoaaDiffL
import Derived.Test.YtcghojnmnmmpoaaLoose
import Derived.Deep.QuietTactic
import Derived.BigQuiet
namespace Go.Proofs.Ytcghojnmnmmpoaa
open Go.RowKit
set_option linter.unusedSimpArgs false
set_option linter.unusedVariables false

theorem steps_keep {s t : List UInt8} {i j : Nat} {c : UInt8} (h1 : s[i]? = some c) (h2 : t[j]? = some c) : stepsL (s.drop i) (t.drop j) = ⟨1, 1, ⟨#[]⟩⟩ :: stepsL (s.drop (i + 1)) (t.drop (j + 1)) := by
  obtain ⟨a1, rfl⟩ := List.getElem?_eq_some_iff.1 h1
  obtain ⟨a2, e⟩ := List.getElem?_eq_some_iff.1 h2
  rw [List.drop_eq_getElem_cons a1, List.drop_eq_getElem_cons a2, e, stepsL, if_pos rfl]
theorem steps_cut {s t : List UInt8} {i j : Nat} {c d : UInt8} (h1 : s[i]? = some c) (h2 : t[j]? = some d) (hne : c ≠ d) (hle : lcs (s.drop i) (t.drop (j + 1)) ≤ lcs (s.drop (i + 1)) (t.drop j)) : stepsL (s.drop i) (t.drop j) = ⟨3, 1, ⟨#[]⟩⟩ :: stepsL (s.drop (i + 1)) (t.drop j) := by
  obtain ⟨a1, rfl⟩ := List.getElem?_eq_some_iff.1 h1
  obtain ⟨a2, rfl⟩ := List.getElem?_eq_some_iff.1 h2
  rw [List.drop_eq_getElem_cons a1, List.drop_eq_getElem_cons a2] at *
  rw [stepsL, if_neg hne, if_pos hle]
theorem steps_put {s t : List UInt8} {i j : Nat} {c d : UInt8} (h1 : s[i]? = some c) (h2 : t[j]? = some d) (hne : c ≠ d) (hle : ¬ lcs (s.drop i) (t.drop (j + 1)) ≤ lcs (s.drop (i + 1)) (t.drop j)) : stepsL (s.drop i) (t.drop j) = ⟨2, 0, ⟨#[d]⟩⟩ :: stepsL (s.drop i) (t.drop (j + 1)) := by
  obtain ⟨a1, rfl⟩ := List.getElem?_eq_some_iff.1 h1
  obtain ⟨a2, rfl⟩ := List.getElem?_eq_some_iff.1 h2
  rw [List.drop_eq_getElem_cons a1, List.drop_eq_getElem_cons a2] at *
  rw [stepsL, if_neg hne, if_neg hle]
theorem steps_stop {s t : List UInt8} {i j : Nat} (hi : i ≤ s.length) (h : ¬ (i < s.length ∧ j < t.length)) : stepsL (s.drop i) (t.drop j) = [⟨3, ((s.length - i : Nat) : Int), ⟨#[]⟩⟩, ⟨2, 0, ⟨(t.drop j).toArray⟩⟩] := by
  by_cases h1 : i < s.length
  · have e : t.drop j = [] := List.drop_of_length_le (by omega)
    rw [e, List.drop_eq_getElem_cons h1, stepsL, List.length_drop]
    congr 2
    congr 1
    omega
  · have e : s.drop i = [] := List.drop_of_length_le (by omega)
    rw [e, stepsL, show s.length - i = 0 by omega]; rfl
theorem ext_one (t : ByteArray) {j : Nat} {d : UInt8} (h : t.data.toList[j]? = some d) : t.extract j (j + 1) = ⟨#[d]⟩ := by
  have h1 := slice_one t h
  have h2 := str_eq (t.extract j (j + 1))
  rw [h1] at h2
  exact h2.symm
theorem ext_rest (t : ByteArray) (j : Nat) : t.extract j t.size = ⟨(t.data.toList.drop j).toArray⟩ := by
  have h2 := str_eq (t.extract j t.size)
  rw [Lib.extract_data, List.take_of_length_le (by rw [List.length_drop]; have : t.data.toList.length = t.size := Array.length_toList; omega)] at h2
  exact h2.symm
theorem own_drewN {w : World} {B size n : Nat} {e : TypeId} {v : Value} {xs : List Value} (h : w.ownsRow B e size v n xs) (k : Nat) : (w.drewN k).ownsRow B e size v n xs := h
theorem steps_bound {s t : List UInt8} (hs : s.length ≤ 500) (ht : t.length ≤ 500) : Bound (stepsL s t) := by
  have h := steps_ok s t
  refine ⟨by have := h.len; omega, fun p hp => ?_⟩
  obtain ⟨g1, g2, g3, g4⟩ := h.good p hp
  obtain ⟨n1, n2⟩ := h.nums p hp
  omega

set_option maxRecDepth 20000 in
set_option maxHeartbeats 8000000 in
theorem dsteps_any (s t : ByteArray) (B gt : Nat) (gs : Nat → Nat) (w : World) (hT : TabAt w B gt gs s.data.toList t.data.toList 0) (hs : s.size ≤ 500) (ht : t.size ≤ 500) :
    Calls Try.prog 76 #[.string s, .string t, .slice (some ⟨gt, 0, none⟩) (s.size + 1) (s.size + 1)] w fun e w' => ∃ a c, e = .returned (.slice a (stepsL s.data.toList t.data.toList).length c) ∧ PartsAt w' w'.heap.size a (stepsL s.data.toList t.data.toList) ∧ Below w.heap.size w w' := by
  obtain ⟨ip, hip, hp0, hp1, hp2⟩ := info_parts infoPart
  have hsl : s.data.toList.length = s.size := Array.length_toList
  have htl : t.data.toList.length = t.size := Array.length_toList
  have HL : Hid (s.data.toList.length = s.size ∧ t.data.toList.length = t.size) := ⟨hsl, htl⟩
  have HT : Hid (TabAt w B gt gs s.data.toList t.data.toList 0) := hT
  clear hsl htl hT
  go_enter Try.func76, Try.ntmps76
  go_wp2_with fail
  go_loopw [7, 8, 9] (fun v x y wr => ∃ (i j : Nat) (out : List Pt) (ao : Option Addr) (co : Nat), i ≤ s.size ∧ j ≤ t.size ∧ v = .slice ao out.length co ∧ x = .int .i64 i ∧ y = .int .i64 j ∧ out.length ≤ i + j ∧ wr.ownsRow w.heap.size 45 3 (.slice ao out.length co) out.length (allCells out) ∧ out ++ stepsL (s.data.toList.drop i) (t.data.toList.drop j) = stepsL s.data.toList t.data.toList ∧ Below w.heap.size w wr) (fun _ x y _ => s.size + t.size - (intOf x).toNat - (intOf y).toNat)
  case atStart => exact ⟨0, 0, [], none, 0, Nat.zero_le _, Nat.zero_le _, rfl, rfl, rfl, Nat.zero_le _, World.ownsRow_nil _ _ _ _, by simp, Below.refl _ _⟩
  case round =>
    rename World => wr
    obtain ⟨i, j, out, ao, co, hi, hj, rfl, rfl, rfl, hol, hown, hx, hb⟩ := hrel
    have hz := hb.size
    have HX : Hid (out ++ stepsL (s.data.toList.drop i) (t.data.toList.drop j) = stepsL s.data.toList t.data.toList) := hx
    have HB : Hid (Below w.heap.size w wr) := hb
    by_cases hlt : i < s.size ∧ j < t.size
    · obtain ⟨hlti, hltj⟩ := hlt
      obtain ⟨c, hc⟩ : ∃ c, s.data.toList[i]? = some c := ⟨s.data.toList[i]'(by have := HL.out.1; omega), List.getElem?_eq_getElem _⟩
      obtain ⟨d, hd⟩ : ∃ d, t.data.toList[j]? = some d := ⟨t.data.toList[j]'(by have := HL.out.2; omega), List.getElem?_eq_getElem _⟩
      have hat := at_byte hc hlti
      have hbt := at_byte hd hltj
      have HO : Hid (wr.ownsRow w.heap.size 45 3 (.slice ao out.length co) out.length (allCells out)) := hown
      by_cases hcd : c = d
      · subst hcd
        have HST : Hid _ := steps_keep hc hd
        clear hc hd hx hb hown
        go_wp2_with fail
        go_quiet (fail)
        rename Nat => nq
        have hAs := own_alloc (own_drewN HO.out nq) (.cells #[.int .i64 1, .int .i64 1, .string ⟨#[]⟩] 45)
        go_wp2_with (at_builtin; refine wpList_append_own _ rfl _ _ 25 rfl w.heap.size 45 ip _ 3 32 Try.underlying25 hip hp0 hp1 hp2 rfl (by decide) _ _ _ rfl hAs ⟨wr.heap.size, 0, none⟩ 1 1 [.int .i64 1, .int .i64 1, .string ⟨#[]⟩] rfl rfl (World.news_of_block (cs := #[.int .i64 1, .int .i64 1, .string ⟨#[]⟩]) (t := 45) (fr := (0, 0)) (heap_alloc_new _ _)) (by simp [Value.oneCell']) ?c3 ?c4 ?c5 ?_)
        case c3 => unfold maxLen; omega
        case c4 => omega
        case c5 => first | omega | (simp; omega)
        intro v' w2 hown2 hgrow _
        obtain ⟨bo, cb2, rfl⟩ := slice_form' hown2
        have HB2 : Hid (Below w.heap.size w w2) := below_own' ((below_drewN HB.out _).alloc hz _) hAs hgrow (by simp; omega)
        have HO2 : Hid (w2.ownsRow w.heap.size 45 3 (.slice bo (out.length + 1) cb2) (out ++ [(⟨1, 1, ⟨#[]⟩⟩ : Pt)]).length (allCells (out ++ [(⟨1, 1, ⟨#[]⟩⟩ : Pt)]))) := own_snoc hown2
        clear hown2 hgrow hAs
        go_wp2_with fail
        go_roundw
        case rel =>
          refine ⟨i + 1, j + 1, out ++ [(⟨1, 1, ⟨#[]⟩⟩ : Pt)], bo, cb2, by omega, by omega, by simp, by first | rfl | go_num, by first | rfl | go_num, by simp; omega, by have h := HO2.out; rw [List.length_append] at h ⊢; exact h, ?_, HB2.out⟩
          rw [List.append_assoc]
          have h := HX.out
          rw [HST.out] at h
          exact h
        case measure => simp [intOf]; omega
      · have hne : ((c.toNat : Int) == (d.toNat : Int)) = false := by
          rw [beq_eq_false_iff_ne]; intro h; exact hcd (UInt8.toNat_inj.1 (by omega))
        have hTr := TabAt.below HT.out hb
        have t1 := TabAt.cell hTr (i := i + 1) (by rw [HL.out.1]; omega)
        have t0 := TabAt.cell hTr (i := i) (by rw [HL.out.1]; omega)
        rw [if_pos (Nat.zero_le _), HL.out.2, slV] at t1 t0
        have r1 := IntRow.cellOf (hTr.rows (i + 1) (Nat.zero_le _) (by rw [HL.out.1]; omega)).1 (lcsRow_at (j := j) (by rw [HL.out.2]; omega))
        have r0 := IntRow.cellOf (hTr.rows i (Nat.zero_le _) (by rw [HL.out.1]; omega)).1 (lcsRow_at (j := j + 1) (by rw [HL.out.2]; omega))
        have b1 := (IntRow.block (hTr.rows (i + 1) (Nat.zero_le _) (by rw [HL.out.1]; omega)).1 (by rw [lcsRow_len]; omega)).2
        have b0 := (IntRow.block (hTr.rows i (Nat.zero_le _) (by rw [HL.out.1]; omega)).1 (by rw [lcsRow_len]; omega)).2
        have bt := (TabAt.block hTr).2
        have HC : Hid (∀ h, lcs (s.data.toList.drop i) (t.data.toList.drop (j + 1)) ≤ lcs (s.data.toList.drop (i + 1)) (t.data.toList.drop j) → h = 0 → stepsL (s.data.toList.drop i) (t.data.toList.drop j) = ⟨3, 1, ⟨#[]⟩⟩ :: stepsL (s.data.toList.drop (i + 1)) (t.data.toList.drop j)) := fun (h : Nat) h1 _ => steps_cut hc hd hcd h1
        have HP : Hid (¬ lcs (s.data.toList.drop i) (t.data.toList.drop (j + 1)) ≤ lcs (s.data.toList.drop (i + 1)) (t.data.toList.drop j) → stepsL (s.data.toList.drop i) (t.data.toList.drop j) = ⟨2, 0, ⟨#[d]⟩⟩ :: stepsL (s.data.toList.drop i) (t.data.toList.drop (j + 1))) := fun h1 => steps_put hc hd hcd h1
        have HE : Hid _ := ext_one t hd
        obtain ⟨x, hxx⟩ : ∃ x, lcs (s.data.toList.drop (i + 1)) (t.data.toList.drop j) = x := ⟨_, rfl⟩
        obtain ⟨y, hyy⟩ : ∃ y, lcs (s.data.toList.drop i) (t.data.toList.drop (j + 1)) = y := ⟨_, rfl⟩
        rw [hxx] at r1
        rw [hyy] at r0
        have HXY : Hid (lcs (s.data.toList.drop (i + 1)) (t.data.toList.drop j) = x ∧ lcs (s.data.toList.drop i) (t.data.toList.drop (j + 1)) = y) := ⟨hxx, hyy⟩
        have wi : IntKind.i64.wrap ((i : Int) + 1) = (i : Int) + 1 := IntWalk.i64_in _ ⟨by omega, by omega⟩
        have wj : IntKind.i64.wrap ((j : Int) + 1) = (j : Int) + 1 := IntWalk.i64_in _ ⟨by omega, by omega⟩
        clear hc hd hx hb hown hTr hxx hyy
        by_cases hle : y ≤ x
        · have HST : Hid _ := HC.out 0 (by rw [HXY.out.1, HXY.out.2]; exact hle) rfl
          go_wp2_with fail
          go_quiet (fail)
          rename Nat => n1
          go_wp2_with fail
          go_quiet (fail)
          rename Nat => nq
          have hAs := own_alloc (own_drewN HO.out (n1 + nq)) (.cells #[.int .i64 3, .int .i64 1, .string ⟨#[]⟩] 45)
          go_wp2_with (at_builtin; refine wpList_append_own _ rfl _ _ 25 rfl w.heap.size 45 ip _ 3 32 Try.underlying25 hip hp0 hp1 hp2 rfl (by decide) _ _ _ rfl hAs ⟨wr.heap.size, 0, none⟩ 1 1 [.int .i64 3, .int .i64 1, .string ⟨#[]⟩] rfl rfl (World.news_of_block (cs := #[.int .i64 3, .int .i64 1, .string ⟨#[]⟩]) (t := 45) (fr := (0, 0)) (heap_alloc_new _ _)) (by simp [Value.oneCell']) ?c3 ?c4 ?c5 ?_)
          case c3 => unfold maxLen; omega
          case c4 => omega
          case c5 => first | omega | (simp; omega)
          intro v' w2 hown2 hgrow _
          obtain ⟨bo, cb2, rfl⟩ := slice_form' hown2
          have HB2 : Hid (Below w.heap.size w w2) := below_own' ((below_drewN HB.out _).alloc hz _) hAs hgrow (by simp; omega)
          have HO2 : Hid (w2.ownsRow w.heap.size 45 3 (.slice bo (out.length + 1) cb2) (out ++ [(⟨3, 1, ⟨#[]⟩⟩ : Pt)]).length (allCells (out ++ [(⟨3, 1, ⟨#[]⟩⟩ : Pt)]))) := own_snoc hown2
          clear hown2 hgrow hAs
          go_wp2_with fail
          go_roundw
          case rel =>
            refine ⟨i + 1, j, out ++ [(⟨3, 1, ⟨#[]⟩⟩ : Pt)], bo, cb2, by omega, by omega, by simp, by first | rfl | go_num, by first | rfl | go_num, by simp; omega, by have h := HO2.out; rw [List.length_append] at h ⊢; exact h, ?_, HB2.out⟩
            rw [List.append_assoc]
            have h := HX.out
            rw [HST.out] at h
            exact h
          case measure => simp [intOf]; omega
        · have HST : Hid _ := HP.out (by rw [HXY.out.1, HXY.out.2]; exact hle)
          go_wp2_with fail
          go_quiet (fail)
          rename Nat => n1
          go_wp2_with fail
          go_quiet (fail)
          rename Nat => nq
          rw [← HE.out] at HST
          have hAs := own_alloc (own_drewN HO.out (n1 + nq)) (.cells #[.int .i64 2, .int .i64 0, .string (t.extract j (j + 1))] 45)
          go_wp2_with (at_builtin; refine wpList_append_own _ rfl _ _ 25 rfl w.heap.size 45 ip _ 3 32 Try.underlying25 hip hp0 hp1 hp2 rfl (by decide) _ _ _ rfl hAs ⟨wr.heap.size, 0, none⟩ 1 1 [.int .i64 2, .int .i64 0, .string (t.extract j (j + 1))] rfl rfl (World.news_of_block (cs := #[.int .i64 2, .int .i64 0, .string (t.extract j (j + 1))]) (t := 45) (fr := (0, 0)) (heap_alloc_new _ _)) (by simp [Value.oneCell']) ?c3 ?c4 ?c5 ?_)
          case c3 => unfold maxLen; omega
          case c4 => omega
          case c5 => first | omega | (simp; omega)
          intro v' w2 hown2 hgrow _
          obtain ⟨bo, cb2, rfl⟩ := slice_form' hown2
          have HB2 : Hid (Below w.heap.size w w2) := below_own' ((below_drewN HB.out _).alloc hz _) hAs hgrow (by simp; omega)
          have HO2 : Hid (w2.ownsRow w.heap.size 45 3 (.slice bo (out.length + 1) cb2) (out ++ [(⟨2, 0, t.extract j (j + 1)⟩ : Pt)]).length (allCells (out ++ [(⟨2, 0, t.extract j (j + 1)⟩ : Pt)]))) := own_snoc hown2
          clear hown2 hgrow hAs
          go_wp2_with fail
          go_roundw
          case rel =>
            refine ⟨i, j + 1, out ++ [(⟨2, 0, t.extract j (j + 1)⟩ : Pt)], bo, cb2, by omega, by omega, by simp, by first | rfl | go_num, by first | rfl | go_num, by simp; omega, by have h := HO2.out; rw [List.length_append] at h ⊢; exact h, ?_, HB2.out⟩
            rw [List.append_assoc]
            have h := HX.out
            rw [HST.out] at h
            exact h
          case measure => simp [intOf]; omega
    · have HS : Hid _ := steps_stop (s := s.data.toList) (t := t.data.toList) (i := i) (j := j) (by rw [HL.out.1]; exact hi) (by rw [HL.out.1, HL.out.2]; exact hlt)
      have HE : Hid _ := ext_rest t j
      clear hx hb
      have HW : Hid (out ++ [⟨3, ((s.size - i : Nat) : Int), ⟨#[]⟩⟩, ⟨2, 0, t.extract j t.size⟩] = stepsL s.data.toList t.data.toList) := by
        show _ = _
        rw [← HX.out, HS.out, HE.out, HL.out.1]
      have hsi : (s.size : Int) - (i : Int) = ((s.size - i : Nat) : Int) := by omega
      obtain ⟨m, hm⟩ : ∃ m : Nat, s.size - i = m := ⟨_, rfl⟩
      rw [hm] at hsi
      have HM : Hid _ := hm
      clear hm
      have hAs := own_alloc hown (.cells #[.int .i64 3, .int .i64 m, .string ⟨#[]⟩, .int .i64 2, .int .i64 0, .string (t.extract j t.size)] 45)
      by_cases hi2 : i < s.size
      · have hj2 : ¬ j < t.size := fun h => hlt ⟨hi2, h⟩
        go_wp2_with (at_builtin; refine wpList_append_own _ rfl _ _ 25 rfl w.heap.size 45 ip _ 3 32 Try.underlying25 hip hp0 hp1 hp2 rfl (by decide) _ _ _ rfl hAs ⟨wr.heap.size, 0, none⟩ 2 2 [.int .i64 3, .int .i64 m, .string ⟨#[]⟩, .int .i64 2, .int .i64 0, .string (t.extract j t.size)] rfl rfl (World.news_of_block (cs := #[.int .i64 3, .int .i64 m, .string ⟨#[]⟩, .int .i64 2, .int .i64 0, .string (t.extract j t.size)]) (t := 45) (fr := (0, 0)) (heap_alloc_new _ _)) (by simp [Value.oneCell']) ?c3 ?c4 ?c5 ?_)
        case c3 => unfold maxLen; omega
        case c4 => omega
        case c5 => first | omega | (simp; omega)
        intro v' w2 hown2 hgrow _
        have HB2 : Hid (Below w.heap.size w w2) := below_own' (HB.out.alloc hz _) hAs hgrow (by simp; omega)
        have HO2 : Hid (w2.ownsRow w.heap.size 45 3 v' (stepsL s.data.toList t.data.toList).length (allCells (stepsL s.data.toList t.data.toList))) := by
          show World.ownsRow _ _ _ _ _ _ _
          rw [← HW.out, List.length_append, allCells_append, HM.out]; exact hown2
        clear hown2 hgrow hAs
        go_wp2_with fail
        go_ret
        obtain ⟨a, cap, e, hp⟩ := parts_own HO2.out (steps_bound (by rw [HL.out.1]; exact hs) (by rw [HL.out.2]; exact ht))
        exact ⟨a, cap, by rw [← e]; rfl, hp, HB2.out⟩
      · clear hlt
        go_wp2_with (at_builtin; refine wpList_append_own _ rfl _ _ 25 rfl w.heap.size 45 ip _ 3 32 Try.underlying25 hip hp0 hp1 hp2 rfl (by decide) _ _ _ rfl hAs ⟨wr.heap.size, 0, none⟩ 2 2 [.int .i64 3, .int .i64 m, .string ⟨#[]⟩, .int .i64 2, .int .i64 0, .string (t.extract j t.size)] rfl rfl (World.news_of_block (cs := #[.int .i64 3, .int .i64 m, .string ⟨#[]⟩, .int .i64 2, .int .i64 0, .string (t.extract j t.size)]) (t := 45) (fr := (0, 0)) (heap_alloc_new _ _)) (by simp [Value.oneCell']) ?c3 ?c4 ?c5 ?_)
        case c3 => unfold maxLen; omega
        case c4 => omega
        case c5 => first | omega | (simp; omega)
        intro v' w2 hown2 hgrow _
        have HB2 : Hid (Below w.heap.size w w2) := below_own' (HB.out.alloc hz _) hAs hgrow (by simp; omega)
        have HO2 : Hid (w2.ownsRow w.heap.size 45 3 v' (stepsL s.data.toList t.data.toList).length (allCells (stepsL s.data.toList t.data.toList))) := by
          show World.ownsRow _ _ _ _ _ _ _
          rw [← HW.out, List.length_append, allCells_append, HM.out]; exact hown2
        clear hown2 hgrow hAs
        go_wp2_with fail
        go_ret
        obtain ⟨a, cap, e, hp⟩ := parts_own HO2.out (steps_bound (by rw [HL.out.1]; exact hs) (by rw [HL.out.2]; exact ht))
        exact ⟨a, cap, by rw [← e]; rfl, hp, HB2.out⟩
end Go.Proofs.Ytcghojnmnmmpoaa
