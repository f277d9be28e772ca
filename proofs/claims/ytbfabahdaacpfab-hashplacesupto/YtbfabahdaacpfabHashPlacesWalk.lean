/- The law HashPlaces, walked: it answers true. -/
import Derived.Test.YtbfabahdaacpfabCoInt
import Derived.Deep.RegionWith
namespace Go.Proofs.Ytbfabahdaacpfab
open Go.RowKit
set_option linter.unusedSimpArgs false
set_option linter.unusedVariables false

theorem finds_aa : findsL [97, 97, 97] [97, 97] = [0, 1] := by decide
theorem lit_ints (w : World) (B : Nat) (hB : B ≤ w.heap.size) : Ints (w.alloc (.cells #[.int .i64 0, .int .i64 1] 3)) B (.slice (some ⟨w.heap.size, 0, none⟩) 2 2) [0, 1] :=
  World.ownsRow_lit w #[.int .i64 0, .int .i64 1] 2 hB (by decide) rfl
theorem emp_or (t : ByteArray) : t = ⟨#[]⟩ ∨ 0 < t.size := by
  by_cases h : t.size = 0
  · left
    obtain ⟨d⟩ := t
    have h1 : d.size = 0 := h
    rw [Array.size_eq_zero_iff.1 h1]
  · right; omega
theorem full_not {t : ByteArray} (h : 0 < t.size) : (t.toList == ([] : List UInt8)) = false := by
  have htl : t.data.toList.length = t.size := Array.length_toList
  rw [ByteArray.toList_eq]
  cases h1 : t.data.toList with
  | nil => rw [h1] at htl; simp at htl; omega
  | cons x r => rfl
/-- the places are rising -/
theorem finds_up {s t : List UInt8} {k x y : Nat} (h1 : (findsL s t)[k]? = some x) (h2 : (findsL s t)[k + 1]? = some y) : x < y := by
  have h := finds_sorted s t
  obtain ⟨a1, rfl⟩ := List.getElem?_eq_some_iff.1 h1
  obtain ⟨a2, rfl⟩ := List.getElem?_eq_some_iff.1 h2
  exact List.pairwise_iff_getElem.1 h k (k + 1) a1 a2 (by omega)
theorem cut_is (s t : ByteArray) {k : Nat} (h : k ∈ findsL s.data.toList t.data.toList) : k + t.size ≤ s.size ∧ ((s.extract k (k + t.size)).toList == t.toList) = true := by
  obtain ⟨h1, h2⟩ := finds_within h
  have hsl : s.data.toList.length = s.size := Array.length_toList
  have htl : t.data.toList.length = t.size := Array.length_toList
  rw [hsl, htl] at h1
  refine ⟨h1, ?_⟩
  rw [ByteArray.toList_eq, ByteArray.toList_eq, Lib.extract_data, show k + t.size - k = t.size by omega, ← htl, h2]
  simp

set_option maxRecDepth 100000 in
set_option maxHeartbeats 8000000 in
theorem HashPlaces_any (s t ahead : ByteArray) (i : Int) (w : World) (hs : s.size ≤ 1000000000) (ht : t.size ≤ 1000000000) (ha : ahead.size ≤ 1000000000) :
    Calls Try.prog 4 #[.string s, .string t, .string ahead, .int .i64 i] w fun e w' => e = .returned (.bool true) ∧ Below w.heap.size w w' := by
  go_enter Try.func4, Try.ntmps4
  go_wp2_with fail
  refine (Find_any ⟨#[97, 97, 97]⟩ ⟨#[97, 97]⟩ _ (by decide) (by decide)).mono ?_
  rintro e w1 ⟨v1, rfl, ho1, hb1⟩
  obtain ⟨a1, c1, rfl⟩ := slice_form ho1
  have HO1 : Hid (Ints w1 w.heap.size (.slice a1 2 c1) [0, 1]) := ho1
  have HB1 : Hid _ := hb1
  have hz1 := hb1.size
  clear ho1 hb1
  go_wp2_with fail
  refine (EqInt_yes w.heap.size w.heap.size _ _ [0, 1] _ (Ints.below HO1.out ((Below.refl _ _).alloc (Nat.le_refl _) _)) (lit_ints w1 _ hz1) (by decide)).mono ?_
  rintro e w2 ⟨rfl, hb2⟩
  have HB2 : Hid (Below w.heap.size w w2) := (HB1.out.alloc hz1 _).trans (hb2.mono (by simp; omega))
  clear hb2
  rcases emp_or t with h0 | h0
  · subst h0
    go_wp2_with fail
    refine (Find_not s _ _ rfl).mono ?_
    rintro e w3 ⟨rfl, we⟩
    subst we
    go_wp2_with fail
    go_ret
    exact ⟨rfl, HB2.out⟩
  · have hne := full_not h0
    have hsl : s.data.toList.length = s.size := Array.length_toList
    have hfl := finds_len s.data.toList t.data.toList
    rw [hsl] at hfl
    clear hsl
    go_wp2_with fail
    refine (Find_any s t _ h0 (by omega)).mono ?_
    rintro e w3 ⟨v3, rfl, ho3, hb3⟩
    obtain ⟨a3, c3, rfl⟩ := slice_form ho3
    have HO3 : Hid (Ints w3 w2.heap.size (.slice a3 (findsL s.data.toList t.data.toList).length c3) (findsL s.data.toList t.data.toList)) := ho3
    have HB3 : Hid (Below w.heap.size w w3) := HB2.out.trans (hb3.mono HB2.out.size)
    clear ho3 hb3
    go_wp2_with fail
    go_loop [13, 50] (fun la i => ∃ (k : Nat) (lst : Int), k ≤ (findsL s.data.toList t.data.toList).length ∧ i = .int .i64 k ∧ la = .int .i64 lst ∧ ∀ x : Nat, (findsL s.data.toList t.data.toList)[k]? = some x → lst < x) (fun _ i => (findsL s.data.toList t.data.toList).length - (intOf i).toNat)
    case atStart => exact ⟨0, -1, Nat.zero_le _, rfl, rfl, fun x _ => by omega⟩
    case round =>
      obtain ⟨k, lst, hk, rfl, rfl, hup⟩ := hrel
      by_cases hlt : k < (findsL s.data.toList t.data.toList).length
      · obtain ⟨x, hx⟩ : ∃ x, (findsL s.data.toList t.data.toList)[k]? = some x := ⟨_, List.getElem?_eq_getElem hlt⟩
        obtain ⟨q1, q2⟩ := cut_is s t (List.mem_of_getElem? hx)
        have q3 := hup x hx
        obtain ⟨g, cg, hg, y1, hgw⟩ := Ints.cellOf HO3.out hx
        simp only [Value.slice.injEq, true_and] at hg
        obtain ⟨rfl, rfl⟩ := hg
        have HX : Hid _ := hx
        have q4 : decide ((x : Int) ≤ lst) = false := by simp; omega
        clear hx hup
        go_wp2_with fail
        go_round
        case rel => exact ⟨k + 1, x, by omega, by go_num, rfl, fun y hy => by have := finds_up HX.out hy; omega⟩
        case measure => simp [intOf]; omega
      · clear hup
        go_wp2_with fail
        refine (Within2_any i (s.size + 1) _ (by omega) (by omega)).mono ?_
        rintro e w4 ⟨r, rfl, hr, we⟩
        subst we
        have HM : Hid (r ∈ findsL (s.extract 0 r ++ t ++ s.extract r s.size).data.toList t.data.toList) := by
          have hsl : s.data.toList.length = s.size := Array.length_toList
          have htl : t.data.toList.length = t.size := Array.length_toList
          have hb : ∀ a b : ByteArray, (a ++ b).data.toList = a.data.toList ++ b.data.toList := fun a b => by simp
          rw [hb, hb, Lib.extract_data, Lib.extract_data, List.drop_zero, Nat.sub_zero, List.take_of_length_le (l := s.data.toList.drop r) (by rw [List.length_drop]; omega)]
          exact finds_put (by intro h; rw [h] at htl; simp at htl; omega) (by omega)
        have hle : (s.extract 0 r ++ t ++ s.extract r s.size).size = s.size + t.size := by
          simp only [ByteArray.size_append, ByteArray.size_extract]; omega
        go_wp2_with fail
        go_region_with (go_at_call 7; refine (Find_any (s.extract 0 r ++ t ++ s.extract r s.size) t _ h0 (by omega)).mono ?_; rintro e w5 ⟨v5, rfl, ho5, hb5⟩)
        all_goals (
          have HB45 : Hid (Below w4.heap.size w4 w5) := (Below.refl _ w4).drew.trans hb5
          have HB5 : Hid (Below w.heap.size w w5) := HB3.out.trans (HB45.out.mono HB3.out.size)
          have HO5 : Hid (Ints w5 w4.heap.size v5 (findsL (s.extract 0 r ++ t ++ s.extract r s.size).data.toList t.data.toList)) := ho5
          have HL5 : Hid ((findsL (s.extract 0 r ++ t ++ s.extract r s.size).data.toList t.data.toList).length ≤ 9223372036854775806) := by
            show _ ≤ _
            have h1 := finds_len (s.extract 0 r ++ t ++ s.extract r s.size).data.toList t.data.toList
            rw [show (s.extract 0 r ++ t ++ s.extract r s.size).data.toList.length = (s.extract 0 r ++ t ++ s.extract r s.size).size from Array.length_toList, hle] at h1
            omega
          have HO35 : Hid (Ints w5 w2.heap.size (.slice a3 (findsL s.data.toList t.data.toList).length c3) (findsL s.data.toList t.data.toList)) := Ints.below HO3.out HB45.out
          clear ho5 hb5
          go_wp2_with fail
          refine (Find_any (ahead ++ s) t _ h0 (by simp only [ByteArray.size_append]; omega)).mono ?_
          rintro e w6 ⟨v6, rfl, ho6, hb6⟩
          have HB6 : Hid (Below w.heap.size w w6) := HB5.out.trans (hb6.mono HB5.out.size)
          have HO6 : Hid (Ints w6 w5.heap.size v6 (findsL (ahead ++ s).data.toList t.data.toList)) := ho6
          have HO56 : Hid (Ints w6 w4.heap.size v5 (findsL (s.extract 0 r ++ t ++ s.extract r s.size).data.toList t.data.toList)) := Ints.below HO5.out hb6
          have HO36 : Hid (Ints w6 w2.heap.size (.slice a3 (findsL s.data.toList t.data.toList).length c3) (findsL s.data.toList t.data.toList)) := Ints.below HO35.out hb6
          have HL6 : Hid ((findsL (ahead ++ s).data.toList t.data.toList).length ≤ 9223372036854775806) := by
            show _ ≤ _
            have h1 := finds_len (ahead ++ s).data.toList t.data.toList
            rw [show (ahead ++ s).data.toList.length = (ahead ++ s).size from Array.length_toList, ByteArray.size_append] at h1
            omega
          clear ho6 hb6
          go_wp2_with fail
          refine (Co_yes _ v5 _ r _ HO56.out HL5.out HM.out).mono ?_
          rintro e w7 ⟨rfl, we⟩
          subst we
          go_wp2_with fail
          go_loop [120] (fun i => ∃ k : Nat, k ≤ (findsL s.data.toList t.data.toList).length ∧ i = .int .i64 k) (fun i => (findsL s.data.toList t.data.toList).length - (intOf i).toNat)
          case atStart => exact ⟨0, Nat.zero_le _, rfl⟩
          case round =>
            obtain ⟨k, hk, rfl⟩ := hrel
            by_cases hlt : k < (findsL s.data.toList t.data.toList).length
            · obtain ⟨x, hx⟩ : ∃ x, (findsL s.data.toList t.data.toList)[k]? = some x := ⟨_, List.getElem?_eq_getElem hlt⟩
              obtain ⟨q1, _⟩ := cut_is s t (List.mem_of_getElem? hx)
              have HX : Hid (ahead.size + x ∈ findsL (ahead ++ s).data.toList t.data.toList) := by
                have h := finds_behind (a := ahead.data.toList) (List.mem_of_getElem? hx)
                rw [show ahead.data.toList.length = ahead.size from Array.length_toList] at h
                show _ ∈ _
                simpa using h
              obtain ⟨g, cg, hg, y1, hgw⟩ := Ints.cellOf HO36.out hx
              simp only [Value.slice.injEq, true_and] at hg
              obtain ⟨rfl, rfl⟩ := hg
              clear hx
              go_wp2_with fail
              rw [show (ahead.size : Int) + (x : Int) = ((ahead.size + x : Nat) : Int) by omega]
              refine (Co_yes _ v6 _ (ahead.size + x) _ HO6.out HL6.out HX.out).mono ?_
              rintro e w8 ⟨rfl, we⟩
              subst we
              go_wp2_with fail
              go_round
              case rel => exact ⟨k + 1, by omega, by go_num⟩
              case measure => simp [intOf]; omega
            · go_wp2_with fail
              go_ret
              exact ⟨rfl, HB6.out⟩)
end Go.Proofs.Ytbfabahdaacpfab
