/- What hash.Find answers. -/
import Derived.Test.YtbfabahdaacpfabGrown
namespace Go.Proofs.Ytbfabahdaacpfab
open Go.RowKit
set_option linter.unusedSimpArgs false
set_option linter.unusedVariables false

theorem finds_len (s t : List UInt8) : (findsL s t).length ≤ s.length := by
  refine Nat.le_trans (List.length_filter_le _ _) ?_
  rw [List.length_range]; exact Nat.le_refl _
theorem found_len (s t : List UInt8) (k : Nat) : (foundL s t k).length ≤ s.length := Nat.le_trans (List.length_filter_le _ _) (finds_len s t)

/-- an answer of Find: the places, in a row of the call's own -/
def Ints (w : World) (B : Nat) (v : Value) (l : List Nat) : Prop := w.ownsRow B 3 1 v l.length (l.map intV)
theorem Ints.mono {w : World} {B B' : Nat} {v : Value} {l : List Nat} (h : Ints w B v l) (hB : B' ≤ B) : Ints w B' v l :=
  ⟨h.1, h.2.imp id fun ⟨g, cap, cur, h1, h2, r⟩ => ⟨g, cap, cur, h1, Nat.le_trans hB h2, r⟩⟩

set_option maxRecDepth 20000 in
set_option maxHeartbeats 4000000 in
theorem Find_not (s t : ByteArray) (w : World) (ht : t = ⟨#[]⟩) :
    Calls Try.prog 7 #[.string s, .string t] w fun e w' => e = .returned (.tuple #[.slice none 0 0, .int .i64 1]) ∧ w' = w := by
  subst ht
  go_enter Try.func7, Try.ntmps7
  go_wp2_with fail
  go_ret2
  exact ⟨rfl, rfl⟩

set_option maxRecDepth 20000 in
set_option maxHeartbeats 4000000 in
theorem Find_any (s t : ByteArray) (w : World) (ht : 0 < t.size) (hs : s.size ≤ 1000000000000) :
    Calls Try.prog 7 #[.string s, .string t] w fun e w' => ∃ v, e = .returned (.tuple #[v, .int .i64 0]) ∧ Ints w' w.heap.size v (findsL s.data.toList t.data.toList) ∧ Below w.heap.size w w' := by
  obtain ⟨ip, hip, hp0, hp1, hp2⟩ := info_parts infoInt
  have hsl : s.data.toList.length = s.size := Array.length_toList
  have htl : t.data.toList.length = t.size := Array.length_toList
  have htne : t.data.toList ≠ [] := by intro h; rw [h] at htl; simp at htl; omega
  have hte : (t.toList == ([] : List UInt8)) = false := by
    rw [ByteArray.toList_eq]
    cases h : t.data.toList with
    | nil => exact absurd h htne
    | cons x r => rfl
  have HSL : Hid (s.data.toList.length = s.size ∧ t.data.toList.length = t.size ∧ t.data.toList ≠ []) := ⟨hsl, htl, htne⟩
  clear hsl htl htne
  by_cases hsz : t.size ≤ s.size
  · go_enter Try.func7, Try.ntmps7
    go_wp2_with fail
    refine (borders_any t _ ht (by omega)).mono ?_
    rintro e w1 ⟨gb, lb, rfl, hlb, hrow, hbk, hbel⟩
    have HR : Hid _ := hrow
    have HK : Hid _ := hbk
    have HB1 : Hid _ := hbel
    have hz1 := hbel.size
    clear hrow hbk hbel hte
    go_wp2_with fail
    go_loopw [7, 8, 21] (fun v g i wr => ∃ (k q : Nat), k ≤ s.size ∧ i = .int .i64 k ∧ g = .int .i64 q ∧ Top t.data.toList (s.data.toList.take k) t.data.toList.length q ∧ Ints wr w1.heap.size v (foundL s.data.toList t.data.toList k) ∧ Below w1.heap.size w1 wr) (fun _ _ i _ => s.size - (intOf i).toNat)
    case atStart =>
      refine ⟨0, 0, Nat.zero_le _, rfl, rfl, ?_, ?_, Below.refl _ _⟩
      · exact top_first _
      · rw [found_none HSL.out.2.2]; exact World.ownsRow_nil _ _ _ _
    case round =>
      rename World => wr
      obtain ⟨k, q, hk, rfl, rfl, htop, hown, hb⟩ := hrel
      have hz := hb.size
      by_cases hlt : k < s.size
      · obtain ⟨c, hc⟩ : ∃ c, s.data.toList[k]? = some c := ⟨s.data.toList[k]'(by have := HSL.out.1; omega), List.getElem?_eq_getElem _⟩
        have hat := at_byte hc hlt
        have hfl := found_len s.data.toList t.data.toList k
        rw [HSL.out.1] at hfl
        have HC : Hid (s.data.toList[k]? = some c) := hc
        have HB : Hid (Below w1.heap.size w1 wr) := hb
        have HT : Hid _ := htop
        obtain ⟨ao, ca, rfl⟩ := slice_form hown
        have HO : Hid (Ints wr w1.heap.size (.slice ao (foundL s.data.toList t.data.toList k).length ca) (foundL s.data.toList t.data.toList k)) := hown
        have hql : q ≤ t.size := by have := htop.2.1; rw [HSL.out.2.1] at this; exact this
        clear hc hb hown htop
        go_wp2_with fail
        refine (grown_any t (s.data.toList.take k) w.heap.size gb lb t.data.toList.length q c _ (IntRow.below HR.out HB.out) ht (by omega) hlb (fun i hi => HK.out i (by omega)) HT.out).mono ?_
        rintro e w2 ⟨q2, rfl, hg, we⟩
        subst we
        have htop2 : Top t.data.toList (s.data.toList.take (k + 1)) t.data.toList.length q2 := by rw [take_one HC.out]; exact grew_find hg
        have HT2 : Hid _ := htop2
        have HF : Hid _ := found_step HSL.out.2.2 HC.out htop2
        have hq2 : q2 ≤ k + 1 := by
          have h1 := htop2.2.2.1.length_le
          have h2 := htop2.2.1
          rw [List.length_take, List.length_take, HSL.out.2.1] at h1
          rw [HSL.out.2.1] at h2
          omega
        clear hg htop2
        by_cases hq : q2 = t.size
        · subst hq
          obtain ⟨m, hm⟩ : ∃ m : Nat, k + 1 - t.size = m := ⟨_, rfl⟩
          have hmi : (k : Int) + 1 - (t.size : Int) = (m : Int) := by omega
          have HM : Hid (k + 1 - t.size = m) := hm
          have hAs := own_alloc HO.out (.cells #[.int .i64 m] 3)
          clear hm
          go_wp2_with (at_builtin; refine wpList_append_own _ rfl _ _ 27 rfl w1.heap.size 3 ip _ 1 8 Try.underlying27 hip hp0 hp1 hp2 rfl (by decide) _ _ _ rfl hAs ⟨w2.heap.size, 0, none⟩ 1 1 [.int .i64 m] rfl rfl (cell_one_new _ _ _) (by simp [Value.oneCell']) ?c3 ?c4 ?c5 ?_)
          case c3 => unfold maxLen; omega
          case c4 => omega
          case c5 => first | omega | (simp; omega)
          intro v' w3 hown2 hgrow _
          have HB2 : Hid (Below w1.heap.size w1 w3) := below_own (HB.out.alloc hz _) hAs hgrow (by simp; omega)
          have HO2 : Hid (Ints w3 w1.heap.size v' (foundL s.data.toList t.data.toList k ++ [m])) := by
            show Ints _ _ _ _
            unfold Ints
            rw [List.length_append, List.map_append]; exact hown2
          clear hown2 hgrow hAs
          go_wp2_with fail
          go_roundw
          case rel =>
            refine ⟨k + 1, t.size, by omega, by go_num, rfl, HT2.out, ?_, HB2.out⟩
            have h := HF.out
            rw [if_pos HSL.out.2.1.symm, HSL.out.2.1, HM.out] at h
            rw [h]; exact HO2.out
          case measure => simp [intOf]; omega
        · go_wp2_with fail
          go_roundw
          case rel =>
            refine ⟨k + 1, q2, by omega, by go_num, rfl, HT2.out, ?_, HB.out⟩
            have h := HF.out
            rw [if_neg (by rw [HSL.out.2.1]; exact hq)] at h
            rw [h]; exact HO.out
          case measure => simp [intOf]; omega
      · obtain rfl : k = s.size := by omega
        have HO : Hid (Ints wr w.heap.size _ (findsL s.data.toList t.data.toList) ∧ Below w1.heap.size w1 wr) := ⟨by
          have h := hown
          rw [show s.size = s.data.toList.length from HSL.out.1.symm, found_all] at h
          exact Ints.mono h hz1, hb⟩
        clear hown hb htop
        go_wp2_with fail
        go_ret2
        exact ⟨_, rfl, HO.out.1, HB1.out.trans (HO.out.2.mono hz1)⟩
  · have HF : Hid (findsL s.data.toList t.data.toList = []) := found_short (by rw [HSL.out.1, HSL.out.2.1]; omega)
    go_enter Try.func7, Try.ntmps7
    go_wp2_with fail
    go_ret2
    refine ⟨_, rfl, ?_, Below.refl _ _⟩
    rw [HF.out]
    exact World.ownsRow_nil _ _ _ _
end Go.Proofs.Ytbfabahdaacpfab
