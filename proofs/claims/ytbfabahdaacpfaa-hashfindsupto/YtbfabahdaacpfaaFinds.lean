/- What the document's own Finds, and slices.Equal of two rows of ints that are one, answer. -/
import Derived.Test.YtbfabahdaacpfaaFind
import Derived.Deep.QuietTactic
import Derived.BigQuiet
namespace Go.Proofs.Ytbfabahdaacpfaa
open Go.RowKit
set_option linter.unusedSimpArgs false
set_option linter.unusedVariables false

theorem Ints.below {w w' : World} {B : Nat} {v : Value} {l : List Nat} (h : Ints w B v l) (hb : Below w.heap.size w w') : Ints w' B v l := by
  refine ⟨h.1, ?_⟩
  rcases h.2 with h0 | ⟨g', cap, cur, h1, hB, hc, h2⟩
  · exact .inl h0
  · exact .inr ⟨g', cap, cur, h1, hB, by rw [hb.block _ (lt_of_heap hc)]; exact hc, h2⟩
theorem Ints.cellOf {w : World} {B : Nat} {v : Value} {l : List Nat} (h : Ints w B v l) {i q : Nat} (hi : l[i]? = some q) : ∃ g cap, v = .slice (some ⟨g, 0, none⟩) l.length cap ∧ w.cell? ⟨g, i, none⟩ = some (.int .i64 q) ∧ g < w.heap.size :=
  own_at h (by rw [List.getElem?_map, hi]; rfl)

set_option maxHeartbeats 1000000 in
theorem EqInt_yes (B C : Nat) (u v : Value) (l : List Nat) (w : World) (hu : Ints w B u l) (hv : Ints w C v l) (hl : l.length ≤ 9223372036854775806) :
    Calls Try.prog 18 #[u, v] w fun e w' => e = .returned (.bool true) ∧ Below w.heap.size w w' := by
  obtain ⟨a, ca, rfl⟩ := slice_form hu
  obtain ⟨b, cb, rfl⟩ := slice_form hv
  have HU : Hid (Ints w B (.slice a l.length ca) l) := hu
  have HV : Hid (Ints w C (.slice b l.length cb) l) := hv
  clear hu hv
  go_enter Try.func18, Try.ntmps18
  go_wp2_with fail
  go_loopw [13] (fun i wr => ∃ k : Nat, k ≤ l.length ∧ i = .int .i64 k ∧ Below w.heap.size w wr) (fun i _ => l.length - (intOf i).toNat)
  case atStart => exact ⟨0, Nat.zero_le _, rfl, Below.refl _ _⟩
  case round =>
    rename World => wr
    obtain ⟨k, hk, rfl, hb⟩ := hrel
    have HB : Hid (Below w.heap.size w wr) := hb
    by_cases hlt : k < l.length
    · obtain ⟨q, hq⟩ : ∃ q, l[k]? = some q := ⟨l[k], List.getElem?_eq_getElem hlt⟩
      obtain ⟨g, cg, hg, y1, hgw⟩ := Ints.cellOf (Ints.below HU.out hb) hq
      obtain ⟨h, ch, hh, z1, hhw⟩ := Ints.cellOf (Ints.below HV.out hb) hq
      simp only [Value.slice.injEq, true_and] at hg hh
      obtain ⟨rfl, rfl⟩ := hg
      obtain ⟨rfl, rfl⟩ := hh
      clear hb hq
      go_wp2_with fail
      go_quiet (fail)
      go_wp2_with fail
      go_roundw
      case rel => exact ⟨k + 1, by omega, by go_num, below_drewN HB.out _⟩
      case measure => simp [intOf]; omega
    · clear hb
      go_wp2_with fail
      go_ret
      exact ⟨rfl, HB.out⟩

def hasP (s t : List UInt8) : Bool := t.isPrefixOf s
set_option maxHeartbeats 1000000 in
theorem HasL_any (s t : ByteArray) (w : World) (hs : s.size ≤ 9223372036854775806) (ht : t.size ≤ 9223372036854775806) :
    Calls Try.prog 42 #[.string s, .string t] w fun e w' => e = .returned (.bool (hasP s.data.toList t.data.toList)) ∧ w' = w := by
  have hsl : s.data.toList.length = s.size := Array.length_toList
  have htl : t.data.toList.length = t.size := Array.length_toList
  by_cases h : t.size ≤ s.size
  · have HE : Hid (((s.extract 0 t.size).toList == t.toList) = hasP s.data.toList t.data.toList) := by
      show _ = _
      rw [ByteArray.toList_eq, ByteArray.toList_eq, Lib.extract_data, Nat.sub_zero, List.drop_zero, Bool.eq_iff_iff]
      unfold hasP
      rw [beq_iff_eq, List.isPrefixOf_iff_prefix, List.prefix_iff_eq_take, htl]
      exact eq_comm
    clear hsl htl
    go_enter Try.func42, Try.ntmps42
    go_wp2_with fail
    go_ret
    refine ⟨?_, rfl⟩
    rw [← HE.out]; rfl
  · have HE : Hid (hasP s.data.toList t.data.toList = false) := by
      show _ = _
      unfold hasP
      rw [Bool.eq_false_iff]
      intro h1
      have := (List.isPrefixOf_iff_prefix.1 h1).length_le
      omega
    clear hsl htl
    go_enter Try.func42, Try.ntmps42
    go_wp2_with fail
    go_ret
    refine ⟨?_, rfl⟩
    rw [HE.out]; rfl
set_option maxHeartbeats 1000000 in
theorem Has_any (s t : ByteArray) (w : World) (hs : s.size ≤ 9223372036854775806) (ht : t.size ≤ 9223372036854775806) :
    Calls Try.prog 32 #[.string s, .string t] w fun e w' => e = .returned (.bool (hasP s.data.toList t.data.toList)) ∧ w' = w := by
  go_enter Try.func32, Try.ntmps32
  go_wp2_with fail
  refine (HasL_any s t _ hs ht).mono ?_
  rintro e w1 ⟨rfl, we⟩
  subst we
  go_wp2_with fail
  go_ret
  exact ⟨rfl, rfl⟩

def findsTo (s t : List UInt8) (k : Nat) : List Nat := (List.range k).filter (fun i => t.isPrefixOf (s.drop i))
theorem findsTo_step (s t : List UInt8) (k : Nat) : findsTo s t (k + 1) = if hasP (s.drop k) t then findsTo s t k ++ [k] else findsTo s t k := by
  rw [findsTo, List.range_succ, List.filter_append, hasP]
  cases h : t.isPrefixOf (s.drop k)
  · simp [findsTo, h]
  · simp [findsTo, h]
theorem findsTo_len (s t : List UInt8) (k : Nat) : (findsTo s t k).length ≤ k := by
  refine Nat.le_trans (List.length_filter_le _ _) ?_
  rw [List.length_range]; exact Nat.le_refl _

set_option maxRecDepth 20000 in
set_option maxHeartbeats 4000000 in
theorem RFinds_any (s t : ByteArray) (w : World) (hs : s.size ≤ 1000000000000) (ht : t.size ≤ 1000000000000) :
    Calls Try.prog 19 #[.string s, .string t] w fun e w' => ∃ v, e = .returned v ∧ Ints w' w.heap.size v (findsL s.data.toList t.data.toList) ∧ Below w.heap.size w w' := by
  obtain ⟨ip, hip, hp0, hp1, hp2⟩ := info_parts infoInt
  have hsl : s.data.toList.length = s.size := Array.length_toList
  have HSL : Hid (s.data.toList.length = s.size) := hsl
  clear hsl
  go_enter Try.func19, Try.ntmps19
  go_wp2_with fail
  go_loopw [5, 9] (fun v i wr => ∃ (k : Nat), k ≤ s.size ∧ i = .int .i64 k ∧ Ints wr w.heap.size v (findsTo s.data.toList t.data.toList k) ∧ Below w.heap.size w wr) (fun _ i _ => s.size - (intOf i).toNat)
  case atStart => exact ⟨0, Nat.zero_le _, rfl, World.ownsRow_nil _ _ _ _, Below.refl _ _⟩
  case round =>
    rename World => wr
    obtain ⟨k, hk, rfl, hown, hb⟩ := hrel
    have hz := hb.size
    by_cases hlt : k < s.size
    · have hfl := findsTo_len s.data.toList t.data.toList k
      have HB : Hid (Below w.heap.size w wr) := hb
      obtain ⟨ao, ca, rfl⟩ := slice_form hown
      have HO : Hid (Ints wr w.heap.size (.slice ao (findsTo s.data.toList t.data.toList k).length ca) (findsTo s.data.toList t.data.toList k)) := hown
      have HF : Hid _ := findsTo_step s.data.toList t.data.toList k
      have HX : Hid ((s.extract k s.size).data.toList = s.data.toList.drop k) := by
        show _ = _
        rw [Lib.extract_data, List.take_of_length_le (by rw [List.length_drop, HSL.out]; omega)]
      clear hb hown
      go_wp2_with fail
      refine (Has_any (s.extract k s.size) t _ (by rw [ByteArray.size_extract]; omega) (by omega)).mono ?_
      rintro e w2 ⟨rfl, we⟩
      subst we
      rw [HX.out]
      cases hh : hasP (s.data.toList.drop k) t.data.toList
      · have HH : Hid _ := hh
        clear hh
        go_wp2_with fail
        go_roundw
        case rel =>
          refine ⟨k + 1, by omega, by go_num, ?_, HB.out⟩
          have h := HF.out
          rw [HH.out, if_neg (by simp)] at h
          rw [h]; exact HO.out
        case measure => simp [intOf]; omega
      · have HH : Hid _ := hh
        have hAs := own_alloc HO.out (.cells #[.int .i64 k] 3)
        clear hh
        go_wp2_with (at_builtin; refine wpList_append_own _ rfl _ _ 37 rfl w.heap.size 3 ip _ 1 8 Try.underlying37 hip hp0 hp1 hp2 rfl (by decide) _ _ _ rfl hAs ⟨w2.heap.size, 0, none⟩ 1 1 [.int .i64 k] rfl rfl (cell_one_new _ _ _) (by simp [Value.oneCell']) ?c3 ?c4 ?c5 ?_)
        case c3 => unfold maxLen; omega
        case c4 => omega
        case c5 => first | omega | (simp; omega)
        intro v' w3 hown2 hgrow _
        have HB2 : Hid (Below w.heap.size w w3) := below_own (HB.out.alloc hz _) hAs hgrow (by simp; omega)
        have HO2 : Hid (Ints w3 w.heap.size v' (findsTo s.data.toList t.data.toList k ++ [k])) := by
          show Ints _ _ _ _
          unfold Ints
          rw [List.length_append, List.map_append]; exact hown2
        clear hown2 hgrow hAs
        go_wp2_with fail
        go_roundw
        case rel =>
          refine ⟨k + 1, by omega, by go_num, ?_, HB2.out⟩
          have h := HF.out
          rw [HH.out, if_pos rfl] at h
          rw [h]; exact HO2.out
        case measure => simp [intOf]; omega
    · obtain rfl : k = s.size := by omega
      have HO : Hid (Ints wr w.heap.size _ (findsL s.data.toList t.data.toList) ∧ Below w.heap.size w wr) := ⟨by
        have h := hown
        rw [show s.size = s.data.toList.length from HSL.out.symm] at h
        exact h, hb⟩
      clear hown hb
      go_wp2_with fail
      go_ret
      exact ⟨_, rfl, HO.out.1, HO.out.2⟩
end Go.Proofs.Ytbfabahdaacpfaa
