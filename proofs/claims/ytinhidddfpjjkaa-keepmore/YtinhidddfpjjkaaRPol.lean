/- The document's Policy and Kept. -/
import Derived.Test.YtinhidddfpjjkaaKeepOf
namespace Go.Proofs.Ytinhidddfpjjkaa
open Go.RowKit
set_option linter.unusedSimpArgs false
set_option linter.unusedVariables false

theorem pbox_up {w w' : World} {g B : Nat} {last every : Int} {s : Value} (h : PBox w g last every s) (hb : Below B w w') (hg : g < B) : PBox w' g last every s := by
  obtain ⟨h1, h2, h3, h4⟩ := h
  have h6 := hb.block g hg
  refine ⟨?_, ?_, ?_, Nat.lt_of_lt_of_le h4 hb.size⟩
  · rw [World.cell?_of_block h6]; exact h1
  · rw [World.cell?_of_block h6]; exact h2
  · rw [World.cell?_of_block h6]; exact h3
theorem ret_boolQ {a b : Bool} (h : a = b) : Ending.returned (.bool a) = .returned (.bool b) := by rw [h]
theorem max_two (ts : Array TypeId) (t : TypeId) (a b : Int) (w : World) : (Builtin.max_ ts t #[.int .i64 a, .int .i64 b]).run Try.prog w = .ok (.int .i64 (max a b)) w := by
  by_cases h : a < b
  · have h2 : ¬ b < a := by omega
    simp [Builtin.max_, Builtin.max2, h, h2]; omega
  · simp [Builtin.max_, Builtin.max2, h]; omega
set_option maxHeartbeats 1000000 in
theorem badPin_any (r : Int) (w : World) : Calls Try.prog 25 #[.int .i64 r] w fun e w' => e = .returned (.bool (decide (r < 0 ∨ 2147483647 < r))) ∧ w' = w := by
  go_enter Try.func25, Try.ntmps25
  by_cases h1 : r < 0
  · rw [decide_eq_true (.inl h1)]
    go_wp2_with fail
    go_ret
    exact ⟨rfl, rfl⟩
  · by_cases h2 : 2147483647 < r
    · rw [decide_eq_true (.inr h2)]
      go_wp2_with fail
      go_ret
      exact ⟨rfl, rfl⟩
    · rw [decide_eq_false (by omega)]
      go_wp2_with fail
      go_ret
      exact ⟨rfl, rfl⟩
set_option maxHeartbeats 1000000 in
theorem badIx_any (a : Option Addr) (x : List Int) (c : Nat) (w : World) (hv : IzAt w w.heap.size a x c) :
    Calls Try.prog 27 #[.slice a x.length c, .func (.func 25) #[] #[]] w fun e w' => ∃ q : Int, e = .returned (.int .i64 q) ∧ (0 ≤ q ↔ ∃ r ∈ x, r < 0 ∨ 2147483647 < r) ∧ w' = w := by
  have hl : x.length ≤ 9223372036854775807 := Nat.le_trans hv.1 hv.2.1
  have HV : Hid (IzAt w w.heap.size a x c) := hv
  clear hv
  go_enter Try.func27, Try.ntmps27
  go_wp2_with fail
  go_loopw [8] (fun i wr => ∃ k : Nat, k ≤ x.length ∧ i = .int .i64 k ∧ (∀ r ∈ x.take k, 0 ≤ r ∧ r ≤ 2147483647) ∧ wr = w) (fun i _ => x.length - (intOf i).toNat)
  case atStart => exact ⟨0, Nat.zero_le _, rfl, by simp, rfl⟩
  case round =>
    obtain ⟨k, hk, rfl, hn, rfl⟩ := hrel
    by_cases hlt : k < x.length
    · obtain ⟨y, hy⟩ : ∃ y, x[k]? = some y := ⟨x[k], List.getElem?_eq_getElem hlt⟩
      have hki : (k : Int) < (x.length : Int) := by omega
      obtain ⟨g, og, e1, hg, y1⟩ := HV.out.mem hy
      subst e1
      have HY : Hid (x[k]? = some y ∧ ∀ r ∈ x.take k, 0 ≤ r ∧ r ≤ 2147483647) := ⟨hy, hn⟩
      clear hy hn
      go_wp2_with fail
      refine (badPin_any y _).mono ?_
      rintro e w1 ⟨rfl, we⟩
      subst we
      by_cases hx : y < 0 ∨ 2147483647 < y
      · rw [decide_eq_true hx]
        have HN : Hid (∃ r ∈ x, r < 0 ∨ 2147483647 < r) := out_pin HY.out.1 hx
        clear hx
        go_wp2_with fail
        go_ret
        exact ⟨k, rfl, ⟨fun _ => HN.out, fun _ => by omega⟩, rfl⟩
      · rw [decide_eq_false hx]
        have HN : Hid (∀ r ∈ x.take (k + 1), 0 ≤ r ∧ r ≤ 2147483647) := in_pins HY.out.1 HY.out.2 (by omega)
        clear hx
        go_wp2_with fail
        go_roundw
        case rel => exact ⟨k + 1, by omega, by go_num, HN.out, by first | rfl | trivial⟩
        case measure => simp [intOf]; omega
    · have HN : Hid (¬ ∃ r ∈ x, r < 0 ∨ 2147483647 < r) := by
        rw [List.take_of_length_le (by omega)] at hn
        exact all_pins hn
      clear hn
      go_wp2_with fail
      go_ret
      exact ⟨-1, rfl, ⟨fun h => by omega, fun h => absurd h HN.out⟩, rfl⟩
/-- is one of them out of its bounds? -/
def badB (x : List Int) : Bool := decide (∃ r ∈ x, r < 0 ∨ 2147483647 < r)
set_option maxHeartbeats 400000 in
theorem badCo_any (a : Option Addr) (x : List Int) (c : Nat) (w : World) (hv : IzAt w w.heap.size a x c) :
    Calls Try.prog 19 #[.slice a x.length c, .func (.func 25) #[] #[]] w fun e w' => e = .returned (.bool (badB x)) ∧ w' = w := by
  have HV : Hid (IzAt w w.heap.size a x c) := hv
  clear hv
  go_enter Try.func19, Try.ntmps19
  go_wp2_with fail
  refine (badIx_any a x c _ HV.out).mono ?_
  rintro e w1 ⟨q, rfl, hq, we⟩
  subst we
  have HQ : Hid (decide (0 ≤ q) = badB x) := decide_eq_decide.2 hq
  clear hq
  go_wp2_with fail
  go_ret
  exact ⟨ret_boolQ HQ.out, rfl⟩
set_option maxHeartbeats 2000000 in
theorem RPolicy_any (last every : Int) (a : Option Addr) (pins : List Int) (c : Nat) (w : World) (hv : IzAt w w.heap.size a pins c) :
    Calls Try.prog 11 #[polV last every a pins.length c] w fun e w' => e = .returned (.int .i64 (polE last every pins)) ∧ Below w.heap.size w w' := by
  have hl : pins.length ≤ 9223372036854775807 := Nat.le_trans hv.1 hv.2.1
  have HB : Hid (Below w.heap.size w (w.alloc (.cells #[.int .i64 last, .int .i64 every, .slice a pins.length c] 24))) := (Below.refl _ _).alloc (Nat.le_refl _) _
  have HV : Hid (IzAt (w.alloc (.cells #[.int .i64 last, .int .i64 every, .slice a pins.length c] 24)) (w.alloc (.cells #[.int .i64 last, .int .i64 every, .slice a pins.length c] 24)).heap.size a pins c) := hv.here HB.out (Nat.le_refl _)
  obtain ⟨x0, x1, x2, x3⟩ := pbox_new w last every (.slice a pins.length c)
  clear hv
  go_enter Try.func11, Try.ntmps11
  by_cases hbad : last < 1 ∨ every < 0 ∨ 2147483647 < last ∨ 2147483647 < every
  · have HE : Hid (polE last every pins = 1) := polE_not hbad
    by_cases h1 : last < 1
    · clear hbad
      go_wp2_with fail
      go_ret
      exact ⟨by rw [HE.out]; rfl, HB.out⟩
    · by_cases h3 : every < 0
      · clear hbad
        go_wp2_with fail
        go_ret
        exact ⟨by rw [HE.out]; rfl, HB.out⟩
      · have h4 : 2147483647 < max last every := by omega
        have hmx : ∀ ts t (w : World), (Builtin.max_ ts t #[.int .i64 last, .int .i64 every]).run Try.prog w = .ok (.int .i64 (max last every)) w := fun ts t w => max_two ts t last every w
        generalize max last every = mx at h4 hmx
        clear hbad
        go_wp2_with fail
        go_ret
        exact ⟨by rw [HE.out]; rfl, HB.out⟩
  · have h1 : ¬ last < 1 := by omega
    have h3 : ¬ every < 0 := by omega
    have h4 : ¬ 2147483647 < max last every := by omega
    have hmx : ∀ ts t (w : World), (Builtin.max_ ts t #[.int .i64 last, .int .i64 every]).run Try.prog w = .ok (.int .i64 (max last every)) w := fun ts t w => max_two ts t last every w
    generalize max last every = mx at h4 hmx
    have HE : Hid _ := polE_pins (pins := pins) hbad
    clear hbad
    by_cases h5 : 16 < pins.length
    · have h5i : (16 : Int) < (pins.length : Int) := by omega
      have HE2 : Hid (polE last every pins = 2) := by have h := HE.out; rw [if_pos h5] at h; exact h
      clear HE
      go_wp2_with fail
      go_ret
      exact ⟨by rw [HE2.out]; rfl, HB.out⟩
    · have h5i : ¬ (16 : Int) < (pins.length : Int) := by omega
      have HE2 : Hid (polE last every pins = if ∃ r ∈ pins, r < 0 ∨ 2147483647 < r then 1 else 0) := by have h := HE.out; rw [if_neg h5] at h; exact h
      clear HE
      go_wp2_with fail
      refine (badCo_any a pins c _ HV.out).mono ?_
      rintro e w1 ⟨rfl, we⟩
      subst we
      by_cases h6 : ∃ r ∈ pins, r < 0 ∨ 2147483647 < r
      · have HN : Hid (polE last every pins = 1) := by show _ = _; rw [HE2.out, if_pos h6]
        rw [show badB pins = true from decide_eq_true h6]
        clear h6
        go_wp2_with fail
        go_ret
        exact ⟨by rw [HN.out]; rfl, HB.out⟩
      · have HN : Hid (polE last every pins = 0) := by show _ = _; rw [HE2.out, if_neg h6]
        rw [show badB pins = false from decide_eq_false h6]
        clear h6
        go_wp2_with fail
        go_ret
        exact ⟨by rw [HN.out]; rfl, HB.out⟩
set_option maxHeartbeats 8000000 in
theorem RKept_any (last every : Int) (a : Option Addr) (pins : List Int) (c hd : Nat) (w : World) (hv : IzAt w w.heap.size a pins c) (hz : polE last every pins = 0) (hh : hd ≤ 640) :
    Calls Try.prog 13 #[polV last every a pins.length c, .int .i64 (hd : Int)] w fun e w' => ∃ ao co, e = .returned (.slice ao (keptL last every pins hd).length co) ∧ NatsAt w' w'.heap.size ao (keptL last every pins hd) co ∧ Below w.heap.size w w' := by
  obtain ⟨ip, hip, hp0, hp1, hp2⟩ := info_parts infoInt
  obtain ⟨hl0, hE0, hl1, hE1, hpl, _⟩ := pol_zero hz
  have HB : Hid (Below w.heap.size w (w.alloc (.cells #[.int .i64 last, .int .i64 every, .slice a pins.length c] 24))) := (Below.refl _ _).alloc (Nat.le_refl _) _
  have HV0 : Hid (IzAt w w.heap.size a pins c) := hv
  have HX : Hid (PBox (w.alloc (.cells #[.int .i64 last, .int .i64 every, .slice a pins.length c] 24)) w.heap.size last every (.slice a pins.length c)) := pbox_new w last every (.slice a pins.length c)
  clear hv hz
  go_enter Try.func13, Try.ntmps13
  go_wp2_with fail
  go_loopw [5, 6] (fun v i wr => ∃ (k : Nat), k ≤ hd + 1 ∧ i = .int .i64 k ∧ wr.ownsRow (w.heap.size + 1) 3 1 v (keptN last every pins hd k).length ((keptN last every pins hd k).map intV) ∧ PBox wr w.heap.size last every (.slice a pins.length c) ∧ Below w.heap.size w wr) (fun _ i _ => hd + 1 - (intOf i).toNat)
  case atStart => exact ⟨0, Nat.zero_le _, rfl, World.ownsRow_nil _ _ _ _, HX.out, HB.out⟩
  case round =>
    rename World => wr
    obtain ⟨k, hk, rfl, hown, hbx, hb⟩ := hrel
    obtain ⟨ao, ca, rfl⟩ := slice_form hown
    have hz := hb.size
    have hgl := hbx.2.2.2
    by_cases hlt : k < hd + 1
    · have hki : (k : Int) ≤ (hd : Int) := by omega
      have hfl := keptN_len last every pins hd k
      have HB2 : Hid (Below w.heap.size w wr) := hb
      have HO : Hid (wr.ownsRow (w.heap.size + 1) 3 1 (.slice ao (keptN last every pins hd k).length ca) (keptN last every pins hd k).length ((keptN last every pins hd k).map intV)) := hown
      have HXr : Hid (PBox wr w.heap.size last every (.slice a pins.length c)) := hbx
      have HF : Hid _ := keptN_snoc last every pins hd k
      have HVr : Hid (IzAt wr wr.heap.size a pins c) := HV0.out.here hb (Nat.le_refl _)
      obtain ⟨x0, x1, x2, x3⟩ := hbx
      clear hb hown
      by_cases h3 : 0 < every
      · obtain ⟨d, hd0⟩ : ∃ d : Int, (k : Int).tdiv every = d := ⟨_, rfl⟩
        obtain ⟨m, hm0⟩ : ∃ m : Int, d * every = m := ⟨_, rfl⟩
        have hke : (k : Int) % every = (k : Int) - m := by
          rw [← hm0, ← hd0, Int.tdiv_eq_ediv_of_nonneg (by omega)]
          have := Int.mul_ediv_add_emod (k : Int) every
          rw [Int.mul_comm] at this; omega
        have hd1 : 0 ≤ d := by rw [← hd0]; exact Int.tdiv_nonneg (by omega) (by omega)
        have hd2 : d ≤ k := by rw [← hd0, Int.tdiv_eq_ediv_of_nonneg (by omega)]; exact Int.ediv_le_self _ (by omega)
        have hm1 : 0 ≤ m := by rw [← hm0]; exact Int.mul_nonneg hd1 (by omega)
        have hm2 : m ≤ k := by have := Int.emod_nonneg (k : Int) (show every ≠ 0 by omega); omega
        have t2 : IntKind.i64.wrap d = d := (IntWalk.i64_in _ ⟨by omega, by omega⟩)
        have t3 : IntKind.i64.wrap (d * every) = m := by rw [hm0]; exact (IntWalk.i64_in _ ⟨by omega, by omega⟩)
        have t3' : wrap64 (d * every) = m := by rw [hm0]; exact IntWalk.wrap64_in _ ⟨by omega, by omega⟩
        have h0 : (every == 0) = false := by simp; omega
        have h0' : every ≠ 0 := by omega
        by_cases h4 : (k : Int) % every = 0
        · have t4 : IntKind.i64.wrap ((k : Int) - m) = 0 := by rw [← hke, h4]; rfl
          have HM : Hid (d * every = m ∧ (k : Int).tdiv every = d) := ⟨hm0, hd0⟩
          have HK : Hid (keptB last every pins hd k = true) := keptB_yes (.inr (.inl ⟨h3, h4⟩))
          by_cases h1 : (hd : Int) - k < last
          · skip
            go_wp2_with fail
            go_quiet (fail)
            rename Nat => nq
            have hbq : Below wr.heap.size wr (wr.drewN nq) := below_drewN (Below.refl _ _) _
            have HBQ : Hid (Below w.heap.size w (wr.drewN nq)) := HB2.out.trans (hbq.mono HB2.out.size)
            have HOQ : Hid ((wr.drewN nq).ownsRow (w.heap.size + 1) 3 1 (.slice ao (keptN last every pins hd k).length ca) (keptN last every pins hd k).length ((keptN last every pins hd k).map intV)) := own_below HO.out hbq
            have HXQ : Hid (PBox (wr.drewN nq) w.heap.size last every (.slice a pins.length c)) := HXr.out.below hbq
            have HVQ : Hid (IzAt (wr.drewN nq) (wr.drewN nq).heap.size a pins c) := HVr.out.here hbq (Nat.le_refl _)
            have hzq : w.heap.size + 1 ≤ (wr.drewN nq).heap.size := by have := hbq.size; omega
            clear hbq x0 x1 x2 x3
            generalize wr.drewN nq = wq at HBQ HOQ HXQ HVQ hzq ⊢
            obtain ⟨x0, x1, x2, x3⟩ := HXQ.out
            have hAs := own_alloc HOQ.out (.cells #[.int .i64 k] 3)
            go_wp2_with (at_builtin; refine wpList_append_own _ rfl _ _ 22 rfl (w.heap.size + 1) 3 ip _ 1 8 Try.underlying22 hip hp0 hp1 hp2 rfl (by decide) _ _ _ rfl hAs ⟨wq.heap.size, 0, none⟩ 1 1 [.int .i64 k] rfl rfl (cell_one_new _ _ _) (by simp [Value.oneCell']) ?c3 ?c4 ?c5 ?_)
            case c3 => unfold maxLen; omega
            case c4 => omega
            case c5 => first | omega | (simp; omega)
            intro v' w3 hown2 hgrow _
            have HB4 : Hid (Below (w.heap.size + 1) wq w3) := below_own ((Below.refl _ wq).alloc (by omega) _) hAs hgrow (by simp; omega)
            have HB5 : Hid (Below w.heap.size w w3) := HBQ.out.trans (HB4.out.mono (by omega))
            have HX3 : Hid (PBox w3 w.heap.size last every (.slice a pins.length c)) := pbox_up HXQ.out HB4.out (by omega)
            have HO3 : Hid (w3.ownsRow (w.heap.size + 1) 3 1 v' (keptN last every pins hd k ++ [k]).length ((keptN last every pins hd k ++ [k]).map intV)) := by
              show World.ownsRow _ _ _ _ _ _ _
              rw [List.length_append, List.map_append]; exact hown2
            clear hown2 hgrow hAs x0 x1 x2 x3
            go_wp2_with fail
            go_roundw
            case rel =>
              refine ⟨k + 1, by omega, by go_num, ?_, HX3.out, HB5.out⟩
              have h := HF.out
              rw [HK.out, if_pos rfl] at h
              rw [h]; exact HO3.out
            case measure => simp [intOf]; omega
          · skip
            go_wp2_with fail
            go_quiet (fail)
            rename Nat => nq
            have hbq : Below wr.heap.size wr (wr.drewN nq) := below_drewN (Below.refl _ _) _
            have HBQ : Hid (Below w.heap.size w (wr.drewN nq)) := HB2.out.trans (hbq.mono HB2.out.size)
            have HOQ : Hid ((wr.drewN nq).ownsRow (w.heap.size + 1) 3 1 (.slice ao (keptN last every pins hd k).length ca) (keptN last every pins hd k).length ((keptN last every pins hd k).map intV)) := own_below HO.out hbq
            have HXQ : Hid (PBox (wr.drewN nq) w.heap.size last every (.slice a pins.length c)) := HXr.out.below hbq
            have HVQ : Hid (IzAt (wr.drewN nq) (wr.drewN nq).heap.size a pins c) := HVr.out.here hbq (Nat.le_refl _)
            have hzq : w.heap.size + 1 ≤ (wr.drewN nq).heap.size := by have := hbq.size; omega
            clear hbq x0 x1 x2 x3
            generalize wr.drewN nq = wq at HBQ HOQ HXQ HVQ hzq ⊢
            obtain ⟨x0, x1, x2, x3⟩ := HXQ.out
            have hAs := own_alloc HOQ.out (.cells #[.int .i64 k] 3)
            go_wp2_with (at_builtin; refine wpList_append_own _ rfl _ _ 22 rfl (w.heap.size + 1) 3 ip _ 1 8 Try.underlying22 hip hp0 hp1 hp2 rfl (by decide) _ _ _ rfl hAs ⟨wq.heap.size, 0, none⟩ 1 1 [.int .i64 k] rfl rfl (cell_one_new _ _ _) (by simp [Value.oneCell']) ?c3 ?c4 ?c5 ?_)
            case c3 => unfold maxLen; omega
            case c4 => omega
            case c5 => first | omega | (simp; omega)
            intro v' w3 hown2 hgrow _
            have HB4 : Hid (Below (w.heap.size + 1) wq w3) := below_own ((Below.refl _ wq).alloc (by omega) _) hAs hgrow (by simp; omega)
            have HB5 : Hid (Below w.heap.size w w3) := HBQ.out.trans (HB4.out.mono (by omega))
            have HX3 : Hid (PBox w3 w.heap.size last every (.slice a pins.length c)) := pbox_up HXQ.out HB4.out (by omega)
            have HO3 : Hid (w3.ownsRow (w.heap.size + 1) 3 1 v' (keptN last every pins hd k ++ [k]).length ((keptN last every pins hd k ++ [k]).map intV)) := by
              show World.ownsRow _ _ _ _ _ _ _
              rw [List.length_append, List.map_append]; exact hown2
            clear hown2 hgrow hAs x0 x1 x2 x3
            go_wp2_with fail
            go_roundw
            case rel =>
              refine ⟨k + 1, by omega, by go_num, ?_, HX3.out, HB5.out⟩
              have h := HF.out
              rw [HK.out, if_pos rfl] at h
              rw [h]; exact HO3.out
            case measure => simp [intOf]; omega
        · obtain ⟨s, hs⟩ : ∃ s : Int, (k : Int) - m = s := ⟨_, rfl⟩
          have t4 : IntKind.i64.wrap ((k : Int) - m) = s := by rw [hs]; exact (IntWalk.i64_in _ ⟨by omega, by omega⟩)
          have t5 : (s == 0) = false := by simp; omega
          have HN4 : Hid (¬ (k : Int) % every = 0) := h4
          by_cases h1 : (hd : Int) - k < last
          · have HK : Hid (keptB last every pins hd k = true) := keptB_yes (.inl h1)
            go_wp2_with fail
            go_quiet (fail)
            rename Nat => nq
            have hbq : Below wr.heap.size wr (wr.drewN nq) := below_drewN (Below.refl _ _) _
            have HBQ : Hid (Below w.heap.size w (wr.drewN nq)) := HB2.out.trans (hbq.mono HB2.out.size)
            have HOQ : Hid ((wr.drewN nq).ownsRow (w.heap.size + 1) 3 1 (.slice ao (keptN last every pins hd k).length ca) (keptN last every pins hd k).length ((keptN last every pins hd k).map intV)) := own_below HO.out hbq
            have HXQ : Hid (PBox (wr.drewN nq) w.heap.size last every (.slice a pins.length c)) := HXr.out.below hbq
            have HVQ : Hid (IzAt (wr.drewN nq) (wr.drewN nq).heap.size a pins c) := HVr.out.here hbq (Nat.le_refl _)
            have hzq : w.heap.size + 1 ≤ (wr.drewN nq).heap.size := by have := hbq.size; omega
            clear hbq x0 x1 x2 x3
            generalize wr.drewN nq = wq at HBQ HOQ HXQ HVQ hzq ⊢
            obtain ⟨x0, x1, x2, x3⟩ := HXQ.out
            have hAs := own_alloc HOQ.out (.cells #[.int .i64 k] 3)
            go_wp2_with (at_builtin; refine wpList_append_own _ rfl _ _ 22 rfl (w.heap.size + 1) 3 ip _ 1 8 Try.underlying22 hip hp0 hp1 hp2 rfl (by decide) _ _ _ rfl hAs ⟨wq.heap.size, 0, none⟩ 1 1 [.int .i64 k] rfl rfl (cell_one_new _ _ _) (by simp [Value.oneCell']) ?c3 ?c4 ?c5 ?_)
            case c3 => unfold maxLen; omega
            case c4 => omega
            case c5 => first | omega | (simp; omega)
            intro v' w3 hown2 hgrow _
            have HB4 : Hid (Below (w.heap.size + 1) wq w3) := below_own ((Below.refl _ wq).alloc (by omega) _) hAs hgrow (by simp; omega)
            have HB5 : Hid (Below w.heap.size w w3) := HBQ.out.trans (HB4.out.mono (by omega))
            have HX3 : Hid (PBox w3 w.heap.size last every (.slice a pins.length c)) := pbox_up HXQ.out HB4.out (by omega)
            have HO3 : Hid (w3.ownsRow (w.heap.size + 1) 3 1 v' (keptN last every pins hd k ++ [k]).length ((keptN last every pins hd k ++ [k]).map intV)) := by
              show World.ownsRow _ _ _ _ _ _ _
              rw [List.length_append, List.map_append]; exact hown2
            clear hown2 hgrow hAs x0 x1 x2 x3
            go_wp2_with fail
            go_roundw
            case rel =>
              refine ⟨k + 1, by omega, by go_num, ?_, HX3.out, HB5.out⟩
              have h := HF.out
              rw [HK.out, if_pos rfl] at h
              rw [h]; exact HO3.out
            case measure => simp [intOf]; omega
          · skip
            go_wp2_with fail
            go_quiet (fail)
            rename Nat => nq
            have hbq : Below wr.heap.size wr (wr.drewN nq) := below_drewN (Below.refl _ _) _
            have HBQ : Hid (Below w.heap.size w (wr.drewN nq)) := HB2.out.trans (hbq.mono HB2.out.size)
            have HOQ : Hid ((wr.drewN nq).ownsRow (w.heap.size + 1) 3 1 (.slice ao (keptN last every pins hd k).length ca) (keptN last every pins hd k).length ((keptN last every pins hd k).map intV)) := own_below HO.out hbq
            have HXQ : Hid (PBox (wr.drewN nq) w.heap.size last every (.slice a pins.length c)) := HXr.out.below hbq
            have HVQ : Hid (IzAt (wr.drewN nq) (wr.drewN nq).heap.size a pins c) := HVr.out.here hbq (Nat.le_refl _)
            have hzq : w.heap.size + 1 ≤ (wr.drewN nq).heap.size := by have := hbq.size; omega
            clear hbq x0 x1 x2 x3
            generalize wr.drewN nq = wq at HBQ HOQ HXQ HVQ hzq ⊢
            obtain ⟨x0, x1, x2, x3⟩ := HXQ.out
            go_wp2_with fail
            refine (CoIz_any a pins c (k : Int) _ HVQ.out).mono ?_
            rintro e wq ⟨rfl, we⟩
            subst we
            by_cases h5 : (k : Int) ∈ pins
            · rw [decide_eq_true h5]
              have HK : Hid (keptB last every pins hd k = true) := keptB_yes (.inr (.inr h5))
              clear h5
              have hAs := own_alloc HOQ.out (.cells #[.int .i64 k] 3)
              go_wp2_with (at_builtin; refine wpList_append_own _ rfl _ _ 22 rfl (w.heap.size + 1) 3 ip _ 1 8 Try.underlying22 hip hp0 hp1 hp2 rfl (by decide) _ _ _ rfl hAs ⟨wq.heap.size, 0, none⟩ 1 1 [.int .i64 k] rfl rfl (cell_one_new _ _ _) (by simp [Value.oneCell']) ?c3 ?c4 ?c5 ?_)
              case c3 => unfold maxLen; omega
              case c4 => omega
              case c5 => first | omega | (simp; omega)
              intro v' w3 hown2 hgrow _
              have HB4 : Hid (Below (w.heap.size + 1) wq w3) := below_own ((Below.refl _ wq).alloc (by omega) _) hAs hgrow (by simp; omega)
              have HB5 : Hid (Below w.heap.size w w3) := HBQ.out.trans (HB4.out.mono (by omega))
              have HX3 : Hid (PBox w3 w.heap.size last every (.slice a pins.length c)) := pbox_up HXQ.out HB4.out (by omega)
              have HO3 : Hid (w3.ownsRow (w.heap.size + 1) 3 1 v' (keptN last every pins hd k ++ [k]).length ((keptN last every pins hd k ++ [k]).map intV)) := by
                show World.ownsRow _ _ _ _ _ _ _
                rw [List.length_append, List.map_append]; exact hown2
              clear hown2 hgrow hAs x0 x1 x2 x3
              go_wp2_with fail
              go_roundw
              case rel =>
                refine ⟨k + 1, by omega, by go_num, ?_, HX3.out, HB5.out⟩
                have h := HF.out
                rw [HK.out, if_pos rfl] at h
                rw [h]; exact HO3.out
              case measure => simp [intOf]; omega
            · rw [decide_eq_false h5]
              have HK : Hid (keptB last every pins hd k = false) := keptB_no (by rintro (h | h | h); omega; exact HN4.out h.2; exact h5 h)
              clear h5
              clear x0 x1 x2 x3
              go_wp2_with fail
              go_roundw
              case rel =>
                refine ⟨k + 1, by omega, by go_num, ?_, HXQ.out, HBQ.out⟩
                have h := HF.out
                rw [HK.out, if_neg (by simp), List.append_nil] at h
                rw [h]; exact HOQ.out
              case measure => simp [intOf]; omega
      · have q3 : decide (0 < every) = false := decide_eq_false h3
        by_cases h1 : (hd : Int) - k < last
        · have HK : Hid (keptB last every pins hd k = true) := keptB_yes (.inl h1)
          go_wp2_with fail
          go_quiet (fail)
          rename Nat => nq
          have hbq : Below wr.heap.size wr (wr.drewN nq) := below_drewN (Below.refl _ _) _
          have HBQ : Hid (Below w.heap.size w (wr.drewN nq)) := HB2.out.trans (hbq.mono HB2.out.size)
          have HOQ : Hid ((wr.drewN nq).ownsRow (w.heap.size + 1) 3 1 (.slice ao (keptN last every pins hd k).length ca) (keptN last every pins hd k).length ((keptN last every pins hd k).map intV)) := own_below HO.out hbq
          have HXQ : Hid (PBox (wr.drewN nq) w.heap.size last every (.slice a pins.length c)) := HXr.out.below hbq
          have HVQ : Hid (IzAt (wr.drewN nq) (wr.drewN nq).heap.size a pins c) := HVr.out.here hbq (Nat.le_refl _)
          have hzq : w.heap.size + 1 ≤ (wr.drewN nq).heap.size := by have := hbq.size; omega
          clear hbq x0 x1 x2 x3
          generalize wr.drewN nq = wq at HBQ HOQ HXQ HVQ hzq ⊢
          obtain ⟨x0, x1, x2, x3⟩ := HXQ.out
          have hAs := own_alloc HOQ.out (.cells #[.int .i64 k] 3)
          go_wp2_with (at_builtin; refine wpList_append_own _ rfl _ _ 22 rfl (w.heap.size + 1) 3 ip _ 1 8 Try.underlying22 hip hp0 hp1 hp2 rfl (by decide) _ _ _ rfl hAs ⟨wq.heap.size, 0, none⟩ 1 1 [.int .i64 k] rfl rfl (cell_one_new _ _ _) (by simp [Value.oneCell']) ?c3 ?c4 ?c5 ?_)
          case c3 => unfold maxLen; omega
          case c4 => omega
          case c5 => first | omega | (simp; omega)
          intro v' w3 hown2 hgrow _
          have HB4 : Hid (Below (w.heap.size + 1) wq w3) := below_own ((Below.refl _ wq).alloc (by omega) _) hAs hgrow (by simp; omega)
          have HB5 : Hid (Below w.heap.size w w3) := HBQ.out.trans (HB4.out.mono (by omega))
          have HX3 : Hid (PBox w3 w.heap.size last every (.slice a pins.length c)) := pbox_up HXQ.out HB4.out (by omega)
          have HO3 : Hid (w3.ownsRow (w.heap.size + 1) 3 1 v' (keptN last every pins hd k ++ [k]).length ((keptN last every pins hd k ++ [k]).map intV)) := by
            show World.ownsRow _ _ _ _ _ _ _
            rw [List.length_append, List.map_append]; exact hown2
          clear hown2 hgrow hAs x0 x1 x2 x3
          go_wp2_with fail
          go_roundw
          case rel =>
            refine ⟨k + 1, by omega, by go_num, ?_, HX3.out, HB5.out⟩
            have h := HF.out
            rw [HK.out, if_pos rfl] at h
            rw [h]; exact HO3.out
          case measure => simp [intOf]; omega
        · skip
          go_wp2_with fail
          go_quiet (fail)
          rename Nat => nq
          have hbq : Below wr.heap.size wr (wr.drewN nq) := below_drewN (Below.refl _ _) _
          have HBQ : Hid (Below w.heap.size w (wr.drewN nq)) := HB2.out.trans (hbq.mono HB2.out.size)
          have HOQ : Hid ((wr.drewN nq).ownsRow (w.heap.size + 1) 3 1 (.slice ao (keptN last every pins hd k).length ca) (keptN last every pins hd k).length ((keptN last every pins hd k).map intV)) := own_below HO.out hbq
          have HXQ : Hid (PBox (wr.drewN nq) w.heap.size last every (.slice a pins.length c)) := HXr.out.below hbq
          have HVQ : Hid (IzAt (wr.drewN nq) (wr.drewN nq).heap.size a pins c) := HVr.out.here hbq (Nat.le_refl _)
          have hzq : w.heap.size + 1 ≤ (wr.drewN nq).heap.size := by have := hbq.size; omega
          clear hbq x0 x1 x2 x3
          generalize wr.drewN nq = wq at HBQ HOQ HXQ HVQ hzq ⊢
          obtain ⟨x0, x1, x2, x3⟩ := HXQ.out
          go_wp2_with fail
          refine (CoIz_any a pins c (k : Int) _ HVQ.out).mono ?_
          rintro e wq ⟨rfl, we⟩
          subst we
          by_cases h5 : (k : Int) ∈ pins
          · rw [decide_eq_true h5]
            have HK : Hid (keptB last every pins hd k = true) := keptB_yes (.inr (.inr h5))
            clear h5
            have hAs := own_alloc HOQ.out (.cells #[.int .i64 k] 3)
            go_wp2_with (at_builtin; refine wpList_append_own _ rfl _ _ 22 rfl (w.heap.size + 1) 3 ip _ 1 8 Try.underlying22 hip hp0 hp1 hp2 rfl (by decide) _ _ _ rfl hAs ⟨wq.heap.size, 0, none⟩ 1 1 [.int .i64 k] rfl rfl (cell_one_new _ _ _) (by simp [Value.oneCell']) ?c3 ?c4 ?c5 ?_)
            case c3 => unfold maxLen; omega
            case c4 => omega
            case c5 => first | omega | (simp; omega)
            intro v' w3 hown2 hgrow _
            have HB4 : Hid (Below (w.heap.size + 1) wq w3) := below_own ((Below.refl _ wq).alloc (by omega) _) hAs hgrow (by simp; omega)
            have HB5 : Hid (Below w.heap.size w w3) := HBQ.out.trans (HB4.out.mono (by omega))
            have HX3 : Hid (PBox w3 w.heap.size last every (.slice a pins.length c)) := pbox_up HXQ.out HB4.out (by omega)
            have HO3 : Hid (w3.ownsRow (w.heap.size + 1) 3 1 v' (keptN last every pins hd k ++ [k]).length ((keptN last every pins hd k ++ [k]).map intV)) := by
              show World.ownsRow _ _ _ _ _ _ _
              rw [List.length_append, List.map_append]; exact hown2
            clear hown2 hgrow hAs x0 x1 x2 x3
            go_wp2_with fail
            go_roundw
            case rel =>
              refine ⟨k + 1, by omega, by go_num, ?_, HX3.out, HB5.out⟩
              have h := HF.out
              rw [HK.out, if_pos rfl] at h
              rw [h]; exact HO3.out
            case measure => simp [intOf]; omega
          · rw [decide_eq_false h5]
            have HK : Hid (keptB last every pins hd k = false) := keptB_no (by rintro (h | h | h); omega; exact absurd h.1 (by omega); exact h5 h)
            clear h5
            clear x0 x1 x2 x3
            go_wp2_with fail
            go_roundw
            case rel =>
              refine ⟨k + 1, by omega, by go_num, ?_, HXQ.out, HBQ.out⟩
              have h := HF.out
              rw [HK.out, if_neg (by simp), List.append_nil] at h
              rw [h]; exact HOQ.out
            case measure => simp [intOf]; omega
    · obtain rfl : k = hd + 1 := by omega
      have hki : ¬ ((hd + 1 : Nat) : Int) ≤ (hd : Int) := by omega
      obtain ⟨a1, c1, e1, hn⟩ := nats_own hown
      simp only [Value.slice.injEq, true_and] at e1
      obtain ⟨rfl, rfl⟩ := e1
      have HO : Hid (NatsAt wr wr.heap.size ao (keptL last every pins hd) ca ∧ Below w.heap.size w wr) := ⟨hn, hb⟩
      clear hown hb hn hbx
      go_wp2_with fail
      go_ret
      exact ⟨ao, ca, rfl, HO.out.1, HO.out.2⟩
end Go.Proofs.Ytinhidddfpjjkaa
