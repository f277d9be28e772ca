/- The program's Check, kept, Of and Floor: which revisions are kept. -/
import Derived.Test.YtcghojnmnmmpoaaPolMem
import Derived.Test.YtcghojnmnmmpoaaKeepL
import Derived.Test.YtcghojnmnmmpoaaInts
namespace Go.Proofs.Ytcghojnmnmmpoaa
open Go.RowKit
set_option linter.unusedSimpArgs false
set_option linter.unusedVariables false

abbrev polV (last every : Int) (a : Option Addr) (n c : Nat) : Value := .agg #[.int .i64 last, .int .i64 every, .slice a n c]
theorem polE_not {last every : Int} {pins : List Int} (h : last < 1 ∨ every < 0 ∨ 2147483647 < last ∨ 2147483647 < every) : polE last every pins = 1 := by rw [polE, if_pos h]
theorem polE_pins {last every : Int} {pins : List Int} (h : ¬ (last < 1 ∨ every < 0 ∨ 2147483647 < last ∨ 2147483647 < every)) : polE last every pins = if 16 < pins.length then 2 else if ∃ r ∈ pins, r < 0 ∨ 2147483647 < r then 1 else 0 := by rw [polE, if_neg h]
theorem out_pin {pins : List Int} {k : Nat} {q : Int} (h : pins[k]? = some q) (hq : q < 0 ∨ 2147483647 < q) : ∃ r ∈ pins, r < 0 ∨ 2147483647 < r := ⟨q, List.mem_of_getElem? h, hq⟩
theorem in_pins {pins : List Int} {k : Nat} {q : Int} (h : pins[k]? = some q) (h0 : ∀ r ∈ pins.take k, 0 ≤ r ∧ r ≤ 2147483647) (hq : 0 ≤ q ∧ q ≤ 2147483647) : ∀ r ∈ pins.take (k + 1), 0 ≤ r ∧ r ≤ 2147483647 := by
  intro r hr
  obtain ⟨hi, e⟩ := List.getElem?_eq_some_iff.1 h
  rw [List.take_succ_eq_append_getElem hi, e, List.mem_append] at hr
  rcases hr with hr | hr
  · exact h0 r hr
  · obtain rfl : r = q := by simpa using hr
    exact hq
theorem all_pins {pins : List Int} (h0 : ∀ r ∈ pins, 0 ≤ r ∧ r ≤ 2147483647) : ¬ ∃ r ∈ pins, r < 0 ∨ 2147483647 < r := by
  rintro ⟨r, hr, h⟩
  have := h0 r hr
  omega
set_option maxHeartbeats 2000000 in
theorem PolCheck_any (last every : Int) (a : Option Addr) (pins : List Int) (c : Nat) (w : World) (hv : IzAt w w.heap.size a pins c) :
    Calls Try.prog 66 #[polV last every a pins.length c] w fun e w' => e = .returned (.int .i64 (polE last every pins)) ∧ Below w.heap.size w w' := by
  have hl : pins.length ≤ 9223372036854775807 := Nat.le_trans hv.1 hv.2.1
  obtain ⟨w0, hw0⟩ : ∃ w0, w0 = w.alloc (.cells #[.int .i64 last, .int .i64 every, .slice a pins.length c] 59) := ⟨_, rfl⟩
  have HB : Hid (Below w.heap.size w w0) := by subst hw0; exact (Below.refl _ _).alloc (Nat.le_refl _) _
  have HV : Hid (IzAt w0 w.heap.size a pins c) := hv.below HB.out (Nat.le_refl _)
  have hbox : PBox w0 w.heap.size last every (.slice a pins.length c) := by subst hw0; exact pbox_new _ _ _ _
  obtain ⟨x0, x1, x2, x3⟩ := hbox
  clear hv
  subst hw0
  go_enter Try.func66, Try.ntmps66
  by_cases hbad : last < 1 ∨ every < 0 ∨ 2147483647 < last ∨ 2147483647 < every
  · have HE : Hid (polE last every pins = 1) := polE_not hbad
    by_cases h1 : last < 1
    · clear hbad
      go_wp2_with fail
      go_ret
      exact ⟨by rw [HE.out]; rfl, HB.out⟩
    · by_cases h2 : 2147483647 < last
      · clear hbad
        go_wp2_with fail
        go_ret
        exact ⟨by rw [HE.out]; rfl, HB.out⟩
      · by_cases h3 : every < 0
        · clear hbad
          go_wp2_with fail
          go_ret
          exact ⟨by rw [HE.out]; rfl, HB.out⟩
        · have h4 : 2147483647 < every := by omega
          clear hbad
          go_wp2_with fail
          go_ret
          exact ⟨by rw [HE.out]; rfl, HB.out⟩
  · have h1 : ¬ last < 1 := by omega
    have h2 : ¬ 2147483647 < last := by omega
    have h3 : ¬ every < 0 := by omega
    have h4 : ¬ 2147483647 < every := by omega
    have HE : Hid _ := polE_pins (pins := pins) hbad
    clear hbad
    by_cases h5 : 16 < pins.length
    · have h5i : (16 : Int) < (pins.length : Int) := by omega
      have HE2 : Hid (polE last every pins = 2) := by have h := HE.out; rw [if_pos h5] at h; exact h
      clear HE
      go_wp2_with fail
      go_ret
      exact ⟨by rw [HE2.out]; rfl, HB.out⟩
    · have h5i : ¬ (16 : Int) < (pins.length : Int) := by omega
      have HE2 : Hid (polE last every pins = if ∃ r ∈ pins, r < 0 ∨ 2147483647 < r then 1 else 0) := by have h := HE.out; rw [if_neg h5] at h; exact h
      clear HE
      go_wp2_with fail
      go_loopw [30] (fun i wr => ∃ k : Nat, k ≤ pins.length ∧ i = .int .i64 k ∧ (∀ r ∈ pins.take k, 0 ≤ r ∧ r ≤ 2147483647) ∧ wr = w.alloc (.cells #[.int .i64 last, .int .i64 every, .slice a pins.length c] 59)) (fun i _ => pins.length - (intOf i).toNat)
      case atStart => exact ⟨0, Nat.zero_le _, rfl, by simp, rfl⟩
      case round =>
        obtain ⟨k, hk, rfl, hn, rfl⟩ := hrel
        by_cases hlt : k < pins.length
        · obtain ⟨q, hq⟩ : ∃ q, pins[k]? = some q := ⟨pins[k], List.getElem?_eq_getElem hlt⟩
          have hki : (k : Int) < (pins.length : Int) := by omega
          obtain ⟨g, og, e1, hg, y1⟩ := HV.out.mem hq
          subst e1
          have HY : Hid (pins[k]? = some q ∧ ∀ r ∈ pins.take k, 0 ≤ r ∧ r ≤ 2147483647) := ⟨hq, hn⟩
          clear hq hn
          by_cases g1 : q < 0
          · have HN : Hid (polE last every pins = 1) := by show _ = _; rw [HE2.out, if_pos (out_pin HY.out.1 (.inl g1))]
            go_wp2_with fail
            go_ret
            exact ⟨by rw [HN.out]; rfl, HB.out⟩
          · by_cases g2 : 2147483647 < q
            · have HN : Hid (polE last every pins = 1) := by show _ = _; rw [HE2.out, if_pos (out_pin HY.out.1 (.inr g2))]
              go_wp2_with fail
              go_ret
              exact ⟨by rw [HN.out]; rfl, HB.out⟩
            · go_wp2_with fail
              go_roundw
              case rel => exact ⟨k + 1, by omega, by go_num, in_pins HY.out.1 HY.out.2 (by omega), by first | rfl | trivial⟩
              case measure => simp [intOf]; omega
        · have HN : Hid (polE last every pins = 0) := by
            rw [List.take_of_length_le (by omega)] at hn
            show _ = _
            rw [HE2.out, if_neg (all_pins hn)]
          clear hn
          go_wp2_with fail
          go_ret
          exact ⟨by rw [HN.out]; rfl, HB.out⟩

theorem keptB_yes {last every : Int} {pins : List Int} {head r : Nat} (h : (head : Int) - r < last ∨ (0 < every ∧ (r : Int) % every = 0) ∨ (r : Int) ∈ pins) : keptB last every pins head r = true := keptB_iff.2 h
theorem keptB_no {last every : Int} {pins : List Int} {head r : Nat} (h : ¬ ((head : Int) - r < last ∨ (0 < every ∧ (r : Int) % every = 0) ∨ (r : Int) ∈ pins)) : keptB last every pins head r = false := by
  cases e : keptB last every pins head r
  · rfl
  · exact absurd (keptB_iff.1 e) h
set_option maxHeartbeats 2000000 in
theorem kept_any (last every : Int) (a : Option Addr) (pins : List Int) (c head r : Nat) (w : World) (hv : IzAt w w.heap.size a pins c) (hl0 : 1 ≤ last) (hl1 : last ≤ 2147483647) (hr : r ≤ head) (hh : head ≤ 640) (he1 : every ≤ 2147483647) :
    Calls Try.prog 67 #[polV last every a pins.length c, .int .i64 (head : Int), .int .i64 (r : Int)] w fun e w' => e = .returned (.bool (keptB last every pins head r)) ∧ Below w.heap.size w w' := by
  obtain ⟨w0, hw0⟩ : ∃ w0, w0 = w.alloc (.cells #[.int .i64 last, .int .i64 every, .slice a pins.length c] 59) := ⟨_, rfl⟩
  have HB : Hid (Below w.heap.size w w0) := by subst hw0; exact (Below.refl _ _).alloc (Nat.le_refl _) _
  have HV : Hid (IzAt w0 w0.heap.size a pins c) := hv.here HB.out (Nat.le_refl _)
  have hbox : PBox w0 w.heap.size last every (.slice a pins.length c) := by subst hw0; exact pbox_new _ _ _ _
  obtain ⟨x0, x1, x2, x3⟩ := hbox
  clear hv
  subst hw0
  go_enter Try.func67, Try.ntmps67
  by_cases h1 : (head : Int) - last < (r : Int)
  · have HK : Hid (keptB last every pins head r = true) := keptB_yes (.inl (by omega))
    go_wp2_with fail
    go_ret
    exact ⟨by rw [HK.out]; rfl, HB.out⟩
  · go_wp2_with fail
    refine (CoIz_any a pins c (r : Int) _ HV.out).mono ?_
    rintro e w1 ⟨rfl, we⟩
    subst we
    by_cases h2 : (r : Int) ∈ pins
    · have HK : Hid (keptB last every pins head r = true) := keptB_yes (.inr (.inr h2))
      rw [decide_eq_true h2]
      clear h2
      go_wp2_with fail
      go_ret
      exact ⟨by rw [HK.out]; rfl, HB.out⟩
    · rw [decide_eq_false h2]
      have HN : Hid (¬ (r : Int) ∈ pins) := h2
      clear h2
      by_cases h3 : 0 < every
      · have ht : (r : Int).tmod every = (r : Int) % every := Int.tmod_eq_emod_of_nonneg (by omega)
        have h0 : (every == 0) = false := by simp; omega
        have h0' : every ≠ 0 := by omega
        by_cases h4 : (r : Int) % every = 0
        · have HK : Hid (keptB last every pins head r = true) := keptB_yes (.inr (.inl ⟨h3, h4⟩))
          go_wp2_with fail
          go_ret
          exact ⟨by rw [HK.out]; simp [ht, h4], HB.out⟩
        · have HK : Hid (keptB last every pins head r = false) := keptB_no (by have := HN.out; rintro (h | h | h); omega; exact h4 h.2; exact this h)
          go_wp2_with fail
          go_ret
          exact ⟨by rw [HK.out]; simp [ht, h4], HB.out⟩
      · have HK : Hid (keptB last every pins head r = false) := keptB_no (by have := HN.out; rintro (h | h | h); omega; exact h3 h.1; exact this h)
        go_wp2_with fail
        go_ret
        exact ⟨by rw [HK.out]; rfl, HB.out⟩
/-- the error of Of -/
def keepE (last every : Int) (pins : List Int) (head : Int) : Int := if polE last every pins = 0 then (if 0 ≤ head ∧ head ≤ 640 then 0 else 1) else polE last every pins
def polL (last every : Int) (pins : List Int) (head : Int) : List Nat := if keepE last every pins head = 0 then keptL last every pins head.toNat else []
theorem keepE_ok {last every : Int} {pins : List Int} {head : Int} (h : polE last every pins = 0) (h1 : 0 ≤ head) (h2 : head ≤ 640) : keepE last every pins head = 0 := by rw [keepE, if_pos h, if_pos ⟨h1, h2⟩]
theorem polL_ok {last every : Int} {pins : List Int} {head : Int} (h : polE last every pins = 0) (h1 : 0 ≤ head) (h2 : head ≤ 640) : polL last every pins head = keptL last every pins head.toNat := by rw [polL, if_pos (keepE_ok h h1 h2)]
theorem keepE_not {last every : Int} {pins : List Int} {head : Int} (h : polE last every pins ≠ 0) : keepE last every pins head = polE last every pins := by rw [keepE, if_neg h]
theorem keepE_out {last every : Int} {pins : List Int} {head : Int} (h : polE last every pins = 0) (h1 : ¬ (0 ≤ head ∧ head ≤ 640)) : keepE last every pins head = 1 := by rw [keepE, if_pos h, if_neg h1]
theorem polL_not {last every : Int} {pins : List Int} {head : Int} (h : keepE last every pins head ≠ 0) : polL last every pins head = [] := by rw [polL, if_neg h]
theorem keepE_zero {last every : Int} {pins : List Int} {head : Int} (h : keepE last every pins head = 0) : polE last every pins = 0 ∧ 0 ≤ head ∧ head ≤ 640 := by
  by_cases h1 : polE last every pins = 0
  · by_cases h2 : 0 ≤ head ∧ head ≤ 640
    · exact ⟨h1, h2⟩
    · rw [keepE_out h1 h2] at h; omega
  · rw [keepE_not h1] at h; exact absurd h h1
theorem own_low1 {w : World} {B B' n size : Nat} {e : TypeId} {v : Value} {xs : List Value} (h : w.ownsRow B e size v n xs) (hB : B' ≤ B) : w.ownsRow B' e size v n xs := by
  rcases h.2 with ⟨h1, h2⟩ | ⟨g, cap', cur, h1, h2, h3⟩
  · exact ⟨h.1, .inl ⟨h1, h2⟩⟩
  · exact ⟨h.1, .inr ⟨g, cap', cur, h1, Nat.le_trans hB h2, h3⟩⟩
set_option maxRecDepth 20000 in
set_option maxHeartbeats 4000000 in
theorem KeepOf_own (last every : Int) (a : Option Addr) (pins : List Int) (c : Nat) (head : Int) (w : World) (hv : IzAt w w.heap.size a pins c) :
    Calls Try.prog 27 #[polV last every a pins.length c, .int .i64 head] w fun e w' => ∃ ao co, e = .returned (.tuple #[.slice ao (polL last every pins head).length co, .int .i64 (keepE last every pins head)]) ∧ NatsAt w' w'.heap.size ao (polL last every pins head) co ∧ w'.ownsRow w.heap.size 3 1 (.slice ao (polL last every pins head).length co) (polL last every pins head).length ((polL last every pins head).map intV) ∧ Below w.heap.size w w' := by
  obtain ⟨ip, hip, hp0, hp1, hp2⟩ := info_parts infoInt
  obtain ⟨w0, hw0⟩ : ∃ w0, w0 = w.alloc (.cells #[.int .i64 last, .int .i64 every, .slice a pins.length c] 59) := ⟨_, rfl⟩
  have HB : Hid (Below w.heap.size w w0) := by subst hw0; exact (Below.refl _ _).alloc (Nat.le_refl _) _
  have HV0 : Hid (IzAt w w.heap.size a pins c) := hv
  have HV : Hid (IzAt w0 w0.heap.size a pins c) := hv.here HB.out (Nat.le_refl _)
  have hbox : PBox w0 w.heap.size last every (.slice a pins.length c) := by subst hw0; exact pbox_new _ _ _ _
  have HX : Hid (PBox w0 w.heap.size last every (.slice a pins.length c)) := hbox
  have hsz : w0.heap.size = w.heap.size + 1 := by subst hw0; exact Deep.nblk_alloc _ _
  have HSZ : Hid (w0.heap.size = w.heap.size + 1) := hsz
  obtain ⟨x0, x1, x2, x3⟩ := hbox
  clear hv hsz
  subst hw0
  go_enter Try.func27, Try.ntmps27
  go_wp2_with fail
  refine (PolCheck_any last every a pins c _ HV.out).mono ?_
  rintro e w1 ⟨rfl, hb1⟩
  have HB1 : Hid (Below w.heap.size w w1) := HB.out.trans (hb1.mono HB.out.size)
  have HX1 : Hid (PBox w1 w.heap.size last every (.slice a pins.length c)) := HX.out.below hb1
  clear hb1 x0 x1 x2 x3
  by_cases hz : polE last every pins = 0
  · have hz' : (polE last every pins != 0) = false := by simp [hz]
    have HZ : Hid (polE last every pins = 0) := hz
    obtain ⟨hl0, hE0, hl1, hE1, hpl, _⟩ := pol_zero hz
    clear hz
    by_cases hr : 0 ≤ head ∧ head ≤ 640
    · obtain ⟨hd, rfl⟩ : ∃ hd : Nat, head = (hd : Int) := ⟨head.toNat, by omega⟩
      have hh : hd ≤ 640 := by omega
      have HE : Hid (keepE last every pins hd = 0 ∧ polL last every pins hd = keptN last every pins hd (hd + 1)) := ⟨keepE_ok HZ.out hr.1 hr.2, by rw [polL_ok HZ.out hr.1 hr.2]; rfl⟩
      have g1 : ¬ (hd : Int) < 0 := by omega
      have g2 : ¬ (640 : Int) < (hd : Int) := by omega
      clear hr
      go_wp2_with fail
      go_loopw [7, 22] (fun v i wr => ∃ (k : Nat), k ≤ hd + 1 ∧ i = .int .i64 k ∧ wr.ownsRow (w.heap.size + 1) 3 1 v (keptN last every pins hd k).length ((keptN last every pins hd k).map intV) ∧ PBox wr w.heap.size last every (.slice a pins.length c) ∧ Below w.heap.size w wr) (fun _ i _ => hd + 1 - (intOf i).toNat)
      case atStart => exact ⟨0, Nat.zero_le _, rfl, World.ownsRow_nil _ _ _ _, HX1.out, HB1.out⟩
      case round =>
        rename World => wr
        obtain ⟨k, hk, rfl, hown, hbx, hb⟩ := hrel
        obtain ⟨ao, ca, rfl⟩ := slice_form hown
        have hz := hb.size
        have hgl := hbx.2.2.2
        by_cases hlt : k < hd + 1
        · have hki : (k : Int) < (hd : Int) + 1 := by omega
          have hfl := keptN_len last every pins hd k
          have HB2 : Hid (Below w.heap.size w wr) := hb
          have HO : Hid (wr.ownsRow (w.heap.size + 1) 3 1 (.slice ao (keptN last every pins hd k).length ca) (keptN last every pins hd k).length ((keptN last every pins hd k).map intV)) := hown
          have HXr : Hid (PBox wr w.heap.size last every (.slice a pins.length c)) := hbx
          have HF : Hid _ := keptN_snoc last every pins hd k
          have HVr : Hid (IzAt wr wr.heap.size a pins c) := HV0.out.here hb (Nat.le_refl _)
          obtain ⟨x0, x1, x2, x3⟩ := hbx
          clear hb hown
          go_wp2_with fail
          refine (kept_any last every a pins c hd k _ HVr.out hl0 hl1 (by omega) hh hE1).mono ?_
          rintro e w2 ⟨rfl, hb2⟩
          have HB3 : Hid (Below w.heap.size w w2) := HB2.out.trans (hb2.mono HB2.out.size)
          have HO2 : Hid (w2.ownsRow (w.heap.size + 1) 3 1 (.slice ao (keptN last every pins hd k).length ca) (keptN last every pins hd k).length ((keptN last every pins hd k).map intV)) := own_below HO.out hb2
          have HX2 : Hid (PBox w2 w.heap.size last every (.slice a pins.length c)) := HXr.out.below hb2
          have hz2 := hb2.size
          clear hb2 x0 x1 x2 x3
          cases hkb : keptB last every pins hd k
          · have HH : Hid _ := hkb
            clear hkb
            go_wp2_with fail
            go_roundw
            case rel =>
              refine ⟨k + 1, by omega, by go_num, ?_, HX2.out, HB3.out⟩
              have h := HF.out
              rw [HH.out, if_neg (by simp), List.append_nil] at h
              rw [h]; exact HO2.out
            case measure => simp [intOf]; omega
          · have HH : Hid _ := hkb
            have hAs := own_alloc HO2.out (.cells #[.int .i64 k] 3)
            clear hkb
            go_wp2_with (at_builtin; refine wpList_append_own _ rfl _ _ 57 rfl (w.heap.size + 1) 3 ip _ 1 8 Try.underlying57 hip hp0 hp1 hp2 rfl (by decide) _ _ _ rfl hAs ⟨w2.heap.size, 0, none⟩ 1 1 [.int .i64 k] rfl rfl (cell_one_new _ _ _) (by simp [Value.oneCell']) ?c3 ?c4 ?c5 ?_)
            case c3 => unfold maxLen; omega
            case c4 => omega
            case c5 => first | omega | (simp; omega)
            intro v' w3 hown2 hgrow _
            have HB4 : Hid (Below (w.heap.size + 1) w2 w3) := below_own ((Below.refl _ w2).alloc (by omega) _) hAs hgrow (by simp; omega)
            have HB5 : Hid (Below w.heap.size w w3) := HB3.out.trans (HB4.out.mono (by omega))
            have HX3 : Hid (PBox w3 w.heap.size last every (.slice a pins.length c)) := by
              obtain ⟨h1, h2, h3, h4⟩ := HX2.out
              have h6 := HB4.out.block w.heap.size (by omega)
              refine ⟨?_, ?_, ?_, by have := HB4.out.size; omega⟩
              · rw [World.cell?_of_block h6]; exact h1
              · rw [World.cell?_of_block h6]; exact h2
              · rw [World.cell?_of_block h6]; exact h3
            have HO3 : Hid (w3.ownsRow (w.heap.size + 1) 3 1 v' (keptN last every pins hd k ++ [k]).length ((keptN last every pins hd k ++ [k]).map intV)) := by
              show World.ownsRow _ _ _ _ _ _ _
              rw [List.length_append, List.map_append]; exact hown2
            clear hown2 hgrow hAs
            go_wp2_with fail
            go_roundw
            case rel =>
              refine ⟨k + 1, by omega, by go_num, ?_, HX3.out, HB5.out⟩
              have h := HF.out
              rw [HH.out, if_pos rfl] at h
              rw [h]; exact HO3.out
            case measure => simp [intOf]; omega
        · obtain rfl : k = hd + 1 := by omega
          have hki : ¬ ((hd + 1 : Nat) : Int) < (hd : Int) + 1 := by omega
          have hn := nats_own hown
          obtain ⟨a1, c1, e1, hn⟩ := hn
          simp only [Value.slice.injEq, true_and] at e1
          obtain ⟨rfl, rfl⟩ := e1
          have HO : Hid (NatsAt wr wr.heap.size ao (keptN last every pins hd (hd + 1)) ca ∧ wr.ownsRow w.heap.size 3 1 (.slice ao (keptN last every pins hd (hd + 1)).length ca) (keptN last every pins hd (hd + 1)).length ((keptN last every pins hd (hd + 1)).map intV) ∧ Below w.heap.size w wr) := ⟨hn, own_low1 hown (Nat.le_succ _), hb⟩
          clear hown hb hn hbx
          go_wp2_with fail
          go_ret2
          rw [HE.out.1, HE.out.2]
          exact ⟨ao, ca, rfl, HO.out.1, HO.out.2.1, HO.out.2.2⟩
    · have HE : Hid (keepE last every pins head = 1 ∧ polL last every pins head = []) := by
        have h := keepE_out HZ.out hr
        exact ⟨h, polL_not (by omega)⟩
      by_cases h1 : head < 0
      · clear hr
        go_wp2_with fail
        go_ret2
        rw [HE.out.1, HE.out.2]
        exact ⟨none, 0, rfl, nats_nil _ _ (Nat.le_refl _), World.ownsRow_nil _ _ _ _, HB1.out⟩
      · have h2 : 640 < head := by omega
        clear hr
        go_wp2_with fail
        go_ret2
        rw [HE.out.1, HE.out.2]
        exact ⟨none, 0, rfl, nats_nil _ _ (Nat.le_refl _), World.ownsRow_nil _ _ _ _, HB1.out⟩
  · have hz' : (polE last every pins != 0) = true := by simp [hz]
    have HE : Hid (keepE last every pins head = polE last every pins ∧ polL last every pins head = []) := ⟨keepE_not hz, polL_not (by rw [keepE_not hz]; exact hz)⟩
    clear hz
    go_wp2_with fail
    go_ret2
    rw [HE.out.1, HE.out.2]
    exact ⟨none, 0, rfl, nats_nil _ _ (Nat.le_refl _), World.ownsRow_nil _ _ _ _, HB1.out⟩
theorem KeepOf_any (last every : Int) (a : Option Addr) (pins : List Int) (c : Nat) (head : Int) (w : World) (hv : IzAt w w.heap.size a pins c) :
    Calls Try.prog 27 #[polV last every a pins.length c, .int .i64 head] w fun e w' => ∃ ao co, e = .returned (.tuple #[.slice ao (polL last every pins head).length co, .int .i64 (keepE last every pins head)]) ∧ NatsAt w' w'.heap.size ao (polL last every pins head) co ∧ Below w.heap.size w w' :=
  (KeepOf_own last every a pins c head w hv).mono fun e w' ⟨ao, co, h1, h2, _, h3⟩ => ⟨ao, co, h1, h2, h3⟩
/-- the answer of Floor -/
def floorN (last every : Int) (pins : List Int) (head : Int) : Nat := (polL last every pins head)[0]?.getD 0
set_option maxRecDepth 20000 in
set_option maxHeartbeats 2000000 in
theorem KeepFloor_any (last every : Int) (a : Option Addr) (pins : List Int) (c : Nat) (head : Int) (w : World) (hv : IzAt w w.heap.size a pins c) :
    Calls Try.prog 28 #[polV last every a pins.length c, .int .i64 head] w fun e w' => e = .returned (.tuple #[.int .i64 (floorN last every pins head : Int), .int .i64 (keepE last every pins head)]) ∧ Below w.heap.size w w' := by
  obtain ⟨w0, hw0⟩ : ∃ w0, w0 = w.alloc (.cells #[.int .i64 last, .int .i64 every, .slice a pins.length c] 59) := ⟨_, rfl⟩
  have HB : Hid (Below w.heap.size w w0) := by subst hw0; exact (Below.refl _ _).alloc (Nat.le_refl _) _
  have HV : Hid (IzAt w0 w0.heap.size a pins c) := hv.here HB.out (Nat.le_refl _)
  have hbox : PBox w0 w.heap.size last every (.slice a pins.length c) := by subst hw0; exact pbox_new _ _ _ _
  obtain ⟨x0, x1, x2, x3⟩ := hbox
  clear hv
  subst hw0
  go_enter Try.func28, Try.ntmps28
  go_wp2_with fail
  refine (KeepOf_any last every a pins c head _ HV.out).mono ?_
  rintro e w1 ⟨ao, co, rfl, hn, hb1⟩
  have HB1 : Hid (Below w.heap.size w w1) := HB.out.trans (hb1.mono HB.out.size)
  clear hb1 x0 x1 x2 x3
  by_cases hz : keepE last every pins head = 0
  · have hz' : (keepE last every pins head != 0) = false := by simp [hz]
    obtain ⟨p1, p2, p3⟩ := keepE_zero hz
    obtain ⟨x, hx, _⟩ := kept_floor (last := last) (every := every) (pins := pins) (head := head.toNat) (pol_zero p1).1
    rw [← polL_ok p1 p2 p3] at hx
    obtain ⟨g, og, e1, hg, y1⟩ := hn.mem hx
    subst e1
    have hpos2 : 0 < (polL last every pins head).length := (List.getElem?_eq_some_iff.1 hx).1
    rw [Nat.add_zero] at y1
    have hgw : g < w1.heap.size := hg
    have hpos : (0 : Int) < ((polL last every pins head).length : Int) := by have := (List.getElem?_eq_some_iff.1 hx).1; omega
    have HF : Hid (floorN last every pins head = x ∧ keepE last every pins head = 0) := ⟨by rw [floorN, hx]; rfl, hz⟩
    clear hn hz hx p1 p2 p3
    go_wp2_with fail
    go_ret2
    rw [HF.out.1, HF.out.2]
    exact ⟨rfl, HB1.out⟩
  · have hz' : (keepE last every pins head != 0) = true := by simp [hz]
    have HF : Hid (floorN last every pins head = 0) := by show _ = _; rw [floorN, polL_not hz]; rfl
    clear hn hz
    go_wp2_with fail
    go_ret2
    rw [HF.out]
    exact ⟨rfl, HB1.out⟩
end Go.Proofs.Ytcghojnmnmmpoaa
