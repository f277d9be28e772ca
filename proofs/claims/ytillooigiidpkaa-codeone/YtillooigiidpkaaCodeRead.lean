/- What code.Read answers. -/
import Derived.Test.YtillooigiidpkaaReadParts
import Derived.Test.YtillooigiidpkaaCodeFinds
namespace Go.Proofs.Ytillooigiidpkaa
open Go.RowKit
set_option linter.unusedSimpArgs false
set_option linter.unusedVariables false

theorem text_nil {rs : ByteArray} (h : rs.data.toList = []) : rs = ⟨#[]⟩ := by
  rw [← str_eq rs, h]
theorem toList_ne {rs : ByteArray} (h : rs.data.toList ≠ []) : (rs.toList == []) = false := by
  rw [ByteArray.toList_eq]; exact beq_eq_false_iff_ne.2 h

set_option maxRecDepth 20000 in
set_option maxHeartbeats 4000000 in
theorem Read_ok (s : ByteArray) (d : List Pt) (w : World) (hs : s.size ≤ 9223372036854775807) (hd : IsCode s.data.toList d) :
    Calls Try.prog 16 #[.string s] w fun e w' => ∃ a cap, e = .returned (.tuple #[.slice a d.length cap, .int .i64 0]) ∧ PartsAt w' w'.heap.size a d ∧ w'.ownsRow w.heap.size 51 3 (.slice a d.length cap) d.length (allCells d) ∧ Below w.heap.size w w' := by
  obtain ⟨h0, h1, h2, h3⟩ := code_parse hd
  have HZ : Hid (sizesE d = 0) := hd.1
  have hg := get_le h0
  have HG : Hid _ := fun w => Get_any s w (by omega)
  rw [show s.data.toList.length = s.size from Array.length_toList] at hg
  have HRP : Hid _ := fun w => readParts_any (s.extract (getK s.data.toList) s.size) (getN s.data.toList) w (by rw [ByteArray.size_extract]; omega) (by omega)
  rw [drop_text] at HRP
  have HPA : Hid _ := h2
  obtain ⟨l, hl⟩ : ∃ l, s.data.toList = l := ⟨_, rfl⟩
  rw [hl] at HG HRP HPA hg h0 h1
  rw [h0, h1] at HG
  rw [h1] at HRP HPA
  obtain ⟨k, hk⟩ : ∃ k, getK l = k := ⟨_, rfl⟩
  rw [hk] at HG HRP HPA hg
  obtain ⟨g1, g2, _⟩ := hg
  clear hd h0 h1 h2 hl hk
  go_enter Try.func16, Try.ntmps16
  go_wp2_with fail
  refine (HG.out _).mono ?_
  rintro e w1 ⟨rfl, e1⟩
  subst e1
  go_wp2_with fail
  refine (HRP.out _).mono ?_
  rintro e w2 h
  rcases h with ⟨d2, r2, v, rs, hp, rfl, hown, hrs, hbd, hdl, hb⟩ | ⟨hp, _⟩
  · have he : d2 = d ∧ r2 = [] := by
      have h := hp.symm.trans HPA.out
      simpa using h
    obtain ⟨rfl, rfl⟩ := he
    have hrs2 := text_nil hrs
    subst hrs2
    obtain ⟨a, cap, rfl, hpa⟩ := parts_own hown hbd
    have HB : Hid (Below w1.heap.size w1 w2) := hb
    have HO : Hid _ := hown
    have HP2 : Hid (PartsAt w2 w2.heap.size a d2) := hpa
    clear hp hown hrs hbd hdl hb hpa
    go_wp2_with fail
    refine (Check_any a d2 cap _ HP2.out).mono ?_
    rintro e w3 ⟨rfl, hb3⟩
    rw [HZ.out]
    have HB3 : Hid (Below w1.heap.size w1 w3) := HB.out.trans (hb3.mono HB.out.size)
    have HO3 : Hid _ := own_stay HO.out hb3
    have HP3 : Hid (PartsAt w3 w3.heap.size a d2) := HP2.out.here hb3 (Nat.le_refl _)
    clear hb3
    go_wp2_with fail
    go_ret2
    exact ⟨a, cap, rfl, HP3.out, HO3.out, HB3.out⟩
  · exact absurd (hp.symm.trans HPA.out) (by simp)

set_option maxRecDepth 20000 in
set_option maxHeartbeats 4000000 in
theorem Read_no (s : ByteArray) (w : World) (hs : s.size ≤ 9223372036854775807) (hd : ∀ d, ¬ IsCode s.data.toList d) :
    Calls Try.prog 16 #[.string s] w fun e w' => e = .returned (.tuple #[.slice none 0 0, .int .i64 3]) ∧ Below w.heap.size w w' := by
  have HG : Hid _ := fun w => Get_any s w (by omega)
  by_cases h0 : getE s.data.toList = 0
  · have hg := get_le h0
    rw [show s.data.toList.length = s.size from Array.length_toList] at hg
    have HD : Hid _ := fun d hp hz => hd d (parse_code_of h0 hp hz)
    have HRP : Hid _ := fun hn w => readParts_any (s.extract (getK s.data.toList) s.size) (getN s.data.toList) w (by rw [ByteArray.size_extract]; omega) hn
    rw [drop_text] at HRP
    obtain ⟨l, hl⟩ : ∃ l, s.data.toList = l := ⟨_, rfl⟩
    rw [hl] at HG HRP hg h0 HD
    rw [h0] at HG
    obtain ⟨k, hk⟩ : ∃ k, getK l = k := ⟨_, rfl⟩
    obtain ⟨n, hn⟩ : ∃ n, getN l = n := ⟨_, rfl⟩
    rw [hk, hn] at HG HRP hg HD
    obtain ⟨g1, g2, g3⟩ := hg
    clear hd h0 hl hk hn
    by_cases hgt : n ≤ 1600
    · have HRP2 : Hid _ := HRP.out hgt
      clear HRP
      go_enter Try.func16, Try.ntmps16
      go_wp2_with fail
      refine (HG.out _).mono ?_
      rintro e w1 ⟨rfl, e1⟩
      subst e1
      go_wp2_with fail
      refine (HRP2.out _).mono ?_
      rintro e w2 h
      rcases h with ⟨d2, r2, v, rs, hp, rfl, hown, hrs, hbd, hdl, hb⟩ | ⟨hp, q, rfl, hq, hb⟩
      · have HB : Hid (Below w1.heap.size w1 w2) := hb
        by_cases hr2 : r2 = []
        · subst hr2
          have hrs2 := text_nil hrs
          subst hrs2
          obtain ⟨a, cap, rfl, hpa⟩ := parts_own hown hbd
          have HZ : Hid (sizesE d2 ≠ 0) := fun hz => HD.out d2 hp hz
          have hz2 : (sizesE d2 != 0) = true := by simpa using HZ.out
          have HP2 : Hid (PartsAt w2 w2.heap.size a d2) := hpa
          clear hp hown hrs hbd hdl hb hpa
          go_wp2_with fail
          refine (Check_any a d2 cap _ HP2.out).mono ?_
          rintro e w3 ⟨rfl, hb3⟩
          have HB3 : Hid (Below w1.heap.size w1 w3) := HB.out.trans (hb3.mono HB.out.size)
          clear hb3
          go_wp2_with fail
          go_ret2
          exact ⟨rfl, HB3.out⟩
        · have hrt : (rs.toList == []) = false := toList_ne (by rw [hrs]; exact hr2)
          have hrt2 : (!(rs.toList == [])) = true := by rw [hrt]; rfl
          clear hp hown hrs hbd hdl hb
          go_wp2_with fail
          go_ret2
          exact ⟨rfl, HB.out⟩
      · have hq2 : (q != 0) = true := by simpa using hq
        have HB : Hid (Below w1.heap.size w1 w2) := hb
        clear hq hb hp
        go_wp2_with fail
        go_ret2
        exact ⟨rfl, HB.out⟩
    · clear HRP HD
      go_enter Try.func16, Try.ntmps16
      go_wp2_with fail
      refine (HG.out _).mono ?_
      rintro e w1 ⟨rfl, e1⟩
      subst e1
      go_wp2_with fail
      go_ret2
      exact ⟨rfl, Below.refl _ _⟩
  · obtain ⟨g1, g2⟩ := get_bad h0
    rw [g1, g2] at HG
    obtain ⟨q, hq⟩ : ∃ q, getE s.data.toList = q := ⟨_, rfl⟩
    rw [hq] at HG h0
    have hq' : (q != 0) = true := by simp [h0]
    clear g1 g2 hq h0 hd
    go_enter Try.func16, Try.ntmps16
    go_wp2_with fail
    refine (HG.out _).mono ?_
    rintro e w1 ⟨rfl, e1⟩
    subst e1
    go_wp2_with fail
    go_ret2
    exact ⟨rfl, Below.refl _ _⟩
end Go.Proofs.Ytillooigiidpkaa
