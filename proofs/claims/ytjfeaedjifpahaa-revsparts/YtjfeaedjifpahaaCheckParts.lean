/- What package part's checkParts answers: the first part that is wrong. -/
import Derived.Test.YtjfeaedjifpahaaSums
namespace Go.Proofs.Ytjfeaedjifpahaa
open Go.RowKit
set_option linter.unusedSimpArgs false
set_option linter.unusedVariables false

set_option maxHeartbeats 1000000 in
theorem checkParts_any (a : Option Addr) (l : List Pt) (cap : Nat) (w : World) (hp : PartsAt w w.heap.size a l) :
    Calls Try.prog 65 #[.slice a l.length cap] w fun e w' => e = .returned (.int .i64 (partsE l)) ∧ Below w.heap.size w w' := by
  have hl := hp.1
  by_cases hbig : 1600 < l.length
  · have Hpe : Hid (2 = partsE l) := by show 2 = partsE l; simp [partsE, hbig]
    go_enter Try.func65, Try.ntmps65
    go_wp2
    go_ret
    exact ⟨ret_int Hpe.out, Below.refl _ _⟩
  · have Hpe : Hid (scanE 0 l = partsE l) := by show scanE 0 l = partsE l; simp [partsE, hbig]
    go_enter Try.func65, Try.ntmps65
    go_wp2
    go_loopw [3, 11] (fun h i wr => ∃ k : Nat, ∃ ah : Int, k ≤ l.length ∧ i = .int .i64 k ∧ h = .int .i64 ah ∧ scanE ah (l.drop k) = scanE 0 l ∧ Below w.heap.size w wr) (fun _ i _ => l.length - (intOf i).toNat)
    case atStart => exact ⟨0, 0, Nat.zero_le _, rfl, rfl, rfl, Below.refl _ _⟩
    case round =>
      obtain ⟨k, ah, hk, rfl, rfl, hsc, hb⟩ := hrel
      by_cases hlt : k < l.length
      · obtain ⟨p, hpk⟩ : ∃ p, l[k]? = some p := ⟨l[k], List.getElem?_eq_getElem hlt⟩
        have hpb := hp.2.2.1 p (List.mem_of_getElem? hpk)
        obtain ⟨hpb1, hpb2, hpb3, hpb4, hpb5⟩ := hpb
        have Hstop : Hid _ := scan_stop hpk hsc
        have Hon : Hid _ := scan_on hpk hsc
        have HU : Hid _ := @step_unformed ah p
        have HN : Hid _ := @step_none ah p
        have HF : Hid _ := @step_behind ah p
        have HG : Hid _ := @step_great ah p
        have HO : Hid _ := @step_ok ah p
        obtain ⟨b, off, rfl, hblt, c1, c2, c3⟩ := (hp.below hb (Nat.le_refl _)).mem hpk
        have HB : Hid _ := hb
        have hz := hb.size
        clear hp hpk hb hsc
        go_wp2_with fail
        refine (formed_any p.k p.n p.t _).mono ?_
        rintro e w1 ⟨rfl, hb1⟩
        obtain ⟨hc, hf⟩ := bcell hb1
        have hz1 : wr.heap.size + 1 ≤ w1.heap.size := by have := hb1.size; simpa using this
        have HB1 : Hid (Below w.heap.size w w1) := (HB.out.alloc hz _).trans (hb1.mono (by simp; omega))
        clear hb1
        cases hfm : formedB p.k p.n p.t
        · go_wp2_with fail
          go_ret
          exact ⟨ret_int (by rw [← Hpe.out, ← Hstop.out (by rw [HU.out hfm]; omega), HU.out hfm]), HB1.out⟩
        · go_wp2_with fail
          refine (width_any p.k p.n p.t _ (by omega)).mono ?_
          rintro e w2 ⟨rfl, hb2⟩
          have hz2 : wr.heap.size + 1 ≤ w2.heap.size := Nat.le_trans hz1 hb2.size
          have HB2 : Hid (Below w.heap.size w w2) := HB1.out.trans (hb2.mono (by omega))
          have hc2 : ∀ o, w2.cell? ⟨wr.heap.size, o, none⟩ = w1.cell? ⟨wr.heap.size, o, none⟩ := fun o => hb2.cell (p := ⟨wr.heap.size, o, none⟩) (by simp; omega)
          clear hb2
          by_cases hw0 : widthI p.k p.n p.t = 0
          · have hw0' : (widthI p.k p.n p.t == 0) = true := by simpa using hw0
            have HW : Hid _ := hw0
            clear hw0
            go_wp2_with fail
            go_ret
            exact ⟨ret_int (by rw [← Hpe.out, ← Hstop.out (by rw [HN.out HW.out]; omega), HN.out HW.out]), HB2.out⟩
          · have hw0' : (widthI p.k p.n p.t == 0) = false := by simpa using hw0
            have HW : Hid _ := hw0
            clear hw0
            go_wp2_with fail
            refine (follow_any ah p.k _).mono ?_
            rintro e w3 ⟨rfl, rfl⟩
            cases hfo : followB ah p.k
            · go_wp2_with fail
              go_ret
              exact ⟨ret_int (by rw [← Hpe.out, ← Hstop.out (by rw [HF.out hfo]; omega), HF.out hfo]), HB2.out⟩
            · go_wp2_with fail
              refine (width_any p.k p.n p.t _ (by omega)).mono ?_
              rintro e w4 ⟨rfl, hb4⟩
              have hz4 : wr.heap.size + 1 ≤ w4.heap.size := Nat.le_trans hz2 hb4.size
              have HB4 : Hid (Below w.heap.size w w4) := HB2.out.trans (hb4.mono (by omega))
              have hc4 : ∀ o, w4.cell? ⟨wr.heap.size, o, none⟩ = w3.cell? ⟨wr.heap.size, o, none⟩ := fun o => hb4.cell (p := ⟨wr.heap.size, o, none⟩) (by simp; omega)
              clear hb4
              by_cases hg : 500 < widthI p.k p.n p.t
              · go_wp2_with fail
                go_ret
                exact ⟨ret_int (by rw [← Hpe.out, ← Hstop.out (by rw [HG.out hfm HW.out hfo hg]; omega), HG.out hfm HW.out hfo hg]), HB4.out⟩
              · go_wp2_with fail
                go_roundw
                case rel => exact ⟨k + 1, p.k, by omega, by go_num, rfl, Hon.out (HO.out hfm HW.out hfo hg), HB4.out⟩
                case measure => simp [intOf]; omega
      · have hnil : l.drop k = [] := List.drop_eq_nil_of_le (by omega)
        rw [hnil] at hsc
        have Hsc : Hid _ := hsc
        clear hsc hnil
        go_wp2
        go_ret
        exact ⟨ret_int (by rw [← Hpe.out, ← Hsc.out]; rfl), hb⟩

end Go.Proofs.Ytjfeaedjifpahaa
