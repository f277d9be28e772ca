/- What the document's own Texts answers. -/
import Derived.Test.YtgffippimmokiaaRevOne
import Derived.Test.YtgffippimmokiaaPlDo
import Derived.Deep.RegionHeld3
namespace Go.Proofs.Ytgffippimmokiaa
open Go.RowKit
set_option linter.unusedSimpArgs false
set_option linter.unusedVariables false

/-- the first n texts -/
def textsB (s : List UInt8) (l : List Rv) (n : Nat) : List ByteArray := (List.range n).map (fun i => ⟨(textAt s l i).toArray⟩)
def textsR (s : List UInt8) (l : List Rv) : List ByteArray := if checkE s l = 0 then textsB s l (l.length + 1) else []
theorem textsB_len (s : List UInt8) (l : List Rv) (n : Nat) : (textsB s l n).length = n := by simp [textsB]
theorem textsB_at (s : List UInt8) (l : List Rv) {n i : Nat} (h : i < n) : ((textsB s l n).map Value.string)[i]? = some (.string ⟨(textAt s l i).toArray⟩) := by simp [textsB, h]
theorem textsB_snoc (s : List UInt8) (l : List Rv) (n : Nat) : textsB s l (n + 1) = textsB s l n ++ [⟨(textAt s l n).toArray⟩] := by simp [textsB, List.range_succ]
theorem fits_text {d : List Pt} {t : List UInt8} : doT d ⟨t.toArray⟩ = if fitsE d (t.length : Nat) = 0 then doL d t else [] := rfl

set_option maxRecDepth 20000 in
set_option maxHeartbeats 4000000 in
theorem RTexts_any (s : ByteArray) (a : Option Addr) (l : List Rv) (cap : Nat) (w : World) (hl : RevsAt w w.heap.size a l) (hs : s.size ≤ 9223372036854775807) :
    Calls Try.prog 42 #[.string s, .slice a l.length cap] w fun e w' => ∃ v, e = .returned (.tuple #[v, .int .i64 (checkE s.data.toList l)]) ∧ w'.ownsRow w.heap.size 9 1 v (textsR s.data.toList l).length ((textsR s.data.toList l).map Value.string) ∧ Below w.heap.size w w' := by
  obtain ⟨ip, hip, hp0, hp1, hp2⟩ := info_parts infoString
  have hsl : s.data.toList.length = s.size := Array.length_toList
  have hll := hl.1
  by_cases h1 : 500 < s.size
  · have hE : checkE s.data.toList l = 2 := by rw [checkE, if_pos (by omega)]
    have hT : textsR s.data.toList l = [] := by rw [textsR, hE]; rfl
    rw [hE, hT]; clear hE hT hsl
    have h1' : (500 : Int) < (s.size : Int) := by omega
    go_enter Try.func42, Try.ntmps42
    go_wp2_with fail
    go_ret2
    exact ⟨_, rfl, World.ownsRow_nil _ _ _ _, Below.refl _ _⟩
  · have h1' : ¬ (500 : Int) < (s.size : Int) := by omega
    by_cases h2 : 64 < l.length
    · have hE : checkE s.data.toList l = 2 := by rw [checkE, if_pos (by omega)]
      have hT : textsR s.data.toList l = [] := by rw [textsR, hE]; rfl
      rw [hE, hT]; clear hE hT hsl
      have h2' : (64 : Int) < (l.length : Int) := by omega
      go_enter Try.func42, Try.ntmps42
      go_wp2_with fail
      go_ret2
      exact ⟨_, rfl, World.ownsRow_nil _ _ _ _, Below.refl _ _⟩
    · have h2' : ¬ (64 : Int) < (l.length : Int) := by omega
      have HL : Hid (RevsAt w w.heap.size a l) := hl
      have HSL : Hid (s.data.toList.length = s.size) := hsl
      have HE : Hid (checkE s.data.toList l = histE s.data.toList l) := by show _ = _; rw [checkE, if_neg (by omega)]
      have HR : Hid (textsR s.data.toList l = if histE s.data.toList l = 0 then textsB s.data.toList l (l.length + 1) else []) := by show _ = _; rw [textsR, HE.out]
      clear hl hsl
      go_enter Try.func42, Try.ntmps42
      go_wp2_with fail
      go_loopw [6, 24] (fun v i wr => ∃ (k : Nat) (ao : Option Addr) (ca : Nat), k ≤ l.length ∧ i = .int .i64 k ∧ v = .slice ao (k + 1) ca ∧ wr.ownsRow w.heap.size 9 1 (.slice ao (k + 1) ca) (k + 1) ((textsB s.data.toList l (k + 1)).map Value.string) ∧ (textAt s.data.toList l k).length ≤ 500 ∧ histE (textAt s.data.toList l k) (l.drop k) = histE s.data.toList l ∧ Below w.heap.size w wr) (fun _ i _ => l.length - (intOf i).toNat)
      case atStart =>
        refine ⟨0, _, _, Nat.zero_le _, rfl, rfl, ?_, by rw [text_zero, HSL.out]; omega, by rw [text_zero]; rfl, (Below.refl _ _).alloc (Nat.le_refl _) _⟩
        have h := World.ownsRow_lit (base := w.heap.size) (e := 9) (size := 1) w #[.string s] 1 (Nat.le_refl _) (by decide) rfl
        have e : (textsB s.data.toList l (0 + 1)).map Value.string = [.string s] := by simp [textsB, text_zero, str_eq]
        rw [e]
        exact h
      case round =>
        obtain ⟨k, ao, ca, hk, rfl, rfl, hown, ht5, hh, hb⟩ := hrel
        by_cases hlt : k < l.length
        · obtain ⟨r, hrk⟩ : ∃ r, l[k]? = some r := ⟨l[k], List.getElem?_eq_getElem hlt⟩
          have hki : (k : Int) < (l.length : Int) := by omega
          obtain ⟨b, off, ai, ci, rfl, hblt, c1, c2, c3, hpd, hrm⟩ := (HL.out.below hb (Nat.le_refl _)).mem hrk
          have hz := hb.size
          have hbw : b < wr.heap.size := by omega
          have HNX : Hid _ := text_next (s := s.data.toList) hrk
          have HH : Hid (histE s.data.toList l = histE (textAt s.data.toList l k) (r :: l.drop (k + 1))) := by show _ = _; rw [← hh, drop_rv hrk]
          have HT : Hid ((textAt s.data.toList l k).length ≤ 500) := ht5
          have HB1 : Hid (Below w.heap.size w (wr.alloc (.cells #[.int .i64 r.who, .int .i64 r.seq, .slice ai r.d.length ci] 40))) := hb.alloc hz _
          have HD1 : Hid (PartsAt (wr.alloc (.cells #[.int .i64 r.who, .int .i64 r.seq, .slice ai r.d.length ci] 40)) w.heap.size ai r.d) := hpd.below ((Below.refl _ wr).alloc (Nat.le_refl _) _) hz
          have HO1 : Hid _ := own_alloc hown (.cells #[.int .i64 r.who, .int .i64 r.seq, .slice ai r.d.length ci] 40)
          clear hb hh ht5 hpd hrm hrk hown
          go_wp2_with fail
          refine (RRev_any r ai ci _ (HD1.out.here (Below.refl _ _) (Nat.le_refl _))).mono ?_
          rintro e w2 ⟨rfl, hb2⟩
          have HX2 : Hid (RBox w2 wr.heap.size r ai ci) := (rbox_new wr r ai ci).below hb2
          obtain ⟨x0, x1, x2, x3⟩ := HX2.out
          have hz2 : wr.heap.size + 1 ≤ w2.heap.size := by have := hb2.size; simpa using this
          have HB2 : Hid (Below w.heap.size w w2) := HB1.out.trans (hb2.mono (by simp; omega))
          have HD2 : Hid (PartsAt w2 w.heap.size ai r.d) := HD1.out.below hb2 (by simp; omega)
          have HO2 : Hid (w2.ownsRow w.heap.size 9 1 (.slice ao (k + 1) ca) (k + 1) ((textsB s.data.toList l (k + 1)).map Value.string)) := own_below HO1.out hb2
          clear hb2
          by_cases hO : oneE r = 0
          · have hO' : (oneE r != 0) = false := by simp [hO]
            have HO : Hid (oneE r = 0) := hO
            clear hO
            obtain ⟨g, cg, hg, hgc, hgl⟩ := own_at HO2.out (textsB_at s.data.toList l (Nat.lt_succ_self k))
            simp only [Value.slice.injEq, true_and] at hg
            obtain ⟨rfl, rfl⟩ := hg
            obtain ⟨t, ht⟩ : ∃ t : ByteArray, t = ⟨(textAt s.data.toList l k).toArray⟩ := ⟨_, rfl⟩
            rw [← ht] at hgc
            have HTL : Hid (t.data.toList = textAt s.data.toList l k ∧ t.size = (textAt s.data.toList l k).length) := by rw [ht]; exact ⟨rfl, rfl⟩
            have hts : t.size ≤ 500 := by rw [HTL.out.2]; exact HT.out
            have HDo : Hid _ := fun w hp => RDo_any ai r.d ci t w hp (by omega)
            have HFE : Hid (fitsE r.d (t.size : Nat) = fitsE r.d ((textAt s.data.toList l k).length : Nat)) := by show _ = _; rw [HTL.out.2]
            obtain ⟨fe, hfe⟩ : ∃ fe, fitsE r.d (t.size : Nat) = fe := ⟨_, rfl⟩
            have HDT : Hid (doT r.d t = if fe = 0 then doL r.d (textAt s.data.toList l k) else []) := by show _ = _; rw [doT, hfe, HTL.out.1]
            rw [hfe] at HDo HFE
            obtain ⟨x, hx⟩ : ∃ x, doT r.d t = x := ⟨_, rfl⟩
            rw [hx] at HDo HDT
            have HDd : Hid (PartsAt w2.drew w2.drew.heap.size ai r.d) := HD2.out.here (Below.refl w2.heap.size w2).drew (by omega)
            have hk1 : (k : Int) < ((k : Int) + 1) := by omega
            have hk2 : 0 ≤ (k : Int) := by omega
            clear ht hfe hx
            go_wp2_with fail
            go_region_held3 (fun w' => w'.cell? ⟨wr.heap.size, 2, none⟩ = some (.slice ai r.d.length ci) ∧ w'.cell? ⟨g, k, none⟩ = some (.string t)) (first | go_keep | exact held2 (w := w2.drew) x2 hgc hb3 x3 hgl) (first | (go_at_call 87; refine (HDo.out _ HDd.out).mono ?_; rintro e w3 ⟨rfl, hb3⟩))
            all_goals
              have hz3 : w2.heap.size ≤ w3.heap.size := hb3.size
              have HB3 : Hid (Below w.heap.size w w3) := (HB2.out.drew).trans (hb3.mono (by show w.heap.size ≤ w2.heap.size; omega))
              have HO3 : Hid (w3.ownsRow w.heap.size 9 1 (.slice (some ⟨g, 0, none⟩) (k + 1) ca) (k + 1) ((textsB s.data.toList l (k + 1)).map Value.string)) := own_below (w := w2.drew) HO2.out hb3
              clear hb3 hgc x0 x1 x2
              by_cases hF : fe = 0
              · have hF' : (fe != 0) = false := by simp [hF]
                have hAs := own_alloc HO3.out (.cells #[.string ⟨x.toArray⟩] 9)
                have hNew : (w3.alloc (.cells #[.string ⟨x.toArray⟩] 9)).heap[w3.heap.size]? = some (.cells #[.string ⟨x.toArray⟩] 9 (0, 0)) := heap_alloc_new _ _
                have HF : Hid (fe = 0) := hF
                have hzw : w.heap.size ≤ w3.heap.size := by omega
                clear hF
                go_wp2_with (at_builtin; refine wpList_append_own _ rfl _ _ 46 rfl w.heap.size 9 ip _ 1 16 Try.underlying46 hip hp0 hp1 hp2 rfl (by decide) _ _ _ rfl hAs ⟨w3.heap.size, 0, none⟩ 1 1 [.string ⟨x.toArray⟩] rfl rfl (World.news_of_block (cs := #[.string ⟨x.toArray⟩]) (t := 9) (fr := (0, 0)) hNew) (by simp [Value.oneCell']) ?c3 ?c4 ?c5 ?_)
                case c3 => unfold maxLen; omega
                case c4 => omega
                case c5 => first | omega | (simp; omega)
                intro v' w4 hown2 hgrow _
                obtain ⟨bo, cb2, rfl⟩ := slice_form hown2
                have HB4 : Hid (Below w.heap.size w w4) := below_own (HB3.out.alloc hzw _) hAs hgrow (by simp; omega)
                have HO4 : Hid _ := hown2
                clear hown2 hgrow hAs hNew
                go_wp2_with fail
                go_roundw
                case rel =>
                  have e1 : fitsE r.d ((textAt s.data.toList l k).length : Nat) = 0 := by rw [← HFE.out, HF.out]
                  have e2 : x = textAt s.data.toList l (k + 1) := by rw [HDT.out, if_pos HF.out, HNX.out]
                  obtain ⟨f1, f2⟩ := fits_zero e1
                  refine ⟨k + 1, bo, cb2, by omega, by go_num, rfl, ?_, ?_, ?_, HB4.out⟩
                  · rw [textsB_snoc, List.map_append, ← e2]; exact HO4.out
                  · rw [HNX.out]; exact (do_out f1 f2).2
                  · rw [HH.out, histE, if_pos HO.out, if_pos e1, HNX.out]
                case measure => simp [intOf]; omega
              · have hF' : (fe != 0) = true := by simp [hF]
                have HF : Hid (¬ fe = 0) := hF
                clear hF
                go_wp2_with fail
                go_ret2
                have hE : histE s.data.toList l = fe := by rw [HH.out, histE, if_pos HO.out, ← HFE.out, if_neg HF.out]
                have hR : textsR s.data.toList l = [] := by rw [HR.out, hE, if_neg HF.out]
                exact ⟨_, by rw [HE.out, hE]; rfl, by rw [hR]; exact World.ownsRow_nil _ _ _ _, HB3.out⟩
          · have hO' : (oneE r != 0) = true := by simp [hO]
            have HO : Hid (¬ oneE r = 0) := hO
            clear hO
            go_wp2_with fail
            go_ret2
            have hE : histE s.data.toList l = oneE r := by rw [HH.out, histE, if_neg HO.out]
            have hR : textsR s.data.toList l = [] := by rw [HR.out, hE, if_neg HO.out]
            exact ⟨_, by rw [HE.out, hE]; rfl, by rw [hR]; exact World.ownsRow_nil _ _ _ _, HB2.out⟩
        · have hki : ¬ (k : Int) < (l.length : Int) := by omega
          have hkl : k = l.length := by omega
          have HH : Hid (0 = histE s.data.toList l) := by show _ = _; rw [← hh, List.drop_eq_nil_of_le (by omega)]; rfl
          have HO : Hid _ := hown
          have HB : Hid (Below w.heap.size w wr) := hb
          clear hh hown hb
          go_wp2_with fail
          go_ret2
          refine ⟨_, by rw [HE.out, ← HH.out]; rfl, ?_, HB.out⟩
          rw [HR.out, ← HH.out, if_pos rfl, textsB_len, ← hkl]
          exact HO.out
end Go.Proofs.Ytgffippimmokiaa
