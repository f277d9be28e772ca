/- The law ShopStays, walked: it answers true. (laws/mkstays.py) -/
import Derived.Test.YtpgdgdpncodadaaShMove
import Derived.Test.YtpgdgdpncodadaaShRun
import Derived.Deep.RegionHeld3
import Derived.Deep.AppendLies
namespace Go.Proofs.Ytpgdgdpncodadaa
open Go.RowKit
set_option linter.unusedSimpArgs false
set_option linter.unusedVariables false

theorem infoStr : (Try.prog.info? 9).map (fun i => (i.zero, i.size, i.bytes)) = some (some (.string ⟨#[]⟩), 1, 16) := by kernel_rfl
/-- the first texts of an archive -/
def textsF (S : Sh) (k : Nat) : List ByteArray := (List.range k).map fun i : Nat => ⟨(shTextR S (i : Int)).toArray⟩
theorem textsF_len (S : Sh) (k : Nat) : (textsF S k).length = k := by simp [textsF]
theorem textsF_snoc (S : Sh) (k : Nat) : textsF S (k + 1) = textsF S k ++ [⟨(shTextR S (k : Int)).toArray⟩] := by simp [textsF, List.range_succ]
theorem textsF_told {S : Sh} (h : S.log.base = 0) : Told S (textsF S (headN S + 1)) := by
  refine ⟨textsF_len _ _, fun k _ k2 => ?_⟩
  simp [textsF, show k < headN S + 1 by omega]
/-- the row of texts beside an archive -/
def Rw (w : World) (B : Nat) (ao : Option Addr) (ca : Nat) (T : List ByteArray) : Prop := w.ownsRow B 9 1 (.slice ao T.length ca) T.length (T.map Value.string)
theorem Rw.below {w w' : World} {B : Nat} {ao : Option Addr} {ca : Nat} {T : List ByteArray} (h : Rw w B ao ca T) (hb : Below w.heap.size w w') : Rw w' B ao ca T := own_below h hb
theorem Rw.aside {w w' : World} {B g : Nat} {S : Sh} {ao : Option Addr} {ca : Nat} {T : List ByteArray} (h : Rw w B ao ca T) (hs : SG w g S) (ha : Aside g w w') : Rw w' B ao ca T := by
  obtain ⟨u, ys, hof⟩ := hs.1
  exact World.ownsRow.kept h ha (.inr (own_ne' h hof.1 (by decide)))
theorem Rw.at {w : World} {B k : Nat} {ao : Option Addr} {ca : Nat} {T : List ByteArray} {t : ByteArray} (h : Rw w B ao ca T) (hk : T[k]? = some t) : ∃ gt, ao = some ⟨gt, 0, none⟩ ∧ w.cell? ⟨gt, k, none⟩ = some (.string t) ∧ gt < w.heap.size := by
  obtain ⟨gt, cg, e, h1, h2⟩ := own_at (j := k) (u := .string t) h (by simp [hk])
  simp only [Value.slice.injEq, true_and] at e
  exact ⟨gt, e.1, h1, h2⟩
set_option maxRecDepth 20000 in
set_option maxHeartbeats 16000000 in
theorem ShopStays_any (a : Option Addr) (l : List Rv) (cap : Nat) (floor : Int) (am : Option Addr) (m : List Rv) (capm : Nat) (w : World) (hl : RevsAt w w.heap.size a l) (hc : l.length ≤ cap) (hm : RevsAt w w.heap.size am m) (hcm : m.length ≤ capm) :
    Calls Try.prog 4 #[.slice a l.length cap, .int .i64 floor, .slice am m.length capm] w fun e w' => e = .returned (.bool true) ∧ Below w.heap.size w w' := by
  have HL : Hid (RevsAt w w.heap.size a l) := hl
  have HM : Hid (RevsAt w w.heap.size am m) := hm
  have hll : l.length ≤ 9223372036854775807 := hl.1
  have hml : m.length ≤ 9223372036854775807 := hm.1
  obtain ⟨B, hB⟩ : ∃ B, w.heap.size = B := ⟨_, rfl⟩
  have HWB : Hid (w.heap.size = B) := hB
  rw [hB] at HL HM
  have HF1 : Hid _ := fun w => first_any ⟨#[97]⟩ w (by decide)
  have HO1 : Hid _ := fun w ad hp => fill_one2 w ad hp
  obtain ⟨o1, o2, o3, o4, o5⟩ := one_facts
  have HH1 : Hid (∀ w g, SG w g (fillS [oneRv]) → Calls Try.prog 14 #[.pointer (some ⟨g, 0, none⟩)] w fun e w' => e = .returned (.int .i64 1) ∧ Below w.heap.size w w') := by
    intro w g h
    have h2 := GHead (fillS [oneRv]) g w h
    rw [o1] at h2
    exact h2
  obtain ⟨k1, k2⟩ := keep_ok (S := fillS [oneRv]) o3 (by rw [o5]; decide) (k := 1) (by omega) (by omega)
  have k1' : kpE (fillS [oneRv]) 1 = 0 := k1
  have k2' : (keepS (fillS [oneRv]) 1).stage = 1 := by
    have k2 : keepS (fillS [oneRv]) 1 = _ := k2
    rw [k2]
  have HK1 : Hid (∀ w g, SG w g (fillS [oneRv]) → Calls Try.prog 15 #[.pointer (some ⟨g, 0, none⟩), .int .i64 1] w fun e w' => e = .returned (.int .i64 0) ∧ SG w' g (keepS (fillS [oneRv]) 1) ∧ Aside g w w') := by
    intro w g h
    have h2 := GKeep (fillS [oneRv]) 1 g w h
    rw [k1'] at h2
    exact h2
  have k3 : kpE (keepS (fillS [oneRv]) 1) 1 = 13 := by
    unfold kpE
    rw [if_neg (by rw [k2']; decide)]
  have HK2 : Hid (∀ w g, SG w g (keepS (fillS [oneRv]) 1) → Calls Try.prog 15 #[.pointer (some ⟨g, 0, none⟩), .int .i64 1] w fun e w' => e = .returned (.int .i64 13) ∧ SG w' g (keepS (fillS [oneRv]) 1) ∧ Aside g w w') := by
    intro w g h
    have h2 := GKeep (keepS (fillS [oneRv]) 1) 1 g w h
    have e : keepS (keepS (fillS [oneRv]) 1) 1 = keepS (fillS [oneRv]) 1 := by
      show (if kpE (keepS (fillS [oneRv]) 1) 1 = 0 then _ else _) = _
      rw [k3, if_neg (by decide)]
    rw [k3, e] at h2
    exact h2
  have HS1 : Hid (∀ w g, SG w g (keepS (fillS [oneRv]) 1) → Calls Try.prog 16 #[.pointer (some ⟨g, 0, none⟩)] w fun e w' => e = .returned (.bool true) ∧ Aside g w w') := by
    intro w g h
    have h2 := GStep (keepS (fillS [oneRv]) 1) g w h
    rw [stepB_yes h.2 (by rw [k2']; decide)] at h2
    exact h2.mono fun e w' ⟨h3, _, h4⟩ => ⟨h3, h4⟩
  clear o1 o2 o3 o4 o5 k1 k2 k1' k2' k3 hl hm hB
  generalize keepS (fillS [oneRv]) 1 = K1 at *
  generalize fillS [oneRv] = F1 at *
  have HW : Hid _ := fun k m w h1 h2 => Within3_any k m w h1 h2
  have HFl : Hid _ := fun w h => Filled_any a l cap w h
  obtain ⟨hg1, hg2, hg3, hg4⟩ := fill_is l
  have hgd := (fill_good l).bounds
  have HH : Hid _ := fun w g h => GHead (fillS l) g w h
  have HT0 : Hid (Told (fillS l) (textsF (fillS l) (headN (fillS l) + 1))) := textsF_told hg3
  obtain ⟨N, hN⟩ : ∃ N, headN (fillS l) = N := ⟨_, rfl⟩
  have HTx : Hid (∀ k : Nat, k < N + 1 → ∀ w g, SG w g (fillS l) → Calls Try.prog 18 #[.pointer (some ⟨g, 0, none⟩), .int .i64 k] w fun e w' => e = .returned (.tuple #[.string ⟨(shTextR (fillS l) k).toArray⟩, .int .i64 0]) ∧ Below w.heap.size w w') := by
    intro k hk w g h
    have h2 := GText (fillS l) k g w h
    have h3 : hasE (fillS l) (k : Int) = 0 := by unfold hasE; rw [if_neg (by omega), if_neg (by omega)]
    rw [h3] at h2
    exact h2
  have HK : Hid (∀ k : Nat, k < N + 1 → ∀ w g, SG w g (fillS l) → Calls Try.prog 15 #[.pointer (some ⟨g, 0, none⟩), .int .i64 k] w fun e w' => e = .returned (.int .i64 0) ∧ (∃ S, SG w' g S ∧ MvSt S k 0 ∧ S.log = (fillS l).log) ∧ Aside g w w') := by
    intro k hk w g h
    obtain ⟨k1, k2⟩ := keep_ok hg1 (by rw [hg4]; decide) (k := k) (by rw [hg3]; omega) (by rw [hN]; omega)
    have h2 := GKeep (fillS l) k g w h
    rw [k1] at h2
    refine h2.mono fun e w' ⟨h1, h2, h3⟩ => ⟨h1, ⟨_, h2, .inl ?_, keepS_revs _ _⟩, h3⟩
    rw [k2]
    exact ⟨rfl, rfl, rfl, rfl, hg3, hg4, by show k ≤ headN (fillS l); omega⟩
  rw [hN] at HH HT0
  have hN2 : N ≤ 64 := by rw [← hN, fill_head]; exact hgd.1
  clear hgd hg1 hg2 hg3 hg4 hN
  generalize fillS l = Fl at *
  obtain ⟨ip, hip, hp0, hp1, hp2⟩ := info_parts infoStr
  go_enter Try.func4, Try.ntmps4
  go_wp2_with fail
  with_reducible refine (HF1.out _).mono ?_
  rintro e w1 ⟨ad, rfl, hp1, hb1⟩
  have HB1 : Hid (Below B w w1) := by rw [← HWB.out]; exact hb1
  have HP1 : Hid _ := hp1
  clear hp1 hb1
  have HOne : Hid (Calls Try.prog 12 #[.slice (some ⟨w1.heap.size, 0, none⟩) 1 1] (w1.alloc (.cells #[.int .i64 1, .int .i64 1, .slice (some ad) 1 1] 40)) fun e w' => ∃ g, e = .returned (.pointer (some ⟨g, 0, none⟩)) ∧ w1.heap.size ≤ g ∧ SG w' g F1 ∧ Below w1.heap.size w1 w') := HO1.out w1 ad HP1.out
  go_wp2_with fail
  with_reducible refine Calls.mono HOne.out ?_
  rintro e w2 ⟨g1, rfl, hg1, hs2, hb2⟩
  have HB2 : Hid (Below B w w2) := HB1.out.trans (hb2.mono (by have := HB1.out.size; have := HWB.out; omega))
  have HS2 : Hid (SG w2 g1 F1) := hs2
  have HG1 : Hid (B ≤ g1) := by have := HB1.out.size; have := HWB.out; show B ≤ g1; omega
  clear hs2 hb2 hg1 HOne
  go_wp2_with fail
  with_reducible refine (HH1.out _ _ HS2.out).mono ?_
  rintro e w3 ⟨rfl, hb3⟩
  have HS3 : Hid (SG w3 g1 F1) := HS2.out.below hb3
  have HB3 : Hid (Below B w w3) := HB2.out.trans (hb3.mono (by have := HB2.out.size; have := HWB.out; omega))
  clear hb3
  go_wp2_with fail
  with_reducible refine (HK1.out _ _ HS3.out).mono ?_
  rintro e w4 ⟨rfl, hs4, ha4⟩
  have HS4 : Hid (SG w4 g1 K1) := hs4
  have HB4 : Hid (Below B w w4) := HB3.out.trans (ha4.below HG1.out (by have := HB3.out.size; have := HWB.out; omega))
  clear hs4 ha4
  go_wp2_with fail
  with_reducible refine (HK2.out _ _ HS4.out).mono ?_
  rintro e w5 ⟨rfl, hs5, ha5⟩
  have HS5 : Hid (SG w5 g1 K1) := hs5
  have HB5 : Hid (Below B w w5) := HB4.out.trans (ha5.below HG1.out (by have := HB4.out.size; have := HWB.out; omega))
  clear hs5 ha5
  go_wp2_with fail
  with_reducible refine (HS1.out _ _ HS5.out).mono ?_
  rintro e w6 ⟨rfl, ha6⟩
  have HB6 : Hid (Below B w w6) := HB5.out.trans (ha6.below HG1.out (by have := HB5.out.size; have := HWB.out; omega))
  clear ha6 HS2 HS3 HS4 HS5 HB1 HB2 HB3 HB4 HB5 HP1 HF1 HO1 HH1 HK1 HK2 HS1
  go_wp2_with fail
  with_reducible refine (HFl.out _ (HL.out.here HB6.out (Nat.le_refl _))).mono ?_
  rintro e w7 ⟨g, rfl, hg, hs7, hb7⟩
  have HB7 : Hid (Below B w w7) := HB6.out.trans (hb7.mono (by have := HB6.out.size; have := HWB.out; omega))
  have HG : Hid (B ≤ g) := by have := HB6.out.size; have := HWB.out; show B ≤ g; omega
  have HS7 : Hid (SG w7 g Fl) := hs7
  clear hg hs7 hb7
  go_wp2_with fail
  with_reducible refine (HH.out _ _ HS7.out).mono ?_
  rintro e w8 ⟨rfl, hb8⟩
  have HS8 : Hid (SG w8 g Fl) := HS7.out.below hb8
  have HB8 : Hid (Below B w w8) := HB7.out.trans (hb8.mono (by have := HB7.out.size; have := HWB.out; omega))
  clear hb8
  go_wp2_with fail
  rw [show (N : Int) + 1 = ((N + 1 : Nat) : Int) by omega]
  with_reducible refine (HW.out _ _ _ (by omega) (by omega)).mono ?_
  rintro e w9 ⟨fl, rfl, hfl, rfl⟩
  go_wp2_with fail
  with_reducible refine (HH.out _ _ HS8.out).mono ?_
  rintro e w10 ⟨rfl, hb10⟩
  have HS10 : Hid (SG w10 g Fl) := HS8.out.below hb10
  have HB10 : Hid (Below B w w10) := HB8.out.trans (hb10.mono (by have := HB8.out.size; have := HWB.out; omega))
  clear hb10 HS7 HS8 HB7 HB8 HB6
  go_wp2_with fail
  go_loopw [8, 55] (fun v i wr => ∃ (k : Nat) (ao : Option Addr) (ca : Nat), k ≤ N + 1 ∧ i = .int .i64 (k : Int) ∧ v = .slice ao k ca ∧ wr.ownsRow B 9 1 (.slice ao k ca) k ((textsF Fl k).map Value.string) ∧ SG wr g Fl ∧ Below B w wr) (fun _ i _ => N + 1 - (intOf i).toNat)
  case atStart => exact ⟨0, none, 0, Nat.zero_le _, rfl, rfl, World.ownsRow_nil _ _ _ _, HS10.out, HB10.out⟩
  case round =>
    rename World => wr
    obtain ⟨k, ao, ca, hk, rfl, rfl, hown, hs, hb⟩ := hrel
    have HS : Hid (SG wr g Fl) := hs
    have HB : Hid (Below B w wr) := hb
    have HO : Hid _ := hown
    clear hs hb hown
    by_cases hlt : k < N + 1
    · have hki : (k : Int) < (N : Int) + 1 := by omega
      have HTk : Hid _ := HTx.out k hlt
      have HSn : Hid (textsF Fl (k + 1) = textsF Fl k ++ [⟨(shTextR Fl (k : Int)).toArray⟩]) := textsF_snoc Fl k
      obtain ⟨x, hx⟩ : ∃ x : ByteArray, (⟨(shTextR Fl (k : Int)).toArray⟩ : ByteArray) = x := ⟨_, rfl⟩
      rw [hx] at HTk HSn
      clear hx
      go_wp2_with fail
      with_reducible refine (HTk.out _ _ HS.out).mono ?_
      rintro e w3 ⟨rfl, hb3⟩
      have HS3 : Hid (SG (w3.alloc (.cells #[.string x] 9)) g Fl) := (HS.out.below hb3).below ((Below.refl _ w3).alloc (Nat.le_refl _) _)
      have HB3 : Hid (Below B w w3) := HB.out.trans (hb3.mono (by have := HB.out.size; have := HWB.out; omega))
      have HO3 : Hid (w3.ownsRow B 9 1 (.slice ao k ca) k ((textsF Fl k).map Value.string)) := own_below HO.out hb3
      have hzw : B ≤ w3.heap.size := by have := HB3.out.size; have := HWB.out; omega
      clear hb3
      have hAs := own_alloc HO3.out (.cells #[.string x] 9)
      have hNew : (w3.alloc (.cells #[.string x] 9)).heap[w3.heap.size]? = some (.cells #[.string x] 9 (0, 0)) := heap_alloc_new _ _
      go_wp2_with (at_builtin; refine wpList_append_own _ rfl _ _ 46 rfl B 9 ip _ 1 16 Try.underlying46 hip hp0 hp1 hp2 rfl (by decide) _ _ _ rfl hAs ⟨w3.heap.size, 0, none⟩ 1 1 [.string x] rfl rfl (World.news_of_block (cs := #[.string x]) (t := 9) (fr := (0, 0)) hNew) (by simp [Value.oneCell']) ?c3 ?c4 ?c5 ?_)
      case c3 => unfold maxLen; omega
      case c4 => omega
      case c5 => first | omega | (simp; omega)
      intro v' w4 hown2 hgrow _
      obtain ⟨bo, cb2, rfl⟩ := slice_form hown2
      have HB4 : Hid (Below B w w4) := below_own (HB3.out.alloc hzw _) hAs hgrow (by simp; omega)
      have HS4 : Hid (SG w4 g Fl) := HS3.out.grown hAs hgrow
      have HO4 : Hid _ := hown2
      clear hown2 hgrow hAs hNew
      go_wp2_with fail
      go_roundw
      case rel => exact ⟨k + 1, bo, cb2, by omega, by go_num, rfl, by rw [HSn.out, List.map_append]; exact HO4.out, HS4.out, HB4.out⟩
      case measure => simp [intOf]; omega
    · have hki : ¬ (k : Int) < (N : Int) + 1 := by omega
      obtain rfl : k = N + 1 := by omega
      have HKk : Hid _ := HK.out fl hfl
      have HRw : Hid (Rw wr B ao ca (textsF Fl (N + 1))) := by
        have h := HO.out
        show Rw _ _ _ _ _
        unfold Rw
        rw [textsF_len]
        exact h
      have hTl : (textsF Fl (N + 1)).length = N + 1 := textsF_len _ _
      generalize textsF Fl (N + 1) = T0 at *
      clear hlt hk HO
      go_wp2_with fail
      with_reducible refine (HKk.out _ _ HS.out).mono ?_
      rintro e w11 ⟨rfl, ⟨S0, hs11, hmv, hlg⟩, ha11⟩
      have HS11 : Hid (SG w11 g S0) := hs11
      have HM11 : Hid (MvSt S0 fl 0) := hmv
      have HT11 : Hid (Told S0 T0) := ⟨by rw [head_same hlg]; exact HT0.out.len, fun k k1 k2 => by rw [text_same hlg]; rw [hlg] at k1; rw [head_same hlg] at k2; exact HT0.out.text k k1 k2⟩
      have HB11 : Hid (Below B w w11) := HB.out.trans (ha11.below HG.out (by have := HB.out.size; have := HWB.out; omega))
      have HR11 : Hid (Rw w11 B ao ca T0) := HRw.out.aside HS.out ha11
      rw [← hTl]
      clear hs11 hmv hlg ha11 HKk HK HTx HH HFl HW HL HT0 hN2 hTl hfl HS10 HB10 HRw HS HB hki
      go_wp2_with fail
      go_loopw [8, 12] (fun v i wr => ∃ (n : Nat) (ao : Option Addr) (ca : Nat) (T : List ByteArray) (S : Sh), i = .int .i64 (n : Int) ∧ v = .slice ao T.length ca ∧ Rw wr B ao ca T ∧ SG wr g S ∧ MvSt S fl n ∧ Told S T ∧ Below B w wr) (fun _ i _ => 70 - (intOf i).toNat)
      case atStart => exact ⟨0, ao, ca, T0, S0, rfl, rfl, HR11.out, HS11.out, HM11.out, HT11.out, HB11.out⟩
      case round =>
        rename World => wq
        clear HR11 HS11 HM11 HT11 HB11
        obtain ⟨n, ao, ca, T, S, rfl, rfl, hrw, hs, hmv, htd, hb⟩ := hrel
        have HR : Hid (Rw wq B ao ca T) := hrw
        have HS : Hid (SG wq g S) := hs
        have HMv : Hid (MvSt S fl n) := hmv
        have HTd : Hid (Told S T) := htd
        have HB : Hid (Below B w wq) := hb
        have HSt : Hid _ := fun w h => GStep S g w h
        have hTl : T.length ≤ 2147483648 := by have := htd.len; have := hs.2.bounds; omega
        have hn68 := hmv.bound hs.2
        clear hrw hs hmv htd hb
        by_cases h0 : S.stage = 0
        · have e0 := stepB_no h0
          have e1 : stepS S = S := by
            unfold stepS
            rw [if_neg (by omega), if_neg (by omega), if_neg (by omega), if_neg (by omega)]
          rw [e0, e1] at HSt
          obtain ⟨hbs, hgn⟩ : S.log.base = fl ∧ S.log.gen = 2 := by
            rcases HMv.out with h | h | h | h | h <;> first | omega | exact ⟨h.2.2.1, h.2.2.2⟩
          have hbd := HS.out.2.bounds
          obtain ⟨k1, k2⟩ := keep_ok h0 (by rw [hgn]; decide) (k := fl) (by omega) (by omega)
          have HBa : Hid _ := fun w h => GBase S g w h
          have HHd : Hid _ := fun w h => GHead S g w h
          have HKf : Hid _ := fun w h => GKeep S (fl : Int) g w h
          rw [k1] at HKf
          rw [hbs] at HBa
          have hlen := HTd.out.len
          obtain ⟨hd, hhd⟩ : ∃ hd, headN S = hd := ⟨_, rfl⟩
          rw [hhd] at HHd hlen
          clear e0 e1 hbs hgn hbd k1 k2 hhd h0
          rw [hlen] at hTl ⊢
          clear hlen
          have hc : ((hd + 1 : Nat) : Int) - 1 = (hd : Int) := by omega
          go_wp2_with fail
          with_reducible refine (HSt.out _ HS.out).mono ?_
          rintro e w12 ⟨rfl, hs12, ha12⟩
          have HS12 : Hid (SG w12 g S) := hs12
          have HB12 : Hid (Below B w w12) := HB.out.trans (ha12.below HG.out (by have := HB.out.size; have := HWB.out; omega))
          clear hs12 ha12
          go_wp2_with fail
          with_reducible refine (HBa.out _ HS12.out).mono ?_
          rintro e w13 ⟨rfl, hb13⟩
          have HS13 : Hid (SG w13 g S) := HS12.out.below hb13
          have HB13 : Hid (Below B w w13) := HB12.out.trans (hb13.mono (by have := HB12.out.size; have := HWB.out; omega))
          clear hb13
          go_wp2_with fail
          with_reducible refine (HHd.out _ HS13.out).mono ?_
          rintro e w14 ⟨rfl, hb14⟩
          have HS14 : Hid (SG w14 g S) := HS13.out.below hb14
          have HB14 : Hid (Below B w w14) := HB13.out.trans (hb14.mono (by have := HB13.out.size; have := HWB.out; omega))
          clear hb14
          go_wp2_with fail
          with_reducible refine (HKf.out _ HS14.out).mono ?_
          rintro e w15 ⟨rfl, _, ha15⟩
          have HB15 : Hid (Below B w w15) := HB14.out.trans (ha15.below HG.out (by have := HB14.out.size; have := HWB.out; omega))
          clear ha15
          go_wp2_with fail
          go_ret
          exact ⟨rfl, by rw [HWB.out]; exact HB15.out⟩
        · rw [stepB_yes HS.out.2 h0] at HSt
          have HM2 : Hid (MvSt (stepS S) fl (n + 1)) := mv_step HS.out.2 HMv.out h0
          have HT2 : Hid (Told (stepS S) T) := told_step HS.out.2 HTd.out
          have hn67 := HM2.out.bound (good_step HS.out.2)
          clear HMv HTd h0
          generalize stepS S = S2 at *
          go_wp2_with fail
          with_reducible refine (HSt.out _ HS.out).mono ?_
          rintro e w12 ⟨rfl, hs12, ha12⟩
          have HS12 : Hid (SG w12 g S2) := hs12
          have HB12 : Hid (Below B w w12) := HB.out.trans (ha12.below HG.out (by have := HB.out.size; have := HWB.out; omega))
          have HR12 : Hid (Rw w12 B ao ca T) := HR.out.aside HS.out ha12
          clear hs12 ha12 HSt HS HB HR
          by_cases hmm : n < m.length
          · obtain ⟨r, hr⟩ : ∃ r, m[n]? = some r := ⟨_, List.getElem?_eq_getElem hmm⟩
            obtain ⟨b, off, ai, ci, rfl, hbl, hrv⟩ := (HM.out.below HB12.out (Nat.le_refl _)).mem hr
            have HFar : Hid (PartsFar w12 g ai r.d) := revs_far hrv HG.out
            obtain ⟨d0, d1, d2, _⟩ := hrv
            have hmi : (n : Int) < (m.length : Int) := by omega
            have hni : (n : Int) + 1 - 1 = (n : Int) := by omega
            have HA : Hid _ := fun w h hp => GAdd S2 r ai ci g w h hp
            clear hr
            by_cases hE : addE S2 r = 0
            · have hN : addN S2 r = (T.length : Int) := by
                rw [addN, if_pos hE]
                have := HT2.out.len
                omega
              have HT3 : Hid (Told (addT S2 r) (T ++ [⟨(shTextR (addT S2 r) (T.length : Int)).toArray⟩])) := by
                have h := told_add HS12.out.2 HT2.out hE
                rw [← HT2.out.len] at h
                exact h
              have HTn : Hid (∀ w, SG w g (addT S2 r) → Calls Try.prog 18 #[.pointer (some ⟨g, 0, none⟩), .int .i64 (T.length : Int)] w fun e w' => e = .returned (.tuple #[.string ⟨(shTextR (addT S2 r) (T.length : Int)).toArray⟩, .int .i64 0]) ∧ Below w.heap.size w w') := by
                intro w h
                have h2 := GText (addT S2 r) (T.length : Int) g w h
                have h3 : hasE (addT S2 r) (T.length : Int) = 0 := by
                  obtain ⟨q1, q2, _⟩ := add_said HS12.out.2 hE
                  have q3 := HT2.out.len
                  have q4 := HS12.out.2.bounds
                  unfold hasE
                  rw [if_neg (by omega), if_neg (by omega)]
                rw [h3] at h2
                exact h2
              have HM3 : Hid (MvSt (addT S2 r) fl (n + 1)) := mv_add HS12.out.2 HM2.out r
              rw [hN, hE] at HA
              obtain ⟨x, hx⟩ : ∃ x : ByteArray, (⟨(shTextR (addT S2 r) (T.length : Int)).toArray⟩ : ByteArray) = x := ⟨_, rfl⟩
              rw [hx] at HT3 HTn
              clear hN hE hx HM2
              generalize addT S2 r = S3 at *
              go_wp2_with fail
              with_reducible refine (HA.out _ HS12.out HFar.out).mono ?_
              rintro e w13 ⟨rfl, hs13, ha13⟩
              have HS13 : Hid (SG w13 g S3) := hs13
              have HB13 : Hid (Below B w w13) := HB12.out.trans (ha13.below HG.out (by have := HB12.out.size; have := HWB.out; omega))
              have HR13 : Hid (Rw w13 B ao ca T) := HR12.out.aside HS12.out ha13
              clear hs13 ha13 d0 d1 d2 hbl
              go_wp2_with fail
              with_reducible refine (HTn.out _ HS13.out).mono ?_
              rintro e w14 ⟨rfl, hb14⟩
              have HS14 : Hid (SG (w14.alloc (.cells #[.string x] 9)) g S3) := (HS13.out.below hb14).below ((Below.refl _ w14).alloc (Nat.le_refl _) _)
              have HB14 : Hid (Below B w w14) := HB13.out.trans (hb14.mono (by have := HB13.out.size; have := HWB.out; omega))
              have HR14 : Hid (w14.ownsRow B 9 1 (.slice ao T.length ca) T.length (T.map Value.string)) := HR13.out.below hb14
              have hzw : B ≤ w14.heap.size := by have := HB14.out.size; have := HWB.out; omega
              clear hb14
              have hAs := own_alloc HR14.out (.cells #[.string x] 9)
              have hNew : (w14.alloc (.cells #[.string x] 9)).heap[w14.heap.size]? = some (.cells #[.string x] 9 (0, 0)) := heap_alloc_new _ _
              go_wp2_with (at_builtin; refine wpList_append_own _ rfl _ _ 46 rfl B 9 ip _ 1 16 Try.underlying46 hip hp0 hp1 hp2 rfl (by decide) _ _ _ rfl hAs ⟨w14.heap.size, 0, none⟩ 1 1 [.string x] rfl rfl (World.news_of_block (cs := #[.string x]) (t := 9) (fr := (0, 0)) hNew) (by simp [Value.oneCell']) ?c3 ?c4 ?c5 ?_)
              case c3 => unfold maxLen; omega
              case c4 => omega
              case c5 => first | omega | (simp; omega)
              intro v' w15 hown2 hgrow _
              obtain ⟨bo, cb2, rfl⟩ := slice_form hown2
              have HB15 : Hid (Below B w w15) := below_own (HB14.out.alloc hzw _) hAs hgrow (by simp; omega)
              have HS15 : Hid (SG w15 g S3) := HS14.out.grown hAs hgrow
              have hT4 : (T ++ [x]).length = T.length + 1 := by simp
              have HR15 : Hid (Rw w15 B bo cb2 (T ++ [x])) := by
                show Rw _ _ _ _ _
                unfold Rw
                rw [hT4, List.map_append]
                exact hown2
              clear hown2 hgrow hAs hNew HS12 HR12 HB12 HS13 HB13 HR13 HS14 HB14 HR14 HT2 HTn HA HFar
              rw [← hT4]
              have hTl4 : (T ++ [x]).length ≤ 2147483649 := by omega
              clear hT4
              generalize T ++ [x] = T4 at *
              have HTf : Hid (Told S3 T4) := HT3.out
              have HMf : Hid (MvSt S3 fl (n + 1)) := HM3.out
              have HBa : Hid _ := fun w h => GBase S3 g w h
              have HHd : Hid _ := fun w h => GHead S3 g w h
              have hbd := HS15.out.2.bounds
              have HTk : Hid (∀ k : Nat, S3.log.base ≤ k → k ≤ headN S3 → ∃ t : ByteArray, (T4)[k]? = some t ∧ ∀ w, SG w g S3 → Calls Try.prog 18 #[.pointer (some ⟨g, 0, none⟩), .int .i64 k] w fun e w' => e = .returned (.tuple #[.string t, .int .i64 0]) ∧ Below w.heap.size w w') := by
                intro k k1 k2
                refine ⟨_, HTf.out.text k k1 k2, fun w h => ?_⟩
                have h2 := GText S3 k g w h
                have h3 : hasE S3 (k : Int) = 0 := by unfold hasE; rw [if_neg (by omega), if_neg (by omega)]
                rw [h3] at h2
                exact h2
              have hlen := HTf.out.len
              obtain ⟨hd, hhd⟩ : ∃ hd, headN S3 = hd := ⟨_, rfl⟩
              obtain ⟨bs, hbs⟩ : ∃ bs, S3.log.base = bs := ⟨_, rfl⟩
              rw [hhd] at HHd hlen hbd HTk
              rw [hbs] at HBa HTk hbd
              have hbh : bs ≤ hd ∧ hd ≤ 2147483647 := ⟨hbd.2.2.2, hbd.2.1⟩
              have h69 : ¬ (69 : Int) < (n : Int) + 1 := by omega
              clear hhd hbs hbd
              go_wp2_with fail
              with_reducible refine (HBa.out _ HS15.out).mono ?_
              rintro e w20 ⟨rfl, hb20⟩
              have HS20 : Hid (SG w20 g S3) := HS15.out.below hb20
              have HR20 : Hid (Rw w20 B bo cb2 (T4)) := HR15.out.below hb20
              have HB20 : Hid (Below B w w20) := HB15.out.trans (hb20.mono (by have := HB15.out.size; have := HWB.out; omega))
              clear hb20 HS15 HR15 HB15
              go_wp2_with fail
              go_loopw [17] (fun i wr => ∃ k : Nat, bs ≤ k ∧ k ≤ hd + 1 ∧ i = .int .i64 (k : Int) ∧ SG wr g S3 ∧ Rw wr B bo cb2 (T4) ∧ Below B w wr) (fun i _ => hd + 1 - (intOf i).toNat)
              case atStart => exact ⟨bs, Nat.le_refl _, by omega, rfl, HS20.out, HR20.out, HB20.out⟩
              case round =>
                rename World => wz
                clear HS20 HR20 HB20
                obtain ⟨k, hk1, hk2, rfl, hs, hrw, hb⟩ := hrel
                have HS : Hid (SG wz g S3) := hs
                have HR : Hid (Rw wz B bo cb2 (T4)) := hrw
                have HB : Hid (Below B w wz) := hb
                clear hs hrw hb
                go_wp2_with fail
                with_reducible refine (HHd.out _ HS.out).mono ?_
                rintro e w21 ⟨rfl, hb21⟩
                have HS21 : Hid (SG w21 g S3) := HS.out.below hb21
                have HR21 : Hid (Rw w21 B bo cb2 (T4)) := HR.out.below hb21
                have HB21 : Hid (Below B w w21) := HB.out.trans (hb21.mono (by have := HB.out.size; have := HWB.out; omega))
                clear hb21
                by_cases hle : k ≤ hd
                · have hki : (k : Int) ≤ (hd : Int) := by omega
                  obtain ⟨t, ht1, ht2⟩ := HTk.out k hk1 hle
                  have HTt : Hid _ := ht2
                  have HAt : Hid ((T4)[k]? = some t) := ht1
                  clear ht1 ht2
                  go_wp2_with fail
                  with_reducible refine (HTt.out _ HS21.out).mono ?_
                  rintro e w22 ⟨rfl, hb22⟩
                  have HS22 : Hid (SG w22 g S3) := HS21.out.below hb22
                  have HR22 : Hid (Rw w22 B bo cb2 (T4)) := HR21.out.below hb22
                  have HB22 : Hid (Below B w w22) := HB21.out.trans (hb22.mono (by have := HB21.out.size; have := HWB.out; omega))
                  clear hb22
                  obtain ⟨gt, hao, hcell, hgt⟩ := HR22.out.at HAt.out
                  have hkl : (k : Int) < ((T4).length : Int) := by omega
                  have hkl2 : ¬ ((T4).length : Int) ≤ (k : Int) := by omega
                  subst hao
                  go_wp2_with fail
                  go_roundw
                  case rel => exact ⟨k + 1, by omega, by omega, by go_num, HS22.out, HR22.out, HB22.out⟩
                  case measure => simp [intOf]; omega
                · have hki : ¬ (k : Int) ≤ (hd : Int) := by omega
                  go_wp2_with fail
                  go_roundw
                  case rel => exact ⟨n + 1, bo, cb2, T4, S3, by go_num, by rw [hlen], HR21.out, HS21.out, HMf.out, HTf.out, HB21.out⟩
                  case measure => simp [intOf]; omega
            · have hEb : (addE S2 r == 0) = false := by simp [hE]
              have HT3 : Hid (Told (addT S2 r) T) := told_not HT2.out hE
              have HM3 : Hid (MvSt (addT S2 r) fl (n + 1)) := mv_add HS12.out.2 HM2.out r
              generalize addT S2 r = S3 at *
              generalize addE S2 r = q at *
              generalize addN S2 r = q2 at *
              clear hE HM2 HT2
              go_wp2_with fail
              with_reducible refine (HA.out _ HS12.out HFar.out).mono ?_
              rintro e w13 ⟨rfl, hs13, ha13⟩
              have HS13 : Hid (SG w13 g S3) := hs13
              have HB13 : Hid (Below B w w13) := HB12.out.trans (ha13.below HG.out (by have := HB12.out.size; have := HWB.out; omega))
              have HR13 : Hid (Rw w13 B ao ca T) := HR12.out.aside HS12.out ha13
              clear hs13 ha13 d0 d1 d2 hbl HS12 HB12 HR12 HA HFar
              have HTf : Hid (Told S3 T) := HT3.out
              have HMf : Hid (MvSt S3 fl (n + 1)) := HM3.out
              have HBa : Hid _ := fun w h => GBase S3 g w h
              have HHd : Hid _ := fun w h => GHead S3 g w h
              have hbd := HS13.out.2.bounds
              have HTk : Hid (∀ k : Nat, S3.log.base ≤ k → k ≤ headN S3 → ∃ t : ByteArray, (T)[k]? = some t ∧ ∀ w, SG w g S3 → Calls Try.prog 18 #[.pointer (some ⟨g, 0, none⟩), .int .i64 k] w fun e w' => e = .returned (.tuple #[.string t, .int .i64 0]) ∧ Below w.heap.size w w') := by
                intro k k1 k2
                refine ⟨_, HTf.out.text k k1 k2, fun w h => ?_⟩
                have h2 := GText S3 k g w h
                have h3 : hasE S3 (k : Int) = 0 := by unfold hasE; rw [if_neg (by omega), if_neg (by omega)]
                rw [h3] at h2
                exact h2
              have hlen := HTf.out.len
              obtain ⟨hd, hhd⟩ : ∃ hd, headN S3 = hd := ⟨_, rfl⟩
              obtain ⟨bs, hbs⟩ : ∃ bs, S3.log.base = bs := ⟨_, rfl⟩
              rw [hhd] at HHd hlen hbd HTk
              rw [hbs] at HBa HTk hbd
              have hbh : bs ≤ hd ∧ hd ≤ 2147483647 := ⟨hbd.2.2.2, hbd.2.1⟩
              have h69 : ¬ (69 : Int) < (n : Int) + 1 := by omega
              clear hhd hbs hbd
              go_wp2_with fail
              with_reducible refine (HBa.out _ HS13.out).mono ?_
              rintro e w20 ⟨rfl, hb20⟩
              have HS20 : Hid (SG w20 g S3) := HS13.out.below hb20
              have HR20 : Hid (Rw w20 B ao ca (T)) := HR13.out.below hb20
              have HB20 : Hid (Below B w w20) := HB13.out.trans (hb20.mono (by have := HB13.out.size; have := HWB.out; omega))
              clear hb20 HS13 HR13 HB13
              go_wp2_with fail
              go_loopw [17] (fun i wr => ∃ k : Nat, bs ≤ k ∧ k ≤ hd + 1 ∧ i = .int .i64 (k : Int) ∧ SG wr g S3 ∧ Rw wr B ao ca (T) ∧ Below B w wr) (fun i _ => hd + 1 - (intOf i).toNat)
              case atStart => exact ⟨bs, Nat.le_refl _, by omega, rfl, HS20.out, HR20.out, HB20.out⟩
              case round =>
                rename World => wz
                clear HS20 HR20 HB20
                obtain ⟨k, hk1, hk2, rfl, hs, hrw, hb⟩ := hrel
                have HS : Hid (SG wz g S3) := hs
                have HR : Hid (Rw wz B ao ca (T)) := hrw
                have HB : Hid (Below B w wz) := hb
                clear hs hrw hb
                go_wp2_with fail
                with_reducible refine (HHd.out _ HS.out).mono ?_
                rintro e w21 ⟨rfl, hb21⟩
                have HS21 : Hid (SG w21 g S3) := HS.out.below hb21
                have HR21 : Hid (Rw w21 B ao ca (T)) := HR.out.below hb21
                have HB21 : Hid (Below B w w21) := HB.out.trans (hb21.mono (by have := HB.out.size; have := HWB.out; omega))
                clear hb21
                by_cases hle : k ≤ hd
                · have hki : (k : Int) ≤ (hd : Int) := by omega
                  obtain ⟨t, ht1, ht2⟩ := HTk.out k hk1 hle
                  have HTt : Hid _ := ht2
                  have HAt : Hid ((T)[k]? = some t) := ht1
                  clear ht1 ht2
                  go_wp2_with fail
                  with_reducible refine (HTt.out _ HS21.out).mono ?_
                  rintro e w22 ⟨rfl, hb22⟩
                  have HS22 : Hid (SG w22 g S3) := HS21.out.below hb22
                  have HR22 : Hid (Rw w22 B ao ca (T)) := HR21.out.below hb22
                  have HB22 : Hid (Below B w w22) := HB21.out.trans (hb22.mono (by have := HB21.out.size; have := HWB.out; omega))
                  clear hb22
                  obtain ⟨gt, hao, hcell, hgt⟩ := HR22.out.at HAt.out
                  have hkl : (k : Int) < ((T).length : Int) := by omega
                  have hkl2 : ¬ ((T).length : Int) ≤ (k : Int) := by omega
                  subst hao
                  go_wp2_with fail
                  go_roundw
                  case rel => exact ⟨k + 1, by omega, by omega, by go_num, HS22.out, HR22.out, HB22.out⟩
                  case measure => simp [intOf]; omega
                · have hki : ¬ (k : Int) ≤ (hd : Int) := by omega
                  go_wp2_with fail
                  go_roundw
                  case rel => exact ⟨n + 1, ao, ca, T, S3, by go_num, by rw [hlen], HR21.out, HS21.out, HMf.out, HTf.out, HB21.out⟩
                  case measure => simp [intOf]; omega
          · have hmi : ¬ (n : Int) < (m.length : Int) := by omega
            have hni : (n : Int) + 1 - 1 = (n : Int) := by omega
            have HTf : Hid (Told S2 T) := HT2.out
            have HMf : Hid (MvSt S2 fl (n + 1)) := HM2.out
            have HBa : Hid _ := fun w h => GBase S2 g w h
            have HHd : Hid _ := fun w h => GHead S2 g w h
            have hbd := HS12.out.2.bounds
            have HTk : Hid (∀ k : Nat, S2.log.base ≤ k → k ≤ headN S2 → ∃ t : ByteArray, (T)[k]? = some t ∧ ∀ w, SG w g S2 → Calls Try.prog 18 #[.pointer (some ⟨g, 0, none⟩), .int .i64 k] w fun e w' => e = .returned (.tuple #[.string t, .int .i64 0]) ∧ Below w.heap.size w w') := by
              intro k k1 k2
              refine ⟨_, HTf.out.text k k1 k2, fun w h => ?_⟩
              have h2 := GText S2 k g w h
              have h3 : hasE S2 (k : Int) = 0 := by unfold hasE; rw [if_neg (by omega), if_neg (by omega)]
              rw [h3] at h2
              exact h2
            have hlen := HTf.out.len
            obtain ⟨hd, hhd⟩ : ∃ hd, headN S2 = hd := ⟨_, rfl⟩
            obtain ⟨bs, hbs⟩ : ∃ bs, S2.log.base = bs := ⟨_, rfl⟩
            rw [hhd] at HHd hlen hbd HTk
            rw [hbs] at HBa HTk hbd
            have hbh : bs ≤ hd ∧ hd ≤ 2147483647 := ⟨hbd.2.2.2, hbd.2.1⟩
            have h69 : ¬ (69 : Int) < (n : Int) + 1 := by omega
            clear hhd hbs hbd
            go_wp2_with fail
            with_reducible refine (HBa.out _ HS12.out).mono ?_
            rintro e w20 ⟨rfl, hb20⟩
            have HS20 : Hid (SG w20 g S2) := HS12.out.below hb20
            have HR20 : Hid (Rw w20 B ao ca (T)) := HR12.out.below hb20
            have HB20 : Hid (Below B w w20) := HB12.out.trans (hb20.mono (by have := HB12.out.size; have := HWB.out; omega))
            clear hb20 HS12 HR12 HB12
            go_wp2_with fail
            go_loopw [17] (fun i wr => ∃ k : Nat, bs ≤ k ∧ k ≤ hd + 1 ∧ i = .int .i64 (k : Int) ∧ SG wr g S2 ∧ Rw wr B ao ca (T) ∧ Below B w wr) (fun i _ => hd + 1 - (intOf i).toNat)
            case atStart => exact ⟨bs, Nat.le_refl _, by omega, rfl, HS20.out, HR20.out, HB20.out⟩
            case round =>
              rename World => wz
              clear HS20 HR20 HB20
              obtain ⟨k, hk1, hk2, rfl, hs, hrw, hb⟩ := hrel
              have HS : Hid (SG wz g S2) := hs
              have HR : Hid (Rw wz B ao ca (T)) := hrw
              have HB : Hid (Below B w wz) := hb
              clear hs hrw hb
              go_wp2_with fail
              with_reducible refine (HHd.out _ HS.out).mono ?_
              rintro e w21 ⟨rfl, hb21⟩
              have HS21 : Hid (SG w21 g S2) := HS.out.below hb21
              have HR21 : Hid (Rw w21 B ao ca (T)) := HR.out.below hb21
              have HB21 : Hid (Below B w w21) := HB.out.trans (hb21.mono (by have := HB.out.size; have := HWB.out; omega))
              clear hb21
              by_cases hle : k ≤ hd
              · have hki : (k : Int) ≤ (hd : Int) := by omega
                obtain ⟨t, ht1, ht2⟩ := HTk.out k hk1 hle
                have HTt : Hid _ := ht2
                have HAt : Hid ((T)[k]? = some t) := ht1
                clear ht1 ht2
                go_wp2_with fail
                with_reducible refine (HTt.out _ HS21.out).mono ?_
                rintro e w22 ⟨rfl, hb22⟩
                have HS22 : Hid (SG w22 g S2) := HS21.out.below hb22
                have HR22 : Hid (Rw w22 B ao ca (T)) := HR21.out.below hb22
                have HB22 : Hid (Below B w w22) := HB21.out.trans (hb22.mono (by have := HB21.out.size; have := HWB.out; omega))
                clear hb22
                obtain ⟨gt, hao, hcell, hgt⟩ := HR22.out.at HAt.out
                have hkl : (k : Int) < ((T).length : Int) := by omega
                have hkl2 : ¬ ((T).length : Int) ≤ (k : Int) := by omega
                subst hao
                go_wp2_with fail
                go_roundw
                case rel => exact ⟨k + 1, by omega, by omega, by go_num, HS22.out, HR22.out, HB22.out⟩
                case measure => simp [intOf]; omega
              · have hki : ¬ (k : Int) ≤ (hd : Int) := by omega
                go_wp2_with fail
                go_roundw
                case rel => exact ⟨n + 1, ao, ca, T, S2, by go_num, by rw [hlen], HR21.out, HS21.out, HMf.out, HTf.out, HB21.out⟩
                case measure => simp [intOf]; omega
end Go.Proofs.Ytpgdgdpncodadaa
