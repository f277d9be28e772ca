/- What the document's own Places.Do, and Do, answer. -/
import Derived.Test.YtgffippimmokiaaOf
import Derived.Test.YtgffippimmokiaaRevText
namespace Go.Proofs.Ytgffippimmokiaa
open Go.RowKit
set_option linter.unusedSimpArgs false
set_option linter.unusedVariables false




set_option maxRecDepth 20000 in
set_option maxHeartbeats 1000000 in
theorem PlDo_any (B : Nat) (pv kv : Value) (qs : List ByteArray) (ks : List Bool) (s : ByteArray) (w : World) (hB : B ≤ w.heap.size)
    (hq : w.ownsRow B 9 1 pv qs.length (qs.map Value.string)) (hk : w.ownsRow B 4 1 kv ks.length (ks.map Value.bool)) (hlen : qs.length = ks.length + 1) (hs : s.size = ks.length) (hks : ks.length ≤ 800000) (hqs : ∀ q ∈ qs, q.size ≤ 800000) :
    Calls Try.prog 115 #[.agg #[pv, kv], .string s] w fun e w' => e = .returned (.string ⟨(plDo qs ks s.data.toList).toArray⟩) ∧ Below w.heap.size w w' := by
  obtain ⟨ao, ca, rfl⟩ := slice_form hq
  obtain ⟨bo, cb, rfl⟩ := slice_form hk
  have HQ : Hid _ := hq
  have HK : Hid _ := hk
  have HL : Hid (qs.length = ks.length + 1) := hlen
  have HS : Hid (s.size = ks.length) := hs
  clear hq hk hlen hs
  go_enter Try.func115, Try.ntmps115
  go_wp2_with fail
  go_loop [5, 11] (fun o i => ∃ (k : Nat) (out : ByteArray), k ≤ ks.length ∧ i = .int .i64 k ∧ o = .string out ∧ out.data.toList ++ plDo (qs.drop k) (ks.drop k) (s.data.toList.drop k) = plDo qs ks s.data.toList ∧ out.size ≤ 1000000 * k) (fun _ i => ks.length - (intOf i).toNat)
  case atStart => exact ⟨0, ⟨#[]⟩, Nat.zero_le _, rfl, rfl, by show [] ++ plDo _ _ _ = _; simp, by decide⟩
  case round =>
    obtain ⟨k, out, hkl, rfl, rfl, hdo, hout⟩ := hrel
    by_cases hlt : k < ks.length
    · obtain ⟨b, hb⟩ : ∃ b, ks[k]? = some b := ⟨ks[k], List.getElem?_eq_getElem hlt⟩
      obtain ⟨q, hq⟩ : ∃ q, qs[k]? = some q := ⟨qs[k]'(by have := HL.out; omega), List.getElem?_eq_getElem _⟩
      have hsl : s.data.toList.length = ks.length := by have h1 : s.data.toList.length = s.size := Array.length_toList; rw [h1, HS.out]
      obtain ⟨c, hc⟩ : ∃ c, s.data.toList[k]? = some c := ⟨s.data.toList[k]'(by omega), List.getElem?_eq_getElem _⟩
      have hst := plDo_step hq hb hc
      have hqb := hqs q (List.mem_of_getElem? hq)
      have H1 : Hid _ := slice_one s hc
      obtain ⟨g, cg, hg, y1, hgw⟩ := own_at HQ.out (show (qs.map Value.string)[k]? = some (.string q) by simp [hq])
      obtain ⟨h, ch, hh, z1, hhw⟩ := own_at HK.out (show (ks.map Value.bool)[k]? = some (.bool b) by simp [hb])
      simp only [Value.slice.injEq, true_and] at hg hh
      obtain ⟨rfl, rfl⟩ := hg
      obtain ⟨rfl, rfl⟩ := hh
      have hlq : (k : Int) < (qs.length : Int) := by have := HL.out; omega
      have hks1 : (k : Int) + 1 ≤ (s.size : Int) := by have := HS.out; omega
      have HST : Hid _ := hst
      have HDO : Hid _ := hdo
      clear hst hdo hq hb hc hsl hqs
      cases b
      · go_wp2_with fail
        go_round
        case rel =>
          refine ⟨k + 1, out ++ q, by omega, by go_num, rfl, ?_, ?_⟩
          · rw [← HDO.out, HST.out, data_append]; simp
          · rw [ByteArray.size_append]; omega
        case measure => simp [intOf]; omega
      · go_wp2_with fail
        go_round
        case rel =>
          refine ⟨k + 1, out ++ q ++ s.extract k (k + 1), by omega, by go_num, ?_, ?_, ?_⟩
          · rfl
          · rw [← HDO.out, HST.out, data_append, data_append, H1.out]; simp
          · rw [ByteArray.size_append, ByteArray.size_append, ByteArray.size_extract]; omega
        case measure => simp [intOf]; omega
    · have hkk : k = ks.length := by omega
      subst hkk
      obtain ⟨q, hq⟩ : ∃ q, qs[ks.length]? = some q := ⟨qs[ks.length]'(by have := HL.out; omega), List.getElem?_eq_getElem _⟩
      have hen := plDo_end (s := s.data.toList) hq
      have hqb := hqs q (List.mem_of_getElem? hq)
      obtain ⟨g, cg, hg, y1, hgw⟩ := own_at HQ.out (show (qs.map Value.string)[ks.length]? = some (.string q) by simp [hq])
      simp only [Value.slice.injEq, true_and] at hg
      obtain ⟨rfl, rfl⟩ := hg
      have hlq : (ks.length : Int) < (qs.length : Int) := by have := HL.out; omega
      have HDO : Hid (out.data.toList ++ q.data.toList = plDo qs ks s.data.toList) := by show _ = _; rw [← hdo, hen]
      clear hdo hq hen hqs
      go_wp2_with fail
      go_ret
      refine ⟨?_, (Below.refl _ _).alloc (Nat.le_refl _) _⟩
      show Ending.returned (.string (out ++ q)) = _
      rw [← HDO.out, ← data_append, str_eq]

set_option maxRecDepth 20000 in
set_option maxHeartbeats 1000000 in
theorem RDo_any (a : Option Addr) (l : List Pt) (cap : Nat) (s : ByteArray) (w : World) (hp : PartsAt w w.heap.size a l) (hs : s.size ≤ 9223372036854775807) :
    Calls Try.prog 87 #[.slice a l.length cap, .string s] w fun e w' => e = .returned (.tuple #[.string ⟨(doT l s).toArray⟩, .int .i64 (fitsE l s.size)]) ∧ Below w.heap.size w w' := by
  have HP : Hid (PartsAt w w.heap.size a l) := hp
  clear hp
  go_enter Try.func87, Try.ntmps87
  go_wp2_with fail
  refine (RFits_any a l cap _ _ HP.out).mono ?_
  rintro e w1 ⟨rfl, hb1⟩
  by_cases h0 : fitsE l s.size = 0
  · have h0' : (fitsE l s.size != 0) = false := by simp [h0]
    obtain ⟨hz0, hin⟩ := fits_zero h0
    have hsm := (sizes_zero hz0).1
    have hrt := sizes_right hz0
    have hR : ∀ p ∈ l, 0 ≤ p.n ∧ (p.k = 2 → p.n = 0) := fun p hp => ⟨(hsm.2 p hp).1, (hrt p hp).2.1⟩
    have hl1 := ofAll_len l
    have hl2 := ofAll_keptlen hR
    have hl3 := ofAll_kept hsm.2
    have hl4 := ofAll_size hsm.2
    have hl5 := hsm.1
    have hdo := plDo_all hR (s := s.data.toList) (by have h1 : s.data.toList.length = s.size := Array.length_toList; rw [h1, hin])
    have HT : Hid (doT l s = plDo (ofAll l).1 (ofAll l).2 s.data.toList ∧ fitsE l s.size = 0) := ⟨by simp [doT, h0, hdo], h0⟩
    have HB1 : Hid (Below w.heap.size w w1) := hb1
    have HP1 : Hid (PartsAt w1 w1.heap.size a l) := HP.out.here hb1 (Nat.le_refl _)
    have HSM : Hid (Small l) := hsm
    have HQ : Hid ((ofAll l).1.length = (ofAll l).2.length + 1 ∧ s.size = (ofAll l).2.length ∧ (ofAll l).2.length ≤ 800000 ∧ ∀ q ∈ (ofAll l).1, q.size ≤ 800000) := ⟨hl1, by omega, by omega, fun q hq => by have := hl4 q hq; omega⟩
    clear h0 hz0 hin hsm hrt hR hl1 hl2 hl3 hl4 hl5 hdo hb1
    go_wp2_with fail
    refine (Of_any a l cap _ HP1.out HSM.out).mono ?_
    rintro e w2 ⟨pv, kv, rfl, ho1, ho2, hb2⟩
    have HO1 : Hid _ := ho1
    have HO2 : Hid _ := ho2
    have hz2 := hb2.size
    have HB2 : Hid (Below w.heap.size w w2) := HB1.out.trans (hb2.mono HB1.out.size)
    clear ho1 ho2 hb2
    go_wp2_with fail
    refine (PlDo_any w1.heap.size pv kv _ _ s _ hz2 HO1.out HO2.out HQ.out.1 HQ.out.2.1 HQ.out.2.2.1 HQ.out.2.2.2).mono ?_
    rintro e w3 ⟨rfl, hb3⟩
    have HB3 : Hid (Below w.heap.size w w3) := HB2.out.trans (hb3.mono HB2.out.size)
    clear hb3
    go_wp2_with fail
    go_ret2
    exact ⟨by rw [HT.out.1, HT.out.2]; rfl, HB3.out⟩
  · have h0' : (fitsE l s.size != 0) = true := by simp [h0]
    have HT : Hid (doT l s = []) := by show _ = _; simp [doT, h0]
    clear h0
    go_wp2_with fail
    go_ret2
    exact ⟨by rw [HT.out]; rfl, hb1⟩

end Go.Proofs.Ytgffippimmokiaa
