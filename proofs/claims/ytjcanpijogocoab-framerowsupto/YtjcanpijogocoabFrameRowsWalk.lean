/- The law FrameRows, walked: it answers true. -/
import Derived.Test.YtjcanpijogocoabCloneFr
import Derived.Test.YtjcanpijogocoabScan
import Derived.Test.YtjcanpijogocoabNumWithin
namespace Go.Proofs.Ytjcanpijogocoab
open Go.RowKit
set_option linter.unusedSimpArgs false
set_option linter.unusedVariables false

theorem scan_x : scanL [120] = ([], 0) := scan_bad (by decide)
theorem put_nine : putE 9 [122] = 0 ∧ putT 9 [122] = frameL 9 [122] := by decide +kernel
theorem row_len (l : List Fr) (h : ∀ f ∈ l, frOk f = true) : (rowL l).length ≤ 4007 * l.length := by
  induction l with
  | nil => exact Nat.le_refl _
  | cons f l ih =>
    have hf : putE f.k f.t = 0 := by simpa [frOk] using h f (by simp)
    have h3 := (putE_ok hf).2.2
    have h4 := ih (fun g hg => h g (by simp [hg]))
    have e : rowL (f :: l) = frameL f.k.toNat f.t ++ rowL l := by simp [rowL]
    rw [e, List.length_append, frameL_len, List.length_cons]
    omega
theorem row_snoc (l : List Fr) (f : Fr) : rowL (l ++ [f]) = rowL l ++ frameL f.k.toNat f.t := by simp [rowL]
theorem filter_next {L : List Fr} {k : Nat} {f : Fr} (h : L[k]? = some f) : (L.take (k + 1)).filter frOk = (L.take k).filter frOk ++ (if frOk f = true then [f] else []) := by
  rw [List.take_add_one, h]
  show List.filter frOk (L.take k ++ [f]) = _
  rw [List.filter_append]
  congr 1
  by_cases e : frOk f = true <;> simp [e]

set_option maxRecDepth 100000 in
set_option maxHeartbeats 8000000 in
theorem FrameRows_any (a : Option Addr) (l : List Fr) (cap : Nat) (kd : Int) (bd : ByteArray) (k0 : Int) (w : World) (h : FrsAt w w.heap.size a l) (hc : a = none → cap = 0) (hl : l.length ≤ 1048576) (hbl : ∀ f ∈ l, f.t.length ≤ 9223372036854775807) (hbd : bd.size ≤ 9223372036854775807) :
    Calls Try.prog 4 #[.slice a l.length cap, .agg #[.int .i64 kd, .string bd], .int .i64 k0] w fun e w' => e = .returned (.bool true) ∧ Below w.heap.size w w' := by
  obtain ⟨ip, hip, hp0, hp1, hp2⟩ := info_parts infoFrame
  have H0 : Hid _ := fun w => Scan_any ⟨#[120]⟩ w (by decide)
  change Hid (∀ w, Calls Try.prog 9 #[.string ⟨#[120]⟩] w fun e w' => ∃ v, e = .returned (.tuple #[v, .int .i64 (scanL [120]).2]) ∧ w'.ownsRow w.heap.size 23 2 v (scanL [120]).1.length (frAll (scanL [120]).1) ∧ Below w.heap.size w w') at H0
  rw [scan_x] at H0
  have H1 : Hid _ := fun w => FPut_any 9 ⟨#[122]⟩ w (by decide)
  change Hid (∀ w, Calls Try.prog 7 #[.agg #[.int .i64 9, .string ⟨#[122]⟩]] w fun e w' => e = .returned (.tuple #[.string ⟨(putT 9 [122]).toArray⟩, .int .i64 (putE 9 [122])]) ∧ Below w.heap.size w w') at H1
  rw [put_nine.1, put_nine.2] at H1
  have h9 := frameL_len 9 [122]
  obtain ⟨u9, hu9⟩ : ∃ u, frameL 9 [122] = u := ⟨_, rfl⟩
  rw [hu9] at H1 h9
  change u9.length = 8 at h9
  have HHL : Hid (FrsAt (w.alloc (.cells #[.int .i64 kd, .string bd] 23)) (w.alloc (.cells #[.int .i64 kd, .string bd] 23)).heap.size a l) := h.here ((Below.refl _ w).alloc (Nat.le_refl _) _) (Nat.le_refl _)
  have HBL : Hid _ := hbl
  have HC : Hid _ := hc
  clear h hc hbl hu9
  go_enter Try.func4, Try.ntmps4
  go_wp2_with fail
  refine (H0.out _).mono ?_
  rintro e w1 ⟨v, rfl, hown, hb1⟩
  have HB1 : Hid (Below w.heap.size w w1) := ((Below.refl _ w).alloc (Nat.le_refl _) _).trans (hb1.mono (by simp))
  have HF1 : Hid (FBox w1 w.heap.size kd bd) := (fbox_here w kd bd).below hb1
  have HL1 : Hid (FrsAt w1 w1.heap.size a l) := HHL.out.here hb1 (Nat.le_refl _)
  obtain ⟨a0, c0, hv, -⟩ := frs_own hown
  change v = .slice a0 0 c0 at hv
  subst hv
  clear hown hb1 HHL H0
  go_wp2_with fail
  refine (H1.out _).mono ?_
  rintro e w2 ⟨rfl, hb2⟩
  have HB2 : Hid (Below w.heap.size w w2) := HB1.out.trans (hb2.mono HB1.out.size)
  have HF2 : Hid (FBox w2 w.heap.size kd bd) := HF1.out.below hb2
  have HL2 : Hid (FrsAt w2 w2.heap.size a l) := HL1.out.here hb2 (Nat.le_refl _)
  clear hb2 H1 HF1 HL1
  go_wp2_with fail
  refine (CloneFr_any a l cap _ HL2.out HC.out (by omega)).mono ?_
  rintro e w3 ⟨v, rfl, hown, hb3⟩
  have HB3 : Hid (Below w.heap.size w w3) := HB2.out.trans (hb3.mono HB2.out.size)
  have hz3 := hb3.size
  have hAs := own_alloc hown (.cells #[.int .i64 9, .string ⟨#[122]⟩] 23)
  have HB3' : Hid (Below w2.heap.size w2 w3) := hb3
  clear hb3 hown HL2
  go_wp2_with (at_builtin; refine wpList_append_own _ rfl _ _ 33 rfl w2.heap.size 23 ip _ 2 24 Try.underlying33 hip hp0 hp1 hp2 rfl (by decide) _ _ _ rfl hAs ⟨w3.heap.size, 0, none⟩ 1 1 [.int .i64 9, .string ⟨#[122]⟩] rfl rfl ?c2 (by simp [Value.oneCell']) ?c3 ?c4 ?c5 ?_)
  case c2 => exact World.news_of_block (cs := #[.int .i64 9, .string ⟨#[122]⟩]) (t := 23) (fr := (0, 0)) (heap_alloc_new w3 _)
  case c3 => unfold maxLen; omega
  case c4 => omega
  case c5 => first | omega | (simp; omega)
  intro v' w4 hown2 hgrow _
  have HB4' : Hid (Below w2.heap.size w2 w4) := below_own' (HB3'.out.alloc hz3 _) hAs hgrow (by simp; omega)
  have HF4 : Hid (FBox w4 w.heap.size kd bd) := HF2.out.below HB4'.out
  have HB4 : Hid (Below w.heap.size w w4) := HB2.out.trans (HB4'.out.mono HB2.out.size)
  have hown3 : w4.ownsRow w2.heap.size 23 2 v' (l ++ [(⟨9, [122]⟩ : Fr)]).length (frAll (l ++ [(⟨9, [122]⟩ : Fr)])) := fr_snoc (f := ⟨9, [122]⟩) hown2
  obtain ⟨aL, cL, hv, hFL⟩ := frs_own hown3
  subst hv
  have HFL : Hid (FrsAt w4 w4.heap.size aL (l ++ [(⟨9, [122]⟩ : Fr)])) := hFL
  have HBL2 : Hid (∀ f ∈ l ++ [(⟨9, [122]⟩ : Fr)], f.t.length ≤ 9223372036854775807) := by
    intro f hf
    rcases List.mem_append.1 hf with hf | hf
    · exact HBL.out f hf
    · rw [List.mem_singleton] at hf; subst hf; decide
  obtain ⟨L, hL⟩ : ∃ L, l ++ [(⟨9, [122]⟩ : Fr)] = L := ⟨_, rfl⟩
  have hLl : L.length ≤ 1048577 := by rw [← hL, List.length_append, List.length_singleton]; omega
  rw [hL] at HFL HBL2 ⊢
  have hz4 := HB4.out.size
  have hzb : w.heap.size < w4.heap.size := HF4.out.2.2
  clear hFL hown3 hown2 hgrow hAs hL HBL HC HB4' HB3' HB3 HB2 HB1 HF2 hl hz3
  go_wp2_with fail
  go_loopw [11, 12, 50] (fun s v i wr => ∃ (k : Nat) (out : List Fr) (ao : Option Addr) (co : Nat), k ≤ L.length ∧ i = .int .i64 k ∧ s = .string ⟨(rowL out).toArray⟩ ∧ v = .slice ao out.length co ∧ wr.ownsRow w4.heap.size 23 2 (.slice ao out.length co) out.length (frAll out) ∧
    out = (L.take k).filter frOk ∧ Below w4.heap.size w4 wr) (fun _ _ i _ => L.length - (intOf i).toNat)
  case atStart => exact ⟨0, [], none, 0, Nat.zero_le _, rfl, rfl, rfl, World.ownsRow_nil _ _ _ _, rfl, Below.refl _ _⟩
  case round =>
    rename World => wr
    obtain ⟨k, out, ao, co, hk, rfl, rfl, rfl, hown, hout, hb⟩ := hrel
    have hz := hb.size
    have HOK : Hid (∀ f ∈ out, frOk f = true) := by intro f hf; rw [hout] at hf; exact (List.mem_filter.1 hf).2
    have hol : out.length ≤ k := by
      rw [hout]
      refine Nat.le_trans (List.length_filter_le _ _) ?_
      rw [List.length_take]; omega
    have hrl := row_len out HOK.out
    have HO : Hid (wr.ownsRow w4.heap.size 23 2 (.slice ao out.length co) out.length (frAll out)) := hown
    have HB : Hid (Below w4.heap.size w4 wr) := hb
    have HOUT : Hid (out = (L.take k).filter frOk) := hout
    by_cases hlt : k < L.length
    · obtain ⟨f, hf⟩ : ∃ f, L[k]? = some f := ⟨L[k], List.getElem?_eq_getElem hlt⟩
      obtain ⟨b, off, rfl, hbl, c1, c2⟩ := (HFL.out.below hb (Nat.le_refl _)).mem hf
      have HNX : Hid _ := filter_next hf
      have H2 : Hid _ := fun w => FPut_any f.k ⟨f.t.toArray⟩ w (by show f.t.toArray.size ≤ _; have := HBL2.out f (List.mem_of_getElem? hf); simp; omega)
      change Hid (∀ w, Calls Try.prog 7 #[.agg #[.int .i64 f.k, .string ⟨f.t.toArray⟩]] w fun e w' => e = .returned (.tuple #[.string ⟨(putT f.k f.t).toArray⟩, .int .i64 (putE f.k f.t)]) ∧ Below w.heap.size w w') at H2
      have hbw : b < wr.heap.size := by omega
      have hki : (k : Int) < (L.length : Int) := by omega
      clear hown hb hout hf
      by_cases hE : putE f.k f.t = 0
      · have hfok : frOk f = true := by simp [frOk, hE]
        rw [if_pos hfok, ← HOUT.out] at HNX
        have hT : putT f.k f.t = frameL f.k.toNat f.t := by rw [putT, if_pos hE]
        have hfl := frameL_len f.k.toNat f.t
        have h4 := (putE_ok hE).2.2
        rw [hE, hT] at H2
        have HRS : Hid _ := row_snoc out f
        obtain ⟨u, hu⟩ : ∃ u, frameL f.k.toNat f.t = u := ⟨_, rfl⟩
        obtain ⟨acc, hacc⟩ : ∃ u, rowL out = u := ⟨_, rfl⟩
        rw [hu] at H2 hfl HRS
        rw [hacc] at hrl HRS ⊢
        have sa : ∀ w : World, (Op.stringOp .add ⟨acc.toArray⟩ ⟨u.toArray⟩).run Try.prog w = .ok (.string (⟨acc.toArray⟩ ++ ⟨u.toArray⟩)) w := fun w => run_string_add_sum _ _ _ (by show acc.toArray.size + u.toArray.size ≤ _; simp; omega)
        have HAU : Hid ((⟨acc.toArray⟩ : ByteArray) ++ ⟨u.toArray⟩ = ⟨(rowL (out ++ [f])).toArray⟩) := by
          show _ = _
          rw [HRS.out]
          apply ByteArray.ext
          simp
        clear hE hT hu hacc hfok h4
        go_wp2_with fail
        refine (H2.out _).mono ?_
        rintro e w5 ⟨rfl, hb5⟩
        have HB5 : Hid (Below w4.heap.size w4 w5) := (HB.out.alloc hz _).trans (hb5.mono (by simp; omega))
        obtain ⟨q0, q1, q2⟩ := (fbox_here wr f.k ⟨f.t.toArray⟩).below hb5
        have hz5 := HB5.out.size
        have hAs := own_alloc (own_stay (own_alloc HO.out (.cells #[.int .i64 f.k, .string ⟨f.t.toArray⟩] 23)) hb5) (.cells #[.int .i64 f.k, .string ⟨f.t.toArray⟩] 23)
        clear hb5
        go_wp2_with (at_builtin; refine wpList_append_own _ rfl _ _ 33 rfl w4.heap.size 23 ip _ 2 24 Try.underlying33 hip hp0 hp1 hp2 rfl (by decide) _ _ _ rfl hAs ⟨w5.heap.size, 0, none⟩ 1 1 [.int .i64 f.k, .string ⟨f.t.toArray⟩] rfl rfl ?c2 (by simp [Value.oneCell']) ?c3 ?c4 ?c5 ?_)
        case c2 => exact World.news_of_block (cs := #[.int .i64 f.k, .string ⟨f.t.toArray⟩]) (t := 23) (fr := (0, 0)) (heap_alloc_new w5 _)
        case c3 => unfold maxLen; omega
        case c4 => omega
        case c5 => first | omega | (simp; omega)
        intro v' w6 hown2 hgrow _
        obtain ⟨bo, cb2, rfl⟩ := slice_form' hown2
        have HB6 : Hid (Below w4.heap.size w4 w6) := below_own' (HB5.out.alloc hz5 _) hAs hgrow (by simp; omega)
        have HO2 : Hid (w6.ownsRow w4.heap.size 23 2 (.slice bo (out.length + 1) cb2) (out ++ [f]).length (frAll (out ++ [f]))) := fr_snoc hown2
        clear hown2 hgrow hAs q0 q1 q2
        go_wp2_with fail
        go_roundw
        case rel => exact ⟨k + 1, out ++ [f], bo, cb2, by omega, by go_num, by rw [HAU.out], by simp, by have h := HO2.out; rw [List.length_append] at h ⊢; exact h, by rw [HNX.out], HB6.out⟩
        case measure => simp [intOf]; omega
      · have hfok : ¬ frOk f = true := by simp [frOk, hE]
        rw [if_neg hfok, List.append_nil, ← HOUT.out] at HNX
        have hT : putT f.k f.t = [] := by rw [putT, if_neg hE]
        rw [hT] at H2
        obtain ⟨e0, he0⟩ : ∃ x, putE f.k f.t = x := ⟨_, rfl⟩
        rw [he0] at H2 hE
        have he' : (e0 == 0) = false := by simp [hE]
        obtain ⟨acc, hacc⟩ : ∃ u, rowL out = u := ⟨_, rfl⟩
        have HACC : Hid _ := hacc
        rw [hacc] at hrl ⊢
        clear hE hT he0 hfok hacc
        go_wp2_with fail
        refine (H2.out _).mono ?_
        rintro e w5 ⟨rfl, hb5⟩
        have HB5 : Hid (Below w4.heap.size w4 w5) := (HB.out.alloc hz _).trans (hb5.mono (by simp; omega))
        have HO5 : Hid (w5.ownsRow w4.heap.size 23 2 (.slice ao out.length co) out.length (frAll out)) := own_stay (own_alloc HO.out (.cells #[.int .i64 f.k, .string ⟨f.t.toArray⟩] 23)) hb5
        clear hb5
        go_wp2_with fail
        go_roundw
        case rel => exact ⟨k + 1, out, ao, co, by omega, by go_num, by rw [HACC.out], rfl, HO5.out, by rw [HNX.out], HB5.out⟩
        case measure => simp [intOf]; omega
    · have HF5 : Hid (FBox wr w.heap.size kd bd) := HF4.out.below hb
      have HB5 : Hid (Below w.heap.size w wr) := HB4.out.trans (hb.mono hz4)
      obtain ⟨p0, p1, p2⟩ := HF5.out
      have H3 : Hid _ := fun w => FPut_any kd bd w hbd
      have hbdl : bd.data.toList.length = bd.size := Array.length_toList
      have HSR : Hid (∀ r, gotE r ≠ 0 → scanL (rowL out ++ r) = (out, (rowL out).length)) := fun r hr => scan_row hr out HOK.out
      obtain ⟨acc, hacc⟩ : ∃ u, rowL out = u := ⟨_, rfl⟩
      rw [hacc] at hrl HSR ⊢
      clear hown hb hout hacc
      by_cases hE : putE kd bd.data.toList = 0
      · obtain ⟨k1, k2, k3⟩ := putE_ok hE
        have hT : putT kd bd.data.toList = frameL kd.toNat bd.data.toList := by rw [putT, if_pos hE]
        rw [hE, hT] at H3
        have hfl := frameL_len kd.toNat bd.data.toList
        have HCUT : Hid (∀ r, r < (frameL kd.toNat bd.data.toList).length → gotE ((frameL kd.toNat bd.data.toList).take r) = 5) := fun r hr => got_cut (by omega) (by omega) k3 hr
        obtain ⟨u, hu⟩ : ∃ u, frameL kd.toNat bd.data.toList = u := ⟨_, rfl⟩
        rw [hu] at H3 hfl HCUT
        have hul7 : 7 ≤ u.length := by omega
        have hul : u.length ≤ 4007 := by omega
        clear hE hT hu hfl k1 k2 k3 hbdl
        go_wp2_with fail
        refine (H3.out _).mono ?_
        rintro e w6 ⟨rfl, hb6⟩
        have HB6 : Hid (Below w.heap.size w w6) := HB5.out.trans (hb6.mono HB5.out.size)
        have HO6 : Hid (w6.ownsRow w4.heap.size 23 2 (.slice ao out.length co) out.length (frAll out)) := own_stay HO.out hb6
        have hue : u.isEmpty = false := by
          cases u with
          | nil => simp at hul7
          | cons _ _ => rfl
        clear hb6 p0 p1 p2
        go_wp2_with fail
        refine (Within3_any k0 u.length _ (by omega) (by omega)).mono ?_
        rintro e w7 ⟨r, rfl, hr, e7⟩
        subst e7
        have hcr := HCUT.out r hr
        have hsc := HSR.out (u.take r) (by rw [hcr]; decide)
        have hx : ((⟨acc.toArray⟩ : ByteArray) ++ (⟨u.toArray⟩ : ByteArray).extract 0 r).data.toList = acc ++ u.take r := by
          rw [ByteArray.data_append, Array.toList_append, Lib.extract_data]; simp
        have hxz : ((⟨u.toArray⟩ : ByteArray).extract 0 r).size ≤ 4007 := by rw [ByteArray.size_extract]; show min r u.toArray.size - 0 ≤ _; simp; omega
        have H4 : Hid _ := fun w => Scan_any (⟨acc.toArray⟩ ++ (⟨u.toArray⟩ : ByteArray).extract 0 r) w (by rw [ByteArray.size_append]; show acc.toArray.size + _ ≤ _; rw [List.size_toArray]; omega)
        rw [hx, hsc] at H4
        obtain ⟨tn, htn⟩ : ∃ x, (⟨u.toArray⟩ : ByteArray).extract 0 r = x := ⟨_, rfl⟩
        rw [htn] at H4 hxz
        have sa : ∀ w : World, (Op.stringOp .add ⟨acc.toArray⟩ tn).run Try.prog w = .ok (.string (⟨acc.toArray⟩ ++ tn)) w := fun w => run_string_add_sum _ _ _ (by show acc.toArray.size + _ ≤ _; rw [List.size_toArray]; omega)
        clear hcr hsc hx
        go_wp2_with fail
        refine (H4.out _).mono ?_
        rintro e w8 ⟨v8, rfl, hown8, hb8⟩
        have HB8 : Hid (Below w.heap.size w w8) := HB6.out.trans (hb8.mono HB6.out.size)
        have hown9 := own_stay HO6.out hb8
        obtain ⟨a8, c8, rfl, hf8⟩ := frs_own hown8
        have HF8 : Hid (FrsAt w8 w8.heap.size a8 out) := hf8
        have HF9 : Hid (FrsAt w8 w8.heap.size ao out) := by
          obtain ⟨a9, c9, h1, h2⟩ := frs_own hown9
          simp only [Value.slice.injEq, true_and] at h1
          obtain ⟨rfl, rfl⟩ := h1
          exact h2
        clear hown8 hown9 hb8 hf8
        go_wp2_with fail
        refine (EqFr_yes a8 ao out c8 co _ (by omega) HF8.out HF9.out).mono ?_
        rintro e w9 ⟨rfl, hb9⟩
        have HB9 : Hid (Below w.heap.size w w9) := HB8.out.trans (hb9.mono HB8.out.size)
        clear hb9
        go_wp2_with fail
        go_ret
        exact ⟨rfl, HB9.out⟩
      · have hT : putT kd bd.data.toList = [] := by rw [putT, if_neg hE]
        rw [hT] at H3
        obtain ⟨e0, he0⟩ : ∃ x, putE kd bd.data.toList = x := ⟨_, rfl⟩
        rw [he0] at H3 hE
        have he' : (e0 == 0) = false := by simp [hE]
        have hsc := HSR.out [] (by decide)
        rw [List.append_nil] at hsc
        have H4 : Hid _ := fun w => Scan_any ⟨acc.toArray⟩ w (by show acc.toArray.size ≤ _; rw [List.size_toArray]; omega)
        change Hid (∀ w, Calls Try.prog 9 #[.string ⟨acc.toArray⟩] w fun e w' => ∃ v, e = .returned (.tuple #[v, .int .i64 (scanL acc).2]) ∧ w'.ownsRow w.heap.size 23 2 v (scanL acc).1.length (frAll (scanL acc).1) ∧ Below w.heap.size w w') at H4
        rw [hsc] at H4
        have hnil : (⟨acc.toArray⟩ : ByteArray) ++ ⟨#[]⟩ = ⟨acc.toArray⟩ := by apply ByteArray.ext; simp
        have sa : ∀ w : World, (Op.stringOp .add ⟨acc.toArray⟩ ⟨#[]⟩).run Try.prog w = .ok (.string ⟨acc.toArray⟩) w := fun w => by
          rw [run_string_add_sum _ _ _ (by show acc.toArray.size + 0 ≤ _; rw [List.size_toArray]; omega), hnil]
        clear hT he0 hE hsc hbdl hnil
        go_wp2_with fail
        refine (H3.out _).mono ?_
        rintro e w6 ⟨rfl, hb6⟩
        have HB6 : Hid (Below w.heap.size w w6) := HB5.out.trans (hb6.mono HB5.out.size)
        have HO6 : Hid (w6.ownsRow w4.heap.size 23 2 (.slice ao out.length co) out.length (frAll out)) := own_stay HO.out hb6
        clear hb6 p0 p1 p2
        go_wp2_with fail
        refine (H4.out _).mono ?_
        rintro e w8 ⟨v8, rfl, hown8, hb8⟩
        have HB8 : Hid (Below w.heap.size w w8) := HB6.out.trans (hb8.mono HB6.out.size)
        have hown9 := own_stay HO6.out hb8
        obtain ⟨a8, c8, rfl, hf8⟩ := frs_own hown8
        have HF8 : Hid (FrsAt w8 w8.heap.size a8 out) := hf8
        have HF9 : Hid (FrsAt w8 w8.heap.size ao out) := by
          obtain ⟨a9, c9, h1, h2⟩ := frs_own hown9
          simp only [Value.slice.injEq, true_and] at h1
          obtain ⟨rfl, rfl⟩ := h1
          exact h2
        clear hown8 hown9 hb8 hf8
        go_wp2_with fail
        refine (EqFr_yes a8 ao out c8 co _ (by omega) HF8.out HF9.out).mono ?_
        rintro e w9 ⟨rfl, hb9⟩
        have HB9 : Hid (Below w.heap.size w w9) := HB8.out.trans (hb9.mono HB8.out.size)
        clear hb9
        go_wp2_with fail
        go_ret
        exact ⟨rfl, HB9.out⟩
end Go.Proofs.Ytjcanpijogocoab
