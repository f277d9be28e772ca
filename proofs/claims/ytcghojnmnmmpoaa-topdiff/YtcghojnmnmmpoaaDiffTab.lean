/- What diff.shared answers: at i and j, how many bytes s[i:] and t[j:] share. -/
import Derived.Test.YtcghojnmnmmpoaaDiffRow
namespace Go.Proofs.Ytcghojnmnmmpoaa
open Go.RowKit
set_option linter.unusedSimpArgs false
set_option linter.unusedVariables false

theorem own_belowT {w w' : World} {B size n : Nat} {e : TypeId} {v : Value} {xs : List Value} (h : w.ownsRow B e size v n xs) (hb : Below w.heap.size w w') : w'.ownsRow B e size v n xs := by
  refine ⟨h.1, ?_⟩
  rcases h.2 with h0 | ⟨g', cap, cur, h1, hB, hc, h2⟩
  · exact .inl h0
  · exact .inr ⟨g', cap, cur, h1, hB, by rw [hb.block _ (lt_of_heap hc)]; exact hc, h2⟩

def slV (g m : Nat) : Value := .slice (some ⟨g, 0, none⟩) (m + 1) (m + 1)
def tabVals (gs : Nat → Nat) (n m k : Nat) : List Value := (List.range (n + 1)).map (fun i => if k ≤ i then slV (gs i) m else .slice none 0 0)
theorem tab_len (gs : Nat → Nat) (n m k : Nat) : (tabVals gs n m k).length = n + 1 := by simp [tabVals]
theorem tab_at {gs : Nat → Nat} {n m k i : Nat} (h : i ≤ n) : (tabVals gs n m k)[i]? = some (if k ≤ i then slV (gs i) m else .slice none 0 0) := by
  rw [tabVals, List.getElem?_map, List.getElem?_range (by omega)]; rfl
theorem dtab_step (gs : Nat → Nat) (n m : Nat) {k : Nat} (g : Nat) (hk : k ≤ n) : (tabVals gs n m (k + 1)).set k (slV g m) = tabVals (fun i => if i = k then g else gs i) n m k := by
  refine List.ext_getElem? fun i => ?_
  by_cases h : i ≤ n
  · by_cases e : i = k
    · subst e
      rw [List.getElem?_set_self (by rw [tab_len]; omega), tab_at h, if_pos (Nat.le_refl _), if_pos rfl]
    · rw [List.getElem?_set_ne (by omega), tab_at h, tab_at h, if_neg e]
      by_cases h2 : k + 1 ≤ i
      · rw [if_pos h2, if_pos (by omega)]
      · rw [if_neg h2, if_neg (by omega)]
  · rw [List.getElem?_eq_none (by rw [List.length_set, tab_len]; omega), List.getElem?_eq_none (by rw [tab_len]; omega)]
theorem made_sls (n m : Nat) (gs : Nat → Nat) : (madeCells #[Value.slice none 0 0] (n + 1)).toList = tabVals gs n m (n + 1) := by
  refine List.ext_getElem? fun i => ?_
  by_cases h : i ≤ n
  · have h1 : (madeCells #[Value.slice none 0 0] (n + 1)).toList[i]? = some (#[Value.slice none 0 0][i % 1]!) := by
      simp [madeCells, show i < n + 1 by omega]
    rw [h1, Nat.mod_one, tab_at h, if_neg (by omega)]; rfl
  · rw [List.getElem?_eq_none (by simp [size_madeCells]; omega), List.getElem?_eq_none (by rw [tab_len]; omega)]
theorem infoSl : (Try.prog.info? 57).map (fun i => (i.zero, i.size, i.bytes)) = some (some (.slice none 0 0), 1, 24) := by kernel_rfl

/-- the table's rows from k on lie in memory -/
structure TabAt (w : World) (B gt : Nat) (gs : Nat → Nat) (s t : List UInt8) (k : Nat) : Prop where
  row : w.ownsRow B 57 1 (.slice (some ⟨gt, 0, none⟩) (s.length + 1) (s.length + 1)) (s.length + 1) (tabVals gs s.length t.length k)
  rows : ∀ i, k ≤ i → i ≤ s.length → IntRow w B (gs i) (lcsRow (s.drop i) t) ∧ gs i ≠ gt
theorem TabAt.below {w w' : World} {B gt : Nat} {gs : Nat → Nat} {s t : List UInt8} {k : Nat} (h : TabAt w B gt gs s t k) (hb : Below w.heap.size w w') : TabAt w' B gt gs s t k :=
  ⟨own_belowT h.row hb, fun i h1 h2 => ⟨IntRow.below (h.rows i h1 h2).1 hb, (h.rows i h1 h2).2⟩⟩
theorem TabAt.drew {w : World} {B gt : Nat} {gs : Nat → Nat} {s t : List UInt8} {k : Nat} (h : TabAt w B gt gs s t k) : TabAt w.drew B gt gs s t k :=
  ⟨h.row, fun i h1 h2 => h.rows i h1 h2⟩
theorem TabAt.block {w : World} {B gt : Nat} {gs : Nat → Nat} {s t : List UInt8} {k : Nat} (h : TabAt w B gt gs s t k) : B ≤ gt ∧ gt < w.heap.size := h.row.lt gt rfl
theorem TabAt.cell {w : World} {B gt : Nat} {gs : Nat → Nat} {s t : List UInt8} {k : Nat} (h : TabAt w B gt gs s t k) {i : Nat} (hi : i ≤ s.length) : w.cell? ⟨gt, i, none⟩ = some (if k ≤ i then slV (gs i) t.length else .slice none 0 0) := by
  rw [h.row.cellAt i (by omega)]
  exact tab_at hi
/-- one row more -/
theorem TabAt.more {w : World} {B gt g : Nat} {gs : Nat → Nat} {s t : List UInt8} {k : Nat} (h : TabAt w B gt gs s t (k + 1)) (hk : k ≤ s.length) (hr : IntRow w B g (lcsRow (s.drop k) t)) (hg : g ≠ gt) :
    TabAt (w.setCell ⟨gt, k, none⟩ (slV g t.length)) B gt (fun i => if i = k then g else gs i) s t k := by
  refine ⟨?_, fun i h1 h2 => ?_⟩
  · have h1 := (h.row.stored k (slV g t.length)).1
    rw [dtab_step gs _ _ g hk] at h1
    exact h1
  · by_cases e : i = k
    · subst e
      simp only [if_true]
      exact ⟨IntRow.setOther hr (fun x => hg x.symm) _, hg⟩
    · rw [if_neg e]
      obtain ⟨r1, r2⟩ := h.rows i (by omega) h2
      exact ⟨IntRow.setOther r1 (fun x => r2 x.symm) _, r2⟩
theorem lcsRow_nil (t : List UInt8) : lcsRow [] t = List.replicate (t.length + 1) 0 := by
  refine List.ext_getElem? fun i => ?_
  by_cases h : i ≤ t.length
  · have e2 : (List.replicate (t.length + 1) 0)[i]? = some 0 := by rw [List.getElem?_replicate, if_pos (by omega)]
    rw [lcsRow_at h, e2, lcs_nilL]
  · rw [List.getElem?_eq_none (by rw [lcsRow_len]; omega), List.getElem?_eq_none (by simp; omega)]
theorem IntRow.mono {w : World} {B B' g : Nat} {l : List Nat} (h : IntRow w B g l) (hB : B' ≤ B) : IntRow w B' g l :=
  ⟨h.1, h.2.imp id fun ⟨g, cap, cur, h1, h2, r⟩ => ⟨g, cap, cur, h1, Nat.le_trans hB h2, r⟩⟩

set_option maxRecDepth 20000 in
set_option maxHeartbeats 4000000 in
theorem shared_any (s t : ByteArray) (w : World) (hs : s.size ≤ 500) (ht : t.size ≤ 500) :
    Calls Try.prog 77 #[.string s, .string t] w fun e w' => ∃ (g : Nat) (gs : Nat → Nat), e = .returned (.slice (some ⟨g, 0, none⟩) (s.size + 1) (s.size + 1)) ∧ TabAt w' w.heap.size g gs s.data.toList t.data.toList 0 ∧ Below w.heap.size w w' := by
  obtain ⟨ip, hip, hp0, hp1, hp2⟩ := info_parts infoInt
  obtain ⟨iq, hiq, hq0, hq1, hq2⟩ := info_parts infoSl
  have hsl : s.data.toList.length = s.size := Array.length_toList
  have htl : t.data.toList.length = t.size := Array.length_toList
  have HL : Hid (s.data.toList.length = s.size ∧ t.data.toList.length = t.size) := ⟨hsl, htl⟩
  have hbb : ip.bytes * (t.size + 1) ≤ 281474976710656 := by rw [hp2]; omega
  have hbq : iq.bytes * (s.size + 1) ≤ 281474976710656 := by rw [hq2]; omega
  clear hsl htl
  go_enter Try.func77, Try.ntmps77
  go_wp2_with (at_make; refine wpList_make_full _ rfl _ _ 128 rfl w.heap.size 57 iq _ 1 Try.underlying128 hiq hq0 hq1 .i64 .i64 _ _ (s.size + 1) rfl rfl ?m1 ?m2 hbq ?m3 (Nat.le_refl _) ?_)
  case m1 => go_num
  case m2 => go_num
  case m3 => unfold maxLen; omega
  intro w1 hown hgrow
  have HB1 : Hid (Below w.heap.size w w1) := (Below.refl _ _).grown hgrow (Nat.le_refl _) (fun k hk => by simp at hk)
  have HT1 : Hid (TabAt w1 w.heap.size w.heap.size id s.data.toList t.data.toList (s.size + 1)) := by
    show TabAt _ _ _ _ _ _ _
    refine ⟨?_, fun i h1 h2 => by have := HL.out.1; omega⟩
    rw [HL.out.1, HL.out.2, ← made_sls]
    simpa [Value.cells] using hown
  have hz1 := (TabAt.block HT1.out).2
  clear hown hgrow
  go_wp2_with (at_make; refine wpList_make_full _ rfl _ _ 57 rfl w1.heap.size 3 ip _ 1 Try.underlying57 hip hp0 hp1 .i64 .i64 _ _ (t.size + 1) rfl rfl ?m4 ?m5 hbb ?m6 (Nat.le_refl _) ?_)
  case m4 => go_num
  case m5 => go_num
  case m6 => unfold maxLen; omega
  intro w2 hown hgrow
  have hb2 : Below w1.heap.size w1 w2 := (Below.refl _ _).grown hgrow (Nat.le_refl _) (fun k hk => by simp at hk)
  have HB2 : Hid (Below w.heap.size w w2) := HB1.out.trans (hb2.mono HB1.out.size)
  have HR2 : Hid (IntRow w2 w1.heap.size w1.heap.size (lcsRow (s.data.toList.drop s.size) t.data.toList)) := by
    show IntRow _ _ _ _
    rw [List.drop_of_length_le (by rw [HL.out.1]; exact Nat.le_refl _), lcsRow_nil, HL.out.2]
    unfold IntRow
    rw [← made_ints, List.length_replicate]
    simpa [Value.cells] using hown
  have HT2 : Hid (TabAt w2 w.heap.size w.heap.size id s.data.toList t.data.toList (s.size + 1)) := TabAt.below HT1.out hb2
  have c2 := TabAt.cell HT2.out (i := s.size) (by rw [HL.out.1]; exact Nat.le_refl _)
  rw [if_neg (by omega)] at c2
  have f2 := HT2.out.row.frozenAt s.size
  have hz2 := (TabAt.block HT2.out).2
  have hz0 := HB1.out.size
  clear hown hgrow hb2
  go_wp2_with fail
  go_loopw [6] (fun i wr => ∃ (k : Nat) (gs : Nat → Nat), k ≤ s.size ∧ i = .int .i64 ((k : Int) - 1) ∧ TabAt wr w.heap.size w.heap.size gs s.data.toList t.data.toList k ∧ Below w.heap.size w wr) (fun i _ => (intOf i + 1).toNat)
  case atStart =>
    refine ⟨s.size, (fun i => if i = s.size then w1.heap.size else id i), Nat.le_refl _, rfl, ?_, ?_⟩
    · have h := TabAt.more HT2.out (by rw [HL.out.1]; exact Nat.le_refl _) (IntRow.mono HR2.out hz0) (by omega)
      rw [HL.out.2] at h
      exact h
    · exact HB2.out.setCell (Nat.le_refl _) _
  case round =>
    rename World => wo
    obtain ⟨k, gs, hk, rfl, hT, hb⟩ := hrel
    have hz := hb.size
    have HB : Hid (Below w.heap.size w wo) := hb
    by_cases hk0 : k = 0
    · subst hk0
      have HT : Hid _ := hT
      clear hT hb
      go_wp2_with fail
      go_ret
      exact ⟨_, gs, rfl, HT.out, HB.out⟩
    · obtain ⟨j, rfl⟩ : ∃ j, k = j + 1 := ⟨k - 1, by omega⟩
      have hjw : ((j + 1 : Nat) : Int) - 1 = (j : Int) := by omega
      obtain ⟨c, hc⟩ : ∃ c, s.data.toList[j]? = some c := ⟨s.data.toList[j]'(by have := HL.out.1; omega), List.getElem?_eq_getElem _⟩
      have hat := at_byte hc (by omega)
      have HD : Hid (s.data.toList.drop j = c :: s.data.toList.drop (j + 1)) := by
        obtain ⟨h1, h2⟩ := List.getElem?_eq_some_iff.1 hc
        show _ = _
        rw [List.drop_eq_getElem_cons h1, h2]
      have n1 := TabAt.cell hT (i := j + 1) (by rw [HL.out.1]; omega)
      rw [if_pos (Nat.le_refl _), HL.out.2, slV] at n1
      have HRow : Hid _ := (hT.rows (j + 1) (Nat.le_refl _) (by rw [HL.out.1]; omega)).1
      have hzt := (TabAt.block hT).2
      have hjw2 : IntKind.i64.wrap ((j : Int) + 1) = (j : Int) + 1 := IntWalk.i64_in _ ⟨by omega, by omega⟩
      have HT : Hid _ := hT
      have HJ : Hid (j ≤ s.data.toList.length) := by show _ ≤ _; rw [HL.out.1]; omega
      clear hT hb hc
      go_wp2_with fail
      go_region_with (go_at_call 104; refine (row_any c t (s.data.toList.drop (j + 1)) w.heap.size (gs (j + 1)) _ (IntRow.drew HRow.out) ht).mono ?_; rintro e wx ⟨g2, rfl, hr2, hb2⟩; have n0 := TabAt.cell (TabAt.below (TabAt.drew HT.out) hb2) (i := j) HJ.out; rw [if_neg (by omega)] at n0; have f0 := (TabAt.below (TabAt.drew HT.out) hb2).row.frozenAt j; have hzx := (TabAt.block (TabAt.below (TabAt.drew HT.out) hb2)).2)
      all_goals (
        have HT2 : Hid (TabAt wx w.heap.size w.heap.size gs s.data.toList t.data.toList (j + 1)) := TabAt.below (TabAt.drew HT.out) hb2
        have HB2 : Hid (Below w.heap.size w wx) := HB.out.drew.trans (hb2.mono hz)
        have HR3 : Hid (IntRow wx w.heap.size g2 (lcsRow (s.data.toList.drop j) t.data.toList)) := by
          show IntRow _ _ _ _
          rw [HD.out]; exact IntRow.mono hr2 hz
        have HG : Hid (g2 ≠ w.heap.size) := by
          have h1 := (IntRow.block hr2 (by rw [lcsRow_len]; omega)).1
          have h2 : wo.drew.heap.size = wo.heap.size := rfl
          intro e
          omega
        clear hr2 hb2 n0 f0
        go_wp2_with fail
        go_roundw
        case rel =>
          refine ⟨j, (fun i => if i = j then g2 else gs i), by omega, by first | rfl | go_num | (congr 1; omega), ?_, ?_⟩
          · have h := TabAt.more HT2.out HJ.out HR3.out HG.out
            rw [HL.out.2] at h
            exact h
          · exact HB2.out.setCell (Nat.le_refl _) _
        case measure => first | (simp [intOf]; done) | (simp [intOf]; omega))
end Go.Proofs.Ytcghojnmnmmpoaa
