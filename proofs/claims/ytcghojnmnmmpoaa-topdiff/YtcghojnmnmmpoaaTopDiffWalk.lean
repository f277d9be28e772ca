/- The law TopDiff, walked: it answers true. (laws/mktopdiff.py) -/
import Derived.Test.YtcghojnmnmmpoaaShRun
import Derived.Test.YtcghojnmnmmpoaaShAddW
import Derived.Test.YtcghojnmnmmpoaaStMem
import Derived.Test.YtcghojnmnmmpoaaDiffOf
import Derived.Test.YtcghojnmnmmpoaaDiffCommon
import Derived.Test.YtcghojnmnmmpoaaBlameOf
import Derived.Test.YtcghojnmnmmpoaaRevL
import Derived.Test.YtcghojnmnmmpoaaRevText
import Derived.Test.YtcghojnmnmmpoaaNormOwn
import Derived.Deep.AppendLies
namespace Go.Proofs.Ytcghojnmnmmpoaa
open Go.RowKit
set_option linter.unusedSimpArgs false
set_option linter.unusedVariables false

/-- what a difference puts -/
theorem cost_puts {d : List Pt} (h : Right d) : (costI d : Int) + outI d = inI d + 2 * (putsI d : Nat) := by
  induction d with
  | nil => rfl
  | cons p r ih =>
    obtain ⟨h1, h2, h3, _⟩ := h p (by simp)
    have h4 := ih (fun q hq => h q (List.mem_cons_of_mem _ hq))
    simp only [costI, outI, inI, putsI]
    rcases h1 with h1 | h1 | h1
    · obtain ⟨g1, g2⟩ := h3 (by omega)
      rw [if_pos h1, if_neg (by omega)]
      omega
    · have g1 := h2 h1
      rw [if_neg (by omega), if_neg (by omega), g1]
      omega
    · obtain ⟨g1, g2⟩ := h3 (by omega)
      rw [if_neg (by omega), if_pos h1]
      omega
/-- the text behind so many -/
def prevT (l : List ByteArray) : Nat → ByteArray
  | 0 => ⟨#[]⟩
  | k + 1 => l[k]?.getD ⟨#[]⟩
theorem prevT_at {l : List ByteArray} {k : Nat} {s : ByteArray} (h : l[k]? = some s) : prevT l (k + 1) = s := by rw [prevT, h]; rfl
/-- their differences, as a history -/
def dfR (l : List ByteArray) (k : Nat) : Rv := ⟨((k % 8 : Nat) : Int), (k : Int) + 1, diffL (prevT l k).data.toList (prevT l (k + 1)).data.toList⟩
def dfH (l : List ByteArray) : Nat → List Rv
  | 0 => []
  | k + 1 => dfH l k ++ [dfR l k]
theorem dfH_len (l : List ByteArray) : ∀ k, (dfH l k).length = k
  | 0 => rfl
  | k + 1 => by rw [dfH, List.length_append, dfH_len l k]; rfl
/-- none of the first so many is too long -/
def ShortS (l : List ByteArray) (k : Nat) : Prop := ∀ j, j ≤ k → (prevT l j).size ≤ 500
theorem short_next {l : List ByteArray} {k : Nat} {s : ByteArray} (h : ShortS l k) (hk : l[k]? = some s) (hs : s.size ≤ 500) : ShortS l (k + 1) := by
  intro j hj
  by_cases e : j = k + 1
  · rw [e, prevT_at hk]; exact hs
  · exact h j (by omega)
theorem df_one {l : List ByteArray} {k : Nat} (h : ShortS l (k + 1)) (hk : k < 2147483647) : oneE (dfR l k) = 0 ∧ fitsE (dfR l k).d ((prevT l k).data.toList.length : Nat) = 0 ∧ doL (dfR l k).d (prevT l k).data.toList = (prevT l (k + 1)).data.toList ∧
    putW (wordL (dfR l k).d) + lcs (prevT l k).data.toList (prevT l (k + 1)).data.toList = (prevT l (k + 1)).size := by
  have e1 : (prevT l k).data.toList.length = (prevT l k).size := Array.length_toList
  have e2 : (prevT l (k + 1)).data.toList.length = (prevT l (k + 1)).size := Array.length_toList
  have b1 := h k (by omega)
  have b2 := h (k + 1) (Nat.le_refl _)
  obtain ⟨d1, d2, d3, d4, d5, d6⟩ := diff_facts (s := (prevT l k).data.toList) (t := (prevT l (k + 1)).data.toList) (by omega) (by omega)
  obtain ⟨g, _, i, o, _, _⟩ := delta_facts d3
  refine ⟨?_, fits_of d3 d4, d5, ?_⟩
  · rw [oneE, if_neg (by show ¬ (((k % 8 : Nat) : Int) < 0 ∨ (7 : Int) < ((k % 8 : Nat) : Int) ∨ (k : Int) + 1 < 0 ∨ (2147483647 : Int) < (k : Int) + 1); omega)]
    exact d3
  · have hr := sizes_right d3
    have h2 := cost_puts hr
    have h3 : outI (diffL (prevT l k).data.toList (prevT l (k + 1)).data.toList) = ((prevT l (k + 1)).data.toList.length : Nat) := by
      rw [o, ← doW_len (wordL (diffL (prevT l k).data.toList (prevT l (k + 1)).data.toList)) (prevT l k).data.toList (by omega)]
      have h6 := doL_word (diffL (prevT l k).data.toList (prevT l (k + 1)).data.toList) (prevT l k).data.toList
      rw [← h6, d5]
    have h4 : putW (wordL (dfR l k).d) = putsI (diffL (prevT l k).data.toList (prevT l (k + 1)).data.toList) := puts_word hr
    omega
theorem df_facts {l : List ByteArray} : ∀ {k : Nat}, ShortS l k → k ≤ 2147483647 → histE [] (dfH l k) = 0 ∧ textAt [] (dfH l k) k = (prevT l k).data.toList
  | 0, _, _ => ⟨rfl, rfl⟩
  | k + 1, h, hk => by
    obtain ⟨h1, h2⟩ := df_facts (k := k) (fun j hj => h j (by omega)) (by omega)
    obtain ⟨o1, o2, o3, _⟩ := df_one h (by omega)
    have hl := dfH_len l k
    have ht : textAt [] (dfH l k) (dfH l k).length = (prevT l k).data.toList := by rw [hl]; exact h2
    refine ⟨hist_snoc h1 o1 (by rw [ht]; exact o2), ?_⟩
    have hr : (dfH l (k + 1))[k]? = some (dfR l k) := by rw [dfH, List.getElem?_append_right (by omega), hl]; simp
    have h5 := text_next (s := []) hr
    rw [h5]
    have h6 := text_snoc [] (dfH l k) (dfR l k)
    rw [hl] at h6
    rw [show dfH l (k + 1) = dfH l k ++ [dfR l k] from rfl, h6, h2]
    exact o3
theorem df_text {l : List ByteArray} {k n : Nat} (hk : k ≤ n) : textAt [] (dfH l n) k = textAt [] (dfH l k) k := by
  induction n with
  | zero => rw [show k = 0 by omega]
  | succ n ih =>
    by_cases e : k = n + 1
    · rw [e]
    · rw [dfH, textAt_pre k _ _ _ (by rw [dfH_len]; omega)]
      exact ih (by omega)
theorem df_check {l : List ByteArray} {k : Nat} (h : ShortS l k) (hk : k ≤ 64) : checkE [] (dfH l k) = 0 := by
  rw [checkE, if_neg (by rw [dfH_len]; simp; omega)]
  exact (df_facts h (by omega)).1
/-- the last one puts no more than its difference asks -/
theorem df_blame {l : List ByteArray} {k : Nat} (h : ShortS l (k + 1)) (hk : k < 64) : (blameL [] (dfH l (k + 1)) 1).length = (prevT l (k + 1)).size ∧
    (blameL [] (dfH l (k + 1)) 1).count (k + 1) + lcs (prevT l k).data.toList (prevT l (k + 1)).data.toList = (prevT l (k + 1)).size := by
  obtain ⟨h1, h2⟩ := df_facts h (by omega)
  obtain ⟨_, _, _, o4⟩ := df_one h (by omega)
  have hl := blame_len (x := []) (i := 1) h1 rfl
  rw [dfH_len, h2] at hl
  refine ⟨hl.trans Array.length_toList, ?_⟩
  rw [dfH, blame_app, dfH_len, show 1 + k = k + 1 by omega]
  have hm : (k + 1) ∉ blameL [] (dfH l k) 1 := by
    intro hm
    rcases blame_mem hm with hm | hm
    · cases hm
    · rw [dfH_len] at hm; omega
  have h3 : blameL (blameL [] (dfH l k) 1) [dfR l k] (k + 1) = blW (wordL (dfR l k).d) (blameL [] (dfH l k) 1) (k + 1) := rfl
  rw [h3, blW_own hm]
  exact o4
set_option maxHeartbeats 1000000 in
theorem DiffOf_own (s t : ByteArray) (w : World) (hs : s.size ≤ 500) (ht : t.size ≤ 500) :
    Calls Try.prog 36 #[.string s, .string t] w fun e w' => ∃ v, e = .returned (.tuple #[v, .int .i64 0]) ∧ w'.ownsRow w.heap.size 45 3 v (diffL s.data.toList t.data.toList).length (allCells (diffL s.data.toList t.data.toList)) ∧ Below w.heap.size w w' := by
  have hsl : s.data.toList.length = s.size := Array.length_toList
  have htl : t.data.toList.length = t.size := Array.length_toList
  obtain ⟨d1, d2, _⟩ := diff_facts (s := s.data.toList) (t := t.data.toList) (by omega) (by omega)
  have HD : Hid (normE (stepsL s.data.toList t.data.toList) = 0 ∧ normL (stepsL s.data.toList t.data.toList) = diffL s.data.toList t.data.toList) := ⟨d1, d2⟩
  clear hsl htl d1 d2
  go_enter Try.func36, Try.ntmps36
  go_wp2_with fail
  refine (shared_any s t _ hs ht).mono ?_
  rintro e w1 ⟨gt, gs, rfl, hT, hb1⟩
  have HT : Hid _ := hT
  have HB1 : Hid (Below w.heap.size w w1) := hb1
  clear hT hb1
  go_wp2_with fail
  refine (dsteps_any s t _ gt gs _ HT.out hs ht).mono ?_
  rintro e w2 ⟨a2, c2, rfl, hp2, hb2⟩
  have HP : Hid _ := hp2
  have HB2 : Hid (Below w.heap.size w w2) := HB1.out.trans (hb2.mono HB1.out.size)
  clear hp2 hb2
  go_wp2_with fail
  refine (NormW_any a2 _ c2 _ HP.out).mono ?_
  rintro e w3 ⟨v3, rfl, hp3, hb3⟩
  rw [HD.out.2] at hp3
  rw [HD.out.1]
  have HP3 : Hid _ := rz_base hp3 HB2.out.size
  have HB3 : Hid (Below w.heap.size w w3) := HB2.out.trans (hb3.mono HB2.out.size)
  clear hp3 hb3
  go_wp2_with fail
  go_ret2
  exact ⟨v3, rfl, HP3.out, HB3.out⟩
theorem elemStrs : Try.prog.underlying 64 = some (.slice (Try.prog.elem 64)) := by kernel_rfl
theorem Try.sizeStrs : ∀ w : World, (sizeOf (Try.prog.elem 64)).run Try.prog w = .ok 1 w := fun w => by kernel_rfl
/-- l[:k] -/
theorem strs_to {w : World} {B : Nat} {a : Option Addr} {l : List ByteArray} {c : Nat} (h : StAt w B a l c) {k : Nat} (hk : k ≤ l.length) :
    ∃ l2, l2 = l.take k ∧ l2.length = k ∧ StAt w B a l2 c ∧ ∀ w' : World, (Instr.slice 64 (.slice a l.length c) none (some (.int .i64 (k : Int))) none).run Try.prog w' = .ok (.slice a l2.length c) w' := by
  have hc := h.1
  refine ⟨_, rfl, by rw [List.length_take]; omega, h.cut k, fun w' => ?_⟩
  rw [run_slice_h w' 64 a l.length c elemStrs .i64 (k : Int) (by omega) (by omega), Try.sizeStrs]
  simp only [Result.andThen, sliced, Int.toNat_natCast]
  rw [List.length_take, Nat.min_eq_left hk]
  cases a <;> simp [Addr.add]
theorem min_td (ts : Array TypeId) (t : TypeId) (a m : Nat) (h : m = min a 20) (w : World) : (Builtin.min_ ts t #[.int .i64 (a : Int), .int .i64 20]).run Try.prog w = .ok (.int .i64 (m : Int)) w := by
  subst h
  by_cases h : a < 20
  · have h1' : (a : Int) < 20 := by omega
    have h2' : ¬ (20 : Int) < (a : Int) := by omega
    simp [Builtin.min_, Builtin.min2, h1', h2']; omega
  · have h1' : ¬ (a : Int) < 20 := by omega
    by_cases h2 : 20 < a
    · have h2' : (20 : Int) < (a : Int) := by omega
      simp [Builtin.min_, Builtin.min2, h1', h2']; omega
    · have h2' : ¬ (20 : Int) < (a : Int) := by omega
      simp [Builtin.min_, Builtin.min2, h1', h2']; omega
set_option maxHeartbeats 1000000 in
theorem prev_any (a : Option Addr) (l : List ByteArray) (c : Nat) (w : World) (h : StAt w w.heap.size a l c) (hl : 1 ≤ l.length) (h20 : l.length ≤ 20) :
    Calls Try.prog 38 #[.slice a l.length c] w fun e w' => e = .returned (.string (prevT l (l.length - 1))) ∧ w' = w := by
  obtain ⟨n, hn⟩ : ∃ n, l.length = n := ⟨_, rfl⟩
  by_cases h2 : n < 2
  · have e : prevT l (n - 1) = ⟨#[]⟩ := by rw [show n - 1 = 0 by omega]; rfl
    have q : (n : Int) < 2 := by omega
    rw [hn, e]
    clear h hl h20 hn h2 e
    go_enter Try.func38, Try.ntmps38
    go_wp2_with fail
    go_ret
    exact ⟨rfl, rfl⟩
  · obtain ⟨m, rfl⟩ : ∃ m, n = m + 2 := ⟨n - 2, by omega⟩
    obtain ⟨s, hs⟩ : ∃ s, l[m]? = some s := ⟨_, List.getElem?_eq_getElem (by omega)⟩
    obtain ⟨b, off, rfl, hb, hc⟩ := h.mem hs
    have e : prevT l (m + 2 - 1) = s := by rw [show m + 2 - 1 = m + 1 by omega]; exact prevT_at hs
    have q : ¬ ((m + 2 : Nat) : Int) < 2 := by omega
    have hw : IntKind.i64.wrap (((m + 2 : Nat) : Int) - 2) = (m : Int) := by rw [IntWalk.i64_in _ ⟨by omega, by omega⟩]; omega
    have q1 : (0 : Int) ≤ (m : Int) := by omega
    have q2 : (m : Int) < ((m + 2 : Nat) : Int) := by omega
    rw [hn, e]
    clear h hl h20 hn h2 e hs
    obtain ⟨N, hN⟩ : ∃ N, m + 2 = N := ⟨_, rfl⟩
    rw [hN] at q hw q2 ⊢
    clear hN
    go_enter Try.func38, Try.ntmps38
    go_wp2_with fail
    go_ret
    exact ⟨rfl, rfl⟩
theorem cnt_snoc {x : List Nat} {j q n : Nat} (h : x[j]? = some q) : (x.take (j + 1)).count n = (x.take j).count n + (if q = n then 1 else 0) := by
  rw [List.take_add_one, h, List.count_append]
  congr 1
  by_cases e : q = n
  · rw [if_pos e, e]; simp
  · rw [if_neg e]; simp [e]
set_option maxRecDepth 20000 in
set_option maxHeartbeats 16000000 in
theorem TopDiff_any (a : Option Addr) (l : List ByteArray) (cap : Nat) (w : World) (hl : StAt w w.heap.size a l cap) :
    Calls Try.prog 7 #[.slice a l.length cap] w fun e w' => e = .returned (.bool true) ∧ Below w.heap.size w w' := by
  obtain ⟨ip, hip, hp0, hp1, hp2⟩ := info_parts infoRev
  obtain ⟨B, hB⟩ : ∃ B, w.heap.size = B := ⟨_, rfl⟩
  have HWB : Hid (w.heap.size = B) := hB
  rw [hB] at hl
  obtain ⟨N, hN⟩ : ∃ N, min l.length 20 = N := ⟨_, rfl⟩
  have hmn := fun ts t w => min_td ts t l.length N hN.symm w
  obtain ⟨L, hL, hLn, hst, hrun⟩ := strs_to hl (k := N) (by omega)
  have HL : Hid (StAt w B a L cap) := hst
  have HLn : Hid (L.length = N ∧ N ≤ 20) := ⟨hLn, by omega⟩
  have HBg : Hid _ := fun w => begun_any w
  have hll : l.length ≤ 9223372036854775807 := Nat.le_trans hl.1 hl.2.1
  have hlc := hl.1
  have hcc := hl.2.1
  have hNl : N ≤ l.length := by omega
  rw [hLn] at hrun
  clear hL hst hN hl hB hLn
  go_enter Try.func7, Try.ntmps7
  go_wp2_with fail
  clear hmn hrun
  with_reducible refine (HBg.out _).mono ?_
  rintro e w1 ⟨rfl, hb1⟩
  have HB1 : Hid (Below B w w1) := by rw [← HWB.out]; exact hb1
  have hn20 := HLn.out.2
  clear hb1 HBg hll hlc hcc hNl
  go_wp2_with fail
  go_loopw [3, 4, 27] (fun hv nv i wr => ∃ (k : Nat) (ao : Option Addr) (ca : Nat) (xs : List (Rv × Option Addr × Nat)), k ≤ N ∧ i = .int .i64 (k : Int) ∧ nv = .string (prevT L k) ∧ hv = .slice ao k ca ∧ (xs.length = k ∧ xs.map (·.1) = dfH L k ∧ ShortS L k) ∧ RzsOwn wr B (.slice ao k ca) xs ∧ Below B w wr) (fun _ _ i _ => N - (intOf i).toNat)
  case atStart => exact ⟨0, none, 0, [], Nat.zero_le _, rfl, rfl, rfl, ⟨rfl, rfl, fun j hj => by rw [show j = 0 by omega]; exact (show (⟨#[]⟩ : ByteArray).size ≤ 500 by decide)⟩, rzs_nil _ _, HB1.out⟩
  case round =>
    rename World => wr
    obtain ⟨k, ao, ca, xs, hk, rfl, rfl, rfl, hx, hz, hb⟩ := hrel
    have HX : Hid (xs.length = k ∧ xs.map (·.1) = dfH L k ∧ ShortS L k) := hx
    have HZ : Hid (RzsOwn wr B (.slice ao k ca) xs) := hz
    have HB : Hid (Below B w wr) := hb
    clear hx hz hb HB1
    by_cases hlt : k < N
    · have hki : (k : Int) < (N : Int) := by omega
      obtain ⟨s, hs⟩ : ∃ s, L[k]? = some s := ⟨_, List.getElem?_eq_getElem (by have := HLn.out.1; omega)⟩
      obtain ⟨b, off, rfl, hbB, hcell⟩ := (HL.out.below HB.out (Nat.le_refl _)).mem hs
      have hsz := HL.out.2.2.2.2 s (List.mem_of_getElem? hs)
      have hps := HX.out.2.2 k (Nat.le_refl _)
      have hbw : b < wr.heap.size := by have := HB.out.size; have := HWB.out; omega
      by_cases h5 : s.size ≤ 500
      · have hq5 : ¬ (500 : Int) < (s.size : Int) := by omega
        have HSn : Hid (ShortS L (k + 1)) := short_next HX.out.2.2 hs h5
        have hone := (df_one HSn.out (by omega)).1
        have HPN : Hid (prevT L (k + 1) = s) := prevT_at hs
        have HRv : Hid (dfR L k = ⟨((k % 8 : Nat) : Int), (k : Int) + 1, diffL (prevT L k).data.toList s.data.toList⟩) := by
          show _ = _
          rw [dfR, HPN.out]
        rw [HRv.out] at hone
        have HOne : Hid _ := hone
        have HD : Hid _ := fun w => DiffOf_own (prevT L k) s w hps h5
        obtain ⟨D, hD⟩ : ∃ D, diffL (prevT L k).data.toList s.data.toList = D := ⟨_, rfl⟩
        rw [hD] at HD HRv HOne
        clear hone hD hs hps
        go_wp2_with fail
        clear hcell hbw hbB
        with_reducible refine (HD.out _).mono ?_
        rintro e w2 ⟨v2, rfl, ho2, hb2⟩
        obtain ⟨ad, cd, rfl⟩ := slice_form' ho2
        have HZ2 : Hid (RzsOwn w2 B (.slice ao k ca) xs) := HZ.out.below hb2
        have HO2 : Hid (w2.ownsRow B 45 3 (.slice ad D.length cd) D.length (allCells D)) := rz_base ho2 (by have := HB.out.size; have := HWB.out; omega)
        have HB2 : Hid (Below B w w2) := HB.out.trans (hb2.mono (by have := HB.out.size; have := HWB.out; omega))
        clear ho2 hb2 HB HZ HD
        obtain ⟨m8, hm8⟩ : ∃ m8, k % 8 = m8 := ⟨_, rfl⟩
        have ht8 : (k : Int).tmod 8 = (m8 : Int) := by
          rw [Int.tmod_eq_emod_of_nonneg (by omega)]; omega
        have hw8 : IntKind.i64.wrap (m8 : Int) = (m8 : Int) := IntWalk.i64_in _ ⟨by omega, by omega⟩
        have hw1 : IntKind.i64.wrap ((k : Int) + 1) = (k : Int) + 1 := IntWalk.i64_in _ ⟨by omega, by omega⟩
        rw [hm8] at HRv HOne
        have hz2 := HB2.out.size
        have hz2w := HWB.out
        have hAs := (HZ2.out.below ((Below.refl _ w2).alloc (Nat.le_refl _) (.cells #[.int .i64 (m8 : Int), .int .i64 ((k : Int) + 1), .slice ad D.length cd] 27))).2
        rw [HX.out.1] at hAs
        have hNew : (w2.alloc (.cells #[.int .i64 (m8 : Int), .int .i64 ((k : Int) + 1), .slice ad D.length cd] 27)).heap[w2.heap.size]? = some (.cells #[.int .i64 (m8 : Int), .int .i64 ((k : Int) + 1), .slice ad D.length cd] 27 (0, 0)) := heap_alloc_new _ _
        have HO4 : Hid ((w2.alloc (.cells #[.int .i64 (m8 : Int), .int .i64 ((k : Int) + 1), .slice ad D.length cd] 27)).ownsRow B 45 3 (.slice ad D.length cd) D.length (allCells D)) := own_stay HO2.out ((Below.refl _ w2).alloc (Nat.le_refl _) _)
        have HZ4 : Hid (RzsOwn (w2.alloc (.cells #[.int .i64 (m8 : Int), .int .i64 ((k : Int) + 1), .slice ad D.length cd] 27)) B (.slice ao k ca) xs) := HZ2.out.below ((Below.refl _ w2).alloc (Nat.le_refl _) _)
        clear hm8
        go_wp2_with (at_builtin; refine wpList_append_own _ rfl _ _ 22 rfl B 27 ip _ 3 40 Try.underlying22 hip hp0 hp1 hp2 rfl (by decide) _ _ _ rfl hAs ⟨w2.heap.size, 0, none⟩ 1 1 [.int .i64 (m8 : Int), .int .i64 ((k : Int) + 1), .slice ad D.length cd] rfl rfl (World.news_of_block (cs := #[.int .i64 (m8 : Int), .int .i64 ((k : Int) + 1), .slice ad D.length cd]) (t := 27) (fr := (0, 0)) hNew) (by simp [Value.oneCell']) ?c3 ?c4 ?c5 ?_)
        case c3 => unfold maxLen; omega
        case c4 => omega
        case c5 => first | omega | (simp; omega)
        intro v' w5 hown2 hgrow _
        obtain ⟨bo, cb2, rfl⟩ := slice_form' hown2
        have HB5 : Hid (Below B w w5) := below_own' (HB2.out.alloc (by omega) _) hAs hgrow (by simp; omega)
        have HZ5 : Hid (RzsOwn w5 B (.slice bo (k + 1) cb2) (xs ++ [(dfR L k, ad, cd)])) := by
          rw [HRv.out]
          refine ⟨fun x hx => ?_, ?_⟩
          · rcases List.mem_append.1 hx with hx | hx
            · exact (HZ4.out.1 x hx).grown hAs hgrow
            · rw [List.mem_singleton.1 hx]
              exact RzOwn.grown ⟨HOne.out, HO4.out⟩ hAs hgrow
          · have e : rvAll (xs ++ [((⟨(m8 : Int), (k : Int) + 1, D⟩ : Rv), ad, cd)]) = rvAll xs ++ [.int .i64 (m8 : Int), .int .i64 ((k : Int) + 1), .slice ad D.length cd] := by rw [rvAll_app]; rfl
            rw [e, List.length_append, List.length_singleton, HX.out.1]
            exact hown2
        clear hown2 hgrow hAs hNew hw8 ht8 hz2 hz2w
        go_wp2_with fail
        go_roundw
        case rel => exact ⟨k + 1, bo, cb2, _, hlt, by go_num, by rw [HPN.out], rfl, ⟨by rw [List.length_append, List.length_singleton, HX.out.1], by rw [List.map_append, HX.out.2.1]; rfl, HSn.out⟩, HZ5.out, HB5.out⟩
        case measure => simp [intOf]; omega
      · have hq5 : (500 : Int) < (s.size : Int) := by omega
        have HD : Hid _ := fun w => DiffOf_not (prevT L k) s w (.inr (by omega)) (by omega) hsz
        clear h5 hs hps
        go_wp2_with fail
        clear hcell hbw hbB
        with_reducible refine (HD.out _).mono ?_
        rintro e w2 ⟨rfl, rfl⟩
        have HBe : Hid (Below w.heap.size w w2) := by rw [HWB.out]; exact HB.out
        go_wp2_with fail
        go_ret
        exact ⟨rfl, HBe.out⟩
    · have hki : ¬ (k : Int) < (N : Int) := by omega
      obtain rfl : k = N := by omega
      obtain ⟨a8, c8, e8, hc8, hR8⟩ := rzs_at HZ.out (by have := HX.out.1; omega)
      rw [HX.out.1] at e8 hc8
      rw [HX.out.2.1] at hR8
      simp only [Value.slice.injEq, true_and] at e8
      obtain ⟨rfl, rfl⟩ := e8
      have HR : Hid (RevsAt wr wr.heap.size ao (dfH L k)) := hR8
      have HSh : Hid (ShortS L k) := HX.out.2.2
      have hlen : (dfH L k).length = k := dfH_len L k
      have hck := df_check HSh.out (by omega)
      have HTx : Hid (∀ j : Nat, j < k → ∀ w, RevsAt w w.heap.size ao (dfH L k) → Calls Try.prog 31 #[.string ⟨#[]⟩, .slice ao k ca, .int .i64 ((j : Int) + 1)] w fun e w' => e = .returned (.tuple #[.string (prevT L (j + 1)), .int .i64 0]) ∧ Below w.heap.size w w') := by
        intro j hj w h
        have h2 := Text_ok ⟨#[]⟩ ao (dfH L k) ca (j + 1) w h (by omega) hck (by omega)
        have h3 : (⟨(textAt (⟨#[]⟩ : ByteArray).data.toList (dfH L k) (j + 1)).toArray⟩ : ByteArray) = prevT L (j + 1) := by
          rw [show (⟨#[]⟩ : ByteArray).data.toList = [] from rfl, df_text (by omega), (df_facts (k := j + 1) (fun i hi => HSh.out i (by omega)) (by omega)).2]
        rw [h3, hlen, show ((j + 1 : Nat) : Int) = (j : Int) + 1 by omega] at h2
        exact h2
      have HBl : Hid (∀ w, RevsAt w w.heap.size ao (dfH L k) → Calls Try.prog 33 #[.string ⟨#[]⟩, .slice ao k ca] w fun e w' => ∃ a' c', e = .returned (.tuple #[.slice a' (blameL [] (dfH L k) 1).length c', .int .i64 0]) ∧ NatsAt w' w'.heap.size a' (blameL [] (dfH L k) 1) c' ∧ Below w.heap.size w w') := by
        intro w h
        have h2 := BlameOf_ok ⟨#[]⟩ ao (dfH L k) ca w h hck
        rw [hlen] at h2
        exact h2
      have HXb : Hid ((blameL [] (dfH L k) 1).length = (prevT L k).size ∧ (k ≠ 0 → (blameL [] (dfH L k) 1).count k + lcs (prevT L (k - 1)).data.toList (prevT L k).data.toList = (prevT L k).size)) := by
        cases k with
        | zero => exact ⟨rfl, fun e => absurd rfl e⟩
        | succ j =>
          obtain ⟨g1, g2⟩ := df_blame HSh.out (by omega)
          exact ⟨g1, fun _ => g2⟩
      generalize dfH L k = H at *
      generalize blameL [] H 1 = x at *
      have hps := HSh.out k (Nat.le_refl _)
      clear hR8 hc8 hlt HX HZ hck hlen
      go_wp2_with fail
      go_loopw [58] (fun i wq => ∃ j : Nat, j ≤ k ∧ i = .int .i64 (j : Int) ∧ RevsAt wq wq.heap.size ao H ∧ Below B w wq) (fun i _ => k - (intOf i).toNat)
      case atStart => exact ⟨0, Nat.zero_le _, rfl, HR.out, HB.out⟩
      case round =>
        rename World => wq
        clear HR HB
        obtain ⟨j, hj, rfl, hr, hb⟩ := hrel
        have HR : Hid (RevsAt wq wq.heap.size ao H) := hr
        have HB : Hid (Below B w wq) := hb
        clear hr hb
        by_cases hlt2 : j < k
        · have hji : (j : Int) < (k : Int) := by omega
          obtain ⟨s, hs⟩ : ∃ s, L[j]? = some s := ⟨_, List.getElem?_eq_getElem (by have := HLn.out.1; omega)⟩
          obtain ⟨b, off, rfl, hbB, hcell⟩ := (HL.out.below HB.out (Nat.le_refl _)).mem hs
          have hbw : b < wq.heap.size := by have := HB.out.size; have := HWB.out; omega
          have HT1 : Hid _ := HTx.out j hlt2
          rw [prevT_at hs] at HT1
          have hw1 : IntKind.i64.wrap ((j : Int) + 1) = (j : Int) + 1 := IntWalk.i64_in _ ⟨by omega, by omega⟩
          clear hs
          go_wp2_with fail
          clear hcell hbw hbB
          with_reducible refine (HT1.out _ HR.out).mono ?_
          rintro e w2 ⟨rfl, hb2⟩
          have HR2 : Hid (RevsAt w2 w2.heap.size ao H) := HR.out.here hb2 (Nat.le_refl _)
          have HB2 : Hid (Below B w w2) := HB.out.trans (hb2.mono (by have := HB.out.size; have := HWB.out; omega))
          clear hb2
          go_wp2_with fail
          go_roundw
          case rel => exact ⟨j + 1, hlt2, by go_num, HR2.out, HB2.out⟩
          case measure => simp [intOf]; omega
        · have hji : ¬ (j : Int) < (k : Int) := by omega
          clear hlt2
          go_wp2_with fail
          with_reducible refine (HBl.out _ HR.out).mono ?_
          rintro e w3 ⟨ax, cx, rfl, hnx, hb3⟩
          have HN3 : Hid (NatsAt w3 w3.heap.size ax x cx) := hnx
          have HB3 : Hid (Below B w w3) := HB.out.trans (hb3.mono (by have := HB.out.size; have := HWB.out; omega))
          have hxl := HXb.out.1
          clear hnx hb3 HR HB HBl HTx
          obtain ⟨sz, hsz⟩ : ∃ sz, (prevT L k).size = sz := ⟨_, rfl⟩
          have HSz : Hid ((prevT L k).size = sz) := hsz
          rw [hsz] at hps hxl HXb
          go_wp2_with fail
          clear hsz
          go_loopw [15, 94] (fun c i wz => ∃ j : Nat, j ≤ x.length ∧ i = .int .i64 (j : Int) ∧ c = .int .i64 ((x.take j).count k : Nat) ∧ NatsAt wz wz.heap.size ax x cx ∧ Below B w wz) (fun _ i _ => x.length - (intOf i).toNat)
          case atStart => exact ⟨0, Nat.zero_le _, rfl, rfl, HN3.out, HB3.out⟩
          case round =>
            rename World => wz
            clear HN3 HB3
            obtain ⟨m, hm, rfl, rfl, hn, hb⟩ := hrel
            have HN : Hid (NatsAt wz wz.heap.size ax x cx) := hn
            have HB : Hid (Below B w wz) := hb
            clear hn hb
            by_cases hlt3 : m < x.length
            · have hmi : (m : Int) < (x.length : Int) := by omega
              obtain ⟨q, hq⟩ : ∃ q, x[m]? = some q := ⟨_, List.getElem?_eq_getElem hlt3⟩
              obtain ⟨b, off, rfl, hbB, hcell⟩ := HN.out.mem hq
              have hcn : (x.take m).count k ≤ 500 := Nat.le_trans List.count_le_length (by rw [List.length_take]; omega)
              by_cases hqk : q = k
              · have HC : Hid ((x.take (m + 1)).count k = (x.take m).count k + 1) := by
                  show _ = _
                  rw [cnt_snoc hq, if_pos hqk]
                have hq2 : (q : Int) = (k : Int) := by omega
                generalize (x.take m).count k = cc at *
                have hw1 : IntKind.i64.wrap ((cc : Int) + 1) = (cc : Int) + 1 := IntWalk.i64_in _ ⟨by omega, by omega⟩
                clear hq
                go_wp2_with fail
                clear hcell hbB
                go_roundw
                case rel => exact ⟨m + 1, hlt3, by go_num, by rw [HC.out]; rfl, HN.out, HB.out⟩
                case measure => simp [intOf]; omega
              · have HC : Hid ((x.take (m + 1)).count k = (x.take m).count k) := by
                  show _ = _
                  rw [cnt_snoc hq, if_neg hqk]; rfl
                have hq2 : ¬ (q : Int) = (k : Int) := by omega
                generalize (x.take m).count k = cc at *
                clear hq
                go_wp2_with fail
                clear hcell hbB
                go_roundw
                case rel => exact ⟨m + 1, hlt3, by go_num, by rw [HC.out], HN.out, HB.out⟩
                case measure => simp [intOf]; omega
            · have hmi : ¬ (m : Int) < (x.length : Int) := by omega
              obtain rfl : m = x.length := by omega
              rw [List.take_length]
              by_cases hk0 : k = 0
              · have hk0' : (k : Int) = 0 := by omega
                have HBe : Hid (Below w.heap.size w wz) := by rw [HWB.out]; exact HB.out
                generalize x.count k = cc at *
                go_wp2_with fail
                go_ret
                exact ⟨rfl, HBe.out⟩
              · have hk0' : ¬ (k : Int) = 0 := by omega
                have hcnt := HXb.out.2 hk0
                have HPv : Hid (∀ w, StAt w w.heap.size a L cap → Calls Try.prog 38 #[.slice a k cap] w fun e w' => e = .returned (.string (prevT L (k - 1))) ∧ w' = w) := by
                  intro w h
                  have h2 := prev_any a L cap w h (by have := HLn.out.1; omega) (by have := HLn.out; omega)
                  rw [HLn.out.1] at h2
                  exact h2
                have HCm : Hid _ := fun w => Common_any (prevT L (k - 1)) (prevT L k) w (HSh.out (k - 1) (by omega)) (by have := HSz.out; omega)
                generalize lcs (prevT L (k - 1)).data.toList (prevT L k).data.toList = lc at *
                generalize x.count k = cc at *
                have hwd : IntKind.i64.wrap ((sz : Int) - (lc : Int)) = (cc : Int) := by rw [IntWalk.i64_in _ ⟨by omega, by omega⟩]; omega
                have hsz := HSz.out
                clear hcnt
                go_wp2_with fail
                with_reducible refine (HPv.out _ (HL.out.here HB.out (Nat.le_refl _))).mono ?_
                rintro e w4 ⟨rfl, rfl⟩
                go_wp2_with fail
                with_reducible refine (HCm.out _).mono ?_
                rintro e w5 ⟨rfl, hb5⟩
                have HBe : Hid (Below w.heap.size w w5) := by rw [HWB.out]; exact HB.out.trans (hb5.mono (by have := HB.out.size; have := HWB.out; omega))
                clear hb5
                go_wp2_with fail
                go_ret
                exact ⟨rfl, HBe.out⟩
end Go.Proofs.Ytcghojnmnmmpoaa
