/- The law TopUndo, walked: it answers true. (laws/mkundo.py) -/
import Derived.Test.YtcghojnmnmmpoaaShRun
import Derived.Test.YtcghojnmnmmpoaaUndoOf
import Derived.Test.YtcghojnmnmmpoaaBlameOf
import Derived.Test.YtcghojnmnmmpoaaCloneRv
import Derived.Test.YtcghojnmnmmpoaaRevL
import Derived.Test.YtcghojnmnmmpoaaRevText
import Derived.Test.YtcghojnmnmmpoaaPolMem
namespace Go.Proofs.Ytcghojnmnmmpoaa
open Go.RowKit
set_option linter.unusedSimpArgs false
set_option linter.unusedVariables false

/-- what keeps no byte of one, leaves no byte of it -/
theorem blW_none {k n : Nat} (hn : n ≠ k) : ∀ {w : List Tok} {x : List Nat}, patW w = notK k x → ∀ q ∈ blW w x n, q ≠ k := by
  intro w
  induction w with
  | nil => intro x _ q hq; simp [blW] at hq
  | cons u w ih =>
    intro x h q hq
    rcases u with ⟨b | c⟩
    · cases x with
      | nil => simp [patW, notK] at h
      | cons y x =>
        have h1 : b = decide (y ≠ k) ∧ patW w = notK k x := by simpa [patW, notK] using h
        cases b with
        | true =>
          have hy : y ≠ k := of_decide_eq_true h1.1.symm
          have hq2 : q = y ∨ q ∈ blW w x n := by simpa [blW] using hq
          rcases hq2 with rfl | hq2
          · exact hy
          · exact ih h1.2 q hq2
        | false => exact ih h1.2 q (by simpa [blW] using hq)
    · have hq2 : q = n ∨ q ∈ blW w x n := by simpa [blW] using hq
      rcases hq2 with rfl | hq2
      · exact hn
      · exact ih (by simpa [patW] using h) q hq2
/-- a revision that takes one back -/
def unRv (s : List UInt8) (l : List Rv) (k : Nat) : Rv := ⟨0, 1, (undoD s l k).1⟩
theorem undo_more {s : List UInt8} {l : List Rv} {k : Nat} (h : checkE s l = 0) (h1 : 1 ≤ k) (h2 : k ≤ l.length) (hl : l.length < 64) (he : (undoD s l k).2 = 0) :
    checkE s (l ++ [unRv s l k]) = 0 ∧ k ∉ blameL (List.replicate s.length 0) (l ++ [unRv s l k]) 1 := by
  obtain ⟨c1, c2, c3⟩ := check_zero h
  obtain ⟨u1, u2⟩ : sizesE (undoD s l k).1 = 0 ∧ inI (undoD s l k).1 = ((textAt s l l.length).length : Nat) := by
    rcases undo_says c3 h1 h2 with ⟨_, q1, q2⟩ | ⟨q1, _⟩
    · exact ⟨q1, q2⟩
    · rw [q1] at he; exact absurd he (by decide)
  have ho : oneE (unRv s l k) = 0 := by
    rw [oneE, if_neg (by show ¬ ((0 : Int) < 0 ∨ (7 : Int) < 0 ∨ (1 : Int) < 0 ∨ (2147483647 : Int) < 1); decide)]
    exact u1
  have hf : fitsE (unRv s l k).d ((textAt s l l.length).length : Nat) = 0 := fits_of u1 u2
  refine ⟨by rw [checkE, if_neg (by simp; omega)]; exact hist_snoc c3 ho hf, ?_⟩
  intro hm
  rw [blame_app] at hm
  have hm2 : k ∈ blW (wordL (undoD s l k).1) (blameL (List.replicate s.length 0) l 1) (1 + l.length) := hm
  exact blW_none (by omega) (undo_own c3 h1 h2 he) k hm2 rfl
theorem undo_back {s : List UInt8} {l : List Rv} {k : Nat} (h : checkE s (l ++ [unRv s l k]) = 0) :
    (undoD s (l ++ [unRv s l k]) (l.length + 1)).2 = 0 ∧ sizesE (undoD s (l ++ [unRv s l k]) (l.length + 1)).1 = 0 ∧ inI (undoD s (l ++ [unRv s l k]) (l.length + 1)).1 = ((textAt s (l ++ [unRv s l k]) (l.length + 1)).length : Nat) ∧
    doL (undoD s (l ++ [unRv s l k]) (l.length + 1)).1 (textAt s (l ++ [unRv s l k]) (l.length + 1)) = textAt s l l.length := by
  obtain ⟨c1, c2, c3⟩ := check_zero h
  have hl : (l ++ [unRv s l k]).length = l.length + 1 := by simp
  have h1 := undo_last c3 (by omega)
  rw [hl] at h1
  have h2 := undo_says (k := l.length + 1) c3 (by omega) (by omega)
  rw [hl] at h2
  obtain ⟨a1, a2⟩ := h1
  rcases h2 with ⟨_, b1, b2⟩ | ⟨b1, _⟩
  · refine ⟨a1, b1, b2, ?_⟩
    rw [a2, show l.length + 1 - 1 = l.length by omega]
    exact textAt_pre l.length l _ s (Nat.le_refl _)
  · rw [b1] at a1; exact absurd a1 (by decide)
/-- a delta that fits, done -/
theorem undone_text {D : List Pt} {x y : List UInt8} (h1 : sizesE D = 0) (h2 : inI D = (x.length : Nat)) (h3 : doL D x = y) (h4 : x.length ≤ 500) (ad : Option Addr) (c : Nat) (w : World) (hp : PartsAt w w.heap.size ad D) :
    Calls Try.prog 35 #[.slice ad D.length c, .string ⟨x.toArray⟩] w fun e w' => e = .returned (.tuple #[.string ⟨y.toArray⟩, .int .i64 0]) ∧ Below w.heap.size w w' := by
  have hs : (⟨x.toArray⟩ : ByteArray).size = x.length := by show x.toArray.size = _; rw [List.size_toArray]
  have hfit : fitsE D ((⟨x.toArray⟩ : ByteArray).size : Nat) = 0 := by rw [hs]; exact fits_of h1 h2
  have h := Do_any ad D c ⟨x.toArray⟩ w hp (by rw [hs]; omega)
  rw [doT, if_pos hfit, hfit, show (⟨x.toArray⟩ : ByteArray).data.toList = x by simp, h3] at h
  exact h
set_option maxRecDepth 20000 in
set_option maxHeartbeats 16000000 in
theorem TopUndo_any (s : ByteArray) (a : Option Addr) (l : List Rv) (cap : Nat) (k : Int) (w : World) (hl : RevsAt w w.heap.size a l) (hc : l.length ≤ cap) (hs : s.size ≤ 9223372036854775807) :
    Calls Try.prog 6 #[.string s, .slice a l.length cap, .int .i64 k] w fun e w' => e = .returned (.bool true) ∧ Below w.heap.size w w' := by
  obtain ⟨ip, hip, hp0, hp1, hp2⟩ := info_parts infoRev
  have hll := hl.1
  have HL : Hid (RevsAt w w.heap.size a l) := hl
  have HU : Hid _ := fun w h => UndoOf_any s a l cap k w h hc hs
  have HBg : Hid _ := fun w => begun_any w
  obtain ⟨E, hE⟩ : ∃ E, (undoA s.data.toList l k).2 = E := ⟨_, rfl⟩
  obtain ⟨D, hD⟩ : ∃ D, (undoA s.data.toList l k).1 = D := ⟨_, rfl⟩
  rw [hE, hD] at HU
  have HED : Hid ((undoA s.data.toList l k).2 = E ∧ (undoA s.data.toList l k).1 = D) := ⟨hE, hD⟩
  clear hl hE hD
  go_enter Try.func6, Try.ntmps6
  go_wp2_with fail
  with_reducible refine (HU.out _ HL.out).mono ?_
  rintro e w1 ⟨aD, cD, rfl, hp1q, hr1, hb1⟩
  have HB1 : Hid (Below w.heap.size w w1) := hb1
  have HP1 : Hid (PartsAt w1 w1.heap.size aD D ∧ Room aD D cD) := ⟨hp1q, hr1⟩
  clear hp1q hr1 hb1 HU
  go_wp2_with fail
  with_reducible refine (HBg.out _).mono ?_
  rintro e w2 ⟨rfl, hb2⟩
  have HB2 : Hid (Below w.heap.size w w2) := HB1.out.trans (hb2.mono HB1.out.size)
  have HP2 : Hid (PartsAt w2 w2.heap.size aD D ∧ Room aD D cD) := ⟨HP1.out.1.here hb2 (Nat.le_refl _), HP1.out.2⟩
  clear hb2 HP1 HB1
  by_cases hE : E = 0
  · by_cases h64 : l.length < 64
    · subst hE
      obtain ⟨h0, n, rfl, hn1, hn2, hun⟩ := undoA_zero HED.out.1
      have hDu : (undoD s.data.toList l n).1 = D := by rw [← hun]; exact HED.out.2
      have hEu : (undoD s.data.toList l n).2 = 0 := by rw [← hun]; exact HED.out.1
      obtain ⟨m1, m2⟩ := undo_more h0 hn1 hn2 h64 hEu
      obtain ⟨k1, k2, k3, k4⟩ := undo_back m1
      have hrv : unRv s.data.toList l n = ⟨0, 1, D⟩ := by rw [unRv, hDu]
      rw [hrv] at m1 m2 k1 k2 k3 k4
      obtain ⟨c1, c2, c3⟩ := check_zero h0
      obtain ⟨d1, d2, d3⟩ := check_zero m1
      have hq1 : ¬ (64 : Int) ≤ (l.length : Int) := by omega
      have hle := text_le d3 d1 (l.length + 1)
      have hHl : (l ++ [(⟨0, 1, D⟩ : Rv)]).length = l.length + 1 := by simp
      have HT1 : Hid _ := fun w h => Text_ok s a l cap l.length w h hc h0 (Nat.le_refl _)
      have hsl : s.data.toList.length = s.size := Array.length_toList
      have HBl : Hid (∀ (a' : Option Addr) (c' : Nat) (w : World), RevsAt w w.heap.size a' (l ++ [⟨0, 1, D⟩]) → Calls Try.prog 33 #[.string s, .slice a' (l.length + 1) c'] w fun e w' => ∃ ax x cx, e = .returned (.tuple #[.slice ax x.length cx, .int .i64 0]) ∧ NatsAt w' w'.heap.size ax x cx ∧ n ∉ x ∧ Below w.heap.size w w') := by
        intro a' c' w h1
        have h := BlameOf_ok s a' (l ++ [⟨0, 1, D⟩]) c' w h1 m1
        rw [hHl] at h
        exact h.mono fun e w' ⟨ax, cx, e1, e2, e3⟩ => ⟨ax, _, cx, e1, e2, by rw [← hsl]; exact m2, e3⟩
      have HU2 : Hid (∀ (a' : Option Addr) (c' : Nat) (w : World), RevsAt w w.heap.size a' (l ++ [⟨0, 1, D⟩]) → l.length + 1 ≤ c' → Calls Try.prog 30 #[.string s, .slice a' (l.length + 1) c', .int .i64 ((l.length : Int) + 1)] w fun e w' => ∃ ax cx, e = .returned (.tuple #[.slice ax (undoD s.data.toList (l ++ [⟨0, 1, D⟩]) (l.length + 1)).1.length cx, .int .i64 0]) ∧ PartsAt w' w'.heap.size ax (undoD s.data.toList (l ++ [⟨0, 1, D⟩]) (l.length + 1)).1 ∧ Below w.heap.size w w') := by
        intro a' c' w h1 h2
        have h := UndoOf_any s a' (l ++ [⟨0, 1, D⟩]) c' ((l.length + 1 : Nat) : Int) w h1 (by rw [hHl]; exact h2) hs
        rw [undoA_ok m1 (by omega) (by omega), k1, hHl, show ((l.length + 1 : Nat) : Int) = (l.length : Int) + 1 by omega] at h
        exact h.mono fun e w' ⟨ax, cx, e1, e2, _, e3⟩ => ⟨ax, cx, e1, e2, e3⟩
      have HT2 : Hid (∀ (a' : Option Addr) (c' : Nat) (w : World), RevsAt w w.heap.size a' (l ++ [⟨0, 1, D⟩]) → l.length + 1 ≤ c' → Calls Try.prog 31 #[.string s, .slice a' (l.length + 1) c', .int .i64 ((l.length : Int) + 1)] w fun e w' => e = .returned (.tuple #[.string ⟨(textAt s.data.toList (l ++ [⟨0, 1, D⟩]) (l.length + 1)).toArray⟩, .int .i64 0]) ∧ Below w.heap.size w w') := by
        intro a' c' w h1 h2
        have h := Text_ok s a' (l ++ [⟨0, 1, D⟩]) c' (l.length + 1) w h1 (by rw [hHl]; exact h2) m1 (by omega)
        rw [hHl, show ((l.length + 1 : Nat) : Int) = (l.length : Int) + 1 by omega] at h
        exact h
      have HDo : Hid _ := fun ad c w h => undone_text k2 k3 k4 hle ad c w h
      have HCl : Hid _ := fun w hh => CloneRv_any a l cap w hh c2
      have hl6 : l.length ≤ 64 := c2
      generalize (undoD s.data.toList (l ++ [⟨0, 1, D⟩]) (l.length + 1)).1 = D2 at *
      generalize textAt s.data.toList (l ++ [⟨0, 1, D⟩]) (l.length + 1) = t2 at *
      generalize textAt s.data.toList l l.length = t1 at *
      generalize (⟨t1.toArray⟩ : ByteArray) = T1 at *
      generalize (⟨t2.toArray⟩ : ByteArray) = T2 at *
      clear h0 hn1 hn2 hun hDu hEu m1 m2 k1 k2 k3 k4 hrv c1 c2 c3 d1 d2 d3 hle hsl h64
      go_wp2_with fail
      with_reducible refine (HT1.out _ (HL.out.here HB2.out (Nat.le_refl _))).mono ?_
      rintro e w6 ⟨rfl, hb6⟩
      have HB6 : Hid (Below w.heap.size w w6) := HB2.out.trans (hb6.mono HB2.out.size)
      have HP6 : Hid (PartsAt w6 w6.heap.size aD D ∧ Room aD D cD) := ⟨HP2.out.1.here hb6 (Nat.le_refl _), HP2.out.2⟩
      clear hb6 HP2 HB2
      go_wp2_with fail
      with_reducible refine (HCl.out _ (HL.out.here HB6.out (Nat.le_refl _))).mono ?_
      rintro e w7 ⟨v7, xs, rfl, hxs, hok7, hown7, hb7⟩
      have HXL : Hid (xs.length = l.length) := by show _ = _; rw [← hxs, List.length_map]
      have hx6 : xs.length ≤ 64 := by have := HXL.out; omega
      have HXS : Hid (xs.map (·.1) = l) := hxs
      have HOK7 : Hid (RvsOk w7 w6.heap.size xs) := hok7
      have HOW7 : Hid (w7.ownsRow w6.heap.size 27 3 v7 xs.length (rvAll xs)) := hown7
      obtain ⟨b7, d7, rfl⟩ := slice_form' hown7
      have hz67 := hb7.size
      have HB67 : Hid (Below w6.heap.size w6 w7) := hb7
      clear hxs hok7 hown7 hb7
      have hAs := own_alloc HOW7.out (.cells #[.int .i64 0, .int .i64 1, .slice aD D.length cD] 27)
      have hNew : (w7.alloc (.cells #[.int .i64 0, .int .i64 1, .slice aD D.length cD] 27)).heap[w7.heap.size]? = some (.cells #[.int .i64 0, .int .i64 1, .slice aD D.length cD] 27 (0, 0)) := heap_alloc_new _ _
      go_wp2_with (at_builtin; refine wpList_append_own _ rfl _ _ 22 rfl w6.heap.size 27 ip _ 3 40 Try.underlying22 hip hp0 hp1 hp2 rfl (by decide) _ _ _ rfl hAs ⟨w7.heap.size, 0, none⟩ 1 1 [.int .i64 0, .int .i64 1, .slice aD D.length cD] rfl rfl (World.news_of_block (cs := #[.int .i64 0, .int .i64 1, .slice aD D.length cD]) (t := 27) (fr := (0, 0)) hNew) (by simp [Value.oneCell']) ?c3 ?c4 ?c5 ?_)
      case c3 => unfold maxLen; omega
      case c4 => omega
      case c5 => first | omega | (simp; omega)
      intro v9 w9 hown9 hgrow _
      have HB9 : Hid (Below w6.heap.size w6 w9) := below_own' (HB67.out.alloc (by omega) _) hAs hgrow (by simp; omega)
      have HBW : Hid (Below w.heap.size w w9) := HB6.out.trans (HB9.out.mono HB6.out.size)
      have hg89 : Below w6.heap.size (w7.alloc (.cells #[.int .i64 0, .int .i64 1, .slice aD D.length cD] 27)) w9 := below_own' (Below.refl _ _) hAs hgrow (by simp; omega)
      have HOK9 : Hid (RvsOk w9 w6.heap.size xs) := (HOK7.out.below ((Below.refl w6.heap.size w7).alloc (by omega) _) (Nat.le_refl _)).below hg89 (Nat.le_refl _)
      have HP9 : Hid (PartsAt w9 w9.heap.size aD D) := HP6.out.1.here HB9.out (Nat.le_refl _)
      obtain ⟨a9, c9, e9, hc9, hr9⟩ : ∃ a c, v9 = .slice a (l.length + 1) c ∧ l.length + 1 ≤ c ∧ RevsAt w9 w9.heap.size a (l ++ [⟨0, 1, D⟩]) := by
        have ho : RvsOk w9 w9.heap.size (xs ++ [((⟨0, 1, D⟩ : Rv), aD, cD)]) := by
          intro y hy
          rcases List.mem_append.1 hy with hy | hy
          · exact (HOK9.out.wider HB9.out.size (Nat.le_refl _)) y hy
          · simp only [List.mem_cons, List.not_mem_nil, or_false] at hy
            subst hy
            exact ⟨⟨⟨by show _ ≤ (0 : Int); decide, by show (0 : Int) ≤ _; decide⟩, ⟨by show _ ≤ (1 : Int); decide, by show (1 : Int) ≤ _; decide⟩⟩, HP9.out, HP6.out.2⟩
        have hown : w9.ownsRow w6.heap.size 27 3 v9 (xs ++ [((⟨0, 1, D⟩ : Rv), aD, cD)]).length (rvAll (xs ++ [((⟨0, 1, D⟩ : Rv), aD, cD)])) := by
          rw [rvAll_app, List.length_append]
          exact hown9
        obtain ⟨a9, c9, e1, e2, e3⟩ := revs_own hown ho (by simp; omega)
        rw [List.length_append, HXL.out] at e1 e2
        rw [List.map_append, HXS.out] at e3
        exact ⟨a9, c9, e1, e2, e3⟩
      subst e9
      have HR9 : Hid (RevsAt w9 w9.heap.size a9 (l ++ [⟨0, 1, D⟩])) := hr9
      clear hown9 hgrow hg89 hAs hNew hr9 HOK7 HOW7 HB67 HOK9 HB9 HP6 HB6 hz67
      go_wp2_with fail
      with_reducible refine (HBl.out a9 c9 _ HR9.out).mono ?_
      rintro e w10 ⟨ax, x, cx, rfl, hnx, hnotx, hb10⟩
      have HB10 : Hid (Below w.heap.size w w10) := HBW.out.trans (hb10.mono HBW.out.size)
      have HR10 : Hid (RevsAt w10 w10.heap.size a9 (l ++ [⟨0, 1, D⟩])) := HR9.out.here hb10 (Nat.le_refl _)
      have HCo : Hid (Calls Try.prog 34 #[.slice ax x.length cx, .int .i64 (n : Int)] w10 fun e w' => e = .returned (.bool false) ∧ w' = w10) := by
        have h := CoIz_any ax (asI x) cx (n : Int) w10 (nats_iz hnx)
        rw [asI_len, decide_eq_false (fun e => hnotx (asI_mem.1 e))] at h
        exact h
      clear hnx hnotx hb10 HR9
      go_wp2_with fail
      with_reducible refine Calls.mono HCo.out ?_
      rintro e w11 ⟨rfl, rfl⟩
      clear HCo
      go_wp2_with fail
      with_reducible refine (HU2.out a9 c9 _ HR10.out hc9).mono ?_
      rintro e w12 ⟨a2, c2, rfl, hp12, hb12⟩
      have HB12 : Hid (Below w.heap.size w w12) := HB10.out.trans (hb12.mono HB10.out.size)
      have HR12 : Hid (RevsAt w12 w12.heap.size a9 (l ++ [⟨0, 1, D⟩])) := HR10.out.here hb12 (Nat.le_refl _)
      have HP12 : Hid (PartsAt w12 w12.heap.size a2 D2) := hp12
      clear hp12 hb12
      go_wp2_with fail
      with_reducible refine (HT2.out a9 c9 _ HR12.out hc9).mono ?_
      rintro e w13 ⟨rfl, hb13⟩
      have HB13 : Hid (Below w.heap.size w w13) := HB12.out.trans (hb13.mono HB12.out.size)
      have HP13 : Hid (PartsAt w13 w13.heap.size a2 D2) := HP12.out.here hb13 (Nat.le_refl _)
      clear hb13
      go_wp2_with fail
      with_reducible refine (HDo.out _ _ _ HP13.out).mono ?_
      rintro e w14 ⟨rfl, hb14⟩
      have HB14 : Hid (Below w.heap.size w w14) := HB13.out.trans (hb14.mono HB13.out.size)
      clear hb14
      go_wp2_with fail
      go_ret
      exact ⟨rfl, HB14.out⟩
    · have hq1 : (64 : Int) ≤ (l.length : Int) := by omega
      subst hE
      clear h64 HED
      go_wp2_with fail
      with_reducible refine (HBg.out _).mono ?_
      rintro e w3 ⟨rfl, hb3⟩
      have HB3 : Hid (Below w.heap.size w w3) := HB2.out.trans (hb3.mono HB2.out.size)
      clear hb3
      go_wp2_with fail
      go_ret
      exact ⟨rfl, HB3.out⟩
  · have hE' : (E != 0) = true := by simp [hE]
    clear hE HED
    go_wp2_with fail
    with_reducible refine (HBg.out _).mono ?_
    rintro e w3 ⟨rfl, hb3⟩
    have HB3 : Hid (Below w.heap.size w w3) := HB2.out.trans (hb3.mono HB2.out.size)
    clear hb3
    go_wp2_with fail
    go_ret
    exact ⟨rfl, HB3.out⟩
end Go.Proofs.Ytcghojnmnmmpoaa
