/- What hot's takeDone does. -/
import Derived.Test.YtgffippimmokiaaHotMem
import Derived.Deep.RegionHeld3
import Derived.BigQuiet
import Derived.Test.YtgffippimmokiaaHotTakeRev
import Derived.Test.YtgffippimmokiaaFrameKit
import Derived.Test.YtgffippimmokiaaLogBox
import Derived.Test.YtgffippimmokiaaHotRdRev
import Derived.Test.YtgffippimmokiaaLogMem
import Derived.Deep.DeepCutAuto
namespace Go.Proofs.Ytgffippimmokiaa
open Go.RowKit
set_option linter.unusedSimpArgs false
set_option linter.unusedVariables false

set_option maxHeartbeats 1000000 in
theorem takeDone_any (S : Lg) (gd n : Int) (s : ByteArray) (g : Nat) (w : World) (h : RdIs w g S gd n) (hF : S.first.length = 16) (hT : S.table.length = 16) :
    Calls Try.prog 129 #[.pointer (some ⟨g, 0, none⟩), .string s] w fun e w' => TookIs S gd n ⟨3, s.data.toList⟩ g w e w' := by
  have HR : Hid (RdIs w g S gd n) := h
  obtain ⟨v, xs, h1, h2, h3⟩ := h
  have hl := h1.lt
  have c36 : w.cell? ⟨g, 36, none⟩ = some (.bool S.whole) := h1.cell (by
    show (sC S v gd ++ [.int .i64 n])[36]? = _
    rw [List.getElem?_append_left (by rw [sC_len hF hT]; decide)]
    exact (lg_at hF hT).2.1)
  have f36 := h1.free 36
  have HD : Hid (RdAt w g (rdC S v gd n)) := h1
  have HZ : Hid (RzsOwn w (g + 1) v xs ∧ xs.map (·.1) = S.revs) := ⟨h2, h3⟩
  clear h1 h2 h3
  by_cases hs : s = ⟨#[]⟩
  · subst hs
    cases hw : S.whole with
    | false =>
      rw [hw] at c36
      have HN : Hid (stepR S n ⟨3, []⟩ = some ({ S with whole := true }, n)) := by show _ = _; rw [stepR_three, if_pos ⟨rfl, hw⟩]
      go_enter Try.func129, Try.ntmps129
      go_wp2_with fail
      go_ret
      refine ⟨.inl ⟨{ S with whole := true }, n, HN.out, rfl, v, xs, ?_, HZ.out.1.put (Nat.lt_succ_self _) _, HZ.out.2⟩, (Below.refl _ _).setCell (p := ⟨g, 36, none⟩) (Nat.le_refl _) _⟩
      have h := HD.out.put 36 (.bool true)
      have e : (rdC S v gd n).set 36 (.bool true) = rdC { S with whole := true } v gd n := (lg_set hF hT [.int .i64 n]).2.1 true
      rw [e] at h
      exact h
    | true =>
      rw [hw] at c36
      have HN : Hid (stepR S n ⟨3, []⟩ = none) := by show _ = _; rw [stepR_three, if_neg (by rw [hw]; simp)]
      go_enter Try.func129, Try.ntmps129
      go_wp2_with fail
      go_ret
      exact ⟨.inr ⟨HN.out, rfl, HR.out⟩, Below.refl _ _⟩
  · have hsn := hs
    have hse : s.data.toList ≠ [] := by
      intro e
      refine hs ?_
      obtain ⟨⟨l⟩⟩ := s
      have e : l = [] := e
      subst e; rfl
    have HN : Hid (stepR S n ⟨3, s.data.toList⟩ = none) := by show _ = _; rw [stepR_three, if_neg (fun e => hse e.1)]
    have hst : ¬ s.toList = [] := by
      rw [toList_nil]
      intro e
      exact hse (List.length_eq_zero_iff.1 (by rw [Array.length_toList]; exact e))
    go_enter Try.func129, Try.ntmps129
    go_wp2_with fail
    go_ret
    exact ⟨.inr ⟨HN.out, rfl, HR.out⟩, Below.refl _ _⟩
end Go.Proofs.Ytgffippimmokiaa

/- What hot's take does. -/
namespace Go.Proofs.Ytgffippimmokiaa
open Go.RowKit
set_option linter.unusedSimpArgs false
set_option linter.unusedVariables false

set_option maxRecDepth 20000 in
set_option maxHeartbeats 2000000 in
theorem take_any (S : Lg) (gd n : Int) (f : Fr) (g : Nat) (w : World) (hs : f.t.length ≤ 4000) (h : RdIs w g S gd n) (ok : LOk S n) :
    Calls Try.prog 108 #[.pointer (some ⟨g, 0, none⟩), .agg #[.int .i64 f.k, .string ⟨f.t.toArray⟩]] w fun e w' => TookIs S gd n f g w e w' := by
  obtain ⟨k, t⟩ := f
  have hts : (⟨t.toArray⟩ : ByteArray).size ≤ 9223372036854775807 := by
    show t.toArray.size ≤ _
    rw [List.size_toArray]
    have : t.length ≤ 4000 := hs
    omega
  have HB0 : Hid (Below w.heap.size w (w.alloc (.cells #[.int .i64 k, .string ⟨t.toArray⟩] 149))) := (Below.refl _ w).alloc (Nat.le_refl _) _
  have HR1 : Hid (RdIs (w.alloc (.cells #[.int .i64 k, .string ⟨t.toArray⟩] 149)) g S gd n) := h.below HB0.out
  have HBg : Hid (Below g w (w.alloc (.cells #[.int .i64 k, .string ⟨t.toArray⟩] 149))) := HB0.out.mono (Nat.le_of_lt h.lt)
  have HV : Hid (∀ w, RdIs w g S gd n → Calls Try.prog 128 #[.pointer (some ⟨g, 0, none⟩), .string ⟨t.toArray⟩] w fun e w' => TookIs S gd n ⟨2, t⟩ g w e w') := fun w h => takeRev_any S gd n ⟨t.toArray⟩ g w hts h ok
  have HD : Hid (∀ w, RdIs w g S gd n → Calls Try.prog 129 #[.pointer (some ⟨g, 0, none⟩), .string ⟨t.toArray⟩] w fun e w' => TookIs S gd n ⟨3, t⟩ g w e w') := fun w h => takeDone_any S gd n ⟨t.toArray⟩ g w h ok.first ok.table
  clear h ok hs hts
  by_cases hk2 : k = 2
  · subst hk2
    go_enter Try.func108, Try.ntmps108
    go_wp2_with fail
    with_reducible refine (HV.out _ HR1.out).mono ?_
    rintro e w1 ⟨hc, hb1⟩
    have HB1 : Hid (Below g w w1) := HBg.out.trans hb1
    clear hb1
    rcases hc with ⟨S', n', hst, rfl, hr⟩ | ⟨hst, rfl, hr⟩
    · have HS : Hid (stepR S n ⟨2, t⟩ = some (S', n') ∧ RdIs w1 g S' gd n') := ⟨hst, hr⟩
      clear hst hr
      go_wp2_with fail
      go_ret
      exact ⟨.inl ⟨S', n', HS.out.1, rfl, HS.out.2⟩, HB1.out⟩
    · have HS : Hid (stepR S n ⟨2, t⟩ = none ∧ RdIs w1 g S gd n) := ⟨hst, hr⟩
      clear hst hr
      go_wp2_with fail
      go_ret
      exact ⟨.inr ⟨HS.out.1, rfl, HS.out.2⟩, HB1.out⟩
  · have hb2 : (k == 2) = false := by simp [hk2]
    by_cases hk3 : k = 3
    · subst hk3
      clear hk2
      go_enter Try.func108, Try.ntmps108
      go_wp2_with fail
      with_reducible refine (HD.out _ HR1.out).mono ?_
      rintro e w1 ⟨hc, hb1⟩
      have HB1 : Hid (Below g w w1) := HBg.out.trans hb1
      clear hb1
      rcases hc with ⟨S', n', hst, rfl, hr⟩ | ⟨hst, rfl, hr⟩
      · have HS : Hid (stepR S n ⟨3, t⟩ = some (S', n') ∧ RdIs w1 g S' gd n') := ⟨hst, hr⟩
        clear hst hr
        go_wp2_with fail
        go_ret
        exact ⟨.inl ⟨S', n', HS.out.1, rfl, HS.out.2⟩, HB1.out⟩
      · have HS : Hid (stepR S n ⟨3, t⟩ = none ∧ RdIs w1 g S gd n) := ⟨hst, hr⟩
        clear hst hr
        go_wp2_with fail
        go_ret
        exact ⟨.inr ⟨HS.out.1, rfl, HS.out.2⟩, HB1.out⟩
    · have hb3 : (k == 3) = false := by simp [hk3]
      have HS : Hid (stepR S n ⟨k, t⟩ = none) := stepR_else hk2 hk3
      clear hk2 hk3
      go_enter Try.func108, Try.ntmps108
      go_wp2_with fail
      go_ret
      exact ⟨.inr ⟨HS.out, rfl, HR1.out⟩, HBg.out⟩
end Go.Proofs.Ytgffippimmokiaa

/- What hot.readHead answers. -/
namespace Go.Proofs.Ytgffippimmokiaa
open Go.RowKit
set_option linter.unusedSimpArgs false
set_option linter.unusedVariables false

/-- a log that is nothing yet -/
def zeroC : List Value := lgC 0 0 [] (List.replicate 16 0) (List.replicate 16 0) (.slice none 0 0) false 0
theorem zeroC_len : zeroC.length = 38 := by decide
theorem zeroC_is : zeroC.toArray = #[.int .i64 0, .int .i64 0, .string ⟨#[]⟩, .int .i64 0, .int .i64 0, .int .i64 0, .int .i64 0, .int .i64 0, .int .i64 0, .int .i64 0, .int .i64 0, .int .i64 0, .int .i64 0, .int .i64 0, .int .i64 0, .int .i64 0, .int .i64 0, .int .i64 0, .int .i64 0, .int .i64 0, .int .i64 0, .int .i64 0, .int .i64 0, .int .i64 0, .int .i64 0, .int .i64 0, .int .i64 0, .int .i64 0, .int .i64 0, .int .i64 0, .int .i64 0, .int .i64 0, .int .i64 0, .int .i64 0, .int .i64 0, .slice none 0 0, .bool false, .int .i64 0] := rfl
theorem zero_puts {w : World} {g : Nat} (h : LgAt w g zeroC) : LgAt (w.setCells g 0 zeroC) g zeroC := by
  have h2 := LgAt.puts zeroC w zeroC 0 h
  rw [setL_all rfl] at h2
  exact h2
/-- the head, as its cells -/
def headC (S : Lg) : List Value := lgC S.gen S.base S.text S.first S.table (.slice none 0 0) false 0
/-- what readHead answers -/
def HeadIs (k : Int) (l : List UInt8) (e : Ending) : Prop :=
  (∃ S, hdL ⟨k, l⟩ = some S ∧ e = .returned (.tuple #[.agg (headC S).toArray, .int .i64 0])) ∨ (hdL ⟨k, l⟩ = none ∧ e = .returned (.tuple #[.agg zeroC.toArray, .int .i64 3]))
theorem list_two {x : List Nat} (h : x.length = 18) : ∃ gen base y, x = gen :: base :: y ∧ y.length = 16 := by
  match x, h with
  | gen :: base :: y, h => exact ⟨gen, base, y, rfl, by simpa using h⟩
theorem tabF_all {t : List Int} (h : t.length = 16) : tabF t 8 = t := by
  match t, h with
  | [x0, x1, x2, x3, x4, x5, x6, x7, x8, x9, x10, x11, x12, x13, x14, x15], _ => rfl
theorem lgC_setF {gen base : Int} {text : List UInt8} {F T : List Int} {rv : Value} {wh : Bool} {gd : Int} {i : Nat} (n : Int) (hi : i < F.length) : (lgC gen base text F T rv wh gd).set (3 + i) (.int .i64 n) = lgC gen base text (F.set i n) T rv wh gd := by
  have e : (jzC F ++ (jzC T ++ [rv, .bool wh, .int .i64 gd])).set i (.int .i64 n) = jzC (F.set i n) ++ (jzC T ++ [rv, .bool wh, .int .i64 gd]) := by
    rw [List.set_append_left _ _ (by rw [jzC_len]; exact hi)]
    simp [jzC, List.map_set]
  rw [lgC, lgC, ← e, Nat.add_comm 3 i]
  rfl
theorem cells_alloc {w : World} {b off : Nat} {p q : Value} (h0 : w.cell? ⟨b, off, none⟩ = some p) (h1 : w.cell? ⟨b, off + 1, none⟩ = some q) (hb : b < w.heap.size) (o : Obj) : (w.alloc o).cell? ⟨b, off, none⟩ = some p ∧ (w.alloc o).cell? ⟨b, off + 1, none⟩ = some q :=
  ⟨by rw [World.cell?_alloc_lt _ _ _ hb]; exact h0, by rw [World.cell?_alloc_lt _ _ _ hb]; exact h1⟩

theorem wp_store_newN {P : Program} {op : Oper} {a : Act} {w : World} {K : Act → World → Prop} {Q : Exit → Act → World → Prop} (ty : TypeId) (x y : Operand) (ho : op.op = .store ty x y) (hd : op.dst = none)
    (Z cells : Array Value) (hx : a.eval x = .pointer (some ⟨w.heap.size, 0, none⟩)) (hy : a.eval y = .agg cells)
    (hi : (P.info? ty).map (·.size) = some cells.size) (hz : Z.size = cells.size) (h1 : cells.all (·.oneCell') = true)
    (h : K a (w.alloc (.cells cells ty))) : op.wp P a (w.alloc (.cells Z ty)) K Q :=
  wp_store_new ty x y ho Z cells hx hy hi hz h1 (by rw [hd]; exact h)

set_option maxRecDepth 20000 in
set_option maxHeartbeats 8000000 in
theorem readHead_any (k : Int) (t : ByteArray) (w : World) (hs : t.size ≤ 9223372036854775807) :
    Calls Try.prog 107 #[.agg #[.int .i64 k, .string t]] w fun e w' => HeadIs k t.data.toList e ∧ Below w.heap.size w w' := by
  have HN : Hid (∀ w : World, Calls Try.prog 127 #[.string t, .int .i64 18] w fun e w' => NumsIs (.int .i64 0) (.int .i64 3) 18 t.data.toList w e w') := fun w => readNums_any t 18 w hs (by decide)
  have HF0 : Hid (FBox ((w.alloc (.cells #[.int .i64 k, .string t] 149)).alloc (.cells #[.int .i64 0, .int .i64 0, .string ⟨#[]⟩, .int .i64 0, .int .i64 0, .int .i64 0, .int .i64 0, .int .i64 0, .int .i64 0, .int .i64 0, .int .i64 0, .int .i64 0, .int .i64 0, .int .i64 0, .int .i64 0, .int .i64 0, .int .i64 0, .int .i64 0, .int .i64 0, .int .i64 0, .int .i64 0, .int .i64 0, .int .i64 0, .int .i64 0, .int .i64 0, .int .i64 0, .int .i64 0, .int .i64 0, .int .i64 0, .int .i64 0, .int .i64 0, .int .i64 0, .int .i64 0, .int .i64 0, .int .i64 0, .slice none 0 0, .bool false, .int .i64 0] 82)) w.heap.size k t) := (fbox_here w k t).below ((Below.refl _ _).alloc (Nat.le_refl _) _)
  have HG0 : Hid (LgAt ((w.alloc (.cells #[.int .i64 k, .string t] 149)).alloc (.cells #[.int .i64 0, .int .i64 0, .string ⟨#[]⟩, .int .i64 0, .int .i64 0, .int .i64 0, .int .i64 0, .int .i64 0, .int .i64 0, .int .i64 0, .int .i64 0, .int .i64 0, .int .i64 0, .int .i64 0, .int .i64 0, .int .i64 0, .int .i64 0, .int .i64 0, .int .i64 0, .int .i64 0, .int .i64 0, .int .i64 0, .int .i64 0, .int .i64 0, .int .i64 0, .int .i64 0, .int .i64 0, .int .i64 0, .int .i64 0, .int .i64 0, .int .i64 0, .int .i64 0, .int .i64 0, .int .i64 0, .int .i64 0, .slice none 0 0, .bool false, .int .i64 0] 82)) (w.heap.size + 1) zeroC) := by
    show _ = _
    rw [zeroC_is]
    have h := heap_alloc_new (w.alloc (.cells #[.int .i64 k, .string t] 149)) (.cells #[.int .i64 0, .int .i64 0, .string ⟨#[]⟩, .int .i64 0, .int .i64 0, .int .i64 0, .int .i64 0, .int .i64 0, .int .i64 0, .int .i64 0, .int .i64 0, .int .i64 0, .int .i64 0, .int .i64 0, .int .i64 0, .int .i64 0, .int .i64 0, .int .i64 0, .int .i64 0, .int .i64 0, .int .i64 0, .int .i64 0, .int .i64 0, .int .i64 0, .int .i64 0, .int .i64 0, .int .i64 0, .int .i64 0, .int .i64 0, .int .i64 0, .int .i64 0, .int .i64 0, .int .i64 0, .int .i64 0, .int .i64 0, .slice none 0 0, .bool false, .int .i64 0] 82)
    rw [show (w.alloc (.cells #[.int .i64 k, .string t] 149)).heap.size = w.heap.size + 1 from Deep.nblk_alloc _ _] at h
    exact h
  have HB0 : Hid (Below w.heap.size w ((w.alloc (.cells #[.int .i64 k, .string t] 149)).alloc (.cells #[.int .i64 0, .int .i64 0, .string ⟨#[]⟩, .int .i64 0, .int .i64 0, .int .i64 0, .int .i64 0, .int .i64 0, .int .i64 0, .int .i64 0, .int .i64 0, .int .i64 0, .int .i64 0, .int .i64 0, .int .i64 0, .int .i64 0, .int .i64 0, .int .i64 0, .int .i64 0, .int .i64 0, .int .i64 0, .int .i64 0, .int .i64 0, .int .i64 0, .int .i64 0, .int .i64 0, .int .i64 0, .int .i64 0, .int .i64 0, .int .i64 0, .int .i64 0, .int .i64 0, .int .i64 0, .int .i64 0, .int .i64 0, .slice none 0 0, .bool false, .int .i64 0] 82))) := ((Below.refl _ w).alloc (Nat.le_refl _) _).alloc (by simp) _
  go_enter Try.func107, Try.ntmps107
  go_upto_region 1 with fail
  generalize (w.alloc (.cells #[.int .i64 k, .string t] 149)).alloc (.cells #[.int .i64 0, .int .i64 0, .string ⟨#[]⟩, .int .i64 0, .int .i64 0, .int .i64 0, .int .i64 0, .int .i64 0, .int .i64 0, .int .i64 0, .int .i64 0, .int .i64 0, .int .i64 0, .int .i64 0, .int .i64 0, .int .i64 0, .int .i64 0, .int .i64 0, .int .i64 0, .int .i64 0, .int .i64 0, .int .i64 0, .int .i64 0, .int .i64 0, .int .i64 0, .int .i64 0, .int .i64 0, .int .i64 0, .int .i64 0, .int .i64 0, .int .i64 0, .int .i64 0, .int .i64 0, .int .i64 0, .int .i64 0, .slice none 0 0, .bool false, .int .i64 0] 82) = w0 at HF0 HG0 HB0 ⊢
  obtain ⟨B, hB⟩ : ∃ B, w.heap.size = B := ⟨_, rfl⟩
  rw [hB] at HF0 HG0 HB0 ⊢
  have HW : Hid (w.heap.size = B) := hB
  clear hB
  obtain ⟨c0, c1, hl⟩ := HF0.out
  have hgl := HG0.out.lt
  have HEnd : Hid (∀ (wz : World) (tmps : Array Value), wz.rangeAt (B + 1) 0 zeroC → tmps.getD 2 undef = .pointer (some ⟨B + 1, 0, none⟩) → (results Try.f107 tmps).run Try.prog wz = .ok (.tuple #[.agg zeroC.toArray, tmps.getD 3 undef]) wz) := fun wz tmps hr hp => results_log Try.results107 tmps wz (B + 1) zeroC _ hp hr Try.underlying82 rfl (by rw [zeroC_len]; exact infoLg)
  by_cases hk : k = 1
  · subst hk
    go_wp2_with fail
    refine (HN.out _).mono ?_
    rintro e w1 ⟨hcase, hb1⟩
    have HG1 : Hid (LgAt w1 (B + 1) zeroC) := HG0.out.below hb1 hgl
    have HB1 : Hid (Below B w w1) := HB0.out.trans (hb1.mono (by omega))
    have hz1 := HG1.out.lt
    clear hb1 c0 c1
    rcases hcase with ⟨x, r, a, c, hx, rfl, hown⟩ | ⟨hx, rfl⟩
    · obtain ⟨gen, base, y, rfl, hy⟩ := list_two (nums_is 18 hx).1
      have HX : Hid (numsG 18 t.data.toList = some (gen :: base :: y, r)) := hx
      have HI1 : Hid (IzAt w1 w1.heap.size a (asZ (gen :: base :: y)) c) := by
        have h := hown
        rw [show (gen :: base :: y).length = (asZ (gen :: base :: y)).length by rw [List.length_map]] at h
        exact jz_own h
      have hlen18 : (gen :: base :: y).length = 18 := by simp [hy]
      have hrl := nums_len hx
      have htl : t.data.toList.length = t.size := Array.length_toList
      have hrs : (⟨r.toArray⟩ : ByteArray).size = r.length := by show r.toArray.size = _; simp
      clear hx hown
      rw [hlen18]
      by_cases h5 : r.length ≤ 500
      · have h5i : ¬ (500 : Int) < (r.length : Int) := by omega
        have HH : Hid (∃ S, hdL ⟨1, t.data.toList⟩ = some S ∧ headC S = lgC gen base r (asZ y) (asZ y) (.slice none 0 0) false 0) := by
          refine ⟨⟨gen, base, r, asZ y, asZ y, [], false, t.data.toList.length + 7⟩, ?_, rfl⟩
          rw [hdL, if_pos rfl, HX.out]
          simp only
          rw [if_pos h5]
          rfl
        have HYL : Hid ((asZ y).length = 16) := by show _ = _; rw [List.length_map]; exact hy
        obtain ⟨b, off, rfl, hbl, k0⟩ := HI1.out.mem (i := 0) rfl
        obtain ⟨b', off', e2, _, k1⟩ := HI1.out.mem (i := 1) rfl
        obtain ⟨rfl, rfl⟩ : b = b' ∧ off = off' := by cases e2; exact ⟨rfl, rfl⟩
        rw [Nat.add_zero] at k0
        clear e2 hrl htl h5
        go_upto_region 6 with fail
        refine wp_region_held_drew (S := fun w' => w'.cell? ⟨b, off, none⟩ = some (.int .i64 (gen : Int)) ∧ w'.cell? ⟨b, off + 1, none⟩ = some (.int .i64 (base : Int))) (by kernel_rfl) ⟨k0, k1⟩ (fun hHeld => ?_)
        refine wpAnyH_take (i := 0) (v := .slice (some ⟨b, off, none⟩) 18 c) rfl (by kernel_rfl) (by kernel_rfl) (by kernel_rfl) (fun _ _ _ h => h) (Or.inl ⟨by rfl, fun w' hSw => by obtain ⟨s0, s1⟩ := hSw; first | (go_simp; done) | (go_simp; rfl)⟩) hHeld ?_
        simp only [Act.put, List.setIfInBounds_toArray, List.set_cons_zero, List.set_cons_succ]
        refine wpAnyH_take (i := 1) (v := .pointer (some ⟨b, off, none⟩)) rfl (by kernel_rfl) (by kernel_rfl) (by kernel_rfl) (fun _ _ _ h => h) (Or.inl ⟨by rfl, fun w' hSw => by obtain ⟨s0, s1⟩ := hSw; first | (go_simp; done) | (go_simp; rfl)⟩) hHeld ?_
        simp only [Act.put, List.setIfInBounds_toArray, List.set_cons_zero, List.set_cons_succ]
        refine wpAnyH_take (i := 2) (v := .int .i64 (gen : Int)) rfl (by kernel_rfl) (by kernel_rfl) (by kernel_rfl) (fun _ _ _ h => h) (Or.inl ⟨by rfl, fun w' hSw => by obtain ⟨s0, s1⟩ := hSw; first | (go_simp; done) | (go_simp; rfl)⟩) hHeld ?_
        simp only [Act.put, List.setIfInBounds_toArray, List.set_cons_zero, List.set_cons_succ]
        refine wpAnyH_take (i := 3) (v := .slice (some ⟨b, off, none⟩) 18 c) rfl (by kernel_rfl) (by kernel_rfl) (by kernel_rfl) (fun _ _ _ h => h) (Or.inl ⟨by rfl, fun w' hSw => by obtain ⟨s0, s1⟩ := hSw; first | (go_simp; done) | (go_simp; rfl)⟩) hHeld ?_
        simp only [Act.put, List.setIfInBounds_toArray, List.set_cons_zero, List.set_cons_succ]
        refine wpAnyH_take (i := 4) (v := .pointer (some ⟨b, off + 1, none⟩)) rfl (by kernel_rfl) (by kernel_rfl) (by kernel_rfl) (fun _ _ _ h => h) (Or.inl ⟨by rfl, fun w' hSw => by obtain ⟨s0, s1⟩ := hSw; first | (go_simp; done) | (go_simp; rfl)⟩) hHeld ?_
        simp only [Act.put, List.setIfInBounds_toArray, List.set_cons_zero, List.set_cons_succ]
        refine wpAnyH_take (i := 5) (v := .int .i64 (base : Int)) rfl (by kernel_rfl) (by kernel_rfl) (by kernel_rfl) (fun _ _ _ h => h) (Or.inl ⟨by rfl, fun w' hSw => by obtain ⟨s0, s1⟩ := hSw; first | (go_simp; done) | (go_simp; rfl)⟩) hHeld ?_
        simp only [Act.put, List.setIfInBounds_toArray, List.set_cons_zero, List.set_cons_succ]
        refine wpAnyH_take (i := 6) (v := .string ⟨r.toArray⟩) rfl (by kernel_rfl) (by kernel_rfl) (by kernel_rfl) (fun _ _ _ h => h) (Or.inl ⟨by rfl, fun w' hSw => by obtain ⟨s0, s1⟩ := hSw; first | (go_simp; done) | (go_simp; rfl)⟩) hHeld ?_
        simp only [Act.put, List.setIfInBounds_toArray, List.set_cons_zero, List.set_cons_succ]
        refine wpAnyH_take (i := 7) (v := .agg #[.int .i64 (gen : Int), .int .i64 (base : Int), .string ⟨r.toArray⟩, .int .i64 0, .int .i64 0, .int .i64 0, .int .i64 0, .int .i64 0, .int .i64 0, .int .i64 0, .int .i64 0, .int .i64 0, .int .i64 0, .int .i64 0, .int .i64 0, .int .i64 0, .int .i64 0, .int .i64 0, .int .i64 0, .int .i64 0, .int .i64 0, .int .i64 0, .int .i64 0, .int .i64 0, .int .i64 0, .int .i64 0, .int .i64 0, .int .i64 0, .int .i64 0, .int .i64 0, .int .i64 0, .int .i64 0, .int .i64 0, .int .i64 0, .int .i64 0, .slice none 0 0, .bool false, .int .i64 0]) rfl (by kernel_rfl) (by kernel_rfl) (by kernel_rfl) (fun _ _ _ h => h) (Or.inl ⟨by rfl, fun w' hSw => by obtain ⟨s0, s1⟩ := hSw; first | (go_simp; done) | (go_simp; rfl)⟩) hHeld ?_
        simp only [Act.put, List.setIfInBounds_toArray, List.set_cons_zero, List.set_cons_succ]
        refine wpAnyH_ready (rs := [8]) (by kernel_rfl) (by simp) ?_
        refine AllReadyH.cons rfl (fun K hK => ?_) AllReadyH.nil
        go_simp
        refine hK.out _ _ (cells_alloc (w := w1.drew) k0 k1 hbl _) (fun hHeld8 => ?_)
        clear hK K
        try simp only [Act.put, List.setIfInBounds_toArray, List.set_cons_zero, List.set_cons_succ]
        refine wpAnyH_ready (rs := [9]) (by kernel_rfl) (by simp) ?_
        refine AllReadyH.cons rfl (fun K hK => ?_) AllReadyH.nil
        rw [if_pos (by rfl)]
        refine wp_store_newN (w := w1.drew) 82 (.tmp 7) (.tmp 35) ?ho ?hd #[.int .i64 0, .int .i64 0, .string ⟨#[]⟩, .int .i64 0, .int .i64 0, .int .i64 0, .int .i64 0, .int .i64 0, .int .i64 0, .int .i64 0, .int .i64 0, .int .i64 0, .int .i64 0, .int .i64 0, .int .i64 0, .int .i64 0, .int .i64 0, .int .i64 0, .int .i64 0, .int .i64 0, .int .i64 0, .int .i64 0, .int .i64 0, .int .i64 0, .int .i64 0, .int .i64 0, .int .i64 0, .int .i64 0, .int .i64 0, .int .i64 0, .int .i64 0, .int .i64 0, .int .i64 0, .int .i64 0, .int .i64 0, .slice none 0 0, .bool false, .int .i64 0] #[.int .i64 (gen : Int), .int .i64 (base : Int), .string ⟨r.toArray⟩, .int .i64 0, .int .i64 0, .int .i64 0, .int .i64 0, .int .i64 0, .int .i64 0, .int .i64 0, .int .i64 0, .int .i64 0, .int .i64 0, .int .i64 0, .int .i64 0, .int .i64 0, .int .i64 0, .int .i64 0, .int .i64 0, .int .i64 0, .int .i64 0, .int .i64 0, .int .i64 0, .int .i64 0, .int .i64 0, .int .i64 0, .int .i64 0, .int .i64 0, .int .i64 0, .int .i64 0, .int .i64 0, .int .i64 0, .int .i64 0, .int .i64 0, .int .i64 0, .slice none 0 0, .bool false, .int .i64 0] ?hx ?hy infoLg rfl ?h1 ?rest
        case ho => rfl
        case hd => rfl
        case hx => rfl
        case hy => rfl
        case h1 => simp [Value.oneCell']
        refine hK.out _ _ (cells_alloc (w := w1.drew) k0 k1 hbl _) (fun hHeld9 => ?_)
        clear hK K hHeld hHeld8
        try simp only [Act.put, List.setIfInBounds_toArray, List.set_cons_zero, List.set_cons_succ]
        refine wpAnyH_done (by kernel_rfl) ?_ _
        have HL2 : Hid (LgAt (w1.drew.alloc (.cells #[.int .i64 (gen : Int), .int .i64 (base : Int), .string ⟨r.toArray⟩, .int .i64 0, .int .i64 0, .int .i64 0, .int .i64 0, .int .i64 0, .int .i64 0, .int .i64 0, .int .i64 0, .int .i64 0, .int .i64 0, .int .i64 0, .int .i64 0, .int .i64 0, .int .i64 0, .int .i64 0, .int .i64 0, .int .i64 0, .int .i64 0, .int .i64 0, .int .i64 0, .int .i64 0, .int .i64 0, .int .i64 0, .int .i64 0, .int .i64 0, .int .i64 0, .int .i64 0, .int .i64 0, .int .i64 0, .int .i64 0, .int .i64 0, .int .i64 0, .slice none 0 0, .bool false, .int .i64 0] 82)) w1.heap.size (lgC gen base r (tabF (asZ y) 0) (List.replicate 16 0) (.slice none 0 0) false 0)) := Deep.blk_alloc_new w1.drew _
        have HB2 : Hid (Below w1.heap.size w1 (w1.drew.alloc (.cells #[.int .i64 (gen : Int), .int .i64 (base : Int), .string ⟨r.toArray⟩, .int .i64 0, .int .i64 0, .int .i64 0, .int .i64 0, .int .i64 0, .int .i64 0, .int .i64 0, .int .i64 0, .int .i64 0, .int .i64 0, .int .i64 0, .int .i64 0, .int .i64 0, .int .i64 0, .int .i64 0, .int .i64 0, .int .i64 0, .int .i64 0, .int .i64 0, .int .i64 0, .int .i64 0, .int .i64 0, .int .i64 0, .int .i64 0, .int .i64 0, .int .i64 0, .int .i64 0, .int .i64 0, .int .i64 0, .int .i64 0, .int .i64 0, .int .i64 0, .slice none 0 0, .bool false, .int .i64 0] 82))) := ((Below.refl _ w1).drew).alloc (Nat.le_refl _) _
        generalize w1.drew.alloc (.cells #[.int .i64 (gen : Int), .int .i64 (base : Int), .string ⟨r.toArray⟩, .int .i64 0, .int .i64 0, .int .i64 0, .int .i64 0, .int .i64 0, .int .i64 0, .int .i64 0, .int .i64 0, .int .i64 0, .int .i64 0, .int .i64 0, .int .i64 0, .int .i64 0, .int .i64 0, .int .i64 0, .int .i64 0, .int .i64 0, .int .i64 0, .int .i64 0, .int .i64 0, .int .i64 0, .int .i64 0, .int .i64 0, .int .i64 0, .int .i64 0, .int .i64 0, .int .i64 0, .int .i64 0, .int .i64 0, .int .i64 0, .int .i64 0, .int .i64 0, .slice none 0 0, .bool false, .int .i64 0] 82) = w2 at HL2 HB2 ⊢
        clear hHeld9 k0 k1
        go_wp2_with fail
        go_loopw [36] (fun i wr => ∃ k : Nat, k ≤ 8 ∧ i = .int .i64 k ∧ LgAt wr w1.heap.size (lgC gen base r (tabF (asZ y) k) (List.replicate 16 0) (.slice none 0 0) false 0) ∧ Below w1.heap.size w1 wr) (fun i _ => 8 - (intOf i).toNat)
        case atStart => exact ⟨0, Nat.zero_le _, rfl, HL2.out, HB2.out⟩
        case round =>
          rename World => wr
          obtain ⟨k, hk, rfl, ht, hb⟩ := hrel
          have HT : Hid (LgAt wr w1.heap.size (lgC gen base r (tabF (asZ y) k) (List.replicate 16 0) (.slice none 0 0) false 0)) := ht
          have HB : Hid (Below w1.heap.size w1 wr) := hb
          by_cases hlt : k < 8
          · have hki : (k : Int) < 8 := by omega
            have hyl := HYL.out
            obtain ⟨p, hp⟩ : ∃ p, (asZ y)[2 * k]? = some p := ⟨(asZ y)[2 * k]'(by omega), List.getElem?_eq_getElem _⟩
            obtain ⟨q, hq⟩ : ∃ q, (asZ y)[2 * k + 1]? = some q := ⟨(asZ y)[2 * k + 1]'(by omega), List.getElem?_eq_getElem _⟩
            have HF : Hid (lgC gen base r (tabF (asZ y) (k + 1)) (List.replicate 16 0) (.slice none 0 0) false 0 = ((lgC gen base r (tabF (asZ y) k) (List.replicate 16 0) (.slice none 0 0) false 0).set (3 + k * 2) (.int .i64 p)).set (3 + k * 2 + 1) (.int .i64 q)) := by
              show _ = _
              rw [lgC_setF _ (by rw [tabF_len]; omega), Nat.add_assoc 3, lgC_setF _ (by rw [List.length_set, tabF_len]; omega), tabF, if_pos (by omega), hp, hq, Nat.mul_comm 2 k]; rfl
            have hp' : (asZ (gen :: base :: y))[2 + 2 * k]? = some p := by
              rw [Nat.add_comm 2]; exact hp
            have hq' : (asZ (gen :: base :: y))[3 + 2 * k]? = some q := by
              rw [show 3 + 2 * k = (2 * k + 1) + 2 by omega]; exact hq
            obtain ⟨b', off', e', _, c1⟩ := (HI1.out.below hb (Nat.le_refl _)).mem hp'
            obtain ⟨rfl, rfl⟩ : b = b' ∧ off = off' := by cases e'; exact ⟨rfl, rfl⟩
            obtain ⟨b', off', e'', _, c2⟩ := (HI1.out.below hb (Nat.le_refl _)).mem hq'
            obtain ⟨rfl, rfl⟩ : b = b' ∧ off = off' := by cases e''; exact ⟨rfl, rfl⟩
            have f1 := ht.free (3 + k * 2)
            have f2 := ht.free (3 + k * 2 + 1)
            have hLl : (lgC gen base r (tabF (asZ y) k) (List.replicate 16 0) (.slice none 0 0) false 0).length = 38 := lgC_len (tabF_len _ _) (by simp)
            obtain ⟨x1, hx1⟩ : ∃ x, (lgC gen base r (tabF (asZ y) k) (List.replicate 16 0) (.slice none 0 0) false 0)[3 + k * 2]? = some x := ⟨_, List.getElem?_eq_getElem (by omega)⟩
            obtain ⟨x2, hx2⟩ : ∃ x, (lgC gen base r (tabF (asZ y) k) (List.replicate 16 0) (.slice none 0 0) false 0)[3 + k * 2 + 1]? = some x := ⟨_, List.getElem?_eq_getElem (by omega)⟩
            have d1 := ht.cell hx1
            have d2 := ht.cell hx2
            have hg := ht.lt
            have hz := hb.size
            have hbw : b < wr.heap.size := by omega
            have g1 : (0 : Int) ≤ ((2 + 2 * k : Nat) : Int) := by omega
            have g2 : ((2 + 2 * k : Nat) : Int) < 18 := by omega
            have g3 : (0 : Int) ≤ ((3 + 2 * k : Nat) : Int) := by omega
            have g4 : ((3 + 2 * k : Nat) : Int) < 18 := by omega
            clear ht hb hp hq hp' hq' hx1 hx2 e' e'' hLl hyl
            go_wp2_with fail
            go_region
            go_wp2_with fail
            go_roundw
            case rel =>
              refine ⟨k + 1, by omega, by go_num, ?_, ((HB.out.setCell (p := ⟨w1.heap.size, 3 + k * 2, none⟩) (Nat.le_refl _) _).setCell (p := ⟨w1.heap.size, 3 + k * 2 + 1, none⟩) (Nat.le_refl _) _).drew⟩
              rw [HF.out]
              exact (HT.out.put (3 + k * 2) (.int .i64 p)).put (3 + k * 2 + 1) (.int .i64 q)
            case measure => simp [intOf]; omega
          · have hk8 : k = 8 := by omega
            subst hk8
            have ht3 := ht
            rw [tabF_all HYL.out] at ht3
            have HT3 : Hid (LgAt wr w1.heap.size (lgC gen base r (asZ y) (List.replicate 16 0) (.slice none 0 0) false 0)) := ht3
            have hyl : (jzC (asZ y)).length = 16 := by rw [jzC_len]; exact HYL.out
            have HR3 : Hid (wr.rangeAt w1.heap.size 3 (jzC (asZ y))) := HT3.out.range [.int .i64 gen, .int .i64 base, .string ⟨r.toArray⟩] (jzC (asZ y)) _ rfl
            have hLl : (lgC gen base r (asZ y) (List.replicate 16 0) (.slice none 0 0) false 0).length = 38 := lgC_len HYL.out (by simp)
            have HTh : Hid (wr.there w1.heap.size 19 (jzC (asZ y)).toArray.size) := HT3.out.there (o := 19) (n := (jzC (asZ y)).toArray.size) (by rw [hLl]; simp [hyl])
            have HI16 : Hid ((Try.prog.info? 80).map (·.size) = some (jzC (asZ y)).length) := by show _ = _; rw [hyl]; exact infoTb
            have hL4 : LgAt (wr.setCells w1.heap.size 19 (jzC (asZ y))) w1.heap.size (lgC gen base r (asZ y) (asZ y) (.slice none 0 0) false 0) := by
              have h := HT3.out.puts (jzC (asZ y)) _ _ 19
              have e := setL_app (.int .i64 gen :: .int .i64 base :: .string ⟨r.toArray⟩ :: jzC (asZ y)) (jzC (List.replicate 16 0)) [.slice none 0 0, .bool false, .int .i64 0] (jzC (asZ y)) (by rw [hyl]; simp [jzC])
              rw [show (Value.int .i64 gen :: .int .i64 base :: .string ⟨r.toArray⟩ :: jzC (asZ y)).length = 19 by simp [hyl]] at e
              have e2 : lgC gen base r (asZ y) (List.replicate 16 0) (.slice none 0 0) false 0 = (.int .i64 gen :: .int .i64 base :: .string ⟨r.toArray⟩ :: jzC (asZ y)) ++ (jzC (List.replicate 16 0) ++ [.slice none 0 0, .bool false, .int .i64 0]) := rfl
              rw [e2, e] at h
              exact h
            have HR4 : Hid ((wr.setCells w1.heap.size 19 (jzC (asZ y))).rangeAt w1.heap.size 0 (lgC gen base r (asZ y) (asZ y) (.slice none 0 0) false 0)) := hL4.all
            have hLn : (lgC gen base r (asZ y) (asZ y) (.slice none 0 0) false 0).length = 38 := lgC_len HYL.out HYL.out
            have HIL : Hid ((Try.prog.info? 82).map (·.size) = some (lgC gen base r (asZ y) (asZ y) (.slice none 0 0) false 0).length) := by show _ = _; rw [hLn]; exact infoLg
            have HZ4 : Hid (LgAt (wr.setCells w1.heap.size 19 (jzC (asZ y))) (B + 1) zeroC) := ((HG1.out.below HB.out hz1).aside (by omega) _ _ _)
            have HTz : Hid ((wr.setCells w1.heap.size 19 (jzC (asZ y))).there (B + 1) 0 (lgC gen base r (asZ y) (asZ y) (.slice none 0 0) false 0).toArray.size) := HZ4.out.there (by rw [zeroC_len]; simp [hLn])
            clear ht ht3 hlt hb hL4
            go_wp2_with (first | refine wpList_load_mid rfl 80 _ rfl w1.heap.size 3 rfl (jzC (asZ y)) _ HR3.out Try.underlying80 rfl HI16.out ?_ | refine wpList_store_mid rfl 80 _ _ rfl w1.heap.size 19 (jzC (asZ y)).toArray rfl rfl HTh.out (by simpa using HI16.out) (all_oneCell_toArray (jzC_one _)) ?_ | refine wpList_load_mid rfl 82 _ rfl w1.heap.size 0 rfl (lgC gen base r (asZ y) (asZ y) (.slice none 0 0) false 0) _ HR4.out Try.underlying82 rfl HIL.out ?_ | refine wpList_store_mid rfl 82 _ _ rfl (B + 1) 0 (lgC gen base r (asZ y) (asZ y) (.slice none 0 0) false 0).toArray rfl rfl HTz.out (by simpa using HIL.out) (all_oneCell_toArray (lgC_one rfl)) ?_)
            have hE := HZ4.out.puts (lgC gen base r (asZ y) (asZ y) (.slice none 0 0) false 0) _ _ 0
            rw [setL_all (by rw [hLn, zeroC_len])] at hE
            have hB5 := below_cells (Nat.le_succ _) (lgC gen base r (asZ y) (asZ y) (.slice none 0 0) false 0) _ 0 (below_cells (by omega : B ≤ w1.heap.size) (jzC (asZ y)) _ 19 (HB1.out.trans (HB.out.mono (by omega))))
            obtain ⟨S, hS, hSe⟩ := HH.out
            refine bodyPost_ret (v := .tuple #[.agg (lgC gen base r (asZ y) (asZ y) (.slice none 0 0) false 0).toArray, .int .i64 0]) (results_log Try.results107 _ _ (B + 1) _ _ rfl hE.all Try.underlying82 rfl HIL.out) rfl ⟨.inl ⟨S, hS, by rw [hSe]⟩, ?_⟩
            rw [HW.out]
            exact hB5
      · have h5i : (500 : Int) < (r.length : Int) := by omega
        have HH : Hid (hdL ⟨1, t.data.toList⟩ = none) := by
          show _ = _
          rw [hdL, if_pos rfl, HX.out]
          simp only
          rw [if_neg h5]
        clear hrl htl h5
        have HTe : Hid (_ : Prop) := HG1.out.there (o := 0) (n := (#[.int .i64 0, .int .i64 0, .string ⟨#[]⟩, .int .i64 0, .int .i64 0, .int .i64 0, .int .i64 0, .int .i64 0, .int .i64 0, .int .i64 0, .int .i64 0, .int .i64 0, .int .i64 0, .int .i64 0, .int .i64 0, .int .i64 0, .int .i64 0, .int .i64 0, .int .i64 0, .int .i64 0, .int .i64 0, .int .i64 0, .int .i64 0, .int .i64 0, .int .i64 0, .int .i64 0, .int .i64 0, .int .i64 0, .int .i64 0, .int .i64 0, .int .i64 0, .int .i64 0, .int .i64 0, .int .i64 0, .int .i64 0, .slice none 0 0, .bool false, .int .i64 0] : Array Value).size) (by rw [zeroC_len]; decide)
        go_wp2_with (refine wpList_store_mid rfl 82 _ _ rfl (B + 1) 0 _ rfl rfl HTe.out (by exact infoLg) (by simp [Value.oneCell']) ?_)
        refine bodyPost_ret (v := .tuple #[.agg zeroC.toArray, .int .i64 3]) (HEnd.out _ _ (zero_puts HG1.out).all rfl) rfl ⟨.inr ⟨HH.out, rfl⟩, ?_⟩
        rw [HW.out]
        exact below_cells (Nat.le_succ _) _ _ _ HB1.out
    · have HH : Hid (hdL ⟨1, t.data.toList⟩ = none) := by
        show _ = _
        rw [hdL, if_pos rfl, hx]
      clear hx
      have HTe : Hid (_ : Prop) := HG1.out.there (o := 0) (n := (#[.int .i64 0, .int .i64 0, .string ⟨#[]⟩, .int .i64 0, .int .i64 0, .int .i64 0, .int .i64 0, .int .i64 0, .int .i64 0, .int .i64 0, .int .i64 0, .int .i64 0, .int .i64 0, .int .i64 0, .int .i64 0, .int .i64 0, .int .i64 0, .int .i64 0, .int .i64 0, .int .i64 0, .int .i64 0, .int .i64 0, .int .i64 0, .int .i64 0, .int .i64 0, .int .i64 0, .int .i64 0, .int .i64 0, .int .i64 0, .int .i64 0, .int .i64 0, .int .i64 0, .int .i64 0, .int .i64 0, .int .i64 0, .slice none 0 0, .bool false, .int .i64 0] : Array Value).size) (by rw [zeroC_len]; decide)
      go_wp2_with (refine wpList_store_mid rfl 82 _ _ rfl (B + 1) 0 _ rfl rfl HTe.out (by exact infoLg) (by simp [Value.oneCell']) ?_)
      refine bodyPost_ret (v := .tuple #[.agg zeroC.toArray, .int .i64 3]) (HEnd.out _ _ (zero_puts HG1.out).all rfl) rfl ⟨.inr ⟨HH.out, rfl⟩, ?_⟩
      rw [HW.out]
      exact below_cells (Nat.le_succ _) _ _ _ HB1.out
  · have hk' : (k != 1) = true := by simp [hk]
    have HH : Hid (hdL ⟨k, t.data.toList⟩ = none) := by
      show _ = _
      rw [hdL, if_neg hk]
    clear hk
    have HTe : Hid (_ : Prop) := HG0.out.there (o := 0) (n := (#[.int .i64 0, .int .i64 0, .string ⟨#[]⟩, .int .i64 0, .int .i64 0, .int .i64 0, .int .i64 0, .int .i64 0, .int .i64 0, .int .i64 0, .int .i64 0, .int .i64 0, .int .i64 0, .int .i64 0, .int .i64 0, .int .i64 0, .int .i64 0, .int .i64 0, .int .i64 0, .int .i64 0, .int .i64 0, .int .i64 0, .int .i64 0, .int .i64 0, .int .i64 0, .int .i64 0, .int .i64 0, .int .i64 0, .int .i64 0, .int .i64 0, .int .i64 0, .int .i64 0, .int .i64 0, .int .i64 0, .int .i64 0, .slice none 0 0, .bool false, .int .i64 0] : Array Value).size) (by rw [zeroC_len]; decide)
    go_wp2_with (refine wpList_store_mid rfl 82 _ _ rfl (B + 1) 0 _ rfl rfl HTe.out (by exact infoLg) (by simp [Value.oneCell']) ?_)
    refine bodyPost_ret (v := .tuple #[.agg zeroC.toArray, .int .i64 3]) (HEnd.out _ _ (zero_puts HG0.out).all rfl) rfl ⟨.inr ⟨HH.out, rfl⟩, ?_⟩
    rw [HW.out]
    exact below_cells (Nat.le_succ _) _ _ _ HB0.out
end Go.Proofs.Ytgffippimmokiaa

/- What hot.Read answers. -/
namespace Go.Proofs.Ytgffippimmokiaa
open Go.RowKit
set_option linter.unusedSimpArgs false
set_option linter.unusedVariables false

/-- what Read answers -/
def ReadIs (l : List UInt8) (w : World) (e : Ending) (w' : World) : Prop :=
  ((logE (scanL l).1 = 0 ∧ ∃ v xs, e = .returned (.tuple #[.agg (sC (logS (scanL l).1) v (logS (scanL l).1).good).toArray, .int .i64 0]) ∧ RzsOwn w' w.heap.size v xs ∧ xs.map (·.1) = (logS (scanL l).1).revs) ∨
    (logE (scanL l).1 ≠ 0 ∧ e = .returned (.tuple #[.agg zeroC.toArray, .int .i64 (logE (scanL l).1)]))) ∧ Below w.heap.size w w'
theorem wpList_built {P : Program} {ops : Array Oper} {rest : List Oper} {op : Oper} {a : Act} {w : World} {Q : Exit → Act → World → Prop} (hgd : op.guard = none) (ty : TypeId) (i j : Nat) (x y : Operand) (ho : op.op = .build ty #[(i, x), (j, y)])
    (cells : Array Value) (hb : P.built ty [(i, a.eval x), (j, a.eval y)] = some cells) (h : wpList P ops Q rest (a.put op.dst (.agg cells)) w) : wpList P ops Q (op :: rest) a w :=
  wpList_plain hgd fun _ hK => by
    have hb2 : P.built ty ((#[(i, x), (j, y)] : Array (Nat × Operand)).map fun (k, z) => (k, a.eval z)).toList = some cells := by simpa using hb
    unfold Oper.wp execOp
    simp only [ho, Sem.run_bind, run_build w ty _ cells hb2, Result.andThen_ok]
    exact hK _ _ h
set_option maxRecDepth 20000 in
theorem rd_built {L : List Value} (h : L.length = 38) (n : Int) : Try.prog.built 172 [(0, Value.agg L.toArray), (1, Value.int .i64 n)] = some (L ++ [Value.int .i64 n]).toArray := by
  match L, h with
  | x0 :: x1 :: x2 :: x3 :: x4 :: x5 :: x6 :: x7 :: x8 :: x9 :: x10 :: x11 :: x12 :: x13 :: x14 :: x15 :: x16 :: x17 :: x18 :: x19 :: x20 :: x21 :: x22 :: x23 :: x24 :: x25 :: x26 :: x27 :: x28 :: x29 :: x30 :: x31 :: x32 :: x33 :: x34 :: x35 :: x36 :: x37 :: [], _ =>
    show Try.prog.built 172 [(0, Value.agg #[x0, x1, x2, x3, x4, x5, x6, x7, x8, x9, x10, x11, x12, x13, x14, x15, x16, x17, x18, x19, x20, x21, x22, x23, x24, x25, x26, x27, x28, x29, x30, x31, x32, x33, x34, x35, x36, x37]), (1, Value.int .i64 n)] = some #[x0, x1, x2, x3, x4, x5, x6, x7, x8, x9, x10, x11, x12, x13, x14, x15, x16, x17, x18, x19, x20, x21, x22, x23, x24, x25, x26, x27, x28, x29, x30, x31, x32, x33, x34, x35, x36, x37, Value.int .i64 n]
    kernel_rfl
def goodOf (w : World) (g : Nat) : Nat := match w.cell? ⟨g, 37, none⟩ with
  | some (.int _ n) => n.toNat
  | _ => 0
theorem goodOf_is {w : World} {g : Nat} {n : Int} (h : w.cell? ⟨g, 37, none⟩ = some (.int .i64 n)) : goodOf w g = n.toNat := by
  unfold goodOf
  rw [h]
theorem sC_good {S : Lg} {v : Value} {gd n : Int} (m : Int) (hF : S.first.length = 16) (hT : S.table.length = 16) : (rdC S v gd n).set 37 (.int .i64 m) = rdC S v m n := (lg_set hF hT [.int .i64 n]).2.2.1 m
theorem RdAt.good {w : World} {g : Nat} {S : Lg} {v : Value} {gd n : Int} (h : RdAt w g (rdC S v gd n)) (hF : S.first.length = 16) (hT : S.table.length = 16) : w.cell? ⟨g, 37, none⟩ = some (.int .i64 gd) := h.cell (by
  rw [rdC, List.getElem?_append_left (by rw [sC_len hF hT]; decide)]
  exact (lg_at hF hT).2.2.1)
theorem RdIs.good {w : World} {g : Nat} {S : Lg} {gd n : Int} (h : RdIs w g S gd n) (hF : S.first.length = 16) (hT : S.table.length = 16) : w.cell? ⟨g, 37, none⟩ = some (.int .i64 gd) ∧ w.frozen? ⟨g, 37, none⟩ = false := by
  obtain ⟨v, xs, h1, _⟩ := h
  exact ⟨h1.good hF hT, h1.free 37⟩
/-- what was good is more by m, and there is the log of one frame more -/
theorem RdIs.more {w : World} {g : Nat} {S : Lg} {gd n m : Int} {k : Nat} (h : RdIs w g S gd n) (hF : S.first.length = 16) (hT : S.table.length = 16) : RdIs (w.setCell ⟨g, 37, none⟩ (.int .i64 m)) g { S with good := k } m n := by
  obtain ⟨v, xs, h1, h2, h3⟩ := h
  have e := h1.put 37 (.int .i64 m)
  rw [sC_good m hF hT] at e
  exact ⟨v, xs, e, h2.put (Nat.lt_succ_self g) _, h3⟩
theorem step_took {S S' : Lg} {n n' : Int} {f : Fr} (h : stepR S n f = some (S', n')) : ∃ x : Lg × Int, stepL S n f = some x ∧ { S' with good := x.1.good } = x.1 ∧ n' = x.2 ∧ x.1.good = S.good + (f.t.length + 7) := by
  unfold stepR at h
  cases hs : stepL S n f with
  | none => rw [hs] at h; cases h
  | some x =>
    rw [hs] at h
    simp only [Option.map_some, Option.some.injEq, Prod.mk.injEq] at h
    obtain ⟨h1, h2⟩ := h
    refine ⟨x, rfl, by rw [← h1], h2.symm, ?_⟩
    unfold stepL at hs
    split at hs
    · split at hs
      · split at hs
        · cases hs; rfl
        · cases hs
      · cases hs
    · split at hs
      · rename_i hf
        cases hs
        show S.good + 7 = S.good + (f.t.length + 7)
        rw [hf.2.1]; rfl
      · cases hs
theorem step_not {S : Lg} {n : Int} {f : Fr} (h : stepR S n f = none) : stepL S n f = none := by
  unfold stepR at h
  cases hs : stepL S n f with
  | none => rfl
  | some x => rw [hs] at h; cases h

theorem got_size {l b : List UInt8} {k n : Nat} (h : frameL k b = l.take n) (hn : n ≤ l.length) : n = b.length + 7 := by
  have h2 := congrArg List.length h
  rw [frameL_len, List.length_take, Nat.min_eq_left hn] at h2
  omega
theorem RzsOwn.cells {b B : Nat} (hb : b < B) {v : Value} {xs : List (Rv × Option Addr × Nat)} : ∀ (vs : List Value) (w : World) (o : Nat), RzsOwn w B v xs → RzsOwn (w.setCells b o vs) B v xs
  | [], _, _, h => h
  | u :: r, w, o, h => RzsOwn.cells hb r _ (o + 1) (h.put (p := ⟨b, o, none⟩) hb u)

set_option maxRecDepth 20000 in
set_option maxHeartbeats 8000000 in
theorem Read_any (s : ByteArray) (w : World) (hs : s.size ≤ 9223372036854775807) :
    Calls Try.prog 80 #[.string s] w fun e w' => ReadIs s.data.toList w e w' := by
  have hl : s.data.toList.length = s.size := Array.length_toList
  have HL : Hid (s.data.toList.length = s.size) := hl
  have HG : Hid _ := fun w => FGet_any s w hs
  unfold frV at HG
  obtain ⟨l, hll⟩ : ∃ l, s.data.toList = l := ⟨_, rfl⟩
  have HE : Hid (s.data.toList = l) := hll
  rw [hll] at HG HL
  have HP : Hid (∀ w' e, ReadIs l w e w' → ReadIs s.data.toList w e w') := fun w' e h => by rw [HE.out]; exact h
  clear hll hl
  have HL0 : Hid (LgAt (w.alloc (.cells #[.int .i64 0, .int .i64 0, .string ⟨#[]⟩, .int .i64 0, .int .i64 0, .int .i64 0, .int .i64 0, .int .i64 0, .int .i64 0, .int .i64 0, .int .i64 0, .int .i64 0, .int .i64 0, .int .i64 0, .int .i64 0, .int .i64 0, .int .i64 0, .int .i64 0, .int .i64 0, .int .i64 0, .int .i64 0, .int .i64 0, .int .i64 0, .int .i64 0, .int .i64 0, .int .i64 0, .int .i64 0, .int .i64 0, .int .i64 0, .int .i64 0, .int .i64 0, .int .i64 0, .int .i64 0, .int .i64 0, .int .i64 0, .slice none 0 0, .bool false, .int .i64 0] 82)) w.heap.size zeroC) := by
    show _ = _
    rw [zeroC_is]
    exact heap_alloc_new w _
  have HB0 : Hid (Below w.heap.size w (w.alloc (.cells #[.int .i64 0, .int .i64 0, .string ⟨#[]⟩, .int .i64 0, .int .i64 0, .int .i64 0, .int .i64 0, .int .i64 0, .int .i64 0, .int .i64 0, .int .i64 0, .int .i64 0, .int .i64 0, .int .i64 0, .int .i64 0, .int .i64 0, .int .i64 0, .int .i64 0, .int .i64 0, .int .i64 0, .int .i64 0, .int .i64 0, .int .i64 0, .int .i64 0, .int .i64 0, .int .i64 0, .int .i64 0, .int .i64 0, .int .i64 0, .int .i64 0, .int .i64 0, .int .i64 0, .int .i64 0, .int .i64 0, .int .i64 0, .slice none 0 0, .bool false, .int .i64 0] 82))) := (Below.refl _ w).alloc (Nat.le_refl _) _
  go_enter Try.func80, Try.ntmps80
  go_upto_region 1 with fail
  generalize w.alloc (.cells #[.int .i64 0, .int .i64 0, .string ⟨#[]⟩, .int .i64 0, .int .i64 0, .int .i64 0, .int .i64 0, .int .i64 0, .int .i64 0, .int .i64 0, .int .i64 0, .int .i64 0, .int .i64 0, .int .i64 0, .int .i64 0, .int .i64 0, .int .i64 0, .int .i64 0, .int .i64 0, .int .i64 0, .int .i64 0, .int .i64 0, .int .i64 0, .int .i64 0, .int .i64 0, .int .i64 0, .int .i64 0, .int .i64 0, .int .i64 0, .int .i64 0, .int .i64 0, .int .i64 0, .int .i64 0, .int .i64 0, .int .i64 0, .slice none 0 0, .bool false, .int .i64 0] 82) = w0 at HL0 HB0 ⊢
  obtain ⟨B, hB⟩ : ∃ B, w.heap.size = B := ⟨_, rfl⟩
  have HW : Hid (w.heap.size = B) := hB
  rw [hB] at HL0 HB0 ⊢
  clear hB
  have HEnd : Hid (∀ (wz : World) (L : List Value) (tmps : Array Value), LgAt wz B L → L.length = 38 → tmps.getD 2 undef = .pointer (some ⟨B, 0, none⟩) → (results Try.f80 tmps).run Try.prog wz = .ok (.tuple #[.agg L.toArray, tmps.getD 3 undef]) wz) := fun wz L tmps hr hL hp => results_log Try.results80 tmps wz B L _ hp hr.all Try.underlying82 rfl (by rw [hL]; exact infoLg)
  have hlB := HL0.out.lt
  go_wp2_with fail
  refine (HG.out _).mono ?_
  rintro e w1 ⟨rfl, hb1⟩
  have HL1 : Hid (LgAt w1 B zeroC) := HL0.out.below hb1 hlB
  have HB1 : Hid (Below B w w1) := HB0.out.trans (hb1.mono (by omega))
  have hlB1 := HL1.out.lt
  clear hb1 hlB
  obtain ⟨k, hk⟩ : ∃ k : Int, (gotK l : Int) = k := ⟨_, rfl⟩
  obtain ⟨b, hbb⟩ : ∃ b, gotB l = b := ⟨_, rfl⟩
  obtain ⟨n, hn⟩ : ∃ n, gotN l = n := ⟨_, rfl⟩
  obtain ⟨q, hq⟩ : ∃ q, gotE l = q := ⟨_, rfl⟩
  rw [hk, hbb, hn, hq]
  have HK : Hid ((gotK l : Int) = k ∧ gotB l = b ∧ gotN l = n ∧ gotE l = q) := ⟨hk, hbb, hn, hq⟩
  clear hk hbb hn hq
  have HL2 : Hid (LgAt (w1.alloc (.cells #[.int .i64 k, .string ⟨b.toArray⟩] 149)) B zeroC) := HL1.out.below ((Below.refl _ w1).alloc (Nat.le_refl _) _) hlB1
  have HB2 : Hid (Below B w (w1.alloc (.cells #[.int .i64 k, .string ⟨b.toArray⟩] 149))) := HB1.out.alloc (Nat.le_of_lt hlB1) _
  have HF2 : Hid (FBox (w1.alloc (.cells #[.int .i64 k, .string ⟨b.toArray⟩] 149)) w1.heap.size k ⟨b.toArray⟩) := fbox_here w1 k _
  go_upto_region 2 with fail
  generalize w1.alloc (.cells #[.int .i64 k, .string ⟨b.toArray⟩] 149) = w2 at HL2 HB2 HF2 ⊢
  have hlB2 := HL2.out.lt
  by_cases hq0 : q = 0
  · obtain ⟨hk, hbb, hn, hq⟩ := HK.out
    rw [hq0] at hq
    have HSC : Hid _ := scans_good hq
    obtain ⟨p1, p2, p3, p4, p5, p6⟩ := got_put hq
    rw [hk, hbb, hn] at HSC
    rw [hbb] at p3
    rw [hn] at p4 p6
    rw [hbb] at p6
    have HN : Hid (n ≤ l.length ∧ n = b.length + 7 ∧ b.length ≤ 4000) := ⟨p4, got_size p6 p4, p3⟩
    subst hq0
    clear hk hbb hn hq p1 p2 p3 p4 p5 p6
    have hbs : (⟨b.toArray⟩ : ByteArray).size ≤ 9223372036854775807 := by
      show b.toArray.size ≤ _
      rw [List.size_toArray]
      have := HN.out.2.2
      omega
    have HH : Hid (∀ w : World, Calls Try.prog 107 #[.agg #[.int .i64 k, .string ⟨b.toArray⟩]] w fun e w' => HeadIs k b e ∧ Below w.heap.size w w') := fun w => readHead_any k ⟨b.toArray⟩ w hbs
    obtain ⟨c0, c1, hl2⟩ := HF2.out
    clear hbs
    go_wp2_with fail
    refine (HH.out _).mono ?_
    rintro e w3 ⟨hcase, hb3⟩
    have HL3 : Hid (LgAt w3 B zeroC) := HL2.out.below hb3 hlB2
    have HB3 : Hid (Below B w w3) := HB2.out.trans (hb3.mono (Nat.le_of_lt hlB2))
    have hlB3 := HL3.out.lt
    clear hb3 c0 c1 hl2
    rcases hcase with ⟨S, hS, rfl⟩ | ⟨hS, rfl⟩
    · have HS : Hid (hdL ⟨k, b⟩ = some S) := hS
      have HOK : Hid (LOk S (S.text.length : Nat)) := hd_ok hS HN.out.2.2
      have hF := HOK.out.first
      have hT := HOK.out.table
      obtain ⟨-, sl, sr, -, -, hSe⟩ := hd_is hS
      have hSr : S.revs = [] := by rw [hSe]
      have hSw : S.whole = false := by rw [hSe]
      have hSg : S.good = n := by rw [hSe]; exact HN.out.2.1.symm
      have HX : Hid (S.revs = [] ∧ S.whole = false ∧ S.good = n) := ⟨hSr, hSw, hSg⟩
      have hLn : (headC S).length = 38 := lgC_len hF hT
      have HIL : Hid ((Try.prog.info? 82).map (·.size) = some (headC S).toArray.size) := by show _ = _; rw [List.size_toArray, hLn]; exact infoLg
      have HZ : Hid ((38 : Nat) = (headC S).toArray.size) := by show (38 : Nat) = (headC S).toArray.size; rw [List.size_toArray, hLn]
      have HO1 : Hid ((headC S).toArray.all (·.oneCell') = true) := all_oneCell_toArray (lgC_one rfl)
      have HC : Hid (LgAt (w3.alloc (.cells (headC S).toArray 82)) w3.heap.size (headC S)) := Deep.blk_alloc_new w3 _
      have HB4 : Hid (Below w3.heap.size w3 (w3.alloc (.cells (headC S).toArray 82))) := (Below.refl _ w3).alloc (Nat.le_refl _) _
      clear hS hSe hSr hSw hSg hLn
      go_upto_region 7 with (refine wpList_store_new rfl 82 _ _ rfl _ (headC S).toArray (by rfl) (by rfl) HIL.out (by exact HZ.out) HO1.out ?_)
      generalize w3.alloc (.cells (headC S).toArray 82) = w4 at HC HB4 ⊢
      obtain ⟨G, hG⟩ : ∃ G, w3.heap.size = G := ⟨_, rfl⟩
      have HBG : Hid (B < G) := by have h := hlB3; rw [hG] at h; exact h
      rw [hG] at HC HB4 ⊢
      have HB4' : Hid (Below B w w4) := HB3.out.trans (HB4.out.mono (Nat.le_of_lt HBG.out))
      have HL4 : Hid (LgAt w4 B zeroC) := HL3.out.below HB4.out HBG.out
      have c37 : w4.cell? ⟨G, 37, none⟩ = some (.int .i64 0) := HC.out.cell (lg_at hF hT).2.2.1
      have f37 := HC.out.free 37
      have HC5 : Hid (LgAt (w4.setCell ⟨G, 37, none⟩ (.int .i64 (n : Int))) G (sC S (.slice none 0 0) (n : Int))) := by
        have h := HC.out.put 37 (.int .i64 (n : Int))
        have e : (headC S).set 37 (.int .i64 (n : Int)) = sC S (.slice none 0 0) (n : Int) := by
          have e2 := (lg_set (gen := S.gen) (base := S.base) (text := S.text) (F := S.first) (T := S.table) (rv := .slice none 0 0) (wh := false) (gd := 0) hF hT []).2.2.1 (n : Int)
          rw [List.append_nil, List.append_nil] at e2
          rw [headC, e2, sC, HX.out.2.1]
        rw [e] at h
        exact h
      have HB5 : Hid (Below B w (w4.setCell ⟨G, 37, none⟩ (.int .i64 (n : Int)))) := HB4'.out.setCell (p := ⟨G, 37, none⟩) (Nat.le_of_lt HBG.out) _
      have HL5 : Hid (LgAt (w4.setCell ⟨G, 37, none⟩ (.int .i64 (n : Int))) B zeroC) := HL4.out.other _ (Nat.ne_of_lt HBG.out)
      have hgl4 := HC.out.lt
      go_upto_region 8 with fail
      clear c37 f37 hgl4
      generalize w4.setCell ⟨G, 37, none⟩ (.int .i64 (n : Int)) = w5 at HC5 HB5 HL5 ⊢
      clear hlB1 hlB2 hlB3 HC HB4 HB4' HL4 HL3 HB3
      have HLn : Hid ((sC S (.slice none 0 0) (n : Int)).length = 38) := sC_len hF hT
      have ctx : w5.cell? ⟨G, 2, none⟩ = some (.string ⟨S.text.toArray⟩) := HC5.out.cell rfl
      have htx : (⟨S.text.toArray⟩ : ByteArray).size = S.text.length := by show S.text.toArray.size = _; simp
      have hgl5 := HC5.out.lt
      have HON : Hid (∀ u ∈ sC S (.slice none 0 0) (n : Int), u.oneCell' = true) := lgC_one rfl
      obtain ⟨L, hLL⟩ : ∃ L, sC S (.slice none 0 0) (n : Int) = L := ⟨_, rfl⟩
      have HLE : Hid (sC S (.slice none 0 0) (n : Int) = L) := hLL
      rw [hLL] at HC5 HLn HON
      clear hLL
      have HR5 : Hid (w5.rangeAt G 0 L) := HC5.out.all
      have HI5 : Hid ((Try.prog.info? 82).map (·.size) = some L.length) := by show _ = _; rw [HLn.out]; exact infoLg
      have HI9 : Hid ((Try.prog.info? 172).map (·.size) = some (L ++ [Value.int .i64 (S.text.length : Int)]).toArray.size) := by
        show _ = _
        rw [List.size_toArray, List.length_append, HLn.out]
        exact infoRd
      have HO9 : Hid ((L ++ [Value.int .i64 (S.text.length : Int)]).toArray.all (·.oneCell') = true) := all_oneCell_toArray (fun u hu => by
        rcases List.mem_append.1 hu with hu | hu
        · exact HON.out u hu
        · rw [List.mem_singleton.1 hu]; rfl)
      have HZ9 : Hid ((39 : Nat) = (L ++ [Value.int .i64 (S.text.length : Int)]).toArray.size) := by
        show (39 : Nat) = (L ++ [Value.int .i64 (S.text.length : Int)]).toArray.size
        rw [List.size_toArray, List.length_append, HLn.out]
        rfl
      go_wp2_with (first | refine wpList_load_mid rfl 82 _ rfl G 0 rfl L _ HR5.out Try.underlying82 rfl HI5.out ?_ | refine wpList_built rfl 172 _ _ _ _ rfl (L ++ [Value.int .i64 (S.text.length : Int)]).toArray (by exact rd_built HLn.out _) ?_ | refine wpList_store_new rfl 172 _ _ rfl _ (L ++ [Value.int .i64 (S.text.length : Int)]).toArray (by rfl) (by rfl) HI9.out (by exact HZ9.out) HO9.out ?_)
      simp only [Act.put]
      have HD6 : Hid (RdAt (w5.alloc (.cells (L ++ [Value.int .i64 (S.text.length : Int)]).toArray 172)) w5.heap.size (L ++ [Value.int .i64 (S.text.length : Int)])) := Deep.blk_alloc_new w5 _
      have HB6 : Hid (Below w5.heap.size w5 (w5.alloc (.cells (L ++ [Value.int .i64 (S.text.length : Int)]).toArray 172))) := (Below.refl _ w5).alloc (Nat.le_refl _) _
      generalize w5.alloc (.cells (L ++ [Value.int .i64 (S.text.length : Int)]).toArray 172) = w6 at HD6 HB6 ⊢
      obtain ⟨g, hgg⟩ : ∃ g, w5.heap.size = g := ⟨_, rfl⟩
      rw [hgg] at HD6 HB6 ⊢
      have HGB : Hid (B < g) := by have h := HL5.out.lt; rw [hgg] at h; exact h
      have HL6 : Hid (LgAt w6 B zeroC) := HL5.out.below HB6.out HGB.out
      have HBw : Hid (Below B w w6) := HB5.out.trans (HB6.out.mono (Nat.le_of_lt HGB.out))
      have HR6 : Hid (RdIs w6 g S (S.good : Int) (S.text.length : Int)) := by
        refine ⟨.slice none 0 0, [], ?_, rzs_nil _ _, by rw [HX.out.1]; rfl⟩
        have h := HD6.out
        rw [← HLE.out, ← HX.out.2.2] at h
        exact h
      have HFin : Hid (logE (scanL l).1 = 0 ∧ logS (scanL l).1 = (walkL S (S.text.length : Nat) (scanL (l.drop n)).1).1) := by
        rw [HSC.out]
        exact ⟨by simp [logE, HS.out], by simp [logS, HS.out]⟩
      clear ctx htx hgl5 HON HLn HC5 HLE HR5 HI5 HI9 HO9 HZ9 HIL HZ HO1 HB5 HL5 HD6 HB6 hgg hG HBG hF hT
      go_loopw [] (fun wr => ∃ (S1 : Lg) (n1 : Int), RdIs wr g S1 (S1.good : Int) n1 ∧ LOk S1 n1 ∧ S1.good ≤ l.length ∧ logS (scanL l).1 = (walkL S1 n1 (scanL (l.drop S1.good)).1).1 ∧ LgAt wr B zeroC ∧ Below B w wr) (fun wr => s.size - goodOf wr g)
      case atStart => exact ⟨S, _, HR6.out, HOK.out, by rw [HX.out.2.2]; exact HN.out.1, by rw [HX.out.2.2]; exact HFin.out.2, HL6.out, HBw.out⟩
      case round =>
        rename World => wr
        obtain ⟨S1, n1, hR, hok, hgd, hfin, hLB, hBw⟩ := hrel
        have HR : Hid (RdIs wr g S1 (S1.good : Int) n1) := hR
        have HOK1 : Hid (LOk S1 n1) := hok
        have HGD : Hid (S1.good ≤ l.length) := hgd
        have HFN : Hid (logS (scanL l).1 = (walkL S1 n1 (scanL (l.drop S1.good)).1).1) := hfin
        have HLB : Hid (LgAt wr B zeroC) := hLB
        have HBR : Hid (Below B w wr) := hBw
        have hF1 := hok.first
        have hT1 := hok.table
        obtain ⟨c37, f37⟩ := hR.good hF1 hT1
        have hgl := hR.lt
        have hl0 := HL.out
        obtain ⟨p, hp⟩ : ∃ p, S1.good = p := ⟨_, rfl⟩
        have HPG : Hid (S1.good = p) := hp
        rw [hp] at c37 hgd
        have hpi : (p : Int) ≤ (s.size : Int) := by omega
        have HG2 : Hid _ := fun w => FGet_any (s.extract p s.size) w (by rw [ByteArray.size_extract]; omega)
        rw [drop_at] at HG2
        unfold frV at HG2
        rw [HE.out] at HG2
        obtain ⟨m, hm⟩ : ∃ m, l.drop p = m := ⟨_, rfl⟩
        have HM : Hid (l.drop p = m) := hm
        rw [hm] at HG2
        have hml : m.length = s.size - p := by rw [← hm, List.length_drop]; omega
        obtain ⟨k2, hk2⟩ : ∃ k : Int, (gotK m : Int) = k := ⟨_, rfl⟩
        obtain ⟨b2, hb2⟩ : ∃ b, gotB m = b := ⟨_, rfl⟩
        obtain ⟨n2, hn2⟩ : ∃ n, gotN m = n := ⟨_, rfl⟩
        obtain ⟨q2, hq2⟩ : ∃ q, gotE m = q := ⟨_, rfl⟩
        rw [hk2, hb2, hn2, hq2] at HG2
        have HK2 : Hid ((gotK m : Int) = k2 ∧ gotB m = b2 ∧ gotN m = n2 ∧ gotE m = q2) := ⟨hk2, hb2, hn2, hq2⟩
        clear hk2 hb2 hn2 hq2 hm hp hR hok hgd hfin hLB hBw hl0
        go_wp2_with fail
        refine (HG2.out _).mono ?_
        rintro e w7 ⟨rfl, hb7⟩
        have HR7 : Hid (RdIs (w7.alloc (.cells #[.int .i64 k2, .string ⟨b2.toArray⟩] 149)) g S1 (S1.good : Int) n1) := (HR.out.below hb7).below ((Below.refl _ w7).alloc (Nat.le_refl _) _)
        have HLB7 : Hid (LgAt (w7.alloc (.cells #[.int .i64 k2, .string ⟨b2.toArray⟩] 149)) B zeroC) := (HLB.out.below hb7 HLB.out.lt).below ((Below.refl _ w7).alloc (Nat.le_refl _) _) (HLB.out.below hb7 HLB.out.lt).lt
        have HB7 : Hid (Below B w (w7.alloc (.cells #[.int .i64 k2, .string ⟨b2.toArray⟩] 149))) := (HBR.out.trans (hb7.mono (Nat.le_of_lt HLB.out.lt))).alloc (Nat.le_of_lt (HLB.out.below hb7 HLB.out.lt).lt) _
        have HF7 : Hid (FBox (w7.alloc (.cells #[.int .i64 k2, .string ⟨b2.toArray⟩] 149)) w7.heap.size k2 ⟨b2.toArray⟩) := fbox_here w7 k2 _
        clear hb7 c37 f37 hgl
        go_upto_region 10 with fail
        generalize w7.alloc (.cells #[.int .i64 k2, .string ⟨b2.toArray⟩] 149) = w8 at HR7 HLB7 HB7 HF7 ⊢
        have HStop : Hid (∀ (wz : World), RdIs wz g S1 (S1.good : Int) n1 → LgAt wz B zeroC → Below B w wz → S1 = logS (scanL l).1 → ∃ L, wz.rangeAt g 0 L ∧ L.length = 38 ∧ (∀ u ∈ L, u.oneCell' = true) ∧ wz.there B 0 38 ∧ LgAt (wz.setCells B 0 L) B L ∧ ReadIs s.data.toList w (.returned (.tuple #[.agg L.toArray, .int .i64 0])) (wz.setCells B 0 L)) := by
          intro wz hR hL hB hS
          obtain ⟨v, xs, h1, h2, h3⟩ := hR
          have hlen : (sC S1 v (S1.good : Int)).length = 38 := sC_len hF1 hT1
          refine ⟨sC S1 v (S1.good : Int), h1.range [] _ [.int .i64 n1] rfl, hlen, ?_, ?_, ?_, HP.out _ _ ⟨.inl ⟨HFin.out.1, v, xs, by rw [← hS], ?_, by rw [h3, hS]⟩, ?_⟩⟩
          · obtain ⟨va, vc, rfl⟩ := rzs_form h2
            exact lgC_one rfl
          · exact hL.there (by rw [zeroC_len]; decide)
          · have h := hL.puts (sC S1 v (S1.good : Int)) _ _ 0
            rw [setL_all (by rw [hlen, zeroC_len])] at h
            exact h
          · rw [HW.out]
            exact (RzsOwn.cells (Nat.lt_of_lt_of_le HGB.out (Nat.le_succ g)) _ _ _ h2).base (by have := HGB.out; omega)
          · rw [HW.out]
            exact below_cells (Nat.le_refl _) _ _ _ hB
        by_cases hq20 : q2 = 0
        · obtain ⟨hk2, hb2, hn2, hq2⟩ := HK2.out
          rw [hq20] at hq2
          have HSC2 : Hid _ := scans_good hq2
          obtain ⟨p1, p2, p3, p4, p5, p6⟩ := got_put hq2
          rw [hk2, hb2, hn2] at HSC2
          rw [hb2] at p3
          rw [hn2] at p4 p6
          rw [hb2] at p6
          have HN2 : Hid (n2 ≤ m.length ∧ n2 = b2.length + 7 ∧ b2.length ≤ 4000) := ⟨p4, got_size p6 p4, p3⟩
          subst hq20
          clear hk2 hb2 hn2 hq2 p1 p2 p3 p4 p5 p6
          have HT : Hid (∀ w : World, RdIs w g S1 (S1.good : Int) n1 → Calls Try.prog 108 #[.pointer (some ⟨g, 0, none⟩), .agg #[.int .i64 k2, .string ⟨b2.toArray⟩]] w fun e w' => TookIs S1 (S1.good : Int) n1 ⟨k2, b2⟩ g w e w') := fun w h => take_any S1 _ n1 ⟨k2, b2⟩ g w HN2.out.2.2 h HOK1.out
          obtain ⟨c0, c1, hl8⟩ := HF7.out
          go_wp2_with fail
          with_reducible refine (HT.out _ HR7.out).mono ?_
          rintro e w9 ⟨hc, hb9⟩
          have HB9 : Hid (Below B w w9) := HB7.out.trans (hb9.mono (Nat.le_of_lt HGB.out))
          have HLB9 : Hid (LgAt w9 B zeroC) := HLB7.out.below hb9 HGB.out
          clear c0 c1 hl8 hb9
          rcases hc with ⟨S', n', hst, rfl, hr⟩ | ⟨hst, rfl, hr⟩
          · obtain ⟨x, hx1, hx2, hx3, hx4⟩ := step_took hst
            have HOKx : Hid (LOk x.1 x.2) := lstep_ok HOK1.out (f := ⟨k2, b2⟩) HN2.out.2.2 hx1
            have hFx := HOKx.out.first
            have hTx := HOKx.out.table
            have hF' : S'.first.length = 16 := by rw [← hx2] at hFx; exact hFx
            have hT' : S'.table.length = 16 := by rw [← hx2] at hTx; exact hTx
            have HRx : Hid (RdIs (w9.setCell ⟨g, 37, none⟩ (.int .i64 ((p + n2 : Nat) : Int))) g x.1 (x.1.good : Int) x.2) := by
              have h := hr.more (m := ((p + n2 : Nat) : Int)) (k := x.1.good) hF' hT'
              have hpg := HPG.out
              rw [hx2, hx3] at h
              rw [show (x.1.good : Int) = ((p + n2 : Nat) : Int) by rw [hx4, hpg, HN2.out.2.1]]
              exact h
            obtain ⟨d37, e37⟩ := hr.good hF' hT'
            rw [HPG.out] at d37
            have hgl9 := hr.lt
            have HXX : Hid (stepL S1 n1 ⟨k2, b2⟩ = some x ∧ x.1.good = p + n2) := ⟨hx1, by rw [hx4, HPG.out, HN2.out.2.1]⟩
            have hn2l := HN2.out.1
            have hn27 : 7 ≤ n2 := by have := HN2.out.2.1; omega
            have hls := HL.out
            have hpn : ((p : Int) + (n2 : Int)) = ((p + n2 : Nat) : Int) := by omega
            clear hst hr hx1 hx2 hx3 hx4 hFx hTx hF' hT'
            have hw1 : IntKind.i64.wrap ((p : Int) + (n2 : Int)) = ((p + n2 : Nat) : Int) := by rw [IntWalk.i64_in _ ⟨by omega, by omega⟩]; omega
            clear hpn
            go_wp2_with fail
            go_roundw
            case rel =>
              refine ⟨x.1, x.2, HRx.out, HOKx.out, by have := HXX.out.2; omega, ?_, HLB9.out.other _ (Nat.ne_of_lt HGB.out), HB9.out.setCell (p := ⟨g, 37, none⟩) (Nat.le_of_lt HGB.out) _⟩
              rw [HFN.out, HPG.out, HM.out, HSC2.out, walk_some _ HXX.out.1, HXX.out.2, ← List.drop_drop, HM.out]
            case measure =>
              have e1 := goodOf_is (HRx.out.good HOKx.out.first HOKx.out.table).1
              have e2 := goodOf_is (HR.out.good HOK1.out.first HOK1.out.table).1
              have hpg := HPG.out
              have hxg := HXX.out.2
              have e3 : ((p + n2 : Nat) : Int) = (p : Int) + (n2 : Int) := by omega
              rw [e3] at e1
              rw [e1, e2]
              omega
          · have HR9 : Hid (RdIs w9 g S1 (S1.good : Int) n1) := hr
            obtain ⟨L, q1, q2, q3, q4, q5, q6⟩ := HStop.out w9 HR9.out HLB9.out HB9.out (by
              rw [HFN.out, HPG.out, HM.out, HSC2.out, walk_none _ (step_not hst)])
            clear hst hr
            have HQ : Hid (w9.rangeAt g 0 L ∧ (Try.prog.info? 82).map (·.size) = some L.length ∧ L.toArray.all (·.oneCell') = true ∧ w9.there B 0 L.toArray.size ∧ (Try.prog.info? 82).map (·.size) = some L.toArray.size) := ⟨q1, by rw [q2]; exact infoLg, all_oneCell_toArray q3, by rw [List.size_toArray, q2]; exact q4, by rw [List.size_toArray, q2]; exact infoLg⟩
            have HQ2 : Hid (LgAt (w9.setCells B 0 L) B L ∧ L.length = 38 ∧ ReadIs s.data.toList w (.returned (.tuple #[.agg L.toArray, .int .i64 0])) (w9.setCells B 0 L)) := ⟨q5, q2, q6⟩
            clear q1 q2 q3 q4 q5 q6
            go_wp2_with (first | refine wpList_load_mid rfl 82 _ rfl g 0 rfl L _ HQ.out.1 Try.underlying82 rfl HQ.out.2.1 ?_ | refine wpList_store_mid rfl 82 _ _ rfl B 0 L.toArray rfl rfl HQ.out.2.2.2.1 HQ.out.2.2.2.2 HQ.out.2.2.1 ?_)
            exact bodyPost_ret (v := .tuple #[.agg L.toArray, .int .i64 0]) (HEnd.out _ _ _ HQ2.out.1 HQ2.out.2.1 rfl) rfl HQ2.out.2.2
        · have hqb : (q2 != 0) = true := by simp [hq20]
          have hsc : scanL m = _ := scans_bad (by rw [HK2.out.2.2.2]; exact hq20)
          obtain ⟨L, q1, q2', q3, q4, q5, q6⟩ := HStop.out w8 HR7.out HLB7.out HB7.out (by
            rw [HFN.out, HPG.out, HM.out, hsc]
            rfl)
          clear hsc hq20
          have HQ : Hid (w8.rangeAt g 0 L ∧ (Try.prog.info? 82).map (·.size) = some L.length ∧ L.toArray.all (·.oneCell') = true ∧ w8.there B 0 L.toArray.size ∧ (Try.prog.info? 82).map (·.size) = some L.toArray.size) := ⟨q1, by rw [q2']; exact infoLg, all_oneCell_toArray q3, by rw [List.size_toArray, q2']; exact q4, by rw [List.size_toArray, q2']; exact infoLg⟩
          have HQ2 : Hid (LgAt (w8.setCells B 0 L) B L ∧ L.length = 38 ∧ ReadIs s.data.toList w (.returned (.tuple #[.agg L.toArray, .int .i64 0])) (w8.setCells B 0 L)) := ⟨q5, q2', q6⟩
          clear q1 q2' q3 q4 q5 q6
          go_wp2_with (first | refine wpList_load_mid rfl 82 _ rfl g 0 rfl L _ HQ.out.1 Try.underlying82 rfl HQ.out.2.1 ?_ | refine wpList_store_mid rfl 82 _ _ rfl B 0 L.toArray rfl rfl HQ.out.2.2.2.1 HQ.out.2.2.2.2 HQ.out.2.2.1 ?_)
          exact bodyPost_ret (v := .tuple #[.agg L.toArray, .int .i64 0]) (HEnd.out _ _ _ HQ2.out.1 HQ2.out.2.1 rfl) rfl HQ2.out.2.2
    · have HNE : Hid (logE (scanL l).1 = 3) := by
        show _ = _
        rw [HSC.out]
        simp [logE, hS]
      have HIL : Hid ((Try.prog.info? 82).map (·.size) = some zeroC.toArray.size) := infoLg
      have HZ : Hid ((38 : Nat) = zeroC.toArray.size) := rfl
      have HO1 : Hid (zeroC.toArray.all (·.oneCell') = true) := all_oneCell_toArray (lgC_one rfl)
      have HL4 : Hid (LgAt (w3.alloc (.cells zeroC.toArray 82)) B zeroC) := HL3.out.below ((Below.refl _ w3).alloc (Nat.le_refl _) _) hlB3
      have HB4 : Hid (Below B w (w3.alloc (.cells zeroC.toArray 82))) := HB3.out.alloc (Nat.le_of_lt hlB3) _
      clear hS
      go_upto_region 6 with (refine wpList_store_new rfl 82 _ _ rfl _ zeroC.toArray (by rfl) (by rfl) HIL.out (by exact HZ.out) HO1.out ?_)
      generalize w3.alloc (.cells zeroC.toArray 82) = w4 at HL4 HB4 ⊢
      have HTe : Hid (_ : Prop) := HL4.out.there (o := 0) (n := (#[.int .i64 0, .int .i64 0, .string ⟨#[]⟩, .int .i64 0, .int .i64 0, .int .i64 0, .int .i64 0, .int .i64 0, .int .i64 0, .int .i64 0, .int .i64 0, .int .i64 0, .int .i64 0, .int .i64 0, .int .i64 0, .int .i64 0, .int .i64 0, .int .i64 0, .int .i64 0, .int .i64 0, .int .i64 0, .int .i64 0, .int .i64 0, .int .i64 0, .int .i64 0, .int .i64 0, .int .i64 0, .int .i64 0, .int .i64 0, .int .i64 0, .int .i64 0, .int .i64 0, .int .i64 0, .int .i64 0, .int .i64 0, .slice none 0 0, .bool false, .int .i64 0] : Array Value).size) (by rw [zeroC_len]; decide)
      go_wp2_with (refine wpList_store_mid rfl 82 _ _ rfl B 0 _ rfl rfl HTe.out (by exact infoLg) (by simp [Value.oneCell']) ?_)
      refine bodyPost_ret (v := .tuple #[.agg zeroC.toArray, .int .i64 3]) (HEnd.out _ _ _ (zero_puts HL4.out) zeroC_len rfl) rfl (HP.out _ _ ⟨.inr ⟨by rw [HNE.out]; decide, by rw [HNE.out]⟩, ?_⟩)
      rw [HW.out]
      exact below_cells (Nat.le_refl _) _ _ _ HB4.out
  · have hqb : (q != 0) = true := by simp [hq0]
    have HNE : Hid (logE (scanL l).1 = 7) := by
      show _ = _
      rw [scans_bad (by rw [HK.out.2.2.2]; exact hq0)]
      rfl
    have HTe : Hid (_ : Prop) := HL2.out.there (o := 0) (n := (#[.int .i64 0, .int .i64 0, .string ⟨#[]⟩, .int .i64 0, .int .i64 0, .int .i64 0, .int .i64 0, .int .i64 0, .int .i64 0, .int .i64 0, .int .i64 0, .int .i64 0, .int .i64 0, .int .i64 0, .int .i64 0, .int .i64 0, .int .i64 0, .int .i64 0, .int .i64 0, .int .i64 0, .int .i64 0, .int .i64 0, .int .i64 0, .int .i64 0, .int .i64 0, .int .i64 0, .int .i64 0, .int .i64 0, .int .i64 0, .int .i64 0, .int .i64 0, .int .i64 0, .int .i64 0, .int .i64 0, .int .i64 0, .slice none 0 0, .bool false, .int .i64 0] : Array Value).size) (by rw [zeroC_len]; decide)
    clear hq0
    go_wp2_with (refine wpList_store_mid rfl 82 _ _ rfl B 0 _ rfl rfl HTe.out (by exact infoLg) (by simp [Value.oneCell']) ?_)
    refine bodyPost_ret (v := .tuple #[.agg zeroC.toArray, .int .i64 7]) (HEnd.out _ _ _ (zero_puts HL2.out) zeroC_len rfl) rfl (HP.out _ _ ⟨.inr ⟨by rw [HNE.out]; decide, by rw [HNE.out]⟩, ?_⟩)
    rw [HW.out]
    exact below_cells (Nat.le_refl _) _ _ _ HB2.out
end Go.Proofs.Ytgffippimmokiaa
