/- What hot.readNums and the document's some answer. -/
import Derived.Test.YtgffippimmokiaaHotP
import Derived.Test.YtgffippimmokiaaLogBox
import Derived.Test.YtgffippimmokiaaRUnnum
import Derived.Deep.AppendLies
import Derived.Laws.OwnMore
import Derived.Test.YtgffippimmokiaaCodeRead
import Derived.Test.YtgffippimmokiaaRevOne
import Derived.BigQuiet
namespace Go.Proofs.Ytgffippimmokiaa
open Go.RowKit
set_option linter.unusedSimpArgs false
set_option linter.unusedVariables false

theorem infoIntN : (Try.prog.info? 3).map (fun i => (i.zero, i.size, i.bytes)) = some (some (.int .i64 0), 1, 8) := by kernel_rfl
abbrev asZ (x : List Nat) : List Int := x.map (fun n : Nat => (n : Int))
/-- what is answered where numbers are read -/
def NumsIs (okV noV : Value) (n : Nat) (l : List UInt8) (w : World) (e : Ending) (w' : World) : Prop :=
  ((∃ x r a c, numsG n l = some (x, r) ∧ e = .returned (.tuple #[.slice a x.length c, .string ⟨r.toArray⟩, okV]) ∧ w'.ownsRow w.heap.size 3 1 (.slice a x.length c) x.length (jzC (asZ x))) ∨ (numsG n l = none ∧ e = .returned (.tuple #[.slice none 0 0, .string ⟨#[]⟩, noV]))) ∧ Below w.heap.size w w'
theorem nums_step {n : Nat} {l : List UInt8} (h : getE l = 0) : numsG (n + 1) l = (numsG n (l.drop (getK l))).map (fun y => (getN l :: y.1, y.2)) := by rw [numsG, if_pos h]
theorem nums_stop {n : Nat} {l : List UInt8} (h : getE l ≠ 0) : numsG (n + 1) l = none := by rw [numsG, if_neg h]
theorem drop_txt (s : ByteArray) (a : Nat) : (s.extract a s.size).data.toList = s.data.toList.drop a := by
  rw [Lib.extract_data]
  have h : s.data.toList.length = s.size := Array.length_toList
  exact List.take_of_length_le (by rw [List.length_drop, h]; omega)
set_option maxRecDepth 20000 in
set_option maxHeartbeats 4000000 in
theorem readNums_any (s : ByteArray) (n : Nat) (w : World) (hs : s.size ≤ 9223372036854775807) (hn : n ≤ 100) :
    Calls Try.prog 127 #[.string s, .int .i64 (n : Int)] w fun e w' => NumsIs (.int .i64 0) (.int .i64 3) n s.data.toList w e w' := by
  obtain ⟨ip, hip, hp0, hp1, hp2⟩ := info_parts infoIntN
  go_enter Try.func127, Try.ntmps127
  go_wp2_with fail
  go_loopw [0, 7, 12] (fun sv lv i wr => ∃ (k : Nat) (t : ByteArray) (x : List Nat) (ao : Option Addr) (co : Nat), k ≤ n ∧ i = .int .i64 k ∧ sv = .string t ∧ t.size ≤ s.size ∧ lv = .slice ao x.length co ∧ x.length = k ∧ wr.ownsRow w.heap.size 3 1 (.slice ao x.length co) x.length (jzC (asZ x)) ∧
    numsG n s.data.toList = (numsG (n - k) t.data.toList).map (fun y => (x ++ y.1, y.2)) ∧ Below w.heap.size w wr) (fun _ _ i _ => n - (intOf i).toNat)
  case atStart => exact ⟨0, s, [], none, 0, Nat.zero_le _, rfl, rfl, Nat.le_refl _, rfl, rfl, World.ownsRow_nil _ _ _ _, by simp, Below.refl _ _⟩
  case round =>
    rename World => wr
    obtain ⟨k, t, x, ao, co, hk, rfl, rfl, hts, rfl, hxl, hown, hG, hb⟩ := hrel
    have HO : Hid (wr.ownsRow w.heap.size 3 1 (.slice ao x.length co) x.length (jzC (asZ x))) := hown
    have HB : Hid (Below w.heap.size w wr) := hb
    have HG : Hid _ := hG
    have HXL : Hid (x.length = k) := hxl
    have hz := hb.size
    have hGet : Hid _ := fun w => Get_any t w (by omega)
    clear hown hb hG
    by_cases hlt : k < n
    · have hki : (k : Int) < (n : Int) := by omega
      have hnk : n - k = (n - (k + 1)) + 1 := by omega
      obtain ⟨l, hl⟩ : ∃ l, t.data.toList = l := ⟨_, rfl⟩
      have HLT : Hid (t.data.toList = l) := hl
      have hll : l.length = t.size := by rw [← hl]; exact Array.length_toList
      rw [hl] at hGet
      by_cases h0 : getE l = 0
      · have hg := get_le h0
        obtain ⟨hg1, hg2, hg3⟩ := hg
        have HS : Hid (numsG n s.data.toList = (numsG (n - (k + 1)) (l.drop (getK l))).map (fun y => ((x ++ [getN l]) ++ y.1, y.2))) := by
          show _ = _
          rw [HG.out, hl, hnk, nums_step h0, Option.map_map]
          congr 1
          funext y
          simp
        rw [h0] at hGet
        obtain ⟨m, hm⟩ : ∃ m, getN l = m := ⟨_, rfl⟩
        obtain ⟨q, hq⟩ : ∃ q, getK l = q := ⟨_, rfl⟩
        rw [hm, hq] at hGet HS
        rw [hq] at hg2
        have hqs : (q : Int) ≤ (t.size : Int) := by omega
        clear hl h0 hm hq hg1 hg3 hnk
        go_wp2_with fail
        refine (hGet.out _).mono ?_
        rintro e w1 ⟨rfl, e1⟩
        have e2 := e1.symm
        subst e2
        have HB1 : Hid (Below w.heap.size w wr) := HB.out
        have HO1 : Hid (wr.ownsRow w.heap.size 3 1 (.slice ao x.length co) x.length (jzC (asZ x))) := HO.out
        have hz1 := HB1.out.size
        have hAs := own_alloc HO1.out (.cells #[.int .i64 (m : Int)] 3)
        have hlen : (jzC (asZ x)).length = x.length := by rw [jzC_len, List.length_map]
        have HLEN : Hid _ := hlen
        have hxl100 : x.length ≤ 100 := by omega
        clear hlen hxl
        go_wp2_with (at_builtin; refine wpList_append_own _ rfl _ _ 61 rfl w.heap.size 3 ip _ 1 8 Try.underlying61 hip hp0 hp1 hp2 rfl (by decide) _ _ _ rfl hAs ⟨wr.heap.size, 0, none⟩ 1 1 [.int .i64 (m : Int)] rfl rfl (cell_one_new _ _ _) (by simp [Value.oneCell']) ?c3 ?c4 ?c5 ?_)
        case c3 => unfold maxLen; omega
        case c4 => omega
        case c5 => first | omega | (simp; omega)
        intro v' w2 hown2 hgrow _
        obtain ⟨bo, cb2, rfl⟩ := slice_form' hown2
        have HB2 : Hid (Below w.heap.size w w2) := below_own' (HB1.out.alloc hz1 _) hAs hgrow (by simp; omega)
        have HO2 : Hid (w2.ownsRow w.heap.size 3 1 (.slice bo (x.length + 1) cb2) (x.length + 1) (jzC (asZ (x ++ [m])))) := by
          show w2.ownsRow _ _ _ _ _ _
          have e : jzC (asZ (x ++ [m])) = jzC (asZ x) ++ [.int .i64 (m : Int)] := by simp [jzC, asZ]
          rw [e]; exact hown2
        clear hown2 hgrow hAs
        go_wp2_with fail
        go_roundw
        case rel =>
          refine ⟨k + 1, t.extract q t.size, x ++ [m], bo, cb2, by omega, by go_num, rfl, by rw [ByteArray.size_extract]; omega, by rw [List.length_append]; rfl, by rw [List.length_append, HXL.out]; rfl, by have h := HO2.out; rw [List.length_append]; exact h, ?_, HB2.out⟩
          rw [HS.out, drop_txt, HLT.out]
        case measure => simp [intOf]; omega
      · have HS : Hid (numsG n s.data.toList = none) := by
          show _ = _
          rw [HG.out, hl, hnk, nums_stop h0]; rfl
        obtain ⟨q, hq⟩ : ∃ q, getE l = q := ⟨_, rfl⟩
        rw [hq] at hGet h0
        have hq' : (q != 0) = true := by simp [h0]
        clear hl h0 hq hnk
        go_wp2_with fail
        refine (hGet.out _).mono ?_
        rintro e w1 ⟨rfl, e1⟩
        have e2 := e1.symm
        subst e2
        have HB1 : Hid (Below w.heap.size w wr) := HB.out
        go_wp2_with fail
        go_ret3
        exact ⟨.inr ⟨HS.out, rfl⟩, HB1.out⟩
    · have hki : ¬ (k : Int) < (n : Int) := by omega
      have HS : Hid (numsG n s.data.toList = some (x, t.data.toList)) := by
        show _ = _
        rw [HG.out, show n - k = 0 by omega]
        simp [numsG]
      clear hxl
      go_wp2_with fail
      go_ret3
      exact ⟨.inl ⟨x, _, ao, co, HS.out, by rw [str_eq]; rfl, HO.out⟩, HB.out⟩
set_option maxRecDepth 20000 in
set_option maxHeartbeats 4000000 in
theorem some_any (s : ByteArray) (n : Nat) (w : World) (hs : s.size ≤ 9223372036854775807) (hn : n ≤ 100) :
    Calls Try.prog 84 #[.string s, .int .i64 (n : Int)] w fun e w' => NumsIs (.bool true) (.bool false) n s.data.toList w e w' := by
  obtain ⟨ip, hip, hp0, hp1, hp2⟩ := info_parts infoIntN
  go_enter Try.func84, Try.ntmps84
  go_wp2_with fail
  go_loopw [0, 7, 12] (fun sv lv i wr => ∃ (k : Nat) (t : ByteArray) (x : List Nat) (ao : Option Addr) (co : Nat), k ≤ n ∧ i = .int .i64 k ∧ sv = .string t ∧ t.size ≤ s.size ∧ lv = .slice ao x.length co ∧ x.length = k ∧ wr.ownsRow w.heap.size 3 1 (.slice ao x.length co) x.length (jzC (asZ x)) ∧
    numsG n s.data.toList = (numsG (n - k) t.data.toList).map (fun y => (x ++ y.1, y.2)) ∧ Below w.heap.size w wr) (fun _ _ i _ => n - (intOf i).toNat)
  case atStart => exact ⟨0, s, [], none, 0, Nat.zero_le _, rfl, rfl, Nat.le_refl _, rfl, rfl, World.ownsRow_nil _ _ _ _, by simp, Below.refl _ _⟩
  case round =>
    rename World => wr
    obtain ⟨k, t, x, ao, co, hk, rfl, rfl, hts, rfl, hxl, hown, hG, hb⟩ := hrel
    have HO : Hid (wr.ownsRow w.heap.size 3 1 (.slice ao x.length co) x.length (jzC (asZ x))) := hown
    have HB : Hid (Below w.heap.size w wr) := hb
    have HG : Hid _ := hG
    have HXL : Hid (x.length = k) := hxl
    have hz := hb.size
    have hGet : Hid _ := fun w => RUnnum_any t w (by omega)
    clear hown hb hG
    by_cases hlt : k < n
    · have hki : (k : Int) < (n : Int) := by omega
      have hnk : n - k = (n - (k + 1)) + 1 := by omega
      obtain ⟨l, hl⟩ : ∃ l, t.data.toList = l := ⟨_, rfl⟩
      have HLT : Hid (t.data.toList = l) := hl
      have hll : l.length = t.size := by rw [← hl]; exact Array.length_toList
      rw [hl] at hGet
      by_cases h0 : getE l = 0
      · have hg := get_le h0
        obtain ⟨hg1, hg2, hg3⟩ := hg
        have HS : Hid (numsG n s.data.toList = (numsG (n - (k + 1)) (l.drop (getK l))).map (fun y => ((x ++ [getN l]) ++ y.1, y.2))) := by
          show _ = _
          rw [HG.out, hl, hnk, nums_step h0, Option.map_map]
          congr 1
          funext y
          simp
        rw [h0] at hGet
        obtain ⟨m, hm⟩ : ∃ m, getN l = m := ⟨_, rfl⟩
        obtain ⟨q, hq⟩ : ∃ q, getK l = q := ⟨_, rfl⟩
        rw [hm, hq] at hGet HS
        rw [hq] at hg2
        have hqs : (q : Int) ≤ (t.size : Int) := by omega
        clear hl h0 hm hq hg1 hg3 hnk
        go_wp2_with fail
        refine (hGet.out _).mono ?_
        rintro e w1 ⟨rfl, hb1⟩
        have HB1 : Hid (Below w.heap.size w w1) := HB.out.trans (hb1.mono hz)
        have HO1 : Hid (w1.ownsRow w.heap.size 3 1 (.slice ao x.length co) x.length (jzC (asZ x))) := own_stay HO.out hb1
        clear hb1
        have hz1 := HB1.out.size
        have hAs := own_alloc HO1.out (.cells #[.int .i64 (m : Int)] 3)
        have hlen : (jzC (asZ x)).length = x.length := by rw [jzC_len, List.length_map]
        have HLEN : Hid _ := hlen
        have hxl100 : x.length ≤ 100 := by omega
        clear hlen hxl
        go_wp2_with (at_builtin; refine wpList_append_own _ rfl _ _ 61 rfl w.heap.size 3 ip _ 1 8 Try.underlying61 hip hp0 hp1 hp2 rfl (by decide) _ _ _ rfl hAs ⟨w1.heap.size, 0, none⟩ 1 1 [.int .i64 (m : Int)] rfl rfl (cell_one_new _ _ _) (by simp [Value.oneCell']) ?c3 ?c4 ?c5 ?_)
        case c3 => unfold maxLen; omega
        case c4 => omega
        case c5 => first | omega | (simp; omega)
        intro v' w2 hown2 hgrow _
        obtain ⟨bo, cb2, rfl⟩ := slice_form' hown2
        have HB2 : Hid (Below w.heap.size w w2) := below_own' (HB1.out.alloc hz1 _) hAs hgrow (by simp; omega)
        have HO2 : Hid (w2.ownsRow w.heap.size 3 1 (.slice bo (x.length + 1) cb2) (x.length + 1) (jzC (asZ (x ++ [m])))) := by
          show w2.ownsRow _ _ _ _ _ _
          have e : jzC (asZ (x ++ [m])) = jzC (asZ x) ++ [.int .i64 (m : Int)] := by simp [jzC, asZ]
          rw [e]; exact hown2
        clear hown2 hgrow hAs
        go_wp2_with fail
        go_roundw
        case rel =>
          refine ⟨k + 1, t.extract q t.size, x ++ [m], bo, cb2, by omega, by go_num, rfl, by rw [ByteArray.size_extract]; omega, by rw [List.length_append]; rfl, by rw [List.length_append, HXL.out]; rfl, by have h := HO2.out; rw [List.length_append]; exact h, ?_, HB2.out⟩
          rw [HS.out, drop_txt, HLT.out]
        case measure => simp [intOf]; omega
      · have HS : Hid (numsG n s.data.toList = none) := by
          show _ = _
          rw [HG.out, hl, hnk, nums_stop h0]; rfl
        obtain ⟨q, hq⟩ : ∃ q, getE l = q := ⟨_, rfl⟩
        rw [hq] at hGet h0
        have hq' : (q != 0) = true := by simp [h0]
        clear hl h0 hq hnk
        go_wp2_with fail
        refine (hGet.out _).mono ?_
        rintro e w1 ⟨rfl, hb1⟩
        have HB1 : Hid (Below w.heap.size w w1) := HB.out.trans (hb1.mono hz)
        go_wp2_with fail
        go_ret3
        exact ⟨.inr ⟨HS.out, rfl⟩, HB1.out⟩
    · have hki : ¬ (k : Int) < (n : Int) := by omega
      have HS : Hid (numsG n s.data.toList = some (x, t.data.toList)) := by
        show _ = _
        rw [HG.out, show n - k = 0 by omega]
        simp [numsG]
      clear hxl
      go_wp2_with fail
      go_ret3
      exact ⟨.inl ⟨x, _, ao, co, HS.out, by rw [str_eq]; rfl, HO.out⟩, HB.out⟩
end Go.Proofs.Ytgffippimmokiaa

/- What hot.readRev answers. -/
namespace Go.Proofs.Ytgffippimmokiaa
open Go.RowKit
set_option linter.unusedSimpArgs false
set_option linter.unusedVariables false

theorem two_list {l : List Nat} (h : l.length = 2) : ∃ x y, l = [x, y] := by
  match l, h with
  | [x, y], _ => exact ⟨x, y, rfl⟩
/-- a revision that is answered, and a box of its own -/
def RvZ (w : World) (g : Nat) : Prop := w.heap[g]? = some (.cells #[.int .i64 0, .int .i64 0, .slice none 0 0] 40 (0, 0))
theorem rvz_facts {w : World} {g : Nat} (h : RvZ w g) : (w.cell? ⟨g, 0, none⟩ = some (.int .i64 0) ∧ w.cell? ⟨g, 1, none⟩ = some (.int .i64 0) ∧ w.cell? ⟨g, 2, none⟩ = some (.slice none 0 0)) ∧ (w.frozen? ⟨g, 0, none⟩ = false ∧ w.frozen? ⟨g, 1, none⟩ = false ∧ w.frozen? ⟨g, 2, none⟩ = false) ∧ g < w.heap.size :=
  ⟨⟨Lib.cell_of_heap h 0, Lib.cell_of_heap h 1, Lib.cell_of_heap h 2⟩, ⟨Lib.frozen_of_heap h 0, Lib.frozen_of_heap h 1, Lib.frozen_of_heap h 2⟩, lt_of_heap h⟩
theorem RvZ.below {w w' : World} {B g : Nat} (h : RvZ w g) (hb : Below B w w') (hg : g < B) : RvZ w' g := (hb.block g hg).trans h
theorem below_three {w w' : World} {B g : Nat} (h : Below B w w') (hg : B ≤ g) (v0 v1 v2 : Value) : Below B w (((w'.setCell ⟨g, 0, none⟩ v0).setCell ⟨g, 1, none⟩ v1).setCell ⟨g, 2, none⟩ v2) :=
  ((h.setCell (p := ⟨g, 0, none⟩) hg _).setCell (p := ⟨g, 1, none⟩) hg _).setCell (p := ⟨g, 2, none⟩) hg _
theorem own_put {w : World} {B n size : Nat} {e : TypeId} {v : Value} {xs : List Value} {p : Addr} (h : w.ownsRow B e size v n xs) (hp : p.block < B) (x : Value) : (w.setCell p x).ownsRow B e size v n xs := by
  rcases h.2 with ⟨h1, h2⟩ | ⟨g, cap', cur, h1, h2, h3, h4⟩
  · exact ⟨h.1, .inl ⟨h1, h2⟩⟩
  · exact ⟨h.1, .inr ⟨g, cap', cur, h1, h2, (heap_setCell_other w p g x (by omega)).trans h3, h4⟩⟩

/-- what readRev answers -/
def RevIs (l : List UInt8) (w : World) (e : Ending) (w' : World) : Prop :=
  ((∃ r a c B, revG l = some r ∧ e = .returned (.tuple #[.agg #[.int .i64 r.who, .int .i64 r.seq, .slice a r.d.length c], .int .i64 0]) ∧ w.heap.size ≤ B ∧ w'.ownsRow B 138 3 (.slice a r.d.length c) r.d.length (allCells r.d) ∧ PartsAt w' w'.heap.size a r.d) ∨
    (revG l = none ∧ ∃ q : Int, q ≠ 0 ∧ e = .returned (.tuple #[.agg #[.int .i64 0, .int .i64 0, .slice none 0 0], .int .i64 q]))) ∧ Below w.heap.size w w'
set_option maxRecDepth 20000 in
set_option maxHeartbeats 4000000 in
theorem readRev_any (s : ByteArray) (w : World) (hs : s.size ≤ 9223372036854775807) :
    Calls Try.prog 144 #[.string s] w fun e w' => RevIs s.data.toList w e w' := by
  have HN : Hid _ := fun w => readNums_any s 2 w hs (by decide)
  have HZ0 : Hid (RvZ (w.alloc (.cells #[.int .i64 0, .int .i64 0, .slice none 0 0] 40)) w.heap.size) := Deep.blk_alloc_new w _
  have HB0 : Hid (Below w.heap.size w (w.alloc (.cells #[.int .i64 0, .int .i64 0, .slice none 0 0] 40))) := (Below.refl _ w).alloc (Nat.le_refl _) _
  go_enter Try.func144, Try.ntmps144
  go_wp2_with fail
  generalize w.alloc (.cells #[.int .i64 0, .int .i64 0, .slice none 0 0] 40) = w0 at HZ0 HB0 ⊢
  obtain ⟨g, hg⟩ : ∃ g, w.heap.size = g := ⟨_, rfl⟩
  rw [hg] at HZ0 HB0 ⊢
  have HG : Hid (w.heap.size = g) := hg
  clear hg
  have hgl := (rvz_facts HZ0.out).2.2
  refine (HN.out _).mono ?_
  rintro e w1 ⟨hcase, hb1⟩
  have HZ1 : Hid (RvZ w1 g) := HZ0.out.below hb1 hgl
  have HB1 : Hid (Below g w w1) := HB0.out.trans (hb1.mono (Nat.le_of_lt hgl))
  have hz1 := hb1.size
  clear hb1
  rcases hcase with ⟨x, r, a, c, hx, rfl, hown⟩ | ⟨hx, rfl⟩
  · obtain ⟨p, q, rfl⟩ := two_list (nums_is 2 hx).1
    have hrl := nums_len hx
    have HX : Hid (numsG 2 s.data.toList = some ([p, q], r)) := hx
    have HI1 : Hid (IzAt w1 w1.heap.size a [(p : Int), (q : Int)] c) := jz_own hown
    have hsl : s.data.toList.length = s.size := Array.length_toList
    have hrs : (⟨r.toArray⟩ : ByteArray).size ≤ 9223372036854775807 := by show r.toArray.size ≤ _; simp; omega
    clear hx hown hsl
    by_cases hd : ∃ d, IsCode r d
    · obtain ⟨d, hd⟩ := hd
      have HR : Hid (revG s.data.toList = some ⟨p, q, d⟩) := by
        show _ = _
        rw [revG, HX.out]
        simp only [dec_some hd]
        rfl
      have HC : Hid _ := fun w => Read_ok ⟨r.toArray⟩ d w hrs hd
      clear hd
      go_wp2_with fail
      refine (HC.out _).mono ?_
      rintro e w2 ⟨da, dc, rfl, hpd, hod, hb2⟩
      have HZ2 : Hid (RvZ w2 g) := HZ1.out.below hb2 (by have := (rvz_facts HZ1.out).2.2; omega)
      have HB2 : Hid (Below g w w2) := HB1.out.trans (hb2.mono (by have := (rvz_facts HZ1.out).2.2; omega))
      have HI2 : Hid (IzAt w2 w2.heap.size a [(p : Int), (q : Int)] c) := HI1.out.here hb2 (Nat.le_refl _)
      have HPD : Hid (PartsAt w2 w2.heap.size da d) := hpd
      have HOD : Hid (w2.ownsRow w1.heap.size 138 3 (.slice da d.length dc) d.length (allCells d)) := hod
      have hg1 : g < w1.heap.size := (rvz_facts HZ1.out).2.2
      have HG1 : Hid (g < w1.heap.size) := hg1
      clear hb2 hpd hod
      obtain ⟨b, off, e1, hbl, k0⟩ := HI2.out.mem (i := 0) rfl
      obtain ⟨b', off', e2, _, k1⟩ := HI2.out.mem (i := 1) rfl
      obtain ⟨rfl, rfl⟩ : b = b' ∧ off = off' := by rw [e1] at e2; cases e2; exact ⟨rfl, rfl⟩
      subst e1
      rw [Nat.add_zero] at k0
      obtain ⟨⟨z0, z1, z2⟩, ⟨y0, y1, y2⟩, hgz⟩ := rvz_facts HZ2.out
      clear e2
      go_wp2_with fail
      go_region
      go_wp2_with fail
      have HPF : Hid (PartsAt ((((w2.setCell ⟨g, 0, none⟩ (.int .i64 (p : Int))).setCell ⟨g, 1, none⟩ (.int .i64 (q : Int))).setCell ⟨g, 2, none⟩ (.slice da d.length dc)).drew) ((((w2.setCell ⟨g, 0, none⟩ (.int .i64 (p : Int))).setCell ⟨g, 1, none⟩ (.int .i64 (q : Int))).setCell ⟨g, 2, none⟩ (.slice da d.length dc)).drew).heap.size da d) := by
        have ho : (((w2.setCell ⟨g, 0, none⟩ (.int .i64 (p : Int))).setCell ⟨g, 1, none⟩ (.int .i64 (q : Int))).setCell ⟨g, 2, none⟩ (.slice da d.length dc)).ownsRow w1.heap.size 138 3 (.slice da d.length dc) d.length (allCells d) := own_put (own_put (own_put HOD.out HG1.out _) HG1.out _) HG1.out _
        obtain ⟨a2, c2, e2, h2, _⟩ := parts_ownC ho ⟨HPD.out.1, HPD.out.2.2.1⟩
        simp only [Value.slice.injEq, true_and] at e2
        obtain ⟨rfl, rfl⟩ := e2
        exact h2
      have HOF : Hid ((((w2.setCell ⟨g, 0, none⟩ (.int .i64 (p : Int))).setCell ⟨g, 1, none⟩ (.int .i64 (q : Int))).setCell ⟨g, 2, none⟩ (.slice da d.length dc)).drew.ownsRow w1.heap.size 138 3 (.slice da d.length dc) d.length (allCells d)) := own_put (own_put (own_put HOD.out HG1.out _) HG1.out _) HG1.out _
      refine bodyPost_ret (v := .tuple #[.agg #[.int .i64 (p : Int), .int .i64 (q : Int), .slice da d.length dc], .int .i64 0]) (by simp [results, Try.results144, go_sem, *]) rfl ⟨.inl ⟨⟨p, q, d⟩, da, dc, w1.heap.size, HR.out, rfl, ?_, HOF.out, HPF.out⟩, ?_⟩
      · rw [HG.out]; exact Nat.le_of_lt HG1.out
      · rw [HG.out]
        exact (below_three HB2.out (Nat.le_refl _) _ _ _).drew
    · have HR : Hid (revG s.data.toList = none) := by
        show _ = _
        rw [revG, HX.out]
        simp only [dec_none (fun d h => hd ⟨d, h⟩)]
        rfl
      have HC : Hid _ := fun w => Read_no ⟨r.toArray⟩ w hrs (fun d h => hd ⟨d, h⟩)
      clear hd
      go_wp2_with fail
      refine (HC.out _).mono ?_
      rintro e w2 ⟨rfl, hb2⟩
      have HZ2 : Hid (RvZ w2 g) := HZ1.out.below hb2 (by have := (rvz_facts HZ1.out).2.2; omega)
      have HB2 : Hid (Below g w w2) := HB1.out.trans (hb2.mono (by have := (rvz_facts HZ1.out).2.2; omega))
      clear hb2
      obtain ⟨⟨z0, z1, z2⟩, ⟨y0, y1, y2⟩, hgz⟩ := rvz_facts HZ2.out
      go_wp2_with fail
      refine bodyPost_ret (v := .tuple #[.agg #[.int .i64 0, .int .i64 0, .slice none 0 0], .int .i64 3]) (by simp [results, Try.results144, go_sem, *]) rfl ⟨.inr ⟨HR.out, 3, by decide, rfl⟩, ?_⟩
      rw [HG.out]
      exact below_three HB2.out (Nat.le_refl _) _ _ _
  · have HR : Hid (revG s.data.toList = none) := by
      show _ = _
      rw [revG, hx]
    clear hx
    obtain ⟨⟨z0, z1, z2⟩, ⟨y0, y1, y2⟩, hgz⟩ := rvz_facts HZ1.out
    go_wp2_with fail
    refine bodyPost_ret (v := .tuple #[.agg #[.int .i64 0, .int .i64 0, .slice none 0 0], .int .i64 3]) (by simp [results, Try.results144, go_sem, *]) rfl ⟨.inr ⟨HR.out, 3, by decide, rfl⟩, ?_⟩
    rw [HG.out]
    exact below_three HB1.out (Nat.le_refl _) _ _ _
end Go.Proofs.Ytgffippimmokiaa
