/- What turn.turned and turn.Of answer. -/
import Derived.Test.YtcghojnmnmmpoaaCompL
import Derived.Test.YtcghojnmnmmpoaaGMem
import Derived.Test.YtcghojnmnmmpoaaCaps
import Derived.Deep.Heap
import Derived.Lib.Strings
namespace Go.Proofs.Ytcghojnmnmmpoaa
open Go.RowKit
set_option linter.unusedSimpArgs false
set_option linter.unusedVariables false

def turnP (p : Pt) (s : List UInt8) : Pt := if p.k = 1 then p else if p.k = 2 then ⟨3, p.t.size, ByteArray.empty⟩ else ⟨2, 0, ⟨(s.take p.n.toNat).toArray⟩⟩
def turnJ : List Pt → List UInt8 → List Pt
  | [], _ => []
  | p :: r, s => turnP p s :: turnJ r (s.drop p.n.toNat)
theorem turnJ_snoc (l : List Pt) (p : Pt) (s : List UInt8) (h : ∀ q ∈ l, 0 ≤ q.n) : turnJ (l ++ [p]) s = turnJ l s ++ [turnP p (s.drop (inI l).toNat)] := by
  induction l generalizing s with
  | nil => simp [turnJ, inI]
  | cons q r ih =>
    have hq := h q (by simp)
    have hr : 0 ≤ inI r := whole_in (fun x hx => h x (List.mem_cons_of_mem _ hx))
    simp only [List.cons_append, turnJ, inI]
    rw [ih _ (fun x hx => h x (List.mem_cons_of_mem _ hx)), List.drop_drop, show (q.n + inI r).toNat = q.n.toNat + (inI r).toNat by omega]
theorem turnJ_len (l : List Pt) (s : List UInt8) : (turnJ l s).length = l.length := by
  induction l generalizing s with
  | nil => rfl
  | cons q r ih => simp [turnJ, ih]
theorem turnW_K (n : Nat) (w : List Tok) (s : List UInt8) : turnW (List.replicate n .K ++ w) s = List.replicate n .K ++ turnW w (s.drop n) := by
  induction n generalizing s with
  | zero => simp
  | succ n ih =>
    simp only [List.replicate_succ, List.cons_append, turnW, ih]
    cases s <;> simp
theorem turnW_X (n : Nat) (w : List Tok) (s : List UInt8) : turnW (List.replicate n .X ++ w) s = (s.take n).map .P ++ turnW w (s.drop n) := by
  induction n generalizing s with
  | zero => simp
  | succ n ih =>
    simp only [List.replicate_succ, List.cons_append, turnW, ih]
    cases s <;> simp
theorem turnW_P (t : List UInt8) (w : List Tok) (s : List UInt8) : turnW (t.map .P ++ w) s = List.replicate t.length .X ++ turnW w s := by
  induction t with
  | nil => rfl
  | cons c t ih => simp only [List.map_cons, List.cons_append, turnW, ih, List.length_cons, List.replicate_succ]
theorem turnJ_word {l : List Pt} (h : Right l) {s : List UInt8} (hs : (s.length : Int) = inI l) : wordL (turnJ l s) = turnW (wordL l) s ∧ Right (turnJ l s) := by
  induction l generalizing s with
  | nil => exact ⟨rfl, by intro p hp; simp [turnJ] at hp⟩
  | cons p r ih =>
    have hr : Right r := fun q hq => h q (List.mem_cons_of_mem _ hq)
    obtain ⟨r0, r1, r2, r3⟩ := right_len hr
    have hp := h p (by simp)
    have hp0 := ((right_len h).2.2.2 p (by simp)).1
    simp only [inI] at hs
    obtain ⟨i1, i2⟩ := ih hr (s := s.drop p.n.toNat) (by rw [List.length_drop]; omega)
    obtain ⟨hk, h2, h3, h4⟩ := hp
    have htl : p.t.data.toList.length = p.t.size := Array.length_toList
    rcases hk with hk | hk | hk
    · have e : turnP p s = p := by simp [turnP, hk]
      refine ⟨?_, ?_⟩
      · rw [turnJ, e, wordL_cons, wordL_cons, i1, wordP, if_pos hk, turnW_K]
      · rw [turnJ, e]
        intro q hq
        rcases List.mem_cons.1 hq with rfl | hq
        · exact h q (by simp)
        · exact i2 q hq
    · have hn := h2 hk
      have e : turnP p s = ⟨3, p.t.size, ByteArray.empty⟩ := by simp [turnP, hk]
      refine ⟨?_, ?_⟩
      · rw [turnJ, e, wordL_cons, wordL_cons, i1, hn]
        simp only [wordP, hk]
        simp [turnW_P, htl]
      · rw [turnJ, e]
        intro q hq
        rcases List.mem_cons.1 hq with rfl | hq
        · have := h4 hk
          exact ⟨by simp, by simp, by simp; omega, by simp⟩
        · exact i2 q hq
    · have hn := h3 (by omega)
      have e : turnP p s = ⟨2, 0, ⟨(s.take p.n.toNat).toArray⟩⟩ := by simp [turnP, hk]
      refine ⟨?_, ?_⟩
      · rw [turnJ, e, wordL_cons, wordL_cons, i1]
        simp only [wordP, hk]
        simp [turnW_X]
      · rw [turnJ, e]
        intro q hq
        rcases List.mem_cons.1 hq with rfl | hq
        · refine ⟨by simp, by simp, by simp, fun _ => ?_⟩
          show (List.toArray _).size ≠ 0
          simp only [List.size_toArray, List.length_take]; omega
        · exact i2 q hq
theorem turnJ_norm {d : List Pt} {s : List UInt8} (h : sizesE d = 0) (hs : (s.length : Int) = inI d) : normE (turnJ d s) = 0 ∧ normL (turnJ d s) = turnL d s := by
  obtain ⟨g, c, i, o, l, m⟩ := delta_facts h
  obtain ⟨w1, w2⟩ := turnJ_word (sizes_right h) hs
  obtain ⟨t1, t2, t3, t4⟩ := turn_props (wordL d) s (by omega)
  have hG : Good (turnJ d s) := fun p hp => ⟨(w2 p hp).1, ((right_len w2).2.2.2 p hp).1, (w2 p hp).2.1, fun e => ((w2 p hp).2.2.1 e).1⟩
  have hn := norm_right w2 (by rw [inI_word hG, w1]; omega) (by rw [outI_word hG, w1]; omega)
  exact ⟨hn.1, by rw [hn.2, w1, turn_canon h hs]⟩

/-- a box that was laid ahead of a row's growth -/
theorem box_after {w w' : World} {B n size : Nat} {e : TypeId} {v : Value} {xs : List Value} {o o' : Obj} (h : w.ownsRow B e size v n xs) (hg : ((w.alloc o).alloc o').grownBy w' v.ownBlock) : w'.heap[w.heap.size]? = some o := by
  have h1 := hg.block w.heap.size (by simp; omega) (fun e => by have := (h.lt _ e.symm).2; omega)
  rw [h1, Deep.blk_alloc_lt _ _ _ (by simp)]
  exact Deep.blk_alloc_new _ _
theorem box_one {w w' : World} {B n size : Nat} {e : TypeId} {v : Value} {xs : List Value} {o : Obj} (h : w.ownsRow B e size v n xs) (hg : (w.alloc o).grownBy w' v.ownBlock) : w'.heap[w.heap.size]? = some o := by
  have h1 := hg.block w.heap.size (by simp) (fun e => by have := (h.lt _ e.symm).2; omega)
  rw [h1]
  exact Deep.blk_alloc_new _ _

theorem ext_end (s : ByteArray) (a : Nat) : (s.extract a s.size).data.toList = s.data.toList.drop a := by
  rw [Lib.extract_data]
  have h : s.data.toList.length = s.size := Array.length_toList
  exact List.take_of_length_le (by rw [List.length_drop, h]; omega)
theorem ext_take (s : ByteArray) (a : Nat) : (s.extract 0 a) = ⟨(s.data.toList.take a).toArray⟩ := by
  have h := Lib.extract_data s 0 a
  simp only [List.drop_zero, Nat.sub_zero] at h
  rw [← h]

set_option maxRecDepth 20000 in
set_option maxHeartbeats 4000000 in
theorem turned_any (a : Option Addr) (l : List Pt) (cap : Nat) (s : ByteArray) (w : World) (hp : PartsAt w w.heap.size a l) (hz0 : sizesE l = 0) (hin : inI l = s.size) (hs5 : s.size ≤ 500) :
    Calls Try.prog 98 #[.slice a l.length cap, .string s] w fun e w' => ∃ v, e = .returned v ∧ w'.ownsRow w.heap.size 45 3 v (turnJ l s.data.toList).length (allCells (turnJ l s.data.toList)) ∧ Below w.heap.size w w' := by
  obtain ⟨ip, hip, hp0, hp1, hp2⟩ := info_parts infoPart
  have hsm := (sizes_zero hz0).1
  have hl := hsm.1
  have HSM : Hid (Small l) := hsm
  have HRT : Hid (Right l) := sizes_right hz0
  have HIN : Hid (inI l = s.size) := hin
  have HP : Hid (PartsAt w w.heap.size a l) := hp
  have hbb : ip.bytes * l.length ≤ 281474976710656 := by rw [hp2]; omega
  clear hp hsm hz0 hin
  go_enter Try.func98, Try.ntmps98
  go_wp2_with (at_make; refine wpList_make_own _ rfl _ _ 25 rfl w.heap.size 45 ip _ 3 Try.underlying25 hip hp0 hp1 .i64 .i64 _ l.length rfl rfl rfl hbb (by unfold maxLen; omega) (Nat.le_refl _) ?_)
  intro w1 hown hgrow
  have HB1 : Hid (Below w.heap.size w w1) := (Below.refl _ _).grown hgrow (Nat.le_refl _) (fun k hk => by simp at hk)
  have HO1 : Hid (w1.ownsRow w.heap.size 45 3 (.slice (some ⟨w.heap.size, 0, none⟩) 0 l.length) 0 []) := hown
  clear hown hgrow
  go_wp2_with fail
  go_loopw [1, 5, 13] (fun t v i wr => ∃ (k : Nat) (s' : ByteArray), k ≤ l.length ∧ i = .int .i64 k ∧ t = .string s' ∧ s'.data.toList = s.data.toList.drop (inI (l.take k)).toNat ∧ wr.ownsRow w.heap.size 45 3 v (turnJ (l.take k) s.data.toList).length (allCells (turnJ (l.take k) s.data.toList)) ∧ Below w.heap.size w wr) (fun _ _ i _ => l.length - (intOf i).toNat)
  case atStart => exact ⟨0, s, Nat.zero_le _, rfl, rfl, by simp [inI], HO1.out, HB1.out⟩
  case round =>
    obtain ⟨k, s', hk, rfl, rfl, hs', hown, hb⟩ := hrel
    have hz := hb.size
    by_cases hlt : k < l.length
    · obtain ⟨p, hpk⟩ : ∃ p, l[k]? = some p := ⟨l[k], List.getElem?_eq_getElem hlt⟩
      have hpm := List.mem_of_getElem? hpk
      obtain ⟨hpb1, hpb2, hpb3⟩ := HSM.out.2 p hpm
      have hpr := HRT.out p hpm
      have Hsn : Hid _ := turnJ_snoc (l.take k) p s.data.toList (fun q hq => (HSM.out.2 q (List.mem_of_mem_take hq)).1)
      have HTK : Hid (l.take (k + 1) = l.take k ++ [p]) := take_snoc hpk
      have hbd := inI_bd (HSM.out.take k).2
      have hin2 : inI l = inI (l.take k) + (p.n + inI (l.drop (k + 1))) := by
        have h1 : inI l = inI (l.take k ++ l.drop k) := by rw [List.take_append_drop]
        rw [h1, inI_app, drop_cons hpk]; rfl
      have hge : 0 ≤ inI (l.drop (k + 1)) := (inI_bd (fun q hq => HSM.out.2 q (List.mem_of_mem_drop hq))).1
      have hsl : s.data.toList.length = s.size := Array.length_toList
      have hsl' : s'.data.toList.length = s'.size := Array.length_toList
      have hs'z : (s'.size : Int) = p.n + inI (l.drop (k + 1)) := by
        have h1 := congrArg List.length hs'
        rw [hsl', List.length_drop, hsl] at h1
        have := HIN.out
        omega
      have hle : p.n ≤ (s'.size : Int) := by omega
      have hs'5 : s'.size ≤ 500 := by
        have h1 := congrArg List.length hs'
        rw [hsl', List.length_drop, hsl] at h1
        omega
      obtain ⟨b, off, rfl, hblt, c1, c2, c3⟩ := (HP.out.below hb (Nat.le_refl _)).mem hpk
      have hbw : b < wr.heap.size := by omega
      have HB : Hid (Below w.heap.size w wr) := hb
      have HS' : Hid (s'.data.toList = s.data.toList.drop (inI (l.take k)).toNat) := hs'
      have HE : Hid ((s'.extract p.n.toNat s'.size).data.toList = s.data.toList.drop (inI (l.take (k + 1))).toNat) := by
        show _ = _
        rw [ext_end, hs', List.drop_drop, HTK.out, inI_app]
        congr 1
        simp only [inI]; omega
      have hJl : (turnJ (l.take k) s.data.toList).length ≤ 1600 := by rw [turnJ_len, List.length_take]; omega
      obtain ⟨J, HJ⟩ : ∃ J, Hid (turnJ (l.take k) s.data.toList = J) := ⟨_, rfl⟩
      rw [HJ.out] at hown hJl
      have hAs := own_alloc (own_alloc hown (.cells #[.int .i64 p.k, .int .i64 p.n, .string p.t] 45))
      obtain ⟨ao, ca, rfl⟩ := slice_form' hown
      clear hs' hb hpm hpk hin2 hbd hsl hsl'
      rcases hpr with ⟨hk1 | hk2 | hk3, hpr2, hpr3⟩
      · have q1 : (p.k == 1) = true := by simp [hk1]
        have HTP : Hid (turnP p (s.data.toList.drop (inI (l.take k)).toNat) = ⟨p.k, p.n, p.t⟩) := by show _ = _; rw [turnP, if_pos hk1]
        have hAs := hAs (.cells #[.int .i64 p.k, .int .i64 p.n, .string p.t] 45)
        clear hk1 hpr2 hpr3
        go_wp2_with (at_builtin; refine wpList_append_own _ rfl _ _ 25 rfl w.heap.size 45 ip _ 3 32 Try.underlying25 hip hp0 hp1 hp2 rfl (by decide) _ _ _ rfl hAs ⟨wr.heap.size + 1, 0, none⟩ 1 1 [.int .i64 p.k, .int .i64 p.n, .string p.t] rfl rfl ?c2 (by simp [Value.oneCell']) ?c3 ?c4 ?c5 ?_)
        case c2 => exact World.news_of_block (cs := #[.int .i64 p.k, .int .i64 p.n, .string p.t]) (t := 45) (fr := (0, 0)) (by have h := heap_alloc_new (wr.alloc (.cells #[.int .i64 p.k, .int .i64 p.n, .string p.t] 45)) (.cells #[.int .i64 p.k, .int .i64 p.n, .string p.t] 45); rw [show (wr.alloc (.cells #[.int .i64 p.k, .int .i64 p.n, .string p.t] 45)).heap.size = wr.heap.size + 1 from Deep.nblk_alloc _ _] at h; exact h)
        case c3 => unfold maxLen; omega
        case c4 => omega
        case c5 => first | omega | (simp; omega)
        intro v' w2 hown2 hgrow _
        have hbox := box_after hown hgrow
        have d1 : w2.cell? ⟨wr.heap.size, 1, none⟩ = some (.int .i64 p.n) := by rw [cell_of_row _ _ _ _ _ _ hbox]; rfl
        have hbz : wr.heap.size < w2.heap.size := lt_of_heap hbox
        obtain ⟨bo, cb, rfl⟩ := slice_form' hown2
        have HB2 : Hid (Below w.heap.size w w2) := below_own' ((HB.out.alloc hz _).alloc (by simp; omega) _) hAs hgrow (by simp; omega)
        have HO2 : Hid (w2.ownsRow w.heap.size 45 3 (.slice bo (J.length + 1) cb) (J ++ [(⟨p.k, p.n, p.t⟩ : Pt)]).length (allCells (J ++ [(⟨p.k, p.n, p.t⟩ : Pt)]))) := own_snoc hown2
        clear hown2 hgrow hbox hAs hown
        go_wp2_with fail
        go_roundw
        case rel =>
          refine ⟨k + 1, s'.extract p.n.toNat s'.size, by omega, by go_num, rfl, HE.out, ?_, HB2.out⟩
          rw [HTK.out, Hsn.out, HJ.out, HTP.out]
          exact HO2.out
        case measure => simp [intOf]; omega
      · have q1 : (p.k == 1) = false := by simp [hk2]
        have q2 : (p.k == 2) = true := by simp [hk2]
        have HTP : Hid (turnP p (s.data.toList.drop (inI (l.take k)).toNat) = ⟨3, p.t.size, ByteArray.empty⟩) := by show _ = _; simp [turnP, hk2]
        have hAs := hAs (.cells #[.int .i64 3, .int .i64 p.t.size, .string ⟨#[]⟩] 45)
        clear hk2 hpr2 hpr3
        go_wp2_with (at_builtin; refine wpList_append_own _ rfl _ _ 25 rfl w.heap.size 45 ip _ 3 32 Try.underlying25 hip hp0 hp1 hp2 rfl (by decide) _ _ _ rfl hAs ⟨wr.heap.size + 1, 0, none⟩ 1 1 [.int .i64 3, .int .i64 p.t.size, .string ⟨#[]⟩] rfl rfl ?c2 (by simp [Value.oneCell']) ?c3 ?c4 ?c5 ?_)
        case c2 => exact World.news_of_block (cs := #[.int .i64 3, .int .i64 p.t.size, .string ⟨#[]⟩]) (t := 45) (fr := (0, 0)) (by have h := heap_alloc_new (wr.alloc (.cells #[.int .i64 p.k, .int .i64 p.n, .string p.t] 45)) (.cells #[.int .i64 3, .int .i64 p.t.size, .string ⟨#[]⟩] 45); rw [show (wr.alloc (.cells #[.int .i64 p.k, .int .i64 p.n, .string p.t] 45)).heap.size = wr.heap.size + 1 from Deep.nblk_alloc _ _] at h; exact h)
        case c3 => unfold maxLen; omega
        case c4 => omega
        case c5 => first | omega | (simp; omega)
        intro v' w2 hown2 hgrow _
        have hbox := box_after hown hgrow
        have d1 : w2.cell? ⟨wr.heap.size, 1, none⟩ = some (.int .i64 p.n) := by rw [cell_of_row _ _ _ _ _ _ hbox]; rfl
        have hbz : wr.heap.size < w2.heap.size := lt_of_heap hbox
        obtain ⟨bo, cb, rfl⟩ := slice_form' hown2
        have HB2 : Hid (Below w.heap.size w w2) := below_own' ((HB.out.alloc hz _).alloc (by simp; omega) _) hAs hgrow (by simp; omega)
        have HO2 : Hid (w2.ownsRow w.heap.size 45 3 (.slice bo (J.length + 1) cb) (J ++ [(⟨3, p.t.size, ByteArray.empty⟩ : Pt)]).length (allCells (J ++ [(⟨3, p.t.size, ByteArray.empty⟩ : Pt)]))) := own_snoc (t := ByteArray.empty) hown2
        clear hown2 hgrow hbox hAs hown
        go_wp2_with fail
        go_roundw
        case rel =>
          refine ⟨k + 1, s'.extract p.n.toNat s'.size, by omega, by go_num, rfl, HE.out, ?_, HB2.out⟩
          rw [HTK.out, Hsn.out, HJ.out, HTP.out]
          exact HO2.out
        case measure => simp [intOf]; omega
      · have q1 : (p.k == 1) = false := by simp [hk3]
        have q2 : (p.k == 2) = false := by simp [hk3]
        have q3 : (p.k == 3) = true := by simp [hk3]
        have HTP : Hid (turnP p (s.data.toList.drop (inI (l.take k)).toNat) = ⟨2, 0, s'.extract 0 p.n.toNat⟩) := by show _ = _; rw [turnP, if_neg (by omega), if_neg (by omega), ext_take, HS'.out]
        have hAs := hAs (.cells #[.int .i64 2, .int .i64 0, .string (s'.extract 0 p.n.toNat)] 45)
        clear hk3 hpr2 hpr3
        go_wp2_with (at_builtin; refine wpList_append_own _ rfl _ _ 25 rfl w.heap.size 45 ip _ 3 32 Try.underlying25 hip hp0 hp1 hp2 rfl (by decide) _ _ _ rfl hAs ⟨wr.heap.size + 1, 0, none⟩ 1 1 [.int .i64 2, .int .i64 0, .string (s'.extract 0 p.n.toNat)] rfl rfl ?c2 (by simp [Value.oneCell']) ?c3 ?c4 ?c5 ?_)
        case c2 => exact World.news_of_block (cs := #[.int .i64 2, .int .i64 0, .string (s'.extract 0 p.n.toNat)]) (t := 45) (fr := (0, 0)) (by have h := heap_alloc_new (wr.alloc (.cells #[.int .i64 p.k, .int .i64 p.n, .string p.t] 45)) (.cells #[.int .i64 2, .int .i64 0, .string (s'.extract 0 p.n.toNat)] 45); rw [show (wr.alloc (.cells #[.int .i64 p.k, .int .i64 p.n, .string p.t] 45)).heap.size = wr.heap.size + 1 from Deep.nblk_alloc _ _] at h; exact h)
        case c3 => unfold maxLen; omega
        case c4 => omega
        case c5 => first | omega | (simp; omega)
        intro v' w2 hown2 hgrow _
        have hbox := box_after hown hgrow
        have d1 : w2.cell? ⟨wr.heap.size, 1, none⟩ = some (.int .i64 p.n) := by rw [cell_of_row _ _ _ _ _ _ hbox]; rfl
        have hbz : wr.heap.size < w2.heap.size := lt_of_heap hbox
        obtain ⟨bo, cb, rfl⟩ := slice_form' hown2
        have HB2 : Hid (Below w.heap.size w w2) := below_own' ((HB.out.alloc hz _).alloc (by simp; omega) _) hAs hgrow (by simp; omega)
        have HO2 : Hid (w2.ownsRow w.heap.size 45 3 (.slice bo (J.length + 1) cb) (J ++ [(⟨2, 0, s'.extract 0 p.n.toNat⟩ : Pt)]).length (allCells (J ++ [(⟨2, 0, s'.extract 0 p.n.toNat⟩ : Pt)]))) := own_snoc hown2
        clear hown2 hgrow hbox hAs hown
        go_wp2_with fail
        go_roundw
        case rel =>
          refine ⟨k + 1, s'.extract p.n.toNat s'.size, by omega, by go_num, rfl, HE.out, ?_, HB2.out⟩
          rw [HTK.out, Hsn.out, HJ.out, HTP.out]
          exact HO2.out
        case measure => simp [intOf]; omega
    · have hkl : l.take k = l := List.take_of_length_le (by omega)
      rw [hkl] at hown
      obtain ⟨ao, ca, rfl⟩ := slice_form' hown
      have HO : Hid (wr.ownsRow w.heap.size 45 3 (.slice ao (turnJ l s.data.toList).length ca) (turnJ l s.data.toList).length (allCells (turnJ l s.data.toList))) := hown
      have HB : Hid (Below w.heap.size w wr) := hb
      clear hown hb
      go_wp2_with fail
      go_ret
      exact ⟨_, rfl, HO.out, HB.out⟩

theorem turnJ_bound {l : List Pt} {s : List UInt8} (h : sizesE l = 0) (hs : (s.length : Int) = inI l) : Bound (turnJ l s) := by
  obtain ⟨g, c, i, o, b1, b2⟩ := delta_facts h
  obtain ⟨w1, w2⟩ := turnJ_word (sizes_right h) hs
  obtain ⟨t1, t2, t3, t4⟩ := turn_props (wordL l) s (by omega)
  obtain ⟨r0, r1, r2, r3⟩ := right_len w2
  have hG : Good (turnJ l s) := fun p hp => ⟨(w2 p hp).1, (r3 p hp).1, (w2 p hp).2.1, fun e => ((w2 p hp).2.2.1 e).1⟩
  have e1 : inI (turnJ l s) ≤ 500 := by rw [inI_word hG, w1]; omega
  have e2 : outI (turnJ l s) ≤ 500 := by rw [outI_word hG, w1]; omega
  refine ⟨by omega, fun p hp => ?_⟩
  have hk := (w2 p hp).1
  have := r3 p hp
  exact ⟨by omega, by omega, by omega, by omega, by omega⟩

set_option maxRecDepth 20000 in
set_option maxHeartbeats 1000000 in
theorem TurnOf_any (a : Option Addr) (l : List Pt) (cap : Nat) (s : ByteArray) (w : World) (hp : PartsAt w w.heap.size a l) (hs : s.size ≤ 9223372036854775807) :
    Calls Try.prog 68 #[.slice a l.length cap, .string s] w fun e w' => ∃ a' c', e = .returned (.tuple #[.slice a' (turnR l s).length c', .int .i64 (fitsE l s.size)]) ∧ PartsAt w' w'.heap.size a' (turnR l s) ∧ Room a' (turnR l s) c' ∧ Below w.heap.size w w' := by
  have HP : Hid (PartsAt w w.heap.size a l) := hp
  clear hp
  go_enter Try.func68, Try.ntmps68
  go_wp2_with fail
  refine (Fits_any a l cap _ _ HP.out).mono ?_
  rintro e w1 ⟨rfl, hb1⟩
  by_cases h0 : fitsE l s.size = 0
  · obtain ⟨hz0, hin⟩ := fits_zero h0
    have h0' : (fitsE l s.size != 0) = false := by simp [h0]
    obtain ⟨g, c, i, o, b1, b2⟩ := delta_facts hz0
    have hs5 : s.size ≤ 500 := by omega
    have hsl : (s.data.toList.length : Int) = inI l := by rw [hin]; exact congrArg Nat.cast Array.length_toList
    have HN : Hid (normE (turnJ l s.data.toList) = 0 ∧ normL (turnJ l s.data.toList) = turnL l s.data.toList) := turnJ_norm hz0 hsl
    have HBD : Hid (Bound (turnJ l s.data.toList)) := turnJ_bound hz0 hsl
    have HR : Hid (turnR l s = turnL l s.data.toList ∧ fitsE l s.size = 0) := ⟨by rw [turnR, if_pos h0], h0⟩
    have HZ : Hid (sizesE l = 0 ∧ inI l = s.size) := ⟨hz0, hin⟩
    have HB1 : Hid (Below w.heap.size w w1) := hb1
    have HP1 : Hid (PartsAt w1 w1.heap.size a l) := HP.out.here hb1 (Nat.le_refl _)
    clear h0 hz0 hin g c i o b1 b2 hsl hb1
    go_wp2_with fail
    refine (turned_any a l cap s _ HP1.out HZ.out.1 HZ.out.2 hs5).mono ?_
    rintro e w2 ⟨v, rfl, hown, hb2⟩
    obtain ⟨a2, c2, rfl, hp2⟩ := parts_own hown HBD.out
    have HP2 : Hid (PartsAt w2 w2.heap.size a2 (turnJ l s.data.toList)) := hp2
    have HB2 : Hid (Below w.heap.size w w2) := HB1.out.trans (hb2.mono HB1.out.size)
    clear hown hp2 hb2
    go_wp2_with fail
    refine (NormC_any a2 (turnJ l s.data.toList) c2 _ HP2.out).mono ?_
    rintro e w3 ⟨a3, c3, rfl, hp3, hc3, hb3⟩
    rw [HN.out.2] at hp3 hc3
    have HC3 : Hid (Room a3 (turnL l s.data.toList) c3) := hc3
    rw [HN.out.1, HN.out.2]
    have HP3 : Hid (PartsAt w3 w3.heap.size a3 (turnL l s.data.toList)) := hp3
    have HB3 : Hid (Below w.heap.size w w3) := HB2.out.trans (hb3.mono HB2.out.size)
    clear hp3 hb3 hc3
    go_wp2_with fail
    go_ret2
    rw [HR.out.1, HR.out.2]
    exact ⟨a3, c3, rfl, HP3.out, HC3.out, HB3.out⟩
  · have h0' : (fitsE l s.size != 0) = true := by simp [h0]
    have HR : Hid (turnR l s = []) := by show _ = _; rw [turnR, if_neg h0]
    clear h0
    go_wp2_with fail
    go_ret2
    rw [HR.out]
    exact ⟨none, 0, rfl, ⟨by simp, Nat.le_refl _, by simp, by simp⟩, room_nil, hb1⟩

end Go.Proofs.Ytcghojnmnmmpoaa
