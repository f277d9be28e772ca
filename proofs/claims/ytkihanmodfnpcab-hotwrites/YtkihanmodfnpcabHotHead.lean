/- What hot.Head and the document's Head answer. -/
import Derived.Test.YtkihanmodfnpcabHotRev
import Derived.Deep.AppendLies
import Derived.Laws.AppendOwnNone
namespace Go.Proofs.Ytkihanmodfnpcab
open Go.RowKit
set_option linter.unusedSimpArgs false
set_option linter.unusedVariables false

/-- a table as a value -/
def tabV (t : List Int) : Value := .agg (jzC t).toArray
/-- a hand's row of it -/
theorem tab_ix {t : List Int} (ht : t.length = 16) {k : Nat} (hk : k < 8) : ∃ p q : Int, t[2 * k]? = some p ∧ t[2 * k + 1]? = some q ∧ ∀ w : World, (Instr.index 31 (tabV t) (.int .i64 (k : Int))).run Try.prog w = .ok (.agg #[.int .i64 p, .int .i64 q]) w := by
  match t, ht with
  | [x0, x1, x2, x3, x4, x5, x6, x7, x8, x9, x10, x11, x12, x13, x14, x15], _ =>
    match k, hk with
    | 0, _ => exact ⟨x0, x1, rfl, rfl, fun _ => by kernel_rfl⟩
    | 1, _ => exact ⟨x2, x3, rfl, rfl, fun _ => by kernel_rfl⟩
    | 2, _ => exact ⟨x4, x5, rfl, rfl, fun _ => by kernel_rfl⟩
    | 3, _ => exact ⟨x6, x7, rfl, rfl, fun _ => by kernel_rfl⟩
    | 4, _ => exact ⟨x8, x9, rfl, rfl, fun _ => by kernel_rfl⟩
    | 5, _ => exact ⟨x10, x11, rfl, rfl, fun _ => by kernel_rfl⟩
    | 6, _ => exact ⟨x12, x13, rfl, rfl, fun _ => by kernel_rfl⟩
    | 7, _ => exact ⟨x14, x15, rfl, rfl, fun _ => by kernel_rfl⟩
theorem tab_take {t : List Int} {k : Nat} {p q : Int} (h1 : t[2 * k]? = some p) (h2 : t[2 * k + 1]? = some q) : t.take (2 * (k + 1)) = t.take (2 * k) ++ [p, q] := by
  rw [show 2 * (k + 1) = 2 * k + 1 + 1 by omega, List.take_add_one, List.take_add_one, h1, h2]
  simp
theorem infoIntH : (Try.prog.info? 3).map (fun i => (i.zero, i.size, i.bytes)) = some (some (.int .i64 0), 1, 8) := by kernel_rfl
/-- what Head answers -/
def hdE (l : List Int) (text : List UInt8) : Int := if wnE l = 0 then (if 500 < text.length then 2 else putE 1 (wnT l ++ text)) else wnE l
def hdT (l : List Int) (text : List UInt8) : List UInt8 := if wnE l = 0 ∧ text.length ≤ 500 then putT 1 (wnT l ++ text) else []
theorem wn_len (l : List Int) : (wnT l).length ≤ 5 * l.length := by
  unfold wnT
  split
  · rename_i h
    induction l with
    | nil => simp [numsL]
    | cons n l ih =>
      rw [wnE] at h
      split at h
      · rename_i hr
        have h5 := num_five (n := n.toNat) (by omega)
        have h6 := ih h
        have e : numsL ((n :: l).map Int.toNat) = numL n.toNat ++ numsL (l.map Int.toNat) := by simp [numsL]
        rw [e, List.length_append, List.length_cons]
        omega
      · omega
  · simp
theorem jz_app (a b : List Int) : jzC (a ++ b) = jzC a ++ jzC b := by simp [jzC]

set_option maxRecDepth 20000 in
set_option maxHeartbeats 4000000 in
theorem Head_any (gen base : Int) (text : ByteArray) (t : List Int) (ht : t.length = 16) (hs : text.size ≤ 9223372036854775807) (w : World) :
    Calls Try.prog 9 #[.int .i64 gen, .int .i64 base, .string text, tabV t] w fun e w' => e = .returned (.tuple #[.string ⟨(hdT (gen :: base :: t) text.data.toList).toArray⟩, .int .i64 (hdE (gen :: base :: t) text.data.toList)]) ∧ Below w.heap.size w w' := by
  obtain ⟨ip, hip, hp0, hp1, hp2⟩ := info_parts infoIntH
  have HIX : Hid (∀ k, k < 8 → _) := fun k hk => tab_ix ht hk
  have HTL : Hid (t.length = 16) := ht
  obtain ⟨T, hT⟩ : ∃ T, t = T := ⟨_, rfl⟩
  rw [hT] at HIX HTL
  match t, ht, hT with
  | [x0, x1, x2, x3, x4, x5, x6, x7, x8, x9, x10, x11, x12, x13, x14, x15], _, hT =>
    rw [hT]
    have HTE : Hid (tabV T = .agg #[.int .i64 x0, .int .i64 x1, .int .i64 x2, .int .i64 x3, .int .i64 x4, .int .i64 x5, .int .i64 x6, .int .i64 x7, .int .i64 x8, .int .i64 x9, .int .i64 x10, .int .i64 x11, .int .i64 x12, .int .i64 x13, .int .i64 x14, .int .i64 x15]) := by show _ = _; rw [← hT]; rfl
    rw [HTE.out] at HIX ⊢
    obtain ⟨L, hL⟩ : ∃ L, gen :: base :: T = L := ⟨_, rfl⟩
    rw [hL]
    have HL : Hid (gen :: base :: T = L) := hL
    clear hT hL
    go_enter Try.func9, Try.ntmps9
    go_wp2_with fail
    go_loopw [10, 19] (fun lv i wr => ∃ (k : Nat) (ao : Option Addr) (co : Nat), k ≤ 8 ∧ i = .int .i64 k ∧ lv = .slice ao (2 + 2 * k) co ∧ wr.ownsRow w.heap.size 3 1 (.slice ao (2 + 2 * k) co) (2 + 2 * k) (jzC (gen :: base :: T.take (2 * k))) ∧ Below w.heap.size w wr) (fun _ i _ => 8 - (intOf i).toNat)
    case atStart =>
      refine ⟨0, _, _, Nat.zero_le _, rfl, rfl, ?_, ((Below.refl _ w).alloc (Nat.le_refl _) _).alloc (by simp) _⟩
      simp only [Nat.mul_zero, List.take_zero, Nat.add_zero]
      have h := World.ownsRow_lit (base := w.heap.size) (e := 3) (size := 1) (w.alloc (.cells #[.int .i64 x0, .int .i64 x1, .int .i64 x2, .int .i64 x3, .int .i64 x4, .int .i64 x5, .int .i64 x6, .int .i64 x7, .int .i64 x8, .int .i64 x9, .int .i64 x10, .int .i64 x11, .int .i64 x12, .int .i64 x13, .int .i64 x14, .int .i64 x15] 31)) #[.int .i64 gen, .int .i64 base] 2 (by simp) (by decide) rfl
      rw [show (w.alloc (.cells #[.int .i64 x0, .int .i64 x1, .int .i64 x2, .int .i64 x3, .int .i64 x4, .int .i64 x5, .int .i64 x6, .int .i64 x7, .int .i64 x8, .int .i64 x9, .int .i64 x10, .int .i64 x11, .int .i64 x12, .int .i64 x13, .int .i64 x14, .int .i64 x15] 31)).heap.size = w.heap.size + 1 from Deep.nblk_alloc _ _] at h
      exact h
    case round =>
      rename World => wr
      obtain ⟨k, ao, co, hk, rfl, rfl, hown, hb⟩ := hrel
      have HO : Hid (wr.ownsRow w.heap.size 3 1 (.slice ao (2 + 2 * k) co) (2 + 2 * k) (jzC (gen :: base :: T.take (2 * k)))) := hown
      have HB : Hid (Below w.heap.size w wr) := hb
      have hz := hb.size
      clear hown hb
      by_cases hlt : k < 8
      · obtain ⟨p, q, h1, h2, hix⟩ := HIX.out k hlt
        have HX : Hid _ := tab_take h1 h2
        have hki : (k : Int) < 8 := by omega
        clear h1 h2
        have hlen : (jzC (gen :: base :: T.take (2 * k))).length = 2 + 2 * k := by
          rw [jzC_len, List.length_cons, List.length_cons, List.length_take, HTL.out]; omega
        have HLEN : Hid _ := hlen
        clear hlen
        have hAs := own_alloc (own_alloc HO.out (.cells #[.int .i64 p, .int .i64 q] 30)) (.cells #[.int .i64 p, .int .i64 q] 3)
        go_wp2_with (at_builtin; refine wpList_append_own _ rfl _ _ 22 rfl w.heap.size 3 ip _ 1 8 Try.underlying22 hip hp0 hp1 hp2 rfl (by decide) _ _ _ rfl hAs ⟨wr.heap.size + 1, 0, none⟩ 2 2 [.int .i64 p, .int .i64 q] rfl rfl ?c2 (by simp [Value.oneCell']) ?c3 ?c4 ?c5 ?_)
        case c2 => exact World.news_of_block (cs := #[.int .i64 p, .int .i64 q]) (t := 3) (fr := (0, 0)) (by have h := heap_alloc_new (wr.alloc (.cells #[.int .i64 p, .int .i64 q] 30)) (.cells #[.int .i64 p, .int .i64 q] 3); rw [show (wr.alloc (.cells #[.int .i64 p, .int .i64 q] 30)).heap.size = wr.heap.size + 1 from Deep.nblk_alloc _ _] at h; exact h)
        case c3 => unfold maxLen; omega
        case c4 => omega
        case c5 => first | omega | (simp; omega)
        intro v' w2 hown2 hgrow _
        obtain ⟨bo, cb2, rfl⟩ := slice_form' hown2
        have HB2 : Hid (Below w.heap.size w w2) := below_own' ((HB.out.alloc hz _).alloc (by simp; omega) _) hAs hgrow (by simp; omega)
        have HO2 : Hid (w2.ownsRow w.heap.size 3 1 (.slice bo (2 + 2 * k + 2) cb2) (2 + 2 * k + 2) (jzC (gen :: base :: T.take (2 * (k + 1))))) := by
          show w2.ownsRow _ _ _ _ _ _
          rw [HX.out, show gen :: base :: (T.take (2 * k) ++ [p, q]) = (gen :: base :: T.take (2 * k)) ++ [p, q] from rfl, jz_app]
          exact hown2
        clear hown2 hgrow hAs hix
        go_wp2_with fail
        go_roundw
        case rel => exact ⟨k + 1, bo, cb2, by omega, by go_num, by rw [show 2 + 2 * (k + 1) = 2 + 2 * k + 2 by omega], by rw [show 2 + 2 * (k + 1) = 2 + 2 * k + 2 by omega]; exact HO2.out, HB2.out⟩
        case measure => simp [intOf]; omega
      · have hk8 : k = 8 := by omega
        subst hk8
        have HO3 : Hid (wr.ownsRow w.heap.size 3 1 (.slice ao (gen :: base :: T).length co) (gen :: base :: T).length (jzC (gen :: base :: T))) := by
          have h := HO.out
          rw [List.take_of_length_le (by rw [HTL.out]; exact Nat.le_refl _)] at h
          rw [List.length_cons, List.length_cons, HTL.out]
          exact h
        have HI3 : Hid (IzAt wr wr.heap.size ao (gen :: base :: T) co) := jz_own HO3.out
        have HLL : Hid ((gen :: base :: T).length = 18) := by show _ = _; rw [List.length_cons, List.length_cons, HTL.out]
        rw [HL.out] at HI3 HLL
        clear HO HO3 HTE HIX HL
        have HN : Hid (∀ (w : World) (b : Option Addr) (c : Nat), IzAt w w.heap.size b L c → Calls Try.prog 31 #[.slice b 18 c] w fun e w' => e = .returned (.tuple #[.string ⟨(wnT L).toArray⟩, .int .i64 (wnE L)]) ∧ Below w.heap.size w w') := fun w b c hp => by
          have h := writeNums_any b L c w hp (by rw [HLL.out]; decide)
          rw [HLL.out] at h
          exact h
        have hwl := wn_len L
        rw [HLL.out] at hwl
        have htl : text.data.toList.length = text.size := Array.length_toList
        by_cases h0 : wnE L = 0
        · by_cases h5 : 500 < text.size
          · have HE : Hid (hdT L text.data.toList = [] ∧ hdE L text.data.toList = 2) := ⟨by rw [hdT, if_neg (by omega)], by rw [hdE, if_pos h0, if_pos (by omega)]⟩
            have h5i : (500 : Int) < (text.size : Int) := by omega
            rw [h0] at HN
            clear h0 htl hwl h5
            go_wp2_with fail
            with_reducible refine (HN.out _ _ _ HI3.out).mono ?_
            rintro e w3 ⟨rfl, hb3⟩
            have HB3 : Hid (Below w.heap.size w w3) := HB.out.trans (hb3.mono hz)
            clear hb3
            go_wp2_with fail
            go_ret2
            exact ⟨ret_num (s := []) HE.out.1.symm HE.out.2.symm, HB3.out⟩
          · have HE : Hid (hdT L text.data.toList = putT 1 (wnT L ++ text.data.toList) ∧ hdE L text.data.toList = putE 1 (wnT L ++ text.data.toList)) := ⟨by rw [hdT, if_pos ⟨h0, by omega⟩], by rw [hdE, if_pos h0, if_neg (by omega)]⟩
            have h5i : ¬ (500 : Int) < (text.size : Int) := by omega
            rw [h0] at HN
            have HPut : Hid _ := fun w => FPut_any 1 (⟨(wnT L).toArray⟩ ++ text) w (by rw [ByteArray.size_append]; show (wnT L).toArray.size + _ ≤ _; simp; omega)
            have hcat : (⟨(wnT L).toArray⟩ ++ text : ByteArray).data.toList = wnT L ++ text.data.toList := by simp
            rw [hcat] at HPut
            obtain ⟨u, hu⟩ : ∃ u, wnT L = u := ⟨_, rfl⟩
            rw [hu] at HN HE HPut hwl
            have hsz : (⟨u.toArray⟩ : ByteArray).size ≤ 90 := by show u.toArray.size ≤ _; simp; omega
            clear h0 htl hcat hu
            go_wp2_with fail
            with_reducible refine (HN.out _ _ _ HI3.out).mono ?_
            rintro e w3 ⟨rfl, hb3⟩
            have HB3 : Hid (Below w.heap.size w w3) := HB.out.trans (hb3.mono hz)
            clear hb3
            go_wp2_with fail
            with_reducible refine (HPut.out _).mono ?_
            rintro e w4 ⟨rfl, hb4⟩
            have HB4 : Hid (Below w.heap.size w w4) := HB3.out.trans (hb4.mono HB3.out.size)
            clear hb4
            go_wp2_with fail
            go_ret2
            exact ⟨ret_num HE.out.1.symm HE.out.2.symm, HB4.out⟩
        · have HE : Hid (hdT L text.data.toList = [] ∧ hdE L text.data.toList = wnE L) := ⟨by rw [hdT, if_neg (fun h => h0 h.1)], by rw [hdE, if_neg h0]⟩
          obtain ⟨q, hq⟩ : ∃ q, wnE L = q := ⟨_, rfl⟩
          rw [hq] at HN HE h0
          have h0' : (q != 0) = true := by simp [h0]
          clear h0 hq hwl htl
          go_wp2_with fail
          with_reducible refine (HN.out _ _ _ HI3.out).mono ?_
          rintro e w3 ⟨rfl, hb3⟩
          have HB3 : Hid (Below w.heap.size w w3) := HB.out.trans (hb3.mono hz)
          clear hb3
          go_wp2_with fail
          go_ret2
          exact ⟨ret_num (s := []) HE.out.1.symm HE.out.2.symm, HB3.out⟩
set_option maxRecDepth 20000 in
set_option maxHeartbeats 4000000 in
theorem RHead_any (gen base : Int) (text : ByteArray) (t : List Int) (ht : t.length = 16) (hs : text.size ≤ 9223372036854775807) (w : World) :
    Calls Try.prog 11 #[.int .i64 gen, .int .i64 base, .string text, tabV t] w fun e w' => e = .returned (.tuple #[.string ⟨(hdT (gen :: base :: t) text.data.toList).toArray⟩, .int .i64 (hdE (gen :: base :: t) text.data.toList)]) ∧ Below w.heap.size w w' := by
  obtain ⟨ip, hip, hp0, hp1, hp2⟩ := info_parts infoIntH
  have HIX : Hid (∀ k, k < 8 → _) := fun k hk => tab_ix ht hk
  have HTL : Hid (t.length = 16) := ht
  obtain ⟨T, hT⟩ : ∃ T, t = T := ⟨_, rfl⟩
  rw [hT] at HIX HTL
  match t, ht, hT with
  | [x0, x1, x2, x3, x4, x5, x6, x7, x8, x9, x10, x11, x12, x13, x14, x15], _, hT =>
    rw [hT]
    have HTE : Hid (tabV T = .agg #[.int .i64 x0, .int .i64 x1, .int .i64 x2, .int .i64 x3, .int .i64 x4, .int .i64 x5, .int .i64 x6, .int .i64 x7, .int .i64 x8, .int .i64 x9, .int .i64 x10, .int .i64 x11, .int .i64 x12, .int .i64 x13, .int .i64 x14, .int .i64 x15]) := by show _ = _; rw [← hT]; rfl
    rw [HTE.out] at HIX ⊢
    obtain ⟨L, hL⟩ : ∃ L, gen :: base :: T = L := ⟨_, rfl⟩
    rw [hL]
    have HL : Hid (gen :: base :: T = L) := hL
    clear hT hL
    go_enter Try.func11, Try.ntmps11
    go_wp2_with fail
    go_loopw [10, 20] (fun lv i wr => ∃ (k : Nat) (ao : Option Addr) (co : Nat), k ≤ 8 ∧ i = .int .i64 k ∧ lv = .slice ao (2 + 2 * k) co ∧ wr.ownsRow w.heap.size 3 1 (.slice ao (2 + 2 * k) co) (2 + 2 * k) (jzC (gen :: base :: T.take (2 * k))) ∧ Below w.heap.size w wr) (fun _ i _ => 8 - (intOf i).toNat)
    case atStart =>
      refine ⟨0, _, _, Nat.zero_le _, rfl, rfl, ?_, ((Below.refl _ w).alloc (Nat.le_refl _) _).alloc (by simp) _⟩
      simp only [Nat.mul_zero, List.take_zero, Nat.add_zero]
      have h := World.ownsRow_lit (base := w.heap.size) (e := 3) (size := 1) (w.alloc (.cells #[.int .i64 x0, .int .i64 x1, .int .i64 x2, .int .i64 x3, .int .i64 x4, .int .i64 x5, .int .i64 x6, .int .i64 x7, .int .i64 x8, .int .i64 x9, .int .i64 x10, .int .i64 x11, .int .i64 x12, .int .i64 x13, .int .i64 x14, .int .i64 x15] 31)) #[.int .i64 gen, .int .i64 base] 2 (by simp) (by decide) rfl
      rw [show (w.alloc (.cells #[.int .i64 x0, .int .i64 x1, .int .i64 x2, .int .i64 x3, .int .i64 x4, .int .i64 x5, .int .i64 x6, .int .i64 x7, .int .i64 x8, .int .i64 x9, .int .i64 x10, .int .i64 x11, .int .i64 x12, .int .i64 x13, .int .i64 x14, .int .i64 x15] 31)).heap.size = w.heap.size + 1 from Deep.nblk_alloc _ _] at h
      exact h
    case round =>
      rename World => wr
      obtain ⟨k, ao, co, hk, rfl, rfl, hown, hb⟩ := hrel
      have HO : Hid (wr.ownsRow w.heap.size 3 1 (.slice ao (2 + 2 * k) co) (2 + 2 * k) (jzC (gen :: base :: T.take (2 * k)))) := hown
      have HB : Hid (Below w.heap.size w wr) := hb
      have hz := hb.size
      clear hown hb
      by_cases hlt : k < 8
      · obtain ⟨p, q, h1, h2, hix⟩ := HIX.out k hlt
        have HX : Hid _ := tab_take h1 h2
        have hki : (k : Int) < 8 := by omega
        clear h1 h2
        have hlen : (jzC (gen :: base :: T.take (2 * k))).length = 2 + 2 * k := by
          rw [jzC_len, List.length_cons, List.length_cons, List.length_take, HTL.out]; omega
        have HLEN : Hid _ := hlen
        clear hlen
        have hAs := own_alloc (own_alloc HO.out (.cells #[.int .i64 p, .int .i64 q] 30)) (.cells #[.int .i64 p, .int .i64 q] 3)
        go_wp2_with (at_builtin; refine wpList_append_own _ rfl _ _ 22 rfl w.heap.size 3 ip _ 1 8 Try.underlying22 hip hp0 hp1 hp2 rfl (by decide) _ _ _ rfl hAs ⟨wr.heap.size + 1, 0, none⟩ 2 2 [.int .i64 p, .int .i64 q] rfl rfl ?c2 (by simp [Value.oneCell']) ?c3 ?c4 ?c5 ?_)
        case c2 => exact World.news_of_block (cs := #[.int .i64 p, .int .i64 q]) (t := 3) (fr := (0, 0)) (by have h := heap_alloc_new (wr.alloc (.cells #[.int .i64 p, .int .i64 q] 30)) (.cells #[.int .i64 p, .int .i64 q] 3); rw [show (wr.alloc (.cells #[.int .i64 p, .int .i64 q] 30)).heap.size = wr.heap.size + 1 from Deep.nblk_alloc _ _] at h; exact h)
        case c3 => unfold maxLen; omega
        case c4 => omega
        case c5 => first | omega | (simp; omega)
        intro v' w2 hown2 hgrow _
        obtain ⟨bo, cb2, rfl⟩ := slice_form' hown2
        have HB2 : Hid (Below w.heap.size w w2) := below_own' ((HB.out.alloc hz _).alloc (by simp; omega) _) hAs hgrow (by simp; omega)
        have HO2 : Hid (w2.ownsRow w.heap.size 3 1 (.slice bo (2 + 2 * k + 2) cb2) (2 + 2 * k + 2) (jzC (gen :: base :: T.take (2 * (k + 1))))) := by
          show w2.ownsRow _ _ _ _ _ _
          rw [HX.out, show gen :: base :: (T.take (2 * k) ++ [p, q]) = (gen :: base :: T.take (2 * k)) ++ [p, q] from rfl, jz_app]
          exact hown2
        clear hown2 hgrow hAs hix
        go_wp2_with fail
        go_roundw
        case rel => exact ⟨k + 1, bo, cb2, by omega, by go_num, by rw [show 2 + 2 * (k + 1) = 2 + 2 * k + 2 by omega], by rw [show 2 + 2 * (k + 1) = 2 + 2 * k + 2 by omega]; exact HO2.out, HB2.out⟩
        case measure => simp [intOf]; omega
      · have hk8 : k = 8 := by omega
        subst hk8
        have HO3 : Hid (wr.ownsRow w.heap.size 3 1 (.slice ao (gen :: base :: T).length co) (gen :: base :: T).length (jzC (gen :: base :: T))) := by
          have h := HO.out
          rw [List.take_of_length_le (by rw [HTL.out]; exact Nat.le_refl _)] at h
          rw [List.length_cons, List.length_cons, HTL.out]
          exact h
        have HI3 : Hid (IzAt wr wr.heap.size ao (gen :: base :: T) co) := jz_own HO3.out
        have HLL : Hid ((gen :: base :: T).length = 18) := by show _ = _; rw [List.length_cons, List.length_cons, HTL.out]
        rw [HL.out] at HI3 HLL
        clear HO HO3 HTE HIX HL
        have HLL2 : L.length = 18 := HLL.out
        have htl : text.data.toList.length = text.size := Array.length_toList
        have HTX : Hid (text.data.toList.length = text.size) := htl
        clear htl
        rw [show (2 + 2 * 8 : Nat) = 18 from rfl, show (((8 : Nat)) : Int) = 8 from rfl]
        go_wp2_with fail
        go_loopw [13, 33] (fun bv i wx => ∃ (j : Nat) (acc : List UInt8), j ≤ 18 ∧ i = .int .i64 j ∧ bv = .string ⟨acc.toArray⟩ ∧ acc = numsL ((L.take j).map Int.toNat) ∧ wnE (L.drop j) = wnE L ∧ acc.length ≤ 5 * j ∧ Below wr.heap.size wr wx) (fun _ i _ => 18 - (intOf i).toNat)
        case atStart => exact ⟨0, [], Nat.zero_le _, rfl, rfl, rfl, rfl, Nat.le_refl _, Below.refl _ _⟩
        case round =>
          rename World => wx
          obtain ⟨j, acc, hj, rfl, rfl, hacc, hE, hal, hbx⟩ := hrel
          have HBX : Hid (Below wr.heap.size wr wx) := hbx
          have HBW : Hid (Below w.heap.size w wx) := HB.out.trans (hbx.mono hz)
          have hzx := hbx.size
          have HAC : Hid (acc = numsL ((L.take j).map Int.toNat)) := hacc
          have HE : Hid (wnE (L.drop j) = wnE L) := hE
          by_cases hlt : j < 18
          · obtain ⟨n, hn⟩ : ∃ n, L[j]? = some n := ⟨L[j]'(by omega), List.getElem?_eq_getElem _⟩
            obtain ⟨b, off, rfl, hblt, c1⟩ := (HI3.out.below hbx (Nat.le_refl _)).mem hn
            have hbw : b < wx.heap.size := by omega
            have hji : (j : Int) < 18 := by omega
            have HD : Hid _ := wn_drop hn
            have HT : Hid _ := wn_take hn
            clear hacc hE hbx hn
            by_cases hr : 0 ≤ n ∧ n ≤ 2147483647
            · obtain ⟨m, rfl⟩ : ∃ m : Nat, n = (m : Int) := ⟨n.toNat, by omega⟩
              have hNum : Hid _ := fun w => RNum_any m w (by omega)
              have h5 := num_five (n := m) (by omega)
              have HR : Hid (0 ≤ (m : Int) ∧ (m : Int) ≤ 2147483647) := hr
              obtain ⟨s, hs2⟩ : ∃ s, numL m = s := ⟨_, rfl⟩
              have HTT : Hid (numL ((m : Int).toNat) = s) := by show _ = _; rw [Int.toNat_natCast]; exact hs2
              rw [hs2] at hNum h5
              have r1 : ¬ (m : Int) < 0 := by omega
              have r2 : ¬ (2147483647 : Int) < (m : Int) := by omega
              have hcat := cat_text acc s
              have sz1 : (⟨acc.toArray⟩ : ByteArray).size ≤ 90 := by show acc.toArray.size ≤ _; simp; omega
              have sz2 : (⟨s.toArray⟩ : ByteArray).size ≤ 5 := by show s.toArray.size ≤ _; simp; omega
              clear hr hs2
              go_wp2_with fail
              with_reducible refine (hNum.out _).mono ?_
              rintro e w3 ⟨rfl, hb3⟩
              have HB3 : Hid (Below wr.heap.size wr w3) := HBX.out.trans (hb3.mono hzx)
              clear hb3
              go_wp2_with fail
              go_roundw
              case rel =>
                refine ⟨j + 1, acc ++ s, by omega, by go_num, rfl, ?_, ?_, by rw [List.length_append]; omega, HB3.out⟩
                · rw [HT.out, HTT.out, HAC.out]
                · rw [← HE.out, HD.out, if_pos HR.out]
              case measure => simp [intOf]; omega
            · have HE1 : Hid (hdT L text.data.toList = [] ∧ hdE L text.data.toList = 1) := by
                have h1 : wnE L = 1 := by rw [← HE.out, HD.out, if_neg hr]
                exact ⟨by rw [hdT, if_neg (fun h => by omega)], by rw [hdE, if_neg (by omega), h1]⟩
              by_cases r1 : n < 0
              · clear hr
                go_wp2_with fail
                go_ret2
                exact ⟨ret_num (s := []) HE1.out.1.symm HE1.out.2.symm, HBW.out⟩
              · have r2 : (2147483647 : Int) < n := by omega
                clear hr
                go_wp2_with fail
                go_ret2
                exact ⟨ret_num (s := []) HE1.out.1.symm HE1.out.2.symm, HBW.out⟩
          · have hji : ¬ (j : Int) < 18 := by omega
            have h0 : wnE L = 0 := by rw [← hE, List.drop_eq_nil_of_le (by omega)]; rfl
            have hT0 : wnT L = acc := by rw [wnT, if_pos h0, hacc, List.take_of_length_le (by omega)]
            have sz1 : (⟨acc.toArray⟩ : ByteArray).size ≤ 90 := by show acc.toArray.size ≤ _; simp; omega
            clear hacc hE hbx
            by_cases h5 : 500 < text.size
            · have HE2 : Hid (hdT L text.data.toList = [] ∧ hdE L text.data.toList = 2) := ⟨by rw [hdT, if_neg (fun h => by have := HTX.out; omega)], by rw [hdE, if_pos h0, if_pos (by have := HTX.out; omega)]⟩
              have h5i : (500 : Int) < (text.size : Int) := by omega
              clear h0 hT0
              go_wp2_with fail
              go_ret2
              exact ⟨ret_num (s := []) HE2.out.1.symm HE2.out.2.symm, HBW.out⟩
            · have HE2 : Hid (hdT L text.data.toList = putT 1 (acc ++ text.data.toList) ∧ hdE L text.data.toList = putE 1 (acc ++ text.data.toList)) := ⟨by rw [hdT, if_pos ⟨h0, by have := HTX.out; omega⟩, hT0], by rw [hdE, if_pos h0, if_neg (by have := HTX.out; omega), hT0]⟩
              have h5i : ¬ (500 : Int) < (text.size : Int) := by omega
              have HPut : Hid _ := fun w => RFrame_any 1 (⟨acc.toArray⟩ ++ text) w (by rw [ByteArray.size_append]; omega)
              have hcat : (⟨acc.toArray⟩ ++ text : ByteArray).data.toList = acc ++ text.data.toList := by simp
              rw [hcat] at HPut
              clear h0 hT0 hcat
              go_wp2_with fail
              with_reducible refine (HPut.out _).mono ?_
              rintro e w4 ⟨rfl, hb4⟩
              have HB4 : Hid (Below w.heap.size w w4) := HBW.out.trans (hb4.mono (by have := HBW.out.size; omega))
              clear hb4
              go_wp2_with fail
              go_ret2
              exact ⟨ret_num HE2.out.1.symm HE2.out.2.symm, HB4.out⟩
end Go.Proofs.Ytkihanmodfnpcab
