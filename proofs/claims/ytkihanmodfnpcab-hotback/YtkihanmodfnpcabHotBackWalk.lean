/- The law HotBack, walked: it answers true. -/
import Derived.Test.YtkihanmodfnpcabHotLaw
import Derived.Test.YtkihanmodfnpcabHotHead
import Derived.Test.YtkihanmodfnpcabNumWithin
import Derived.Deep.RegionHeld3
import Derived.Deep.DeepCutAuto
import Derived.BigQuiet
namespace Go.Proofs.Ytkihanmodfnpcab
open Go.RowKit
set_option linter.unusedSimpArgs false
set_option linter.unusedVariables false

theorem back_two : logE (scanL (rowL [headFr 1 2 [97, 98], doneFr])).1 = 0 ∧ (logS (scanL (rowL [headFr 1 2 [97, 98], doneFr])).1).base = 2 ∧ (logS (scanL (rowL [headFr 1 2 [97, 98], doneFr])).1).text = [97, 98] ∧ (logS (scanL (rowL [headFr 1 2 [97, 98], doneFr])).1).whole = true := by
  obtain ⟨h1, t, _, h2⟩ := back_read (gen := 1) (base := 2) (text := [97, 98]) (l := []) (by decide) (by decide) (by decide) trivial
  have e : headFr 1 2 [97, 98] :: (([] : List Rv).map revFr ++ [doneFr]) = [headFr 1 2 [97, 98], doneFr] := rfl
  rw [e] at h1 h2
  exact ⟨h1, by rw [h2], by rw [h2], by rw [h2]⟩
/-- eight numbers in a block of their own -/
def L8At (w : World) (g : Nat) (t : List Int) : Prop := w.heap[g]? = some (.cells (jzC t).toArray 45 (0, 0))
theorem L8At.lt {w : World} {g : Nat} {t : List Int} (h : L8At w g t) : g < w.heap.size := lt_of_heap h
theorem L8At.below {w w' : World} {B g : Nat} {t : List Int} (h : L8At w g t) (hb : Below B w w') (hg : g < B) : L8At w' g t := (hb.block g hg).trans h
theorem L8At.cell {w : World} {g : Nat} {t : List Int} (h : L8At w g t) {k : Nat} {x : Int} (hk : t[k]? = some x) : w.cell? ⟨g, k, none⟩ = some (.int .i64 x) ∧ w.frozen? ⟨g, k, none⟩ = false := by
  refine ⟨?_, Lib.frozen_of_heap h k⟩
  have h2 := Lib.cell_of_heap h k
  rw [h2]
  simp [jzC, hk]
theorem L8At.put {w : World} {g : Nat} {t : List Int} (h : L8At w g t) (k : Nat) (x : Int) : L8At (w.setCell ⟨g, k, none⟩ (.int .i64 x)) g (t.set k x) := by
  have h2 := heap_setCell_same w g k _ _ (.int .i64 x) h
  rw [List.setIfInBounds_toArray] at h2
  have e : (jzC t).set k (.int .i64 x) = jzC (t.set k x) := by simp [jzC, List.map_set]
  rw [e] at h2
  exact h2
theorem row_next (hd : Fr) (l : List Rv) (k : Nat) (r : Rv) (h : l[k]? = some r) : rowL (hd :: (l.take (k + 1)).map revFr) = rowL (hd :: (l.take k).map revFr) ++ frameL 2 (revB r) := by
  rw [List.take_add_one, h, show hd :: (l.take k ++ (some r).toList).map revFr = (hd :: (l.take k).map revFr) ++ [revFr r] by simp, row_app, row_one (revFr r)]
  rfl
theorem row_small : ∀ l : List Rv, (∀ r ∈ l, oneE r = 0) → rowN (l.map revFr) ≤ 4007 * l.length
  | [], _ => by simp [rowN]
  | r :: l, h => by
    have h1 := row_small l (fun x hx => h x (by simp [hx]))
    have h2 := rev_len (h r (by simp))
    have e : rowN ((r :: l).map revFr) = ((revB r).length + 7) + rowN (l.map revFr) := rfl
    rw [e, List.length_cons]
    omega
theorem went12 {w w' : World} (hb : Below w.drew.heap.size w.drew w') : Below w.heap.size w w' := ((Below.refl w.heap.size w).drew).trans hb
set_option maxRecDepth 100000 in
set_option maxHeartbeats 8000000 in
theorem HotBack_any (gi bi : Int) (text : ByteArray) (a : Option Addr) (l : List Rv) (c : Nat) (w : World) (hp : RevsAt w w.heap.size a l) (hc : l.length ≤ c) (hs : text.size ≤ 140737488355328) :
    Calls Try.prog 5 #[.int .i64 gi, .int .i64 bi, .string text, .slice a l.length c] w fun e w' => e = .returned (.bool true) ∧ Below w.heap.size w w' := by
  obtain ⟨u, hu⟩ : ∃ u : ByteArray, (⟨(rowL [headFr 1 2 [97, 98]]).toArray⟩ : ByteArray) = u := ⟨_, rfl⟩
  obtain ⟨v, hv⟩ : ∃ v : ByteArray, (⟨(frameL 3 []).toArray⟩ : ByteArray) = v := ⟨_, rfl⟩
  have hus : u.size ≤ 4007 := by
    rw [← hu]
    show (rowL [headFr 1 2 [97, 98]]).toArray.size ≤ _
    rw [List.size_toArray, row_len]
    have := fr_len (head_zero (gen := 1) (base := 2) (text := [97, 98]) (by decide) (by decide) (by decide)).2.2.1
    show (headFr 1 2 [97, 98]).t.length + 7 + 0 ≤ 4007
    omega
  have hvs : v.size = 7 := by rw [← hv]; show (frameL 3 []).toArray.size = 7; rw [List.size_toArray, frameL_len]; rfl
  have HHd : Hid (∀ w, Calls Try.prog 9 #[.int .i64 1, .int .i64 2, .string ⟨#[97, 98]⟩, .agg #[.int .i64 0, .int .i64 0, .int .i64 0, .int .i64 0, .int .i64 0, .int .i64 0, .int .i64 0, .int .i64 0, .int .i64 0, .int .i64 0, .int .i64 0, .int .i64 0, .int .i64 0, .int .i64 0, .int .i64 0, .int .i64 0]] w fun e w' => e = .returned (.tuple #[.string u, .int .i64 0]) ∧ Below w.heap.size w w') := fun w => by
    have h := Head_any 1 2 ⟨#[97, 98]⟩ zeroT rfl (by decide) w
    obtain ⟨e1, e2, _, _⟩ := head_zero (gen := 1) (base := 2) (text := [97, 98]) (by decide) (by decide) (by decide)
    have e1' : hdE (1 :: 2 :: zeroT) (⟨#[97, 98]⟩ : ByteArray).data.toList = 0 := e1
    have e2' : hdT (1 :: 2 :: zeroT) (⟨#[97, 98]⟩ : ByteArray).data.toList = rowL [headFr 1 2 [97, 98]] := e2
    rw [e1', e2', hu] at h
    exact h
  have HDn : Hid (∀ w, Calls Try.prog 14 #[] w fun e w' => e = .returned (.string v) ∧ Below w.heap.size w w') := fun w => by
    have h := Done_any w
    rw [hv] at h
    exact h
  obtain ⟨S1, hS1⟩ : ∃ S, logS (scanL (rowL [headFr 1 2 [97, 98], doneFr])).1 = S := ⟨_, rfl⟩
  have h1 := back_two
  have HS1 : Hid (S1.first.length = 16 ∧ S1.table.length = 16) := by show _ ∧ _; rw [← hS1]; exact logS_tabs _
  have HX : Hid (∀ w, Calls Try.prog 16 #[.string (u ++ v)] w fun e w' => ReadTo S1 0 w e w') := fun w => by
    have h := Read_to (u ++ v) w (by rw [ByteArray.size_append]; omega)
    have e : (u ++ v).data.toList = rowL [headFr 1 2 [97, 98], doneFr] := by
      rw [← hu, ← hv, ByteArray.data_append, Array.toList_append]
      show rowL [headFr 1 2 [97, 98]] ++ frameL 3 [] = _
      rw [show [headFr 1 2 [97, 98], doneFr] = [headFr 1 2 [97, 98]] ++ [doneFr] from rfl, row_app, row_one doneFr]
      rfl
    rw [e, h1.1, hS1] at h
    exact h
  rw [hS1] at h1
  have HSF : Hid (S1.base = 2 ∧ S1.text = [97, 98] ∧ S1.whole = true) := h1.2
  have HWi : Hid (∀ (k : Int) (w : World), Calls Try.prog 19 #[.int .i64 k, .int .i64 1000] w fun e w' => ∃ r : Nat, e = .returned (.int .i64 r) ∧ r < 1000 ∧ w' = w) := fun k w => Within3_any k 1000 w (by decide) (by decide)
  have hl : text.data.toList.length = text.size := Array.length_toList
  have hse := str_eq text
  obtain ⟨tx, htx⟩ : ∃ tx, text.data.toList = tx := ⟨_, rfl⟩
  have HTX : Hid (text.data.toList = tx ∧ (⟨tx.toArray⟩ : ByteArray) = text ∧ tx.length = text.size) := ⟨htx, by rw [← htx], by rw [← htx]; exact hl⟩
  have HHg : Hid (∀ (g b : Nat) (w : World), Calls Try.prog 9 #[.int .i64 g, .int .i64 b, .string text, .agg #[.int .i64 0, .int .i64 0, .int .i64 0, .int .i64 0, .int .i64 0, .int .i64 0, .int .i64 0, .int .i64 0, .int .i64 0, .int .i64 0, .int .i64 0, .int .i64 0, .int .i64 0, .int .i64 0, .int .i64 0, .int .i64 0]] w fun e w' => e = .returned (.tuple #[.string ⟨(hdT ((g : Int) :: (b : Int) :: zeroT) tx).toArray⟩, .int .i64 (hdE ((g : Int) :: (b : Int) :: zeroT) tx)]) ∧ Below w.heap.size w w') := fun g b w => by
    have h := Head_any g b text zeroT rfl (by omega) w
    rw [htx] at h
    exact h
  have HCk : Hid (∀ w, RevsAt w w.heap.size a l → Calls Try.prog 20 #[.string text, .slice a l.length c] w fun e w' => e = .returned (.int .i64 (checkE tx l)) ∧ Below w.heap.size w w') := fun w h => by
    have h2 := RevCheck_any text a l c w h (by omega)
    rw [htx] at h2
    exact h2
  have HP : Hid (RevsAt w w.heap.size a l) := hp
  have HC : Hid (l.length ≤ c) := hc
  have HV3 : Hid (v.data.toList = frameL 3 []) := by show _ = _; rw [← hv]
  clear hS1 h1 hp hu hv hl hse htx hc
  go_enter Try.func5, Try.ntmps5
  go_wp2_with fail
  with_reducible refine (HHd.out _).mono ?_
  rintro e w1 ⟨rfl, hb1⟩
  have HB1 : Hid (Below w.heap.size w w1) := hb1
  clear hb1
  go_wp2_with fail
  with_reducible refine (HDn.out _).mono ?_
  rintro e w2 ⟨rfl, hb2⟩
  have HB2 : Hid (Below w.heap.size w w2) := HB1.out.trans (hb2.mono HB1.out.size)
  clear hb2
  go_wp2_with fail
  with_reducible refine (HX.out _).mono ?_
  rintro e w3 ⟨a1, c1, rfl, hr, hc, hb3⟩
  have HB3 : Hid (Below w.heap.size w (w3.alloc (.cells (rlC S1 a1 c1).toArray 38))) := (HB2.out.trans (hb3.mono HB2.out.size)).alloc (HB2.out.trans (hb3.mono HB2.out.size)).size _
  have HR3 : Hid (RlAt (w3.alloc (.cells (rlC S1 a1 c1).toArray 38)) w3.heap.size S1 a1 c1) := rl_new hr hc HS1.out.1 HS1.out.2
  have HI0 : Hid _ := log_into (sC_len HS1.out.1 HS1.out.2) (rl_one S1 a1 c1)
  clear hb3 hr hc
  go_upto_region 3 with (refine wpList_store_new rfl 38 _ _ rfl _ (rlC S1 a1 c1).toArray (by rfl) (by rfl) HI0.out.1 (by exact HI0.out.2.1) HI0.out.2.2.1 ?_)
  generalize w3.alloc (.cells (rlC S1 a1 c1).toArray 38) = w4 at HB3 HR3 ⊢
  obtain ⟨g0, hg0⟩ : ∃ g, w3.heap.size = g := ⟨_, rfl⟩
  rw [hg0] at HR3 ⊢
  clear hg0
  obtain ⟨-, z1, z2, -, z36, -⟩ := HR3.out.cells
  rw [HSF.out.1] at z1
  rw [HSF.out.2.2] at z36
  have z2' : w4.cell? ⟨g0, 2, none⟩ = some (.string ⟨#[97, 98]⟩) := by rw [z2, HSF.out.2.1]
  have hgl := HR3.out.lt
  clear z2
  go_wp2_with fail
  clear z1 z2' z36 hgl
  with_reducible refine (HWi.out _ _).mono ?_
  rintro e w5 ⟨gn, rfl, hgn, e5⟩
  have e5 := e5.symm
  subst e5
  go_wp2_with fail
  with_reducible refine (HWi.out _ _).mono ?_
  rintro e w5 ⟨bn, rfl, hbn, e5⟩
  have e5 := e5.symm
  subst e5
  have HGN : Hid (gn < 1000 ∧ bn < 1000) := ⟨hgn, hbn⟩
  clear hgn hbn
  by_cases ht : tx.length ≤ 500
  · obtain ⟨e1, e2, e3, e4⟩ := head_zero (gen := gn) (base := bn) (text := tx) (by have := HGN.out; omega) (by have := HGN.out; omega) ht
    have HF0 : Hid (frOk (headFr gn bn tx) = true) := e3
    have HH2 : Hid (∀ w, Calls Try.prog 9 #[.int .i64 gn, .int .i64 bn, .string text, .agg #[.int .i64 0, .int .i64 0, .int .i64 0, .int .i64 0, .int .i64 0, .int .i64 0, .int .i64 0, .int .i64 0, .int .i64 0, .int .i64 0, .int .i64 0, .int .i64 0, .int .i64 0, .int .i64 0, .int .i64 0, .int .i64 0]] w fun e w' => e = .returned (.tuple #[.string ⟨(rowL [headFr gn bn tx]).toArray⟩, .int .i64 0]) ∧ Below w.heap.size w w') := fun w => by
      have h := HHg.out gn bn w
      rw [e1, e2] at h
      exact h
    clear e1 e2 e3 e4
    go_wp2_with fail
    with_reducible refine (HH2.out _).mono ?_
    rintro e w5 ⟨rfl, hb5⟩
    have HB5 : Hid (Below w.heap.size w w5) := HB3.out.trans (hb5.mono HB3.out.size)
    have HP5 : Hid (RevsAt w5 w5.heap.size a l) := HP.out.here HB5.out (Nat.le_refl _)
    clear hb5
    obtain ⟨y, hy⟩ : ∃ y, checkE tx l = y := ⟨_, rfl⟩
    have HCk2 : Hid _ := HCk.out
    rw [hy] at HCk2
    have HY : Hid (checkE tx l = y) := hy
    clear hy
    go_wp2_with fail
    with_reducible refine (HCk2.out _ HP5.out).mono ?_
    rintro e w6 ⟨rfl, hb6⟩
    have HB6 : Hid (Below w.heap.size w w6) := HB5.out.trans (hb6.mono HB5.out.size)
    clear hb6
    by_cases hy0 : y = 0
    · subst hy0
      obtain ⟨q1, q2, q3⟩ := check_zero HY.out
      have HAll : Hid (∀ r ∈ l, oneE r = 0) := hist_all q3
      have HL64 : Hid (l.length ≤ 64) := q2
      have H8 : Hid (L8At (w6.alloc (.cells #[.int .i64 0, .int .i64 0, .int .i64 0, .int .i64 0, .int .i64 0, .int .i64 0, .int .i64 0, .int .i64 0] 45)) w6.heap.size (List.replicate 8 0)) := Deep.blk_alloc_new w6 _
      have HB7 : Hid (Below w.heap.size w (w6.alloc (.cells #[.int .i64 0, .int .i64 0, .int .i64 0, .int .i64 0, .int .i64 0, .int .i64 0, .int .i64 0, .int .i64 0] 45))) := HB6.out.alloc HB6.out.size _
      have hl64 : l.length ≤ 64 := q2
      clear q1 q2 q3
      go_upto_region 10 with fail
      generalize w6.alloc (.cells #[.int .i64 0, .int .i64 0, .int .i64 0, .int .i64 0, .int .i64 0, .int .i64 0, .int .i64 0, .int .i64 0] 45) = w7 at H8 HB7 ⊢
      obtain ⟨G, hG⟩ : ∃ G, w6.heap.size = G := ⟨_, rfl⟩
      have HGw : Hid (w.heap.size ≤ G) := by show _ ≤ _; rw [← hG]; exact HB6.out.size
      rw [hG] at H8 ⊢
      clear hG
      go_wp2_with fail
      go_loopw [13, 75] (fun sv i wr => ∃ (k : Nat) (t8 : List Int), k ≤ l.length ∧ i = .int .i64 k ∧ sv = .string ⟨(rowL (headFr gn bn tx :: (l.take k).map revFr)).toArray⟩ ∧ t8.length = 8 ∧ L8At wr G t8 ∧ (upsL t8 (l.drop k) → upsL (List.replicate 8 0) l) ∧ Below w.heap.size w wr) (fun _ i _ => l.length - (intOf i).toNat)
      case atStart => exact ⟨0, List.replicate 8 0, Nat.zero_le _, rfl, rfl, rfl, H8.out, fun h => h, HB7.out⟩
      case round =>
        rename World => wr
        obtain ⟨k, t8, hk, rfl, rfl, h8, hm8, hup, hb⟩ := hrel
        have HM8 : Hid (L8At wr G t8 ∧ t8.length = 8) := ⟨hm8, h8⟩
        have HUp : Hid (upsL t8 (l.drop k) → upsL (List.replicate 8 0) l) := hup
        have HB : Hid (Below w.heap.size w wr) := hb
        have HPr : Hid (RevsAt wr wr.heap.size a l) := HP.out.here hb (Nat.le_refl _)
        have hrl : (rowL (headFr gn bn tx :: (l.take k).map revFr)).length ≤ 4007 * (k + 1) := by
          rw [row_len]
          have h0 := fr_len HF0.out
          have h2 := row_small (l.take k) (fun x hx => HAll.out x (List.mem_of_mem_take hx))
          have hlen : (l.take k).length ≤ k := by rw [List.length_take]; omega
          show (headFr gn bn tx).t.length + 7 + rowN ((l.take k).map revFr) ≤ _
          omega
        have hsz : (⟨(rowL (headFr gn bn tx :: (l.take k).map revFr)).toArray⟩ : ByteArray).size ≤ 300000 := by
          show (rowL (headFr gn bn tx :: (l.take k).map revFr)).toArray.size ≤ _
          rw [List.size_toArray]
          omega
        clear hb hup hm8
        by_cases hlt : k < l.length
        · obtain ⟨r, hr⟩ : ∃ r, l[k]? = some r := ⟨l[k]'hlt, List.getElem?_eq_getElem _⟩
          obtain ⟨b, off, ai, ci, rfl, hbl, r0, r1, r2, hpr, -⟩ := HPr.out.mem hr
          have h1 := HAll.out r (List.mem_of_getElem? hr)
          obtain ⟨⟨o1, o2, o3, o4⟩, -⟩ := one_zero h1
          obtain ⟨kk, hkk⟩ : ∃ n : Nat, r.who = (n : Int) := ⟨r.who.toNat, by omega⟩
          have HKK : Hid (r.who = (kk : Int) ∧ kk ≤ 7) := ⟨hkk, by omega⟩
          have hdr : l.drop k = r :: l.drop (k + 1) := by
            obtain ⟨h1, h2⟩ := List.getElem?_eq_some_iff.1 hr
            rw [List.drop_eq_getElem_cons h1, h2]
          obtain ⟨x, hx⟩ : ∃ x, t8[kk]? = some x := ⟨_, List.getElem?_eq_getElem (by omega)⟩
          have HUp2 : Hid (x < r.seq → upsL (t8.set kk r.seq) (l.drop (k + 1)) → upsL (List.replicate 8 0) l) := fun h1 h2 => HUp.out (by
            rw [hdr]
            refine ⟨?_, ?_⟩
            · rw [hkk, Int.toNat_natCast, hx]; exact h1
            · rw [hkk, Int.toNat_natCast]; exact h2)
          obtain ⟨F, hF⟩ : ∃ F : ByteArray, (⟨(frameL 2 (revB r)).toArray⟩ : ByteArray) = F := ⟨_, rfl⟩
          have hFs : F.size ≤ 4007 := by
            rw [← hF]
            show (frameL 2 (revB r)).toArray.size ≤ _
            rw [List.size_toArray, frameL_len]
            have := rev_len h1
            omega
          obtain ⟨A, hA⟩ : ∃ A : ByteArray, (⟨(rowL (headFr gn bn tx :: (l.take k).map revFr)).toArray⟩ : ByteArray) = A := ⟨_, rfl⟩
          rw [hA] at hsz ⊢
          have HAF : Hid (A ++ F = ⟨(rowL (headFr gn bn tx :: (l.take (k + 1)).map revFr)).toArray⟩) := by
            show _ = _
            rw [row_next _ l k r hr, ← cat_text, hA, hF]
          have HRv : Hid (∀ w, PartsAt w w.heap.size ai r.d → Calls Try.prog 12 #[.agg #[.int .i64 (kk : Int), .int .i64 r.seq, .slice ai r.d.length ci]] w fun e w' => e = .returned (.tuple #[.string F, .int .i64 0]) ∧ Below w.heap.size w w') := fun w hp => by
            have h := HRev_any r ai ci w hp
            rw [(rvf_ok h1).1, (rvf_ok h1).2, hF, hkk] at h
            exact h
          have HPR : Hid (PartsAt wr wr.heap.size ai r.d) := hpr
          rw [hkk] at r0
          have HW1 : Hid (Below wr.heap.size wr (wr.alloc (.cells #[.int .i64 (kk : Int), .int .i64 r.seq, .slice ai r.d.length ci] 25))) := (Below.refl _ wr).alloc (Nat.le_refl _) _
          have HX1 : Hid (RBox (wr.alloc (.cells #[.int .i64 (kk : Int), .int .i64 r.seq, .slice ai r.d.length ci] 25)) wr.heap.size r ai ci) := by
            have h := rbox_new wr r ai ci
            rw [hkk] at h
            exact h
          have hki : (k : Int) < (l.length : Int) := by omega
          have hk0 : (0 : Int) ≤ (k : Int) := by omega
          have HXX : Hid (t8[kk]? = some x) := hx
          clear hkk hx hdr h1 o1 o2 o3 o4 hpr hF hA hr hrl
          go_upto_region 13 with fail
          generalize wr.alloc (.cells #[.int .i64 (kk : Int), .int .i64 r.seq, .slice ai r.d.length ci] 25) = w8 at HW1 HX1 ⊢
          clear r0 r1 r2 hbl
          have HPR8 : Hid (PartsAt w8 w8.heap.size ai r.d) := HPR.out.here HW1.out (Nat.le_refl _)
          have HM8' : Hid (L8At w8 G t8) := HM8.out.1.below HW1.out HM8.out.1.lt
          have HB8 : Hid (Below w.heap.size w w8) := HB.out.trans (HW1.out.mono HB.out.size)
          obtain ⟨h, hh⟩ : ∃ h, wr.heap.size = h := ⟨_, rfl⟩
          have HGh : Hid (G < h) := by show _ < _; rw [← hh]; exact HM8.out.1.lt
          rw [hh] at HX1 ⊢
          clear hh
          obtain ⟨r0, r1, r2, hhl⟩ := HX1.out
          rw [HKK.out.1] at r0
          go_wp2_with fail
          with_reducible refine (HRv.out _ HPR8.out).mono ?_
          rintro e w9 ⟨rfl, hb9⟩
          have HX9 : Hid (RBox w9 h r ai ci) := HX1.out.below hb9
          have HM9 : Hid (L8At w9 G t8) := HM8'.out.below hb9 HM8'.out.lt
          have HB9 : Hid (Below w.heap.size w w9) := HB8.out.trans (hb9.mono HB8.out.size)
          clear hb9 r0 r1 r2 hhl
          obtain ⟨r0, r1, r2, hhl⟩ := HX9.out
          rw [HKK.out.1] at r0
          obtain ⟨c8, f8⟩ := HM9.out.cell HXX.out
          have hgl9 := HM9.out.lt
          have i0 : (0 : Int) ≤ (kk : Int) := by omega
          have i1 : (kk : Int) < 8 := by have := HKK.out.2; omega
          by_cases hle : r.seq ≤ x
          · have hd : decide (r.seq ≤ x) = true := decide_eq_true hle
            go_wp2_with fail
            go_quiet (fail)
            go_wp2_with fail
            go_ret
            exact ⟨rfl, below_drewN HB9.out _⟩
          · have hd : decide (r.seq ≤ x) = false := decide_eq_false hle
            have HLT : Hid (x < r.seq) := by show _ < _; omega
            clear hle
            go_wp2_with fail
            go_quiet (fail)
            rename Nat => nq
            have hbq : Below w9.heap.size w9 (w9.drewN nq) := below_drewN (Below.refl _ w9) _
            have HX10 : Hid (RBox (w9.drewN nq) h r ai ci) := HX9.out.below hbq
            have HM10 : Hid (L8At (w9.drewN nq) G t8) := HM9.out.below hbq HM9.out.lt
            have HB10 : Hid (Below w.heap.size w (w9.drewN nq)) := HB9.out.trans (hbq.mono HB9.out.size)
            clear hbq r0 r1 r2 hhl c8 f8 hgl9
            generalize w9.drewN nq = w10 at HX10 HM10 HB10 ⊢
            obtain ⟨r0, r1, r2, hhl⟩ := HX10.out
            rw [HKK.out.1] at r0
            obtain ⟨c8, f8⟩ := HM10.out.cell HXX.out
            have hgl10 := HM10.out.lt
            go_wp2_with fail
            go_roundw
            case rel => exact ⟨k + 1, t8.set kk r.seq, by omega, by go_num, by rw [HAF.out], by rw [List.length_set]; exact HM8.out.2, HM10.out.put kk r.seq, HUp2.out HLT.out, HB10.out.setCell (p := ⟨G, kk, none⟩) HGw.out _⟩
            case measure => simp [intOf]; omega
        · have hki : ¬ (k : Int) < (l.length : Int) := by omega
          have hke : k = l.length := by omega
          have hu : upsL (List.replicate 8 0) l := HUp.out (by rw [hke, List.drop_length]; trivial)
          obtain ⟨b1, t, ht16, b2⟩ := back_read (gen := gn) (base := bn) (text := tx) (l := l) (by have := HGN.out; omega) (by have := HGN.out; omega) HY.out hu
          obtain ⟨N, hN⟩ : ∃ N, rowN (headFr gn bn tx :: (l.map revFr ++ [doneFr])) = N := ⟨_, rfl⟩
          rw [hN] at b2
          obtain ⟨A, hA⟩ : ∃ A : ByteArray, (⟨(rowL (headFr gn bn tx :: (l.take k).map revFr)).toArray⟩ : ByteArray) = A := ⟨_, rfl⟩
          rw [hA] at hsz ⊢
          obtain ⟨Z, hZ⟩ : ∃ Z : ByteArray, A ++ v = Z := ⟨_, rfl⟩
          have hZl : Z.data.toList = rowL (headFr gn bn tx :: (l.map revFr ++ [doneFr])) := by
            have e : headFr gn bn tx :: (l.map revFr ++ [doneFr]) = (headFr gn bn tx :: l.map revFr) ++ [doneFr] := rfl
            rw [← hZ, ← hA, hke, List.take_length, ByteArray.data_append, Array.toList_append, e, row_app, row_one doneFr, HV3.out]
            rfl
          have hZs : Z.size = N := by
            have h := congrArg List.length hZl
            rw [row_len, hN] at h
            exact (show Z.size = Z.data.toList.length from Array.length_toList.symm).trans h
          have hZ6 : Z.size ≤ 400000 := by rw [← hZ, ByteArray.size_append]; omega
          obtain ⟨S, hS⟩ : ∃ S : Lg, (⟨gn, bn, tx, zeroT, t, l, true, N⟩ : Lg) = S := ⟨_, rfl⟩
          rw [hS] at b2
          have HS : Hid ((S.gen = gn ∧ S.base = bn ∧ S.text = tx) ∧ S.revs = l ∧ S.whole = true ∧ S.good = N) := by show (_ ∧ _ ∧ _) ∧ _ ∧ _ ∧ _; rw [← hS]; exact ⟨⟨rfl, rfl, rfl⟩, rfl, rfl, rfl⟩
          have HST : Hid (S.first.length = 16 ∧ S.table.length = 16) := by show _ ∧ _; rw [← hS]; exact ⟨rfl, ht16⟩
          have HXr : Hid (∀ w, Calls Try.prog 16 #[.string Z] w fun e w' => ReadTo S 0 w e w') := fun w => by
            have h := Read_to Z w (by omega)
            rw [hZl, b1, b2] at h
            exact h
          have HZ : Hid (A ++ v = Z) := hZ
          clear hZl hZ hS b1 b2 hN hA hu hke ht16 hrl
          go_wp2_with fail
          with_reducible refine (HDn.out _).mono ?_
          rintro e w8 ⟨rfl, hb8⟩
          have HB8 : Hid (Below w.heap.size w w8) := HB.out.trans (hb8.mono HB.out.size)
          clear hb8
          go_wp2_with fail
          rw [HZ.out]
          with_reducible refine (HXr.out _).mono ?_
          rintro e w9 ⟨x, y, rfl, hr, hc, hb9⟩
          have HB9 : Hid (Below w.heap.size w (w9.alloc (.cells (rlC S x y).toArray 38))) := (HB8.out.trans (hb9.mono HB8.out.size)).alloc (HB8.out.trans (hb9.mono HB8.out.size)).size _
          have HR9 : Hid (RlAt (w9.alloc (.cells (rlC S x y).toArray 38)) w9.heap.size S x y) := rl_new hr hc HST.out.1 HST.out.2
          have HI9 : Hid _ := log_into (sC_len HST.out.1 HST.out.2) (rl_one S x y)
          clear hb9 hr hc
          go_upto_region 23 with (refine wpList_store_new rfl 38 _ _ rfl _ (rlC S x y).toArray (by rfl) (by rfl) HI9.out.1 (by exact HI9.out.2.1) HI9.out.2.2.1 ?_)
          generalize w9.alloc (.cells (rlC S x y).toArray 38) = w10 at HB9 HR9 ⊢
          obtain ⟨g, hg⟩ : ∃ g, w9.heap.size = g := ⟨_, rfl⟩
          rw [hg] at HR9 ⊢
          clear hg
          obtain ⟨z0, z1, z2, z35, z36, z37⟩ := HR9.out.cells
          have hRv := HR9.out.revs.1
          obtain ⟨⟨s1, s2, s3⟩, s4, s5, s6⟩ := HS.out
          rw [s1] at z0
          rw [s2] at z1
          rw [s3, HTX.out.2.1] at z2
          rw [s4] at z35 hRv
          rw [s5] at z36
          rw [s6] at z37
          have HRv9 : Hid (RevsAt w10 w10.heap.size x l) := hRv
          have HPl : Hid (RevsAt w10 w10.heap.size a l) := HP.out.here HB9.out (Nat.le_refl _)
          have HSR : Hid _ := fun w h1 h2 => SameRvs_yes x a l y c w h1 h2
          have hgl10 := HR9.out.lt
          clear s1 s2 s3 s4 s5 s6 hRv
          go_wp2_with fail
          with_reducible refine (HSR.out _ HRv9.out HPl.out).mono ?_
          rintro e w11 ⟨rfl, hb11⟩
          have HB11 : Hid (Below w.heap.size w w11) := HB9.out.trans (hb11.mono HB9.out.size)
          have y36 : w11.cell? ⟨g, 36, none⟩ = some (.bool true) := (hb11.cell (p := ⟨g, 36, none⟩) hgl10).trans z36
          have y37 : w11.cell? ⟨g, 37, none⟩ = some (.int .i64 N) := (hb11.cell (p := ⟨g, 37, none⟩) hgl10).trans z37
          clear hb11 z0 z1 z2 z35 z36 z37
          go_wp2_with fail
          go_ret
          exact ⟨rfl, HB11.out⟩
    · have hyb : (y != 0) = true := by simp [hy0]
      go_wp2_with fail
      go_ret
      exact ⟨rfl, HB6.out⟩
  · have e1 := head_long (gen := gn) (base := bn) (text := tx) (by have := HGN.out; omega) (by have := HGN.out; omega) (by omega)
    have HH2 : Hid (∀ w, Calls Try.prog 9 #[.int .i64 gn, .int .i64 bn, .string text, .agg #[.int .i64 0, .int .i64 0, .int .i64 0, .int .i64 0, .int .i64 0, .int .i64 0, .int .i64 0, .int .i64 0, .int .i64 0, .int .i64 0, .int .i64 0, .int .i64 0, .int .i64 0, .int .i64 0, .int .i64 0, .int .i64 0]] w fun e w' => e = .returned (.tuple #[.string ⟨(hdT ((gn : Int) :: (bn : Int) :: zeroT) tx).toArray⟩, .int .i64 2]) ∧ Below w.heap.size w w') := fun w => by
      have h := HHg.out gn bn w
      rw [e1] at h
      exact h
    clear e1 ht
    go_wp2_with fail
    with_reducible refine (HH2.out _).mono ?_
    rintro e w5 ⟨rfl, hb5⟩
    have HB5 : Hid (Below w.heap.size w w5) := HB3.out.trans (hb5.mono HB3.out.size)
    clear hb5
    go_wp2_with fail
    go_ret
    exact ⟨rfl, HB5.out⟩
end Go.Proofs.Ytkihanmodfnpcab
