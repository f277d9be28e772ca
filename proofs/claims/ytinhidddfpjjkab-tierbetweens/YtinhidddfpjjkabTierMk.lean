/- The program's Build: single revisions, two and two of them, and so on. -/
import Derived.Test.YtinhidddfpjjkabTierMem
import Derived.Test.YtinhidddfpjjkabCompL
import Derived.Test.YtinhidddfpjjkabRevOne
import Derived.Deep.RegionHeld3
namespace Go.Proofs.Ytinhidddfpjjkab
open Go.RowKit
set_option linter.unusedSimpArgs false
set_option linter.unusedVariables false

set_option maxHeartbeats 1000000 in
theorem copied_any (a : Option Addr) (d : List Pt) (c : Nat) (w : World) (hp : PartsAt w w.heap.size a d) (h : sizesE d = 0) :
    Calls Try.prog 58 #[.slice a d.length c] w fun e w' => ∃ a' c', e = .returned (.slice a' d.length c') ∧ ElOwn w' w.heap.size (d, a', c') ∧ Below w.heap.size w w' := by
  have HN : Hid (∀ w : World, PartsAt w w.heap.size a d → _) := fun w hp => NormO_any a d c w hp
  obtain ⟨n1, n2⟩ := norm_delta h
  rw [n1, n2] at HN
  have HP : Hid (PartsAt w w.heap.size a d) := hp
  have HS : Hid (sizesE d = 0) := h
  clear hp n1 n2 h
  go_enter Try.func58, Try.ntmps58
  go_wp2_with fail
  refine (HN.out _ HP.out).mono ?_
  rintro e w1 ⟨v, rfl, ho, hb⟩
  obtain ⟨a1, c1, rfl⟩ := slice_form' ho
  have HO : Hid (ElOwn w1 w.heap.size (d, a1, c1) ∧ Below w.heap.size w w1) := ⟨⟨HS.out, ho⟩, hb⟩
  clear ho hb
  go_wp2_with fail
  go_ret
  exact ⟨a1, c1, rfl, HO.out.1, HO.out.2⟩
/-- one delta more in a row -/
theorem row_grow {w w' : World} {B : Nat} {u v : Value} {xs : List El} {x : El} (h : RowOwn w B v xs) (hx : ElOwn w B x) (ho : w'.ownsRow B 33 1 u (xs.length + 1) (xs.map elV ++ [elV x])) (hg : (w.alloc (.cells #[elV x] 33)).grownBy w' v.ownBlock) : RowOwn w' B u (xs ++ [x]) := by
  have hr := own_alloc h.2 (.cells #[elV x] 33)
  have hel : ∀ y, ElOwn w B y → ElOwn w' B y := fun y hy => ElOwn.grown (e := 33) ⟨hy.1, own_alloc hy.2 _⟩ hr (by decide) hg
  refine ⟨fun y hy => ?_, by rw [List.length_append, List.map_append]; exact ho⟩
  rcases List.mem_append.1 hy with hy | hy
  · exact hel y (h.1 y hy)
  · obtain rfl : y = x := by simpa using hy
    exact hel y hx
set_option maxHeartbeats 4000000 in
theorem single_any (a : Option Addr) (l : List Rv) (cap : Nat) (w : World) (hl : RevsAt w w.heap.size a l) (h64 : l.length ≤ 64) (hd : ∀ r ∈ l, sizesE r.d = 0) :
    Calls Try.prog 30 #[.slice a l.length cap] w fun e w' => ∃ v xs, e = .returned v ∧ xs.map (·.1) = l.map (·.d) ∧ RowOwn w' w.heap.size v xs ∧ Sep xs ∧ Below w.heap.size w w' := by
  obtain ⟨ip, hip, hp0, hp1, hp2⟩ := info_parts infoSl1
  have HL : Hid (RevsAt w w.heap.size a l) := hl
  have HD : Hid (∀ r ∈ l, sizesE r.d = 0) := hd
  clear hl hd
  go_enter Try.func30, Try.ntmps30
  go_wp2_with fail
  go_loopw [3, 8] (fun v i wr => ∃ (k : Nat) (xs : List El), k ≤ l.length ∧ i = .int .i64 k ∧ xs.map (·.1) = (l.take k).map (·.d) ∧ RowOwn wr w.heap.size v xs ∧ Sep xs ∧ Below w.heap.size w wr) (fun _ i _ => l.length - (intOf i).toNat)
  case atStart => exact ⟨0, [], Nat.zero_le _, rfl, rfl, ⟨fun x hx => by simp at hx, World.ownsRow_nil _ _ _ _⟩, sep_nil, Below.refl _ _⟩
  case round =>
    rename World => wr
    obtain ⟨k, xs, hk, rfl, hxs, hown, hsep, hb⟩ := hrel
    have hlen : xs.length = k := by
      have := congrArg List.length hxs
      rw [List.length_map, List.length_map, List.length_take] at this
      omega
    obtain ⟨ao, ca, rfl⟩ := slice_form' hown.2
    have hz := hb.size
    have HB : Hid (Below w.heap.size w wr) := hb
    have HO : Hid (RowOwn wr w.heap.size (.slice ao xs.length ca) xs) := hown
    have HX : Hid (xs.map (·.1) = (l.take k).map (·.d) ∧ Sep xs ∧ xs.length = k) := ⟨hxs, hsep, hlen⟩
    clear hown hxs hsep
    by_cases hlt : k < l.length
    · obtain ⟨r, hr⟩ : ∃ r, l[k]? = some r := ⟨l[k], List.getElem?_eq_getElem hlt⟩
      have hki : (k : Int) < (l.length : Int) := by omega
      obtain ⟨g, og, ai, ci, e1, hg, c1, c2, c3, hp, hroom⟩ := (HL.out.here hb (Nat.le_refl _)).mem hr
      subst e1
      have hbx : Below wr.heap.size wr (wr.alloc (.cells #[.int .i64 r.who, .int .i64 r.seq, .slice ai r.d.length ci] 46)) := (Below.refl _ _).alloc (Nat.le_refl _) _
      have HP1 : Hid (PartsAt (wr.alloc (.cells #[.int .i64 r.who, .int .i64 r.seq, .slice ai r.d.length ci] 46)) (wr.alloc (.cells #[.int .i64 r.who, .int .i64 r.seq, .slice ai r.d.length ci] 46)).heap.size ai r.d) := hp.here hbx (Nat.le_refl _)
      have HB1 : Hid (Below w.heap.size w (wr.alloc (.cells #[.int .i64 r.who, .int .i64 r.seq, .slice ai r.d.length ci] 46))) := HB.out.alloc hz _
      have HO1 : Hid (RowOwn (wr.alloc (.cells #[.int .i64 r.who, .int .i64 r.seq, .slice ai r.d.length ci] 46)) w.heap.size (.slice ao xs.length ca) xs) := HO.out.below hbx
      have HR : Hid (l[k]? = some r) := hr
      have HSZ : Hid ((wr.alloc (.cells #[.int .i64 r.who, .int .i64 r.seq, .slice ai r.d.length ci] 46)).heap.size = wr.heap.size + 1) := Deep.nblk_alloc _ _
      have hxl : xs.length ≤ 64 := by omega
      clear hp hroom hbx hb hr hlen
      go_wp2_with fail
      refine (copied_any ai r.d ci _ HP1.out (HD.out r (List.mem_of_getElem? HR.out))).mono ?_
      rintro e w1 ⟨a1, c1', rfl, hel, hb1⟩
      have HB2 : Hid (Below w.heap.size w w1) := HB1.out.trans (hb1.mono HB1.out.size)
      have HO2 : Hid (RowOwn w1 w.heap.size (.slice ao xs.length ca) xs) := HO1.out.below hb1
      have hle : w.heap.size ≤ (wr.alloc (.cells #[.int .i64 r.who, .int .i64 r.seq, .slice ai r.d.length ci] 46)).heap.size := HB1.out.size
      have HE2 : Hid (ElOwn w1 w.heap.size (r.d, a1, c1')) := hel.base hle
      have HS2 : Hid (Sep (xs ++ [(r.d, a1, c1')])) := by
        refine sep_app HX.out.2.1 (sep_one _) HO.out.1 (N := wr.heap.size) (Nat.le_refl _) (fun y hy h hh => ?_)
        obtain rfl : y = (r.d, a1, c1') := by simpa using hy
        have h5 := (hel.2.lt h hh).1
        have h6 := HSZ.out
        omega
      have hz2 := HB2.out.size
      have hA := own_alloc HO2.out.2 (.cells #[elV (r.d, a1, c1')] 33)
      clear hel hb1 hle
      go_wp2_with (at_builtin; refine wpList_append_own _ rfl _ _ 40 rfl w.heap.size 33 ip _ 1 24 Try.underlying40 hip hp0 hp1 hp2 rfl (by decide) _ _ _ rfl hA ⟨w1.heap.size, 0, none⟩ 1 1 [elV (r.d, a1, c1')] rfl rfl (cell_one_new _ _ _) (by simp [Value.oneCell', elV]) ?c3 ?c4 ?c5 ?_)
      case c3 => unfold maxLen; omega
      case c4 => omega
      case c5 => first | omega | (simp; omega)
      intro v' w3 hown2 hgrow _
      have HB4 : Hid (Below w.heap.size w w3) := below_own' (HB2.out.alloc hz2 _) hA hgrow (by simp; omega)
      have HO3 : Hid (RowOwn w3 w.heap.size v' (xs ++ [(r.d, a1, c1')])) := row_grow HO2.out HE2.out hown2 hgrow
      have HX3 : Hid ((xs ++ [(r.d, a1, c1')]).map (·.1) = (l.take (k + 1)).map (·.d)) := by
        show _ = _
        rw [List.map_append, HX.out.1, List.take_add_one, HR.out, List.map_append]; rfl
      clear hown2 hgrow hA
      go_wp2_with fail
      go_roundw
      case rel => exact ⟨k + 1, xs ++ [(r.d, a1, c1')], by omega, by go_num, HX3.out, HO3.out, HS2.out, HB4.out⟩
      case measure => simp [intOf]; omega
    · have hki : ¬ (k : Int) < (l.length : Int) := by omega
      have HX2 : Hid (xs.map (·.1) = l.map (·.d)) := by
        show _ = _
        rw [HX.out.1, List.take_of_length_le (by omega)]
      clear hb hlen
      go_wp2_with fail
      go_ret
      first | exact ⟨_, xs, rfl, HX2.out, HO.out, HX.out.2.1, HB.out⟩ | exact ⟨_, rfl, xs, HX2.out, HO.out, HX.out.2.1, HB.out⟩

set_option maxHeartbeats 4000000 in
theorem paired_any (a : Option Addr) (X : List (List Pt)) (cap : Nat) (w : World) (hv : RowAt w w.heap.size a X cap) (h64 : X.length ≤ 64)
    (hf : ∀ m x y, X[2 * m]? = some x → X[2 * m + 1]? = some y → compE x y = 0 ∧ sizesE (compR x y) = 0) :
    Calls Try.prog 31 #[.slice a X.length cap] w fun e w' => ∃ v xs, e = .returned v ∧ xs.map (·.1) = pairL X ∧ RowOwn w' w.heap.size v xs ∧ Sep xs ∧ Below w.heap.size w w' := by
  obtain ⟨ip, hip, hp0, hp1, hp2⟩ := info_parts infoSl1
  have HV : Hid (RowAt w w.heap.size a X cap) := hv
  have HF : Hid (∀ m x y, X[2 * m]? = some x → X[2 * m + 1]? = some y → compE x y = 0 ∧ sizesE (compR x y) = 0) := hf
  have HPL : Hid ((pairL X).length = X.length / 2) := pair_len _ _ (Nat.le_refl _)
  clear hv hf
  go_enter Try.func31, Try.ntmps31
  go_wp2_with fail
  go_loopw [3, 4] (fun v i wr => ∃ (m : Nat) (xs : List El), m ≤ X.length / 2 ∧ i = .int .i64 ((2 * m + 1 : Nat) : Int) ∧ xs.map (·.1) = (pairL X).take m ∧ RowOwn wr w.heap.size v xs ∧ Sep xs ∧ Below w.heap.size w wr) (fun _ i _ => X.length + 2 - (intOf i).toNat)
  case atStart => exact ⟨0, [], Nat.zero_le _, rfl, rfl, ⟨fun x hx => by simp at hx, World.ownsRow_nil _ _ _ _⟩, sep_nil, Below.refl _ _⟩
  case round =>
    rename World => wr
    obtain ⟨m, xs, hm, rfl, hxs, hown, hsep, hb⟩ := hrel
    have hlen : xs.length = m := by
      have := congrArg List.length hxs
      rw [List.length_map, List.length_take, HPL.out] at this
      omega
    obtain ⟨ao, ca, rfl⟩ := slice_form' hown.2
    have hz := hb.size
    have HB : Hid (Below w.heap.size w wr) := hb
    have HO : Hid (RowOwn wr w.heap.size (.slice ao xs.length ca) xs) := hown
    have HX : Hid (xs.map (·.1) = (pairL X).take m ∧ Sep xs ∧ xs.length = m) := ⟨hxs, hsep, hlen⟩
    clear hown hxs hsep
    obtain ⟨i, hi⟩ : ∃ i, 2 * m + 1 = i := ⟨_, rfl⟩
    have HI : Hid (i = 2 * m + 1) := hi.symm
    rw [hi]
    by_cases hlt : 2 * m + 1 < X.length
    · obtain ⟨x, hx⟩ : ∃ x, X[2 * m]? = some x := ⟨X[2 * m], List.getElem?_eq_getElem (by omega)⟩
      obtain ⟨y, hy⟩ : ∃ y, X[2 * m + 1]? = some y := ⟨X[2 * m + 1], List.getElem?_eq_getElem hlt⟩
      obtain ⟨j, hj⟩ : ∃ j, 2 * m = j := ⟨_, rfl⟩
      have hvr := HV.out.here hb (Nat.le_refl _)
      obtain ⟨g, og, ax, cx, e1, hg, x1, x2, x3⟩ := hvr.mem hx
      obtain ⟨g', og', ay, cy, e2, _, y1, y2, y3⟩ := hvr.mem hy
      subst e1
      simp only [Option.some.injEq, Addr.mk.injEq, and_true] at e2
      obtain ⟨rfl, rfl⟩ := e2
      rw [hi] at y1
      rw [hj] at x1
      obtain ⟨f1, f2⟩ := HF.out m x y hx hy
      have HPX : Hid (PartsAt wr wr.heap.size ax x) := x2
      have HPY : Hid (PartsAt wr wr.heap.size ay y) := y2
      have hcx := x3.1
      have HCO : Hid (∀ w : World, PartsAt w w.heap.size ax x → PartsAt w w.heap.size ay y → _) := fun w h1 h2 => CompO_any ax ay x y cx cy w h1 h2 hcx
      rw [f1] at HCO
      have HS : Hid (sizesE (compR x y) = 0 ∧ (pairL X).take (m + 1) = (pairL X).take m ++ [compR x y]) := ⟨f2, by rw [List.take_add_one, pair_at m X x y hx hy]; rfl⟩
      obtain ⟨z, hz'⟩ : ∃ z, compR x y = z := ⟨_, rfl⟩
      rw [hz'] at HCO HS
      have hii : ((i : Nat) : Int) < (X.length : Int) := by omega
      have hjj : ((j : Nat) : Int) < (X.length : Int) := by omega
      have hij2 : IntKind.i64.wrap ((i : Int) - 1) = (j : Int) := by rw [show (i : Int) - 1 = (j : Int) by omega]; exact IntWalk.i64_in (j : Int) ⟨by omega, by omega⟩
      have hi0 : (0 : Int) ≤ (i : Int) := by omega
      have hj0 : (0 : Int) ≤ (j : Int) := by omega
      have hxl : xs.length ≤ 64 := by omega
      have hi66 : (i : Int) ≤ 66 := by omega
      clear hvr hx hy x2 x3 y2 y3 f1 f2 hz' hcx hb hj hlen hi
      go_wp2_with fail
      go_region_held3 (fun w' => w'.cell? ⟨g, og + j, none⟩ = some (.slice ax x.length cx) ∧ w'.cell? ⟨g, og + i, none⟩ = some (.slice ay y.length cy)) (first | go_keep | exact held2 (w := wr.drew) x1 y1 hb1 hg hg) (first | (go_at_call 40; refine (HCO.out _ (HPX.out.here (Below.refl _ _).drew (Nat.le_refl _)) (HPY.out.here (Below.refl _ _).drew (Nat.le_refl _))).mono ?_; rintro e w1 ⟨v1, rfl, ho1, hb1⟩))
      obtain ⟨a1, c1, rfl⟩ := slice_form' ho1
      have hbd : Below wr.heap.size wr w1 := ((Below.refl _ wr).drew).trans hb1
      have HB2 : Hid (Below w.heap.size w w1) := HB.out.trans (hbd.mono hz)
      have HO2 : Hid (RowOwn w1 w.heap.size (.slice ao xs.length ca) xs) := HO.out.below hbd
      have hel : ElOwn w1 wr.heap.size (z, a1, c1) := ⟨HS.out.1, ho1⟩
      have HE2 : Hid (ElOwn w1 w.heap.size (z, a1, c1)) := hel.base hz
      have HS2 : Hid (Sep (xs ++ [(z, a1, c1)])) := by
        refine sep_app HX.out.2.1 (sep_one _) HO.out.1 (N := wr.heap.size) (Nat.le_refl _) (fun y hy h hh => ?_)
        obtain rfl : y = (z, a1, c1) := by simpa using hy
        exact (hel.2.lt h hh).1
      have hz2 := HB2.out.size
      have hA := own_alloc HO2.out.2 (.cells #[elV (z, a1, c1)] 33)
      clear hel hb1 hbd ho1 x1 y1 hij2
      go_wp2_with (at_builtin; refine wpList_append_own _ rfl _ _ 40 rfl w.heap.size 33 ip _ 1 24 Try.underlying40 hip hp0 hp1 hp2 rfl (by decide) _ _ _ rfl hA ⟨w1.heap.size, 0, none⟩ 1 1 [elV (z, a1, c1)] rfl rfl (cell_one_new _ _ _) (by simp [Value.oneCell', elV]) ?c3 ?c4 ?c5 ?_)
      case c3 => unfold maxLen; omega
      case c4 => omega
      case c5 => first | omega | (simp; omega)
      intro v' w3 hown2 hgrow _
      have HB4 : Hid (Below w.heap.size w w3) := below_own' (HB2.out.alloc hz2 _) hA hgrow (by simp; omega)
      have HO3 : Hid (RowOwn w3 w.heap.size v' (xs ++ [(z, a1, c1)])) := row_grow HO2.out HE2.out hown2 hgrow
      have HX3 : Hid ((xs ++ [(z, a1, c1)]).map (·.1) = (pairL X).take (m + 1)) := by
        show _ = _
        rw [HS.out.2, List.map_append, HX.out.1]; rfl
      clear hown2 hgrow hA
      go_wp2_with fail
      have hi := HI.out
      go_roundw
      case rel => exact ⟨m + 1, xs ++ [(z, a1, c1)], by omega, by rw [show ((2 * (m + 1) + 1 : Nat) : Int) = (i : Int) + 2 by omega], HX3.out, HO3.out, HS2.out, HB4.out⟩
      case measure => simp [intOf]; omega
    · have hki : ¬ (i : Int) < (X.length : Int) := by omega
      have HX2 : Hid (xs.map (·.1) = pairL X) := by
        show _ = _
        rw [HX.out.1, List.take_of_length_le (by rw [HPL.out]; omega)]
      clear hb hlen hi
      go_wp2_with fail
      go_ret
      first | exact ⟨_, xs, rfl, HX2.out, HO.out, HX.out.2.1, HB.out⟩ | exact ⟨_, rfl, xs, HX2.out, HO.out, HX.out.2.1, HB.out⟩

/-- the levels that are made -/
theorem lv_end {n v : Nat} (h : n ≤ 64) (hv : v ≤ lvN n) (h0 : n / 2 ^ v = 0) : lvN n = v := by
  have hp : 0 < 2 ^ v := Nat.two_pow_pos v
  have h1 : n < 2 ^ v := by rw [Nat.div_eq_zero_iff] at h0; omega
  have h7 : lvN n ≤ 7 := by
    rw [lvN]
    exact Nat.le_trans (List.length_filter_le _ _) (by simp)
  rcases Nat.lt_or_ge v (lvN n) with h2 | h2
  · have := (lvN_iff h (by omega)).1 h2; omega
  · omega
theorem lv_more {n v : Nat} (h : n ≤ 64) (hv : v ≤ lvN n) (h0 : 0 < n / 2 ^ v) : v + 1 ≤ lvN n := by
  have hp : 0 < 2 ^ v := Nat.two_pow_pos v
  have h1 : 2 ^ v ≤ n := by
    rcases Nat.lt_or_ge n (2 ^ v) with h2 | h2
    · rw [Nat.div_eq_of_lt h2] at h0; omega
    · exact h2
  have h7 : v ≤ 6 := by
    rcases Nat.lt_or_ge v 7 with h2 | h2
    · omega
    · have : 2 ^ 7 ≤ 2 ^ v := Nat.pow_le_pow_right (by omega) h2
      omega
  exact (lvN_iff h h7).2 h1
/-- one row more -/
theorem tiers_grow {w w' : World} {B : Nat} {u v : Value} {rs : List Tr} {r : Tr} (h : TiersOwn w B v rs) (hr : RowOwn w B (trV r) r.1) (ho : w'.ownsRow B 40 1 u (rs.length + 1) (rs.map trV ++ [trV r])) (hg : (w.alloc (.cells #[trV r] 40)).grownBy w' v.ownBlock) : TiersOwn w' B u (rs ++ [r]) := by
  have hb : Below w.heap.size w (w.alloc (.cells #[trV r] 40)) := (Below.refl _ _).alloc (Nat.le_refl _) _
  have hv := own_alloc h.2 (.cells #[trV r] 40)
  have hel : ∀ y : Tr, RowOwn w B (trV y) y.1 → RowOwn w' B (trV y) y.1 := fun y hy => RowOwn.grown (e := 40) (hy.below hb) hv (by decide) (by decide) hg
  refine ⟨fun y hy => ?_, by rw [List.length_append, List.map_append]; exact ho⟩
  rcases List.mem_append.1 hy with hy | hy
  · exact hel y (h.1 y hy)
  · obtain rfl : y = r := by simpa using hy
    exact hel y hr
/-- all deltas of tiers -/
def allEl (rs : List Tr) : List El := rs.flatMap (·.1)
theorem allEl_app (rs : List Tr) (r : Tr) : allEl (rs ++ [r]) = allEl rs ++ r.1 := by simp [allEl]
theorem allEl_own {w : World} {B : Nat} {v : Value} {rs : List Tr} (h : TiersOwn w B v rs) : ∀ x ∈ allEl rs, ElOwn w B x := by
  intro x hx
  obtain ⟨r, hr, hx⟩ := List.mem_flatMap.1 hx
  exact (h.1 r hr).1 x hx
/-- how many there are -/
def rowN : Value → Nat
  | .slice _ n _ => n
  | _ => 0
set_option maxHeartbeats 4000000 in
theorem Build_ok (s : ByteArray) (a : Option Addr) (l : List Rv) (cap : Nat) (w : World) (hl : RevsAt w w.heap.size a l) (h0 : checkE s.data.toList l = 0) :
    Calls Try.prog 8 #[.string s, .slice a l.length cap] w fun e w' => ∃ v rs, e = .returned (.tuple #[v, .int .i64 0]) ∧ rs.map (fun r : Tr => r.1.map (·.1)) = tiersL s.data.toList l ∧ TiersOwn w' w.heap.size v rs ∧ Sep (allEl rs) ∧ Below w.heap.size w w' := by
  obtain ⟨ip, hip, hp0, hp1, hp2⟩ := info_parts infoSl2
  obtain ⟨z1, z2, z3⟩ := check_zero h0
  have hsl : s.data.toList.length = s.size := Array.length_toList
  have hC : Hid (∀ w : World, RevsAt w w.heap.size a l → _) := fun w hl => RevCheck_any s a l cap w hl (by omega)
  rw [h0] at hC
  have HL : Hid (RevsAt w w.heap.size a l) := hl
  have H0 : Hid (checkE s.data.toList l = 0) := h0
  have HD : Hid (∀ r ∈ l, sizesE r.d = 0) := fun r hr => by
    obtain ⟨i, hi⟩ := List.getElem?_of_mem hr
    exact (hist_at z3 hi).2.1
  clear hl h0 z1 z3 hsl
  go_enter Try.func8, Try.ntmps8
  go_wp2_with fail
  refine (hC.out _ HL.out).mono ?_
  rintro e w1 ⟨rfl, hb1⟩
  have HB1 : Hid (Below w.heap.size w w1) := hb1
  have HL1 : Hid (RevsAt w1 w1.heap.size a l) := HL.out.here hb1 (Nat.le_refl _)
  have hz1 := hb1.size
  clear hb1
  go_wp2_with fail
  refine (single_any a l cap _ HL1.out z2 HD.out).mono ?_
  rintro e w2 ⟨v2, xs, rfl, hxs, hown, hsep, hb2⟩
  have HB2 : Hid (Below w.heap.size w w2) := HB1.out.trans (hb2.mono hz1)
  have HX2 : Hid (xs.map (·.1) = tierRow s.data.toList l 0) := hxs.trans (tier_zero H0.out).symm
  have HO2 : Hid (RowOwn w2 w.heap.size v2 xs ∧ Sep xs ∧ ∀ x ∈ xs, ∀ h, (elV x).ownBlock = some h → w.heap.size ≤ h) := ⟨hown.base hz1, hsep, fun x hx h hh => by have := ((hown.1 x hx).2.lt h hh).1; omega⟩
  clear hxs hown hsep hb2
  go_wp2_with fail
  go_loopw [7, 8] (fun tv rv wr => ∃ (v : Nat) (rs : List Tr) (xs : List El), v ≤ lvN l.length ∧ rs.map (fun r : Tr => r.1.map (·.1)) = (List.range v).map (tierRow s.data.toList l) ∧ TiersOwn wr w.heap.size tv rs ∧ xs.map (·.1) = tierRow s.data.toList l v ∧ RowOwn wr w.heap.size rv xs ∧ Sep (allEl rs ++ xs) ∧ Below w.heap.size w wr) (fun _ rv _ => rowN rv)
  case atStart => exact ⟨0, [], xs, Nat.zero_le _, rfl, ⟨fun r hr => by simp at hr, World.ownsRow_nil _ _ _ _⟩, HX2.out, HO2.out.1, HO2.out.2.1, HB2.out⟩
  case round =>
    rename World => wr
    obtain ⟨v, rs, xs, hv, hrs, hto, hxs, hro, hsep, hb⟩ := hrel
    obtain ⟨at_, ct, rfl⟩ := slice_form' hto.2
    obtain ⟨ar, cr, rfl, hra, _⟩ := row_own hro
    have hrl : rs.length = v := by
      have := congrArg List.length hrs
      rw [List.length_map, List.length_map, List.length_range] at this
      exact this
    have hxl : xs.length = l.length / 2 ^ v := by
      have := congrArg List.length hxs
      rw [List.length_map, tier_len] at this
      exact this
    have hz := hb.size
    have HB : Hid (Below w.heap.size w wr) := hb
    have HTO : Hid (TiersOwn wr w.heap.size (.slice at_ rs.length ct) rs) := hto
    have HRO : Hid (RowOwn wr w.heap.size (.slice ar xs.length cr) xs) := hro
    have HX : Hid (rs.map (fun r : Tr => r.1.map (·.1)) = (List.range v).map (tierRow s.data.toList l) ∧ xs.map (·.1) = tierRow s.data.toList l v ∧ Sep (allEl rs ++ xs) ∧ xs.length = l.length / 2 ^ v) := ⟨hrs, hxs, hsep, hxl⟩
    have hv7 : lvN l.length ≤ 7 := by
      rw [lvN]
      exact Nat.le_trans (List.length_filter_le _ _) (by simp)
    have hxl64 : xs.length ≤ 64 := by rw [hxl]; exact Nat.le_trans (Nat.div_le_self _ _) z2
    clear hrs hto hxs hro hsep hb hra hxl
    by_cases hlt : 0 < xs.length
    · have hli : (0 : Int) < (xs.length : Int) := by omega
      have hA := own_alloc HTO.out.2 (.cells #[trV (xs, ar, cr)] 40)
      have hr7 : rs.length ≤ 7 := by omega
      have HV1 : Hid (v + 1 ≤ lvN l.length) := lv_more z2 hv (by have := HX.out.2.2.2; omega)
      clear hrl
      go_wp2_with (at_builtin; refine wpList_append_own _ rfl _ _ 23 rfl w.heap.size 40 ip _ 1 24 Try.underlying23 hip hp0 hp1 hp2 rfl (by decide) _ _ _ rfl hA ⟨wr.heap.size, 0, none⟩ 1 1 [trV (xs, ar, cr)] rfl rfl (cell_one_new _ _ _) (by simp [Value.oneCell', trV]) ?c3 ?c4 ?c5 ?_)
      case c3 => unfold maxLen; omega
      case c4 => omega
      case c5 => first | omega | (simp; omega)
      intro v' w3 hown2 hgrow _
      have HB3 : Hid (Below w.heap.size w w3) := below_own' (HB.out.alloc hz _) hA hgrow (by simp; omega)
      have HT3 : Hid (TiersOwn w3 w.heap.size v' (rs ++ [(xs, ar, cr)])) := tiers_grow HTO.out HRO.out hown2 hgrow
      have hz3 := HB3.out.size
      obtain ⟨ar', cr', e3, hra3, _⟩ := row_own (HT3.out.1 (xs, ar, cr) (by simp))
      simp only [trV, Value.slice.injEq, true_and] at e3
      obtain ⟨rfl, rfl⟩ := e3
      rw [HX.out.2.1] at hra3
      have HRA : Hid (RowAt w3 w3.heap.size ar (tierRow s.data.toList l v) cr) := hra3
      have htl : (tierRow s.data.toList l v).length = xs.length := by rw [← HX.out.2.1, List.length_map]
      have HPA : Hid (∀ w : World, RowAt w w.heap.size ar (tierRow s.data.toList l v) cr → _) := fun w h => paired_any ar (tierRow s.data.toList l v) cr w h (by omega) (fun m x y hx hy => tier_fits H0.out hx hy)
      rw [htl, tier_next H0.out] at HPA
      clear hown2 hgrow hA hra3 htl
      go_wp2_with fail
      refine (HPA.out _ HRA.out).mono ?_
      rintro e w4 ⟨v4, ys, rfl, hys, hro4, hsep4, hb4⟩
      have HB4 : Hid (Below w.heap.size w w4) := HB3.out.trans (hb4.mono hz3)
      have HT4 : Hid (TiersOwn w4 w.heap.size v' (rs ++ [(xs, ar, cr)])) := HT3.out.below hb4
      have HR4 : Hid (RowOwn w4 w.heap.size v4 ys ∧ ys.map (·.1) = tierRow s.data.toList l (v + 1)) := ⟨hro4.base hz3, hys⟩
      have HS4 : Hid (Sep (allEl (rs ++ [(xs, ar, cr)]) ++ ys)) := by
        refine sep_app (by rw [allEl_app]; exact HX.out.2.2.1) hsep4 (allEl_own HT3.out) (N := w3.heap.size) (Nat.le_refl _) (fun y hy h hh => ((hro4.1 y hy).2.lt h hh).1)
      have hyl : ys.length = l.length / 2 ^ (v + 1) := by
        have := congrArg List.length hys
        rw [List.length_map, tier_len] at this
        exact this
      obtain ⟨a4, c4, e4⟩ := slice_form' hro4.2
      subst e4
      have HM : Hid (ys.length < xs.length) := by
        show _ < _
        rw [hyl, tier_half, ← HX.out.2.2.2]; omega
      clear hb4 hro4 hsep4 hys hyl
      go_wp2_with fail
      go_roundw
      case rel =>
        refine ⟨v + 1, rs ++ [(xs, ar, cr)], ys, HV1.out, ?_, HT4.out, HR4.out.2, HR4.out.1, HS4.out, HB4.out⟩
        rw [List.map_append, HX.out.1, List.range_succ, List.map_append, List.map_cons, List.map_nil, List.map_cons, List.map_nil, HX.out.2.1]
      case measure => simpa [rowN] using HM.out
    · have hli : ¬ (0 : Int) < (xs.length : Int) := by omega
      have HE : Hid (lvN l.length = v) := lv_end z2 hv (by have := HX.out.2.2.2; omega)
      have HX3 : Hid (rs.map (fun r : Tr => r.1.map (·.1)) = tiersL s.data.toList l) := by
        show _ = _
        rw [HX.out.1, tiersL, HE.out]
      have HS3 : Hid (Sep (allEl rs)) := by
        have h := HX.out.2.2.1
        have hx0 : xs = [] := List.length_eq_zero_iff.1 (by omega)
        rw [hx0, List.append_nil] at h
        exact h
      clear hrl
      go_wp2_with fail
      go_ret2
      first | exact ⟨_, rs, rfl, HX3.out, HTO.out, HS3.out, HB.out⟩ | exact ⟨_, rfl, rs, HX3.out, HTO.out, HS3.out, HB.out⟩
set_option maxHeartbeats 1000000 in
theorem Build_not (s : ByteArray) (a : Option Addr) (l : List Rv) (cap : Nat) (w : World) (hl : RevsAt w w.heap.size a l) (hs : s.size ≤ 9223372036854775807) (h0 : checkE s.data.toList l ≠ 0) :
    Calls Try.prog 8 #[.string s, .slice a l.length cap] w fun e w' => e = .returned (.tuple #[.slice none 0 0, .int .i64 (checkE s.data.toList l)]) ∧ Below w.heap.size w w' := by
  have hC : Hid (∀ w : World, RevsAt w w.heap.size a l → _) := fun w hl => RevCheck_any s a l cap w hl hs
  obtain ⟨E, hE⟩ : ∃ E, checkE s.data.toList l = E := ⟨_, rfl⟩
  rw [hE] at hC h0 ⊢
  have h0' : (E != 0) = true := by simp [h0]
  have HL : Hid (RevsAt w w.heap.size a l) := hl
  clear hl hE h0
  go_enter Try.func8, Try.ntmps8
  go_wp2_with fail
  refine (hC.out _ HL.out).mono ?_
  rintro e w1 ⟨rfl, hb1⟩
  have HB1 : Hid (Below w.heap.size w w1) := hb1
  clear hb1
  go_wp2_with fail
  go_ret2
  exact ⟨rfl, HB1.out⟩
end Go.Proofs.Ytinhidddfpjjkab
