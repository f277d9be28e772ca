/- What blame.after and blame.Of answer. -/
import Derived.Test.YtcghojnmnmmpoaaRevL
import Derived.Test.YtcghojnmnmmpoaaNats
import Derived.Test.YtcghojnmnmmpoaaRevOne
import Derived.Test.YtcghojnmnmmpoaaGMem
namespace Go.Proofs.Ytcghojnmnmmpoaa
open Go.RowKit
set_option linter.unusedSimpArgs false
set_option linter.unusedVariables false

theorem inI_next {l : List Pt} {i : Nat} {p : Pt} (h : l[i]? = some p) : inI (l.drop i) = p.n + inI (l.drop (i + 1)) := by
  rw [drop_cons h]; rfl
theorem pbox_cells {w : World} {g : Nat} {p : Pt} (h : w.heap[g]? = some (.cells #[.int .i64 p.k, .int .i64 p.n, .string p.t] 45 (0, 0))) :
    w.cell? ⟨g, 0, none⟩ = some (.int .i64 p.k) ∧ w.cell? ⟨g, 1, none⟩ = some (.int .i64 p.n) ∧ w.cell? ⟨g, 2, none⟩ = some (.string p.t) ∧ g < w.heap.size :=
  ⟨Lib.cell_of_heap h 0, Lib.cell_of_heap h 1, Lib.cell_of_heap h 2, lt_of_heap h⟩

set_option maxRecDepth 20000 in
set_option maxHeartbeats 4000000 in
theorem after_any (a : Option Addr) (d : List Pt) (cd : Nat) (b : Option Addr) (x : List Nat) (cx n : Nat) (w : World) (hp : PartsAt w w.heap.size a d) (hz : sizesE d = 0) (hx : NatsAt w w.heap.size b x cx) (hxl : (x.length : Int) = inI d) :
    Calls Try.prog 70 #[.slice a d.length cd, .slice b x.length cx, .int .i64 (n : Int)] w fun e w' => ∃ a' c', e = .returned (.slice a' (blW (wordL d) x n).length c') ∧ NatsAt w' w'.heap.size a' (blW (wordL d) x n) c' ∧ Below w.heap.size w w' := by
  obtain ⟨ip, hip, hp0, hp1, hp2⟩ := info_parts infoInt
  have hsm := (sizes_zero hz).1
  have hrt := sizes_right hz
  have hl := hsm.1
  rw [← after_word hrt]
  have HP : Hid (PartsAt w w.heap.size a d) := hp
  have HX : Hid (NatsAt w w.heap.size b x cx ∧ (x.length : Int) = inI d) := ⟨hx, hxl⟩
  have HSM : Hid (Small d) := hsm
  have HRT : Hid (Right d) := hrt
  clear hp hx hxl hz hsm hrt
  go_enter Try.func70, Try.ntmps70
  go_wp2_with fail
  go_loopw [1, 7, 12] (fun u v i wr => ∃ (k : Nat) (b' : Option Addr) (y : List Nat) (cy : Nat) (ao : Option Addr) (acc : List Nat) (ca : Nat), k ≤ d.length ∧ i = .int .i64 k ∧ u = .slice b' y.length cy ∧ NatsAt w w.heap.size b' y cy ∧ v = .slice ao acc.length ca ∧ wr.ownsRow w.heap.size 3 1 (.slice ao acc.length ca) acc.length (acc.map intV) ∧ Below w.heap.size w wr ∧ acc ++ afterL (d.drop k) y n = afterL d x n ∧ (y.length : Int) = inI (d.drop k) ∧ acc.length ≤ 1000 * k) (fun _ _ i _ => d.length - (intOf i).toNat)
  case atStart => exact ⟨0, b, x, cx, none, [], 0, Nat.zero_le _, rfl, rfl, HX.out.1, rfl, World.ownsRow_nil _ _ _ _, Below.refl _ _, rfl, HX.out.2, by simp⟩
  case round =>
    rename World => wo
    obtain ⟨k, b', y, cy, ao, acc, ca, hk, rfl, rfl, hy, rfl, hown, hb, htot, hyl, hacc⟩ := hrel
    have hz := hb.size
    by_cases hlt : k < d.length
    · obtain ⟨p, hpk⟩ : ∃ p, d[k]? = some p := ⟨d[k], List.getElem?_eq_getElem hlt⟩
      have hki : (k : Int) < (d.length : Int) := by omega
      have hpm := List.mem_of_getElem? hpk
      obtain ⟨hpb1, hpb2, hpb3⟩ := HSM.out.2 p hpm
      have hpr := HRT.out p hpm
      have hin1 := inI_next hpk
      have hge : 0 ≤ inI (d.drop (k + 1)) := (inI_bd (fun q hq => HSM.out.2 q (List.mem_of_mem_drop hq))).1
      obtain ⟨gb, off, e0, hblt, c1, c2, c3⟩ := (HP.out.below hb (Nat.le_refl _)).mem hpk
      subst e0
      have hbw : gb < wo.heap.size := by omega
      obtain ⟨m, hm⟩ : ∃ m : Nat, p.n = m := ⟨p.n.toNat, by omega⟩
      have hmy : m ≤ y.length := by omega
      have hto := nrun_to hy hmy p.n hm
      obtain ⟨z, a2, hz2, hyz, hfrom⟩ := nrun_from hy hmy p.n hm
      have HZ : Hid (NatsAt w w.heap.size a2 z (cy - m) ∧ (z.length : Int) = inI (d.drop (k + 1))) := ⟨hyz, by rw [hz2, List.length_drop]; omega⟩
      have HTOT : Hid (acc ++ ((if p.k = 1 then y.take m else if p.k = 2 then List.replicate p.t.size n else []) ++ afterL (d.drop (k + 1)) z n) = afterL d x n) := by
        show _ = _
        rw [← htot, drop_cons hpk, afterL, hz2, hm]; rfl
      have hm5 : m ≤ 500 := by omega
      have HM : Hid (p.n = m) := hm
      have HB : Hid (Below w.heap.size w wo) := hb
      have hbox0 : (wo.alloc (.cells #[.int .i64 p.k, .int .i64 p.n, .string p.t] 45)).heap[wo.heap.size]? = some (.cells #[.int .i64 p.k, .int .i64 p.n, .string p.t] 45 (0, 0)) := Deep.blk_alloc_new _ _
      rcases hpr with ⟨hk1 | hk2 | hk3, hpr2, hpr3⟩
      · have q1 : (p.k == 1) = true := by simp [hk1]
        have hmp : 0 < m := by have := (hpr3.1 (by omega)).2; have := HM.out; omega
        obtain ⟨q, hq⟩ : ∃ q, y[0]? = some q := ⟨y[0]'(by omega), List.getElem?_eq_getElem _⟩
        obtain ⟨g, og, e1, hg, _⟩ := hy.mem hq
        subst e1
        have hAs := own_alloc hown (.cells #[.int .i64 p.k, .int .i64 p.n, .string p.t] 45)
        have hcs := ((hy.below hb (Nat.le_refl _)).below ((Below.refl wo.heap.size wo).alloc (Nat.le_refl _) (.cells #[.int .i64 p.k, .int .i64 p.n, .string p.t] 45)) hz).cells m
        have hne : (Value.slice ao acc.length ca).ownBlock ≠ some wo.heap.size := own_ne' hAs hbox0 (by decide)
        have HK : Hid (p.k = 1) := hk1
        have hml : ((y.take m).map intV).length = m * 1 := by simp; omega
        clear hk1 hpr2 hpr3 hpk hpm hb htot hown hyl hin1 hq hy hyz hz2 hm
        go_wp2_with (at_builtin; refine wpList_append_own _ rfl _ _ 57 rfl w.heap.size 3 ip _ 1 8 Try.underlying57 hip hp0 hp1 hp2 rfl (by decide) _ _ _ rfl hAs ⟨g, og, none⟩ m cy ((y.take m).map intV) rfl hml hcs (nat_cells_one _) ?c3 ?c4 ?c5 ?_)
        case c3 => unfold maxLen; omega
        case c4 => omega
        case c5 => first | omega | (simp; omega)
        intro v' w2 hown2 hgrow _
        have hbox : w2.heap[wo.heap.size]? = some (.cells #[.int .i64 p.k, .int .i64 p.n, .string p.t] 45 (0, 0)) := (hgrow.block wo.heap.size (by simp) (fun e => hne e.symm)).trans hbox0
        obtain ⟨x0, x1, x2, x3⟩ := pbox_cells hbox
        obtain ⟨bo, cb2, rfl⟩ := slice_form hown2
        have HB2 : Hid (Below w.heap.size w w2) := below_own (HB.out.alloc hz _) hAs hgrow (by simp; omega)
        obtain ⟨acc2, ha2⟩ : ∃ a2, acc ++ y.take m = a2 := ⟨_, rfl⟩
        have hl2 : acc.length + m = acc2.length := by rw [← ha2, List.length_append, List.length_take]; omega
        have HO2 : Hid (w2.ownsRow w.heap.size 3 1 (.slice bo acc2.length cb2) acc2.length (acc2.map intV)) := by
          show w2.ownsRow _ _ _ _ _ _
          rw [← hl2, ← ha2, List.map_append, List.map_take]; exact hown2
        have HA2 : Hid (acc2 ++ afterL (d.drop (k + 1)) z n = afterL d x n) := by
          show _ = _
          have h := HTOT.out
          rw [if_pos HK.out, ← List.append_assoc, ha2] at h
          exact h
        have hl3 : acc2.length ≤ 1000 * (k + 1) := by omega
        rw [hl2]
        clear hown2 hgrow hAs hne ha2 hl2 hcs hml
        go_wp2_with fail
        go_roundw
        case rel => exact ⟨k + 1, a2, z, cy - m, bo, acc2, cb2, by omega, by go_num, rfl, HZ.out.1, rfl, HO2.out, HB2.out, HA2.out, HZ.out.2, hl3⟩
        case measure => simp [intOf]; omega
      · have q1 : (p.k == 1) = false := by simp [hk2]
        have q2 : (p.k == 2) = true := by simp [hk2]
        have HK : Hid (p.k = 2) := hk2
        have HO1 : Hid _ := own_alloc hown (.cells #[.int .i64 p.k, .int .i64 p.n, .string p.t] 45)
        have HB1 : Hid (Below w.heap.size w (wo.alloc (.cells #[.int .i64 p.k, .int .i64 p.n, .string p.t] 45))) := hb.alloc hz _
        have HBX : Hid _ := hbox0
        clear hk2 hpr2 hpr3 hpk hpm hb htot hown hyl hin1 hy hyz hz2 hbox0 hm
        go_wp2_with fail
        go_loopw [7, 31] (fun v i wr => ∃ (j : Nat) (accj : List Nat) (ao' : Option Addr) (ca' : Nat), j ≤ p.t.size ∧ i = .int .i64 j ∧ v = .slice ao' accj.length ca' ∧ accj = acc ++ List.replicate j n ∧ wr.ownsRow w.heap.size 3 1 (.slice ao' accj.length ca') accj.length (accj.map intV) ∧ wr.heap[wo.heap.size]? = some (.cells #[.int .i64 p.k, .int .i64 p.n, .string p.t] 45 (0, 0)) ∧ Below w.heap.size w wr) (fun _ i _ => p.t.size - (intOf i).toNat)
        case atStart => exact ⟨0, acc, ao, ca, Nat.zero_le _, rfl, rfl, by simp, HO1.out, HBX.out, HB1.out⟩
        case round =>
          rename World => wi
          obtain ⟨j, accj, ao', ca', hj, rfl, rfl, haj, hown, hbox, hb⟩ := hrel
          have hzi := hb.size
          have hlj : accj.length ≤ acc.length + j := by rw [haj]; simp
          by_cases hjt : j < p.t.size
          · have hji : (j : Int) < (p.t.size : Int) := by omega
            have hAs := own_alloc hown (.cells #[.int .i64 (n : Int)] 3)
            have hNew : (wi.alloc (.cells #[.int .i64 (n : Int)] 3)).heap[wi.heap.size]? = some (.cells #[.int .i64 (n : Int)] 3 (0, 0)) := Deep.blk_alloc_new _ _
            have hbox2 : (wi.alloc (.cells #[.int .i64 (n : Int)] 3)).heap[wo.heap.size]? = some (.cells #[.int .i64 p.k, .int .i64 p.n, .string p.t] 45 (0, 0)) := (Deep.blk_alloc_lt _ _ _ (lt_of_heap hbox)).trans hbox
            have hne : (Value.slice ao' accj.length ca').ownBlock ≠ some wo.heap.size := own_ne' hAs hbox2 (by decide)
            have HB3 : Hid (Below w.heap.size w wi) := hb
            have hbz := lt_of_heap hbox
            have HAJ : Hid _ := haj
            clear hb hown hbox haj
            go_wp2_with (at_builtin; refine wpList_append_own _ rfl _ _ 57 rfl w.heap.size 3 ip _ 1 8 Try.underlying57 hip hp0 hp1 hp2 rfl (by decide) _ _ _ rfl hAs ⟨wi.heap.size, 0, none⟩ 1 1 [.int .i64 (n : Int)] rfl rfl (World.news_of_block (cs := #[.int .i64 (n : Int)]) (t := 3) (fr := (0, 0)) hNew) (by simp [Value.oneCell']) ?c6 ?c7 ?c8 ?_)
            case c6 => unfold maxLen; omega
            case c7 => omega
            case c8 => first | omega | (simp; omega)
            intro v' w2 hown2 hgrow _
            have HBX2 : Hid _ := (hgrow.block wo.heap.size (by simp; omega) (fun e => hne e.symm)).trans hbox2
            obtain ⟨bo, cb2, rfl⟩ := slice_form hown2
            have HB4 : Hid (Below w.heap.size w w2) := below_own (HB3.out.alloc hzi _) hAs hgrow (by simp; omega)
            obtain ⟨acc2, ha2⟩ : ∃ a2, accj ++ [n] = a2 := ⟨_, rfl⟩
            have hl2 : accj.length + 1 = acc2.length := by rw [← ha2, List.length_append]; rfl
            have HO2 : Hid (w2.ownsRow w.heap.size 3 1 (.slice bo acc2.length cb2) acc2.length (acc2.map intV)) := by
              show w2.ownsRow _ _ _ _ _ _
              rw [← hl2, ← ha2, List.map_append]; exact hown2
            have HA2 : Hid (acc2 = acc ++ List.replicate (j + 1) n) := by
              show _ = _
              rw [← ha2, HAJ.out, List.replicate_succ', List.append_assoc]
            rw [hl2]
            clear hown2 hgrow hAs hne ha2 hl2 hbox2 hNew
            go_wp2_with fail
            go_roundw
            case rel => exact ⟨j + 1, acc2, bo, cb2, by omega, by go_num, rfl, HA2.out, HO2.out, HBX2.out, HB4.out⟩
            case measure => simp [intOf]; omega
          · have hji : ¬ (j : Int) < (p.t.size : Int) := by omega
            obtain ⟨x0, x1, x2, x3⟩ := pbox_cells hbox
            have HA2 : Hid (accj ++ afterL (d.drop (k + 1)) z n = afterL d x n) := by
              show _ = _
              have h := HTOT.out
              rw [if_neg (by rw [HK.out]; decide), if_pos HK.out, ← List.append_assoc, show p.t.size = j by omega, ← haj] at h
              exact h
            have HO2 : Hid _ := hown
            have HB4 : Hid _ := hb
            have hl3 : accj.length ≤ 1000 * (k + 1) := by omega
            clear hown hb haj hbox
            go_wp2_with fail
            go_roundw
            case rel => exact ⟨k + 1, a2, z, cy - m, ao', accj, ca', by omega, by go_num, rfl, HZ.out.1, rfl, HO2.out, HB4.out, HA2.out, HZ.out.2, hl3⟩
            case measure => simp [intOf]; omega
      · have q1 : (p.k == 1) = false := by simp [hk3]
        have q2 : (p.k == 2) = false := by simp [hk3]
        have HK : Hid (p.k = 3) := hk3
        have HO1 : Hid _ := own_alloc hown (.cells #[.int .i64 p.k, .int .i64 p.n, .string p.t] 45)
        have HB1 : Hid (Below w.heap.size w (wo.alloc (.cells #[.int .i64 p.k, .int .i64 p.n, .string p.t] 45))) := hb.alloc hz _
        have HA2 : Hid (acc ++ afterL (d.drop (k + 1)) z n = afterL d x n) := by
          show _ = _
          have h := HTOT.out
          rw [if_neg (by rw [HK.out]; decide), if_neg (by rw [HK.out]; decide), List.nil_append] at h
          exact h
        have hl3 : acc.length ≤ 1000 * (k + 1) := by omega
        clear hk3 hpr2 hpr3 hpk hpm hb htot hown hyl hin1 hy hyz hz2 hbox0 hm
        go_wp2_with fail
        go_roundw
        case rel => exact ⟨k + 1, a2, z, cy - m, ao, acc, ca, by omega, by go_num, rfl, HZ.out.1, rfl, HO1.out, HB1.out, HA2.out, HZ.out.2, hl3⟩
        case measure => simp [intOf]; omega
    · have hki : ¬ (k : Int) < (d.length : Int) := by omega
      have HF : Hid (acc = afterL d x n) := by
        show _ = _
        rw [← htot, List.drop_eq_nil_of_le (by omega), afterL, List.append_nil]
      have HO : Hid _ := hown
      have HB : Hid (Below w.heap.size w wo) := hb
      clear htot hown hb hyl hy
      go_wp2_with fail
      go_ret
      rw [← HF.out]
      obtain ⟨a', c', e, hn⟩ := nats_own HO.out
      simp only [Value.slice.injEq, true_and] at e
      obtain ⟨rfl, rfl⟩ := e
      first | exact ⟨ao, ca, rfl, hn, HB.out⟩ | exact ⟨ao, ⟨ca, rfl⟩, hn, HB.out⟩

theorem made_nats {w w1 : World} {n : Nat} (h : w1.ownsRow w.heap.size 3 1 (.slice (some ⟨w.heap.size, 0, none⟩) n n) n ((List.replicate n 0).map intV)) : NatsAt w1 w1.heap.size (some ⟨w.heap.size, 0, none⟩) (List.replicate n 0) n := by
  obtain ⟨a, c, e, h1⟩ := nats_own (x := List.replicate n 0) (v := .slice (some ⟨w.heap.size, 0, none⟩) n n) (by rw [List.length_replicate]; exact h)
  simp only [Value.slice.injEq, List.length_replicate, true_and] at e
  obtain ⟨rfl, rfl⟩ := e
  exact h1

set_option maxRecDepth 20000 in
set_option maxHeartbeats 4000000 in
theorem BlameOf_ok (s : ByteArray) (a : Option Addr) (l : List Rv) (cap : Nat) (w : World) (hl : RevsAt w w.heap.size a l) (h0 : checkE s.data.toList l = 0) :
    Calls Try.prog 33 #[.string s, .slice a l.length cap] w fun e w' => ∃ a' c', e = .returned (.tuple #[.slice a' (blameL (List.replicate s.size 0) l 1).length c', .int .i64 0]) ∧ NatsAt w' w'.heap.size a' (blameL (List.replicate s.size 0) l 1) c' ∧ Below w.heap.size w w' := by
  obtain ⟨ip, hip, hp0, hp1, hp2⟩ := info_parts infoInt
  have hsl : s.data.toList.length = s.size := Array.length_toList
  have hll := hl.1
  obtain ⟨z1, z2, z3⟩ := check_zero h0
  have HC : Hid _ := fun w hh hs => RevCheck_any s a l cap w hh hs
  rw [h0] at HC
  have hs5 : s.size ≤ 500 := by omega
  have HAT : Hid (∀ k, k ≤ l.length → (blameL (List.replicate s.size 0) (l.take k) 1).length = (textAt s.data.toList l k).length) := by
    intro k hk
    have h := blame_at z3 hk
    rw [hsl] at h
    exact h
  have HL : Hid (RevsAt w w.heap.size a l) := hl
  have HH : Hid (histE s.data.toList l = 0) := z3
  have hbb : ip.bytes * s.size ≤ 281474976710656 := by rw [hp2]; omega
  obtain ⟨x0, hx0⟩ : ∃ x0, List.replicate s.size 0 = x0 := ⟨_, rfl⟩
  have HL0 : Hid (List.replicate s.size 0 = x0 ∧ s.size = x0.length) := ⟨hx0, by rw [← hx0]; simp⟩
  rw [hx0] at HAT ⊢
  clear hl h0 z1 z3 hsl hx0
  go_enter Try.func33, Try.ntmps33
  go_wp2_with fail
  refine (HC.out _ HL.out (by omega)).mono ?_
  rintro e w1 ⟨rfl, hb1⟩
  have HB1 : Hid (Below w.heap.size w w1) := hb1
  clear hb1
  go_wp2_with (at_make; refine wpList_make_full _ rfl _ _ 57 rfl w1.heap.size 3 ip _ 1 Try.underlying57 hip hp0 hp1 .i64 .i64 _ _ s.size rfl rfl ?m1 ?m2 hbb ?m3 (Nat.le_refl _) ?_)
  case m1 => go_num
  case m2 => go_num
  case m3 => unfold maxLen; omega
  intro w2 hown hgrow
  have HB2 : Hid (Below w.heap.size w w2) := HB1.out.trans (((Below.refl _ _).grown hgrow (Nat.le_refl _) (fun k hk => by simp at hk)).mono HB1.out.size)
  have HN2 : Hid (NatsAt w2 w2.heap.size (some ⟨w1.heap.size, 0, none⟩) (List.replicate s.size 0) s.size) := by
    refine made_nats ?_
    rw [← made_ints]
    simpa [Value.cells] using hown
  have HN3 : Hid (NatsAt w2 w2.heap.size (some ⟨w1.heap.size, 0, none⟩) x0 s.size) := by rw [← HL0.out.1]; exact HN2.out
  clear hown hgrow HN2
  go_wp2_with fail
  go_loopw [7, 21] (fun v i wr => ∃ (k : Nat) (a' : Option Addr) (c' : Nat) (x : List Nat), k ≤ l.length ∧ i = .int .i64 k ∧ v = .slice a' x.length c' ∧ NatsAt wr wr.heap.size a' x c' ∧ x = blameL x0 (l.take k) 1 ∧ Below w.heap.size w wr) (fun _ i _ => l.length - (intOf i).toNat)
  case atStart => exact ⟨0, _, s.size, x0, Nat.zero_le _, rfl, by rw [← HL0.out.2], HN3.out, rfl, HB2.out⟩
  case round =>
    obtain ⟨k, a', c', x, hk, rfl, rfl, hx, hxe, hb⟩ := hrel
    have hz := hb.size
    by_cases hlt : k < l.length
    · obtain ⟨r, hrk⟩ : ∃ r, l[k]? = some r := ⟨l[k], List.getElem?_eq_getElem hlt⟩
      have hki : (k : Int) < (l.length : Int) := by omega
      obtain ⟨b, off, ai, ci, e0, hblt, c1, c2, c3, hpd, hrm⟩ := (HL.out.below hb (Nat.le_refl _)).mem hrk
      subst e0
      have hbw : b < wr.heap.size := by omega
      obtain ⟨q1, q2, q3, q4⟩ := hist_at HH.out hrk
      have hxl : (x.length : Int) = inI r.d := by rw [q3, hxe, HAT.out k hk]
      have HA : Hid _ := fun w hp hx => after_any ai r.d ci a' x c' (k + 1) w hp q2 hx hxl
      obtain ⟨y, hy⟩ : ∃ y, blW (wordL r.d) x (k + 1) = y := ⟨_, rfl⟩
      rw [hy] at HA
      have HY : Hid (y = blameL x0 (l.take (k + 1)) 1) := by
        show _ = _
        rw [blame_step (s := []) hrk, ← hxe, hy]
      have HB : Hid (Below w.heap.size w (wr.alloc (.cells #[.int .i64 r.who, .int .i64 r.seq, .slice ai r.d.length ci] 27))) := hb.alloc hz _
      have HD : Hid (PartsAt (wr.alloc (.cells #[.int .i64 r.who, .int .i64 r.seq, .slice ai r.d.length ci] 27)) (wr.alloc (.cells #[.int .i64 r.who, .int .i64 r.seq, .slice ai r.d.length ci] 27)).heap.size ai r.d) := hpd.here ((Below.refl _ wr).alloc (Nat.le_refl _) _) hz
      have HX : Hid (NatsAt (wr.alloc (.cells #[.int .i64 r.who, .int .i64 r.seq, .slice ai r.d.length ci] 27)) (wr.alloc (.cells #[.int .i64 r.who, .int .i64 r.seq, .slice ai r.d.length ci] 27)).heap.size a' x c') := hx.here ((Below.refl _ wr).alloc (Nat.le_refl _) _) (Nat.le_refl _)
      clear hb hpd hrm hrk q1 q2 q3 q4 hxl hy hx hxe
      go_wp2_with fail
      rw [show (k : Int) + 1 = ((k + 1 : Nat) : Int) by omega]
      refine (HA.out _ HD.out HX.out).mono ?_
      rintro e w3 ⟨a3, c3', rfl, hn3, hb3⟩
      have HB3 : Hid (Below w.heap.size w w3) := HB.out.trans (hb3.mono (by simp; omega))
      have HN : Hid _ := hn3
      clear hb3 hn3
      go_wp2_with fail
      go_roundw
      case rel => exact ⟨k + 1, a3, c3', y, by omega, by go_num, rfl, HN.out, HY.out, HB3.out⟩
      case measure => simp [intOf]; omega
    · have hki : ¬ (k : Int) < (l.length : Int) := by omega
      have HF : Hid (x = blameL x0 l 1) := by show _ = _; rw [hxe, List.take_of_length_le (by omega)]
      have HX : Hid _ := hx
      have HB : Hid (Below w.heap.size w wr) := hb
      clear hx hxe hb
      go_wp2_with fail
      go_ret2
      rw [← HF.out]
      first | exact ⟨a', c', rfl, HX.out, HB.out⟩ | exact ⟨a', ⟨c', rfl⟩, HX.out, HB.out⟩

set_option maxHeartbeats 2000000 in
/-- of what is no history -/
theorem BlameOf_not (s : ByteArray) (a : Option Addr) (l : List Rv) (cap : Nat) (w : World) (hl : RevsAt w w.heap.size a l) (hs : s.size ≤ 9223372036854775807) (h0 : checkE s.data.toList l ≠ 0) :
    Calls Try.prog 33 #[.string s, .slice a l.length cap] w fun e w' => e = .returned (.tuple #[.slice none 0 0, .int .i64 (checkE s.data.toList l)]) ∧ Below w.heap.size w w' := by
  have HL : Hid (RevsAt w w.heap.size a l) := hl
  have hq : (checkE s.data.toList l != 0) = true := by simp [h0]
  clear hl h0
  go_enter Try.func33, Try.ntmps33
  go_wp2_with fail
  refine (RevCheck_any s a l cap _ HL.out hs).mono ?_
  rintro e w1 ⟨rfl, hb1⟩
  go_wp2_with fail
  go_ret2
  exact ⟨rfl, hb1⟩
end Go.Proofs.Ytcghojnmnmmpoaa
