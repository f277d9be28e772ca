/- The law BlameEach, walked: it answers true. -/
import Derived.Test.YtjfeaedjifpahaaBlameOf
import Derived.Test.YtjfeaedjifpahaaBlameQ
import Derived.Test.YtjfeaedjifpahaaRevText
import Derived.Test.YtjfeaedjifpahaaRevLit
import Derived.Test.YtjfeaedjifpahaaRowKit2
namespace Go.Proofs.Ytjfeaedjifpahaa
open Go.RowKit
set_option linter.unusedSimpArgs false
set_option linter.unusedVariables false

def litD : List Pt := [⟨2, 0, ⟨#[98]⟩⟩, ⟨1, 1, ByteArray.empty⟩]
theorem litD_bound : Bound litD := ⟨by decide, by intro p hp; simp [litD] at hp; rcases hp with rfl | rfl <;> decide⟩
/-- the history that the law begins with, laid -/
def litW (w : World) : World := (w.alloc (.cells #[.int .i64 2, .int .i64 0, .string ⟨#[98]⟩, .int .i64 1, .int .i64 1, .string ⟨#[]⟩] 53)).alloc (.cells #[.int .i64 0, .int .i64 0, .slice (some ⟨w.heap.size, 0, none⟩) 2 2] 25)
theorem litW_below (w : World) : Below w.heap.size w (litW w) := ((Below.refl _ w).alloc (Nat.le_refl _) _).alloc (by simp) _
theorem litW_size (w : World) : (litW w).heap.size = w.heap.size + 2 := by
  unfold litW
  rw [Deep.nblk_alloc, Deep.nblk_alloc]
theorem BlameLit (w : World) : Calls Try.prog 17 #[.string ⟨#[97]⟩, .slice (some ⟨w.heap.size + 1, 0, none⟩) 1 1] (litW w) fun e w' => ∃ a' c', e = .returned (.tuple #[.slice a' 2 c', .int .i64 0]) ∧ NatsAt w' w'.heap.size a' [1, 0] c' ∧ Below w.heap.size w w' := by
  have h1 : PartsAt (w.alloc (.cells #[.int .i64 2, .int .i64 0, .string ⟨#[98]⟩, .int .i64 1, .int .i64 1, .string ⟨#[]⟩] 53)) (w.alloc (.cells #[.int .i64 2, .int .i64 0, .string ⟨#[98]⟩, .int .i64 1, .int .i64 1, .string ⟨#[]⟩] 53)).heap.size (some ⟨w.heap.size, 0, none⟩) litD := by
    have h := parts_lit w litD litD_bound
    rw [show (w.alloc (.cells #[.int .i64 2, .int .i64 0, .string ⟨#[98]⟩, .int .i64 1, .int .i64 1, .string ⟨#[]⟩] 53)).heap.size = w.heap.size + 1 from Deep.nblk_alloc _ _]
    exact h
  have h2 := revs_one (w.alloc (.cells #[.int .i64 2, .int .i64 0, .string ⟨#[98]⟩, .int .i64 1, .int .i64 1, .string ⟨#[]⟩] 53)) ⟨0, 0, litD⟩ ⟨⟨by decide, by decide⟩, ⟨by decide, by decide⟩⟩ (some ⟨w.heap.size, 0, none⟩) 2 h1 ⟨by decide, fun e => by cases e⟩
  rw [show (w.alloc (.cells #[.int .i64 2, .int .i64 0, .string ⟨#[98]⟩, .int .i64 1, .int .i64 1, .string ⟨#[]⟩] 53)).heap.size = w.heap.size + 1 from Deep.nblk_alloc _ _] at h2
  have h3 := BlameOf_ok ⟨#[97]⟩ (some ⟨w.heap.size + 1, 0, none⟩) [⟨0, 0, litD⟩] 1 (litW w) h2 (by decide)
  refine Calls.mono h3 ?_
  rintro e w' ⟨a', c', rfl, hn, hb⟩
  exact ⟨a', c', rfl, hn, (litW_below w).trans (hb.mono (litW_below w).size)⟩

set_option maxRecDepth 20000 in
set_option maxHeartbeats 8000000 in
theorem BlameEach_any (s : ByteArray) (a : Option Addr) (l : List Rv) (cap : Nat) (w : World) (hl : RevsAt w w.heap.size a l) (hc : l.length ≤ cap) (hs : s.size ≤ 9223372036854775807) :
    Calls Try.prog 7 #[.string s, .slice a l.length cap] w fun e w' => e = .returned (.bool true) ∧ Below w.heap.size w w' := by
  obtain ⟨ip, hip, hp0, hp1, hp2⟩ := info_parts infoInt
  have hll := hl.1
  have hsl : s.data.toList.length = s.size := Array.length_toList
  have HL : Hid (RevsAt w w.heap.size a l) := hl
  have HSL : Hid (s.data.toList.length = s.size) := hsl
  clear hl hsl
  go_enter Try.func7, Try.ntmps7
  go_wp2_with fail
  refine Calls.mono (BlameLit w) ?_
  rintro e w1 ⟨a1, c1, rfl, hn1, hb1⟩
  have HB1 : Hid (Below w.heap.size w w1) := hb1
  have HN1 : Hid (NatsAt w1 w1.heap.size a1 [1, 0] c1) := hn1
  have hz1 := hb1.size
  have HEQ : Hid _ := fun w (h1 : NatsAt w w.heap.size a1 [1, 0] c1) (h2 : NatsAt w w.heap.size (some ⟨w1.heap.size, 0, none⟩) [1, 0] 2) => (show Calls Try.prog 18 #[.slice a1 2 c1, .slice (some ⟨w1.heap.size, 0, none⟩) 2 2] w _ from EqNats_yes a1 (some ⟨w1.heap.size, 0, none⟩) [1, 0] c1 2 w h1 h2)
  have HNL : Hid (NatsAt (w1.alloc (.cells #[.int .i64 1, .int .i64 0] 3)) (w1.alloc (.cells #[.int .i64 1, .int .i64 0] 3)).heap.size (some ⟨w1.heap.size, 0, none⟩) [1, 0] 2) := by
    have h := World.ownsRow_lit (base := w1.heap.size) (e := 3) (size := 1) w1 #[.int .i64 1, .int .i64 0] 2 (Nat.le_refl _) (by decide) rfl
    obtain ⟨a', c', e, h1⟩ := nats_own (x := [1, 0]) h
    simp only [Value.slice.injEq] at e
    obtain ⟨rfl, _, rfl⟩ := e
    exact h1
  have HN2 : Hid (NatsAt (w1.alloc (.cells #[.int .i64 1, .int .i64 0] 3)) (w1.alloc (.cells #[.int .i64 1, .int .i64 0] 3)).heap.size a1 [1, 0] c1) := hn1.here ((Below.refl _ w1).alloc (Nat.le_refl _) _) (Nat.le_refl _)
  have HB2 : Hid (Below w.heap.size w (w1.alloc (.cells #[.int .i64 1, .int .i64 0] 3))) := hb1.alloc hz1 _
  clear hb1 hn1
  go_wp2_with fail
  refine Calls.mono (HEQ.out _ HN2.out HNL.out) ?_
  rintro e w2 ⟨rfl, hb2⟩
  have HB3 : Hid (Below w.heap.size w w2) := HB2.out.trans (hb2.mono HB2.out.size)
  clear hb2
  by_cases h0 : checkE s.data.toList l = 0
  · obtain ⟨z1, z2, z3⟩ := check_zero h0
    have hs5 : s.size ≤ 500 := by have := HSL.out; omega
    have HBO : Hid _ := fun w hh => BlameOf_ok s a l cap w hh h0
    have HTX : Hid _ := fun w hh => Text_ok s a l cap l.length w hh hc h0 (Nat.le_refl _)
    have HXL : Hid ((blameL (List.replicate s.size 0) l 1).length = (textAt s.data.toList l l.length).length) := by
      have h := blame_at z3 (Nat.le_refl l.length)
      rw [List.take_of_length_le (Nat.le_refl _), HSL.out] at h
      exact h
    have HT5 : Hid ((textAt s.data.toList l l.length).length ≤ 500) := text_le z3 z1 _
    have HLE : Hid (∀ q ∈ blameL (List.replicate s.size 0) l 1, q ≤ l.length) := fun q hq => each_le hq
    have HE0 : Hid ((blameL (List.replicate s.size 0) l 1).count 0 ≤ s.size) := each_zero l s.size
    have HE1 : Hid (∀ (i : Nat) (r : Rv), l[i]? = some r → Small r.d ∧ (blameL (List.replicate s.size 0) l 1).count (i + 1) ≤ putsI r.d ∧ (i + 1 = l.length → (blameL (List.replicate s.size 0) l 1).count (i + 1) = putsI r.d)) := fun i r hi =>
      ⟨(sizes_zero (hist_at z3 hi).2.1).1, each_puts z3 hi _ (fun n hn => by have := (List.mem_replicate.1 hn).2; omega)⟩
    obtain ⟨x, hx⟩ : ∃ x, blameL (List.replicate s.size 0) l 1 = x := ⟨_, rfl⟩
    rw [hx] at HBO HXL HLE HE0 HE1
    obtain ⟨t, ht⟩ : ∃ t : ByteArray, (⟨(textAt s.data.toList l l.length).toArray⟩ : ByteArray) = t := ⟨_, rfl⟩
    rw [ht] at HTX
    have hxt : (x.length : Int) = (t.size : Int) := by rw [HXL.out, ← ht]; rfl
    have hne : ((x.length : Int) != (t.size : Int)) = false := by simp [hxt]
    have hx5 : x.length ≤ 500 := by rw [HXL.out]; exact HT5.out
    have hbb : ip.bytes * (l.length + 1) ≤ 281474976710656 := by rw [hp2]; omega
    clear h0 z1 z3 hx ht hxt
    go_wp2_with fail
    refine (HBO.out _ (HL.out.here HB3.out (Nat.le_refl _))).mono ?_
    rintro e w4 ⟨a4, c4, rfl, hn4, hb4⟩
    have HB4 : Hid (Below w.heap.size w w4) := HB3.out.trans (hb4.mono HB3.out.size)
    have HN4 : Hid (NatsAt w4 w4.heap.size a4 x c4) := hn4
    clear hb4 hn4
    go_wp2_with fail
    refine (HTX.out _ (HL.out.here HB4.out (Nat.le_refl _))).mono ?_
    rintro e w5 ⟨rfl, hb5⟩
    have HB5 : Hid (Below w.heap.size w w5) := HB4.out.trans (hb5.mono HB4.out.size)
    have HN5 : Hid (NatsAt w5 w5.heap.size a4 x c4) := HN4.out.here hb5 (Nat.le_refl _)
    have hz5 := HB5.out.size
    clear hb5
    go_wp2_with (at_make; refine wpList_make_full _ rfl _ _ 40 rfl w5.heap.size 3 ip _ 1 Try.underlying40 hip hp0 hp1 .i64 .i64 _ _ (l.length + 1) rfl rfl ?m1 ?m2 hbb ?m3 (Nat.le_refl _) ?_)
    case m1 => go_num
    case m2 => go_num
    case m3 => unfold maxLen; omega
    intro w6 hown hgrow
    have HB6 : Hid (Below w5.heap.size w5 w6) := (Below.refl _ _).grown hgrow (Nat.le_refl _) (fun k hk => by simp at hk)
    have HC6 : Hid (IntRow w6 w5.heap.size w5.heap.size (cntL (l.length + 1) (x.take 0))) := by
      show IntRow _ _ _ _
      unfold IntRow
      rw [cnt_len, List.take_zero, cnt_nil, ← made_ints]
      simpa [Value.cells] using hown
    clear hown hgrow
    go_wp2_with fail
    go_loopw [69] (fun i wr => ∃ j : Nat, j ≤ x.length ∧ i = .int .i64 j ∧ IntRow wr w5.heap.size w5.heap.size (cntL (l.length + 1) (x.take j)) ∧ Below w5.heap.size w5 wr) (fun i _ => x.length - (intOf i).toNat)
    case atStart => exact ⟨0, Nat.zero_le _, rfl, HC6.out, HB6.out⟩
    case round =>
      rename World => wi
      obtain ⟨j, hj, rfl, hC, hB⟩ := hrel
      have hzi := hB.size
      by_cases hjx : j < x.length
      · obtain ⟨q, hq⟩ : ∃ q, x[j]? = some q := ⟨x[j], List.getElem?_eq_getElem hjx⟩
        have hji : (j : Int) < (x.length : Int) := by omega
        have hql : q ≤ l.length := HLE.out q (List.mem_of_getElem? hq)
        have hq0 : ¬ (q : Int) < 0 := by omega
        have hq1 : ¬ (l.length : Int) < (q : Int) := by omega
        have hq2 : (q : Int) < (l.length : Int) + 1 := by omega
        obtain ⟨g, og, e1, hg, y1⟩ := (HN5.out.below hB (Nat.le_refl _)).mem hq
        subst e1
        have hgw : g < wi.heap.size := by omega
        have m0 := IntRow.cellOf hC (cnt_at (x.take j) (show q < l.length + 1 by omega))
        obtain ⟨c, hcq⟩ : ∃ c, (x.take j).count q = c := ⟨_, rfl⟩
        have hc5 : c ≤ 500 := by
          have h1 := List.count_le_length (a := q) (l := x.take j)
          rw [List.length_take, hcq] at h1
          omega
        have hfz := IntRow.frozen hC q
        have hth := (IntRow.there hC).2
        have HC : Hid (IntRow (wi.setCell ⟨w5.heap.size, q, none⟩ (.int .i64 ((c + 1 : Nat) : Int))) w5.heap.size w5.heap.size (cntL (l.length + 1) (x.take (j + 1)))) := by
          have h := IntRow.put hC q (c + 1)
          rw [← hcq, cnt_step hq (by omega)] at h
          rw [← hcq]
          exact h
        rw [hcq] at m0
        have HB : Hid (Below w5.heap.size w5 (wi.setCell ⟨w5.heap.size, q, none⟩ (.int .i64 ((c + 1 : Nat) : Int)))) := hB.setCell (Nat.le_refl _) _
        clear hC hB hq hcq
        go_wp2_with fail
        go_roundw
        case rel => exact ⟨j + 1, by omega, by go_num, HC.out, HB.out⟩
        case measure => simp [intOf]; omega
      · have hji : ¬ (j : Int) < (x.length : Int) := by omega
        have HC7 : Hid (IntRow wi w5.heap.size w5.heap.size (cntL (l.length + 1) x)) := by rw [List.take_of_length_le (by omega)] at hC; exact hC
        have HB7 : Hid (Below w5.heap.size w5 wi) := hB
        clear hC hB
        go_wp2_with fail
        go_loopw [90] (fun i wr => ∃ j : Nat, j ≤ l.length + 1 ∧ i = .int .i64 j ∧ Below wi.heap.size wi wr) (fun i _ => l.length + 1 - (intOf i).toNat)
        case atStart => exact ⟨0, Nat.zero_le _, rfl, Below.refl _ _⟩
        case round =>
          rename World => wk
          obtain ⟨k, hk, rfl, hB⟩ := hrel
          have hzk := hB.size
          have HBW : Hid (Below w.heap.size w wk) := HB5.out.trans ((HB7.out.trans (hB.mono hzi)).mono hz5)
          by_cases hkl : k < l.length + 1
          · have hki : (k : Int) < (l.length : Int) + 1 := by omega
            have hCk := HC7.out.below hB
            have m0 := IntRow.cellOf hCk (cnt_at x hkl)
            have hth := (IntRow.there hCk).2
            obtain ⟨c, hck⟩ : ∃ c, x.count k = c := ⟨_, rfl⟩
            rw [hck] at m0
            have hc5 : c ≤ 500 := by
              have h1 := List.count_le_length (a := k) (l := x)
              rw [hck] at h1
              omega
            rcases Nat.eq_zero_or_pos k with hk0 | hk0
            · subst hk0
              have hcs : ¬ (s.size : Int) < (c : Int) := by have := HE0.out; rw [hck] at this; omega
              have HB8 : Hid (Below wi.heap.size wi wk) := hB
              clear hB hCk hck
              by_cases hl0 : l.length = 0
              · have e1 : ((0 : Int) == (l.length : Int)) = true := by simp [hl0]
                have e2 : (((0 : Nat) : Int) == (l.length : Int)) = true := by simp [hl0]
                have HL0 : Hid (l.length = 0) := hl0
                clear hl0
                go_wp2_with fail
                go_roundw
                case rel => exact ⟨1, by omega, by go_num, HB8.out⟩
                case measure => simp [intOf]
              · have e1 : ((0 : Int) == (l.length : Int)) = false := by rw [beq_eq_false_iff_ne]; omega
                have e2 : (((0 : Nat) : Int) == (l.length : Int)) = false := by rw [beq_eq_false_iff_ne]; omega
                go_wp2_with fail
                go_roundw
                case rel => exact ⟨1, by omega, by go_num, HB8.out⟩
                case measure => simp [intOf]
            · obtain ⟨r, hr⟩ : ∃ r, l[k - 1]? = some r := ⟨l[k - 1]'(by omega), List.getElem?_eq_getElem _⟩
              obtain ⟨hsm, hp1', hp2'⟩ := HE1.out (k - 1) r hr
              rw [show k - 1 + 1 = k by omega, hck] at hp1' hp2'
              obtain ⟨gb, og, ai, ci, e0, hgb, d1, d2, d3, hpd, _⟩ := (HL.out.below HBW.out (Nat.le_refl _)).mem hr
              subst e0
              have i2 : 0 < (k : Int) := by omega
              have im2 : ((k : Int) - 1).toNat = k - 1 := by omega
              have im0 : 0 ≤ (k : Int) - 1 := by omega
              have im1 : (k : Int) - 1 < (l.length : Int) := by omega
              have hzw : w.heap.size ≤ wk.heap.size := HBW.out.size
              have hgw : gb < wk.heap.size := by omega
              have HPD : Hid (PartsAt wk w.heap.size ai r.d) := hpd
              have HSM : Hid (Small r.d) := hsm
              have hdl := hsm.1
              have HP1 : Hid (c ≤ putsI r.d ∧ (k = l.length → c = putsI r.d)) := ⟨hp1', hp2'⟩
              have HB8 : Hid (Below wi.heap.size wi wk) := hB
              clear hB hCk hck hr hp1' hp2' hpd hsm d1 d2
              go_wp2_with fail
              go_loopw [15, 106] (fun v i wr => ∃ (j n : Nat), j ≤ r.d.length ∧ i = .int .i64 j ∧ v = .int .i64 (n : Int) ∧ n = putsI (r.d.take j) ∧ n ≤ 500 * j ∧ Below wk.heap.size wk wr) (fun _ i _ => r.d.length - (intOf i).toNat)
              case atStart => exact ⟨0, 0, Nat.zero_le _, rfl, rfl, rfl, Nat.le_refl _, Below.refl _ _⟩
              case round =>
                rename World => wm
                obtain ⟨j, n, hj, rfl, rfl, hn, hn5, hb⟩ := hrel
                have hzm := hb.size
                by_cases hjd : j < r.d.length
                · obtain ⟨p, hpj⟩ : ∃ p, r.d[j]? = some p := ⟨r.d[j], List.getElem?_eq_getElem hjd⟩
                  have hji : (j : Int) < (r.d.length : Int) := by omega
                  obtain ⟨pb, po, e1, hpb, c1', c2', c3'⟩ := (HPD.out.below hb hzw).mem hpj
                  subst e1
                  have hpw : pb < wm.heap.size := by omega
                  have hps := (HSM.out.2 p (List.mem_of_getElem? hpj))
                  obtain ⟨_, _, hps3⟩ := hps
                  have HN : Hid (n + p.t.size = putsI (r.d.take (j + 1))) := by show _ = _; rw [puts_snoc hpj, hn]
                  have HB9 : Hid (Below wk.heap.size wk (wm.alloc (.cells #[.int .i64 p.k, .int .i64 p.n, .string p.t] 53))) := hb.alloc hzm _
                  clear hb hpj hn
                  go_wp2_with fail
                  go_roundw
                  case rel => exact ⟨j + 1, n + p.t.size, by omega, by go_num, by go_num, HN.out, by omega, HB9.out⟩
                  case measure => simp [intOf]; omega
                · have hji : ¬ (j : Int) < (r.d.length : Int) := by omega
                  have hnp : n = putsI r.d := by rw [hn, List.take_of_length_le (by omega)]
                  have hcs : ¬ (n : Int) < (c : Int) := by have := HP1.out.1; omega
                  have HB9 : Hid (Below wi.heap.size wi wm) := HB8.out.trans (hb.mono HB8.out.size)
                  clear hb hn
                  by_cases hkl2 : k = l.length
                  · have e1 : ((k : Int) == (l.length : Int)) = true := by rw [beq_iff_eq]; omega
                    have e3 : ((c : Int) != (n : Int)) = false := by
                      have := HP1.out.2 hkl2
                      rw [bne_eq_false_iff_eq]; omega
                    have HK : Hid _ := hkl2
                    clear hkl2 hnp
                    go_wp2_with fail
                    go_roundw
                    case rel => exact ⟨k + 1, by omega, by go_num, HB9.out⟩
                    case measure => simp [intOf]; omega
                  · have e1 : ((k : Int) == (l.length : Int)) = false := by rw [beq_eq_false_iff_ne]; omega
                    clear hnp
                    go_wp2_with fail
                    go_roundw
                    case rel => exact ⟨k + 1, by omega, by go_num, HB9.out⟩
                    case measure => simp [intOf]; omega
          · have hki : ¬ (k : Int) < (l.length : Int) + 1 := by omega
            clear hB
            go_wp2_with fail
            go_ret
            exact ⟨rfl, HBW.out⟩
  · have HBO : Hid _ := fun w hh => BlameOf_not s a l cap w hh hs h0
    have q2 : (checkE s.data.toList l != 0) = true := by simp [h0]
    clear h0
    go_wp2_with fail
    refine (HBO.out _ (HL.out.here HB3.out (Nat.le_refl _))).mono ?_
    rintro e w4 ⟨rfl, hb4⟩
    have HB4 : Hid (Below w.heap.size w w4) := HB3.out.trans (hb4.mono HB3.out.size)
    clear hb4
    go_wp2_with fail
    go_ret
    exact ⟨rfl, HB4.out⟩
end Go.Proofs.Ytjfeaedjifpahaa
