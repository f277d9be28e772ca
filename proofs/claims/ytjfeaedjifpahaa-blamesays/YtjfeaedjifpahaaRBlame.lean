/- What the document's own Blame answers of a history that is right. -/
import Derived.Test.YtjfeaedjifpahaaBlameP
import Derived.Test.YtjfeaedjifpahaaNats
import Derived.Test.YtjfeaedjifpahaaRowKit2
import Derived.Test.YtjfeaedjifpahaaRevOne
import Derived.Test.YtjfeaedjifpahaaRPairs
import Derived.Test.YtjfeaedjifpahaaOf
namespace Go.Proofs.Ytjfeaedjifpahaa
open Go.RowKit
set_option linter.unusedSimpArgs false
set_option linter.unusedVariables false

theorem pairs_in {w : List Tok} : ∀ {i k : Nat} {p : Nat × Nat}, p ∈ pairsW w i k → p.1 < i + inW w ∧ p.2 < k + outW w := by
  induction w with
  | nil => intro i k p h; simp [pairsW] at h
  | cons t w ih =>
    intro i k p h
    cases t using Tok.by3 with
    | K =>
      simp only [pairsW, Tok.K, List.mem_cons] at h
      simp only [inW, outW, Tok.K]
      rcases h with rfl | h
      · exact ⟨by omega, by omega⟩
      · have := ih h; exact ⟨by omega, by omega⟩
    | X =>
      have := ih (show p ∈ pairsW w (i + 1) k by simpa [pairsW, Tok.X] using h)
      simp only [inW, outW, Tok.X]
      exact ⟨by omega, by omega⟩
    | P c =>
      have := ih (show p ∈ pairsW w i (k + 1) by simpa [pairsW, Tok.P] using h)
      simp only [inW, outW, Tok.P]
      exact ⟨by omega, by omega⟩
theorem fill_len (x : List Nat) (ps : List (Nat × Nat)) : ∀ y : List Nat, (fillW x y ps).length = y.length := by
  induction ps with
  | nil => intro y; rfl
  | cons p ps ih => intro y; show (fillW x (y.set p.2 (x.getD p.1 0)) ps).length = _; rw [ih, List.length_set]
theorem fill_step {x y : List Nat} {ps : List (Nat × Nat)} {j a b q : Nat} (h : ps[j]? = some (a, b)) (hq : x[a]? = some q) : fillW x y (ps.take (j + 1)) = (fillW x y (ps.take j)).set b q := by
  obtain ⟨h1, h2⟩ := List.getElem?_eq_some_iff.1 h
  rw [List.take_succ_eq_append_getElem h1, h2]
  simp only [fillW, List.foldl_append, List.foldl_cons, List.foldl_nil, List.getD_eq_getElem?_getD, hq, Option.getD_some]
/-- filled so far -/
def filled (n M j : Nat) : List Nat := List.replicate j n ++ List.replicate (M - j) 0
theorem filled_len {n M j : Nat} (h : j ≤ M) : (filled n M j).length = M := by simp [filled]; omega
theorem filled_at {n M j : Nat} (h : j < M) : (filled n M j)[j]? = some 0 := by
  rw [filled, List.getElem?_append_right (by simp), List.length_replicate, Nat.sub_self, List.getElem?_replicate, if_pos (by omega)]
theorem filled_set {n M j : Nat} (h : j < M) : (filled n M j).set j n = filled n M (j + 1) := by
  obtain ⟨d, hd⟩ : ∃ d, M - j = d + 1 := ⟨M - j - 1, by omega⟩
  rw [filled, filled, hd, show M - (j + 1) = d by omega, List.set_append_right _ _ (by simp), List.length_replicate, Nat.sub_self, List.replicate_succ, List.set_cons_zero, List.replicate_succ', List.append_assoc]
  rfl
set_option maxRecDepth 20000 in
set_option maxHeartbeats 8000000 in
theorem RBlame_any (s : ByteArray) (a : Option Addr) (l : List Rv) (cap : Nat) (w : World) (hl : RevsAt w w.heap.size a l) (h0 : checkE s.data.toList l = 0) :
    Calls Try.prog 19 #[.string s, .slice a l.length cap] w fun e w' => ∃ a' c', e = .returned (.slice a' (blameL (List.replicate s.size 0) l 1).length c') ∧ NatsAt w' w'.heap.size a' (blameL (List.replicate s.size 0) l 1) c' ∧ Below w.heap.size w w' := by
  obtain ⟨ip, hip, hp0, hp1, hp2⟩ := info_parts infoInt
  have hsl : s.data.toList.length = s.size := Array.length_toList
  have hll := hl.1
  obtain ⟨z1, z2, z3⟩ := check_zero h0
  have hs5 : s.size ≤ 500 := by omega
  have HAT : Hid (∀ k, k ≤ l.length → (blameL (List.replicate s.size 0) (l.take k) 1).length = (textAt s.data.toList l k).length) := by
    intro k hk
    have h := blame_at z3 hk
    rw [hsl] at h
    exact h
  have HL : Hid (RevsAt w w.heap.size a l) := hl
  have HH : Hid (histE s.data.toList l = 0) := z3
  have hbb : ip.bytes * s.size ≤ 281474976710656 := by rw [hp2]; omega
  obtain ⟨x0, hx0⟩ : ∃ x0, List.replicate s.size 0 = x0 := ⟨_, rfl⟩
  have HL0 : Hid (List.replicate s.size 0 = x0 ∧ s.size = x0.length) := ⟨hx0, by rw [← hx0]; simp⟩
  rw [hx0] at HAT ⊢
  clear hl h0 z1 z3 hsl hx0
  go_enter Try.func19, Try.ntmps19
  go_wp2_with (at_make; refine wpList_make_full _ rfl _ _ 40 rfl w.heap.size 3 ip _ 1 Try.underlying40 hip hp0 hp1 .i64 .i64 _ _ s.size rfl rfl ?m1 ?m2 hbb ?m3 (Nat.le_refl _) ?_)
  case m1 => go_num
  case m2 => go_num
  case m3 => unfold maxLen; omega
  intro w2 hown hgrow
  have HB2 : Hid (Below w.heap.size w w2) := (Below.refl _ _).grown hgrow (Nat.le_refl _) (fun k hk => by simp at hk)
  have HN2 : Hid (IntRow w2 w.heap.size w.heap.size x0) := by
    show IntRow _ _ _ _
    rw [← HL0.out.1]
    unfold IntRow
    rw [← made_ints, List.length_replicate]
    simpa [Value.cells] using hown
  clear hown hgrow
  go_wp2_with fail
  go_loopw [5, 17] (fun v i wr => ∃ (k g : Nat) (x : List Nat), k ≤ l.length ∧ i = .int .i64 k ∧ v = .slice (some ⟨g, 0, none⟩) x.length x.length ∧ IntRow wr w.heap.size g x ∧ x = blameL x0 (l.take k) 1 ∧ Below w.heap.size w wr) (fun _ i _ => l.length - (intOf i).toNat)
  case atStart => exact ⟨0, w.heap.size, x0, Nat.zero_le _, rfl, by rw [← HL0.out.2], HN2.out, rfl, HB2.out⟩
  case round =>
    rename World => wo
    obtain ⟨k, g, x, hk, rfl, rfl, hx, hxe, hb⟩ := hrel
    have hz := hb.size
    by_cases hlt : k < l.length
    · obtain ⟨r, hrk⟩ : ∃ r, l[k]? = some r := ⟨l[k], List.getElem?_eq_getElem hlt⟩
      have hki : (k : Int) < (l.length : Int) := by omega
      obtain ⟨b, off, ai, ci, e0, hblt, c1, c2, c3, hpd, hrm⟩ := (HL.out.below hb (Nat.le_refl _)).mem hrk
      subst e0
      have hbw : b < wo.heap.size := by omega
      obtain ⟨q1, q2, q3, q4⟩ := hist_at HH.out hrk
      have hxl : (x.length : Int) = inI r.d := by rw [q3, hxe, HAT.out k hk]
      obtain ⟨gd, cn, din, dout, d5, d6⟩ := delta_facts q2
      obtain ⟨M, hM⟩ : ∃ M : Nat, M = outW (wordL r.d) := ⟨_, rfl⟩
      have hM5 : M ≤ 500 := by omega
      have HSM : Hid (Small r.d) := (sizes_zero q2).1
      have HOut : Hid _ := fun w h => Out_any ai r.d ci w h HSM.out
      rw [dout, ← hM] at HOut
      have hbm : ip.bytes * M ≤ 281474976710656 := by rw [hp2]; omega
      have HPP : Hid (pairsP (ofAll r.d).1 (ofAll r.d).2 0 0 = pairsL r.d) := pairsP_of gd.kinds
      have HOF : Hid ((ofAll r.d).1.length = (ofAll r.d).2.length + 1 ∧ (ofAll r.d).2.length ≤ 800000 ∧ ∀ q ∈ (ofAll r.d).1, q.size ≤ 800000) := by
        have h1 := HSM.out
        refine ⟨ofAll_len r.d, ?_, fun q hq => ?_⟩
        · have := ofAll_kept h1.2; have := h1.1; omega
        · have := ofAll_size h1.2 q hq; have := h1.1; omega
      have HPI : Hid (∀ (j p q : Nat), (pairsL r.d)[j]? = some (p, q) → p < x.length ∧ q < M) := by
        intro j p q h
        have := pairs_in (List.mem_of_getElem? h)
        exact ⟨by omega, by omega⟩
      have HPL : Hid ((pairsL r.d).length ≤ 9223372036854775806) := by
        show _ ≤ _
        have h1 : ∀ (w : List Tok) (i k : Nat), (pairsW w i k).length ≤ inW w := by
          intro w
          induction w with
          | nil => intro i k; simp [pairsW]
          | cons t w ih => intro i k; cases t using Tok.by3 <;> simp [pairsW, inW] <;> first | exact ih _ _ | (have := ih (i + 1) k; omega)
        have := h1 (wordL r.d) 0 0
        show (pairsW (wordL r.d) 0 0).length ≤ _
        omega
      have HFill : Hid (fillW x (filled (k + 1) M M) (pairsL r.d) = blameL x0 (l.take (k + 1)) 1) := by
        show _ = _
        have h := blame_fill (r := r) (x := x) (i := k + 1) q2 hxl
        rw [blame_step (s := []) hrk, ← hxe, ← h, filled, Nat.sub_self, hM, show (outI r.d).toNat = outW (wordL r.d) by omega]
        simp
      obtain ⟨ps, hps⟩ : ∃ ps, pairsL r.d = ps := ⟨_, rfl⟩
      rw [hps] at HPP HPI HPL HFill
      have HX0 : Hid (IntRow (wo.alloc (.cells #[.int .i64 r.who, .int .i64 r.seq, .slice ai r.d.length ci] 25)) w.heap.size g x) := hx.alloc _
      have HR0 : Hid (RHeld w w.heap.size wo.heap.size r ai ci (wo.alloc (.cells #[.int .i64 r.who, .int .i64 r.seq, .slice ai r.d.length ci] 25))) := rheld_new hpd hb hz
      clear hb hpd hrm hrk q1 q2 q3 q4 hxl hx hxe gd cn din dout d5 d6 hps hM
      go_wp2_with fail
      refine (HOut.out _ HR0.out.parts).mono ?_
      rintro e w1 ⟨rfl, hb1⟩
      have HR1 : Hid (RHeld w w.heap.size wo.heap.size r ai ci w1) := HR0.out.next hb1
      have HX1 : Hid (IntRow w1 w.heap.size g x) := HX0.out.below hb1
      have hz1 : w.heap.size ≤ w1.heap.size := HR1.out.2.2.2
      clear hb1
      go_wp2_with (at_make; refine wpList_make_full _ rfl _ _ 40 rfl w1.heap.size 3 ip _ 1 Try.underlying40 hip hp0 hp1 .i64 .i64 _ _ M rfl rfl ?m4 ?m5 hbm ?m6 (Nat.le_refl _) ?_)
      case m4 => go_num
      case m5 => go_num
      case m6 => unfold maxLen; omega
      intro w3 hown hgrow
      have HB3 : Hid (Below w1.heap.size w1 w3) := (Below.refl _ _).grown hgrow (Nat.le_refl _) (fun k hk => by simp at hk)
      have HN3 : Hid (IntRow w3 w1.heap.size w1.heap.size (filled (k + 1) M 0)) := by
        show IntRow _ _ _ _
        unfold IntRow
        rw [filled_len (Nat.zero_le _), show filled (k + 1) M 0 = List.replicate M 0 by simp [filled], ← made_ints]
        simpa [Value.cells] using hown
      clear hown hgrow
      go_wp2_with fail
      go_loopw [28] (fun i wr => ∃ j : Nat, j ≤ M ∧ i = .int .i64 j ∧ IntRow wr w1.heap.size w1.heap.size (filled (k + 1) M j) ∧ Below w1.heap.size w1 wr) (fun i _ => M - (intOf i).toNat)
      case atStart => exact ⟨0, Nat.zero_le _, rfl, HN3.out, HB3.out⟩
      case round =>
        rename World => wi
        obtain ⟨j, hj, rfl, hN, hB⟩ := hrel
        by_cases hjM : j < M
        · have hji : (j : Int) < (M : Int) := by omega
          have m0 := IntRow.cellOf hN (filled_at (n := k + 1) hjM)
          have hfz := IntRow.frozen hN j
          have hth := (IntRow.there hN).2
          have HN : Hid (IntRow (wi.setCell ⟨w1.heap.size, j, none⟩ (.int .i64 ((k + 1 : Nat) : Int))) w1.heap.size w1.heap.size (filled (k + 1) M (j + 1))) := by
            have h := IntRow.put hN j (k + 1)
            rw [filled_set hjM] at h
            exact h
          have HB : Hid (Below w1.heap.size w1 (wi.setCell ⟨w1.heap.size, j, none⟩ (.int .i64 ((k + 1 : Nat) : Int)))) := hB.setCell (Nat.le_refl _) _
          clear hN hB
          go_wp2_with fail
          go_roundw
          case rel => exact ⟨j + 1, by omega, by go_num, HN.out, HB.out⟩
          case measure => simp [intOf]; omega
        · have hji : ¬ (j : Int) < (M : Int) := by omega
          have hjM2 : j = M := by omega
          have HN4 : Hid (IntRow wi w1.heap.size w1.heap.size (filled (k + 1) M M)) := by rw [hjM2] at hN; exact hN
          have HR4 : Hid (RHeld w w.heap.size wo.heap.size r ai ci wi) := HR1.out.next hB
          have HX4 : Hid (IntRow wi w.heap.size g x) := HX1.out.below hB
          have HB4 : Hid (Below w1.heap.size w1 wi) := hB
          have hz4 := hB.size
          obtain ⟨y0, y1, y2, y3⟩ := HR4.out.1
          clear hN hB hjM2
          go_wp2_with fail
          refine (Of_any ai r.d ci _ HR4.out.parts HSM.out).mono ?_
          rintro e w5 ⟨pv, kv, rfl, hq5, hk5, hb5⟩
          have HB5 : Hid (Below w1.heap.size w1 w5) := HB4.out.trans (hb5.mono hz4)
          have HN5 : Hid (IntRow w5 w1.heap.size w1.heap.size (filled (k + 1) M M)) := HN4.out.below hb5
          have HQ5 : Hid _ := hq5
          have HK5 : Hid _ := hk5
          clear hq5 hk5 hb5 y0 y1 y2 y3
          go_wp2_with fail
          refine (pairs_any wi.heap.size pv kv (ofAll r.d).1 (ofAll r.d).2 _ HQ5.out HK5.out HOF.out.1 HOF.out.2.1 HOF.out.2.2).mono ?_
          rintro e w6 ⟨ov, rfl, hown6, hb6⟩
          rw [HPP.out] at hown6
          obtain ⟨po, pc, rfl⟩ := slice_form' hown6
          have HB6 : Hid (Below w1.heap.size w1 w6) := HB5.out.trans (hb6.mono HB5.out.size)
          have HN6 : Hid (IntRow w6 w1.heap.size w1.heap.size (filled (k + 1) M M)) := HN5.out.below hb6
          have HO6 : Hid (w6.ownsRow w5.heap.size 67 2 (.slice po ps.length pc) ps.length (prCells ps)) := hown6
          have hpl := HPL.out
          clear hown6 hb6
          go_wp2_with fail
          go_loopw [42] (fun i wr => ∃ j : Nat, j ≤ ps.length ∧ i = .int .i64 j ∧ IntRow wr w1.heap.size w1.heap.size (fillW x (filled (k + 1) M M) (ps.take j)) ∧ Below w1.heap.size w1 wr ∧ Only w6 wr w1.heap.size) (fun i _ => ps.length - (intOf i).toNat)
          case atStart => exact ⟨0, Nat.zero_le _, rfl, HN6.out, HB6.out, Only.refl _ _⟩
          case round =>
            rename World => wj
            obtain ⟨j, hj, rfl, hN, hB, hO⟩ := hrel
            have hzj := hB.size
            by_cases hjp : j < ps.length
            · obtain ⟨pq, hpq⟩ : ∃ p, ps[j]? = some p := ⟨ps[j], List.getElem?_eq_getElem hjp⟩
              obtain ⟨p1, p2⟩ := pq
              have hji : (j : Int) < (ps.length : Int) := by omega
              obtain ⟨u1, u2⟩ := HPI.out j p1 p2 hpq
              obtain ⟨q, hq⟩ : ∃ q, x[p1]? = some q := ⟨x[p1], List.getElem?_eq_getElem u1⟩
              have u1' : (p1 : Int) < (x.length : Int) := by omega
              have u2' : (p2 : Int) < (M : Int) := by omega
              obtain ⟨gk, ck, hgk, y0, y1, hgkw⟩ := pr_at HO6.out hpq
              simp only [Value.slice.injEq, true_and] at hgk
              obtain ⟨rfl, rfl⟩ := hgk
              have hgne : gk ≠ w1.heap.size := by
                intro e
                have h1 := (IntRow.there HN6.out).2
                rcases HO6.out.2 with ⟨h, _⟩ | ⟨g', cap', cur, h, hB', _⟩
                · simp at h
                · simp only [Value.slice.injEq, Option.some.injEq, Addr.mk.injEq, and_true] at h
                  obtain ⟨⟨rfl, _⟩, _⟩ := h
                  have := (IntRow.there HN5.out).2
                  omega
              have hblk := hO.2 gk hgkw hgne
              have z0 : wj.cell? ⟨gk, j * 2, none⟩ = some (.int .i64 (p1 : Int)) := (World.cell?_of_block (a := ⟨gk, j * 2, none⟩) hblk).trans y0
              have z1 : wj.cell? ⟨gk, j * 2 + 1, none⟩ = some (.int .i64 (p2 : Int)) := (World.cell?_of_block (a := ⟨gk, j * 2 + 1, none⟩) hblk).trans y1
              have hgkr : gk < wj.heap.size := by have := hO.1; omega
              have hX := HX1.out.below hB
              have n0 := IntRow.cellOf hX hq
              have hgx := (IntRow.there hX).2
              have hth := IntRow.there hN
              obtain ⟨t0, ht0⟩ : ∃ t0, (fillW x (filled (k + 1) M M) (ps.take j))[p2]? = some t0 := ⟨_, List.getElem?_eq_getElem (by rw [fill_len, filled_len (Nat.le_refl _)]; exact u2)⟩
              have m0 := IntRow.cellOf hN ht0
              have hfz := IntRow.frozen hN p2
              have hgg : g ≠ w1.heap.size := by have := (IntRow.there HX1.out).2; omega
              have HN7 : Hid (IntRow (wj.setCell ⟨w1.heap.size, p2, none⟩ (.int .i64 (q : Int))) w1.heap.size w1.heap.size (fillW x (filled (k + 1) M M) (ps.take (j + 1)))) := by
                have h := IntRow.put hN p2 q
                rw [← fill_step hpq hq] at h
                exact h
              have HN8 : Hid (IntRow ((wj.alloc (.cells #[.int .i64 (p1 : Int), .int .i64 (p2 : Int)] 67)).setCell ⟨w1.heap.size, p2, none⟩ (.int .i64 (q : Int))) w1.heap.size w1.heap.size (fillW x (filled (k + 1) M M) (ps.take (j + 1)))) := by
                have h := IntRow.put (hN.alloc (.cells #[.int .i64 (p1 : Int), .int .i64 (p2 : Int)] 67)) p2 q
                rw [← fill_step hpq hq] at h
                exact h
              have HB7 : Hid (Below w1.heap.size w1 wj) := hB
              have HO7 : Hid (Only w6 wj w1.heap.size) := hO
              clear hN hB hO y0 y1 hpq hq hX ht0 hblk
              go_wp2_with fail
              go_region
              go_wp2_with fail
              go_roundw
              case rel =>
                refine ⟨j + 1, by omega, by go_num, ?_, ?_, ?_⟩
                · first | exact (HN7.out.alloc _).drew | exact HN8.out.drew
                · first | exact ((HB7.out.setCell (Nat.le_refl _) _).alloc (by simpa [World.setCell] using hzj) _).drew | exact ((HB7.out.alloc hzj _).setCell (Nat.le_refl _) _).drew
                · first | exact ((HO7.out.set _ _).alloc _).drew | exact ((HO7.out.alloc _).set _ _).drew
              case measure => simp [intOf]; omega
            · have hji : ¬ (j : Int) < (ps.length : Int) := by omega
              obtain ⟨Y, hY⟩ : ∃ Y, blameL x0 (l.take (k + 1)) 1 = Y := ⟨_, rfl⟩
              have HN7 : Hid (IntRow wj w.heap.size w1.heap.size Y ∧ M = Y.length) := by
                have h : fillW x (filled (k + 1) M M) (ps.take j) = Y := by rw [List.take_of_length_le (by omega), HFill.out, hY]
                have h2 := fill_len x (ps.take j) (filled (k + 1) M M)
                rw [h, filled_len (Nat.le_refl _)] at h2
                rw [h] at hN
                exact ⟨hN.mono hz1, h2.symm⟩
              have HB7 : Hid (Below w.heap.size w wj) := HR1.out.2.2.1.trans (hB.mono hz1)
              have HY : Hid _ := hY
              clear hN hB hO hY
              go_wp2_with fail
              go_roundw
              case rel => exact ⟨k + 1, w1.heap.size, Y, by omega, by go_num, by rw [← HN7.out.2], HN7.out.1, HY.out.symm, HB7.out⟩
              case measure => simp [intOf]; omega
    · have hki : ¬ (k : Int) < (l.length : Int) := by omega
      have HF : Hid (x = blameL x0 l 1) := by show _ = _; rw [hxe, List.take_of_length_le (by omega)]
      have HX : Hid _ := row_nats hx
      have HB : Hid (Below w.heap.size w wo) := hb
      clear hx hxe hb
      go_wp2_with fail
      go_ret
      rw [← HF.out]
      first | exact ⟨_, _, rfl, HX.out, HB.out⟩ | exact ⟨_, ⟨_, rfl⟩, HX.out, HB.out⟩
end Go.Proofs.Ytjfeaedjifpahaa
