/- The law TierOwn, walked: it answers true. -/
import Derived.Test.YtinhidddfpjjkabTierOwnKit
namespace Go.Proofs.Ytinhidddfpjjkab
open Go.RowKit
set_option linter.unusedSimpArgs false
set_option linter.unusedVariables false

theorem rbox {w w' : World} {x y z : Value} {t : TypeId} (hb : Below (w.heap.size + 1) (w.alloc (.cells #[x, y, z] t)) w') : w'.cell? ⟨w.heap.size, 0, none⟩ = some x ∧ w'.cell? ⟨w.heap.size, 1, none⟩ = some y ∧ w'.cell? ⟨w.heap.size, 2, none⟩ = some z := by
  have h : w'.heap[w.heap.size]? = some (.cells #[x, y, z] t (0, 0)) := (hb.block _ (Nat.lt_succ_self _)).trans (Deep.blk_alloc_new w _)
  exact ⟨Lib.cell_of_heap h 0, Lib.cell_of_heap h 1, Lib.cell_of_heap h 2⟩
theorem rbox2 {w w' w2 : World} {x y z v : Value} {t : TypeId} (hb : Below (w.heap.size + 1) (w.alloc (.cells #[x, y, z] t)) w') (hg : w'.grownBy w2 v.ownBlock) (hn : v.ownBlock ≠ some w.heap.size) : w2.cell? ⟨w.heap.size, 0, none⟩ = some x ∧ w2.cell? ⟨w.heap.size, 1, none⟩ = some y ∧ w2.cell? ⟨w.heap.size, 2, none⟩ = some z := by
  have h : w'.heap[w.heap.size]? = some (.cells #[x, y, z] t (0, 0)) := (hb.block _ (Nat.lt_succ_self _)).trans (Deep.blk_alloc_new w _)
  have h : w2.heap[w.heap.size]? = some (.cells #[x, y, z] t (0, 0)) := (hg.block _ (lt_of_heap h) (fun e => hn e.symm)).trans h
  exact ⟨Lib.cell_of_heap h 0, Lib.cell_of_heap h 1, Lib.cell_of_heap h 2⟩
theorem below_dn {w : World} (n : Nat) : Below w.heap.size w (w.drewN n) := (Below.refl _ _).trans ⟨rfl, rfl, rfl, Nat.le_refl _, fun _ _ => rfl⟩
theorem rv_push {w : World} {B gg cap g5 : Nat} {rg : List (Rv × Nat)} {r : Rv} (h : w.ownsRow B 46 3 (.slice (some ⟨gg, 0, none⟩) (rg.length + 1) cap) (rg.length + 1) (rvAll (rg.map inE) ++ [.int .i64 r.who, .int .i64 r.seq, .slice (some ⟨g5, 0, none⟩) r.d.length (r.d.length + 3)])) :
    w.ownsRow B 46 3 (.slice (some ⟨gg, 0, none⟩) (rg.length + 1) cap) (rg ++ [(r, g5)]).length (rvAll ((rg ++ [(r, g5)]).map inE)) := by
  rw [List.length_append, List.map_append, rvAll_app]
  exact h

set_option maxRecDepth 20000 in
set_option maxHeartbeats 16000000 in
theorem TierOwn_any (s : ByteArray) (a : Option Addr) (l : List Rv) (cap : Nat) (i k : Int) (w : World) (hl : RevsAt w w.heap.size a l) (hc : l.length ≤ cap) (hs : s.size ≤ 9223372036854775807) (hl40 : l.length * 40 ≤ 140737488351232) (hd32 : ∀ r ∈ l, r.d.length * 32 ≤ 140737488351232) :
    Calls Try.prog 7 #[.string s, .slice a l.length cap, .int .i64 i, .int .i64 k] w fun e w' => e = .returned (.bool true) ∧ Below w.heap.size w w' := by
  obtain ⟨ip, hip, i0, i1, i2⟩ := info_parts infoRev
  have hll := hl.1
  have HBd : Hid (∀ r ∈ l, Bound r.d ∧ r.d.length ≤ 4611686018427387904 ∧ r.d.length * 32 ≤ 140737488351232 ∧ wide r.who ∧ wide r.seq) := fun r hr => by
    obtain ⟨j, hj⟩ := List.getElem?_of_mem hr
    obtain ⟨b, off, ai, ci, _, _, _, _, _, hp, _⟩ := hl.mem hj
    have h1 := hd32 r hr
    have h2 := hl.2.2.1 r hr
    exact ⟨⟨hp.1, hp.2.2.1⟩, by omega, h1, h2.1, h2.2⟩
  have HL : Hid (RevsAt w w.heap.size a l) := hl
  clear hl hd32
  go_enter Try.func7, Try.ntmps7
  go_wp2_with fail
  go_loopw [9, 24] (fun v x wr => ∃ (n : Nat) (rg : List (Rv × Nat)), n ≤ l.length ∧ x = .int .i64 n ∧ rg.map (·.1) = l.take n ∧ wr.ownsRow w.heap.size 46 3 v rg.length (rvAll (rg.map inE)) ∧ (∀ y ∈ rg, RmAt wr y.1 y.2 ∧ w.heap.size ≤ y.2) ∧ rg.Pairwise (fun y z => y.2 < z.2) ∧ Below w.heap.size w wr) (fun _ x _ => l.length - (intOf x).toNat)
  case atStart => exact ⟨0, [], Nat.zero_le _, rfl, rfl, World.ownsRow_nil _ _ _ _, fun y hy => by simp at hy, List.Pairwise.nil, Below.refl _ _⟩
  case round =>
    rename World => wr
    obtain ⟨n, rg, hn, rfl, hrg, hown, hrm, hpw, hb⟩ := hrel
    have hlen : rg.length = n := by
      have := congrArg List.length hrg
      rw [List.length_map, List.length_take] at this
      omega
    obtain ⟨ao, ca, rfl⟩ := slice_form' hown
    have hz := hb.size
    have HB : Hid (Below w.heap.size w wr) := hb
    have HO : Hid (wr.ownsRow w.heap.size 46 3 (.slice ao rg.length ca) rg.length (rvAll (rg.map inE))) := hown
    have HRM : Hid (∀ y ∈ rg, RmAt wr y.1 y.2 ∧ w.heap.size ≤ y.2) := hrm
    have HX : Hid (rg.map (·.1) = l.take n ∧ rg.Pairwise (fun y z => y.2 < z.2)) := ⟨hrg, hpw⟩
    clear hown hrm hrg hpw
    by_cases hlt : n < l.length
    · obtain ⟨r, hr⟩ : ∃ r, l[n]? = some r := ⟨l[n], List.getElem?_eq_getElem hlt⟩
      have hni : (n : Int) < (l.length : Int) := by omega
      have hrl := List.mem_of_getElem? hr
      obtain ⟨hbd, hd4, hd32, _, _⟩ := HBd.out r hrl
      obtain ⟨g, og, ai, ci, e1, hg, c1, c2, c3, hp, hroom⟩ := (HL.out.here hb (Nat.le_refl _)).mem hr
      subst e1
      have hbx : Below wr.heap.size wr (wr.alloc (.cells #[.int .i64 r.who, .int .i64 r.seq, .slice ai r.d.length ci] 46)) := (Below.refl _ _).alloc (Nat.le_refl _) _
      have HP1 : Hid (PartsAt wr wr.heap.size ai r.d) := hp
      have HRo : Hid (∀ w : World, PartsAt w w.heap.size ai r.d → _) := fun w h => roomy_any ai r.d ci w h hroom.2 hd32
      have HBx : Hid (Below wr.heap.size wr ((wr.alloc (.cells #[.int .i64 r.who, .int .i64 r.seq, .slice ai r.d.length ci] 46)).drew.alloc (.cells #[.int .i64 9, .int .i64 0, .string mrk] 58))) := hbx.drew.alloc (by simp) _
      have HR : Hid (l[n]? = some r) := hr
      have hnl : rg.length ≤ l.length := by omega
      clear hp hroom hbx hb hr hrl hbd hlen
      go_wp2_with fail
      have hz5 : wr.heap.size + 1 = (wr.alloc (.cells #[.int .i64 r.who, .int .i64 r.seq, .slice ai r.d.length ci] 46)).heap.size := (Deep.nblk_alloc _ _).symm
      have HC : Hid (∀ w', Below (wr.heap.size + 1) (wr.alloc (.cells #[.int .i64 r.who, .int .i64 r.seq, .slice ai r.d.length ci] 46)) w' → w'.cell? ⟨wr.heap.size, 0, none⟩ = some (.int .i64 r.who) ∧ w'.cell? ⟨wr.heap.size, 1, none⟩ = some (.int .i64 r.seq) ∧ w'.cell? ⟨wr.heap.size, 2, none⟩ = some (.slice ai r.d.length ci)) := fun _ h => rbox h
      have HM : Hid (Below (wr.heap.size + 1) (wr.alloc (.cells #[.int .i64 r.who, .int .i64 r.seq, .slice ai r.d.length ci] 46)) ((wr.alloc (.cells #[.int .i64 r.who, .int .i64 r.seq, .slice ai r.d.length ci] 46)).drew.alloc (.cells #[.int .i64 9, .int .i64 0, .string mrk] 58))) := by
        rw [hz5]; exact (Below.refl _ _).drew.alloc (by simp) _
      go_region_held3 (fun w' => w'.cell? ⟨wr.heap.size, 0, none⟩ = some (.int .i64 r.who) ∧ w'.cell? ⟨wr.heap.size, 1, none⟩ = some (.int .i64 r.seq) ∧ w'.cell? ⟨wr.heap.size, 2, none⟩ = some (.slice ai r.d.length ci)) (first | exact HX7.out | exact HC.out _ (HM5.out.alloc HS5.out _) | exact HC.out _ HM5.out | exact HC.out _ HM.out | exact HC.out _ (hz5 ▸ (Below.refl _ _)) | exact HC.out _ (hz5 ▸ (Below.refl _ _).drew) | fail) (first
        | (go_at_call 25; refine (mark_any _).mono ?_; rintro e w4 ⟨rfl, hw4⟩; have hw4 := hw4.symm; subst hw4)
        | (go_at_call 24; refine (HRo.out _ (HP1.out.here HBx.out (Nat.le_refl _))).mono ?_; rintro e w5 ⟨g5, cur, rfl, hg5, hc5, hsz5, htk5, hmk5, hb5⟩; have HG5 : Hid (RmAt w5 r g5 ∧ wr.heap.size + 1 + 1 ≤ g5) := ⟨⟨cur, hc5, hsz5, htk5, hmk5⟩, by simpa using hg5⟩; have HM5 : Hid (Below (wr.heap.size + 1) (wr.alloc (.cells #[.int .i64 r.who, .int .i64 r.seq, .slice ai r.d.length ci] 46)) w5) := HM.out.trans (hb5.mono (by simp)); have HS5 : Hid (wr.heap.size + 1 ≤ w5.heap.size) := by have := hb5.size; simp at this; exact Nat.le_trans (Nat.le_succ _) this
           have HB5 : Hid (Below wr.heap.size wr w5) := HBx.out.trans (hb5.mono (by simp; omega)); clear hg5 hc5 hsz5 htk5 hmk5 hb5)
        | (refine step_append_lies _ (by rfl) _ _ _ (by rfl) w.heap.size 46 ip _ 3 40 Try.underlying22 hip i0 i1 i2 rfl (by omega) (.slice ao rg.length ca) rg.length (rvAll (rg.map inE)) (by rfl) (own_alloc (own_below HO.out HB5.out) _) ⟨w5.heap.size, 0, none⟩ 1 1 [.int .i64 r.who, .int .i64 r.seq, .slice (some ⟨g5, 0, none⟩) r.d.length (r.d.length + 3)] (by rfl) (by rfl) (World.news_of_block (cs := #[.int .i64 r.who, .int .i64 r.seq, .slice (some ⟨g5, 0, none⟩) r.d.length (r.d.length + 3)]) (t := 46) (fr := (0, 0)) (Deep.blk_alloc_new w5 _)) (by simp [Value.oneCell']) (by omega) (by unfold maxLen; omega) (by omega) (by have h5 := HS5.out; simp; omega) (w5.heap.size + 1) (by simp) ?_; intro gg cap1 w7 hown7 hgrow7 hat7 hlt7; have HX7 : Hid (w7.cell? ⟨wr.heap.size, 0, none⟩ = some (.int .i64 r.who) ∧ w7.cell? ⟨wr.heap.size, 1, none⟩ = some (.int .i64 r.seq) ∧ w7.cell? ⟨wr.heap.size, 2, none⟩ = some (.slice ai r.d.length ci)) := rbox2 (HM5.out.alloc HS5.out _) hgrow7 (fun e => by have := (HO.out.lt _ e).2; omega)))
      have hown5 := own_alloc (own_below HO.out HB5.out) (.cells #[.int .i64 r.who, .int .i64 r.seq, .slice (some ⟨g5, 0, none⟩) r.d.length (r.d.length + 3)] 46)
      have hz5 := HS5.out
      have HR7 : Hid ((∀ y ∈ rg ++ [(r, g5)], RmAt w7 y.1 y.2 ∧ w.heap.size ≤ y.2) ∧ (rg ++ [(r, g5)]).Pairwise (fun y z => y.2 < z.2) ∧ (rg ++ [(r, g5)]).map (·.1) = l.take (n + 1) ∧ Below w.heap.size w w7) := by
        refine ⟨fun y hy => ?_, ?_, ?_, ?_⟩
        · have hba : Below w5.heap.size w5 (w5.alloc (.cells #[.int .i64 r.who, .int .i64 r.seq, .slice (some ⟨g5, 0, none⟩) r.d.length (r.d.length + 3)] 46)) := (Below.refl _ _).alloc (Nat.le_refl _) _
          rcases List.mem_append.1 hy with hy | hy
          · exact ⟨(((HRM.out y hy).1.below HB5.out).below hba).kept hown5 (by decide) hgrow7, (HRM.out y hy).2⟩
          · rw [List.mem_singleton] at hy
            subst hy
            exact ⟨(HG5.out.1.below hba).kept hown5 (by decide) hgrow7, by have := HG5.out.2; dsimp only; omega⟩
        · refine List.pairwise_append.2 ⟨HX.out.2, List.pairwise_singleton _ _, fun y hy z hz => ?_⟩
          rw [List.mem_singleton] at hz
          subst hz
          have h1 := (HRM.out y hy).1.lt
          have h2 := HG5.out.2
          dsimp only
          omega
        · rw [List.map_append, HX.out.1, List.take_add_one, HR.out]; rfl
        · exact below_own' ((HB.out.trans (HB5.out.mono hz)).alloc (by omega) _) hown5 hgrow7 (by simp; omega)
      have HO7 : Hid _ := rv_push hown7
      clear hown5 hown7 hgrow7
      go_wp2_with fail
      go_roundw
      case rel => first | exact ⟨n + 1, rg ++ [(r, g5)], by omega, by go_num, HR7.out.2.2.1, HO7.out, HR7.out.1, HR7.out.2.1, HR7.out.2.2.2⟩ | ((repeat apply Exists.intro); exact ⟨⟨n + 1, rg ++ [(r, g5)], by omega, by go_num, HR7.out.2.2.1, HO7.out, HR7.out.1, HR7.out.2.1, HR7.out.2.2.2⟩, rfl⟩)
      case measure => simp [intOf]; omega
    · obtain rfl : n = l.length := by omega
      have hrg : rg.map (·.1) = l := by rw [HX.out.1, List.take_length]
      have hin : RvsOk wr wr.heap.size (rg.map inE) := fun x hx => by
        obtain ⟨y, hy, rfl⟩ := List.mem_map.1 hx
        have hyl : y.1 ∈ l := by rw [← hrg]; exact List.mem_map.2 ⟨y, hy, rfl⟩
        obtain ⟨b1, b2, b3, b4⟩ := HBd.out y.1 hyl
        exact ⟨b4, (HRM.out y hy).1.parts b2 b1⟩
      have hinr := revs_own2 (xs := rg.map inE) (by rw [List.length_map]; exact HO.out) hin (by rw [List.length_map]; omega)
      obtain ⟨a2, c2, e2, hca, hri⟩ := hinr
      simp only [Value.slice.injEq] at e2
      obtain ⟨rfl, _, rfl⟩ := e2
      rw [in_fst, hrg] at hri
      have HO2 : Hid (wr.ownsRow w.heap.size 46 3 (.slice ao l.length ca) l.length (rvAll (rg.map inE))) := by have h := HO.out; rw [hlen] at h; exact h
      have HIN : Hid (RevsAt wr wr.heap.size ao l) := hri
      have HX2 : Hid (rg.map (·.1) = l ∧ rg.Pairwise (fun y z => y.2 < z.2) ∧ rg.length = l.length) := ⟨hrg, HX.out.2, hlen⟩
      have HBu : Hid (∀ (w : World) (a : Option Addr) (cap : Nat), RevsAt w w.heap.size a l → _) := fun w a cap h => BuildE s a l cap w h hs
      obtain ⟨E, hE⟩ : ∃ E, checkE s.data.toList l = E := ⟨_, rfl⟩
      obtain ⟨T, hT⟩ : ∃ T, tiersL s.data.toList l = T := ⟨_, rfl⟩
      have HT : Hid (tiersL s.data.toList l = T) := hT
      have hCE := hE
      rw [hE, hT] at HBu
      clear hrg hin hri hca HX HO hE hT
      rw [hlen]
      go_wp2_with fail
      refine (HBu.out _ _ _ HIN.out).mono ?_
      rintro e w1 ⟨t, rfl, hb1, p1, p2⟩
      have HB1 : Hid (Below wr.heap.size wr w1) := hb1
      have HP1 : Hid _ := p1
      have HP2 : Hid _ := p2
      clear hb1 p1 p2
      go_wp2_with fail
      refine (HBu.out _ _ _ (HL.out.here (HB.out.trans (HB1.out.mono hz)) (Nat.le_refl _))).mono ?_
      rintro e w2 ⟨u, rfl, hb2, _, q2⟩
      have HB2 : Hid (Below w.heap.size w w2) := (HB.out.trans (HB1.out.mono hz)).trans (hb2.mono (by have := HB1.out.size; omega))
      have HB2r : Hid (Below wr.heap.size wr w2) := HB1.out.trans (hb2.mono HB1.out.size)
      have HTE : Hid (TE w2 wr.heap.size T E t u) := te_mk HP1.out HP2.out q2 hb2 HB1.out.size
      clear hb2 q2 HP1 HP2 HBu
      go_wp2_with fail
      go_loopw [55] (fun x wc => ∃ (q : Nat), q ≤ l.length ∧ x = .int .i64 q ∧ wc.ownsRow w.heap.size 46 3 (.slice ao l.length ca) l.length (rvAll (rg.map inE)) ∧ (∀ j y, q ≤ j → rg[j]? = some y → RmAt wc y.1 y.2) ∧ Below w.heap.size w wc ∧ Still w2 wc wr.heap.size) (fun x _ => l.length - (intOf x).toNat)
      case atStart => exact ⟨0, Nat.zero_le _, rfl, own_below HO2.out HB2r.out, fun j y _ hy => (HRM.out y (List.mem_of_getElem? hy)).1.below HB2r.out, HB2.out, Still.refl _ _⟩
      case round =>
        rename World => wc
        obtain ⟨q, hq, rfl, hown, hrm, hb, hst⟩ := hrel
        have hzc := hb.size
        have HBc : Hid (Below w.heap.size w wc) := hb
        have HOc : Hid (wc.ownsRow w.heap.size 46 3 (.slice ao l.length ca) l.length (rvAll (rg.map inE))) := hown
        have HRc : Hid (∀ j y, q ≤ j → rg[j]? = some y → RmAt wc y.1 y.2) := hrm
        have HSt : Hid (Still w2 wc wr.heap.size) := hst
        clear hown hrm hb hst
        by_cases hlt2 : q < l.length
        · obtain ⟨y, hy⟩ : ∃ y, rg[q]? = some y := ⟨rg[q]'(by have := HX2.out.2.2; omega), List.getElem?_eq_getElem _⟩
          obtain ⟨r, g5⟩ := y
          have hqi : (q : Int) < (l.length : Int) := by omega
          have hr : l[q]? = some r := by have h := HX2.out.1; rw [← h, List.getElem?_map, hy]; rfl
          obtain ⟨hbd, hd4, hd32, _, _⟩ := HBd.out r (List.mem_of_getElem? hr)
          obtain ⟨gi, rfl, hgi, d1, d2, d3⟩ := in_at HOc.out (by have := HX2.out.2.2; omega) hy
          dsimp only at d1 d2 d3
          obtain ⟨g', og', ai, ci, e1, hg, c1, c2, c3, hp, hroom⟩ := (HL.out.here HBc.out (Nat.le_refl _)).mem hr
          subst e1
          have HX3 : Hid (rg[q]? = some (r, g5)) := hy
          have HP3 : Hid (PartsAt wc wc.heap.size ai r.d) := hp
          have HG3 : Hid (RmAt wc r g5 ∧ w.heap.size ≤ g5 ∧ g5 < wr.heap.size) := ⟨HRc.out q _ (Nat.le_refl _) hy, (HRM.out _ (List.mem_of_getElem? hy)).2, (HRM.out _ (List.mem_of_getElem? hy)).1.lt⟩
          have HQ3 : Hid (Bound r.d ∧ r.d.length ≤ 4611686018427387904 ∧ Room ai r.d ci) := ⟨hbd, hd4, hroom⟩
          have hz5 : wc.heap.size + 1 = (wc.alloc (.cells #[.int .i64 r.who, .int .i64 r.seq, .slice (some ⟨g5, 0, none⟩) r.d.length (r.d.length + 3)] 46)).heap.size := (Deep.nblk_alloc _ _).symm
          have hrefl : Below (wc.heap.size + 1) (wc.alloc (.cells #[.int .i64 r.who, .int .i64 r.seq, .slice (some ⟨g5, 0, none⟩) r.d.length (r.d.length + 3)] 46)) (wc.alloc (.cells #[.int .i64 r.who, .int .i64 r.seq, .slice (some ⟨g5, 0, none⟩) r.d.length (r.d.length + 3)] 46)) := Below.refl _ _
          have hba : Below wc.heap.size wc (wc.alloc (.cells #[.int .i64 r.who, .int .i64 r.seq, .slice (some ⟨g5, 0, none⟩) r.d.length (r.d.length + 3)] 46)) := (Below.refl _ _).alloc (Nat.le_refl _) _
          have HRF : Hid (Below (wc.heap.size + 1) (wc.alloc (.cells #[.int .i64 r.who, .int .i64 r.seq, .slice (some ⟨g5, 0, none⟩) r.d.length (r.d.length + 3)] 46)) (wc.alloc (.cells #[.int .i64 r.who, .int .i64 r.seq, .slice (some ⟨g5, 0, none⟩) r.d.length (r.d.length + 3)] 46))) := hrefl
          have HBA : Hid (Below wc.heap.size wc (wc.alloc (.cells #[.int .i64 r.who, .int .i64 r.seq, .slice (some ⟨g5, 0, none⟩) r.d.length (r.d.length + 3)] 46))) := hba
          have HC : Hid (∀ w', Below (wc.heap.size + 1) (wc.alloc (.cells #[.int .i64 r.who, .int .i64 r.seq, .slice (some ⟨g5, 0, none⟩) r.d.length (r.d.length + 3)] 46)) w' → w'.cell? ⟨wc.heap.size, 0, none⟩ = some (.int .i64 r.who) ∧ w'.cell? ⟨wc.heap.size, 1, none⟩ = some (.int .i64 r.seq) ∧ w'.cell? ⟨wc.heap.size, 2, none⟩ = some (.slice (some ⟨g5, 0, none⟩) r.d.length (r.d.length + 3)) ∧ w'.cell? ⟨g', og' + q * 3, none⟩ = some (.int .i64 r.who) ∧ w'.cell? ⟨g', og' + q * 3 + 1, none⟩ = some (.int .i64 r.seq) ∧ w'.cell? ⟨g', og' + q * 3 + 2, none⟩ = some (.slice ai r.d.length ci)) := fun w' h => by
            obtain ⟨b1, b2, b3⟩ := rbox h
            have hb3 : Below wc.heap.size wc w' := hba.trans (h.mono (Nat.le_succ _))
            exact ⟨b1, b2, b3, (hb3.cell (p := ⟨g', _, none⟩) hg).trans c1, (hb3.cell (p := ⟨g', _, none⟩) hg).trans c2, (hb3.cell (p := ⟨g', _, none⟩) hg).trans c3⟩
          clear hy hr hbd hd4 hd32 hp hroom hrefl hba
          go_wp2_with fail
          go_region_held3 (fun w' => w'.cell? ⟨wc.heap.size, 0, none⟩ = some (.int .i64 r.who) ∧ w'.cell? ⟨wc.heap.size, 1, none⟩ = some (.int .i64 r.seq) ∧ w'.cell? ⟨wc.heap.size, 2, none⟩ = some (.slice (some ⟨g5, 0, none⟩) r.d.length (r.d.length + 3)) ∧ w'.cell? ⟨g', og' + q * 3, none⟩ = some (.int .i64 r.who) ∧ w'.cell? ⟨g', og' + q * 3 + 1, none⟩ = some (.int .i64 r.seq) ∧ w'.cell? ⟨g', og' + q * 3 + 2, none⟩ = some (.slice ai r.d.length ci)) (first | exact HC.out _ HM5.out | exact HC.out _ HM4.out | exact HC.out _ HRF.out.drew | exact HC.out _ HRF.out | fail) (first
            | (go_at_call 26; refine (SameRev_yes r (some ⟨g5, 0, none⟩) ai (r.d.length + 3) ci _ ((HG3.out.1.below HBA.out.drew).parts HQ3.out.2.1 HQ3.out.1).1 (HP3.out.here HBA.out.drew (Nat.le_refl _))).mono ?_; rintro e w4 ⟨rfl, hb4⟩; have HM4 : Hid (Below (wc.heap.size + 1) (wc.alloc (.cells #[.int .i64 r.who, .int .i64 r.seq, .slice (some ⟨g5, 0, none⟩) r.d.length (r.d.length + 3)] 46)) w4) := HRF.out.drew.trans (hb4.mono (by simp)); have HB4 : Hid (Below wc.heap.size wc w4) := HBA.out.trans (HM4.out.mono (Nat.le_succ _)); have HG4 : Hid (RmAt w4 r g5) := HG3.out.1.below HB4.out; clear hb4)
            | (go_at_call 27; obtain ⟨cur, hf1, hf2, hf3, hf4⟩ := HG4.out; refine (filled_any g5 r.d.length cur _ hf1 HQ3.out.2.1 hf4).mono ?_; rintro e w5 ⟨rfl, hb5⟩; have HM5 : Hid (Below (wc.heap.size + 1) (wc.alloc (.cells #[.int .i64 r.who, .int .i64 r.seq, .slice (some ⟨g5, 0, none⟩) r.d.length (r.d.length + 3)] 46)) w5) := HM4.out.trans (hb5.mono (by have := HM4.out.size; rw [← hz5] at this; exact this)); clear hb5 hf1 hf2 hf3 hf4)
            | fail)
          have HB5 : Hid (Below wc.heap.size wc w5) := HBA.out.trans (HM5.out.mono (Nat.le_succ _))
          obtain ⟨b1, b2, b3, _⟩ := HC.out _ HM5.out
          go_wp2_with fail
          refine (spoil_any 0 r.d.length (.slice (some ⟨g5, 0, none⟩) r.d.length (r.d.length + 3)) (allCells r.d) 7 _ ((HG3.out.1.below HB5.out).own (Nat.zero_le _) HQ3.out.2.1)).mono ?_
          rintro e w6 ⟨rfl, hg6⟩
          have hg6 : w5.grownBy w6 (some g5) := hg6
          have HR6 : Hid (w6.ownsRow w.heap.size 46 3 (.slice (some ⟨gi, 0, none⟩) l.length ca) l.length (rvAll (rg.map inE)) ∧ (∀ j y, q + 1 ≤ j → rg[j]? = some y → RmAt w6 y.1 y.2) ∧ Below w.heap.size w w6 ∧ Still w2 w6 wr.heap.size) := by
            have hz5 := HB5.out.size
            refine ⟨own_grown (own_below HOc.out HB5.out) hg6 ?_, fun j y hj hy => ?_, ?_, (HSt.out.below HB5.out).grown hg6 HG3.out.2.2⟩
            · obtain ⟨cur, h1, _⟩ := HG3.out.1
              exact own_ne' HOc.out h1 (by decide)
            · have h1 := (HRc.out j y (by omega) hy).below HB5.out
              have h2 := List.pairwise_iff_getElem.1 HX2.out.2.1 q j (List.getElem?_eq_some_iff.1 HX3.out).1 (List.getElem?_eq_some_iff.1 hy).1 (by omega)
              rw [(List.getElem?_eq_some_iff.1 HX3.out).2, (List.getElem?_eq_some_iff.1 hy).2] at h2
              dsimp only at h2
              exact h1.same (hg6.block _ h1.lt (by simp only [ne_eq, Option.some.injEq]; omega))
            · exact (HBc.out.trans (HB5.out.mono hzc)).grown hg6 (by omega) (fun k hk => by simp only [Option.some.injEq] at hk; have := HG3.out.2.1; omega)
          clear hg6 b1 b2 b3
          go_wp2_with fail
          go_roundw
          case rel => first | exact ⟨q + 1, by omega, by go_num, HR6.out⟩ | ((repeat apply Exists.intro); exact ⟨⟨q + 1, by omega, by go_num, HR6.out⟩, rfl⟩)
          case measure => simp [intOf]; omega
        · have hqi : ¬ (q : Int) < (l.length : Int) := by omega
          have HT2 : Hid (TE wc wr.heap.size T E t u) := HTE.out.still HSt.out
          clear HTE HSt HRc HOc HX2 HIN
          by_cases h0 : E = 0
          · obtain ⟨rs, qs, B2, hr1, hr2, hto, hsep, huo, hB2, hlt3⟩ := HT2.out.2 h0
            have hpos : ∀ X ∈ T, 0 < X.length := fun X hX => tiers_pos (hCE.trans h0) (by rw [HT.out]; exact hX)
            have HPos : Hid (∀ X ∈ T, 0 < X.length) := hpos
            subst h0
            obtain ⟨ta, tc, rfl, hta, _⟩ := tiers_own hto
            obtain ⟨ua, uc, rfl, hua, _⟩ := tiers_own huo
            have hl1 : rs.length = T.length := by have h := congrArg List.length hr1; rw [List.length_map] at h; exact h
            have hl2 : qs.length = T.length := by have h := congrArg List.length hr2; rw [List.length_map] at h; exact h
            rw [hr1] at hta
            rw [hr2] at hua
            rw [hl1, hl2]
            rw [hl1] at hto
            rw [hl2] at huo
            have HX4 : Hid (rs.map (fun r : Tr => r.1.map (·.1)) = T ∧ qs.map (fun r : Tr => r.1.map (·.1)) = T ∧ Sep (allEl rs) ∧ wr.heap.size ≤ B2 ∧ ∀ x ∈ allEl rs, ∀ g, (elV x).ownBlock = some g → g < B2) := ⟨hr1, hr2, hsep, hB2, hlt3⟩
            have HTO : Hid (TiersOwn wc wr.heap.size (.slice ta T.length tc) rs ∧ TiersOwn wc B2 (.slice ua T.length uc) qs) := ⟨hto, huo⟩
            have HTA : Hid (TiersAt wc wc.heap.size ta T tc ∧ TiersAt wc wc.heap.size ua T uc) := ⟨hta, hua⟩
            have hTl : T.length ≤ 9223372036854775807 := Nat.le_trans hta.1 hta.2.1
            clear hr1 hr2 hsep hB2 hlt3 hto huo hta hua hpos HT2
            by_cases hT0 : T.length = 0
            · rw [hT0]
              go_wp2_with fail
              refine (first_any ⟨#[97]⟩ _ (by decide)).mono ?_
              rintro e w3 ⟨ad, rfl, hp3, hb3⟩
              have HB3 : Hid (Below w.heap.size w w3) := HBc.out.trans (hb3.mono hzc)
              have HT3 : Hid _ := BuildFirst w3 ad hp3
              clear hp3 hb3
              go_wp2_with fail
              refine Calls.mono HT3.out ?_
              rintro e w4 ⟨a4, c4, rfl, ht4, hb4⟩
              have HB4 : Hid (Below w.heap.size w w4) := HB3.out.trans (hb4.mono HB3.out.size)
              clear hb4 ht4 HT3
              go_wp2_with fail
              go_ret
              exact ⟨by first | rfl | simp, HB4.out⟩
            · have hT1 : ¬ (T.length : Int) = 0 := by omega
              have hT2 : ((T.length : Int) == 0) = false := beq_eq_false_iff_ne.2 hT1
              go_wp2_with fail
              refine (SameTiers_yes ta ua T tc uc _ HTA.out.1 HTA.out.2).mono ?_
              rintro e w3 ⟨rfl, hb3⟩
              have HB3 : Hid (Below wc.heap.size wc w3) := hb3
              clear hb3 HTA
              go_wp2_with fail
              refine (Within3_any i T.length _ (by omega) hTl).mono ?_
              rintro e w4 ⟨i', rfl, hi', rfl⟩
              obtain ⟨X, hX⟩ : ∃ X, T[i']? = some X := ⟨_, List.getElem?_eq_getElem hi'⟩
              obtain ⟨r, hr, hrX⟩ := of_map HX4.out.1 hX
              have hXp := HPos.out X (List.mem_of_getElem? hX)
              have hXl : r.1.length = X.length := by have h := congrArg List.length hrX; rw [List.length_map] at h; exact h
              have HTO3 : Hid (TiersOwn w4 wr.heap.size (.slice ta T.length tc) rs ∧ TiersOwn w4 B2 (.slice ua T.length uc) qs) := ⟨HTO.out.1.below HB3.out, HTO.out.2.below HB3.out⟩
              obtain ⟨tg, rfl, htg, y0⟩ := tr_at HTO3.out.1.2 hr
              have hro := (HTO3.out.1.1 r (List.mem_of_getElem? hr))
              obtain ⟨xs, ra, rc⟩ := r
              dsimp only at hrX hXl hro
              have y1 : w4.cell? ⟨tg, i', none⟩ = some (.slice ra X.length rc) := by rw [y0, trV, hXl]
              clear y0
              have hXm : X.length ≤ 9223372036854775807 := by
                obtain ⟨a9, c9, _, h9, _⟩ := row_own hro
                have h8 := Nat.le_trans h9.1 h9.2.1
                rw [List.length_map] at h8; omega
              have hii : (i' : Int) < (T.length : Int) := by omega
              go_wp2_with fail
              refine (Within3_any k X.length _ hXp hXm).mono ?_
              rintro e w5 ⟨k', rfl, hk', rfl⟩
              obtain ⟨d, hd⟩ : ∃ d, X[k']? = some d := ⟨_, List.getElem?_eq_getElem hk'⟩
              obtain ⟨x, hx, hxd⟩ := of_row (r := (xs, ra, rc)) hrX hd
              dsimp only at hx
              have hro2 := hro.2
              rw [trV] at hro2
              dsimp only at hro2
              obtain ⟨xg, rfl, hxg, y9⟩ := el_at hro2 hx
              obtain ⟨d2, xa, xc⟩ := x
              dsimp only at hxd
              subst hxd
              have y2 : w5.cell? ⟨xg, k', none⟩ = some (.slice xa d2.length xc) := y9
              clear y9
              have hkk : (k' : Int) < (X.length : Int) := by omega
              have HE5 : Hid (ElOwn w5 wr.heap.size (d2, xa, xc)) := hro.1 _ (List.mem_of_getElem? hx)
              have HIx : Hid (rs[i']? = some (xs, some ⟨xg, 0, none⟩, rc) ∧ xs[k']? = some (d2, xa, xc)) := ⟨hr, hx⟩
              clear hro hro2 hr hx hX hd hrX
              go_wp2_with fail
              refine (spoil_any wr.heap.size d2.length (.slice xa d2.length xc) (allCells d2) 6 _ HE5.out.2).mono ?_
              rintro e w6 ⟨rfl, hg6⟩
              have hg6 : w5.grownBy w6 (elV (d2, xa, xc)).ownBlock := hg6
              have HSE6 : Hid (SpE w6 wr.heap.size B2 (.slice (some ⟨tg, 0, none⟩) T.length tc) (.slice ua T.length uc) rs qs i' k') := ⟨sp_mk HTO3.out.1 HX4.out.2.2.1 HIx.out.1 HIx.out.2 hg6, HTO3.out.2.still (still_grown hg6 (fun g h => HX4.out.2.2.2.2 _ (List.mem_flatMap.2 ⟨_, List.mem_of_getElem? HIx.out.1, List.mem_of_getElem? HIx.out.2⟩) g h)) (Nat.le_refl _)⟩
              have HB6 : Hid (Below w.heap.size w w6) := (HBc.out.trans (HB3.out.mono hzc)).grown hg6 (by have := HB3.out.size; omega) (fun k hk => by have := (HE5.out.2.lt k hk).1; omega)
              clear hg6 y1 y2 HTO3 HTO HE5 HIx
              go_wp2_with fail
              go_loopw [129] (fun v wd => ∃ (p : Nat), p ≤ T.length ∧ v = .int .i64 p ∧ SpE wd wr.heap.size B2 (.slice (some ⟨tg, 0, none⟩) T.length tc) (.slice ua T.length uc) rs qs i' k' ∧ Below w.heap.size w wd) (fun v _ => T.length - (intOf v).toNat)
              case atStart => exact ⟨0, Nat.zero_le _, rfl, HSE6.out, HB6.out⟩
              case round =>
                rename World => wd
                obtain ⟨p, hp, rfl, hse, hbd⟩ := hrel
                have HSD : Hid (SpE wd wr.heap.size B2 (.slice (some ⟨tg, 0, none⟩) T.length tc) (.slice ua T.length uc) rs qs i' k') := hse
                have HBd2 : Hid (Below w.heap.size w wd) := hbd
                have hzd := hbd.size
                clear hse hbd
                by_cases hlt4 : p < T.length
                · have hpi : (p : Int) < (T.length : Int) := by omega
                  obtain ⟨X', hX'⟩ : ∃ X', T[p]? = some X' := ⟨_, List.getElem?_eq_getElem hlt4⟩
                  obtain ⟨r', hr', hrX'⟩ := of_map HX4.out.1 hX'
                  obtain ⟨s', hs', hsX'⟩ := of_map HX4.out.2.1 hX'
                  have hXl' : r'.1.length = X'.length := by have h := congrArg List.length hrX'; rw [List.length_map] at h; exact h
                  have hsl' : s'.1.length = X'.length := by have h := congrArg List.length hsX'; rw [List.length_map] at h; exact h
                  have hXp' := HPos.out X' (List.mem_of_getElem? hX')
                  obtain ⟨g9, e9, htg', y0⟩ := tr_at HSD.out.1.1 hr'
                  obtain rfl : tg = g9 := by simpa using e9
                  obtain ⟨ug, rfl, hug', z0⟩ := tr_at HSD.out.2.2 hs'
                  have hro := (HSD.out.1.2 p r' hr').1
                  have hso := (HSD.out.2.1 s' (List.mem_of_getElem? hs'))
                  obtain ⟨xs', ra', rc'⟩ := r'
                  obtain ⟨vs', sa', sc'⟩ := s'
                  dsimp only at hrX' hXl' hro hsX' hsl' hso
                  have hXm' : X'.length ≤ 9223372036854775807 := by
                    obtain ⟨a9, c9, _, h9, _⟩ := row_own hso
                    have h8 := Nat.le_trans h9.1 h9.2.1
                    rw [List.length_map] at h8; omega
                  have hso2 := hso.2
                  rw [trV] at hro hso2
                  dsimp only at hro hso2
                  obtain ⟨x0, hx0⟩ : ∃ x0, xs'[0]? = some x0 := ⟨_, List.getElem?_eq_getElem (by omega)⟩
                  obtain ⟨v0, hv0⟩ : ∃ v0, vs'[0]? = some v0 := ⟨_, List.getElem?_eq_getElem (by omega)⟩
                  obtain ⟨xg', rfl, hxg', _⟩ := el_at hro hx0
                  obtain ⟨vg, rfl, hvg, _⟩ := el_at hso2 hv0
                  have y1 : wd.cell? ⟨tg, p, none⟩ = some (.slice (some ⟨xg', 0, none⟩) X'.length rc') := by rw [y0, trV, hXl']
                  have z1 : wd.cell? ⟨ug, p, none⟩ = some (.slice (some ⟨vg, 0, none⟩) X'.length sc') := by rw [z0, trV, hsl']
                  have HYZ : Hid (wd.cell? ⟨tg, p, none⟩ = some (.slice (some ⟨xg', 0, none⟩) X'.length rc') ∧ wd.cell? ⟨ug, p, none⟩ = some (.slice (some ⟨vg, 0, none⟩) X'.length sc') ∧ tg < wd.heap.size ∧ ug < wd.heap.size) := ⟨y1, z1, htg', hug'⟩
                  have HRS : Hid (rs[p]? = some (xs', some ⟨xg', 0, none⟩, rc') ∧ qs[p]? = some (vs', some ⟨vg, 0, none⟩, sc') ∧ xs'.map (·.1) = X' ∧ vs'.map (·.1) = X') := ⟨hr', hs', hrX', hsX'⟩
                  clear hX' hr' hrX' hs' hsX' y0 z0 hro hso hso2 hx0 hv0 e9
                  go_wp2_with fail
                  go_loopw [137] (fun v we => ∃ (o : Nat), o ≤ X'.length ∧ v = .int .i64 o ∧ SpE we wr.heap.size B2 (.slice (some ⟨tg, 0, none⟩) T.length tc) (.slice (some ⟨ug, 0, none⟩) T.length uc) rs qs i' k' ∧ Below wd.heap.size wd we) (fun v _ => X'.length - (intOf v).toNat)
                  case atStart => exact ⟨0, Nat.zero_le _, rfl, HSD.out, Below.refl _ _⟩
                  case round =>
                    rename World => we
                    obtain ⟨o, ho, rfl, hse, hbe⟩ := hrel
                    have HSE : Hid (SpE we wr.heap.size B2 (.slice (some ⟨tg, 0, none⟩) T.length tc) (.slice (some ⟨ug, 0, none⟩) T.length uc) rs qs i' k') := hse
                    have HBe : Hid (Below wd.heap.size wd we) := hbe
                    have hze := hbe.size
                    clear hse hbe
                    by_cases hlt5 : o < X'.length
                    · have hoi : (o : Int) < (X'.length : Int) := by omega
                      obtain ⟨d', hd'⟩ : ∃ d', X'[o]? = some d' := ⟨_, List.getElem?_eq_getElem hlt5⟩
                      obtain ⟨x', hx', hxd'⟩ := of_row (r := (xs', some ⟨xg', 0, none⟩, rc')) HRS.out.2.2.1 hd'
                      obtain ⟨v', hv', hvd'⟩ := of_row (r := (vs', some ⟨vg, 0, none⟩, sc')) HRS.out.2.2.2 hd'
                      have hro := HSE.out.1.2 p _ HRS.out.1
                      have hso := HSE.out.2.1 _ (List.mem_of_getElem? HRS.out.2.1)
                      have hro1 := hro.1
                      have hso1 := hso.2
                      rw [trV] at hro1 hso1
                      dsimp only at hro1 hso1 hx' hv'
                      obtain ⟨g8, e8, h8, y4⟩ := el_at hro1 hx'
                      obtain rfl : xg' = g8 := by simpa using e8
                      obtain ⟨g7, e7, h7, z4⟩ := el_at hso1 hv'
                      obtain rfl : vg = g7 := by simpa using e7
                      have hxo := hro.2 o x' hx'
                      have hvo := (el_parts (hso.1 v' (List.mem_of_getElem? hv'))).1
                      obtain ⟨dx, xa', xc'⟩ := x'
                      obtain ⟨dv, va, vc'⟩ := v'
                      dsimp only at hxd' hvd' hvo
                      subst hxd' hvd'
                      have HC : Hid (∀ w', Below we.heap.size we w' → w'.cell? ⟨tg, p, none⟩ = some (.slice (some ⟨xg', 0, none⟩) X'.length rc') ∧ w'.cell? ⟨ug, p, none⟩ = some (.slice (some ⟨vg, 0, none⟩) X'.length sc') ∧ w'.cell? ⟨xg', o, none⟩ = some (.slice xa' dv.length xc') ∧ w'.cell? ⟨vg, o, none⟩ = some (.slice va dv.length vc')) := fun w' h => by
                        have h2 := HBe.out.trans (h.mono hze)
                        exact ⟨(h2.cell (p := ⟨tg, _, none⟩) HYZ.out.2.2.1).trans HYZ.out.1, (h2.cell (p := ⟨ug, _, none⟩) HYZ.out.2.2.2).trans HYZ.out.2.1, (h.cell (p := ⟨xg', _, none⟩) h8).trans y4, (h.cell (p := ⟨vg, _, none⟩) h7).trans z4⟩
                      have HQv : Hid (PartsAt we we.heap.size va dv) := hvo
                      have HXO : Hid (p ≠ i' ∨ o ≠ k' → ElOwn we wr.heap.size (dv, xa', xc')) := hxo
                      clear hd' hx' hv' hro hso hro1 hso1 e8 e7 y4 z4 hxo hvo
                      by_cases hpp : p = i'
                      · have hne1 : ((p : Int) != (i' : Int)) = false := by rw [hpp]; exact bne_self_eq_false _
                        by_cases hoo : o = k'
                        · have hne2 : ((o : Int) != (k' : Int)) = false := by rw [hoo]; exact bne_self_eq_false _
                          clear HXO HQv hpp hoo
                          go_wp2_with fail
                          go_quiet (fail)
                          go_wp2_with fail
                          go_roundw
                          case rel => first | exact ⟨o + 1, by omega, by go_num, HSE.out.below (below_dn _), HBe.out.trans ((below_dn _).mono hze)⟩ | ((repeat apply Exists.intro); exact ⟨⟨o + 1, by omega, by go_num, HSE.out.below (below_dn _), HBe.out.trans ((below_dn _).mono hze)⟩, rfl⟩)
                          case measure => simp [intOf]; omega
                        · have hne2 : ((o : Int) != (k' : Int)) = true := bne_iff_ne.2 (by omega)
                          have HPQ : Hid (PartsAt we we.heap.size xa' dv ∧ PartsAt we we.heap.size va dv) := ⟨(el_parts (HXO.out (.inr hoo))).1, HQv.out⟩
                          clear hpp hoo HXO HQv
                          go_wp2_with fail
                          go_region_held3 (fun w' => w'.cell? ⟨tg, p, none⟩ = some (.slice (some ⟨xg', 0, none⟩) X'.length rc') ∧ w'.cell? ⟨ug, p, none⟩ = some (.slice (some ⟨vg, 0, none⟩) X'.length sc') ∧ w'.cell? ⟨xg', o, none⟩ = some (.slice xa' dv.length xc') ∧ w'.cell? ⟨vg, o, none⟩ = some (.slice va dv.length vc')) (first | exact HC.out _ HB8.out | exact HC.out _ (Below.refl _ _).drew | exact HC.out _ (Below.refl _ _) | fail) (first | (go_at_call 16; refine (Same_yes xa' va dv xc' vc' _ (HPQ.out.1.here ((Below.refl _ _).drew) (Nat.le_refl _)) (HPQ.out.2.here ((Below.refl _ _).drew) (Nat.le_refl _))).mono ?_; rintro e w8 ⟨rfl, hb8⟩; have HB8 : Hid (Below we.heap.size we w8) := (Below.refl _ _).drew.trans (hb8.mono (by simp)); clear hb8) | fail)
                          go_wp2_with fail
                          go_roundw
                          case rel => first | exact ⟨o + 1, by omega, by go_num, HSE.out.below (HB8.out), HBe.out.trans ((HB8.out).mono hze)⟩ | ((repeat apply Exists.intro); exact ⟨⟨o + 1, by omega, by go_num, HSE.out.below (HB8.out), HBe.out.trans ((HB8.out).mono hze)⟩, rfl⟩)
                          case measure => simp [intOf]; omega
                      · have hne1 : ((p : Int) != (i' : Int)) = true := bne_iff_ne.2 (by omega)
                        have HPQ : Hid (PartsAt we we.heap.size xa' dv ∧ PartsAt we we.heap.size va dv) := ⟨(el_parts (HXO.out (.inl hpp))).1, HQv.out⟩
                        clear hpp HXO HQv
                        go_wp2_with fail
                        first
                          | go_region_held (fun w' => w'.cell? ⟨tg, p, none⟩ = some (.slice (some ⟨xg', 0, none⟩) X'.length rc') ∧ w'.cell? ⟨ug, p, none⟩ = some (.slice (some ⟨vg, 0, none⟩) X'.length sc') ∧ w'.cell? ⟨xg', o, none⟩ = some (.slice xa' dv.length xc') ∧ w'.cell? ⟨vg, o, none⟩ = some (.slice va dv.length vc')) (first | exact HC.out _ HB8.out | exact HC.out _ (Below.refl _ _).drew | exact HC.out _ (Below.refl _ _) | fail) (first | (go_at_call 16; refine (Same_yes xa' va dv xc' vc' _ (HPQ.out.1.here ((Below.refl _ _).drew) (Nat.le_refl _)) (HPQ.out.2.here ((Below.refl _ _).drew) (Nat.le_refl _))).mono ?_; rintro e w8 ⟨rfl, hb8⟩; have HB8 : Hid (Below we.heap.size we w8) := (Below.refl _ _).drew.trans (hb8.mono (by simp)); clear hb8) | fail)
                          | fail
                        all_goals
                          go_wp2_with fail
                          go_roundw
                          case rel => first | exact ⟨o + 1, by omega, by go_num, HSE.out.below (HB8.out), HBe.out.trans ((HB8.out).mono hze)⟩ | ((repeat apply Exists.intro); exact ⟨⟨o + 1, by omega, by go_num, HSE.out.below (HB8.out), HBe.out.trans ((HB8.out).mono hze)⟩, rfl⟩)
                          case measure => simp [intOf]; omega
                    · have hoi : ¬ (o : Int) < (X'.length : Int) := by omega
                      have HBz : Hid (Below w.heap.size w we) := HBd2.out.trans (HBe.out.mono hzd)
                      go_wp2_with fail
                      go_roundw
                      case rel => first | exact ⟨p + 1, by omega, by go_num, HSE.out, HBz.out⟩ | ((repeat apply Exists.intro); exact ⟨⟨p + 1, by omega, by go_num, HSE.out, HBz.out⟩, rfl⟩)
                      case measure => simp [intOf]; omega
                · have hpi : ¬ (p : Int) < (T.length : Int) := by omega
                  go_wp2_with fail
                  go_ret
                  exact ⟨by first | rfl | simp, HBd2.out⟩
          · have h0' : (E != 0) = true := by simp [h0]
            obtain rfl := HT2.out.1 h0
            go_wp2_with fail
            refine (first_any ⟨#[97]⟩ _ (by decide)).mono ?_
            rintro e w3 ⟨ad, rfl, hp3, hb3⟩
            have HB3 : Hid (Below w.heap.size w w3) := HBc.out.trans (hb3.mono hzc)
            have HT3 : Hid _ := BuildFirst w3 ad hp3
            clear hp3 hb3
            go_wp2_with fail
            refine Calls.mono HT3.out ?_
            rintro e w4 ⟨a4, c4, rfl, ht4, hb4⟩
            have HB4 : Hid (Below w.heap.size w w4) := HB3.out.trans (hb4.mono HB3.out.size)
            clear hb4 ht4 HT3
            go_wp2_with fail
            go_ret
            exact ⟨by first | rfl | simp, HB4.out⟩
end Go.Proofs.Ytinhidddfpjjkab
