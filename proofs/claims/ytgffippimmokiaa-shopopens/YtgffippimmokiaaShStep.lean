/- What sayHead does. -/
import Derived.Test.YtgffippimmokiaaShTab
import Derived.Test.YtgffippimmokiaaHotHead
import Derived.Test.YtgffippimmokiaaShNewest
namespace Go.Proofs.Ytgffippimmokiaa
open Go.RowKit
set_option linter.unusedSimpArgs false
set_option linter.unusedVariables false

/-- the head that a move says, and the archive behind it -/
def headB (S : Sh) : ByteArray := ⟨(hdT (((S.log.gen : Int) + 1) :: (S.floor : Int) :: tabK S.log (S.floor - S.log.base)) (textAt S.log.text S.log.revs (S.floor - S.log.base))).toArray⟩
def stepHead (S : Sh) : Sh := { S.disk S.c S.x (headB S) 0 with stage := 2 }
theorem hdT_len (l : List Int) (t : List UInt8) : (hdT l t).length ≤ 4007 := by
  unfold hdT
  split
  · unfold putT
    split
    · rename_i h
      obtain ⟨_, _, h3⟩ := putE_ok h
      rw [frameL_len]; omega
    · simp
  · simp
theorem ShOf.staged {w : World} {g : Nat} {S : Sh} {v : Value} {xs : List (Rv × Option Addr × Nat)} (h : ShOf w g S v xs) (n : Nat) :
    ShOf (w.setCell ⟨g, 44, none⟩ (.int .i64 (n : Nat))) g { S with stage := n } v xs ∧ Aside g w (w.setCell ⟨g, 44, none⟩ (.int .i64 (n : Nat))) := by
  have ha : Aside g w (w.setCell ⟨g, 44, none⟩ (.int .i64 (n : Nat))) := (Aside.refl g w).put 44 _
  have hput := h.1.put 44 (.int .i64 (n : Nat))
  have e : (shC S v).set 44 (.int .i64 (n : Nat)) = shC { S with stage := n } v := (shL_set (sC_len h.2.2.2.1 h.2.2.2.2)).2.2.1 (n : Nat)
  rw [e] at hput
  exact ⟨h.revs ha hput rfl h.2.2.2.1 h.2.2.2.2, ha⟩
set_option maxRecDepth 100000 in
set_option maxHeartbeats 8000000 in
theorem SayHead_any (S : Sh) (g : Nat) (w : World) (h : ShIs w g S) (ok : ShOk S) (hg : S.log.gen < 2147483647) (h1 : S.log.base ≤ S.floor) (h2 : S.floor ≤ headN S) :
    Calls Try.prog 51 #[.pointer (some ⟨g, 0, none⟩)] w fun e w' => e = .returned (.tuple #[]) ∧ ShIs w' g (stepHead S) ∧ Aside g w w' := by
  obtain ⟨nn, lok⟩ := ok.log
  obtain ⟨v, xs, hof⟩ := h
  obtain ⟨va, vc, hv, hvc, hrv⟩ := hof.revsAt lok.revs
  subst hv
  obtain ⟨k, hk⟩ : ∃ k, S.floor = S.log.base + k := ⟨S.floor - S.log.base, by omega⟩
  have hkl : k ≤ S.log.revs.length := by unfold headN at h2; omega
  have hko : S.floor - S.log.base = k := by omega
  obtain ⟨L, hL⟩ : ∃ L, sC S.log (.slice va S.log.revs.length vc) S.log.good = L := ⟨_, rfl⟩
  have l0 : L.length = 38 := by rw [← hL]; exact sC_len lok.first lok.table
  have hinfo : (Try.prog.info? 82).map (·.size) = some L.length := by rw [l0]; exact infoLg
  have HLog : Hid (∀ w', ShOf w' g S (.slice va S.log.revs.length vc) xs → w'.rangeAt g 5 L ∧ w'.cell? ⟨g, 5, none⟩ = some (.int .i64 S.log.gen)) := by
    intro w' h
    have h1 := h.log
    rw [hL] at h1
    exact ⟨h1, h.cells.2.1.1⟩
  have HTb : Hid (∀ w, RevsAt w w.heap.size va S.log.revs → Calls Try.prog 91 #[.agg L.toArray, .int .i64 (S.floor : Nat)] w fun e w' => e = .returned (.agg (jzC (tabK S.log k)).toArray) ∧ Below w.heap.size w w') := by
    intro w hl
    rw [← hL, hk]
    exact TableAt_any S.log va vc k S.log.good w hl hvc lok.first lok.table lok.revs lok.ends (hist_ones lok.hist) hkl
  obtain ⟨t1, t2⟩ := shTextR_ok (S := S) hkl
  have HTx : Hid (∀ w, ShIs w g S → Calls Try.prog 18 #[.pointer (some ⟨g, 0, none⟩), .int .i64 (S.floor : Nat)] w fun e w' => e = .returned (.tuple #[.string ⟨(textAt S.log.text S.log.revs k).toArray⟩, .int .i64 0]) ∧ Below w.heap.size w w') := by
    intro w h
    have h3 := ShText_any S ((S.log.base + k : Nat) : Int) g w h ok.log
    rw [t1, t2] at h3
    rw [hk]
    exact h3
  have hts : (textAt S.log.text S.log.revs k).length ≤ 500 := text_le lok.hist lok.text k
  have HHd : Hid (∀ w, Calls Try.prog 63 #[.int .i64 ((S.log.gen : Int) + 1), .int .i64 (S.floor : Nat), .string ⟨(textAt S.log.text S.log.revs k).toArray⟩, .agg (jzC (tabK S.log k)).toArray] w fun e w' => ∃ q : Int, e = .returned (.tuple #[.string (headB S), .int .i64 q]) ∧ Below w.heap.size w w') := by
    intro w
    have h3 := Head_any ((S.log.gen : Int) + 1) (S.floor : Nat) ⟨(textAt S.log.text S.log.revs k).toArray⟩ (tabK S.log k) (tabK_len _ lok.first k) (by show (textAt S.log.text S.log.revs k).toArray.size ≤ _; rw [List.size_toArray]; omega) w
    refine h3.mono fun e w' h => ?_
    refine ⟨hdE (((S.log.gen : Int) + 1) :: ((S.floor : Nat) : Int) :: tabK S.log k) (textAt S.log.text S.log.revs k), ?_, h.2⟩
    rw [h.1]
    unfold headB
    rw [hko]
  have HOK : Hid (DkOk S ∧ (headB S).size ≤ 4007) := ⟨ok.dk, by unfold headB; show (hdT _ _).toArray.size ≤ _; rw [List.size_toArray]; exact hdT_len _ _⟩
  have HO : Hid (ShOf w g S (.slice va S.log.revs.length vc) xs) := hof
  have HR : Hid (∀ w', Below w.heap.size w w' → RevsAt w' w'.heap.size va S.log.revs) := fun w' hb => hrv.here hb (Nat.le_refl _)
  have c45 : w.cell? ⟨g, 45, none⟩ = some (.int .i64 S.floor) := hof.cells.2.2.2.2.1
  have hgl := hof.1.lt
  have hw1 : IntKind.i64.wrap ((S.log.gen : Int) + 1) = (S.log.gen : Int) + 1 := IntWalk.i64_in _ ⟨by omega, by omega⟩
  obtain ⟨t, ht⟩ : ∃ t : ByteArray, (⟨(textAt S.log.text S.log.revs k).toArray⟩ : ByteArray) = t := ⟨_, rfl⟩
  obtain ⟨G, hG⟩ : ∃ G : Int, (S.log.gen : Int) = G := ⟨_, rfl⟩
  obtain ⟨T, hT⟩ : ∃ T, (jzC (tabK S.log k)).toArray = T := ⟨_, rfl⟩
  rw [ht] at HTx HHd
  rw [hG] at HLog HHd hw1
  rw [hT] at HTb HHd
  obtain ⟨F, hF⟩ : ∃ F : Int, ((S.floor : Nat) : Int) = F := ⟨_, rfl⟩
  rw [hF] at HTb HTx HHd c45
  clear hof hvc hrv hL l0 lok ok t1 t2 hts hkl hko h1 h2 hk hg ht hG hT hF
  go_enter Try.func51, Try.ntmps51
  have HI : Hid (ShIs w g S) := ⟨_, _, HO.out⟩
  go_wp2_with fail
  with_reducible refine (HTx.out _ HI.out).mono ?_
  rintro e w1 ⟨rfl, hb1⟩
  have HB1 : Hid (Below w.heap.size w w1) := hb1
  have HO1 : Hid (ShOf w1 g S (.slice va S.log.revs.length vc) xs) := HO.out.below hb1
  clear c45 hgl hb1
  have HSs : Hid (∀ w', Below w1.heap.size w1 w' → w'.rangeAt g 5 L ∧ w'.cell? ⟨g, 5, none⟩ = some (.int .i64 G)) := fun w' hb => HLog.out w' (HO1.out.below hb)
  go_upto_region 2 with fail
  try simp only [Act.put, List.getElem_toArray, List.getElem_cons_succ, List.getElem_cons_zero, List.setIfInBounds_toArray, List.set_cons_zero, List.set_cons_succ]
  refine wp_region_held_drew (S := fun w' => w'.rangeAt g 5 L ∧ w'.cell? ⟨g, 5, none⟩ = some (.int .i64 G)) (by kernel_rfl) (HSs.out _ (Below.refl _ w1).drew) (fun hHeld => ?_)
  refine wpAnyH_take (i := 0) (v := .pointer (some ⟨g, 0, none⟩)) rfl (by kernel_rfl) (by kernel_rfl) (by kernel_rfl) (fun _ _ _ h => h) (Or.inl ⟨by kernel_rfl, fun w' hSw => by obtain ⟨s0, s1⟩ := hSw; first | (go_simp; done) | (go_simp; rfl)⟩) hHeld ?_
  try simp only [Act.put, List.getElem_toArray, List.getElem_cons_succ, List.getElem_cons_zero, List.setIfInBounds_toArray, List.set_cons_zero, List.set_cons_succ]
  refine wpAnyH_take (i := 1) (v := .pointer (some ⟨g, 0, none⟩)) rfl (by kernel_rfl) (by kernel_rfl) (by kernel_rfl) (fun _ _ _ h => h) (Or.inl ⟨by kernel_rfl, fun w' hSw => by obtain ⟨s0, s1⟩ := hSw; first | (go_simp; done) | (go_simp; rfl)⟩) hHeld ?_
  try simp only [Act.put, List.getElem_toArray, List.getElem_cons_succ, List.getElem_cons_zero, List.setIfInBounds_toArray, List.set_cons_zero, List.set_cons_succ]
  refine wpAnyH_take (i := 2) (v := .pointer (some ⟨g, 5, none⟩)) rfl (by kernel_rfl) (by kernel_rfl) (by kernel_rfl) (fun _ _ _ h => h) (Or.inl ⟨by kernel_rfl, fun w' hSw => by obtain ⟨s0, s1⟩ := hSw; first | (go_simp; done) | (go_simp; rfl)⟩) hHeld ?_
  try simp only [Act.put, List.getElem_toArray, List.getElem_cons_succ, List.getElem_cons_zero, List.setIfInBounds_toArray, List.set_cons_zero, List.set_cons_succ]
  refine wpAnyH_take (i := 3) (v := .pointer (some ⟨g, 5, none⟩)) rfl (by kernel_rfl) (by kernel_rfl) (by kernel_rfl) (fun _ _ _ h => h) (Or.inl ⟨by kernel_rfl, fun w' hSw => by obtain ⟨s0, s1⟩ := hSw; first | (go_simp; done) | (go_simp; rfl)⟩) hHeld ?_
  try simp only [Act.put, List.getElem_toArray, List.getElem_cons_succ, List.getElem_cons_zero, List.setIfInBounds_toArray, List.set_cons_zero, List.set_cons_succ]
  refine wpAnyH_take (i := 4) (v := .int .i64 G) rfl (by kernel_rfl) (by kernel_rfl) (by kernel_rfl) (fun _ _ _ h => h) (Or.inl ⟨by kernel_rfl, fun w' hSw => by obtain ⟨s0, s1⟩ := hSw; first | (go_simp; done) | (go_simp; rfl)⟩) hHeld ?_
  try simp only [Act.put, List.getElem_toArray, List.getElem_cons_succ, List.getElem_cons_zero, List.setIfInBounds_toArray, List.set_cons_zero, List.set_cons_succ]
  refine wpAnyH_take (i := 5) (v := .int .i64 (G + 1)) rfl (by kernel_rfl) (by kernel_rfl) (by kernel_rfl) (fun _ _ _ h => h) (Or.inl ⟨by kernel_rfl, fun w' hSw => by obtain ⟨s0, s1⟩ := hSw; first | (go_simp; done) | (go_simp; rfl)⟩) hHeld ?_
  try simp only [Act.put, List.getElem_toArray, List.getElem_cons_succ, List.getElem_cons_zero, List.setIfInBounds_toArray, List.set_cons_zero, List.set_cons_succ]
  refine wpAnyH_take (i := 6) (v := .int .i64 F) rfl (by kernel_rfl) (by kernel_rfl) (by kernel_rfl) (fun _ _ _ h => h) (Or.inl ⟨by kernel_rfl, fun w' hSw => by obtain ⟨s0, s1⟩ := hSw; first | (go_simp; done) | (go_simp; rfl)⟩) hHeld ?_
  try simp only [Act.put, List.getElem_toArray, List.getElem_cons_succ, List.getElem_cons_zero, List.setIfInBounds_toArray, List.set_cons_zero, List.set_cons_succ]
  refine wpAnyH_take (i := 7) (v := .string t) rfl (by kernel_rfl) (by kernel_rfl) (by kernel_rfl) (fun _ _ _ h => h) (Or.inl ⟨by kernel_rfl, fun w' hSw => by obtain ⟨s0, s1⟩ := hSw; first | (go_simp; done) | (go_simp; rfl)⟩) hHeld ?_
  try simp only [Act.put, List.getElem_toArray, List.getElem_cons_succ, List.getElem_cons_zero, List.setIfInBounds_toArray, List.set_cons_zero, List.set_cons_succ]
  refine wpAnyH_take (i := 8) (v := .pointer (some ⟨g, 0, none⟩)) rfl (by kernel_rfl) (by kernel_rfl) (by kernel_rfl) (fun _ _ _ h => h) (Or.inl ⟨by kernel_rfl, fun w' hSw => by obtain ⟨s0, s1⟩ := hSw; first | (go_simp; done) | (go_simp; rfl)⟩) hHeld ?_
  try simp only [Act.put, List.getElem_toArray, List.getElem_cons_succ, List.getElem_cons_zero, List.setIfInBounds_toArray, List.set_cons_zero, List.set_cons_succ]
  refine wpAnyH_take (i := 9) (v := .pointer (some ⟨g, 0, none⟩)) rfl (by kernel_rfl) (by kernel_rfl) (by kernel_rfl) (fun _ _ _ h => h) (Or.inl ⟨by kernel_rfl, fun w' hSw => by obtain ⟨s0, s1⟩ := hSw; first | (go_simp; done) | (go_simp; rfl)⟩) hHeld ?_
  try simp only [Act.put, List.getElem_toArray, List.getElem_cons_succ, List.getElem_cons_zero, List.setIfInBounds_toArray, List.set_cons_zero, List.set_cons_succ]
  refine wpAnyH_take (i := 10) (v := .pointer (some ⟨g, 5, none⟩)) rfl (by kernel_rfl) (by kernel_rfl) (by kernel_rfl) (fun _ _ _ h => h) (Or.inl ⟨by kernel_rfl, fun w' hSw => by obtain ⟨s0, s1⟩ := hSw; first | (go_simp; done) | (go_simp; rfl)⟩) hHeld ?_
  try simp only [Act.put, List.getElem_toArray, List.getElem_cons_succ, List.getElem_cons_zero, List.setIfInBounds_toArray, List.set_cons_zero, List.set_cons_succ]
  refine wpAnyH_take (i := 11) rfl (by kernel_rfl) (by kernel_rfl) (by kernel_rfl) (fun _ _ _ h => h) (yieldsIf_load_mid (by kernel_rfl) 82 _ rfl g 5 rfl L _ (fun w h => h.1) Try.underlying82 rfl hinfo) hHeld ?_
  try simp only [Act.put, List.getElem_toArray, List.getElem_cons_succ, List.getElem_cons_zero, List.setIfInBounds_toArray, List.set_cons_zero, List.set_cons_succ]
  refine wpAnyH_take (i := 12) (v := .int .i64 F) rfl (by kernel_rfl) (by kernel_rfl) (by kernel_rfl) (fun _ _ _ h => h) (Or.inl ⟨by kernel_rfl, fun w' hSw => by obtain ⟨s0, s1⟩ := hSw; first | (go_simp; done) | (go_simp; rfl)⟩) hHeld ?_
  try simp only [Act.put, List.getElem_toArray, List.getElem_cons_succ, List.getElem_cons_zero, List.setIfInBounds_toArray, List.set_cons_zero, List.set_cons_succ]
  refine wpAnyH_ready (rs := [13]) (by kernel_rfl) (by simp) ?_
  refine AllReadyH.cons rfl (fun K hK => ?_) AllReadyH.nil
  go_simp
  with_reducible refine (HTb.out _ (HR.out _ (HB1.out.drew))).mono ?_
  rintro e w2 ⟨rfl, hb2⟩
  have HB2 : Hid (Below w1.heap.size w1 w2) := ((Below.refl w1.heap.size w1).drew).trans hb2
  clear hb2
  go_wp2_with fail
  refine hK.out _ _ (HSs.out _ HB2.out) (fun hHeld2 => ?_)
  clear hK K
  try simp only [Act.put, List.getElem_toArray, List.getElem_cons_succ, List.getElem_cons_zero, List.setIfInBounds_toArray, List.set_cons_zero, List.set_cons_succ]
  refine wpAnyH_ready (rs := [14]) (by kernel_rfl) (by simp) ?_
  refine AllReadyH.cons rfl (fun K hK => ?_) AllReadyH.nil
  go_simp
  with_reducible refine (HHd.out _).mono ?_
  rintro e w3 ⟨q, rfl, hb3⟩
  have HB3 : Hid (Below w1.heap.size w1 w3) := HB2.out.trans (hb3.mono HB2.out.size)
  clear hb3
  go_wp2_with fail
  refine hK.out _ _ (HSs.out _ HB3.out) (fun hHeld3 => ?_)
  clear hK K
  try simp only [Act.put, List.getElem_toArray, List.getElem_cons_succ, List.getElem_cons_zero, List.setIfInBounds_toArray, List.set_cons_zero, List.set_cons_succ]
  refine wpAnyH_take (i := 15) (v := .tuple #[.string (headB S), .int .i64 q]) rfl (by kernel_rfl) (by kernel_rfl) (by kernel_rfl) (fun _ _ _ h => h) (Or.inl ⟨by kernel_rfl, fun w' hSw => by obtain ⟨s0, s1⟩ := hSw; first | (go_simp; done) | (go_simp; rfl)⟩) hHeld3 ?_
  try simp only [Act.put, List.getElem_toArray, List.getElem_cons_succ, List.getElem_cons_zero, List.setIfInBounds_toArray, List.set_cons_zero, List.set_cons_succ]
  refine wpAnyH_take (i := 16) (v := .string (headB S)) rfl (by kernel_rfl) (by kernel_rfl) (by kernel_rfl) (fun _ _ _ h => h) (Or.inl ⟨by kernel_rfl, fun w' hSw => by obtain ⟨s0, s1⟩ := hSw; first | (go_simp; done) | (go_simp; rfl)⟩) hHeld3 ?_
  try simp only [Act.put, List.getElem_toArray, List.getElem_cons_succ, List.getElem_cons_zero, List.setIfInBounds_toArray, List.set_cons_zero, List.set_cons_succ]
  refine wpAnyH_take (i := 17) (v := .int .i64 q) rfl (by kernel_rfl) (by kernel_rfl) (by kernel_rfl) (fun _ _ _ h => h) (Or.inl ⟨by kernel_rfl, fun w' hSw => by obtain ⟨s0, s1⟩ := hSw; first | (go_simp; done) | (go_simp; rfl)⟩) hHeld3 ?_
  try simp only [Act.put, List.getElem_toArray, List.getElem_cons_succ, List.getElem_cons_zero, List.setIfInBounds_toArray, List.set_cons_zero, List.set_cons_succ]
  refine wpAnyH_take (i := 18) (v := .string (headB S)) rfl (by kernel_rfl) (by kernel_rfl) (by kernel_rfl) (fun _ _ _ h => h) (Or.inl ⟨by kernel_rfl, fun w' hSw => by obtain ⟨s0, s1⟩ := hSw; first | (go_simp; done) | (go_simp; rfl)⟩) hHeld3 ?_
  try simp only [Act.put, List.getElem_toArray, List.getElem_cons_succ, List.getElem_cons_zero, List.setIfInBounds_toArray, List.set_cons_zero, List.set_cons_succ]
  refine wpAnyH_take (i := 19) (v := .int .i64 q) rfl (by kernel_rfl) (by kernel_rfl) (by kernel_rfl) (fun _ _ _ h => h) (Or.inl ⟨by kernel_rfl, fun w' hSw => by obtain ⟨s0, s1⟩ := hSw; first | (go_simp; done) | (go_simp; rfl)⟩) hHeld3 ?_
  try simp only [Act.put, List.getElem_toArray, List.getElem_cons_succ, List.getElem_cons_zero, List.setIfInBounds_toArray, List.set_cons_zero, List.set_cons_succ]
  refine wpAnyH_done (by kernel_rfl) ?_ _
  have HO3 : Hid (ShOf w3 g S (.slice va S.log.revs.length vc) xs) := HO1.out.below HB3.out
  have HI3 : Hid (ShIs w3 g S) := ⟨_, _, HO3.out⟩
  have HA3 : Hid (Aside g w w3) := below_aside (HB1.out.trans (HB3.out.mono HB1.out.size)) g
  clear hHeld hHeld2 hHeld3
  have c4 := HO3.out.cells.1.2.2.2.2
  have hgl := HO3.out.1.lt
  obtain ⟨m, hm⟩ : ∃ m : Int, 1 - (S.cur : Int) = m := ⟨_, rfl⟩
  have hwm : IntKind.i64.wrap (1 - (S.cur : Int)) = m := by
    have := HOK.out.1.cur
    rw [IntWalk.i64_in _ ⟨by omega, by omega⟩, hm]
  have HCl : Hid _ := fun w h => ShClear_oth S g w h HOK.out.1
  rw [hm] at HCl
  have HDk4 : Hid (DkOk (S.disk S.c S.x ⟨#[]⟩ 0)) := ⟨HOK.out.1.cur, HOK.out.1.one, (show slE (⟨#[]⟩ : ByteArray) 0 = 0 from by decide)⟩
  have HSy : Hid (∀ w, ShIs w g (S.disk S.c S.x ⟨#[]⟩ 0) → Calls Try.prog 59 #[.pointer (some ⟨g, 0, none⟩), .int .i64 m, .string (headB S)] w fun e w' => e = .returned (.tuple #[]) ∧ ShIs w' g (S.disk S.c S.x (headB S) 0) ∧ Aside g w w') := by
    intro w h
    have h3 := ShSay_oth (S.disk S.c S.x ⟨#[]⟩ 0) (headB S) g w h HDk4.out (by show (⟨#[]⟩ : ByteArray).size + _ ≤ _; have := HOK.out.2; have : (⟨#[]⟩ : ByteArray).size = 0 := rfl; omega)
    have e : (1 : Int) - ((S.disk S.c S.x ⟨#[]⟩ 0).cur : Int) = m := hm
    rw [e] at h3
    have e2 : (S.disk S.c S.x ⟨#[]⟩ 0).disk (S.disk S.c S.x ⟨#[]⟩ 0).c (S.disk S.c S.x ⟨#[]⟩ 0).x ((S.disk S.c S.x ⟨#[]⟩ 0).o ++ headB S) (S.disk S.c S.x ⟨#[]⟩ 0).y = S.disk S.c S.x (headB S) 0 := by
      have e3 : (⟨#[]⟩ : ByteArray) ++ headB S = headB S := ByteArray.empty_append
      show S.disk S.c S.x ((⟨#[]⟩ : ByteArray) ++ headB S) 0 = _
      rw [e3]
    rw [e2] at h3
    exact h3
  clear hm
  go_wp2_with fail
  with_reducible refine (HCl.out _ HI3.out).mono ?_
  rintro e w4 ⟨rfl, hs4, ha4⟩
  have HI4 : Hid (ShIs w4 g (S.disk S.c S.x ⟨#[]⟩ 0)) := hs4
  have HA4 : Hid (Aside g w w4) := HA3.out.trans ha4
  clear c4 hgl ha4
  obtain ⟨v4, xs4, hof4⟩ := hs4
  have c4 : w4.cell? ⟨g, 4, none⟩ = some (.int .i64 S.cur) := hof4.cells.1.2.2.2.2
  have hgl := hof4.1.lt
  clear hof4
  go_wp2_with fail
  with_reducible refine (HSy.out _ HI4.out).mono ?_
  rintro e w5 ⟨rfl, hs5, ha5⟩
  have HA5 : Hid (Aside g w w5) := HA4.out.trans ha5
  clear c4 hgl ha5
  obtain ⟨v5, xs5, hof5⟩ := hs5
  have HO5 : Hid (ShOf w5 g (S.disk S.c S.x (headB S) 0) v5 xs5) := hof5
  have c44 := hof5.cells.2.2.2.1
  have f44 := hof5.1.free 44
  have HF : Hid (ShOf (w5.setCell ⟨g, 44, none⟩ (.int .i64 2)) g (stepHead S) v5 xs5 ∧ Aside g w5 (w5.setCell ⟨g, 44, none⟩ (.int .i64 2))) := by
    have h2 := hof5.staged 2
    exact h2
  clear hof5
  go_wp2_with fail
  go_end0
  exact ⟨rfl, ⟨_, _, HF.out.1⟩, HA5.out.trans HF.out.2⟩
end Go.Proofs.Ytgffippimmokiaa

/- What sayNext does. -/
namespace Go.Proofs.Ytgffippimmokiaa
open Go.RowKit
set_option linter.unusedSimpArgs false
set_option linter.unusedVariables false

def doneB : ByteArray := ⟨(frameL 3 []).toArray⟩
/-- the revision that a move says next -/
def revAt (S : Sh) : Rv := S.log.revs[S.said - S.log.base]?.getD ⟨0, 0, []⟩
def stepNext (S : Sh) : Sh := if S.said = headN S then { S.disk S.c S.x (S.o ++ doneB) S.y with stage := 3 } else { S.disk S.c S.x (S.o ++ frB (revAt S)) S.y with said := S.said + 1 }
theorem ShOf.saidTo {w : World} {g : Nat} {S : Sh} {v : Value} {xs : List (Rv × Option Addr × Nat)} (h : ShOf w g S v xs) (n : Nat) :
    ShOf (w.setCell ⟨g, 46, none⟩ (.int .i64 (n : Nat))) g { S with said := n } v xs ∧ Aside g w (w.setCell ⟨g, 46, none⟩ (.int .i64 (n : Nat))) := by
  have ha : Aside g w (w.setCell ⟨g, 46, none⟩ (.int .i64 (n : Nat))) := (Aside.refl g w).put 46 _
  have hput := h.1.put 46 (.int .i64 (n : Nat))
  have e : (shC S v).set 46 (.int .i64 (n : Nat)) = shC { S with said := n } v := (shL_set (sC_len h.2.2.2.1 h.2.2.2.2)).2.2.2.2 (n : Nat)
  rw [e] at hput
  exact ⟨h.revs ha hput rfl h.2.2.2.1 h.2.2.2.2, ha⟩
theorem two_cells {w w' : World} {g b o : Nat} {S : Sh} {v : Value} {xs : List (Rv × Option Addr × Nat)} {r : Rv} {ai : Option Addr} {ci : Nat} (h : ShOf w g S v xs) (hb : Below w.heap.size w w') (hbl : b < w.heap.size)
    (d0 : w.cell? ⟨b, o, none⟩ = some (.int .i64 r.who)) (d1 : w.cell? ⟨b, o + 1, none⟩ = some (.int .i64 r.seq)) (d2 : w.cell? ⟨b, o + 2, none⟩ = some (.slice ai r.d.length ci)) :
    (w'.cell? ⟨g, 40, none⟩ = some v ∧ w'.cell? ⟨g, 46, none⟩ = some (.int .i64 S.said) ∧ w'.cell? ⟨g, 6, none⟩ = some (.int .i64 S.log.base)) ∧ w'.cell? ⟨b, o, none⟩ = some (.int .i64 r.who) ∧ w'.cell? ⟨b, o + 1, none⟩ = some (.int .i64 r.seq) ∧ w'.cell? ⟨b, o + 2, none⟩ = some (.slice ai r.d.length ci) := by
  obtain ⟨_, ⟨_, c6, _, c40⟩, _, _, _, c46⟩ := (h.below hb).cells
  exact ⟨⟨c40, c46, c6⟩, (hb.cell (p := ⟨b, o, none⟩) hbl).trans d0, (hb.cell (p := ⟨b, o + 1, none⟩) hbl).trans d1, (hb.cell (p := ⟨b, o + 2, none⟩) hbl).trans d2⟩
set_option maxRecDepth 100000 in
set_option maxHeartbeats 8000000 in
theorem SayNext_any (S : Sh) (g : Nat) (w : World) (h : ShIs w g S) (ok : ShOk S) (h1 : S.log.base ≤ S.said) (h2 : S.said ≤ headN S) (hroom : S.o.size + 4007 ≤ 1048576) :
    Calls Try.prog 52 #[.pointer (some ⟨g, 0, none⟩)] w fun e w' => e = .returned (.tuple #[]) ∧ ShIs w' g (stepNext S) ∧ Aside g w w' := by
  obtain ⟨nn, lok⟩ := ok.log
  obtain ⟨v, xs, hof⟩ := h
  have HO : Hid (ShOf w g S v xs) := hof
  have HI : Hid (ShIs w g S) := ⟨_, _, hof⟩
  have HOK : Hid (DkOk S ∧ S.o.size + 4007 ≤ 1048576) := ⟨ok.dk, hroom⟩
  have HHd : Hid _ := fun w h => ShHead_any S g w h lok.revs lok.ends
  obtain ⟨sd, hsd⟩ : ∃ sd : Int, ((S.said : Nat) : Int) = sd := ⟨_, rfl⟩
  obtain ⟨hd, hhd⟩ : ∃ hd : Int, ((headN S : Nat) : Int) = hd := ⟨_, rfl⟩
  rw [hhd] at HHd
  obtain ⟨m, hm⟩ : ∃ m : Int, 1 - (S.cur : Int) = m := ⟨_, rfl⟩
  have hwm : IntKind.i64.wrap (1 - (S.cur : Int)) = m := by
    have := ok.dk.cur
    rw [IntWalk.i64_in _ ⟨by omega, by omega⟩, hm]
  have HS46 : Hid (∀ w', Below w.heap.size w w' → w'.cell? ⟨g, 46, none⟩ = some (.int .i64 sd)) := by
    intro w' hb
    rw [← hsd]
    exact (hof.below hb).cells.2.2.2.2.2
  have HSy : Hid (∀ (t : ByteArray), t.size ≤ 4007 → ∀ w, ShIs w g S → Calls Try.prog 59 #[.pointer (some ⟨g, 0, none⟩), .int .i64 m, .string t] w fun e w' => e = .returned (.tuple #[]) ∧ ShIs w' g (S.disk S.c S.x (S.o ++ t) S.y) ∧ Aside g w w') := by
    intro t ht w h
    have h3 := ShSay_oth S t g w h ok.dk (by omega)
    rw [hm] at h3
    exact h3
  have HCur : Hid (∀ w', ShIs w' g S → w'.cell? ⟨g, 4, none⟩ = some (.int .i64 (S.cur : Int))) := by
    intro w' h
    obtain ⟨_, _, h⟩ := h
    exact h.cells.1.2.2.2.2
  by_cases heq : S.said = headN S
  · have heb : (sd == hd) = true := by rw [← hsd, ← hhd, heq]; exact beq_self_eq_true _
    have HE : Hid (stepNext S = { S.disk S.c S.x (S.o ++ doneB) S.y with stage := 3 }) := by show _ = _; rw [stepNext, if_pos heq]
    have HDn : Hid _ := fun w => Done_any w
    clear hof lok ok h1 h2 hroom heq hsd hhd hm nn
    go_enter Try.func52, Try.ntmps52
    go_upto_region 0 with fail
    try simp only [Act.put, List.getElem_toArray, List.getElem_cons_succ, List.getElem_cons_zero, List.setIfInBounds_toArray, List.set_cons_zero, List.set_cons_succ]
    refine wp_region_held_drew (S := fun w' => w'.cell? ⟨g, 46, none⟩ = some (.int .i64 sd)) (by kernel_rfl) (HS46.out _ (Below.refl _ w).drew) (fun hHeld => ?_)
    refine wpAnyH_take (i := 0) (v := .pointer (some ⟨g, 0, none⟩)) rfl (by kernel_rfl) (by kernel_rfl) (by kernel_rfl) (fun _ _ _ h => h) (Or.inl ⟨by kernel_rfl, fun w' hSw => by skip; first | (go_simp; done) | (go_simp; rfl)⟩) hHeld ?_
    try simp only [Act.put, List.getElem_toArray, List.getElem_cons_succ, List.getElem_cons_zero, List.setIfInBounds_toArray, List.set_cons_zero, List.set_cons_succ]
    refine wpAnyH_take (i := 1) (v := .pointer (some ⟨g, 0, none⟩)) rfl (by kernel_rfl) (by kernel_rfl) (by kernel_rfl) (fun _ _ _ h => h) (Or.inl ⟨by kernel_rfl, fun w' hSw => by skip; first | (go_simp; done) | (go_simp; rfl)⟩) hHeld ?_
    try simp only [Act.put, List.getElem_toArray, List.getElem_cons_succ, List.getElem_cons_zero, List.setIfInBounds_toArray, List.set_cons_zero, List.set_cons_succ]
    refine wpAnyH_take (i := 2) (v := .pointer (some ⟨g, 44, none⟩)) rfl (by kernel_rfl) (by kernel_rfl) (by kernel_rfl) (fun _ _ _ h => h) (Or.inl ⟨by kernel_rfl, fun w' hSw => by skip; first | (go_simp; done) | (go_simp; rfl)⟩) hHeld ?_
    try simp only [Act.put, List.getElem_toArray, List.getElem_cons_succ, List.getElem_cons_zero, List.setIfInBounds_toArray, List.set_cons_zero, List.set_cons_succ]
    refine wpAnyH_take (i := 3) (v := .pointer (some ⟨g, 46, none⟩)) rfl (by kernel_rfl) (by kernel_rfl) (by kernel_rfl) (fun _ _ _ h => h) (Or.inl ⟨by kernel_rfl, fun w' hSw => by skip; first | (go_simp; done) | (go_simp; rfl)⟩) hHeld ?_
    try simp only [Act.put, List.getElem_toArray, List.getElem_cons_succ, List.getElem_cons_zero, List.setIfInBounds_toArray, List.set_cons_zero, List.set_cons_succ]
    refine wpAnyH_take (i := 4) (v := .int .i64 sd) rfl (by kernel_rfl) (by kernel_rfl) (by kernel_rfl) (fun _ _ _ h => h) (Or.inl ⟨by kernel_rfl, fun w' hSw => by skip; first | (go_simp; done) | (go_simp; rfl)⟩) hHeld ?_
    try simp only [Act.put, List.getElem_toArray, List.getElem_cons_succ, List.getElem_cons_zero, List.setIfInBounds_toArray, List.set_cons_zero, List.set_cons_succ]
    refine wpAnyH_take (i := 5) (v := .pointer (some ⟨g, 0, none⟩)) rfl (by kernel_rfl) (by kernel_rfl) (by kernel_rfl) (fun _ _ _ h => h) (Or.inl ⟨by kernel_rfl, fun w' hSw => by skip; first | (go_simp; done) | (go_simp; rfl)⟩) hHeld ?_
    try simp only [Act.put, List.getElem_toArray, List.getElem_cons_succ, List.getElem_cons_zero, List.setIfInBounds_toArray, List.set_cons_zero, List.set_cons_succ]
    refine wpAnyH_ready (rs := [6]) (by kernel_rfl) (by simp) ?_
    refine AllReadyH.cons rfl (fun K hK => ?_) AllReadyH.nil
    go_simp
    with_reducible refine (HHd.out _ HI.out.drew).mono ?_
    rintro e w1 ⟨rfl, hb1⟩
    have HB1 : Hid (Below w.heap.size w w1) := ((Below.refl w.heap.size w).drew).trans hb1
    clear hb1
    go_wp2_with fail
    refine hK.out _ _ (HS46.out _ HB1.out) (fun hHeld1 => ?_)
    clear hK K
    try simp only [Act.put, List.getElem_toArray, List.getElem_cons_succ, List.getElem_cons_zero, List.setIfInBounds_toArray, List.set_cons_zero, List.set_cons_succ]
    refine wpAnyH_take (i := 7) (v := .bool true) rfl (by kernel_rfl) (by kernel_rfl) (by kernel_rfl) (fun _ _ _ h => h) (Or.inl ⟨by kernel_rfl, fun w' hSw => by skip; first | (go_simp; done) | (go_simp; rfl)⟩) hHeld1 ?_
    try simp only [Act.put, List.getElem_toArray, List.getElem_cons_succ, List.getElem_cons_zero, List.setIfInBounds_toArray, List.set_cons_zero, List.set_cons_succ]
    refine wpAnyH_done (by kernel_rfl) ?_ _
    clear hHeld hHeld1
    have HI1 : Hid (ShIs w1 g S) := HI.out.below HB1.out
    go_upto_region 1 with fail
    try simp only [Act.put, List.getElem_toArray, List.getElem_cons_succ, List.getElem_cons_zero, List.setIfInBounds_toArray, List.set_cons_zero, List.set_cons_succ]
    refine wp_region_held_drew (S := fun w' => w'.cell? ⟨g, 4, none⟩ = some (.int .i64 (S.cur : Int))) (by kernel_rfl) (HCur.out _ HI1.out.drew) (fun hHeld => ?_)
    refine wpAnyH_take (i := 0) (v := .pointer (some ⟨g, 0, none⟩)) rfl (by kernel_rfl) (by kernel_rfl) (by kernel_rfl) (fun _ _ _ h => h) (Or.inl ⟨by kernel_rfl, fun w' hSw => by skip; first | (go_simp; done) | (go_simp; rfl)⟩) hHeld ?_
    try simp only [Act.put, List.getElem_toArray, List.getElem_cons_succ, List.getElem_cons_zero, List.setIfInBounds_toArray, List.set_cons_zero, List.set_cons_succ]
    refine wpAnyH_take (i := 1) (v := .pointer (some ⟨g, 0, none⟩)) rfl (by kernel_rfl) (by kernel_rfl) (by kernel_rfl) (fun _ _ _ h => h) (Or.inl ⟨by kernel_rfl, fun w' hSw => by skip; first | (go_simp; done) | (go_simp; rfl)⟩) hHeld ?_
    try simp only [Act.put, List.getElem_toArray, List.getElem_cons_succ, List.getElem_cons_zero, List.setIfInBounds_toArray, List.set_cons_zero, List.set_cons_succ]
    refine wpAnyH_take (i := 2) (v := .pointer (some ⟨g, 0, none⟩)) rfl (by kernel_rfl) (by kernel_rfl) (by kernel_rfl) (fun _ _ _ h => h) (Or.inl ⟨by kernel_rfl, fun w' hSw => by skip; first | (go_simp; done) | (go_simp; rfl)⟩) hHeld ?_
    try simp only [Act.put, List.getElem_toArray, List.getElem_cons_succ, List.getElem_cons_zero, List.setIfInBounds_toArray, List.set_cons_zero, List.set_cons_succ]
    refine wpAnyH_take (i := 3) (v := .pointer (some ⟨g, 4, none⟩)) rfl (by kernel_rfl) (by kernel_rfl) (by kernel_rfl) (fun _ _ _ h => h) (Or.inl ⟨by kernel_rfl, fun w' hSw => by skip; first | (go_simp; done) | (go_simp; rfl)⟩) hHeld ?_
    try simp only [Act.put, List.getElem_toArray, List.getElem_cons_succ, List.getElem_cons_zero, List.setIfInBounds_toArray, List.set_cons_zero, List.set_cons_succ]
    refine wpAnyH_take (i := 4) (v := .int .i64 (S.cur : Int)) rfl (by kernel_rfl) (by kernel_rfl) (by kernel_rfl) (fun _ _ _ h => h) (Or.inl ⟨by kernel_rfl, fun w' hSw => by skip; first | (go_simp; done) | (go_simp; rfl)⟩) hHeld ?_
    try simp only [Act.put, List.getElem_toArray, List.getElem_cons_succ, List.getElem_cons_zero, List.setIfInBounds_toArray, List.set_cons_zero, List.set_cons_succ]
    refine wpAnyH_take (i := 5) (v := .int .i64 m) rfl (by kernel_rfl) (by kernel_rfl) (by kernel_rfl) (fun _ _ _ h => h) (Or.inl ⟨by kernel_rfl, fun w' hSw => by skip; first | (go_simp; done) | (go_simp; rfl)⟩) hHeld ?_
    try simp only [Act.put, List.getElem_toArray, List.getElem_cons_succ, List.getElem_cons_zero, List.setIfInBounds_toArray, List.set_cons_zero, List.set_cons_succ]
    refine wpAnyH_ready (rs := [6]) (by kernel_rfl) (by simp) ?_
    refine AllReadyH.cons rfl (fun K hK => ?_) AllReadyH.nil
    go_simp
    with_reducible refine (HDn.out _).mono ?_
    rintro e w2 ⟨rfl, hb2⟩
    have HI2 : Hid (ShIs w2 g S) := HI1.out.drew.below hb2
    have HA2 : Hid (Aside g w w2) := below_aside (HB1.out.trans ((((Below.refl w1.heap.size w1).drew).trans hb2).mono HB1.out.size)) g
    clear hb2
    go_wp2_with fail
    refine hK.out _ _ (HCur.out _ HI2.out) (fun hHeld2 => ?_)
    clear hK K
    try simp only [Act.put, List.getElem_toArray, List.getElem_cons_succ, List.getElem_cons_zero, List.setIfInBounds_toArray, List.set_cons_zero, List.set_cons_succ]
    refine wpAnyH_ready (rs := [7]) (by kernel_rfl) (by simp) ?_
    refine AllReadyH.cons rfl (fun K hK => ?_) AllReadyH.nil
    go_simp
    with_reducible refine (HSy.out ⟨(frameL 3 []).toArray⟩ (by decide) _ HI2.out).mono ?_
    rintro e w3 ⟨rfl, hs3, ha3⟩
    obtain ⟨v3, xs3, hof3⟩ := hs3
    have HO3 : Hid (ShOf w3 g (S.disk S.c S.x (S.o ++ doneB) S.y) v3 xs3) := hof3
    have HA3 : Hid (Aside g w w3) := HA2.out.trans ha3
    clear ha3 hof3
    go_wp2_with fail
    refine hK.out _ _ (HO3.out.cells.1.2.2.2.2) (fun hHeld3 => ?_)
    clear hK K
    try simp only [Act.put, List.getElem_toArray, List.getElem_cons_succ, List.getElem_cons_zero, List.setIfInBounds_toArray, List.set_cons_zero, List.set_cons_succ]
    refine wpAnyH_done (by kernel_rfl) ?_ _
    clear hHeld hHeld2 hHeld3
    have c44 := HO3.out.cells.2.2.2.1
    have f44 := HO3.out.1.free 44
    have HF : Hid (ShOf (w3.setCell ⟨g, 44, none⟩ (.int .i64 3)) g (stepNext S) v3 xs3 ∧ Aside g w3 (w3.setCell ⟨g, 44, none⟩ (.int .i64 3))) := by
      have h2 := HO3.out.staged 3
      show _ ∧ _
      rw [HE.out]
      exact h2
    go_wp2_with fail
    refine bodyPost_ret (v := .tuple #[]) (by simp [results, Try.results52, go_sem, *]) rfl ⟨rfl, ⟨_, _, HF.out.1⟩, HA3.out.trans HF.out.2⟩
  · have heb : (sd == hd) = false := by rw [← hsd, ← hhd, beq_eq_false_iff_ne]; omega
    obtain ⟨k, hk⟩ : ∃ k, S.said = S.log.base + k := ⟨S.said - S.log.base, by omega⟩
    have hkl : k < S.log.revs.length := by unfold headN at h2 heq; omega
    obtain ⟨r, hr⟩ : ∃ r, S.log.revs[k]? = some r := ⟨_, List.getElem?_eq_getElem hkl⟩
    have hone := hist_ones lok.hist r (List.mem_of_getElem? hr)
    have hra : revAt S = r := by unfold revAt; rw [hk, Nat.add_sub_cancel_left, hr]; rfl
    have HE : Hid (stepNext S = { S.disk S.c S.x (S.o ++ frB r) S.y with said := S.said + 1 }) := by show _ = _; rw [stepNext, if_neg heq, hra]
    obtain ⟨F, hF⟩ : ∃ F, frB r = F := ⟨_, rfl⟩
    have HRv : Hid (∀ a c w, PartsAt w w.heap.size a r.d → Calls Try.prog 57 #[.agg #[.int .i64 r.who, .int .i64 r.seq, .slice a r.d.length c]] w fun e w' => e = .returned (.tuple #[.string F, .int .i64 0]) ∧ Below w.heap.size w w') := by
      intro a c w hp
      have h := HRev_any r a c w hp
      obtain ⟨e1, e2⟩ := revFrame_ok hone
      rw [e1, e2, hF] at h
      exact h
    rw [hF] at HE
    have HFl : Hid (F.size ≤ 4007) := by show _ ≤ _; rw [← hF]; exact frB_len hone
    obtain ⟨va, vc, hv, hvc, hrv⟩ := hof.revsAt lok.revs
    subst hv
    have HRs : Hid (∀ w', Below w.heap.size w w' → ∃ b o ai ci, va = some ⟨b, o, none⟩ ∧ b < w'.heap.size ∧ RvAt w' w'.heap.size b (o + k * 3) r ai ci) := fun w' hb => by
      obtain ⟨b, o, ai, ci, h1, h2, h3⟩ := (hrv.here hb (Nat.le_refl _)).mem hr
      exact ⟨b, o, ai, ci, h1, h2, h3⟩
    have hb0 : (S.log.base : Int) = ((S.log.base : Nat) : Int) := rfl
    have HKn : Hid (IntKind.i64.wrap (sd - (S.log.base : Int)) = (k : Int) ∧ (k : Int) < (S.log.revs.length : Int) ∧ IntKind.i64.wrap (sd + 1) = ((S.said + 1 : Nat) : Int) ∧ ((S.said : Nat) : Int) = sd) := by
      have := lok.ends
      refine ⟨?_, by omega, ?_, hsd⟩
      · rw [IntWalk.i64_in _ ⟨by omega, by omega⟩]; omega
      · rw [IntWalk.i64_in _ ⟨by omega, by omega⟩]; omega
    clear lok ok h1 h2 hroom heq hsd hhd hm nn hof hrv hvc hr hra hone hF hb0 hkl hk
    go_enter Try.func52, Try.ntmps52
    go_upto_region 0 with fail
    try simp only [Act.put, List.getElem_toArray, List.getElem_cons_succ, List.getElem_cons_zero, List.setIfInBounds_toArray, List.set_cons_zero, List.set_cons_succ]
    refine wp_region_held_drew (S := fun w' => w'.cell? ⟨g, 46, none⟩ = some (.int .i64 sd)) (by kernel_rfl) (HS46.out _ (Below.refl _ w).drew) (fun hHeld => ?_)
    refine wpAnyH_take (i := 0) (v := .pointer (some ⟨g, 0, none⟩)) rfl (by kernel_rfl) (by kernel_rfl) (by kernel_rfl) (fun _ _ _ h => h) (Or.inl ⟨by kernel_rfl, fun w' hSw => by skip; first | (go_simp; done) | (go_simp; rfl)⟩) hHeld ?_
    try simp only [Act.put, List.getElem_toArray, List.getElem_cons_succ, List.getElem_cons_zero, List.setIfInBounds_toArray, List.set_cons_zero, List.set_cons_succ]
    refine wpAnyH_take (i := 1) (v := .pointer (some ⟨g, 0, none⟩)) rfl (by kernel_rfl) (by kernel_rfl) (by kernel_rfl) (fun _ _ _ h => h) (Or.inl ⟨by kernel_rfl, fun w' hSw => by skip; first | (go_simp; done) | (go_simp; rfl)⟩) hHeld ?_
    try simp only [Act.put, List.getElem_toArray, List.getElem_cons_succ, List.getElem_cons_zero, List.setIfInBounds_toArray, List.set_cons_zero, List.set_cons_succ]
    refine wpAnyH_take (i := 2) (v := .pointer (some ⟨g, 44, none⟩)) rfl (by kernel_rfl) (by kernel_rfl) (by kernel_rfl) (fun _ _ _ h => h) (Or.inl ⟨by kernel_rfl, fun w' hSw => by skip; first | (go_simp; done) | (go_simp; rfl)⟩) hHeld ?_
    try simp only [Act.put, List.getElem_toArray, List.getElem_cons_succ, List.getElem_cons_zero, List.setIfInBounds_toArray, List.set_cons_zero, List.set_cons_succ]
    refine wpAnyH_take (i := 3) (v := .pointer (some ⟨g, 46, none⟩)) rfl (by kernel_rfl) (by kernel_rfl) (by kernel_rfl) (fun _ _ _ h => h) (Or.inl ⟨by kernel_rfl, fun w' hSw => by skip; first | (go_simp; done) | (go_simp; rfl)⟩) hHeld ?_
    try simp only [Act.put, List.getElem_toArray, List.getElem_cons_succ, List.getElem_cons_zero, List.setIfInBounds_toArray, List.set_cons_zero, List.set_cons_succ]
    refine wpAnyH_take (i := 4) (v := .int .i64 sd) rfl (by kernel_rfl) (by kernel_rfl) (by kernel_rfl) (fun _ _ _ h => h) (Or.inl ⟨by kernel_rfl, fun w' hSw => by skip; first | (go_simp; done) | (go_simp; rfl)⟩) hHeld ?_
    try simp only [Act.put, List.getElem_toArray, List.getElem_cons_succ, List.getElem_cons_zero, List.setIfInBounds_toArray, List.set_cons_zero, List.set_cons_succ]
    refine wpAnyH_take (i := 5) (v := .pointer (some ⟨g, 0, none⟩)) rfl (by kernel_rfl) (by kernel_rfl) (by kernel_rfl) (fun _ _ _ h => h) (Or.inl ⟨by kernel_rfl, fun w' hSw => by skip; first | (go_simp; done) | (go_simp; rfl)⟩) hHeld ?_
    try simp only [Act.put, List.getElem_toArray, List.getElem_cons_succ, List.getElem_cons_zero, List.setIfInBounds_toArray, List.set_cons_zero, List.set_cons_succ]
    refine wpAnyH_ready (rs := [6]) (by kernel_rfl) (by simp) ?_
    refine AllReadyH.cons rfl (fun K hK => ?_) AllReadyH.nil
    go_simp
    with_reducible refine (HHd.out _ HI.out.drew).mono ?_
    rintro e w1 ⟨rfl, hb1⟩
    have HB1 : Hid (Below w.heap.size w w1) := ((Below.refl w.heap.size w).drew).trans hb1
    clear hb1
    go_wp2_with fail
    refine hK.out _ _ (HS46.out _ HB1.out) (fun hHeld1 => ?_)
    clear hK K
    try simp only [Act.put, List.getElem_toArray, List.getElem_cons_succ, List.getElem_cons_zero, List.setIfInBounds_toArray, List.set_cons_zero, List.set_cons_succ]
    refine wpAnyH_take (i := 7) (v := .bool false) rfl (by kernel_rfl) (by kernel_rfl) (by kernel_rfl) (fun _ _ _ h => h) (Or.inl ⟨by kernel_rfl, fun w' hSw => by skip; first | (go_simp; done) | (go_simp; rfl)⟩) hHeld1 ?_
    try simp only [Act.put, List.getElem_toArray, List.getElem_cons_succ, List.getElem_cons_zero, List.setIfInBounds_toArray, List.set_cons_zero, List.set_cons_succ]
    refine wpAnyH_done (by kernel_rfl) ?_ _
    clear hHeld hHeld1
    have HO1 : Hid (ShOf w1 g S (.slice va S.log.revs.length vc) xs) := HO.out.below HB1.out
    obtain ⟨b, o, ai, ci, rfl, hbl, d0, d1, d2, d3, _⟩ := HRs.out w1 HB1.out
    have HP1 : Hid (PartsAt w1 w1.heap.size ai r.d) := d3
    have HSS : Hid (∀ w', Below w1.heap.size w1 w' → (w'.cell? ⟨g, 40, none⟩ = some (.slice (some ⟨b, o, none⟩) S.log.revs.length vc) ∧ w'.cell? ⟨g, 46, none⟩ = some (.int .i64 sd) ∧ w'.cell? ⟨g, 6, none⟩ = some (.int .i64 S.log.base)) ∧ w'.cell? ⟨b, o + k * 3, none⟩ = some (.int .i64 r.who) ∧ w'.cell? ⟨b, o + k * 3 + 1, none⟩ = some (.int .i64 r.seq) ∧ w'.cell? ⟨b, o + k * 3 + 2, none⟩ = some (.slice ai r.d.length ci)) := by
      intro w' hb
      have h3 := two_cells HO1.out hb hbl d0 d1 d2
      rw [HKn.out.2.2.2] at h3
      exact h3
    obtain ⟨k1, k2, k3, _⟩ := HKn.out
    have k0 : (0 : Int) ≤ (k : Int) := by omega
    clear d0 d1 d2 d3
    go_upto_region 3 with fail
    try simp only [Act.put, List.getElem_toArray, List.getElem_cons_succ, List.getElem_cons_zero, List.setIfInBounds_toArray, List.set_cons_zero, List.set_cons_succ]
    refine wp_region_held_drew (S := fun w' => (w'.cell? ⟨g, 40, none⟩ = some (.slice (some ⟨b, o, none⟩) S.log.revs.length vc) ∧ w'.cell? ⟨g, 46, none⟩ = some (.int .i64 sd) ∧ w'.cell? ⟨g, 6, none⟩ = some (.int .i64 S.log.base)) ∧ w'.cell? ⟨b, o + k * 3, none⟩ = some (.int .i64 r.who) ∧ w'.cell? ⟨b, o + k * 3 + 1, none⟩ = some (.int .i64 r.seq) ∧ w'.cell? ⟨b, o + k * 3 + 2, none⟩ = some (.slice ai r.d.length ci)) (by kernel_rfl) (HSS.out _ (Below.refl _ w1).drew) (fun hHeld => ?_)
    refine wpAnyH_take (i := 0) (v := .pointer (some ⟨g, 0, none⟩)) rfl (by kernel_rfl) (by kernel_rfl) (by kernel_rfl) (fun _ _ _ h => h) (Or.inl ⟨by kernel_rfl, fun w' hSw => by obtain ⟨⟨s40, s46, s6⟩, s0, s1, s2⟩ := hSw; first | (go_simp; done) | (go_simp; rfl)⟩) hHeld ?_
    try simp only [Act.put, List.getElem_toArray, List.getElem_cons_succ, List.getElem_cons_zero, List.setIfInBounds_toArray, List.set_cons_zero, List.set_cons_succ]
    refine wpAnyH_take (i := 1) (v := .pointer (some ⟨g, 0, none⟩)) rfl (by kernel_rfl) (by kernel_rfl) (by kernel_rfl) (fun _ _ _ h => h) (Or.inl ⟨by kernel_rfl, fun w' hSw => by obtain ⟨⟨s40, s46, s6⟩, s0, s1, s2⟩ := hSw; first | (go_simp; done) | (go_simp; rfl)⟩) hHeld ?_
    try simp only [Act.put, List.getElem_toArray, List.getElem_cons_succ, List.getElem_cons_zero, List.setIfInBounds_toArray, List.set_cons_zero, List.set_cons_succ]
    refine wpAnyH_take (i := 2) (v := .pointer (some ⟨g, 5, none⟩)) rfl (by kernel_rfl) (by kernel_rfl) (by kernel_rfl) (fun _ _ _ h => h) (Or.inl ⟨by kernel_rfl, fun w' hSw => by obtain ⟨⟨s40, s46, s6⟩, s0, s1, s2⟩ := hSw; first | (go_simp; done) | (go_simp; rfl)⟩) hHeld ?_
    try simp only [Act.put, List.getElem_toArray, List.getElem_cons_succ, List.getElem_cons_zero, List.setIfInBounds_toArray, List.set_cons_zero, List.set_cons_succ]
    refine wpAnyH_take (i := 3) (v := .pointer (some ⟨g, 40, none⟩)) rfl (by kernel_rfl) (by kernel_rfl) (by kernel_rfl) (fun _ _ _ h => h) (Or.inl ⟨by kernel_rfl, fun w' hSw => by obtain ⟨⟨s40, s46, s6⟩, s0, s1, s2⟩ := hSw; first | (go_simp; done) | (go_simp; rfl)⟩) hHeld ?_
    try simp only [Act.put, List.getElem_toArray, List.getElem_cons_succ, List.getElem_cons_zero, List.setIfInBounds_toArray, List.set_cons_zero, List.set_cons_succ]
    refine wpAnyH_take (i := 4) (v := .slice (some ⟨b, o, none⟩) S.log.revs.length vc) rfl (by kernel_rfl) (by kernel_rfl) (by kernel_rfl) (fun _ _ _ h => h) (Or.inl ⟨by kernel_rfl, fun w' hSw => by obtain ⟨⟨s40, s46, s6⟩, s0, s1, s2⟩ := hSw; first | (go_simp; done) | (go_simp; rfl)⟩) hHeld ?_
    try simp only [Act.put, List.getElem_toArray, List.getElem_cons_succ, List.getElem_cons_zero, List.setIfInBounds_toArray, List.set_cons_zero, List.set_cons_succ]
    refine wpAnyH_take (i := 5) (v := .pointer (some ⟨g, 0, none⟩)) rfl (by kernel_rfl) (by kernel_rfl) (by kernel_rfl) (fun _ _ _ h => h) (Or.inl ⟨by kernel_rfl, fun w' hSw => by obtain ⟨⟨s40, s46, s6⟩, s0, s1, s2⟩ := hSw; first | (go_simp; done) | (go_simp; rfl)⟩) hHeld ?_
    try simp only [Act.put, List.getElem_toArray, List.getElem_cons_succ, List.getElem_cons_zero, List.setIfInBounds_toArray, List.set_cons_zero, List.set_cons_succ]
    refine wpAnyH_take (i := 6) (v := .pointer (some ⟨g, 0, none⟩)) rfl (by kernel_rfl) (by kernel_rfl) (by kernel_rfl) (fun _ _ _ h => h) (Or.inl ⟨by kernel_rfl, fun w' hSw => by obtain ⟨⟨s40, s46, s6⟩, s0, s1, s2⟩ := hSw; first | (go_simp; done) | (go_simp; rfl)⟩) hHeld ?_
    try simp only [Act.put, List.getElem_toArray, List.getElem_cons_succ, List.getElem_cons_zero, List.setIfInBounds_toArray, List.set_cons_zero, List.set_cons_succ]
    refine wpAnyH_take (i := 7) (v := .pointer (some ⟨g, 44, none⟩)) rfl (by kernel_rfl) (by kernel_rfl) (by kernel_rfl) (fun _ _ _ h => h) (Or.inl ⟨by kernel_rfl, fun w' hSw => by obtain ⟨⟨s40, s46, s6⟩, s0, s1, s2⟩ := hSw; first | (go_simp; done) | (go_simp; rfl)⟩) hHeld ?_
    try simp only [Act.put, List.getElem_toArray, List.getElem_cons_succ, List.getElem_cons_zero, List.setIfInBounds_toArray, List.set_cons_zero, List.set_cons_succ]
    refine wpAnyH_take (i := 8) (v := .pointer (some ⟨g, 46, none⟩)) rfl (by kernel_rfl) (by kernel_rfl) (by kernel_rfl) (fun _ _ _ h => h) (Or.inl ⟨by kernel_rfl, fun w' hSw => by obtain ⟨⟨s40, s46, s6⟩, s0, s1, s2⟩ := hSw; first | (go_simp; done) | (go_simp; rfl)⟩) hHeld ?_
    try simp only [Act.put, List.getElem_toArray, List.getElem_cons_succ, List.getElem_cons_zero, List.setIfInBounds_toArray, List.set_cons_zero, List.set_cons_succ]
    refine wpAnyH_take (i := 9) (v := .int .i64 sd) rfl (by kernel_rfl) (by kernel_rfl) (by kernel_rfl) (fun _ _ _ h => h) (Or.inl ⟨by kernel_rfl, fun w' hSw => by obtain ⟨⟨s40, s46, s6⟩, s0, s1, s2⟩ := hSw; first | (go_simp; done) | (go_simp; rfl)⟩) hHeld ?_
    try simp only [Act.put, List.getElem_toArray, List.getElem_cons_succ, List.getElem_cons_zero, List.setIfInBounds_toArray, List.set_cons_zero, List.set_cons_succ]
    refine wpAnyH_take (i := 10) (v := .pointer (some ⟨g, 0, none⟩)) rfl (by kernel_rfl) (by kernel_rfl) (by kernel_rfl) (fun _ _ _ h => h) (Or.inl ⟨by kernel_rfl, fun w' hSw => by obtain ⟨⟨s40, s46, s6⟩, s0, s1, s2⟩ := hSw; first | (go_simp; done) | (go_simp; rfl)⟩) hHeld ?_
    try simp only [Act.put, List.getElem_toArray, List.getElem_cons_succ, List.getElem_cons_zero, List.setIfInBounds_toArray, List.set_cons_zero, List.set_cons_succ]
    refine wpAnyH_take (i := 11) (v := .pointer (some ⟨g, 0, none⟩)) rfl (by kernel_rfl) (by kernel_rfl) (by kernel_rfl) (fun _ _ _ h => h) (Or.inl ⟨by kernel_rfl, fun w' hSw => by obtain ⟨⟨s40, s46, s6⟩, s0, s1, s2⟩ := hSw; first | (go_simp; done) | (go_simp; rfl)⟩) hHeld ?_
    try simp only [Act.put, List.getElem_toArray, List.getElem_cons_succ, List.getElem_cons_zero, List.setIfInBounds_toArray, List.set_cons_zero, List.set_cons_succ]
    refine wpAnyH_take (i := 12) (v := .pointer (some ⟨g, 5, none⟩)) rfl (by kernel_rfl) (by kernel_rfl) (by kernel_rfl) (fun _ _ _ h => h) (Or.inl ⟨by kernel_rfl, fun w' hSw => by obtain ⟨⟨s40, s46, s6⟩, s0, s1, s2⟩ := hSw; first | (go_simp; done) | (go_simp; rfl)⟩) hHeld ?_
    try simp only [Act.put, List.getElem_toArray, List.getElem_cons_succ, List.getElem_cons_zero, List.setIfInBounds_toArray, List.set_cons_zero, List.set_cons_succ]
    refine wpAnyH_take (i := 13) (v := .pointer (some ⟨g, 6, none⟩)) rfl (by kernel_rfl) (by kernel_rfl) (by kernel_rfl) (fun _ _ _ h => h) (Or.inl ⟨by kernel_rfl, fun w' hSw => by obtain ⟨⟨s40, s46, s6⟩, s0, s1, s2⟩ := hSw; first | (go_simp; done) | (go_simp; rfl)⟩) hHeld ?_
    try simp only [Act.put, List.getElem_toArray, List.getElem_cons_succ, List.getElem_cons_zero, List.setIfInBounds_toArray, List.set_cons_zero, List.set_cons_succ]
    refine wpAnyH_take (i := 14) (v := .int .i64 (S.log.base : Int)) rfl (by kernel_rfl) (by kernel_rfl) (by kernel_rfl) (fun _ _ _ h => h) (Or.inl ⟨by kernel_rfl, fun w' hSw => by obtain ⟨⟨s40, s46, s6⟩, s0, s1, s2⟩ := hSw; first | (go_simp; done) | (go_simp; rfl)⟩) hHeld ?_
    try simp only [Act.put, List.getElem_toArray, List.getElem_cons_succ, List.getElem_cons_zero, List.setIfInBounds_toArray, List.set_cons_zero, List.set_cons_succ]
    refine wpAnyH_take (i := 15) (v := .int .i64 (k : Int)) rfl (by kernel_rfl) (by kernel_rfl) (by kernel_rfl) (fun _ _ _ h => h) (Or.inl ⟨by kernel_rfl, fun w' hSw => by obtain ⟨⟨s40, s46, s6⟩, s0, s1, s2⟩ := hSw; first | (go_simp; done) | (go_simp; rfl)⟩) hHeld ?_
    try simp only [Act.put, List.getElem_toArray, List.getElem_cons_succ, List.getElem_cons_zero, List.setIfInBounds_toArray, List.set_cons_zero, List.set_cons_succ]
    refine wpAnyH_take (i := 16) (v := .pointer (some ⟨b, o + k * 3, none⟩)) rfl (by kernel_rfl) (by kernel_rfl) (by kernel_rfl) (fun _ _ _ h => h) (Or.inl ⟨by kernel_rfl, fun w' hSw => by obtain ⟨⟨s40, s46, s6⟩, s0, s1, s2⟩ := hSw; first | (go_simp; done) | (go_simp; rfl)⟩) hHeld ?_
    try simp only [Act.put, List.getElem_toArray, List.getElem_cons_succ, List.getElem_cons_zero, List.setIfInBounds_toArray, List.set_cons_zero, List.set_cons_succ]
    refine wpAnyH_take (i := 17) (v := .agg #[.int .i64 r.who, .int .i64 r.seq, .slice ai r.d.length ci]) rfl (by kernel_rfl) (by kernel_rfl) (by kernel_rfl) (fun _ _ _ h => h) (Or.inl ⟨by kernel_rfl, fun w' hSw => by obtain ⟨⟨s40, s46, s6⟩, s0, s1, s2⟩ := hSw; first | (go_simp; done) | (go_simp; rfl)⟩) hHeld ?_
    try simp only [Act.put, List.getElem_toArray, List.getElem_cons_succ, List.getElem_cons_zero, List.setIfInBounds_toArray, List.set_cons_zero, List.set_cons_succ]
    refine wpAnyH_ready (rs := [18]) (by kernel_rfl) (by simp) ?_
    refine AllReadyH.cons rfl (fun K hK => ?_) AllReadyH.nil
    go_simp
    with_reducible refine (HRv.out _ _ _ (HP1.out.here (Below.refl w1.heap.size w1).drew (Nat.le_refl _))).mono ?_
    rintro e w2 ⟨rfl, hb2⟩
    have HB2 : Hid (Below w1.heap.size w1 w2) := ((Below.refl w1.heap.size w1).drew).trans hb2
    clear hb2
    go_wp2_with fail
    refine hK.out _ _ (HSS.out _ HB2.out) (fun hHeld2 => ?_)
    clear hK K
    try simp only [Act.put, List.getElem_toArray, List.getElem_cons_succ, List.getElem_cons_zero, List.setIfInBounds_toArray, List.set_cons_zero, List.set_cons_succ]
    refine wpAnyH_take (i := 19) (v := .tuple #[.string F, .int .i64 0]) rfl (by kernel_rfl) (by kernel_rfl) (by kernel_rfl) (fun _ _ _ h => h) (Or.inl ⟨by kernel_rfl, fun w' hSw => by obtain ⟨⟨s40, s46, s6⟩, s0, s1, s2⟩ := hSw; first | (go_simp; done) | (go_simp; rfl)⟩) hHeld2 ?_
    try simp only [Act.put, List.getElem_toArray, List.getElem_cons_succ, List.getElem_cons_zero, List.setIfInBounds_toArray, List.set_cons_zero, List.set_cons_succ]
    refine wpAnyH_take (i := 20) (v := .string F) rfl (by kernel_rfl) (by kernel_rfl) (by kernel_rfl) (fun _ _ _ h => h) (Or.inl ⟨by kernel_rfl, fun w' hSw => by obtain ⟨⟨s40, s46, s6⟩, s0, s1, s2⟩ := hSw; first | (go_simp; done) | (go_simp; rfl)⟩) hHeld2 ?_
    try simp only [Act.put, List.getElem_toArray, List.getElem_cons_succ, List.getElem_cons_zero, List.setIfInBounds_toArray, List.set_cons_zero, List.set_cons_succ]
    refine wpAnyH_take (i := 21) (v := .int .i64 0) rfl (by kernel_rfl) (by kernel_rfl) (by kernel_rfl) (fun _ _ _ h => h) (Or.inl ⟨by kernel_rfl, fun w' hSw => by obtain ⟨⟨s40, s46, s6⟩, s0, s1, s2⟩ := hSw; first | (go_simp; done) | (go_simp; rfl)⟩) hHeld2 ?_
    try simp only [Act.put, List.getElem_toArray, List.getElem_cons_succ, List.getElem_cons_zero, List.setIfInBounds_toArray, List.set_cons_zero, List.set_cons_succ]
    refine wpAnyH_take (i := 22) (v := .string F) rfl (by kernel_rfl) (by kernel_rfl) (by kernel_rfl) (fun _ _ _ h => h) (Or.inl ⟨by kernel_rfl, fun w' hSw => by obtain ⟨⟨s40, s46, s6⟩, s0, s1, s2⟩ := hSw; first | (go_simp; done) | (go_simp; rfl)⟩) hHeld2 ?_
    try simp only [Act.put, List.getElem_toArray, List.getElem_cons_succ, List.getElem_cons_zero, List.setIfInBounds_toArray, List.set_cons_zero, List.set_cons_succ]
    refine wpAnyH_take (i := 23) (v := .int .i64 0) rfl (by kernel_rfl) (by kernel_rfl) (by kernel_rfl) (fun _ _ _ h => h) (Or.inl ⟨by kernel_rfl, fun w' hSw => by obtain ⟨⟨s40, s46, s6⟩, s0, s1, s2⟩ := hSw; first | (go_simp; done) | (go_simp; rfl)⟩) hHeld2 ?_
    try simp only [Act.put, List.getElem_toArray, List.getElem_cons_succ, List.getElem_cons_zero, List.setIfInBounds_toArray, List.set_cons_zero, List.set_cons_succ]
    refine wpAnyH_done (by kernel_rfl) ?_ _
    clear hHeld hHeld2
    have HO2 : Hid (ShOf w2 g S (.slice (some ⟨b, o, none⟩) S.log.revs.length vc) xs) := HO1.out.below HB2.out
    have HI2 : Hid (ShIs w2 g S) := ⟨_, _, HO2.out⟩
    have HA2 : Hid (Aside g w w2) := below_aside (HB1.out.trans (HB2.out.mono HB1.out.size)) g
    have c4 := HO2.out.cells.1.2.2.2.2
    have hgl := HO2.out.1.lt
    clear k1 k2 k0 hbl
    go_wp2_with fail
    with_reducible refine (HSy.out F HFl.out _ HI2.out).mono ?_
    rintro e w3 ⟨rfl, hs3, ha3⟩
    obtain ⟨v3, xs3, hof3⟩ := hs3
    have HO3 : Hid (ShOf w3 g (S.disk S.c S.x (S.o ++ F) S.y) v3 xs3) := hof3
    have HA3 : Hid (Aside g w w3) := HA2.out.trans ha3
    have c46 : w3.cell? ⟨g, 46, none⟩ = some (.int .i64 sd) := by
      rw [← HKn.out.2.2.2]
      exact hof3.cells.2.2.2.2.2
    have f46 := hof3.1.free 46
    have HF : Hid (ShOf (w3.setCell ⟨g, 46, none⟩ (.int .i64 ((S.said + 1 : Nat) : Int))) g (stepNext S) v3 xs3 ∧ Aside g w3 (w3.setCell ⟨g, 46, none⟩ (.int .i64 ((S.said + 1 : Nat) : Int)))) := by
      have h2 := hof3.saidTo (S.said + 1)
      show _ ∧ _
      rw [HE.out]
      exact h2
    obtain ⟨sn, hsn⟩ : ∃ sn : Int, ((S.said + 1 : Nat) : Int) = sn := ⟨_, rfl⟩
    rw [hsn] at HF k3
    clear c4 hgl ha3 hof3 hsn
    go_wp2_with fail
    go_end0
    exact ⟨rfl, ⟨_, _, HF.out.1⟩, HA3.out.trans HF.out.2⟩
end Go.Proofs.Ytgffippimmokiaa

/- What change does. -/
namespace Go.Proofs.Ytgffippimmokiaa
open Go.RowKit
set_option linter.unusedSimpArgs false
set_option linter.unusedVariables false

/-- the archive at its other slot, made safe, with the log that lies there -/
def flipS (S : Sh) : Sh := { S with c := S.o, x := S.y, o := S.c, y := S.x, cur := 1 - S.cur }
noncomputable def changeS (S : Sh) : Sh := { c := S.o, x := S.o.size, o := S.c, y := S.x, cur := 1 - S.cur, log := logS (scanL S.o.data.toList).1, safe := (logS (scanL S.o.data.toList).1).base + (logS (scanL S.o.data.toList).1).revs.length, stage := 4, floor := S.floor, said := S.said }
theorem flip_slots {S : Sh} (h : S.cur ≤ 1) : (flipS S).p0 = S.p0 ∧ (flipS S).x0 = S.x0 ∧ (flipS S).p1 = S.p1 ∧ (flipS S).x1 = S.x1 := by
  rcases (by omega : S.cur = 0 ∨ S.cur = 1) with h0 | h0
  · have f : ¬ (flipS S).cur = 0 := by show ¬ 1 - S.cur = 0; omega
    simp only [Sh.p0, Sh.x0, Sh.p1, Sh.x1, if_pos h0, if_neg f]
    exact ⟨rfl, rfl, rfl, rfl⟩
  · have e : (flipS S).cur = 0 := by show 1 - S.cur = 0; omega
    have f : ¬ S.cur = 0 := by omega
    simp only [Sh.p0, Sh.x0, Sh.p1, Sh.x1, if_pos e, if_neg f]
    exact ⟨rfl, rfl, rfl, rfl⟩
theorem ShOf.flip {w : World} {g : Nat} {S : Sh} {v : Value} {xs : List (Rv × Option Addr × Nat)} (h : ShOf w g S v xs) (hc : S.cur ≤ 1) :
    ShOf (w.setCell ⟨g, 4, none⟩ (.int .i64 ((1 - S.cur : Nat) : Int))) g (flipS S) v xs ∧ Aside g w (w.setCell ⟨g, 4, none⟩ (.int .i64 ((1 - S.cur : Nat) : Int))) := by
  have ha : Aside g w (w.setCell ⟨g, 4, none⟩ (.int .i64 ((1 - S.cur : Nat) : Int))) := (Aside.refl g w).put 4 _
  have hput := h.1.put 4 (.int .i64 ((1 - S.cur : Nat) : Int))
  obtain ⟨e0, e1, e2, e3⟩ := flip_slots hc
  have e : (shC S v).set 4 (.int .i64 ((1 - S.cur : Nat) : Int)) = shC (flipS S) v := by
    unfold shC
    rw [e0, e1, e2, e3]
    rfl
  rw [e] at hput
  exact ⟨h.revs ha hput rfl h.2.2.2.1 h.2.2.2.2, ha⟩
theorem ShOf.logTo {w : World} {g : Nat} {S : Sh} {v v2 : Value} {xs xs2 : List (Rv × Option Addr × Nat)} {T : Lg} (h : ShOf w g S v xs) (hz : RzsOwn w 0 v2 xs2) (hx : xs2.map (·.1) = T.revs) (hF : T.first.length = 16) (hT : T.table.length = 16) :
    ShOf (w.setCells g 5 (sC T v2 T.good)) g { S with log := T } v2 xs2 ∧ Aside g w (w.setCells g 5 (sC T v2 T.good)) := by
  have ha : Aside g w (w.setCells g 5 (sC T v2 T.good)) := Aside.puts _ w 5 (Aside.refl g w)
  have hput := ShAt.puts (sC T v2 T.good) w (shC S v) 5 h.1
  have e : setL (shC S v) 5 (sC T v2 T.good) = shC { S with log := T } v2 := by
    have e2 := setL_app [.string S.p0, .int .i64 S.x0, .string S.p1, .int .i64 S.x1, .int .i64 S.cur] (sC S.log v S.log.good) [.int .i64 S.safe, .int .i64 S.stage, .int .i64 S.floor, .int .i64 S.said] (sC T v2 T.good) (by rw [sC_len hF hT, sC_len h.2.2.2.1 h.2.2.2.2])
    exact e2
  rw [e] at hput
  exact ⟨⟨hput, hz.aside h.1 (by decide) (by decide) ha, hx, hF, hT⟩, ha⟩
theorem ShOf.slot {w : World} {g : Nat} {S : Sh} {v : Value} {xs : List (Rv × Option Addr × Nat)} (h : ShOf w g S v xs) (hc : S.cur ≤ 1) : w.cell? ⟨g, 4, none⟩ = some (.int .i64 S.cur) ∧ w.cell? ⟨g, S.cur * 2, none⟩ = some (.string S.c) := by
  obtain ⟨⟨c0, _, c2, _, c4⟩, _⟩ := h.cells
  refine ⟨c4, ?_⟩
  rcases (by omega : S.cur = 0 ∨ S.cur = 1) with h0 | h0
  · rw [h0]
    have e : S.p0 = S.c := if_pos h0
    rw [e] at c0
    exact c0
  · rw [h0]
    have e : S.p1 = S.c := if_neg (by omega)
    rw [e] at c2
    exact c2
set_option maxRecDepth 100000 in
set_option maxHeartbeats 8000000 in
theorem Change_any (S : Sh) (g : Nat) (w : World) (h : ShIs w g S) (ok : DkOk S) (hE : logE (scanL S.o.data.toList).1 = 0) :
    Calls Try.prog 53 #[.pointer (some ⟨g, 0, none⟩)] w fun e w' => e = .returned (.tuple #[]) ∧ ShIs w' g (changeS S) ∧ Aside g w w' := by
  obtain ⟨v, xs, hof⟩ := h
  have HO : Hid (ShOf w g S v xs) := hof
  obtain ⟨n, hn⟩ : ∃ n : Nat, 1 - S.cur = n := ⟨_, rfl⟩
  have hcur := ok.cur
  have hwm : IntKind.i64.wrap (1 - (S.cur : Int)) = (n : Int) := by rw [IntWalk.i64_in _ ⟨by omega, by omega⟩]; omega
  obtain ⟨T, hT⟩ : ∃ T, logS (scanL S.o.data.toList).1 = T := ⟨_, rfl⟩
  have lok : ∃ m, LOk T m := by rw [← hT]; exact logS_ok hE
  obtain ⟨mm, lok⟩ := lok
  have HT : Hid (T.first.length = 16 ∧ T.table.length = 16 ∧ T.revs.length ≤ 64 ∧ T.base + T.revs.length ≤ 2147483647) := ⟨lok.first, lok.table, lok.revs, lok.ends⟩
  have HCh : Hid (changeS S = { c := S.o, x := S.o.size, o := S.c, y := S.x, cur := n, log := T, safe := T.base + T.revs.length, stage := 4, floor := S.floor, said := S.said }) := by
    show _ = _
    unfold changeS
    rw [hT, hn]
  have hos : S.o.size ≤ 9223372036854775807 := by have := ok.lens.2.1; omega
  have HRd : Hid (∀ w, Calls Try.prog 80 #[.string S.o] w fun e w' => ReadO T 0 w e w') := by
    intro w
    have h := (Read_any S.o w hos).mono fun e w' h => read_o h
    rw [hT, hE] at h
    exact h
  have HF1 : Hid (ShOf (w.setCell ⟨g, 4, none⟩ (.int .i64 (n : Int))) g (flipS S) v xs ∧ Aside g w (w.setCell ⟨g, 4, none⟩ (.int .i64 (n : Int)))) := by
    have h := hof.flip hcur
    rw [hn] at h
    exact h
  have hfc : (flipS S).cur = n := hn
  have HMk : Hid (∀ w, ShIs w g (flipS S) → Calls Try.prog 65 #[.pointer (some ⟨g, 0, none⟩), .int .i64 (n : Int)] w fun e w' => e = .returned (.tuple #[]) ∧ ShIs w' g ((flipS S).disk S.o S.o.size S.c S.x) ∧ Aside g w w') := by
    intro w h
    have h3 := ShMake_cur (flipS S) g w h ⟨by rw [hfc]; omega, ok.two, ok.one⟩
    rw [hfc] at h3
    exact h3
  have hn1 : n ≤ 1 := by omega
  have HFc : Hid ((flipS S).cur = n) := hfc
  have c4 := hof.cells.1.2.2.2.2
  have f4 := hof.1.free 4
  have hgl := hof.1.lt
  have HSl : Hid (∀ w' v xs, ShOf w' g ((flipS S).disk S.o S.o.size S.c S.x) v xs → w'.cell? ⟨g, 4, none⟩ = some (.int .i64 (n : Int)) ∧ w'.cell? ⟨g, n * 2, none⟩ = some (.string S.o)) := by
    intro w' v xs h
    have h3 := h.slot (by show 1 - S.cur ≤ 1; omega)
    have e : ((flipS S).disk S.o S.o.size S.c S.x).cur = n := hn
    rw [e] at h3
    exact h3
  clear hof ok hE hT hcur lok mm hos hfc hn
  go_enter Try.func53, Try.ntmps53
  go_upto_region 1 with fail
  generalize w.setCell ⟨g, 4, none⟩ (.int .i64 (n : Int)) = w1 at HF1 ⊢
  have HI1 : Hid (ShIs w1 g (flipS S)) := ⟨_, _, HF1.out.1⟩
  clear c4 f4 hgl
  have c4 : w1.cell? ⟨g, 4, none⟩ = some (.int .i64 (n : Int)) := by
    have h := HF1.out.1.cells.1.2.2.2.2
    rw [HFc.out] at h
    exact h
  have hgl := HF1.out.1.1.lt
  go_wp2_with fail
  with_reducible refine (HMk.out _ HI1.out).mono ?_
  rintro e w2 ⟨rfl, hs2, ha2⟩
  obtain ⟨v2, xs2, hof2⟩ := hs2
  have HO2 : Hid (ShOf w2 g ((flipS S).disk S.o S.o.size S.c S.x) v2 xs2) := hof2
  have HA2 : Hid (Aside g w w2) := HF1.out.2.trans ha2
  have HSs : Hid (∀ w', Below w2.heap.size w2 w' → w'.cell? ⟨g, 4, none⟩ = some (.int .i64 (n : Int)) ∧ w'.cell? ⟨g, n * 2, none⟩ = some (.string S.o)) := fun w' hb => HSl.out w' v2 xs2 (hof2.below hb)
  have n0 : (0 : Int) ≤ (n : Int) := by omega
  have n2 : (n : Int) < 2 := by omega
  clear c4 hgl ha2 hof2
  go_upto_region 2 with fail
  try simp only [Act.put, List.getElem_toArray, List.getElem_cons_succ, List.getElem_cons_zero, List.setIfInBounds_toArray, List.set_cons_zero, List.set_cons_succ]
  refine wp_region_held_drew (S := fun w' => w'.cell? ⟨g, 4, none⟩ = some (.int .i64 (n : Int)) ∧ w'.cell? ⟨g, n * 2, none⟩ = some (.string S.o)) (by kernel_rfl) (HSs.out _ (Below.refl _ w2).drew) (fun hHeld => ?_)
  refine wpAnyH_take (i := 0) (v := .pointer (some ⟨g, 0, none⟩)) rfl (by kernel_rfl) (by kernel_rfl) (by kernel_rfl) (fun _ _ _ h => h) (Or.inl ⟨by kernel_rfl, fun w' hSw => by obtain ⟨s0, s1⟩ := hSw; first | (go_simp; done) | (go_simp; rfl)⟩) hHeld ?_
  try simp only [Act.put, List.getElem_toArray, List.getElem_cons_succ, List.getElem_cons_zero, List.setIfInBounds_toArray, List.set_cons_zero, List.set_cons_succ]
  refine wpAnyH_take (i := 1) (v := .pointer (some ⟨g, 0, none⟩)) rfl (by kernel_rfl) (by kernel_rfl) (by kernel_rfl) (fun _ _ _ h => h) (Or.inl ⟨by kernel_rfl, fun w' hSw => by obtain ⟨s0, s1⟩ := hSw; first | (go_simp; done) | (go_simp; rfl)⟩) hHeld ?_
  try simp only [Act.put, List.getElem_toArray, List.getElem_cons_succ, List.getElem_cons_zero, List.setIfInBounds_toArray, List.set_cons_zero, List.set_cons_succ]
  refine wpAnyH_take (i := 2) (v := .pointer (some ⟨g, 0, none⟩)) rfl (by kernel_rfl) (by kernel_rfl) (by kernel_rfl) (fun _ _ _ h => h) (Or.inl ⟨by kernel_rfl, fun w' hSw => by obtain ⟨s0, s1⟩ := hSw; first | (go_simp; done) | (go_simp; rfl)⟩) hHeld ?_
  try simp only [Act.put, List.getElem_toArray, List.getElem_cons_succ, List.getElem_cons_zero, List.setIfInBounds_toArray, List.set_cons_zero, List.set_cons_succ]
  refine wpAnyH_take (i := 3) (v := .pointer (some ⟨g, 0, none⟩)) rfl (by kernel_rfl) (by kernel_rfl) (by kernel_rfl) (fun _ _ _ h => h) (Or.inl ⟨by kernel_rfl, fun w' hSw => by obtain ⟨s0, s1⟩ := hSw; first | (go_simp; done) | (go_simp; rfl)⟩) hHeld ?_
  try simp only [Act.put, List.getElem_toArray, List.getElem_cons_succ, List.getElem_cons_zero, List.setIfInBounds_toArray, List.set_cons_zero, List.set_cons_succ]
  refine wpAnyH_take (i := 4) (v := .pointer (some ⟨g, 4, none⟩)) rfl (by kernel_rfl) (by kernel_rfl) (by kernel_rfl) (fun _ _ _ h => h) (Or.inl ⟨by kernel_rfl, fun w' hSw => by obtain ⟨s0, s1⟩ := hSw; first | (go_simp; done) | (go_simp; rfl)⟩) hHeld ?_
  try simp only [Act.put, List.getElem_toArray, List.getElem_cons_succ, List.getElem_cons_zero, List.setIfInBounds_toArray, List.set_cons_zero, List.set_cons_succ]
  refine wpAnyH_take (i := 5) (v := .int .i64 (n : Int)) rfl (by kernel_rfl) (by kernel_rfl) (by kernel_rfl) (fun _ _ _ h => h) (Or.inl ⟨by kernel_rfl, fun w' hSw => by obtain ⟨s0, s1⟩ := hSw; first | (go_simp; done) | (go_simp; rfl)⟩) hHeld ?_
  try simp only [Act.put, List.getElem_toArray, List.getElem_cons_succ, List.getElem_cons_zero, List.setIfInBounds_toArray, List.set_cons_zero, List.set_cons_succ]
  refine wpAnyH_take (i := 6) (v := .pointer (some ⟨g, 0, none⟩)) rfl (by kernel_rfl) (by kernel_rfl) (by kernel_rfl) (fun _ _ _ h => h) (Or.inl ⟨by kernel_rfl, fun w' hSw => by obtain ⟨s0, s1⟩ := hSw; first | (go_simp; done) | (go_simp; rfl)⟩) hHeld ?_
  try simp only [Act.put, List.getElem_toArray, List.getElem_cons_succ, List.getElem_cons_zero, List.setIfInBounds_toArray, List.set_cons_zero, List.set_cons_succ]
  refine wpAnyH_take (i := 7) (v := .pointer (some ⟨g, 0, none⟩)) rfl (by kernel_rfl) (by kernel_rfl) (by kernel_rfl) (fun _ _ _ h => h) (Or.inl ⟨by kernel_rfl, fun w' hSw => by obtain ⟨s0, s1⟩ := hSw; first | (go_simp; done) | (go_simp; rfl)⟩) hHeld ?_
  try simp only [Act.put, List.getElem_toArray, List.getElem_cons_succ, List.getElem_cons_zero, List.setIfInBounds_toArray, List.set_cons_zero, List.set_cons_succ]
  refine wpAnyH_take (i := 8) (v := .pointer (some ⟨g, 0, none⟩)) rfl (by kernel_rfl) (by kernel_rfl) (by kernel_rfl) (fun _ _ _ h => h) (Or.inl ⟨by kernel_rfl, fun w' hSw => by obtain ⟨s0, s1⟩ := hSw; first | (go_simp; done) | (go_simp; rfl)⟩) hHeld ?_
  try simp only [Act.put, List.getElem_toArray, List.getElem_cons_succ, List.getElem_cons_zero, List.setIfInBounds_toArray, List.set_cons_zero, List.set_cons_succ]
  refine wpAnyH_take (i := 9) (v := .pointer (some ⟨g, n * 2, none⟩)) rfl (by kernel_rfl) (by kernel_rfl) (by kernel_rfl) (fun _ _ _ h => h) (Or.inl ⟨by kernel_rfl, fun w' hSw => by obtain ⟨s0, s1⟩ := hSw; first | (go_simp; done) | (go_simp; rfl)⟩) hHeld ?_
  try simp only [Act.put, List.getElem_toArray, List.getElem_cons_succ, List.getElem_cons_zero, List.setIfInBounds_toArray, List.set_cons_zero, List.set_cons_succ]
  refine wpAnyH_take (i := 10) (v := .pointer (some ⟨g, n * 2, none⟩)) rfl (by kernel_rfl) (by kernel_rfl) (by kernel_rfl) (fun _ _ _ h => h) (Or.inl ⟨by kernel_rfl, fun w' hSw => by obtain ⟨s0, s1⟩ := hSw; first | (go_simp; done) | (go_simp; rfl)⟩) hHeld ?_
  try simp only [Act.put, List.getElem_toArray, List.getElem_cons_succ, List.getElem_cons_zero, List.setIfInBounds_toArray, List.set_cons_zero, List.set_cons_succ]
  refine wpAnyH_take (i := 11) (v := .string S.o) rfl (by kernel_rfl) (by kernel_rfl) (by kernel_rfl) (fun _ _ _ h => h) (Or.inl ⟨by kernel_rfl, fun w' hSw => by obtain ⟨s0, s1⟩ := hSw; first | (go_simp; done) | (go_simp; rfl)⟩) hHeld ?_
  try simp only [Act.put, List.getElem_toArray, List.getElem_cons_succ, List.getElem_cons_zero, List.setIfInBounds_toArray, List.set_cons_zero, List.set_cons_succ]
  refine wpAnyH_ready (rs := [12]) (by kernel_rfl) (by simp) ?_
  refine AllReadyH.cons rfl (fun K hK => ?_) AllReadyH.nil
  go_simp
  with_reducible refine (HRd.out _).mono ?_
  rintro e w3 ⟨v3, xs3, rfl, hz3, hx3, hb3⟩
  have HB3 : Hid (Below w2.heap.size w2 w3) := ((Below.refl w2.heap.size w2).drew).trans hb3
  have HZ3 : Hid (RzsOwn w3 0 v3 xs3 ∧ xs3.map (·.1) = T.revs) := ⟨hz3.base (Nat.zero_le _), hx3⟩
  obtain ⟨va3, vc3, hv3⟩ := rzs_form hz3
  have HOn : Hid (v3.oneCell' = true) := by
    show _ = _
    rw [hv3]; rfl
  clear hb3 hz3 hx3 hv3
  go_wp2_with fail
  refine hK.out _ _ (HSs.out _ HB3.out) (fun hHeld3 => ?_)
  clear hK K
  try simp only [Act.put, List.getElem_toArray, List.getElem_cons_succ, List.getElem_cons_zero, List.setIfInBounds_toArray, List.set_cons_zero, List.set_cons_succ]
  have HL : Hid ((sC T v3 T.good).length = 38) := sC_len HT.out.1 HT.out.2.1
  have HI : Hid _ := log_into HL.out (lgC_one HOn.out)
  have HO3 : Hid (ShOf w3 g ((flipS S).disk S.o S.o.size S.c S.x) v2 xs2) := HO2.out.below HB3.out
  have HF3 : Hid _ := HO3.out.logTo HZ3.out.1 HZ3.out.2 HT.out.1 HT.out.2.1
  obtain ⟨L, hL⟩ : ∃ L, sC T v3 T.good = L := ⟨_, rfl⟩
  rw [hL] at HL HI HF3 ⊢
  clear hL
  have HSf : Hid ((w3.setCells g 5 L).cell? ⟨g, 4, none⟩ = some (.int .i64 (n : Int)) ∧ (w3.setCells g 5 L).cell? ⟨g, n * 2, none⟩ = some (.string S.o)) := by
    have h3 := HF3.out.1.slot (by show (flipS S).cur ≤ 1; rw [HFc.out]; exact hn1)
    have e : ({ (flipS S).disk S.o S.o.size S.c S.x with log := T } : Sh).cur = n := HFc.out
    rw [e] at h3
    exact h3
  have hinfo2 := HI.out.1
  have hone := HI.out.2.2.1
  have hl47 : (shC ((flipS S).disk S.o S.o.size S.c S.x) v2).length = 47 := shL_len (sC_len HO3.out.2.2.2.1 HO3.out.2.2.2.2)
  have hth : w3.there g 5 L.toArray.size := HO3.out.1.there (by have h47 := hl47; rw [List.size_toArray, HL.out]; omega)
  refine wpAnyH_take (i := 13) (v := .tuple #[.agg L.toArray, .int .i64 0]) rfl (by kernel_rfl) (by kernel_rfl) (by kernel_rfl) (fun _ _ _ h => h) (Or.inl ⟨by kernel_rfl, fun w' hSw => by obtain ⟨s0, s1⟩ := hSw; first | (go_simp; done) | (go_simp; rfl)⟩) hHeld3 ?_
  try simp only [Act.put, List.getElem_toArray, List.getElem_cons_succ, List.getElem_cons_zero, List.setIfInBounds_toArray, List.set_cons_zero, List.set_cons_succ]
  refine wpAnyH_take (i := 14) (v := .agg L.toArray) rfl (by kernel_rfl) (by kernel_rfl) (by kernel_rfl) (fun _ _ _ h => h) (Or.inl ⟨by kernel_rfl, fun w' hSw => by obtain ⟨s0, s1⟩ := hSw; first | (go_simp; done) | (go_simp; rfl)⟩) hHeld3 ?_
  try simp only [Act.put, List.getElem_toArray, List.getElem_cons_succ, List.getElem_cons_zero, List.setIfInBounds_toArray, List.set_cons_zero, List.set_cons_succ]
  refine wpAnyH_take (i := 15) (v := .int .i64 0) rfl (by kernel_rfl) (by kernel_rfl) (by kernel_rfl) (fun _ _ _ h => h) (Or.inl ⟨by kernel_rfl, fun w' hSw => by obtain ⟨s0, s1⟩ := hSw; first | (go_simp; done) | (go_simp; rfl)⟩) hHeld3 ?_
  try simp only [Act.put, List.getElem_toArray, List.getElem_cons_succ, List.getElem_cons_zero, List.setIfInBounds_toArray, List.set_cons_zero, List.set_cons_succ]
  refine wpAnyH_take (i := 16) (v := .pointer (some ⟨g, 0, none⟩)) rfl (by kernel_rfl) (by kernel_rfl) (by kernel_rfl) (fun _ _ _ h => h) (Or.inl ⟨by kernel_rfl, fun w' hSw => by obtain ⟨s0, s1⟩ := hSw; first | (go_simp; done) | (go_simp; rfl)⟩) hHeld3 ?_
  try simp only [Act.put, List.getElem_toArray, List.getElem_cons_succ, List.getElem_cons_zero, List.setIfInBounds_toArray, List.set_cons_zero, List.set_cons_succ]
  refine wpAnyH_take (i := 17) (v := .pointer (some ⟨g, 5, none⟩)) rfl (by kernel_rfl) (by kernel_rfl) (by kernel_rfl) (fun _ _ _ h => h) (Or.inl ⟨by kernel_rfl, fun w' hSw => by obtain ⟨s0, s1⟩ := hSw; first | (go_simp; done) | (go_simp; rfl)⟩) hHeld3 ?_
  try simp only [Act.put, List.getElem_toArray, List.getElem_cons_succ, List.getElem_cons_zero, List.setIfInBounds_toArray, List.set_cons_zero, List.set_cons_succ]
  refine wpAnyH_ready (rs := [18]) (by kernel_rfl) (by simp) ?_
  refine AllReadyH.cons rfl (fun K hK => ?_) AllReadyH.nil
  refine wp_store_mid 82 _ _ rfl g 5 L.toArray (by rfl) (by rfl) hth hinfo2 hone ?_
  refine hK.out _ _ (HSf.out) (fun hHeld4 => ?_)
  clear hK K
  try simp only [Act.put, List.getElem_toArray, List.getElem_cons_succ, List.getElem_cons_zero, List.setIfInBounds_toArray, List.set_cons_zero, List.set_cons_succ]
  refine wpAnyH_done (by kernel_rfl) ?_ _
  clear hHeld hHeld3 hHeld4 hth hone hinfo2 hl47
  have HA4 : Hid (Aside g w (w3.setCells g 5 L)) := (HA2.out.next HB3.out).trans HF3.out.2
  have HO4 : Hid (ShOf (w3.setCells g 5 L) g { (flipS S).disk S.o S.o.size S.c S.x with log := T } v3 xs3) := HF3.out.1
  clear HF3 HSf
  generalize w3.setCells g 5 L = w4 at HA4 HO4 ⊢
  have HI4 : Hid (ShIs w4 g { (flipS S).disk S.o S.o.size S.c S.x with log := T }) := ⟨_, _, HO4.out⟩
  have HHd : Hid (∀ w, ShIs w g { (flipS S).disk S.o S.o.size S.c S.x with log := T } → Calls Try.prog 14 #[.pointer (some ⟨g, 0, none⟩)] w fun e w' => e = .returned (.int .i64 ((T.base + T.revs.length : Nat) : Int)) ∧ Below w.heap.size w w') := fun w h => ShHead_any { (flipS S).disk S.o S.o.size S.c S.x with log := T } g w h HT.out.2.2.1 HT.out.2.2.2
  obtain ⟨hd, hhd⟩ : ∃ hd : Nat, T.base + T.revs.length = hd := ⟨_, rfl⟩
  rw [hhd] at HHd HCh
  clear hhd
  go_upto_region 3 with fail
  go_wp2_with fail
  with_reducible refine (HHd.out _ HI4.out).mono ?_
  rintro e w5 ⟨rfl, hb5⟩
  have HO5 : Hid (ShOf w5 g { (flipS S).disk S.o S.o.size S.c S.x with log := T } v3 xs3) := HO4.out.below hb5
  have HA5 : Hid (Aside g w w5) := HA4.out.next hb5
  have c43 := HO5.out.cells.2.2.1
  have f43 := HO5.out.1.free 43
  have HF5 : Hid (ShOf (w5.setCell ⟨g, 43, none⟩ (.int .i64 (hd : Int))) g { { (flipS S).disk S.o S.o.size S.c S.x with log := T } with safe := hd } v3 xs3 ∧ Aside g w5 (w5.setCell ⟨g, 43, none⟩ (.int .i64 (hd : Int)))) := HO5.out.safe hd
  clear hb5
  go_upto_region 4 with fail
  generalize w5.setCell ⟨g, 43, none⟩ (.int .i64 (hd : Int)) = w6 at HF5 ⊢
  clear c43 f43
  have c44 := HF5.out.1.cells.2.2.2.1
  have f44 := HF5.out.1.1.free 44
  have HF6 : Hid (ShOf (w6.setCell ⟨g, 44, none⟩ (.int .i64 4)) g (changeS S) v3 xs3 ∧ Aside g w6 (w6.setCell ⟨g, 44, none⟩ (.int .i64 4))) := by
    have h3 := HF5.out.1.staged 4
    show _ ∧ _
    rw [HCh.out]
    have e : ({ { { (flipS S).disk S.o S.o.size S.c S.x with log := T } with safe := hd } with stage := 4 } : Sh) = { c := S.o, x := S.o.size, o := S.c, y := S.x, cur := n, log := T, safe := hd, stage := 4, floor := S.floor, said := S.said } := by
      rw [← HFc.out]; rfl
    rw [e] at h3
    exact h3
  go_wp2_with fail
  go_end0
  exact ⟨rfl, ⟨_, _, HF6.out.1⟩, (HA5.out.trans HF5.out.2).trans HF6.out.2⟩
end Go.Proofs.Ytgffippimmokiaa

/- What Step does. -/
namespace Go.Proofs.Ytgffippimmokiaa
open Go.RowKit
set_option linter.unusedSimpArgs false
set_option linter.unusedVariables false

def overS (S : Sh) : Sh := { S.disk S.c S.x ⟨#[]⟩ 0 with stage := 0, floor := 0, said := 0 }
noncomputable def stepS (S : Sh) : Sh := if S.stage = 1 then stepHead S else if S.stage = 2 then stepNext S else if S.stage = 3 then changeS S else if S.stage = 4 then overS S else S
def stepB (S : Sh) : Bool := decide (S.stage = 1 ∨ S.stage = 2 ∨ S.stage = 3 ∨ S.stage = 4)
/-- what a step wants -/
structure StOk (S : Sh) : Prop where
  one : S.stage = 1 → S.log.gen < 2147483647 ∧ S.log.base ≤ S.floor ∧ S.floor ≤ headN S
  two : S.stage = 2 → S.log.base ≤ S.said ∧ S.said ≤ headN S ∧ S.o.size + 4007 ≤ 1048576
  three : S.stage = 3 → logE (scanL S.o.data.toList).1 = 0
set_option maxRecDepth 20000 in
set_option maxHeartbeats 4000000 in
theorem ShStep_any (S : Sh) (g : Nat) (w : World) (h : ShIs w g S) (ok : ShOk S) (st : StOk S) :
    Calls Try.prog 16 #[.pointer (some ⟨g, 0, none⟩)] w fun e w' => e = .returned (.bool (stepB S)) ∧ ShIs w' g (stepS S) ∧ Aside g w w' := by
  obtain ⟨v, xs, hof⟩ := h
  have HI : Hid (ShIs w g S) := ⟨_, _, hof⟩
  have hgl := hof.1.lt
  have c44 := hof.cells.2.2.2.1
  by_cases h1 : S.stage = 1
  · obtain ⟨o1, o2, o3⟩ := st.one h1
    have HC : Hid _ := fun w h => SayHead_any S g w h ok o1 o2 o3
    have HE : Hid (stepB S = true ∧ stepS S = stepHead S) := ⟨by rw [stepB, h1]; rfl, by rw [stepS, if_pos h1]⟩
    rw [h1] at c44
    clear h1 o1 o2 o3 hof ok st
    go_enter Try.func16, Try.ntmps16
    go_wp2_with fail
    with_reducible refine (HC.out _ HI.out).mono ?_
    rintro e w1 ⟨rfl, hs1, ha1⟩
    have HS1 : Hid (ShIs w1 g (stepHead S) ∧ Aside g w w1) := ⟨hs1, ha1⟩
    clear hs1 ha1
    go_wp2_with fail
    go_ret
    exact ⟨by rw [HE.out.1]; rfl, by rw [HE.out.2]; exact HS1.out.1, HS1.out.2⟩
  · by_cases h2 : S.stage = 2
    · obtain ⟨o1, o2, o3⟩ := st.two h2
      have HC : Hid _ := fun w h => SayNext_any S g w h ok o1 o2 o3
      have HE : Hid (stepB S = true ∧ stepS S = stepNext S) := ⟨by rw [stepB, h2]; rfl, by rw [stepS, if_neg h1, if_pos h2]⟩
      rw [h2] at c44
      clear h1 h2 o1 o2 o3 hof ok st
      go_enter Try.func16, Try.ntmps16
      go_wp2_with fail
      with_reducible refine (HC.out _ HI.out).mono ?_
      rintro e w1 ⟨rfl, hs1, ha1⟩
      have HS1 : Hid (ShIs w1 g (stepNext S) ∧ Aside g w w1) := ⟨hs1, ha1⟩
      clear hs1 ha1
      go_wp2_with fail
      go_ret
      exact ⟨by rw [HE.out.1]; rfl, by rw [HE.out.2]; exact HS1.out.1, HS1.out.2⟩
    · by_cases h3 : S.stage = 3
      · have HC : Hid _ := fun w h => Change_any S g w h ok.dk (st.three h3)
        have HE : Hid (stepB S = true ∧ stepS S = changeS S) := ⟨by rw [stepB, h3]; rfl, by rw [stepS, if_neg h1, if_neg h2, if_pos h3]⟩
        rw [h3] at c44
        clear h1 h2 h3 hof ok st
        go_enter Try.func16, Try.ntmps16
        go_wp2_with fail
        with_reducible refine (HC.out _ HI.out).mono ?_
        rintro e w1 ⟨rfl, hs1, ha1⟩
        have HS1 : Hid (ShIs w1 g (changeS S) ∧ Aside g w w1) := ⟨hs1, ha1⟩
        clear hs1 ha1
        go_wp2_with fail
        go_ret
        exact ⟨by rw [HE.out.1]; rfl, by rw [HE.out.2]; exact HS1.out.1, HS1.out.2⟩
      · by_cases h4 : S.stage = 4
        · have c4 := hof.cells.1.2.2.2.2
          obtain ⟨m, hm⟩ : ∃ m : Int, 1 - (S.cur : Int) = m := ⟨_, rfl⟩
          have hwm : IntKind.i64.wrap (1 - (S.cur : Int)) = m := by
            have := ok.dk.cur
            rw [IntWalk.i64_in _ ⟨by omega, by omega⟩, hm]
          have HC : Hid _ := fun w h => ShClear_oth S g w h ok.dk
          rw [hm] at HC
          have HE : Hid (stepB S = true ∧ stepS S = overS S) := ⟨by rw [stepB, h4]; rfl, by rw [stepS, if_neg h1, if_neg h2, if_neg h3, if_pos h4]⟩
          rw [h4] at c44
          clear h1 h2 h3 h4 hof ok st hm
          go_enter Try.func16, Try.ntmps16
          go_wp2_with fail
          with_reducible refine (HC.out _ HI.out).mono ?_
          rintro e w1 ⟨rfl, hs1, ha1⟩
          obtain ⟨v1, xs1, hof1⟩ := hs1
          have HA1 : Hid (Aside g w w1) := ha1
          have d44 := hof1.cells.2.2.2.1
          have d45 := hof1.cells.2.2.2.2.1
          have d46 := hof1.cells.2.2.2.2.2
          have f44 := hof1.1.free 44
          have f45 := hof1.1.free 45
          have f46 := hof1.1.free 46
          have HF : Hid (ShOf (((w1.setCell ⟨g, 44, none⟩ (.int .i64 0)).setCell ⟨g, 45, none⟩ (.int .i64 0)).setCell ⟨g, 46, none⟩ (.int .i64 0)) g (overS S) v1 xs1 ∧ Aside g w1 (((w1.setCell ⟨g, 44, none⟩ (.int .i64 0)).setCell ⟨g, 45, none⟩ (.int .i64 0)).setCell ⟨g, 46, none⟩ (.int .i64 0))) := hof1.moved 0 0 0
          clear hof1 ha1 c4 c44 hgl
          go_wp2_with fail
          go_ret
          exact ⟨by rw [HE.out.1]; rfl, by rw [HE.out.2]; exact ⟨_, _, HF.out.1⟩, HA1.out.trans HF.out.2⟩
        · have HE : Hid (stepB S = false ∧ stepS S = S) := ⟨by rw [stepB, decide_eq_false_iff_not]; omega, by rw [stepS, if_neg h1, if_neg h2, if_neg h3, if_neg h4]⟩
          obtain ⟨s, hs⟩ : ∃ s : Int, ((S.stage : Nat) : Int) = s := ⟨_, rfl⟩
          rw [hs] at c44
          have b1 : (s == 1) = false := by rw [beq_eq_false_iff_ne]; omega
          have b2 : (s == 2) = false := by rw [beq_eq_false_iff_ne]; omega
          have b3 : (s == 3) = false := by rw [beq_eq_false_iff_ne]; omega
          have b4 : (s == 4) = false := by rw [beq_eq_false_iff_ne]; omega
          clear h1 h2 h3 h4 hof ok st hs
          go_enter Try.func16, Try.ntmps16
          go_wp2_with fail
          go_ret
          exact ⟨by rw [HE.out.1]; rfl, by rw [HE.out.2]; exact HI.out, Aside.refl g w⟩
end Go.Proofs.Ytgffippimmokiaa
