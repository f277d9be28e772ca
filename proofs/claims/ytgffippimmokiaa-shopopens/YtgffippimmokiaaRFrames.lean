/- What the document's own Frames answers. -/
import Derived.Test.YtgffippimmokiaaFrameKit
import Derived.Test.YtgffippimmokiaaRUnframe
import Derived.Laws.AppendOwnNone
namespace Go.Proofs.Ytgffippimmokiaa
open Go.RowKit
set_option linter.unusedSimpArgs false
set_option linter.unusedVariables false

set_option maxRecDepth 20000 in
set_option maxHeartbeats 4000000 in
theorem RFrames_aux (m : Nat) : ∀ (s : ByteArray) (w : World), s.size ≤ m → s.size ≤ 1000000000000 →
    Calls Try.prog 83 #[.string s] w fun e w' => ∃ v, e = .returned (.tuple #[v, .int .i64 (scanL s.data.toList).2]) ∧ w'.ownsRow w.heap.size 149 2 v (scanL s.data.toList).1.length (frAll (scanL s.data.toList).1) ∧ Below w.heap.size w w' := by
  induction m with
  | zero =>
    intro s w hm hs
    have hl : s.data.toList.length = s.size := Array.length_toList
    have hE : gotE s.data.toList ≠ 0 := by rw [gotE, hl, if_pos (by omega)]; decide
    have HG : Hid _ := fun w => RUnframe_any s w (by omega)
    unfold frV at HG
    rw [scans_bad hE]
    obtain ⟨q, hq⟩ : ∃ q, gotE s.data.toList = q := ⟨_, rfl⟩
    rw [hq] at HG hE
    have hq' : (q != 0) = true := by simp [hE]
    clear hq hE hl
    go_enter Try.func83, Try.ntmps83
    go_wp2_with fail
    refine (HG.out _).mono ?_
    rintro e w1 ⟨rfl, hb1⟩
    have HB1 : Hid (Below w.heap.size w w1) := hb1
    have hz1 := HB1.out.size
    clear hb1
    go_wp2_with fail
    go_ret2
    exact ⟨_, rfl, World.ownsRow_nil _ _ _ _, HB1.out.alloc hz1 _⟩
  | succ m ih =>
    intro s w hm hs
    have hl : s.data.toList.length = s.size := Array.length_toList
    have HG : Hid _ := fun w => RUnframe_any s w (by omega)
    unfold frV at HG
    by_cases hE : gotE s.data.toList = 0
    · obtain ⟨ip, hip, hp0, hp1, hp2⟩ := info_parts infoFrame
      obtain ⟨-, -, -, h4, h5, -⟩ := got_put hE
      rw [scans_good hE]
      rw [hE] at HG
      have hda := drop_at s (gotN s.data.toList)
      obtain ⟨n, hn⟩ : ∃ n, gotN s.data.toList = n := ⟨_, rfl⟩
      obtain ⟨f, hf⟩ : ∃ f : Fr, (⟨(gotK s.data.toList : Int), gotB s.data.toList⟩ : Fr) = f := ⟨_, rfl⟩
      have f1 : ((gotK s.data.toList : Nat) : Int) = f.k := by rw [← hf]
      have f2 : gotB s.data.toList = f.t := by rw [← hf]
      rw [f1, f2, hn] at HG
      rw [hn] at h4 h5 hda
      rw [hf, hn]
      rw [hl] at h4
      have IH : Hid _ := fun w => ih (s.extract n s.size) w (by rw [ByteArray.size_extract]; omega) (by rw [ByteArray.size_extract]; omega)
      rw [hda] at IH
      have hle := (scan_le _ (s.data.toList.drop n) (Nat.le_refl _))
      rw [List.length_drop, hl] at hle
      obtain ⟨fs, hfs⟩ : ∃ x, (scanL (s.data.toList.drop n)).1 = x := ⟨_, rfl⟩
      obtain ⟨k, hk⟩ : ∃ x, (scanL (s.data.toList.drop n)).2 = x := ⟨_, rfl⟩
      rw [hfs, hk] at IH hle
      rw [hfs, hk]
      obtain ⟨hle1, hle2⟩ := hle
      clear f1 f2 hf hn hE hda hfs hk hl ih
      have hni : (n : Int) ≤ (s.size : Int) := by omega
      go_enter Try.func83, Try.ntmps83
      go_wp2_with fail
      refine (HG.out _).mono ?_
      rintro e w1 ⟨rfl, hb1⟩
      have HB1 : Hid (Below w.heap.size w w1) := hb1
      have hz1 := HB1.out.size
      clear hb1
      go_wp2_with fail
      refine (IH.out _).mono ?_
      rintro e w2 ⟨v, rfl, hown, hb2⟩
      obtain ⟨p0, p1, p2⟩ := (fbox_here w1 f.k ⟨f.t.toArray⟩).below hb2
      have HB2 : Hid (Below w.heap.size w w2) := (HB1.out.alloc hz1 _).trans (hb2.mono (by simp; omega))
      have hz2 := HB2.out.size
      have HO : Hid (w2.ownsRow (w1.alloc (.cells #[.int .i64 f.k, .string ⟨f.t.toArray⟩] 149)).heap.size 149 2 v fs.length (frAll fs)) := hown
      have hAs := World.ownsRow_lit (base := w.heap.size) (e := 149) (size := 2) w2 #[.int .i64 f.k, .string ⟨f.t.toArray⟩] 1 hz2 (by decide) rfl
      rcases hown.2 with ⟨hv, h0⟩ | ⟨g, cap, cur, hv, hB, hg, hcap⟩
      · subst hv
        have hfn : fs = [] := List.length_eq_zero_iff.1 h0
        subst hfn
        clear hb2 hown h0
        go_wp2_with (at_builtin; refine wpList_append_own_none rfl _ _ 119 rfl w.heap.size 149 ip 2 Try.underlying119 hip _ _ _ rfl hAs rfl ?_)
        go_wp2_with fail
        go_ret2
        exact ⟨_, by congr 1, hAs, HB2.out.alloc hz2 _⟩
      · subst hv
        have hnw : ∀ j u, (frAll fs)[j]? = some u → (w2.alloc (.cells #[.int .i64 f.k, .string ⟨f.t.toArray⟩] 149)).cell? ((⟨g, 0, none⟩ : Addr).add j) = some u := fun j u hu => by
          have h2 := own_alloc HO.out (.cells #[.int .i64 f.k, .string ⟨f.t.toArray⟩] 149)
          have h3 := (List.getElem?_eq_some_iff.1 hu).1
          rw [frAll_length] at h3
          rw [Addr.add_lit, Nat.zero_add, h2.cellAt j h3]
          exact hu
        clear hb2 hown hcap hg hB
        go_wp2_with (at_builtin; refine wpList_append_own _ rfl _ _ 119 rfl w.heap.size 149 ip _ 2 24 Try.underlying119 hip hp0 hp1 hp2 rfl (by decide) _ _ _ rfl hAs ⟨g, 0, none⟩ fs.length cap (frAll fs) rfl (frAll_length fs) hnw (frAll_one fs) ?c3 ?c4 ?c5 ?_)
        case c3 => unfold maxLen; omega
        case c4 => omega
        case c5 => first | omega | (simp; omega)
        intro v' w3 hown2 hgrow _
        obtain ⟨bo, cb2, rfl⟩ := slice_form' hown2
        have HB3 : Hid (Below w.heap.size w w3) := below_own' (HB2.out.alloc hz2 _) hAs hgrow (by simp; omega)
        have HO2 : Hid (w3.ownsRow w.heap.size 149 2 (.slice bo (1 + fs.length) cb2) (f :: fs).length (frAll (f :: fs))) := by
          show w3.ownsRow _ _ _ _ _ _
          rw [List.length_cons, Nat.add_comm fs.length 1]
          exact hown2
        clear hown2 hgrow hAs hnw
        go_wp2_with fail
        go_ret2
        exact ⟨_, by congr 1, HO2.out, HB3.out⟩
    · rw [scans_bad hE]
      obtain ⟨q, hq⟩ : ∃ q, gotE s.data.toList = q := ⟨_, rfl⟩
      rw [hq] at HG hE
      have hq' : (q != 0) = true := by simp [hE]
      clear hq hE hl ih
      go_enter Try.func83, Try.ntmps83
      go_wp2_with fail
      refine (HG.out _).mono ?_
      rintro e w1 ⟨rfl, hb1⟩
      have HB1 : Hid (Below w.heap.size w w1) := hb1
      have hz1 := HB1.out.size
      clear hb1
      go_wp2_with fail
      go_ret2
      exact ⟨_, rfl, World.ownsRow_nil _ _ _ _, HB1.out.alloc hz1 _⟩
theorem RFrames_any (s : ByteArray) (w : World) (hs : s.size ≤ 1000000000000) :
    Calls Try.prog 83 #[.string s] w fun e w' => ∃ v, e = .returned (.tuple #[v, .int .i64 (scanL s.data.toList).2]) ∧ w'.ownsRow w.heap.size 149 2 v (scanL s.data.toList).1.length (frAll (scanL s.data.toList).1) ∧ Below w.heap.size w w' :=
  RFrames_aux s.size s w (Nat.le_refl _) hs
end Go.Proofs.Ytgffippimmokiaa
