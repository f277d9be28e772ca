/- What frame.Scan answers. -/
import Derived.Test.YtjcanpijogocoabFrMem
import Derived.Deep.AppendLies
namespace Go.Proofs.Ytjcanpijogocoab
open Go.RowKit
set_option linter.unusedSimpArgs false
set_option linter.unusedVariables false

theorem drop_at (s : ByteArray) (a : Nat) : (s.extract a s.size).data.toList = s.data.toList.drop a := by
  rw [Lib.extract_data]
  have h : s.data.toList.length = s.size := Array.length_toList
  exact List.take_of_length_le (by rw [List.length_drop, h]; omega)

set_option maxRecDepth 20000 in
set_option maxHeartbeats 4000000 in
theorem Scan_any (s : ByteArray) (w : World) (hs : s.size ≤ 1000000000000) :
    Calls Try.prog 9 #[.string s] w fun e w' => ∃ v, e = .returned (.tuple #[v, .int .i64 (scanL s.data.toList).2]) ∧ w'.ownsRow w.heap.size 23 2 v (scanL s.data.toList).1.length (frAll (scanL s.data.toList).1) ∧ Below w.heap.size w w' := by
  obtain ⟨ip, hip, hp0, hp1, hp2⟩ := info_parts infoFrame
  have hl : s.data.toList.length = s.size := Array.length_toList
  have HL : Hid _ := hl
  clear hl
  go_enter Try.func9, Try.ntmps9
  go_wp2_with fail
  go_loopw [4, 5] (fun v a wr => ∃ (p : Nat) (out : List Fr) (ao : Option Addr) (co : Nat), p ≤ s.size ∧ a = .int .i64 p ∧ v = .slice ao out.length co ∧ wr.ownsRow w.heap.size 23 2 (.slice ao out.length co) out.length (frAll out) ∧
    scanL s.data.toList = (out ++ (scanL (s.data.toList.drop p)).1, p + (scanL (s.data.toList.drop p)).2) ∧ 7 * out.length ≤ p ∧ Below w.heap.size w wr) (fun _ a _ => s.size - (intOf a).toNat)
  case atStart => exact ⟨0, [], none, 0, Nat.zero_le _, rfl, rfl, World.ownsRow_nil _ _ _ _, by simp, by simp, Below.refl _ _⟩
  case round =>
    rename World => wr
    obtain ⟨p, out, ao, co, hp, rfl, rfl, hown, hx, h7, hb⟩ := hrel
    have hz := hb.size
    have HO : Hid (wr.ownsRow w.heap.size 23 2 (.slice ao out.length co) out.length (frAll out)) := hown
    have HB : Hid (Below w.heap.size w wr) := hb
    have HX : Hid _ := hx
    have HG : Hid _ := fun w => FGet_any (s.extract p s.size) w (by rw [ByteArray.size_extract]; omega)
    rw [drop_at] at HG
    unfold frV at HG
    obtain ⟨l, hll⟩ : ∃ l, s.data.toList.drop p = l := ⟨_, rfl⟩
    rw [hll] at HG HX
    have hln : l.length = s.size - p := by rw [← hll, List.length_drop, HL.out]
    have HDD : Hid (∀ q, l.drop q = s.data.toList.drop (p + q)) := fun q => by rw [← hll, List.drop_drop]
    have hpi : (p : Int) ≤ (s.size : Int) := by omega
    clear hown hb hx hll
    by_cases hE : gotE l = 0
    · obtain ⟨_, _, _, h4, h5, _⟩ := got_put hE
      have HSC : Hid _ := scan_good hE
      rw [hE] at HG
      obtain ⟨n, hn⟩ : ∃ n, gotN l = n := ⟨_, rfl⟩
      obtain ⟨f, hf⟩ : ∃ f : Fr, (⟨(gotK l : Int), gotB l⟩ : Fr) = f := ⟨_, rfl⟩
      have f1 : ((gotK l : Nat) : Int) = f.k := by rw [← hf]
      have f2 : gotB l = f.t := by rw [← hf]
      rw [f1, f2, hn] at HG
      rw [hf, hn] at HSC
      rw [hn] at h4 h5
      clear f1 f2 hf hn hE
      go_wp2_with fail
      refine (HG.out _).mono ?_
      rintro e w1 ⟨rfl, hb1⟩
      have HB1 : Hid (Below w.heap.size w w1) := HB.out.trans (hb1.mono hz)
      have HO1 : Hid (w1.ownsRow w.heap.size 23 2 (.slice ao out.length co) out.length (frAll out)) := own_stay HO.out hb1
      have hz1 := HB1.out.size
      clear hb1
      have hAs := own_alloc (own_alloc HO1.out (.cells #[.int .i64 f.k, .string ⟨f.t.toArray⟩] 23)) (.cells #[.int .i64 f.k, .string ⟨f.t.toArray⟩] 23)
      go_wp2_with (at_builtin; refine wpList_append_own _ rfl _ _ 33 rfl w.heap.size 23 ip _ 2 24 Try.underlying33 hip hp0 hp1 hp2 rfl (by decide) _ _ _ rfl hAs ⟨w1.heap.size + 1, 0, none⟩ 1 1 [.int .i64 f.k, .string ⟨f.t.toArray⟩] rfl rfl ?c2 (by simp [Value.oneCell']) ?c3 ?c4 ?c5 ?_)
      case c2 => exact World.news_of_block (cs := #[.int .i64 f.k, .string ⟨f.t.toArray⟩]) (t := 23) (fr := (0, 0)) (by have h := heap_alloc_new (w1.alloc (.cells #[.int .i64 f.k, .string ⟨f.t.toArray⟩] 23)) (.cells #[.int .i64 f.k, .string ⟨f.t.toArray⟩] 23); rw [show (w1.alloc (.cells #[.int .i64 f.k, .string ⟨f.t.toArray⟩] 23)).heap.size = w1.heap.size + 1 from Deep.nblk_alloc _ _] at h; exact h)
      case c3 => unfold maxLen; omega
      case c4 => omega
      case c5 => first | omega | (simp; omega)
      intro v' w2 hown2 hgrow _
      obtain ⟨bo, cb2, rfl⟩ := slice_form' hown2
      have HB2 : Hid (Below w.heap.size w w2) := below_own' ((HB1.out.alloc hz1 _).alloc (by simp; omega) _) hAs hgrow (by simp; omega)
      have HO2 : Hid (w2.ownsRow w.heap.size 23 2 (.slice bo (out.length + 1) cb2) (out ++ [f]).length (frAll (out ++ [f]))) := fr_snoc hown2
      clear hown2 hgrow hAs
      go_wp2_with fail
      go_roundw
      case rel =>
        refine ⟨p + n, out ++ [f], bo, cb2, by omega, by go_num, by simp, by have h := HO2.out; rw [List.length_append] at h ⊢; exact h, ?_, by rw [List.length_append, List.length_singleton]; omega, HB2.out⟩
        rw [HX.out, HSC.out, HDD.out n]
        simp only [List.append_assoc, List.singleton_append, Prod.mk.injEq, true_and]
        omega
      case measure => simp [intOf]; omega
    · have HSC : Hid _ := scan_bad hE
      rw [HSC.out] at HX
      obtain ⟨q, hq⟩ : ∃ q, gotE l = q := ⟨_, rfl⟩
      rw [hq] at HG hE
      have hq' : (q != 0) = true := by simp [hE]
      clear hq hE HSC
      go_wp2_with fail
      refine (HG.out _).mono ?_
      rintro e w1 ⟨rfl, hb1⟩
      have HB1 : Hid (Below w.heap.size w w1) := HB.out.trans (hb1.mono hz)
      have HO1 : Hid (w1.ownsRow w.heap.size 23 2 (.slice ao out.length co) out.length (frAll out)) := own_stay HO.out hb1
      have hz1 := HB1.out.size
      clear hb1
      go_wp2_with fail
      go_ret2
      refine ⟨_, by rw [HX.out]; rfl, ?_, HB1.out.alloc hz1 _⟩
      rw [HX.out, List.append_nil]
      exact own_alloc HO1.out _
end Go.Proofs.Ytjcanpijogocoab
