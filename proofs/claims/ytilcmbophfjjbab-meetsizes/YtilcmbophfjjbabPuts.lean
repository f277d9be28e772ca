/- How many bytes a delta puts: what the law MeetSizes reckons. -/
import Derived.Test.YtilcmbophfjjbabMeetKit
namespace Go.Proofs.Ytilcmbophfjjbab
open Go.RowKit
set_option linter.unusedSimpArgs false
set_option linter.unusedVariables false

def putsI : List Pt → Nat
  | [] => 0
  | p :: r => p.t.size + putsI r
theorem puts_app (a b : List Pt) : putsI (a ++ b) = putsI a + putsI b := by
  induction a with
  | nil => simp [putsI]
  | cons p r ih => simp only [List.cons_append, putsI, ih]; omega
theorem puts_snoc {l : List Pt} {k : Nat} {p : Pt} (h : l[k]? = some p) : putsI (l.take (k + 1)) = putsI (l.take k) + p.t.size := by
  rw [take_snoc h, puts_app]; rfl
theorem puts_bd {l : List Pt} (h : ∀ p ∈ l, 0 ≤ p.n ∧ p.n ≤ 500 ∧ p.t.size ≤ 500) : putsI l ≤ 500 * l.length := by
  induction l with
  | nil => simp [putsI]
  | cons p r ih =>
    have h1 := (h p (by simp)).2.2
    have h2 := ih (fun q hq => h q (List.mem_cons_of_mem _ hq))
    simp only [putsI, List.length_cons]; omega
theorem putN_app (a b : List Tok) : putN (a ++ b) = putN a + putN b := by
  induction a with
  | nil => simp [putN]
  | cons t a ih => cases t using Tok.by3 <;> simp [putN, ih] <;> omega
theorem putN_rep (n : Nat) (b : Bool) : putN (List.replicate n (⟨.inl b⟩ : Tok)) = 0 := by
  induction n with
  | zero => rfl
  | succ n ih => simpa [List.replicate_succ, putN] using ih
theorem putN_map (t : List UInt8) : putN (t.map .P) = t.length := by
  induction t with
  | nil => rfl
  | cons c t ih => simp [putN, ih]
theorem puts_word {l : List Pt} (h : Good l) : putsI l = putN (wordL l) := by
  induction l with
  | nil => rfl
  | cons p r ih =>
    obtain ⟨hk, hn, h2, h3⟩ := h p (by simp)
    have hl : p.t.data.toList.length = p.t.size := Array.length_toList
    rw [putsI, ih h.tail, wordL_cons, putN_app, wordP]
    rcases hk with k | k | k
    · rw [if_pos k, h3 (by omega)]; simp [putN_rep]
    · rw [if_neg (by omega), if_pos k, putN_map, hl]
    · rw [if_neg (by omega), if_neg (by omega), h3 (by omega)]; simp [putN_rep]
theorem putN_sem (w : List Tok) (i k : Nat) : putN w + (pairsW w i k).length = outW w := by
  induction w generalizing i k with
  | nil => rfl
  | cons t w ih =>
    cases t using Tok.by3 with
    | K => simp only [putN, pairsW, outW, List.length_cons]; have := ih (i + 1) (k + 1); omega
    | X => simp only [putN, pairsW, outW]; exact ih (i + 1) k
    | P c => simp only [putN, pairsW, outW]; have := ih i (k + 1); omega
theorem Sem.putN {a b : List Tok} (h : Sem a b) : Go.Proofs.Ytilcmbophfjjbab.putN a = Go.Proofs.Ytilcmbophfjjbab.putN b := by
  have h1 := putN_sem a 0 0
  have h2 := putN_sem b 0 0
  have h3 := h.outs
  rw [h.prs 0 0] at h1
  omega
theorem meet_puts {a b : List Pt} (h : meetE a b = 0) : putsI (meetL a b) = putsI a ∧ putsI (meetR a b) = putsI b := by
  obtain ⟨za, zb, zi, _⟩ := meet_zero h
  obtain ⟨x1, y1, _, _, _, sx, sy⟩ := meet_facts h
  have hm := (meet_mt za zb zi).putN
  rw [puts_word (delta_facts za).1, puts_word (delta_facts zb).1, puts_word (delta_facts x1).1, puts_word (delta_facts y1).1, sx.putN, sy.putN]
  exact hm

set_option maxHeartbeats 400000 in
theorem puts_any (a : Option Addr) (l : List Pt) (cap : Nat) (w : World) (hp : PartsAt w w.heap.size a l) (hs : Small l) :
    Calls Try.prog 20 #[.slice a l.length cap] w fun e w' => e = .returned (.int .i64 (putsI l : Nat)) ∧ Below w.heap.size w w' := by
  have hl := hs.1
  go_enter Try.func20, Try.ntmps20
  go_wp2
  go_loopw [3, 8] (fun n i wr => ∃ k : Nat, k ≤ l.length ∧ i = .int .i64 k ∧ n = .int .i64 (putsI (l.take k) : Nat) ∧ Below w.heap.size w wr) (fun _ i _ => l.length - (intOf i).toNat)
  case atStart => exact ⟨0, Nat.zero_le _, rfl, rfl, Below.refl _ _⟩
  case round =>
    obtain ⟨k, hk, rfl, rfl, hb⟩ := hrel
    by_cases hlt : k < l.length
    · obtain ⟨p, hpk⟩ : ∃ p, l[k]? = some p := ⟨l[k], List.getElem?_eq_getElem hlt⟩
      have Hsn : Hid _ := puts_snoc hpk
      have hbd := puts_bd (hs.take k).2
      have hpb := hs.2 p (List.mem_of_getElem? hpk)
      have htl : (l.take k).length ≤ 1600 := (hs.take k).1
      obtain ⟨b, off, rfl, hblt, c1, c2, c3⟩ := (hp.below hb (Nat.le_refl _)).mem hpk
      have HB : Hid _ := hb
      have hz := hb.size
      clear hp hs hpk hb
      go_wp2
      go_roundw
      case rel => exact ⟨k + 1, by omega, by go_num, by rw [Hsn.out]; simp, HB.out.alloc hz _⟩
      case measure => simp [intOf]; omega
    · go_wp2
      go_ret
      exact ⟨ret_int (by rw [List.take_of_length_le (by omega)]), hb⟩

end Go.Proofs.Ytilcmbophfjjbab
