/- As many bytes come of a text as Out says; and what the laws' All answers. -/
import Derived.Test.YtgffippimmokiaaDelta
import Derived.Test.YtgffippimmokiaaPtOwn
import Derived.Deep.Heap
namespace Go.Proofs.Ytgffippimmokiaa
open Go.RowKit
set_option linter.unusedSimpArgs false
set_option linter.unusedVariables false

theorem doL_len {l : List Pt} (hs : ∀ p ∈ l, 0 ≤ p.n ∧ p.n ≤ 500 ∧ p.t.size ≤ 500) (hr : Right l) {s : List UInt8} (h : (s.length : Int) = inI l) : ((doL l s).length : Int) = outI l := by
  induction l generalizing s with
  | nil => simp [doL, outI]
  | cons p r ih =>
    have hp := hr p (by simp)
    have hb := hs p (by simp)
    have hs' : ∀ q ∈ r, 0 ≤ q.n ∧ q.n ≤ 500 ∧ q.t.size ≤ 500 := fun q hq => hs q (List.mem_cons_of_mem _ hq)
    have hr' : Right r := fun q hq => hr q (List.mem_cons_of_mem _ hq)
    have hge := (inI_bd hs').1
    have ih := fun (s : List UInt8) => ih hs' hr' (s := s)
    simp only [inI] at h
    have htl : p.t.data.toList.length = p.t.size := Array.length_toList
    rcases hp with ⟨h1 | h1 | h1, h2, h3, h4⟩
    · have e := ih (s.drop p.n.toNat) (by rw [List.length_drop]; omega)
      have ht := (h3 (by omega)).1
      rw [doL, if_pos h1, outI, if_neg (by omega), List.length_append, List.length_take, ht]
      omega
    · have e := ih s (by have := h2 h1; omega)
      have hn := h2 h1
      rw [doL, if_neg (by omega), if_pos h1, outI, if_neg (by omega), List.length_append, htl, hn]
      omega
    · have e := ih (s.drop p.n.toNat) (by rw [List.length_drop]; omega)
      rw [doL, if_neg (by omega), if_neg (by omega), outI, if_pos h1]
      omega

def allL (n : Int) : List Pt := if n = 0 then [] else [⟨1, n, ByteArray.empty⟩]



end Go.Proofs.Ytgffippimmokiaa

