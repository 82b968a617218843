/-
  A text with small letters, as the document makes it; two texts that are alike.
-/
import Derived.Test.YtdilnofolnabdaaDoorTextLower
namespace Go.Proofs.YtdilnofolnabdaaDoor
open Go.RowKit

theorem lowK_keep {l : List UInt8} {k : Nat} (hk : k < l.length) (h : lowC (l.getD k 0) = l.getD k 0) : lowK l k = lowK l (k + 1) := by
  rw [← lowK_set hk, h, ← lowK_get (l := l) (k := k)]
  have hk' : k < (lowK l k).length := by rw [lowK_length]; exact hk
  rw [List.getD_eq_getElem?_getD, List.getElem?_eq_getElem hk']
  simp
theorem lowC_keep {x : UInt8} (h : ¬ (65 ≤ x.toNat ∧ x.toNat ≤ 90)) : lowC x = x := by
  apply UInt8.toNat_inj.1
  rw [lowC_nat]
  unfold lowN
  rw [if_neg h]
theorem lowC_turn {x : UInt8} (h : 65 ≤ x.toNat ∧ x.toNat ≤ 90) : (lowC x).toNat = x.toNat + 32 := by
  rw [lowC_nat]
  unfold lowN
  rw [if_pos h]

theorem eqL (a b : List UInt8) : (a == b) = decide (a = b) := by
  by_cases h : a = b
  · subst h; simp
  · rw [decide_eq_false h, beq_eq_false_iff_ne]
    exact h

end Go.Proofs.YtdilnofolnabdaaDoor
