/-
  A text with small letters, as the program and as the document make it.
-/
import Derived.WalkSpells
import Derived.WalkLawsBesides
import Derived.Test.YtdilnofolnabdaaDoorTextLib
import Derived.Test.YtdilnofolnabdaaDoorTextSmall
namespace Go.Proofs.YtdilnofolnabdaaDoor
open Go.RowKit

/-- The first k with small letters. -/
def lowK (l : List UInt8) (k : Nat) : List UInt8 := lowL (l.take k) ++ l.drop k
theorem lowK_zero (l : List UInt8) : lowK l 0 = l := by simp [lowK, lowL]
theorem lowK_all {l : List UInt8} {k : Nat} (h : l.length ≤ k) : lowK l k = lowL l := by simp [lowK, List.take_of_length_le h, List.drop_eq_nil_of_le h]
theorem lowK_length (l : List UInt8) (k : Nat) : (lowK l k).length = l.length := by simp [lowK, lowL]; omega
theorem lowK_get {l : List UInt8} {k : Nat} : (lowK l k).getD k 0 = l.getD k 0 := by
  unfold lowK
  rw [List.getD_eq_getElem?_getD, List.getD_eq_getElem?_getD]
  by_cases hk : k < l.length
  · rw [List.getElem?_append_right (by simp [lowL]; omega)]
    simp [lowL, Nat.min_eq_left (Nat.le_of_lt hk)]
  · rw [List.getElem?_eq_none (by simp [lowL]; omega), List.getElem?_eq_none (by omega)]
theorem lowK_set {l : List UInt8} {k : Nat} (hk : k < l.length) : (lowK l k).set k (lowC (l.getD k 0)) = lowK l (k + 1) := by
  unfold lowK
  have e1 : (lowL (l.take k)).length = k := by simp [lowL]; omega
  rw [List.set_append_right k _ (by omega), e1, Nat.sub_self, List.drop_eq_getElem_cons hk, List.set_cons_zero, List.take_succ_eq_append_getElem hk, lowL_append]
  simp [lowL, List.getD_eq_getElem?_getD, hk]

end Go.Proofs.YtdilnofolnabdaaDoor
