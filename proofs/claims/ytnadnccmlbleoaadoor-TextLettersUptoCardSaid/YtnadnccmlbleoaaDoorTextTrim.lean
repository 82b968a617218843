/-
  A text without blanks at its ends, as the program and as the document make it.
-/
import Derived.WalkSpells
import Derived.WalkLawsBesides
import Derived.Test.YtnadnccmlbleoaaDoorTextLib
import Derived.Test.YtnadnccmlbleoaaDoorTextShelf
namespace Go.Proofs.YtnadnccmlbleoaaDoor
open Go.RowKit

def trimL (l : List UInt8) : List UInt8 := Lib.trimS l [32, 9]
theorem trimL_length (l : List UInt8) : (trimL l).length ≤ l.length := by
  unfold trimL Lib.trimS Lib.trimLeftS Lib.trimRightS
  refine Nat.le_trans (List.dropWhile_sublist _).length_le ?_
  rw [List.length_reverse]
  refine Nat.le_trans (List.dropWhile_sublist _).length_le ?_
  rw [List.length_reverse]
  exact Nat.le_refl _

set_option maxHeartbeats 1000000 in
theorem trim_any (s : ByteArray) (hs : s.size ≤ 16777216) (w : World) :
    Calls Tryd.prog 26 #[.string s] w fun e w' => e = .returned (.string ⟨(trimL s.data.toList).toArray⟩) ∧ Below w.heap.size w w' := by
  have c1 := fun w => Tryd.strings_Trim_blanks s w (by omega)
  have c2 := fun w => Tryd.stringslite_Clone ⟨(trimL s.data.toList).toArray⟩ w (by
    have := trimL_length s.data.toList
    rw [bsize] at hs ⊢
    simp only
    omega)
  unfold trimL at c2 ⊢
  generalize Lib.trimS s.data.toList [32, 9] = t at c1 c2 ⊢
  go_enter Tryd.func26, Tryd.ntmps26
  go_wp2_with (first
    | (go_at_call 43; refine (c1 _).mono ?_; rintro e w1 ⟨rfl, hb1⟩)
    | (go_at_call 48; refine (c2 _).mono ?_; rintro e w2 ⟨rfl, hb2⟩)
    | go_in)
  go_ret
  exact ⟨rfl, bstep hb1 hb2⟩

/-- The part of a text from i to j. -/
theorem trim_left {l : List UInt8} {i : Nat} (h : i ≤ l.length) (h1 : ∀ k, k < i → l.getD k 0 = 32 ∨ l.getD k 0 = 9) (h2 : i < l.length → ¬ (l.getD i 0 = 32 ∨ l.getD i 0 = 9)) : Lib.trimLeftS l [32, 9] = l.drop i :=
  Lib.trimLeftS_drop l _ i h (fun j b hj hb => by
    have := h1 j hj
    rw [List.getD_eq_getElem?_getD, hb] at this
    simpa using this) (fun b hb => by
    have hlt : i < l.length := (List.getElem?_eq_some_iff.1 hb).1
    have := h2 hlt
    rw [List.getD_eq_getElem?_getD, hb] at this
    simpa using this)

end Go.Proofs.YtnadnccmlbleoaaDoor
