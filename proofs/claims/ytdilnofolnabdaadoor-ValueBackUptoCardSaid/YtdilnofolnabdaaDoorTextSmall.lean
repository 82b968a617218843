/-
  The small functions of layer 8, the program's and the document's: a byte's kind, its small letter, a digit's value.
-/
import Derived.WalkKit
import Derived.WalkSpells
import Derived.WalkLawsBesides
import Derived.Lib.Hide
import Derived.Test.YtdilnofolnabdaaDoorProg
import Derived.Test.YtdilnofolnabdaaDoorTextMath
namespace Go.Proofs.YtdilnofolnabdaaDoor
open Go.RowKit

set_option maxHeartbeats 1000000 in
theorem isDigit_any (n : Nat) (hn : n < 256) (w : World) :
    Calls Tryd.prog 76 #[.int .u8 n] w fun e w' => e = .returned (.bool (digN n)) ∧ w' = w := by
  by_cases h1 : 48 ≤ n <;> by_cases h2 : n ≤ 57
  all_goals first
    | (exfalso; omega)
    | (have e : Hid (digN n = (decide (48 ≤ n) && decide (n ≤ 57))) := Lib.hid rfl
       go_enter Tryd.func76, Tryd.ntmps76
       go_wp2
       go_ret
       refine ⟨?_, rfl⟩
       rw [e.out]
       first | (simp [h1, h2]; done) | (simp [h1, h2]; omega))

set_option maxHeartbeats 1000000 in
theorem refDigit_any (n : Nat) (hn : n < 256) (w : World) :
    Calls Tryd.prog 58 #[.int .u8 n] w fun e w' => e = .returned (.bool (digN n)) ∧ w' = w := by
  by_cases h1 : 48 ≤ n <;> by_cases h2 : n ≤ 57
  all_goals first
    | (exfalso; omega)
    | (have e : Hid (digN n = (decide (48 ≤ n) && decide (n ≤ 57))) := Lib.hid rfl
       go_enter Tryd.func58, Tryd.ntmps58
       go_wp2
       go_ret
       refine ⟨?_, rfl⟩
       rw [e.out]
       first | (simp [h1, h2]; done) | (simp [h1, h2]; omega))

end Go.Proofs.YtdilnofolnabdaaDoor
