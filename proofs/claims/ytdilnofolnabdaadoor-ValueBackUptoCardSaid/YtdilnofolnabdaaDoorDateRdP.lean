/-
  The program's own functions of layer 10: a day and a stamp as they are read.
-/
import Derived.Test.YtdilnofolnabdaaDoorDateRdM
import Derived.BigQuiet
import Derived.Test.YtdilnofolnabdaaDoorDateRefF
import Derived.Test.YtdilnofolnabdaaDoorDateWr
import Derived.Test.YtdilnofolnabdaaDoorTextNumber
namespace Go.Proofs.YtdilnofolnabdaaDoor
open Go.RowKit

theorem numV_rangeB (l : List UInt8) {most : Int} (hm : 0 ≤ most) : 0 ≤ (numV l most).1 ∧ (numV l most).1 ≤ most := numV_range l most hm
set_option maxRecDepth 100000 in
set_option maxHeartbeats 2000000 in
theorem readDate_any (yr dy : ByteArray) (m : Int) (hy : yr.size ≤ 64) (hd : dy.size ≤ 64) (hm : 0 ≤ m ∧ m ≤ 12) (w : World) (hv : DV w) :
    Calls Tryd.prog 59 #[.string yr, .int .i64 m, .string dy] w fun e w' => e = .returned (.tuple #[.int .i64 (dateW yr.data.toList m dy.data.toList).1, .bool (dateW yr.data.toList m dy.data.toList).2]) ∧ Below w.heap.size w w' := by
  have n1 := fun W => number_any yr (by omega) 9999 W
  have n2 := fun W => number_any dy (by omega) 31 W
  have r1 := numV_rangeB yr.data.toList (most := 9999) (by decide)
  have r2 := numV_rangeB dy.data.toList (most := 31) (by decide)
  unfold dateW
  generalize numV yr.data.toList 9999 = z1 at *
  generalize numV dy.data.toList 31 = z2 at *
  obtain ⟨y, yb⟩ := z1
  obtain ⟨d, db⟩ := z2
  dsimp only at n1 n2 r1 r2 ⊢
  have c1 := pDays_any y m d (by omega) (by omega) (by omega) w hv
  generalize daysV y m d = z at *
  obtain ⟨q, qb⟩ := z
  dsimp only at c1 ⊢
  go_enter Tryd.func59, Tryd.ntmps59
  go_wp2_with (first
    | (go_at_call 54; ((with_reducible refine (n1 _).mono ?_); rintro e w' ⟨rfl, hw⟩; subst w'))
    | (go_at_call 54; ((with_reducible refine (n2 _).mono ?_); rintro e w' ⟨rfl, hw⟩; subst w'))
    | (go_at_call 77; ((with_reducible refine c1.mono ?_); rintro e w1 ⟨rfl, hb1⟩)))
  go_ret2
  exact ⟨rfl, hb1⟩

set_option maxRecDepth 100000 in
set_option maxHeartbeats 2000000 in
theorem readClock_any (a b c : ByteArray) (ha : a.size ≤ 64) (hb : b.size ≤ 64) (hc : c.size ≤ 64) (w : World) :
    Calls Tryd.prog 57 #[.string a, .string b, .string c] w fun e w' => e = .returned (.tuple #[.int .i64 (clkP a.data.toList b.data.toList c.data.toList).1, .bool (clkP a.data.toList b.data.toList c.data.toList).2]) ∧ w' = w := by
  have n1 := fun W => number_any a (by omega) 23 W
  have n2 := fun W => number_any b (by omega) 59 W
  have n3 := fun W => number_any c (by omega) 59 W
  have r1 := numV_rangeB a.data.toList (most := 23) (by decide)
  have r2 := numV_rangeB b.data.toList (most := 59) (by decide)
  have r3 := numV_rangeB c.data.toList (most := 59) (by decide)
  unfold clkP
  generalize numV a.data.toList 23 = z1 at *
  generalize numV b.data.toList 59 = z2 at *
  generalize numV c.data.toList 59 = z3 at *
  obtain ⟨x, xb⟩ := z1
  obtain ⟨y, yb⟩ := z2
  obtain ⟨z, zb⟩ := z3
  dsimp only at n1 n2 n3 r1 r2 r3 ⊢
  cases xb <;> cases yb <;> cases zb <;>
  · go_enter Tryd.func57, Tryd.ntmps57
    go_wp2_with (first
      | (go_at_call 54; ((with_reducible refine (n1 _).mono ?_); rintro e w' ⟨rfl, hw⟩; subst w'))
      | (go_at_call 54; ((with_reducible refine (n2 _).mono ?_); rintro e w' ⟨rfl, hw⟩; subst w'))
      | (go_at_call 54; ((with_reducible refine (n3 _).mono ?_); rintro e w' ⟨rfl, hw⟩; subst w')))
    go_ret2
    exact ⟨rfl, rfl⟩

end Go.Proofs.YtdilnofolnabdaaDoor
