/-
  Same, of the program and of the document: whether two devices are one, field by field: for all devices.
-/
import Derived.Test.YtihmgamdnmipaaaDevLib
import Derived.LoopTactic
namespace Go.Proofs.Ytihmgamdnmipaaa
open Go.RowKit

theorem drawn_below {B : Nat} (w : World) (n : Nat) : Below B w (w.drewN n) := ⟨rfl, rfl, rfl, Nat.le_refl _, fun _ _ => rfl⟩
theorem sameD_no1 {d d2 : D} (h : d.bs ≠ d2.bs) : decide (d = d2) = false := decide_eq_false fun e => h (by rw [e])
theorem sameD_no2 {d d2 : D} (h : d.cs ≠ d2.cs) : decide (d = d2) = false := decide_eq_false fun e => h (by rw [e])
theorem sameD_no3 {d d2 : D} (h : d.left ≠ d2.left) : decide (d = d2) = false := decide_eq_false fun e => h (by rw [e])
theorem sameD_no4 {d d2 : D} (h : d.dead ≠ d2.dead) : decide (d = d2) = false := decide_eq_false fun e => h (by rw [e])
theorem sameD_yes {d d2 : D} (h1 : d.bs = d2.bs) (h2 : d.cs = d2.cs) (h3 : d.left = d2.left) (h4 : d.dead = d2.dead) : decide (d = d2) = true := by
  obtain ⟨a, b, c, e⟩ := d
  obtain ⟨a2, b2, c2, e2⟩ := d2
  exact decide_eq_true (by cases h1; cases h2; cases h3; cases h4; rfl)

end Go.Proofs.Ytihmgamdnmipaaa
