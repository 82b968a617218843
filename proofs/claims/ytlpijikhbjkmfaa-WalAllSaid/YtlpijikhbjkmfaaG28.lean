/-
  The chapter's example, reckoned.
-/
import Derived.Test.YtlpijikhbjkmfaaG27
import Derived.Test.YtlpijikhbjkmfaaG01
namespace Go.Proofs.Ytlpijikhbjkmfaa
open Go.RowKit

/-- An image with some blocks turned. -/
def turnL (img : List ByteArray) (by_ : UInt8) : List Nat → List ByteArray
  | [] => img
  | k :: r => turnL (img.set k ⟨Array.replicate 128 (by_ + UInt8.ofNat k)⟩) by_ r
def ex0 : D := (makeD 8 4).1
def exI : List ByteArray := turnL (homeD ex0 8 4).1 1 [3]
def ex1 : D := (commitD (armD ex0 4) 8 4 7 exI).1
def ex2 : D := (recoverD (crashD ex1 [true]) 8 4).1
def ex3 : D := (commitD ex0 8 4 7 exI).1
deriving instance DecidableEq for D
theorem ex_make : (makeD 8 4).2 = 0 := by decide +kernel
theorem ex_home : (homeD ex0 8 4).2 = 0 ∧ (homeD ex0 8 4).1.length = 8 := by decide +kernel
theorem ex_changed : changedL (homeD ex0 8 4).1 exI = [3] := by decide +kernel
theorem ex_broken : (commitD (armD ex0 4) 8 4 7 exI).2 = (16, false) := by decide +kernel
theorem ex_done : (commitD ex0 8 4 7 exI).2 = (0, true) := by decide +kernel
theorem ex_done_home : homeD ex3 8 4 = (exI, 0) := by decide +kernel
theorem ex_rec : (recoverD (crashD ex1 [true]) 8 4).2 = 0 := by decide +kernel
theorem ex_rec_home : homeD ex2 8 4 = (exI, 0) := by decide +kernel
theorem ex_fit0 : FitP ex0 := by decide +kernel
theorem ex_fit1 : FitP (armD ex0 4) := by decide +kernel
theorem ex_same : changedL exI exI = [] := by decide +kernel

end Go.Proofs.Ytlpijikhbjkmfaa

/-
  The chapter's example: the image with one block turned.
-/
namespace Go.Proofs.Ytlpijikhbjkmfaa

theorem ex_turned : turnZ (homeD ex0 8 4).1 1 [3] = exI := by decide +kernel

end Go.Proofs.Ytlpijikhbjkmfaa
