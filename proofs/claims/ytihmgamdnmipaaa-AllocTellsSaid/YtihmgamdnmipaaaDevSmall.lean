/-
  The small functions on a device, of the program and of the document: copies, one operation spent, blocks, Same, Arm.
-/
import Derived.Test.YtihmgamdnmipaaaDevLib
namespace Go.Proofs.Ytihmgamdnmipaaa
open Go.RowKit

/-- One less, but of -1. -/
def spL (l : Int) : Int := if 0 < l then l - 1 else l
theorem spL_pos {l : Int} (h : 0 < l) : spL l = l - 1 := if_pos h
theorem spL_neg {l : Int} (h : ¬ 0 < l) : spL l = l := if_neg h

end Go.Proofs.Ytihmgamdnmipaaa
