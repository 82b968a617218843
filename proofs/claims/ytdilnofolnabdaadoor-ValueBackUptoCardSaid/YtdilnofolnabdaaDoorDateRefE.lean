/-
  The document's own answers of layer 10: a time as a stamp, and as HTTP writes it.
-/
import Derived.Test.YtdilnofolnabdaaDoorDateRefD
namespace Go.Proofs.YtdilnofolnabdaaDoor
open Go.RowKit

theorem clk_parts {t : Int} (s : Nat) (hs : t % 86400 = s) : s < 86400 := by omega
end Go.Proofs.YtdilnofolnabdaaDoor
