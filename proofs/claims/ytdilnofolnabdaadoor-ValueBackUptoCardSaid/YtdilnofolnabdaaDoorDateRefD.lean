/-
  The document's own answers of layer 10: a day, and a time, as a text.
-/
import Derived.Test.YtdilnofolnabdaaDoorDateRefC
namespace Go.Proofs.YtdilnofolnabdaaDoor
open Go.RowKit

theorem mk_nil : (⟨[].toArray⟩ : ByteArray) = ⟨#[]⟩ := rfl

end Go.Proofs.YtdilnofolnabdaaDoor
