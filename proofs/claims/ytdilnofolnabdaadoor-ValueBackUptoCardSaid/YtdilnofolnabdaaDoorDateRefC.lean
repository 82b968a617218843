/-
  The document's own answers of layer 10: numbers with noughts ahead, days and times as texts.
-/
import Derived.Test.YtdilnofolnabdaaDoorTextLib
import Derived.Test.YtdilnofolnabdaaDoorDateText
import Derived.Test.YtdilnofolnabdaaDoorDateRefB
namespace Go.Proofs.YtdilnofolnabdaaDoor
open Go.RowKit

theorem Byt.of_litD {w : World} {e : TypeId} (l : List UInt8) (C : Array Value) (h : C.toList = l.map fun x => Value.int .u8 (x.toNat : Int)) : Byt (w.alloc (.cells C e)) w.heap.size l := by
  have hs : C.size = l.length := by rw [← Array.length_toList, h, List.length_map]
  refine ⟨C, e, 0, 0, heap_alloc_new w _, .inr rfl, by omega, fun j hj => ?_⟩
  rw [← Array.getElem?_toList, h]
  simp [hj]
theorem mk_app (a b : List UInt8) : (⟨a.toArray⟩ : ByteArray) ++ ⟨b.toArray⟩ = ⟨(a ++ b).toArray⟩ := by
  apply ByteArray.ext
  rw [ByteArray.data_append]
  simp
theorem mk_size (a : List UInt8) : (⟨a.toArray⟩ : ByteArray).size = a.length := by simp [ByteArray.size]

end Go.Proofs.YtdilnofolnabdaaDoor
