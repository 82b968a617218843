/-
  The program's own functions of layer 10, under one shape: what each answers, and that it leaves what lay before.
-/
import Derived.Test.YtnnpiaangemieaaDoorDateRdH
namespace Go.Proofs.YtnnpiaangemieaaDoor
open Go.RowKit

theorem pWeekday_any (n : Int) (_hn : -9223372036854775808 ≤ n ∧ n < 9223372036854775808) (w : World) (_hv : DV w) :
    Calls Tryd.prog 15 #[.int .i64 n] w fun e w' => e = .returned (.int .i64 (wdD n)) ∧ Below w.heap.size w w' :=
  (weekday_any n w).mono fun e w' ⟨he, hw⟩ => ⟨he, by rw [hw]; exact Below.refl _ _⟩
theorem pIn_any (t : Int) (_ht : -9223372036854775808 ≤ t ∧ t < 9223372036854775808) (w : World) (_hv : DV w) :
    Calls Tryd.prog 17 #[.int .i64 t] w fun e w' => e = .returned (.bool (inD t)) ∧ Below w.heap.size w w' :=
  (in_any t w).mono fun e w' ⟨he, hw⟩ => ⟨he, by rw [hw]; exact Below.refl _ _⟩
theorem pParts_any (t : Int) (ht : -9223372036854775808 ≤ t ∧ t < 9223372036854775808) (w : World) (_hv : DV w) :
    Calls Tryd.prog 11 #[.int .i64 t] w fun e w' => e = .returned (.tuple #[.int .i64 (t / 86400), .int .i64 (t % 86400)]) ∧ Below w.heap.size w w' :=
  (parts_any t ht w).mono fun e w' ⟨he, hw⟩ => ⟨he, by rw [hw]; exact Below.refl _ _⟩

end Go.Proofs.YtnnpiaangemieaaDoor
