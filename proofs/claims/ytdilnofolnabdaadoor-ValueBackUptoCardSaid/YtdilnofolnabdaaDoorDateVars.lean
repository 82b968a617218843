/-
  What the program's listed variables hold: the lengths of the months, the names of months and of days of the week, and the library's powers of ten.
-/
import Derived.Lib.Hide
import Derived.Lib.LaidTab
import Derived.Test.YtdilnofolnabdaaDoorDateShelf
import Derived.Test.YtdilnofolnabdaaDoorDateRefH
import Derived.Test.YtdilnofolnabdaaDoorDateRefE
namespace Go.Proofs.YtdilnofolnabdaaDoor
open Go.RowKit

/-- A variable's cells. -/
def CellsAt (w : World) (g : Nat) (vs : List Value) : Prop := ∀ i v, vs[i]? = some v → w.cell? ⟨g, i, none⟩ = some v
theorem cell_in {w : World} {a : Addr} {v : Value} (h : w.cell? a = some v) : a.block < w.heap.size := by
  unfold World.cell? at h
  by_cases hb : a.block < w.heap.size
  · exact hb
  · rw [Array.getElem?_eq_none (by simpa using hb)] at h
    cases h
theorem CellsAt.step {w w' : World} {g : Nat} {vs : List Value} (h : CellsAt w g vs) (hb : Below w.heap.size w w') : CellsAt w' g vs := fun i v hv =>
  (hb.cell (p := ⟨g, i, none⟩) (cell_in (h i v hv))).trans (h i v hv)
def lensV : List Value := [.int .i64 31, .int .i64 28, .int .i64 31, .int .i64 30, .int .i64 31, .int .i64 30, .int .i64 31, .int .i64 31, .int .i64 30, .int .i64 31, .int .i64 30, .int .i64 31]
/-- The listed variables as their initialisers lay them. -/
structure DV (w : World) : Prop where
  len : CellsAt w 2 lensV
  tab : Lib.TabIs Tryd.prog w "internal/strconv.uint64pow10" .u64 Lib.pow10Tab
theorem tab_step {n : String} {k : IntKind} {zs : List Int} {w w' : World} (h : Lib.TabIs Tryd.prog w n k zs) (hb : Below w.heap.size w w') : Lib.TabIs Tryd.prog w' n k zs := by
  unfold Lib.TabIs World.var? at *
  cases hg : Tryd.prog.globalNamed n with
  | none => simp [hg] at h
  | some g =>
    simp only [hg, Option.bind_some] at h ⊢
    have hlt : g < w.heap.size := by
      rcases Nat.lt_or_ge g w.heap.size with h' | h'
      · exact h'
      · rw [Array.getElem?_eq_none h'] at h; simp at h
    rw [hb.block g hlt]
    exact h
theorem DV.step {w w' : World} (h : DV w) (hb : Below w.heap.size w w') : DV w' := ⟨h.len.step hb, tab_step h.tab hb⟩
theorem DV.drew {w : World} (h : DV w) : DV w.drew := h.step (Below.refl _ _).drew
theorem DV.drewN {w : World} (h : DV w) (n : Nat) : DV (w.drewN n) := h.step ⟨rfl, rfl, rfl, Nat.le_refl _, fun _ _ => rfl⟩

end Go.Proofs.YtdilnofolnabdaaDoor
