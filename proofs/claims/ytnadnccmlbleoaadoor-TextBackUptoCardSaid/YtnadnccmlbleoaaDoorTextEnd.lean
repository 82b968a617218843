/-
  Facts of the program that every statement's last step names: what the listed variables hold, and a world that fits.
-/
import Derived.Test.YtnadnccmlbleoaaDoorCards
import Derived.Test.YtnadnccmlbleoaaDoorTie
import Derived.Test.YtnadnccmlbleoaaDoorTextLaws
import Derived.SizedLaws
import Derived.ProofKit
import Derived.OpenShut
import Derived.ChangeMaps5
import Derived.Deep.DeepHandedRow
import Derived.Deep.DeepLaidRun
import Derived.Lib.LaidU8
import Derived.Shelf.Vars
namespace Go.Proofs.YtnadnccmlbleoaaDoor
open Go.ChangeShapes Go.WideShapes Go.ChangeAt Go.RowKit Go.ChangeMaps
theorem Tryd.own : ownKnob Tryd.prog.godebug = none := by kernel_rfl
theorem Tryd.laidOut : laidOutB Tryd.prog = true := by kernel_rfl
theorem tcons_mk {H : Type} {enc : TypeId × Value → H} {P : Program} {w : World} {base : Nat} {spare : Nat → Bool} {held : Bool} {t : TypeId} {ts : List TypeId} {v : Value} {vs : List Value} {d : DataW H} {ds : List (DataW H)} {p p' : List MemPlace}
    (h : DataW.Trod enc P w base spare held t v d p) (hs : DataW.TrodAll enc P w base spare held ts vs ds p') : DataW.TrodAll enc P w base spare held (t :: ts) (v :: vs) (d :: ds) (p ++ p') := ⟨p, p', h, hs, rfl⟩
/-- An argument without memory reads afterwards as it read before. -/
theorem trod_string {H : Type} {enc : TypeId × Value → H} {W W' : World} {v : Value} {d : DataW H} (h : DataW.Trod enc Tryd.prog W 0 (fun _ => true) true 9 v d []) (hb : Below W.heap.size W W') : DataW.Trod enc Tryd.prog W' 0 (fun b => decide (b < W.heap.size)) true 9 v d [] :=
  Below.trod Tryd.laidOut (by kernel_rfl) (of_decide_eq_true (by kernel_rfl)) h hb (fun x hx => by cases hx)
theorem trod_int64 {H : Type} {enc : TypeId × Value → H} {W W' : World} {v : Value} {d : DataW H} (h : DataW.Trod enc Tryd.prog W 0 (fun _ => true) true 2 v d []) (hb : Below W.heap.size W W') : DataW.Trod enc Tryd.prog W' 0 (fun b => decide (b < W.heap.size)) true 2 v d [] :=
  Below.trod Tryd.laidOut (by kernel_rfl) (of_decide_eq_true (by kernel_rfl)) h hb (fun x hx => by cases hx)

theorem gForms : Tryd.prog.globalNamed "almanac/text.forms" = some 0 := by kernel_rfl
theorem gFormsT : (Tryd.prog.globals[0]?).map (·.type) = some 42 := by kernel_rfl
theorem cellsForm : Tryd.prog.cellsOf 41 = 4 := by kernel_rfl
theorem cellsU8 : Tryd.prog.cellsOf 5 = 1 := by kernel_rfl
theorem cellsI32 : Tryd.prog.cellsOf 21 = 1 := by kernel_rfl
theorem undForms : Tryd.prog.underlying 42 = some (.array 4 41) := by kernel_rfl

theorem at_take {cs : List Value} {k : Nat} {v : Value} (h : (cs.drop k).take 1 = [v]) : cs[k]? = some v := by
  have := congrArg (·[0]?) h
  simpa [List.getElem?_take, List.getElem?_drop] using this

/-- One form of the table, as the program holds it. -/
theorem form_cells {H : Type} {enc : TypeId × Value → H} {w : World} {base : Nat} {sp : Nat → Bool} {held : Bool} {fuel : Nat} {cs : List Value} {a b c d : Int} {p : List MemPlace}
    (h : DataW.trod enc Tryd.prog w base sp held fuel 41 cs = some (.agg [.lit (.int .u8 a), .lit (.int .u8 b), .lit (.int .i32 c), .lit (.int .i32 d)], p)) :
    cs[0]? = some (.int .u8 a) ∧ cs[1]? = some (.int .u8 b) ∧ cs[2]? = some (.int .i32 c) ∧ cs[3]? = some (.int .i32 d) := by
  obtain ⟨xs, n, rfl, hx, hl, hxl, hall⟩ := DataW.trod_struct Tryd.underlying41 h
  have hx4 : xs.map (·.1) = [.lit (.int .u8 a), .lit (.int .u8 b), .lit (.int .i32 c), .lit (.int .i32 d)] := by
    have := congrArg Prod.fst hx
    simpa using this.symm
  obtain ⟨x0, x1, x2, x3, rfl⟩ : ∃ x0 x1 x2 x3, xs = [x0, x1, x2, x3] := by
    match xs, hx4 with
    | [x0, x1, x2, x3], _ => exact ⟨x0, x1, x2, x3, rfl⟩
  simp only [List.map_cons, List.map_nil, List.cons.injEq, and_true] at hx4
  obtain ⟨e0, e1, e2, e3⟩ := hx4
  have f0 := hall 0 _ rfl
  have f1 := hall 1 _ rfl
  have f2 := hall 2 _ rfl
  have f3 := hall 3 _ rfl
  change DataW.trod _ _ _ _ _ _ _ 5 ((cs.drop 0).take (Tryd.prog.cellsOf 5)) = some x0 at f0
  change DataW.trod _ _ _ _ _ _ _ 5 ((cs.drop 1).take (Tryd.prog.cellsOf 5)) = some x1 at f1
  change DataW.trod _ _ _ _ _ _ _ 21 ((cs.drop 2).take (Tryd.prog.cellsOf 21)) = some x2 at f2
  change DataW.trod _ _ _ _ _ _ _ 21 ((cs.drop 3).take (Tryd.prog.cellsOf 21)) = some x3 at f3
  rw [cellsU8] at f0 f1
  rw [cellsI32] at f2 f3
  refine ⟨?_, ?_, ?_, ?_⟩
  · obtain ⟨z, hz, hx', _⟩ := DataW.trod_int Tryd.underlying5 f0
    rw [hx'] at e0; cases e0; exact at_take hz
  · obtain ⟨z, hz, hx', _⟩ := DataW.trod_int Tryd.underlying5 f1
    rw [hx'] at e1; cases e1; exact at_take hz
  · obtain ⟨z, hz, hx', _⟩ := DataW.trod_int Tryd.underlying21 f2
    rw [hx'] at e2; cases e2; exact at_take hz
  · obtain ⟨z, hz, hx', _⟩ := DataW.trod_int Tryd.underlying21 f3
    rw [hx'] at e3; cases e3; exact at_take hz

theorem four_at {cs : List Value} {i : Nat} {v0 v1 v2 v3 : Value} (h : ((cs.drop (i * 4)).take 4)[0]? = some v0 ∧ ((cs.drop (i * 4)).take 4)[1]? = some v1 ∧ ((cs.drop (i * 4)).take 4)[2]? = some v2 ∧ ((cs.drop (i * 4)).take 4)[3]? = some v3) :
    cs[i * 4 + 0]? = some v0 ∧ cs[i * 4 + 1]? = some v1 ∧ cs[i * 4 + 2]? = some v2 ∧ cs[i * 4 + 3]? = some v3 := by
  simpa [List.getElem?_take, List.getElem?_drop] using h

/-- What the row's list gives: the table of forms. -/
theorem forms_of {W : World} (h : laidMetH Tryd.prog [("unicode/utf8.acceptRanges", Rows.laid_unicode_utf8_acceptRanges), ("almanac/text.forms", Rows.laid_almanac_text_forms), ("unicode/utf8.first", Rows.laid_unicode_utf8_first)] W) : Forms W := by
  have h' : laidMet Tryd.prog [("unicode/utf8.acceptRanges", Rows.laid_unicode_utf8_acceptRanges), ("almanac/text.forms", Rows.laid_almanac_text_forms), ("unicode/utf8.first", Rows.laid_unicode_utf8_first)] W := h
  obtain ⟨ps, ⟨_, _, _, _, _, q, _, _, _, _, h5, _⟩, _⟩ := h'
  obtain ⟨g, t, cs, fuel, p, _, k1, k2, k3, k4, _, _⟩ := h5
  obtain rfl := Option.some.inj (gForms.symm.trans k1)
  obtain rfl := Option.some.inj (gFormsT.symm.trans k2)
  have hc := World.var?_cell gForms k3
  have el : ∀ i, i < 4 → ∃ fuel' d q, ([.agg [.lit (.int .u8 0), .lit (.int .u8 127), .lit (.int .i32 0), .lit (.int .i32 127)], .agg [.lit (.int .u8 192), .lit (.int .u8 31), .lit (.int .i32 128), .lit (.int .i32 2047)], .agg [.lit (.int .u8 224), .lit (.int .u8 15), .lit (.int .i32 2048), .lit (.int .i32 65535)], .agg [.lit (.int .u8 240), .lit (.int .u8 7), .lit (.int .i32 65536), .lit (.int .i32 1114111)]] : List (DataW Unit))[i]? = some d ∧
      DataW.trod (fun _ => ()) Tryd.prog W 0 (fun _ => true) false fuel' 41 ((cs.toList.drop (i * Tryd.prog.cellsOf 41)).take (Tryd.prog.cellsOf 41)) = some (d, q) := fun i hi => Go.Lib.array_elem undForms k4 i hi
  rw [cellsForm] at el
  obtain ⟨_, _, _, a1, a2⟩ := el 0 (by omega)
  obtain ⟨_, _, _, b1, b2⟩ := el 1 (by omega)
  obtain ⟨_, _, _, c1, c2⟩ := el 2 (by omega)
  obtain ⟨_, _, _, d1, d2⟩ := el 3 (by omega)
  simp only [List.getElem?_cons_zero, List.getElem?_cons_succ, Option.some.injEq] at a1 b1 c1 d1
  subst a1 b1 c1 d1
  obtain ⟨a0, a1, a2, a3⟩ := four_at (form_cells a2)
  obtain ⟨b0, b1, b2, b3⟩ := four_at (form_cells b2)
  obtain ⟨c0, c1, c2, c3⟩ := four_at (form_cells c2)
  obtain ⟨d0, d1, d2, d3⟩ := four_at (form_cells d2)
  have hx : ∀ i v, cs.toList[i]? = some v → W.cell? ⟨0, i, none⟩ = some v := fun i v h => by rw [hc i]; simpa using h
  exact ⟨hx 0 _ a0, hx 1 _ a1, hx 2 _ a2, hx 3 _ a3, hx 4 _ b0, hx 5 _ b1, hx 6 _ b2, hx 7 _ b3, hx 8 _ c0, hx 9 _ c1, hx 10 _ c2, hx 11 _ c3, hx 12 _ d0, hx 13 _ d1, hx 14 _ d2, hx 15 _ d3⟩

/-- The library's own variable holds some number: out of the world's shape. -/
theorem maxl_of {W : World} (h : W.ShapedOpen Tryd.prog) : MaxL W :=
  cell_of_shapedOpen_int (zero := #[.int .i64 0]) (t := 3) (k := .i64) h (of_decide_eq_true (by kernel_rfl)) (by kernel_rfl) rfl (by kernel_rfl) (by kernel_rfl) Tryd.underlying3

def laysForms : Obj → Obj
  | .cells _ t frozen => .cells #[.int .u8 0, .int .u8 127, .int .i32 0, .int .i32 127, .int .u8 192, .int .u8 31, .int .i32 128, .int .i32 2047, .int .u8 224, .int .u8 15, .int .i32 2048, .int .i32 65535, .int .u8 240, .int .u8 7, .int .i32 65536, .int .i32 1114111] t frozen
  | o => o
def laysFirst : Obj → Obj
  | .cells _ t frozen => .cells (Go.Pinned.utf8FirstZ.map fun (n : Nat) => Value.int .u8 n).toArray t frozen
  | o => o
def laysRanges : Obj → Obj
  | .cells _ t frozen => .cells #[.int .u8 128, .int .u8 191, .int .u8 160, .int .u8 191, .int .u8 128, .int .u8 159, .int .u8 144, .int .u8 191, .int .u8 128, .int .u8 143, .int .u8 0, .int .u8 0, .int .u8 0, .int .u8 0, .int .u8 0, .int .u8 0, .int .u8 0, .int .u8 0, .int .u8 0, .int .u8 0, .int .u8 0, .int .u8 0, .int .u8 0, .int .u8 0, .int .u8 0, .int .u8 0, .int .u8 0, .int .u8 0, .int .u8 0, .int .u8 0, .int .u8 0, .int .u8 0] t frozen
  | o => o
/-- A world for the witness: the settled one, the three listed variables holding what their initialisers lay. -/
noncomputable def laidWorld (os : Os) : World :=
  { World.holding Tryd.prog os ⟨#[], #[], []⟩ with heap := (((World.holding Tryd.prog os ⟨#[], #[], []⟩).heap.modify 0 laysForms).modify 2 laysFirst).modify 3 laysRanges }
theorem laid_met (os : Os) (args : Array Value) : laidMet Tryd.prog [("unicode/utf8.acceptRanges", Rows.laid_unicode_utf8_acceptRanges), ("almanac/text.forms", Rows.laid_almanac_text_forms), ("unicode/utf8.first", Rows.laid_unicode_utf8_first)] ((laidWorld os).forCall (fun _ _ => 0) ⟨#[], args, []⟩).memory :=
  laidMet_of_run3 8 (by kernel_rfl) (by kernel_rfl) (by kernel_rfl)

end Go.Proofs.YtnadnccmlbleoaaDoor
