/-
  Facts of the program that every statement's last step names: what the listed variables hold, and a world that fits.
-/
import Derived.Test.YtnnpiaangemieaaDoorCards
import Derived.Test.YtnnpiaangemieaaDoorTie
import Derived.Test.YtnnpiaangemieaaDoorDateVars
import Derived.SizedLaws
import Derived.ProofKit
import Derived.OpenShut
import Derived.ChangeMaps5
import Derived.Deep.DeepHandedRow
import Derived.Deep.DeepLaidRun
import Derived.Lib.LaidU8
import Derived.Shelf.Vars
namespace Go.Proofs.YtnnpiaangemieaaDoor
open Go.ChangeShapes Go.WideShapes Go.ChangeAt Go.RowKit Go.ChangeMaps
theorem Tryd.own : ownKnob Tryd.prog.godebug = none := by kernel_rfl
theorem Tryd.laidOut : laidOutB Tryd.prog = true := by kernel_rfl
theorem tcons_mk {H : Type} {enc : TypeId × Value → H} {P : Program} {w : World} {base : Nat} {spare : Nat → Bool} {held : Bool} {t : TypeId} {ts : List TypeId} {v : Value} {vs : List Value} {d : DataW H} {ds : List (DataW H)} {p p' : List MemPlace}
    (h : DataW.Trod enc P w base spare held t v d p) (hs : DataW.TrodAll enc P w base spare held ts vs ds p') : DataW.TrodAll enc P w base spare held (t :: ts) (v :: vs) (d :: ds) (p ++ p') := ⟨p, p', h, hs, rfl⟩
/-- An argument without memory reads afterwards as it read before. -/
theorem trod_string {H : Type} {enc : TypeId × Value → H} {W W' : World} {v : Value} {d : DataW H} (h : DataW.Trod enc Tryd.prog W 0 (fun _ => true) true 9 v d []) (hb : Below W.heap.size W W') : DataW.Trod enc Tryd.prog W' 0 (fun b => decide (b < W.heap.size)) true 9 v d [] :=
  Below.trod Tryd.laidOut (by kernel_rfl) (of_decide_eq_true (by kernel_rfl)) h hb (fun x hx => by cases hx)
theorem trod_int {H : Type} {enc : TypeId × Value → H} {W W' : World} {v : Value} {d : DataW H} (h : DataW.Trod enc Tryd.prog W 0 (fun _ => true) true 3 v d []) (hb : Below W.heap.size W W') : DataW.Trod enc Tryd.prog W' 0 (fun b => decide (b < W.heap.size)) true 3 v d [] :=
  Below.trod Tryd.laidOut (by kernel_rfl) (of_decide_eq_true (by kernel_rfl)) h hb (fun x hx => by cases hx)
theorem trod_int64 {H : Type} {enc : TypeId × Value → H} {W W' : World} {v : Value} {d : DataW H} (h : DataW.Trod enc Tryd.prog W 0 (fun _ => true) true 2 v d []) (hb : Below W.heap.size W W') : DataW.Trod enc Tryd.prog W' 0 (fun b => decide (b < W.heap.size)) true 2 v d [] :=
  Below.trod Tryd.laidOut (by kernel_rfl) (of_decide_eq_true (by kernel_rfl)) h hb (fun x hx => by cases hx)
theorem i64_in {x : Int} (h : (Lit.int .i64 x).wf = true) : -9223372036854775808 ≤ x ∧ x < 9223372036854775808 := by
  have h1 : IntKind.i64.min = -9223372036854775808 := rfl
  have h2 : IntKind.i64.max = 9223372036854775807 := rfl
  simp only [Lit.wf, Bool.and_eq_true, decide_eq_true_eq] at h
  omega

theorem at_takeD {cs : List Value} {k : Nat} {v : Value} (h : (cs.drop k).take 1 = [v]) : cs[k]? = some v := by
  have := congrArg (·[0]?) h
  simpa [List.getElem?_take, List.getElem?_drop] using this
/-- A listed array of texts holds them. -/
theorem strs_of_reads {w : World} {n : String} {g : Nat} {t e : TypeId} {N : Nat} (ls : List (List UInt8)) (h : Lib.VarReads Tryd.prog w n (.agg (ls.map fun l => .lit (.string l)))) (hg : Tryd.prog.globalNamed n = some g) (hty : (Tryd.prog.globals[g]?).map (·.type) = some t)
    (hu : Tryd.prog.underlying t = some (.array N e)) (he : Tryd.prog.underlying e = some .string) (hce : Tryd.prog.cellsOf e = 1) (hN : ls.length = N) : CellsAt w g (ls.map fun l => .string ⟨l.toArray⟩) := by
  obtain ⟨g', t', cs, fuel, p, k1, k2, k3, k4⟩ := h
  obtain rfl := Option.some.inj (hg.symm.trans k1)
  obtain rfl := Option.some.inj (hty.symm.trans k2)
  intro i v hv
  rw [List.getElem?_map, Option.map_eq_some_iff] at hv
  obtain ⟨l, hl, rfl⟩ := hv
  have hi : i < N := by rw [← hN]; exact (List.getElem?_eq_some_iff.1 hl).1
  obtain ⟨fuel', d, q, hd, hr⟩ := Lib.array_elem hu k4 i hi
  rw [List.getElem?_map, hl] at hd
  simp only [Option.map_some, Option.some.injEq] at hd
  subst hd
  rw [hce, Nat.mul_one] at hr
  obtain ⟨s, hs, hx, _⟩ := DataW.trod_string he hr
  simp only [Prod.mk.injEq, DataW.lit.injEq, Lit.string.injEq] at hx
  rw [World.var?_cell hg k3 i, ← Array.getElem?_toList, at_takeD hs, hx.1]
/-- A listed array of numbers holds them. -/
theorem ints_of_reads {w : World} {n : String} {g : Nat} {t e : TypeId} {N : Nat} {k : IntKind} (zs : List Int) (h : Lib.VarReads Tryd.prog w n (Lib.tabData k zs)) (hg : Tryd.prog.globalNamed n = some g) (hty : (Tryd.prog.globals[g]?).map (·.type) = some t)
    (hu : Tryd.prog.underlying t = some (.array N e)) (he : Tryd.prog.underlying e = some (.int k)) (hce : Tryd.prog.cellsOf e = 1) (hct : Tryd.prog.cellsOf t = N) : Lib.TabIs Tryd.prog w n k zs := by
  obtain ⟨g', t', cs, fuel, p, k1, k2, k3, k4⟩ := h
  obtain rfl := Option.some.inj (hg.symm.trans k1)
  obtain rfl := Option.some.inj (hty.symm.trans k2)
  unfold Lib.TabIs
  rw [k3, ← Lib.cells_of_tab hu he hce hct k4]
theorem cells_of_tabIs {w : World} {n : String} {g : Nat} {k : IntKind} {zs : List Int} (h : Lib.TabIs Tryd.prog w n k zs) (hg : Tryd.prog.globalNamed n = some g) : CellsAt w g (zs.map fun z => .int k z) := by
  intro i v hv
  rw [World.var?_cell hg h i]
  simpa using hv

/-- What the row's list gives. -/
theorem dv_of {W : World} (h : laidMetH Tryd.prog [("math/bits.deBruijn32tab", Rows.laid_math_bits_deBruijn32tab), ("math/bits.deBruijn64tab", Rows.laid_math_bits_deBruijn64tab), ("internal/strconv.uint64pow10", Rows.laid_internal_strconv_uint64pow10), ("almanac/date.lengths", Rows.laid_almanac_date_lengths), ("almanac/date.monthNames", Rows.laid_almanac_date_monthNames), ("almanac/date.weekdayNames", Rows.laid_almanac_date_weekdayNames)] W) : DV W := by
  have h' : laidMet Tryd.prog [("math/bits.deBruijn32tab", Rows.laid_math_bits_deBruijn32tab), ("math/bits.deBruijn64tab", Rows.laid_math_bits_deBruijn64tab), ("internal/strconv.uint64pow10", Rows.laid_internal_strconv_uint64pow10), ("almanac/date.lengths", Rows.laid_almanac_date_lengths), ("almanac/date.monthNames", Rows.laid_almanac_date_monthNames), ("almanac/date.weekdayNames", Rows.laid_almanac_date_weekdayNames)] W := h
  have r2 := Lib.laidMet.reads h' (n := "internal/strconv.uint64pow10") (d := Rows.laid_internal_strconv_uint64pow10) (by simp)
  have r3 := Lib.laidMet.reads h' (n := "almanac/date.lengths") (d := Rows.laid_almanac_date_lengths) (by simp)
  have r4 := Lib.laidMet.reads h' (n := "almanac/date.monthNames") (d := Rows.laid_almanac_date_monthNames) (by simp)
  have r5 := Lib.laidMet.reads h' (n := "almanac/date.weekdayNames") (d := Rows.laid_almanac_date_weekdayNames) (by simp)
  refine ⟨?_, ?_, ?_, ?_⟩
  · exact cells_of_tabIs (ints_of_reads (k := .i64) [31, 28, 31, 30, 31, 30, 31, 31, 30, 31, 30, 31] r3 (t := 58) (e := 3) (g := 2) (by kernel_rfl) (by kernel_rfl) Tryd.underlying58 Tryd.underlying3 (by kernel_rfl) (by kernel_rfl)) (by kernel_rfl)
  · exact strs_of_reads [[74, 97, 110], [70, 101, 98], [77, 97, 114], [65, 112, 114], [77, 97, 121], [74, 117, 110], [74, 117, 108], [65, 117, 103], [83, 101, 112], [79, 99, 116], [78, 111, 118], [68, 101, 99]] r4 (t := 56) (e := 9) (by kernel_rfl) (by kernel_rfl) Tryd.underlying56 Tryd.underlying9 (by kernel_rfl) rfl
  · exact strs_of_reads [[77, 111, 110], [84, 117, 101], [87, 101, 100], [84, 104, 117], [70, 114, 105], [83, 97, 116], [83, 117, 110]] r5 (t := 55) (e := 9) (by kernel_rfl) (by kernel_rfl) Tryd.underlying55 Tryd.underlying9 (by kernel_rfl) rfl
  · exact ints_of_reads (k := .u64) Lib.pow10Tab r2 (t := 94) (e := 80) (g := 3) (by kernel_rfl) (by kernel_rfl) Tryd.underlying94 Tryd.underlying80 (by kernel_rfl) (by kernel_rfl)

/-- A datum's cells. -/
def valsD : DataW Unit → List Value
  | .agg ds => ds.map fun | .lit (.int k z) => Value.int k z | .lit (.string s) => Value.string ⟨s.toArray⟩ | _ => Value.int .i64 0
  | _ => []
def laysD (d : DataW Unit) : Obj → Obj
  | .cells _ t frozen => .cells (valsD d).toArray t frozen
  | o => o
/-- A world for the witness: the settled one, the listed variables holding what their initialisers lay. -/
noncomputable def laidWorld (os : Os) : World :=
  { World.holding Tryd.prog os ⟨#[], #[], []⟩ with heap := ((((((World.holding Tryd.prog os ⟨#[], #[], []⟩).heap.modify 5 (laysD Rows.laid_math_bits_deBruijn32tab)).modify 6 (laysD Rows.laid_math_bits_deBruijn64tab)).modify 3 (laysD Rows.laid_internal_strconv_uint64pow10)).modify 2 (laysD Rows.laid_almanac_date_lengths)).modify 1 (laysD Rows.laid_almanac_date_monthNames)).modify 0 (laysD Rows.laid_almanac_date_weekdayNames) }
theorem laid_met (os : Os) (args : Array Value) : laidMet Tryd.prog [("math/bits.deBruijn32tab", Rows.laid_math_bits_deBruijn32tab), ("math/bits.deBruijn64tab", Rows.laid_math_bits_deBruijn64tab), ("internal/strconv.uint64pow10", Rows.laid_internal_strconv_uint64pow10), ("almanac/date.lengths", Rows.laid_almanac_date_lengths), ("almanac/date.monthNames", Rows.laid_almanac_date_monthNames), ("almanac/date.weekdayNames", Rows.laid_almanac_date_weekdayNames)] ((laidWorld os).forCall (fun _ _ => 0) ⟨#[], args, []⟩).memory :=
  laidMet_of_run3 8 (by kernel_rfl) (by kernel_rfl) (by kernel_rfl)

end Go.Proofs.YtnnpiaangemieaaDoor
