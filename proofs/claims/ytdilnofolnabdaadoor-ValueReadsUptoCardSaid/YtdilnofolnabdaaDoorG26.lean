/-
  What every statement of layer 13 says of its arguments and of the world: what the listed variables hold; a world that fits.
-/
import Derived.Test.YtdilnofolnabdaaDoorCards
import Derived.Test.YtdilnofolnabdaaDoorTie
import Derived.Test.YtdilnofolnabdaaDoorG25
import Derived.SizedLaws
import Derived.ProofKit
import Derived.OpenShut
import Derived.ChangeMaps5
import Derived.Deep.DeepHandedRow
import Derived.Deep.DeepWitnessRowRef
import Derived.Deep.DeepLaidRun
import Derived.Lay
import Derived.LaidMore
import Derived.Lib.LaidU8
import Derived.Lib.SmallJoins
import Derived.Shelf.Vars
namespace Go.Proofs.YtdilnofolnabdaaDoor
open Go.ChangeShapes Go.WideShapes Go.ChangeAt Go.RowKit Go.ChangeMaps Go.Joins Go.Deep
theorem Tryd.own : ownKnob Tryd.prog.godebug = none := by kernel_rfl
theorem Tryd.laidOut : laidOutB Tryd.prog = true := by kernel_rfl
theorem tcons_mk {H : Type} {enc : TypeId × Value → H} {P : Program} {w : World} {base : Nat} {spare : Nat → Bool} {held : Bool} {t : TypeId} {ts : List TypeId} {v : Value} {vs : List Value} {d : DataW H} {ds : List (DataW H)} {p p' : List MemPlace}
    (h : DataW.Trod enc P w base spare held t v d p) (hs : DataW.TrodAll enc P w base spare held ts vs ds p') : DataW.TrodAll enc P w base spare held (t :: ts) (v :: vs) (d :: ds) (p ++ p') := ⟨p, p', h, hs, rfl⟩
theorem i64_in {x : Int} (h : (Lit.int .i64 x).wf = true) : -9223372036854775808 ≤ x ∧ x < 9223372036854775808 := by
  have h1 : IntKind.i64.min = -9223372036854775808 := rfl
  have h2 : IntKind.i64.max = 9223372036854775807 := rfl
  simp only [Lit.wf, Bool.and_eq_true, decide_eq_true_eq] at h
  omega
theorem gParts : Tryd.prog.globalNamed "almanac/value.durationParts" = some 0 := by kernel_rfl
theorem gPartsT : (Tryd.prog.globals[0]?).map (·.type) = some 86 := by kernel_rfl
theorem cellsPart : Tryd.prog.cellsOf 62 = 3 := by kernel_rfl
theorem cellsU8 : Tryd.prog.cellsOf 5 = 1 := by kernel_rfl
theorem cellsI64 : Tryd.prog.cellsOf 2 = 1 := by kernel_rfl
theorem cellsStr : Tryd.prog.cellsOf 9 = 1 := by kernel_rfl
theorem cellsBool : Tryd.prog.cellsOf 4 = 1 := by kernel_rfl
theorem cellsWhen : Tryd.prog.cellsOf 32 = 3 := by kernel_rfl
theorem undParts : Tryd.prog.underlying 86 = some (.array 7 62) := by kernel_rfl
theorem at_take {cs : List Value} {k : Nat} {v : Value} (h : (cs.drop k).take 1 = [v]) : cs[k]? = some v := by
  have := congrArg (·[0]?) h
  simpa [List.getElem?_take, List.getElem?_drop] using this
/-- One part of the table, as the program holds it. -/
theorem part_cells {H : Type} {enc : TypeId × Value → H} {w : World} {base : Nat} {sp : Nat → Bool} {held : Bool} {fuel : Nat} {cs : List Value} {a : Int} {b : List UInt8} {c : Int} {p : List MemPlace}
    (h : DataW.trod enc Tryd.prog w base sp held fuel 62 cs = some (.agg [.lit (.int .u8 a), .lit (.string b), .lit (.int .i64 c)], p)) :
    cs[0]? = some (.int .u8 a) ∧ cs[1]? = some (.string ⟨b.toArray⟩) ∧ cs[2]? = some (.int .i64 c) := by
  obtain ⟨x0, x1, x2, n, hx, _, f0, f1, f2⟩ := trod_struct3 Tryd.underlying62 h
  simp only [Prod.mk.injEq, DataW.agg.injEq, List.cons.injEq, and_true] at hx
  obtain ⟨⟨e0, e1, e2⟩, _⟩ := hx
  change DataW.trod _ _ _ _ _ _ _ 5 ((cs.drop 0).take (Tryd.prog.cellsOf 5)) = some x0 at f0
  change DataW.trod _ _ _ _ _ _ _ 9 ((cs.drop 1).take (Tryd.prog.cellsOf 9)) = some x1 at f1
  change DataW.trod _ _ _ _ _ _ _ 2 ((cs.drop 2).take (Tryd.prog.cellsOf 2)) = some x2 at f2
  rw [cellsU8] at f0
  rw [cellsStr] at f1
  rw [cellsI64] at f2
  refine ⟨?_, ?_, ?_⟩
  · obtain ⟨z, hz, hx', _⟩ := DataW.trod_int Tryd.underlying5 f0
    rw [hx'] at e0; cases e0; exact at_take hz
  · obtain ⟨s, hz, hx', _⟩ := DataW.trod_string Tryd.underlying9 f1
    rw [hx'] at e1
    simp only [DataW.lit.injEq, Lit.string.injEq] at e1
    rw [at_take hz]
    congr 2
    apply ByteArray.ext
    rw [← Array.toList_inj]
    simp [e1]
  · obtain ⟨z, hz, hx', _⟩ := DataW.trod_int Tryd.underlying2 f2
    rw [hx'] at e2; cases e2; exact at_take hz
theorem three_at {cs : List Value} {i : Nat} {v0 v1 v2 : Value} (h : ((cs.drop (i * 3)).take 3)[0]? = some v0 ∧ ((cs.drop (i * 3)).take 3)[1]? = some v1 ∧ ((cs.drop (i * 3)).take 3)[2]? = some v2) :
    cs[i * 3 + 0]? = some v0 ∧ cs[i * 3 + 1]? = some v1 ∧ cs[i * 3 + 2]? = some v2 := by
  simpa [List.getElem?_take, List.getElem?_drop] using h
def partsD : List (DataW Unit) := [.agg [.lit (.int .u8 80), .lit (.string []), .lit (.int .i64 0)], .agg [.lit (.int .u8 87), .lit (.string [80]), .lit (.int .i64 604800)], .agg [.lit (.int .u8 68), .lit (.string [80]), .lit (.int .i64 86400)], .agg [.lit (.int .u8 84), .lit (.string [80, 68]), .lit (.int .i64 0)], .agg [.lit (.int .u8 72), .lit (.string [84]), .lit (.int .i64 3600)], .agg [.lit (.int .u8 77), .lit (.string [84, 72]), .lit (.int .i64 60)], .agg [.lit (.int .u8 83), .lit (.string [84, 77]), .lit (.int .i64 1)]]
/-- What reads as the table of parts holds it. -/
theorem parts_of {W : World} (h : Lib.VarReads Tryd.prog W "almanac/value.durationParts" Rows.laid_almanac_value_durationParts) : CellsAt W 0 partsV := by
  obtain ⟨g, t, cs, fuel, p, k1, k2, k3, k4⟩ := h
  obtain rfl := Option.some.inj (gParts.symm.trans k1)
  obtain rfl := Option.some.inj (gPartsT.symm.trans k2)
  have hc := World.var?_cell gParts k3
  have el : ∀ i, i < 7 → ∃ fuel' d q, partsD[i]? = some d ∧ DataW.trod (fun _ => ()) Tryd.prog W 0 (fun _ => true) false fuel' 62 ((cs.toList.drop (i * Tryd.prog.cellsOf 62)).take (Tryd.prog.cellsOf 62)) = some (d, q) := fun i hi => Go.Lib.array_elem undParts k4 i hi
  rw [cellsPart] at el
  have hx : ∀ i v, cs.toList[i]? = some v → W.cell? ⟨0, i, none⟩ = some v := fun i v h => by rw [hc i]; simpa using h
  have e := fun i hi => el i hi
  obtain ⟨_, _, _, a1, a2⟩ := el 0 (by omega)
  obtain ⟨_, _, _, b1, b2⟩ := el 1 (by omega)
  obtain ⟨_, _, _, c1, c2⟩ := el 2 (by omega)
  obtain ⟨_, _, _, d1, d2⟩ := el 3 (by omega)
  obtain ⟨_, _, _, e1, e2⟩ := el 4 (by omega)
  obtain ⟨_, _, _, f1, f2⟩ := el 5 (by omega)
  obtain ⟨_, _, _, g1, g2⟩ := el 6 (by omega)
  simp only [partsD, List.getElem?_cons_zero, List.getElem?_cons_succ, Option.some.injEq] at a1 b1 c1 d1 e1 f1 g1
  subst a1 b1 c1 d1 e1 f1 g1
  obtain ⟨a0, a1, a2⟩ := three_at (part_cells a2)
  obtain ⟨b0, b1, b2⟩ := three_at (part_cells b2)
  obtain ⟨c0, c1, c2⟩ := three_at (part_cells c2)
  obtain ⟨d0, d1, d2⟩ := three_at (part_cells d2)
  obtain ⟨e0, e1, e2⟩ := three_at (part_cells e2)
  obtain ⟨f0, f1, f2⟩ := three_at (part_cells f2)
  obtain ⟨g0, g1, g2⟩ := three_at (part_cells g2)
  intro i v hv
  refine hx i v ?_
  have hi : i < 21 := (List.getElem?_eq_some_iff.1 hv).1
  have : i = 0 ∨ i = 1 ∨ i = 2 ∨ i = 3 ∨ i = 4 ∨ i = 5 ∨ i = 6 ∨ i = 7 ∨ i = 8 ∨ i = 9 ∨ i = 10 ∨ i = 11 ∨ i = 12 ∨ i = 13 ∨ i = 14 ∨ i = 15 ∨ i = 16 ∨ i = 17 ∨ i = 18 ∨ i = 19 ∨ i = 20 := by omega
  rcases this with rfl | rfl | rfl | rfl | rfl | rfl | rfl | rfl | rfl | rfl | rfl | rfl | rfl | rfl | rfl | rfl | rfl | rfl | rfl | rfl | rfl <;> (have := Option.some.inj hv; subst this; assumption)
/-- A listed array of numbers holds them. -/
theorem ints_of_reads {w : World} {n : String} {g : Nat} {t e : TypeId} {N : Nat} {k : IntKind} (zs : List Int) (h : Lib.VarReads Tryd.prog w n (Lib.tabData k zs)) (hg : Tryd.prog.globalNamed n = some g) (hty : (Tryd.prog.globals[g]?).map (·.type) = some t)
    (hu : Tryd.prog.underlying t = some (.array N e)) (he : Tryd.prog.underlying e = some (.int k)) (hce : Tryd.prog.cellsOf e = 1) (hct : Tryd.prog.cellsOf t = N) : Lib.TabIs Tryd.prog w n k zs := by
  obtain ⟨g', t', cs, fuel, p, k1, k2, k3, k4⟩ := h
  obtain rfl := Option.some.inj (hg.symm.trans k1)
  obtain rfl := Option.some.inj (hty.symm.trans k2)
  unfold Lib.TabIs
  rw [k3, ← Lib.cells_of_tab hu he hce hct k4]
theorem cells_of_tabIs {w : World} {n : String} {g : Nat} {k : IntKind} {zs : List Int} (h : Lib.TabIs Tryd.prog w n k zs) (hg : Tryd.prog.globalNamed n = some g) : CellsAt w g (zs.map fun z => .int k z) := by
  intro i v hv
  rw [World.var?_cell hg h i]
  simpa using hv
/-- The library's own variable holds some number: out of the world's shape. -/
theorem maxn_of {W : World} (h : W.ShapedOpen Tryd.prog) : ∃ m, W.cell? ⟨1, 0, none⟩ = some (.int .i64 m) :=
  cell_of_shapedOpen_int (zero := #[.int .i64 0]) (t := 3) (k := .i64) h (of_decide_eq_true (by kernel_rfl)) (by kernel_rfl) rfl (by kernel_rfl) (by kernel_rfl) Tryd.underlying3
theorem vv_all {W : World} {L : List (String × DataW Unit)} (h : laidMet Tryd.prog L W) (m1 : ("internal/strconv.uint64pow10", Rows.laid_internal_strconv_uint64pow10) ∈ L) (m2 : ("almanac/date.lengths", Rows.laid_almanac_date_lengths) ∈ L) (m3 : ("almanac/value.durationParts", Rows.laid_almanac_value_durationParts) ∈ L) (hs : W.ShapedOpen Tryd.prog) : VV W := by
  have r2 := Lib.laidMet.reads h (n := "internal/strconv.uint64pow10") (d := Rows.laid_internal_strconv_uint64pow10) m1
  have r3 := Lib.laidMet.reads h (n := "almanac/date.lengths") (d := Rows.laid_almanac_date_lengths) m2
  have r4 := Lib.laidMet.reads h (n := "almanac/value.durationParts") (d := Rows.laid_almanac_value_durationParts) m3
  refine ⟨⟨?_, ?_⟩, parts_of r4, maxn_of hs⟩
  · exact cells_of_tabIs (ints_of_reads (k := .i64) [31, 28, 31, 30, 31, 30, 31, 31, 30, 31, 30, 31] r3 (t := 123) (e := 3) (g := 2) (by kernel_rfl) (by kernel_rfl) Tryd.underlying123 Tryd.underlying3 (by kernel_rfl) (by kernel_rfl)) (by kernel_rfl)
  · exact ints_of_reads (k := .u64) Lib.pow10Tab r2 (t := 144) (e := 117) (g := 5) (by kernel_rfl) (by kernel_rfl) Tryd.underlying144 Tryd.underlying117 (by kernel_rfl) (by kernel_rfl)
section
variable {H : Type} {enc : TypeId × Value → H} {W : World} {base : Nat} {spare : Nat → Bool} {held : Bool}
set_option maxRecDepth 100000 in
/-- A time. -/
theorem open_when {r : Reach} {b0 : Nat} {v : Value} {d : DataW H} {p : List MemPlace} (hv : Value.okWide Tryd.prog W r b0 32 v) (h : DataW.Trod enc Tryd.prog W base spare held 32 v d p) :
    ∃ t : Wh, v = whV t ∧ p = [] ∧ -9223372036854775808 ≤ t.secs ∧ t.secs < 9223372036854775808 := by
  obtain ⟨v0, v1, v2, y0, y1, y2, n, rfl, rfl, rfl, h0, h1, h2⟩ := open_agg3 Tryd.underlying32 (by kernel_rfl) (by kernel_rfl) hv h
  obtain ⟨l, e0, f0, hwf⟩ := DataW.trod_int Tryd.underlying2 h0
  obtain ⟨b, e1, f1⟩ := DataW.trod_bool Tryd.underlying4 h1
  obtain ⟨c, e2, f2⟩ := DataW.trod_bool Tryd.underlying4 h2
  injection e0 with e0 _
  injection e1 with e1 _
  injection e2 with e2 _
  subst e0; subst e1; subst e2
  exact ⟨⟨l, b, c⟩, rfl, by rw [f0, f1, f2]; rfl, i64_in hwf⟩
set_option maxRecDepth 100000 in
/-- A period. -/
theorem open_period {r : Reach} {b0 : Nat} {v : Value} {d : DataW H} {p : List MemPlace} (hv : Value.okWide Tryd.prog W r b0 43 v) (h : DataW.Trod enc Tryd.prog W base spare held 43 v d p) :
    ∃ (t : Wh) (m : Int), v = perVal t m ∧ p = [] ∧ (-9223372036854775808 ≤ t.secs ∧ t.secs < 9223372036854775808) ∧ (-9223372036854775808 ≤ m ∧ m < 9223372036854775808) := by
  obtain ⟨cs, rfl, hsz⟩ := okWide_struct Tryd.underlying43 hv
  obtain ⟨c0, c1, c2, c3, rfl⟩ := array4 (hsz.trans (show Tryd.prog.cellsOf 43 = 4 by kernel_rfl))
  obtain ⟨fuel, hf⟩ := h
  obtain ⟨y0, y1, n, hx, _, h0, h1⟩ := trod_struct2 Tryd.underlying43 hf
  change DataW.trod _ _ _ _ _ _ _ 32 (([c0, c1, c2, c3].drop 0).take (Tryd.prog.cellsOf 32)) = some y0 at h0
  change DataW.trod _ _ _ _ _ _ _ 2 (([c0, c1, c2, c3].drop 3).take (Tryd.prog.cellsOf 2)) = some y1 at h1
  rw [cellsWhen] at h0
  rw [cellsI64] at h1
  obtain ⟨x0, x1, x2, n2, hx2, _, f0, f1, f2⟩ := trod_struct3 Tryd.underlying32 h0
  change DataW.trod _ _ _ _ _ _ _ 2 (([c0, c1, c2].drop 0).take (Tryd.prog.cellsOf 2)) = some x0 at f0
  change DataW.trod _ _ _ _ _ _ _ 4 (([c0, c1, c2].drop 1).take (Tryd.prog.cellsOf 4)) = some x1 at f1
  change DataW.trod _ _ _ _ _ _ _ 4 (([c0, c1, c2].drop 2).take (Tryd.prog.cellsOf 4)) = some x2 at f2
  rw [cellsI64] at f0
  rw [cellsBool] at f1 f2
  obtain ⟨l, e0, g0, hwf⟩ := DataW.trod_int Tryd.underlying2 f0
  obtain ⟨b, e1, g1⟩ := DataW.trod_bool Tryd.underlying4 f1
  obtain ⟨c, e2, g2⟩ := DataW.trod_bool Tryd.underlying4 f2
  obtain ⟨m, e3, g3, hwm⟩ := DataW.trod_int Tryd.underlying2 h1
  change [c0] = [_] at e0
  change [c1] = [_] at e1
  change [c2] = [_] at e2
  change [c3] = [_] at e3
  injection e0 with e0 _
  injection e1 with e1 _
  injection e2 with e2 _
  injection e3 with e3 _
  subst e0; subst e1; subst e2; subst e3
  simp only [Prod.mk.injEq] at hx
  refine ⟨⟨l, b, c⟩, m, rfl, ?_, i64_in hwf, i64_in hwm⟩
  rw [hx.2, hx2, g0, g1, g2, g3]
  rfl
end
end Go.Proofs.YtdilnofolnabdaaDoor
