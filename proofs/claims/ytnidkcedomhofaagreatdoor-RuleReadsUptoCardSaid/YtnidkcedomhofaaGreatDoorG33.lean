/-
  What every statement of layer 14 says of its arguments and of the world: what the listed variables hold; a rule as a plain value.
-/
import Derived.Test.YtnidkcedomhofaaGreatDoorCards
import Derived.Test.YtnidkcedomhofaaGreatDoorTie
import Derived.Test.YtnidkcedomhofaaGreatDoorG32
import Derived.SizedLaws
import Derived.ProofKit
import Derived.OpenShut
import Derived.ChangeMaps5
import Derived.Deep.DeepHandedRow
import Derived.Deep.DeepWitnessRowRef
import Derived.Deep.DeepLaidRun
import Derived.Deep.SlicePairs
import Derived.Lay
import Derived.LaidMore
import Derived.Lib.LaidU8
import Derived.Lib.SmallJoins
import Derived.Shelf.Vars
import Derived.Test.YtnidkcedomhofaaGreatDoorG25
namespace Go.Proofs.YtnidkcedomhofaaGreatDoor
open Go.ChangeShapes Go.WideShapes Go.ChangeAt Go.RowKit Go.ChangeMaps Go.Joins Go.Deep
theorem Tryz.own : ownKnob Tryz.prog.godebug = none := by kernel_rfl
theorem Tryz.laidOut : laidOutB Tryz.prog = true := by kernel_rfl
theorem tcons_mk {H : Type} {enc : TypeId × Value → H} {P : Program} {w : World} {base : Nat} {spare : Nat → Bool} {held : Bool} {t : TypeId} {ts : List TypeId} {v : Value} {vs : List Value} {d : DataW H} {ds : List (DataW H)} {p p' : List MemPlace}
    (h : DataW.Trod enc P w base spare held t v d p) (hs : DataW.TrodAll enc P w base spare held ts vs ds p') : DataW.TrodAll enc P w base spare held (t :: ts) (v :: vs) (d :: ds) (p ++ p') := ⟨p, p', h, hs, rfl⟩
theorem i64_in {x : Int} (h : (Lit.int .i64 x).wf = true) : -9223372036854775808 ≤ x ∧ x < 9223372036854775808 := by
  have h1 : IntKind.i64.min = -9223372036854775808 := rfl
  have h2 : IntKind.i64.max = 9223372036854775807 := rfl
  simp only [Lit.wf, Bool.and_eq_true, decide_eq_true_eq] at h
  omega
theorem cellsI : Tryz.prog.cellsOf 3 = 1 := by kernel_rfl
theorem cellsI64 : Tryz.prog.cellsOf 2 = 1 := by kernel_rfl
theorem cellsBool : Tryz.prog.cellsOf 4 = 1 := by kernel_rfl
theorem cellsWhen : Tryz.prog.cellsOf 23 = 3 := by kernel_rfl
theorem cellsInts : Tryz.prog.cellsOf 24 = 1 := by kernel_rfl
theorem cellsWds : Tryz.prog.cellsOf 25 = 1 := by kernel_rfl
theorem cellsRule : Tryz.prog.cellsOf 27 = 12 := by kernel_rfl
theorem at_takeD {cs : List Value} {k : Nat} {v : Value} (h : (cs.drop k).take 1 = [v]) : cs[k]? = some v := by
  have := congrArg (·[0]?) h
  simpa [List.getElem?_take, List.getElem?_drop] using this
/-- A listed array of texts holds them. -/
theorem strs_of_reads {w : World} {n : String} {g : Nat} {t e : TypeId} {N : Nat} (ls : List (List UInt8)) (h : Lib.VarReads Tryz.prog w n (.agg (ls.map fun l => .lit (.string l)))) (hg : Tryz.prog.globalNamed n = some g) (hty : (Tryz.prog.globals[g]?).map (·.type) = some t)
    (hu : Tryz.prog.underlying t = some (.array N e)) (he : Tryz.prog.underlying e = some .string) (hce : Tryz.prog.cellsOf e = 1) (hN : ls.length = N) : CellsAt w g (ls.map fun l => .string ⟨l.toArray⟩) := by
  obtain ⟨g', t', cs, fuel, p, k1, k2, k3, k4⟩ := h
  obtain rfl := Option.some.inj (hg.symm.trans k1)
  obtain rfl := Option.some.inj (hty.symm.trans k2)
  intro i v hv
  rw [List.getElem?_map, Option.map_eq_some_iff] at hv
  obtain ⟨l, hl, rfl⟩ := hv
  have hi : i < N := by rw [← hN]; exact (List.getElem?_eq_some_iff.1 hl).1
  obtain ⟨fuel', d, q, hd, hr⟩ := Lib.array_elem hu k4 i hi
  rw [List.getElem?_map, hl] at hd
  simp only [Option.map_some, Option.some.injEq] at hd
  subst hd
  rw [hce, Nat.mul_one] at hr
  obtain ⟨s, hs, hx, _⟩ := DataW.trod_string he hr
  simp only [Prod.mk.injEq, DataW.lit.injEq, Lit.string.injEq] at hx
  rw [World.var?_cell hg k3 i, ← Array.getElem?_toList, at_takeD hs, hx.1]
/-- A listed array of numbers holds them. -/
theorem ints_of_reads {w : World} {n : String} {g : Nat} {t e : TypeId} {N : Nat} {k : IntKind} (zs : List Int) (h : Lib.VarReads Tryz.prog w n (Lib.tabData k zs)) (hg : Tryz.prog.globalNamed n = some g) (hty : (Tryz.prog.globals[g]?).map (·.type) = some t)
    (hu : Tryz.prog.underlying t = some (.array N e)) (he : Tryz.prog.underlying e = some (.int k)) (hce : Tryz.prog.cellsOf e = 1) (hct : Tryz.prog.cellsOf t = N) : Lib.TabIs Tryz.prog w n k zs := by
  obtain ⟨g', t', cs, fuel, p, k1, k2, k3, k4⟩ := h
  obtain rfl := Option.some.inj (hg.symm.trans k1)
  obtain rfl := Option.some.inj (hty.symm.trans k2)
  unfold Lib.TabIs
  rw [k3, ← Lib.cells_of_tab hu he hce hct k4]
theorem cells_of_tabIs {w : World} {n : String} {g : Nat} {k : IntKind} {zs : List Int} (h : Lib.TabIs Tryz.prog w n k zs) (hg : Tryz.prog.globalNamed n = some g) : CellsAt w g (zs.map fun z => .int k z) := by
  intro i v hv
  rw [World.var?_cell hg h i]
  simpa using hv

/-- The library's own variable holds some number: out of the world's shape. -/
theorem maxn_of {W : World} (h : W.ShapedOpen Tryz.prog) : ∃ m, W.cell? ⟨4, 0, none⟩ = some (.int .i64 m) :=
  cell_of_shapedOpen_int (zero := #[.int .i64 0]) (t := 3) (k := .i64) h (of_decide_eq_true (by kernel_rfl)) (by kernel_rfl) rfl (by kernel_rfl) (by kernel_rfl) Tryz.underlying3
theorem vv_all {W : World} {L : List (String × DataW Unit)} (h : laidMet Tryz.prog L W) (m1 : ("internal/strconv.uint64pow10", Rows.laid_internal_strconv_uint64pow10) ∈ L) (m2 : ("almanac/date.lengths", Rows.laid_almanac_date_lengths) ∈ L) (m3 : ("almanac/rule.freqs", Rows.laid_almanac_rule_freqs) ∈ L) (m4 : ("almanac/rule.days", Rows.laid_almanac_rule_days) ∈ L) (hs : W.ShapedOpen Tryz.prog) : VV W := by
  have r2 := Lib.laidMet.reads h (n := "internal/strconv.uint64pow10") (d := Rows.laid_internal_strconv_uint64pow10) m1
  have r3 := Lib.laidMet.reads h (n := "almanac/date.lengths") (d := Rows.laid_almanac_date_lengths) m2
  have r4 := Lib.laidMet.reads h (n := "almanac/rule.freqs") (d := Rows.laid_almanac_rule_freqs) m3
  have r5 := Lib.laidMet.reads h (n := "almanac/rule.days") (d := Rows.laid_almanac_rule_days) m4
  refine ⟨⟨?_, ?_⟩, ?_, ?_, maxn_of hs⟩
  · exact cells_of_tabIs (ints_of_reads (k := .i64) [31, 28, 31, 30, 31, 30, 31, 31, 30, 31, 30, 31] r3 (t := 166) (e := 3) (g := 6) (by kernel_rfl) (by kernel_rfl) Tryz.underlying166 Tryz.underlying3 (by kernel_rfl) (by kernel_rfl)) (by kernel_rfl)
  · exact ints_of_reads (k := .u64) Lib.pow10Tab r2 (t := 162) (e := 137) (g := 5) (by kernel_rfl) (by kernel_rfl) Tryz.underlying162 Tryz.underlying137 (by kernel_rfl) (by kernel_rfl)
  · exact strs_of_reads [[], [68, 65, 73, 76, 89], [87, 69, 69, 75, 76, 89], [77, 79, 78, 84, 72, 76, 89], [89, 69, 65, 82, 76, 89]] r4 (t := 93) (e := 9) (by kernel_rfl) (by kernel_rfl) Tryz.underlying93 Tryz.underlying9 (by kernel_rfl) rfl
  · exact strs_of_reads [[77, 79], [84, 85], [87, 69], [84, 72], [70, 82], [83, 65], [83, 85]] r5 (t := 97) (e := 9) (by kernel_rfl) (by kernel_rfl) Tryz.underlying97 Tryz.underlying9 (by kernel_rfl) rfl
theorem slice_addr {w : World} {a : Addr} {u : Value} (h : w.cell? (a.add 0) = some u) : ∃ b o, a = ⟨b, o, none⟩ := by
  obtain ⟨b, o, spot⟩ := a
  have hs : spot = none := by simpa [Addr.add] using World.cell?_spot h
  subst hs
  exact ⟨b, o, rfl⟩
section
variable {H : Type} {enc : TypeId × Value → H} {W : World} {base : Nat} {spare : Nat → Bool} {held : Bool} {fuel : Nat}
theorem bulk_pos : ∀ d : DataW H, 1 ≤ Rows.uptoBulk d
  | .lit l => by cases l <;> simp [Rows.uptoBulk]
  | .nil => by simp [Rows.uptoBulk]
  | .ptr d => by simp [Rows.uptoBulk]
  | .slice a b => by simp [Rows.uptoBulk]
  | .agg l => by simp [Rows.uptoBulk]
  | .iface n d => by simp [Rows.uptoBulk]
  | .map e => by simp [Rows.uptoBulk]
  | .held h => by simp [Rows.uptoBulk]
theorem bulk_len : ∀ l : List (DataW H), l.length ≤ Rows.uptoBulkAll l
  | [] => by simp [Rows.uptoBulkAll]
  | d :: l => by have h1 := bulk_pos d; have h2 := bulk_len l; simp only [Rows.uptoBulkAll, List.length_cons]; omega
set_option maxRecDepth 100000 in
/-- A row of numbers. -/
theorem open_intsS {v : Value} {y : DataW H × List MemPlace} (h : DataW.trod enc Tryz.prog W base spare held fuel 24 [v] = some y) : ∃ l : List Int, Sl W v l.length 1 (intC l) ∧ l.length ≤ Rows.uptoBulk y.1 := by
  rcases open_slice1 Tryz.underlying24 (by kernel_rfl) h with ⟨hcs, hx⟩ | ⟨a, len, cap, m, n, V, D, Pl, hcs, _, hl, hm, hmm, hx, hi⟩
  · injection hcs with hcs _
    exact ⟨[], ⟨rfl, .inl ⟨rfl, none, 0, hcs⟩⟩, Nat.zero_le _⟩
  · injection hcs with hcs _
    have hlm : len ≤ m := by rw [hmm]; split <;> omega
    have each : ∀ i, i < len → ∃ z : Int, W.cell? (a.add i) = some (.int .i64 z) := by
      intro i hil
      obtain ⟨e0, g0⟩ := hi i (by omega)
      obtain ⟨z, f0, _, _⟩ := DataW.trod_int Tryz.underlying3 g0
      injection f0 with f0 _
      exact ⟨z, by rw [e0, f0]⟩
    obtain ⟨g, hg⟩ := choose_lt each
    have hb : len ≤ Rows.uptoBulk y.1 := by
      have := bulk_len ((List.range len).map D)
      simp only [List.length_map, List.length_range] at this
      rw [hx]
      simp only [Rows.uptoBulk]
      omega
    refine ⟨(List.range len).map g, ⟨by rw [intC_len]; omega, ?_⟩, by simpa using hb⟩
    simp only [List.length_map, List.length_range]
    by_cases h0 : len = 0
    · subst h0
      exact .inl ⟨rfl, some a, cap, hcs⟩
    · have hc0 := hg 0 (by omega)
      obtain ⟨b, o, rfl⟩ := slice_addr hc0
      refine .inr ⟨b, o, cap, hcs, ?_, fun j u hj => ?_⟩
      · have := World.block_lt_of_cell? W _ hc0
        rw [WideShapes.add_plain] at this
        exact this
      · have hjl := (List.getElem?_eq_some_iff.1 hj).1
        rw [intC_len] at hjl
        simp only [List.length_map, List.length_range] at hjl
        have := hg j hjl
        rw [WideShapes.add_plain] at this
        rw [this, ← hj]
        simp [intC, hjl]
theorem wdC_get : ∀ (l : List (Int × Int)) (k : Nat) (d : Int × Int), l[k]? = some d → (wdC l)[k * 2]? = some (.int .i64 d.1) ∧ (wdC l)[k * 2 + 1]? = some (.int .i64 d.2)
  | [], k, d, h => by simp at h
  | e :: l, 0, d, h => by
    simp only [List.getElem?_cons_zero, Option.some.injEq] at h
    subst h
    rw [show wdC (e :: l) = .int .i64 e.1 :: .int .i64 e.2 :: wdC l by simp [wdC]]
    exact ⟨rfl, rfl⟩
  | e :: l, k + 1, d, h => by
    rw [show wdC (e :: l) = .int .i64 e.1 :: .int .i64 e.2 :: wdC l by simp [wdC], show (k + 1) * 2 = k * 2 + 1 + 1 by omega]
    simp only [List.getElem?_cons_succ] at h ⊢
    exact wdC_get l k d h
set_option maxRecDepth 100000 in
/-- A row of days. -/
theorem open_wdsS {v : Value} {y : DataW H × List MemPlace} (h : DataW.trod enc Tryz.prog W base spare held fuel 25 [v] = some y) : ∃ l : List (Int × Int), Sl W v l.length 2 (wdC l) ∧ l.length ≤ Rows.uptoBulk y.1 := by
  rcases open_slice_pairs Tryz.underlying25 Tryz.underlying57 (by kernel_rfl) rfl rfl (by kernel_rfl) (by kernel_rfl) h with ⟨hcs, hx⟩ | ⟨a, len, cap, m, n, V0, V1, D0, D1, P0, P1, hcs, _, hl, hm, hmm, hx, hi⟩
  · injection hcs with hcs _
    exact ⟨[], ⟨rfl, .inl ⟨rfl, none, 0, hcs⟩⟩, Nat.zero_le _⟩
  · injection hcs with hcs _
    have hlm : len ≤ m := by rw [hmm]; split <;> omega
    have each : ∀ i, i < len → ∃ z : Int × Int, W.cell? (a.add (i * 2)) = some (.int .i64 z.1) ∧ W.cell? (a.add (i * 2 + 1)) = some (.int .i64 z.2) := by
      intro i hil
      obtain ⟨e0, e1, g0, g1⟩ := hi i (by omega)
      obtain ⟨z, f0, _, _⟩ := DataW.trod_int Tryz.underlying3 g0
      obtain ⟨z2, f1, _, _⟩ := DataW.trod_int Tryz.underlying3 g1
      injection f0 with f0 _
      injection f1 with f1 _
      exact ⟨(z, z2), by rw [e0, f0], by rw [e1, f1]⟩
    obtain ⟨g, hg⟩ := choose_lt each
    have hb : len ≤ Rows.uptoBulk y.1 := by
      have := bulk_len ((List.range len).map fun i => (.agg [D0 i, D1 i] : DataW H))
      simp only [List.length_map, List.length_range] at this
      rw [hx]
      simp only [Rows.uptoBulk]
      omega
    refine ⟨(List.range len).map g, ⟨by rw [wdC_len], ?_⟩, by simpa using hb⟩
    simp only [List.length_map, List.length_range]
    by_cases h0 : len = 0
    · subst h0
      exact .inl ⟨rfl, some a, cap, hcs⟩
    · have hc0 := (hg 0 (by omega)).1
      rw [Nat.zero_mul] at hc0
      obtain ⟨b, o, rfl⟩ := slice_addr hc0
      refine .inr ⟨b, o, cap, hcs, ?_, fun j u hj => ?_⟩
      · have := World.block_lt_of_cell? W _ hc0
        rw [WideShapes.add_plain] at this
        exact this
      · have hjl := (List.getElem?_eq_some_iff.1 hj).1
        rw [wdC_len] at hjl
        simp only [List.length_map, List.length_range] at hjl
        have hk : j / 2 < len := by omega
        obtain ⟨c0, c1⟩ := hg (j / 2) hk
        obtain ⟨g0, g1⟩ := wdC_get ((List.range len).map g) (j / 2) (g (j / 2)) (by simp [hk])
        rw [WideShapes.add_plain] at c0 c1
        have hm2 : j % 2 = 0 ∨ j % 2 = 1 := by omega
        rcases hm2 with hp | hp
        · have hjj : j / 2 * 2 = j := by omega
          rw [hjj] at g0 c0
          rw [hj] at g0
          rw [c0, ← g0]
        · have hjj : j / 2 * 2 + 1 = j := by omega
          rw [hjj] at g1 c1
          rw [hj] at g1
          rw [c1, ← g1]
set_option maxRecDepth 100000 in
/-- A rule that is handed in. -/
theorem open_rule {r : Reach} {b0 : Nat} {v : Value} {d : DataW H} {p : List MemPlace} (hv : Value.okWide Tryz.prog W r b0 27 v) (h : DataW.Trod enc Tryz.prog W base spare held 27 v d p) (hB : Rows.uptoBulk d ≤ 100000000) :
    ∃ (q : RuV) (v1 v2 v3 v4 : Value), v = ruV q v1 v2 v3 v4 ∧ RuS W q v1 v2 v3 v4 ∧ UOk q := by
  obtain ⟨cs, rfl, hsz⟩ := okWide_struct Tryz.underlying27 hv
  obtain ⟨fu, hf0⟩ := h
  have hf1 : DataW.trod enc Tryz.prog W base spare held fu 27 cs.toList = some (d, p) := by simpa [Value.cells] using hf0
  obtain ⟨xs, q, _, hxy, hcl, hxl, hf⟩ := DataW.trod_struct Tryz.underlying27 hf1
  rw [cellsRule] at hcl
  obtain ⟨cl, hcs⟩ : ∃ cl, cs.toList = cl := ⟨_, rfl⟩
  rw [hcs] at hf hcl
  match xs, hxl, cl, hcl with
  | [y0, y1, y2, y3, y4, y5, y6, y7, y8, y9], _, [c0, c1, c2, c3, c4, c5, c6, c7, c8, c9, c10, c11], _ =>
    have g0 := hf 0 _ rfl
    have g1 := hf 1 _ rfl
    have g2 := hf 2 _ rfl
    have g3 := hf 3 _ rfl
    have g4 := hf 4 _ rfl
    have g5 := hf 5 _ rfl
    have g6 := hf 6 _ rfl
    have g7 := hf 7 _ rfl
    have g8 := hf 8 _ rfl
    have g9 := hf 9 _ rfl
    simp [cellsI, cellsBool, cellsWhen, cellsInts, cellsWds] at g0 g1 g2 g3 g4 g5 g6 g7 g8 g9
    obtain ⟨n0, e0, _, _⟩ := DataW.trod_int Tryz.underlying3 g0
    obtain ⟨n1, e1, _, _⟩ := DataW.trod_int Tryz.underlying3 g1
    obtain ⟨n2, e2, _, _⟩ := DataW.trod_int Tryz.underlying3 g2
    obtain ⟨b3, e3, _⟩ := DataW.trod_bool Tryz.underlying4 g3
    obtain ⟨x0, x1, x2, n4, _, _, f0, f1, f2⟩ := trod_struct3 Tryz.underlying23 g4
    change DataW.trod _ _ _ _ _ _ _ 2 (([c4, c5, c6].drop 0).take (Tryz.prog.cellsOf 2)) = some x0 at f0
    change DataW.trod _ _ _ _ _ _ _ 4 (([c4, c5, c6].drop 1).take (Tryz.prog.cellsOf 4)) = some x1 at f1
    change DataW.trod _ _ _ _ _ _ _ 4 (([c4, c5, c6].drop 2).take (Tryz.prog.cellsOf 4)) = some x2 at f2
    rw [cellsI64] at f0
    rw [cellsBool] at f1 f2
    obtain ⟨s4, e4, _, hwf⟩ := DataW.trod_int Tryz.underlying2 f0
    obtain ⟨b5, e5, _⟩ := DataW.trod_bool Tryz.underlying4 f1
    obtain ⟨b6, e6, _⟩ := DataW.trod_bool Tryz.underlying4 f2
    change [c4] = [_] at e4
    change [c5] = [_] at e5
    change [c6] = [_] at e6
    obtain ⟨l7, S7, L7⟩ := open_intsS g5
    obtain ⟨l8, S8, L8⟩ := open_intsS g6
    obtain ⟨l9, S9, L9⟩ := open_wdsS g7
    obtain ⟨l10, S10, L10⟩ := open_intsS g8
    obtain ⟨n11, e11, _, _⟩ := DataW.trod_int Tryz.underlying3 g9
    injection e0 with e0 _
    injection e1 with e1 _
    injection e2 with e2 _
    injection e3 with e3 _
    injection e4 with e4 _
    injection e5 with e5 _
    injection e6 with e6 _
    injection e11 with e11 _
    subst e0 e1 e2 e3 e4 e5 e6 e11
    have hbk : Rows.uptoBulk d = Rows.uptoBulkAll [y0.1, y1.1, y2.1, y3.1, y4.1, y5.1, y6.1, y7.1, y8.1, y9.1] + 1 := by
      have : d = .agg [y0.1, y1.1, y2.1, y3.1, y4.1, y5.1, y6.1, y7.1, y8.1, y9.1] := by simpa using (Prod.ext_iff.1 hxy).1
      rw [this]
      simp only [Rows.uptoBulk]
    simp only [Rows.uptoBulkAll] at hbk
    refine ⟨⟨n0, n1, n2, b3, ⟨s4, b5, b6⟩, l7, l8, l9, l10, n11⟩, c7, c8, c9, c10, ?_, ⟨S7, S8, S9, S10, ?_, ?_, ?_, ?_⟩, i64_in hwf⟩
    · unfold ruV
      congr 1
      rw [← Array.toList_inj, hcs]
    · show l7.length ≤ 100000000; omega
    · show l8.length ≤ 100000000; omega
    · show l9.length ≤ 100000000; omega
    · show l10.length ≤ 100000000; omega
end
end Go.Proofs.YtnidkcedomhofaaGreatDoor

/-
  Plain mathematics for layer 14 (rule): the chapter's examples.
-/
namespace Go.Proofs.YtnidkcedomhofaaGreatDoor
open Go.RowKit

def awkR : RuV := ⟨3, 1, 3, false, Wh.zero, [], [], [(-1, 4)], [], 0⟩
theorem awk_fit : FitV awkR :=
  ⟨by decide, by decide, by decide, fun h => (by cases h), fun _ => rfl, ⟨by decide, fun n h => (by cases h)⟩, ⟨by decide, fun n h => (by cases h)⟩, ⟨by decide, fun d h => (by simp [awkR] at h; subst h; decide)⟩, ⟨by decide, fun n h => (by cases h)⟩, fun h => absurd h (by decide), fun h => absurd h (by decide), fun h => absurd rfl h, by decide⟩
theorem awk_p0 : partK awkR 0 = [70, 82, 69, 81, 61, 77, 79, 78, 84, 72, 76, 89] := rfl
theorem num3 : numT 3 = [51] := by unfold numT; rw [if_neg (by decide), show (3 : Int).natAbs = 3 from rfl, dec_small (by decide)]; rfl
theorem numm1 : numT (-1) = [45, 49] := by unfold numT; rw [if_pos (by decide), show (-1 : Int).natAbs = 1 from rfl, dec_small (by decide)]; rfl
theorem awk_p2 : partK awkR 2 = [67, 79, 85, 78, 84, 61, 51] := by
  show nameB.getD 2 [] ++ 61 :: numT 3 = _
  rw [num3]; rfl
theorem awk_p6 : partK awkR 6 = [66, 89, 68, 65, 89, 61, 45, 49, 70, 82] := by
  show nameB.getD 6 [] ++ 61 :: Lib.join [wdyT (-1, 4)] [44] = _
  rw [Lib.join_one, show wdyT (-1, 4) = numT (-1) ++ dayT7 4 from rfl, numm1]; rfl
theorem awk_keys : keysV awkR = [0, 2, 6] := by decide
theorem awk1 : parV [70, 82, 69, 81, 61, 77, 79, 78, 84, 72, 76, 89, 59, 66, 89, 68, 65, 89, 61, 45, 49, 70, 82, 59, 67, 79, 85, 78, 84, 61, 51] = (awkR, 0) := by
  have h := run_perm awk_fit (L := [0, 6, 2]) (fun k => by rw [awk_keys]; simp; omega) (by decide)
  rw [show [0, 6, 2].map (partK awkR) = [partK awkR 0, partK awkR 6, partK awkR 2] from rfl, awk_p0, awk_p6, awk_p2] at h
  exact h
theorem awk_prn : prnV awkR = [70, 82, 69, 81, 61, 77, 79, 78, 84, 72, 76, 89, 59, 67, 79, 85, 78, 84, 61, 51, 59, 66, 89, 68, 65, 89, 61, 45, 49, 70, 82] := by
  unfold prnV partsV
  rw [if_pos ((fitV_iff _).2 awk_fit), awk_keys, show [0, 2, 6].map (partK awkR) = [partK awkR 0, partK awkR 2, partK awkR 6] from rfl, awk_p0, awk_p2, awk_p6]
  rfl
theorem awk2 : (parV [70, 82, 69, 81, 61, 72, 79, 85, 82, 76, 89]).2 = 21 := by
  unfold parV
  rw [show splitC 59 [] (upL [70, 82, 69, 81, 61, 72, 79, 85, 82, 76, 89]) = [[70, 82, 69, 81, 61, 72, 79, 85, 82, 76, 89]] from rfl, runV]
  have : stepV RuV.init [] [70, 82, 69, 81, 61, 72, 79, 85, 82, 76, 89] = .error 21 := by
    unfold stepV
    rw [show Lib.cut [70, 82, 69, 81, 61, 72, 79, 85, 82, 76, 89] [61] = ([70, 82, 69, 81], [72, 79, 85, 82, 76, 89], true) from cut_mid (a := [70, 82, 69, 81]) (r := [72, 79, 85, 82, 76, 89]) (by decide)]
    simp only
    rw [if_neg (by decide), if_neg (by decide), if_pos (by decide)]
  rw [this]
  rfl
theorem awk3 : (parV [67, 79, 85, 78, 84, 61, 51]).2 = 26 := by
  unfold parV
  rw [show splitC 59 [] (upL [67, 79, 85, 78, 84, 61, 51]) = [[67, 79, 85, 78, 84, 61, 51]] from rfl, runV]
  have : stepV RuV.init [] [67, 79, 85, 78, 84, 61, 51] = .ok ({ RuV.init with cnt := 3 }, [[67, 79, 85, 78, 84]]) := by
    unfold stepV
    rw [show Lib.cut [67, 79, 85, 78, 84, 61, 51] [61] = ([67, 79, 85, 78, 84], [51], true) from cut_mid (a := [67, 79, 85, 78, 84]) (r := [51]) (by decide)]
    simp only
    rw [if_neg (by decide), if_neg (by decide), if_neg (by decide), if_neg (by decide), if_neg (by decide)]
    rfl
  rw [this]
  rfl
theorem awk4 : (parV [70, 82, 69, 81, 61, 87, 69, 69, 75, 76, 89, 59, 66, 89, 68, 65, 89, 61, 49, 77, 79]).2 = 14 := by
  have hs : runV RuV.init [] (splitC 59 [] (upL [70, 82, 69, 81, 61, 87, 69, 69, 75, 76, 89, 59, 66, 89, 68, 65, 89, 61, 49, 77, 79])) = .ok (⟨2, 1, 0, false, Wh.zero, [], [], [(1, 0)], [], 0⟩, [[70, 82, 69, 81], [66, 89, 68, 65, 89]]) := by
    rw [show splitC 59 [] (upL [70, 82, 69, 81, 61, 87, 69, 69, 75, 76, 89, 59, 66, 89, 68, 65, 89, 61, 49, 77, 79]) = [[70, 82, 69, 81, 61, 87, 69, 69, 75, 76, 89], [66, 89, 68, 65, 89, 61, 49, 77, 79]] from rfl, runV]
    have h1 : stepV RuV.init [] [70, 82, 69, 81, 61, 87, 69, 69, 75, 76, 89] = .ok ({ RuV.init with freq := 2 }, [[70, 82, 69, 81]]) := by
      unfold stepV
      rw [show Lib.cut [70, 82, 69, 81, 61, 87, 69, 69, 75, 76, 89] [61] = ([70, 82, 69, 81], [87, 69, 69, 75, 76, 89], true) from cut_mid (a := [70, 82, 69, 81]) (r := [87, 69, 69, 75, 76, 89]) (by decide)]
      simp only
      rw [if_neg (by decide), if_neg (by decide), if_neg (by decide), if_neg (by decide), if_neg (by decide)]
      rfl
    have h2 : stepV { RuV.init with freq := 2 } [[70, 82, 69, 81]] [66, 89, 68, 65, 89, 61, 49, 77, 79] = .ok (⟨2, 1, 0, false, Wh.zero, [], [], [(1, 0)], [], 0⟩, [[70, 82, 69, 81], [66, 89, 68, 65, 89]]) := by
      unfold stepV
      rw [show Lib.cut [66, 89, 68, 65, 89, 61, 49, 77, 79] [61] = ([66, 89, 68, 65, 89], [49, 77, 79], true) from cut_mid (a := [66, 89, 68, 65, 89]) (r := [49, 77, 79]) (by decide)]
      simp only
      rw [if_neg (by decide), if_neg (by decide), if_neg (by decide), if_neg (by decide), if_neg (by decide)]
      rfl
    rw [h1]
    simp only
    rw [runV, h2]
    rfl
  unfold parV
  rw [hs]
  unfold endV
  simp only
  rw [if_neg (by decide), if_neg]
  rw [Bool.not_eq_true, fitV_not]
  intro h
  have := h.few (by decide) (1, 0) (by simp)
  cases this
end Go.Proofs.YtnidkcedomhofaaGreatDoor
