/-
  What every statement of layer 12 says of its arguments and of the world: what the listed variables hold; a world that fits.
-/
import Derived.Test.YtlfhhnjdfpgadaaDoorCards
import Derived.Test.YtlfhhnjdfpgadaaDoorTie
import Derived.Test.YtlfhhnjdfpgadaaDoorG25
import Derived.SizedLaws
import Derived.ProofKit
import Derived.OpenShut
import Derived.ChangeMaps5
import Derived.Deep.DeepHandedRow
import Derived.Deep.DeepWitnessRowRef
import Derived.Deep.DeepLaidRun
import Derived.Lay
import Derived.LaidMore
import Derived.Lib.LaidU8
import Derived.Shelf.Vars
import Derived.Deep.DeepCutAuto
import Derived.Deep.CutBlock
namespace Go.Proofs.YtlfhhnjdfpgadaaDoor
open Go.ChangeShapes Go.WideShapes Go.ChangeAt Go.RowKit Go.ChangeMaps

theorem i64_in {x : Int} (h : (Lit.int .i64 x).wf = true) : -9223372036854775808 ≤ x ∧ x < 9223372036854775808 := by
  have h1 : IntKind.i64.min = -9223372036854775808 := rfl
  have h2 : IntKind.i64.max = 9223372036854775807 := rfl
  simp only [Lit.wf, Bool.and_eq_true, decide_eq_true_eq] at h
  omega
theorem gForms : Tryd.prog.globalNamed "almanac/text.forms" = some 0 := by kernel_rfl
theorem gFormsT : (Tryd.prog.globals[0]?).map (·.type) = some 92 := by kernel_rfl
theorem cellsForm : Tryd.prog.cellsOf 91 = 4 := by kernel_rfl
theorem cellsU8 : Tryd.prog.cellsOf 5 = 1 := by kernel_rfl
theorem cellsI32 : Tryd.prog.cellsOf 21 = 1 := by kernel_rfl
theorem undForms : Tryd.prog.underlying 92 = some (.array 4 91) := by kernel_rfl
theorem at_take {cs : List Value} {k : Nat} {v : Value} (h : (cs.drop k).take 1 = [v]) : cs[k]? = some v := by
  have := congrArg (·[0]?) h
  simpa [List.getElem?_take, List.getElem?_drop] using this
/-- One form of the table, as the program holds it. -/
theorem form_cells {H : Type} {enc : TypeId × Value → H} {w : World} {base : Nat} {sp : Nat → Bool} {held : Bool} {fuel : Nat} {cs : List Value} {a b c d : Int} {p : List MemPlace}
    (h : DataW.trod enc Tryd.prog w base sp held fuel 91 cs = some (.agg [.lit (.int .u8 a), .lit (.int .u8 b), .lit (.int .i32 c), .lit (.int .i32 d)], p)) :
    cs[0]? = some (.int .u8 a) ∧ cs[1]? = some (.int .u8 b) ∧ cs[2]? = some (.int .i32 c) ∧ cs[3]? = some (.int .i32 d) := by
  obtain ⟨xs, n, rfl, hx, hl, hxl, hall⟩ := DataW.trod_struct Tryd.underlying91 h
  have hx4 : xs.map (·.1) = [.lit (.int .u8 a), .lit (.int .u8 b), .lit (.int .i32 c), .lit (.int .i32 d)] := by
    have := congrArg Prod.fst hx
    simpa using this.symm
  obtain ⟨x0, x1, x2, x3, rfl⟩ : ∃ x0 x1 x2 x3, xs = [x0, x1, x2, x3] := by
    match xs, hx4 with
    | [x0, x1, x2, x3], _ => exact ⟨x0, x1, x2, x3, rfl⟩
  simp only [List.map_cons, List.map_nil, List.cons.injEq, and_true] at hx4
  obtain ⟨e0, e1, e2, e3⟩ := hx4
  have f0 := hall 0 _ rfl
  have f1 := hall 1 _ rfl
  have f2 := hall 2 _ rfl
  have f3 := hall 3 _ rfl
  change DataW.trod _ _ _ _ _ _ _ 5 ((cs.drop 0).take (Tryd.prog.cellsOf 5)) = some x0 at f0
  change DataW.trod _ _ _ _ _ _ _ 5 ((cs.drop 1).take (Tryd.prog.cellsOf 5)) = some x1 at f1
  change DataW.trod _ _ _ _ _ _ _ 21 ((cs.drop 2).take (Tryd.prog.cellsOf 21)) = some x2 at f2
  change DataW.trod _ _ _ _ _ _ _ 21 ((cs.drop 3).take (Tryd.prog.cellsOf 21)) = some x3 at f3
  rw [cellsU8] at f0 f1
  rw [cellsI32] at f2 f3
  refine ⟨?_, ?_, ?_, ?_⟩
  · obtain ⟨z, hz, hx', _⟩ := DataW.trod_int Tryd.underlying5 f0
    rw [hx'] at e0; cases e0; exact at_take hz
  · obtain ⟨z, hz, hx', _⟩ := DataW.trod_int Tryd.underlying5 f1
    rw [hx'] at e1; cases e1; exact at_take hz
  · obtain ⟨z, hz, hx', _⟩ := DataW.trod_int Tryd.underlying21 f2
    rw [hx'] at e2; cases e2; exact at_take hz
  · obtain ⟨z, hz, hx', _⟩ := DataW.trod_int Tryd.underlying21 f3
    rw [hx'] at e3; cases e3; exact at_take hz
theorem four_at {cs : List Value} {i : Nat} {v0 v1 v2 v3 : Value} (h : ((cs.drop (i * 4)).take 4)[0]? = some v0 ∧ ((cs.drop (i * 4)).take 4)[1]? = some v1 ∧ ((cs.drop (i * 4)).take 4)[2]? = some v2 ∧ ((cs.drop (i * 4)).take 4)[3]? = some v3) :
    cs[i * 4 + 0]? = some v0 ∧ cs[i * 4 + 1]? = some v1 ∧ cs[i * 4 + 2]? = some v2 ∧ cs[i * 4 + 3]? = some v3 := by
  simpa [List.getElem?_take, List.getElem?_drop] using h
/-- What reads as the table of forms holds it. -/
theorem forms_of {W : World} (h : Lib.VarReads Tryd.prog W "almanac/text.forms" Rows.laid_almanac_text_forms) : Forms W := by
  obtain ⟨g, t, cs, fuel, p, k1, k2, k3, k4⟩ := h
  obtain rfl := Option.some.inj (gForms.symm.trans k1)
  obtain rfl := Option.some.inj (gFormsT.symm.trans k2)
  have hc := World.var?_cell gForms k3
  have el : ∀ i, i < 4 → ∃ fuel' d q, ([.agg [.lit (.int .u8 0), .lit (.int .u8 127), .lit (.int .i32 0), .lit (.int .i32 127)], .agg [.lit (.int .u8 192), .lit (.int .u8 31), .lit (.int .i32 128), .lit (.int .i32 2047)], .agg [.lit (.int .u8 224), .lit (.int .u8 15), .lit (.int .i32 2048), .lit (.int .i32 65535)], .agg [.lit (.int .u8 240), .lit (.int .u8 7), .lit (.int .i32 65536), .lit (.int .i32 1114111)]] : List (DataW Unit))[i]? = some d ∧
      DataW.trod (fun _ => ()) Tryd.prog W 0 (fun _ => true) false fuel' 91 ((cs.toList.drop (i * Tryd.prog.cellsOf 91)).take (Tryd.prog.cellsOf 91)) = some (d, q) := fun i hi => Go.Lib.array_elem undForms k4 i hi
  rw [cellsForm] at el
  obtain ⟨_, _, _, a1, a2⟩ := el 0 (by omega)
  obtain ⟨_, _, _, b1, b2⟩ := el 1 (by omega)
  obtain ⟨_, _, _, c1, c2⟩ := el 2 (by omega)
  obtain ⟨_, _, _, d1, d2⟩ := el 3 (by omega)
  simp only [List.getElem?_cons_zero, List.getElem?_cons_succ, Option.some.injEq] at a1 b1 c1 d1
  subst a1 b1 c1 d1
  obtain ⟨a0, a1, a2, a3⟩ := four_at (form_cells a2)
  obtain ⟨b0, b1, b2, b3⟩ := four_at (form_cells b2)
  obtain ⟨c0, c1, c2, c3⟩ := four_at (form_cells c2)
  obtain ⟨d0, d1, d2, d3⟩ := four_at (form_cells d2)
  have hx : ∀ i v, cs.toList[i]? = some v → W.cell? ⟨0, i, none⟩ = some v := fun i v h => by rw [hc i]; simpa using h
  exact ⟨hx 0 _ a0, hx 1 _ a1, hx 2 _ a2, hx 3 _ a3, hx 4 _ b0, hx 5 _ b1, hx 6 _ b2, hx 7 _ b3, hx 8 _ c0, hx 9 _ c1, hx 10 _ c2, hx 11 _ c3, hx 12 _ d0, hx 13 _ d1, hx 14 _ d2, hx 15 _ d3⟩
/-- The library's own variable holds some number: out of the world's shape. -/
theorem maxn_of {W : World} (h : W.ShapedOpen Tryd.prog) : MaxLn W :=
  cell_of_shapedOpen_int (zero := #[.int .i64 0]) (t := 3) (k := .i64) h (of_decide_eq_true (by kernel_rfl)) (by kernel_rfl) rfl (by kernel_rfl) (by kernel_rfl) Tryd.underlying3
/-- What the rows list. -/
abbrev laidL : List (String × DataW Unit) := Rows.compBackUptoRow.laid
theorem cv_of {W : World} (h : laidMetH Tryd.prog laidL W) (hs : W.ShapedOpen Tryd.prog) : CV W := by
  rw [MakeChecks.laidMetH_plain _ _ _ (by kernel_rfl)] at h
  exact ⟨forms_of (Lib.laidMet.reads h (n := "almanac/text.forms") (d := Rows.laid_almanac_text_forms) (by simp [laidL, Rows.compBackUptoRow])), maxn_of hs⟩
/-- A world for the witness: the listed variables laid. -/
noncomputable def laidWorld (os : Os) : World := World.laidAll Tryd.prog os laidL
theorem laid_met (os : Os) (args : Array Value) : laidMet Tryd.prog laidL ((laidWorld os).forCall (fun _ _ => 0) ⟨#[], args, []⟩).memory :=
  laidMet_laidAll _ (by kernel_rfl) (by kernel_rfl)
end Go.Proofs.YtlfhhnjdfpgadaaDoor

/-
  CompBack: what is written of a component is read as itself, and what is read, written, is read as the same.
-/
namespace Go.Proofs.YtlfhhnjdfpgadaaDoor
open Go.RowKit

/-- A component's variable stored cell by cell. -/
def putC (w : World) (g : Nat) (nm : ByteArray) (A : Option Addr) (n c : Nat) (K : Option Addr) (k kc : Nat) : World := ((w.setCell ⟨g, 0, none⟩ (.string nm)).setCell ⟨g, 1, none⟩ (.slice A n c)).setCell ⟨g, 2, none⟩ (.slice K k kc)
theorem putC_box {w : World} {g n c k kc n' c' k' kc' : Nat} {nm nm' : ByteArray} {A K A' K' : Option Addr} (h : C3 w g nm' A' n' c' K' k' kc') : C3 (putC w g nm A n c K k kc) g nm A n c K k kc := by
  unfold C3 at h ⊢
  unfold putC
  simp [World.setCell, Array.getElem?_modify, h]
theorem putC_below {w : World} {B g n c k kc : Nat} {nm : ByteArray} {A K : Option Addr} (hB : B ≤ g) : Below B w (putC w g nm A n c K k kc) :=
  (((Below.refl B w).setCell (p := ⟨g, 0, none⟩) hB _).setCell (p := ⟨g, 1, none⟩) hB _).setCell (p := ⟨g, 2, none⟩) hB _
theorem putC_other {w : World} {g n c k kc : Nat} {nm : ByteArray} {A K : Option Addr} {b : Nat} (hb : b ≠ g) : (putC w g nm A n c K k kc).heap[b]? = w.heap[b]? := by
  unfold putC
  rw [Below.heap_setCell _ ⟨g, 2, none⟩ _ b hb, Below.heap_setCell _ ⟨g, 1, none⟩ _ b hb, Below.heap_setCell _ ⟨g, 0, none⟩ _ b hb]
theorem putC_size {w : World} {g n c k kc : Nat} {nm : ByteArray} {A K : Option Addr} : (putC w g nm A n c K k kc).heap.size = w.heap.size := by simp [putC, World.setCell]
theorem prnC_size (c : CM) : (prnC c).length ≤ 8192 := by
  unfold prnC
  split
  · rename_i h
    unfold fitT at h
    simp only [Bool.and_eq_true, decide_eq_true_eq] at h
    exact h.2.2
  · simp
theorem foldL_ne {l : List (List UInt8)} (h : l ≠ []) : foldL l ≠ [] := by
  obtain ⟨x, t, rfl⟩ := List.exists_cons_of_ne_nil h
  intro e
  have := congrArg List.length e
  simp [foldL, lineF] at this
theorem linesC_ne (c : CM) : linesC c ≠ [] := by
  obtain ⟨nm, ps, cs⟩ := c
  rw [linesC]
  simp
theorem prnC_ne {c : CM} (h : fitT c = true) : prnC c ≠ [] := by
  unfold prnC
  rw [if_pos h]
  exact foldL_ne (linesC_ne c)
theorem fitT_of {c : CM} (h : prnC c ≠ []) : fitT c = true := by
  unfold prnC at h
  split at h
  · assumption
  · exact absurd rfl h
theorem parC_prn {c : CM} (h : prnC c ≠ []) : parC (prnC c) = .ok c := by
  have hf := fitT_of h
  unfold prnC
  rw [if_pos hf]
  exact parC_print hf
/-- The call's own variable, and what lay before. -/
structure KC (w W : World) (nm : ByteArray) (A : Option Addr) (n c : Nat) (qs : List QR) (K : Option Addr) (k kc : Nat) (cs : List CR) : Prop where
  ca : CA W w.heap.size nm A n c qs K k kc cs
  bel : Below w.heap.size w W
  v : CV W
section
variable {w W W' : World} {nm : ByteArray} {A K : Option Addr} {n c k kc : Nat} {qs : List QR} {cs : List CR}
theorem KC.step (h : KC w W nm A n c qs K k kc cs) (hb : Below W.heap.size W W') : KC w W' nm A n c qs K k kc cs := ⟨h.ca.step hb, bstep h.bel hb, h.v.step hb⟩
end
set_option maxRecDepth 100000 in
set_option maxHeartbeats 8000000 in
theorem back12_any (r : CR) (s : ByteArray) (w : World) (hM : csize r ≤ 1048576) (hC : COk w w.heap.size r) (hs : s.size ≤ 1048576) (hv : CV w) :
    Calls Tryd.prog 3 #[.agg #[(fC r).1, (fC r).2.1, (fC r).2.2], .string s] w fun e w' => e = .returned (.bool true) ∧ Below w.heap.size w w' := by
  obtain ⟨nm, A, n, c, qs, K, k, kc, cs⟩ := r
  have hb0 := (Below.refl w.heap.size w).alloc (Nat.le_refl _) (.cells #[.string nm, .slice A n c, .slice K k kc] 25)
  have K0 : Hid (KC w (w.alloc (.cells #[.string nm, .slice A n c, .slice K k kc] 25)) nm A n c qs K k kc cs) := Lib.hid ⟨CA.new hC, hb0, hv.step hb0⟩
  have HM := Lib.hid hM
  have HV0 := Lib.hid hv
  have HS := Lib.hid hs
  have hsl := Lib.hid (bsize s)
  clear hC hv hb0 hM hs
  simp only [fC]
  go_enter Tryd.func3, Tryd.ntmps3
  go_upto_region 1 with fail
  generalize w.alloc (.cells #[.string nm, .slice A n c, .slice K k kc] 25) = w0 at K0 ⊢
  obtain ⟨x0, x1, x2⟩ := K0.out.ca.bx.cells
  go_wp2_with fail
  refine (light_any (.mk nm A n c qs K k kc cs) w0 K0.out.ca.ok).mono ?_
  rintro e w1 ⟨⟨b, rfl⟩, hb1⟩
  have K1 := Lib.hid (K0.out.step hb1)
  clear hb1 K0 x0 x1 x2
  cases b
  · go_wp2_with fail
    refine (awake12_any w1 K1.out.v).mono ?_
    rintro e w2 ⟨rfl, hb2⟩
    go_wp2
    go_ret
    exact ⟨rfl, bstep K1.out.bel hb2⟩
  obtain ⟨x0, x1, x2⟩ := K1.out.ca.bx.cells
  go_wp2_with fail
  obtain ⟨m, hm⟩ : ∃ m, compOf (.mk nm A n c qs K k kc cs) = m := ⟨_, rfl⟩
  have cp := cPrint_any (.mk nm A n c qs K k kc cs) w1 HM.out K1.out.ca.ok K1.out.v
  rw [hm] at cp
  refine cp.mono ?_
  rintro e w2 ⟨rfl, hb2⟩
  have K2 := Lib.hid (K1.out.step hb2)
  have HMM := Lib.hid hm
  clear hb2 K1 x0 x1 x2 cp hm
  have hpz := prnC_size m
  obtain ⟨T, hT⟩ : ∃ T : ByteArray, T = ⟨(prnC m).toArray⟩ := ⟨_, rfl⟩
  rw [← hT]
  have hTl : T.data.toList = prnC m := by rw [hT]
  have hTs : T.size ≤ 8192 := by rw [bsize, hTl]; exact hpz
  clear hT hpz
  obtain ⟨z, hz, HZ⟩ : ∃ z, (!T.toList.isEmpty) = z ∧ Hid (z = true → prnC m ≠ []) := ⟨_, rfl, Lib.hid (fun h => by
    intro e
    rw [Lib.toList_data, hTl, e] at h
    cases h)⟩
  go_upto_if 19 with fail
  clear hz
  go_cut [] (fun wc => Hid (KC w wc nm A n c qs K k kc cs))
  case first =>
    cases z
    · clear hTl hTs
      go_wp2_with fail
      go_meet
      case rel => exact K2
    · have HP := Lib.hid (show parC T.data.toList = .ok m from by rw [hTl]; exact parC_prn (HZ.out rfl))
      clear hTl
      go_wp2_with fail
      refine (cParse_any T (by omega) w2 K2.out.v).mono ?_
      rintro e w3 ⟨⟨nm2, A2, n2, c2, qs2, Q2, k2, kc2, cs2⟩, k0, rfl, hC2, hM2, hb3, hm2⟩
      rw [HP.out] at hm2
      obtain ⟨rfl, hm2⟩ := hm2
      have A3 := Lib.hid (CA.new hC2.ok)
      have K3 := Lib.hid (K2.out.step hb3)
      have hb4 := (Below.refl w3.heap.size w3).alloc (Nat.le_refl _) (.cells #[.string nm2, .slice A2 n2 c2, .slice Q2 k2 kc2] 25)
      have K4 := Lib.hid (K3.out.step hb4)
      have HM2 := Lib.hid (And.intro hM2 hm2)
      clear hC2 hb3 hb4 K3 K2 hM2 hm2
      simp only [fC]
      obtain ⟨x0, x1, x2⟩ := K4.out.ca.bx.cells
      obtain ⟨y0, y1, y2⟩ := A3.out.bx.cells
      have cs12 := refSame12_any 1048576 (.mk nm A n c qs K k kc cs) (.mk nm2 A2 n2 c2 qs2 Q2 k2 kc2 cs2) _ HM.out K4.out.ca.ok A3.out.ok
      rw [HMM.out, HM2.out.2, eqC_true rfl] at cs12
      simp only [fC] at cs12
      go_wp2_with fail
      refine cs12.mono ?_
      rintro e w5 ⟨rfl, hb5⟩
      have K5 := Lib.hid (K4.out.step hb5)
      clear hb5 K4 A3 cs12 x0 x1 x2 y0 y1 y2
      go_wp2_with fail
      go_meet
      case rel => exact K5
  case rest =>
    clear K2 hTs hTl HZ
    have K2 := Lib.hid hcut.out
    clear hcut
    go_wp2_with fail
    refine (cParse_any s HS.out wc K2.out.v).mono ?_
    rintro e w3 ⟨⟨nm2, A2, n2, c2, qs2, Q2, k2, kc2, cs2⟩, k0, rfl, hC2, hM2, hb3, hm2⟩
    have K3 := Lib.hid (K2.out.step hb3)
    have hlt := K2.out.ca.bx.lt
    have HK : Hid (KC w (putC w3 w.heap.size nm2 A2 n2 c2 Q2 k2 kc2) nm2 A2 n2 c2 qs2 Q2 k2 kc2 cs2) := Lib.hid (by
      have hbel := K3.out.bel.trans (putC_below (w := w3) (nm := nm2) (A := A2) (n := n2) (c := c2) (K := Q2) (k := k2) (kc := kc2) (Nat.le_refl w.heap.size))
      refine ⟨⟨putC_box K3.out.ca.bx, hC2 _ (by rw [putC_size]; exact Nat.le_refl _) (fun b h1 _ => putC_other (by omega))⟩, hbel, ?_⟩
      exact HV0.out.step hbel)
    obtain ⟨x0, x1, x2⟩ := K3.out.ca.bx.cells
    have xf := fun o => K3.out.ca.bx.frozen o
    have hm2 := Lib.hid hm2
    have HM2 := Lib.hid hM2
    clear hC2 hb3 hlt K2 hM2
    simp only [fC]
    go_upto_region 9 with fail
    unfold putC at HK
    generalize ((w3.setCell ⟨w.heap.size, 0, none⟩ (.string nm2)).setCell ⟨w.heap.size, 1, none⟩ (.slice A2 n2 c2)).setCell ⟨w.heap.size, 2, none⟩ (.slice Q2 k2 kc2) = w4 at HK ⊢
    clear x0 x1 x2 xf K3
    cases hps : parC s.data.toList with
    | error e0 =>
      have hk := hm2.out
      rw [hps] at hk
      have hk1 : (k0 != 0) = true := by rw [bne_iff_ne]; rw [hk.1]; exact hk.2
      clear hps hm2 hk
      go_wp2_with fail
      refine (awake12_any w4 HK.out.v).mono ?_
      rintro e w5 ⟨rfl, hb5⟩
      go_wp2
      go_ret
      exact ⟨rfl, bstep HK.out.bel hb5⟩
    | ok m2 =>
      have hk := hm2.out
      rw [hps] at hk
      obtain ⟨rfl, hk2⟩ := hk
      have HPS := Lib.hid (And.intro hps hk2)
      clear hps hm2 hk2
      obtain ⟨x0, x1, x2⟩ := HK.out.ca.bx.cells
      go_wp2_with fail
      have cp := cPrint_any (.mk nm2 A2 n2 c2 qs2 Q2 k2 kc2 cs2) w4 HM2.out HK.out.ca.ok HK.out.v
      rw [HPS.out.2] at cp
      simp only [fC] at cp
      refine cp.mono ?_
      rintro e w5 ⟨rfl, hb5⟩
      have K5 := Lib.hid (HK.out.step hb5)
      clear hb5 HK cp x0 x1 x2
      have hpz := prnC_size m2
      obtain ⟨U, hU⟩ : ∃ U : ByteArray, U = ⟨(prnC m2).toArray⟩ := ⟨_, rfl⟩
      rw [← hU]
      have hUl : U.data.toList = prnC m2 := by rw [hU]
      have hUs : U.size ≤ 8192 := by rw [bsize, hUl]; exact hpz
      have HUL := Lib.hid hUl
      clear hU hpz hUl
      go_wp2_with fail
      refine (cParse_any U (by omega) w5 K5.out.v).mono ?_
      rintro e w6 ⟨⟨nm3, A3, n3, c3, qs3, Q3, k3, kc3, cs3⟩, k1, rfl, hC3, hM3, hb6, hm3⟩
      have A6 := Lib.hid (CA.new hC3.ok)
      have hb7 := (Below.refl w6.heap.size w6).alloc (Nat.le_refl _) (.cells #[.string nm3, .slice A3 n3 c3, .slice Q3 k3 kc3] 25)
      have K6 := Lib.hid ((K5.out.step hb6).step hb7)
      have HM3 := Lib.hid hm3
      clear hC3 hM3 hb6 hb7 hm3 K5
      simp only [fC]
      obtain ⟨x0, x1, x2⟩ := K6.out.ca.bx.cells
      obtain ⟨y0, y1, y2⟩ := A6.out.bx.cells
      have htl : U.toList = U.data.toList := Lib.toList_data U
      by_cases hne : prnC m2 = []
      · have hte : (U.toList == (⟨#[]⟩ : ByteArray).toList) = true := by rw [htl, HUL.out, hne, Lib.toList_data]; rfl
        have hte2 : U.toList.isEmpty = true := by rw [htl, HUL.out, hne]; rfl
        have hf0 : fitT m2 = false := by
          cases hf : fitT m2
          · rfl
          · exact absurd hne (prnC_ne hf)
        have hs3 : (3000 : Int) < (s.size : Int) := by
          by_cases h3 : s.size ≤ 3000
          · have := parC_fit HPS.out.1 (by rw [← hsl.out]; exact h3)
            rw [hf0] at this; cases this
          · omega
        have cf := cFit_any (.mk nm2 A2 n2 c2 qs2 Q2 k2 kc2 cs2) _ HM2.out K6.out.ca.ok K6.out.v
        rw [HPS.out.2, hf0] at cf
        simp only [fC] at cf
        clear hne htl hf0
        go_wp2_with fail
        refine cf.mono ?_
        rintro e w8 ⟨rfl, hb8⟩
        have K8 := Lib.hid (K6.out.step hb8)
        clear hb8 K6 cf x0 x1 x2 y0 y1 y2 A6
        go_wp2_with fail
        refine (awake12_any w8 K8.out.v).mono ?_
        rintro e w9 ⟨rfl, hb9⟩
        go_wp2
        go_ret
        exact ⟨rfl, bstep K8.out.bel hb9⟩
      · have hte : (U.toList == (⟨#[]⟩ : ByteArray).toList) = false := by
          rw [htl, HUL.out]
          cases hp : prnC m2 with
          | nil => exact absurd hp hne
          | cons a l => rw [Lib.toList_data]; rfl
        have hte2 : U.toList.isEmpty = false := by
          rw [htl, HUL.out]
          cases hp : prnC m2 with
          | nil => exact absurd hp hne
          | cons a l => rfl
        have hm4 := HM3.out
        rw [HUL.out, parC_prn hne] at hm4
        obtain ⟨rfl, hm4⟩ := hm4
        have cs12 := refSame12_any 1048576 (.mk nm2 A2 n2 c2 qs2 Q2 k2 kc2 cs2) (.mk nm3 A3 n3 c3 qs3 Q3 k3 kc3 cs3) _ HM2.out K6.out.ca.ok A6.out.ok
        rw [HPS.out.2, hm4, eqC_true rfl] at cs12
        simp only [fC] at cs12
        clear hne htl hm4
        go_wp2_with fail
        refine cs12.mono ?_
        rintro e w8 ⟨rfl, hb8⟩
        have K8 := Lib.hid (K6.out.step hb8)
        clear hb8 K6 cs12 x0 x1 x2 y0 y1 y2 A6
        go_wp2_with fail
        refine (awake12_any w8 K8.out.v).mono ?_
        rintro e w9 ⟨rfl, hb9⟩
        go_wp2
        go_ret
        exact ⟨rfl, bstep K8.out.bel hb9⟩
end Go.Proofs.YtlfhhnjdfpgadaaDoor
