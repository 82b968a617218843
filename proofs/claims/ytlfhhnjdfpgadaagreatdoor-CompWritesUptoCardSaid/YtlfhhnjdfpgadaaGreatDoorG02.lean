/-
  What the statements' arguments are: devices, lists of truth values and of calls, as plain lists; and that they read afterwards as they read before.
-/
import Derived.Test.YtlfhhnjdfpgadaaGreatDoorRows
import Derived.Test.YtlfhhnjdfpgadaaGreatDoorG01
import Derived.SizedLaws
import Derived.ProofKit
import Derived.ChangeMaps5
import Derived.Lib.SmallJoins
import Derived.Deep.SlicePairs
import Derived.SliceStrings
import Derived.WalkKit
import Derived.Below
import Derived.Laws.OwnMore
import Derived.Laws.IdiomStrings
import Derived.Laws.BytesArg
import Derived.Deep.AppendLies
import Derived.Maps.AppendAt
import Derived.OwnWalk
import Derived.Lib.Hide
import Derived.Test.YtlfhhnjdfpgadaaGreatDoorProg
namespace Go.Proofs.YtlfhhnjdfpgadaaGreatDoor
open Go.ChangeShapes Go.WideShapes Go.ChangeAt Go.RowKit Go.ChangeMaps Go.Joins Go.Deep
theorem Tryz.own : ownKnob Tryz.prog.godebug = none := by kernel_rfl
theorem Tryz.laidOut : laidOutB Tryz.prog = true := by kernel_rfl

theorem slice_addr {w : World} {a : Addr} {u : Value} (h : w.cell? (a.add 0) = some u) : ∃ b o, a = ⟨b, o, none⟩ := by
  obtain ⟨b, o, spot⟩ := a
  have hs : spot = none := by simpa [Addr.add] using World.cell?_spot h
  subst hs
  exact ⟨b, o, rfl⟩
theorem list_of (len : Nat) (V0 V1 : Nat → Value) (h : ∀ i, i < len → ∃ p : Int × ByteArray, V0 i = .int .i64 p.1 ∧ V1 i = .string p.2) :
    ∃ cs : List (Int × ByteArray), cs.length = len ∧ ∀ i, i < len → V0 i = .int .i64 (wAt cs i) ∧ V1 i = .string (wDat cs i) := by
  induction len with
  | zero => exact ⟨[], rfl, fun i hi => absurd hi (Nat.not_lt_zero _)⟩
  | succ k ih =>
    obtain ⟨cs, hl, hc⟩ := ih fun i hi => h i (by omega)
    obtain ⟨p, h0, h1⟩ := h k (by omega)
    refine ⟨cs ++ [p], by simp [hl], fun i hi => ?_⟩
    by_cases e : i = k
    · subst e
      have hq : (cs ++ [p]).getD i (0, ⟨#[]⟩) = p := by rw [List.getD_eq_getElem?_getD, List.getElem?_append_right (by omega), hl, Nat.sub_self]; rfl
      unfold wAt wDat
      rw [hq]
      exact ⟨h0, h1⟩
    · have hq : (cs ++ [p]).getD i (0, ⟨#[]⟩) = cs.getD i (0, ⟨#[]⟩) := by rw [List.getD_eq_getElem?_getD, List.getD_eq_getElem?_getD, List.getElem?_append_left (by omega)]
      unfold wAt wDat
      rw [hq]
      exact hc i (by omega)

section
variable {H : Type} {enc : TypeId × Value → H} {W : World} {base : Nat} {spare : Nat → Bool} {held : Bool} {fuel : Nat}
set_option maxRecDepth 100000 in
/-- A slice of texts. -/
theorem open_texts {v : Value} {y : DataW H × List MemPlace} (h : DataW.trod enc Tryz.prog W base spare held fuel 46 [v] = some y) (hw : ∀ x ∈ DataW.weights Tryz.prog 46 y.1, x ≤ reachBytes) :
    ∃ A n c bs, v = .slice A n c ∧ n ≤ c ∧ c ≤ maxLen ∧ Reads W W.heap.size 1 A n (encS bs) ∧ n * 16 ≤ 140737488355328 := by
  rcases open_strings Tryz.underlying46 Tryz.underlying9 (by kernel_rfl) h with ⟨hcs, hx⟩ | ⟨a, len, cap, ss, hcs, _, hl, hm, hz, hx, hcell, _⟩
  · injection hcs with hcs _
    exact ⟨none, 0, 0, [], hcs, Nat.le_refl _, by simp only [maxLen]; omega, Reads.nil, by omega⟩
  · injection hcs with hcs _
    subst hx
    have hlen : len ≤ ss.length := by rw [hz]; split <;> omega
    have hbytes := hw ((List.length (strs (H := H) (ss.take len)) + List.length (strs (H := H) (ss.drop len))) * Tryz.prog.bytesOf 9) (by simp [DataW.weights, Tryz.underlying46])
    have hb16 : Tryz.prog.bytesOf 9 = 16 := by kernel_rfl
    rw [hb16] at hbytes
    have hlen2 : (strs (H := H) (ss.take len)).length = len := by simp [strs]; omega
    have hre : reachBytes = 140737488351232 := by decide
    rw [hlen2, hre] at hbytes
    refine ⟨some a, len, cap, ss.take len, hcs, hl, hm, ⟨by rw [encS_length, List.length_take]; omega, fun hn => ?_⟩, by omega⟩
    obtain ⟨b, o, rfl⟩ := slice_addr (hcell 0 (by omega))
    refine ⟨b, o, rfl, ?_, fun j u hu => ?_⟩
    · have := World.block_lt_of_cell? W _ (hcell 0 (by omega))
      rw [add_plain] at this
      exact this
    · have hj := (List.getElem?_eq_some_iff.1 hu).1
      rw [encS_length, List.length_take] at hj
      rw [encS_get (by rw [List.length_take]; omega)] at hu
      injection hu with hu
      rw [← hu, ← add_plain, hcell j (by omega)]
      have e : ss.getD j ByteArray.empty = blk (ss.take len) j := by
        unfold blk
        rw [List.getD_eq_getElem?_getD, List.getD_eq_getElem?_getD, List.getElem?_take, if_pos (by omega)]
        rfl
      rw [e]
end

end Go.Proofs.YtlfhhnjdfpgadaaGreatDoor

/-
  A property that a statement is handed, as plain texts: its parameters, their values, and how much they weigh.
-/
namespace Go.Proofs.YtlfhhnjdfpgadaaGreatDoor
open Go.ChangeShapes Go.WideShapes Go.ChangeAt Go.RowKit Go.ChangeMaps Go.Joins Go.Deep

/-- One parameter: its name, and its values' slice. -/
structure PR where
  name : ByteArray
  K : Option Addr
  k : Nat
  kc : Nat
  vs : List ByteArray
def encP : List PR → List Value
  | [] => []
  | r :: l => .string r.name :: .slice r.K r.k r.kc :: encP l
theorem encP_length : ∀ l : List PR, (encP l).length = l.length * 2
  | [] => rfl
  | r :: l => by simp only [encP, List.length_cons, encP_length l]; omega
theorem encP_get : ∀ {l : List PR} {i : Nat} {r : PR}, l[i]? = some r → (encP l)[i * 2]? = some (.string r.name) ∧ (encP l)[i * 2 + 1]? = some (.slice r.K r.k r.kc)
  | q :: l, 0, r, h => by
    simp only [List.getElem?_cons_zero, Option.some.injEq] at h
    subst h
    exact ⟨rfl, rfl⟩
  | q :: l, i + 1, r, h => by
    have := encP_get (l := l) (i := i) (by simpa using h)
    rw [show (i + 1) * 2 = i * 2 + 1 + 1 by omega]
    exact this
def vsize (l : List ByteArray) : Nat := (l.map fun v => v.size + 1).sum
def psize (r : PR) : Nat := r.name.size + vsize r.vs + 1
def psizes (l : List PR) : Nat := (l.map psize).sum
/-- A parameter's values read in the world. -/
structure POk (w : World) (B : Nat) (r : PR) : Prop where
  rd : Reads w B 1 r.K r.k (encS r.vs)
  le : r.k ≤ r.kc
  cap : r.kc ≤ maxLen
theorem Reads.par {w : World} {B n : Nat} {A : Option Addr} {l : List PR} (h : Reads w B 2 A n (encP l)) {i : Nat} {r : PR} (hr : l[i]? = some r) :
    ∃ b o, A = some ⟨b, o, none⟩ ∧ b < B ∧ w.cell? ⟨b, o + i * 2, none⟩ = some (.string r.name) ∧ w.cell? ⟨b, o + i * 2 + 1, none⟩ = some (.slice r.K r.k r.kc) := by
  have hi := (List.getElem?_eq_some_iff.1 hr).1
  have hl := h.1
  rw [encP_length] at hl
  obtain ⟨b, o, e, hb, hc⟩ := h.2 (by omega)
  obtain ⟨g0, g1⟩ := encP_get hr
  exact ⟨b, o, e, hb, hc _ _ g0, hc _ _ g1⟩

theorem bulk_app {H : Type} : ∀ (a b : List (DataW H)), Rows.uptoBulkAll (a ++ b) = Rows.uptoBulkAll a + Rows.uptoBulkAll b
  | [], b => by simp [Rows.uptoBulkAll]
  | x :: a, b => by simp only [List.cons_append, Rows.uptoBulkAll, bulk_app a b]; omega
theorem bulk_strs {H : Type} : ∀ (l : List ByteArray), Rows.uptoBulkAll (strs (H := H) l) = vsize l
  | [] => rfl
  | s :: l => by
    have ih := bulk_strs (H := H) l
    unfold strs vsize at *
    simp only [List.map_cons, Rows.uptoBulkAll, Rows.uptoBulk, List.sum_cons, ih]
    rfl

section
variable {H : Type} {enc : TypeId × Value → H} {W : World} {base : Nat} {spare : Nat → Bool} {held : Bool} {fuel : Nat}
set_option maxRecDepth 100000 in
/-- A slice of texts. -/
theorem open_textsB {v : Value} {y : DataW H × List MemPlace} (h : DataW.trod enc Tryz.prog W base spare held fuel 46 [v] = some y) :
    ∃ A n c bs, v = .slice A n c ∧ n ≤ c ∧ c ≤ maxLen ∧ Reads W W.heap.size 1 A n (encS bs) ∧ vsize bs ≤ Rows.uptoBulk y.1 := by
  rcases open_strings Tryz.underlying46 Tryz.underlying9 (by kernel_rfl) h with ⟨hcs, hx⟩ | ⟨a, len, cap, ss, hcs, _, hl, hm, hz, hx, hcell, _⟩
  · injection hcs with hcs _
    exact ⟨none, 0, 0, [], hcs, Nat.le_refl _, by simp only [maxLen]; omega, Reads.nil, by simp [vsize]⟩
  · injection hcs with hcs _
    subst hx
    have hlen : len ≤ ss.length := by rw [hz]; split <;> omega
    refine ⟨some a, len, cap, ss.take len, hcs, hl, hm, ⟨by rw [encS_length, List.length_take]; omega, fun hn => ?_⟩, by simp only [Rows.uptoBulk, bulk_strs]; omega⟩
    obtain ⟨b, o, rfl⟩ := slice_addr (hcell 0 (by omega))
    refine ⟨b, o, rfl, ?_, fun j u hu => ?_⟩
    · have := World.block_lt_of_cell? W _ (hcell 0 (by omega))
      rw [add_plain] at this
      exact this
    · have hj := (List.getElem?_eq_some_iff.1 hu).1
      rw [encS_length, List.length_take] at hj
      rw [encS_get (by rw [List.length_take]; omega)] at hu
      injection hu with hu
      rw [← hu, ← add_plain, hcell j (by omega)]
      have e : ss.getD j ByteArray.empty = blk (ss.take len) j := by
        unfold blk
        rw [List.getD_eq_getElem?_getD, List.getD_eq_getElem?_getD, List.getElem?_take, if_pos (by omega)]
        rfl
      rw [e]
theorem choose_ltP {n : Nat} {α : Type} {Q : Nat → α → Prop} (h : ∀ i, i < n → ∃ x, Q i x) : n = 0 ∨ ∃ f : Nat → α, ∀ i, i < n → Q i (f i) := by
  cases n with
  | zero => exact .inl rfl
  | succ n =>
    obtain ⟨x, _⟩ := h 0 (by omega)
    refine .inr ⟨fun i => if hi : i < n + 1 then (h i hi).choose else x, fun i hi => ?_⟩
    simp only [hi, dif_pos]
    exact (h i hi).choose_spec
theorem sum_le {f g : Nat → Nat} : ∀ (n : Nat), (∀ i, i < n → f i ≤ g i) → ((List.range n).map f).sum ≤ ((List.range n).map g).sum
  | 0, _ => by simp
  | n + 1, h => by
    have := sum_le n (fun i hi => h i (by omega))
    have := h n (by omega)
    simp only [List.range_succ, List.map_append, List.map_cons, List.map_nil, List.sum_append, List.sum_cons, List.sum_nil]
    omega
theorem bulk_range {D : Nat → DataW H} : ∀ (n : Nat), Rows.uptoBulkAll ((List.range n).map D) = ((List.range n).map fun i => Rows.uptoBulk (D i)).sum
  | 0 => by simp [Rows.uptoBulkAll]
  | n + 1 => by
    simp only [List.range_succ, List.map_append, List.map_cons, List.map_nil, bulk_app, bulk_range n, List.sum_append, List.sum_cons, List.sum_nil, Rows.uptoBulkAll]
set_option maxRecDepth 100000 in
/-- A slice of parameters. -/
theorem open_params {v : Value} {y : DataW H × List MemPlace} (h : DataW.trod enc Tryz.prog W base spare held fuel 28 [v] = some y) :
    ∃ L n c l, v = .slice L n c ∧ n ≤ c ∧ c ≤ maxLen ∧ Reads W W.heap.size 2 L n (encP l) ∧ (∀ r ∈ l, POk W W.heap.size r) ∧ psizes l ≤ Rows.uptoBulk y.1 := by
  rcases open_slice_pairs Tryz.underlying28 Tryz.underlying56 (by kernel_rfl) rfl rfl (by kernel_rfl) (by kernel_rfl) h with ⟨hcs, hx⟩ | ⟨a, len, cap, m, n, V0, V1, D0, D1, P0, P1, hcs, _, hl, hm, hmm, hx, hi⟩
  · injection hcs with hcs _
    exact ⟨none, 0, 0, [], hcs, Nat.le_refl _, by simp only [maxLen]; omega, Reads.nil, (fun r hr => by cases hr), by simp [psizes]⟩
  · injection hcs with hcs _
    have hlm : len ≤ m := by rw [hmm]; split <;> omega
    have each : ∀ i, i < len → ∃ r : PR, POk W W.heap.size r ∧ W.cell? (a.add (i * 2)) = some (.string r.name) ∧ W.cell? (a.add (i * 2 + 1)) = some (.slice r.K r.k r.kc) ∧ psize r ≤ Rows.uptoBulk (.agg [D0 i, D1 i] : DataW H) := by
      intro i hil
      obtain ⟨e0, e1, g0, g1⟩ := hi i (by omega)
      obtain ⟨x2, f2, hx2, _⟩ := DataW.trod_string Tryz.underlying9 g0
      obtain ⟨K, k, kc, vs, f3, hk, hkm, hR, hb⟩ := open_textsB g1
      injection f2 with f2 _
      rw [f2] at e0
      rw [f3] at e1
      have hd : D0 i = .lit (.string x2.data.toList) := (Prod.ext_iff.1 hx2).1
      refine ⟨⟨x2, K, k, kc, vs⟩, ⟨hR, hk, hkm⟩, e0, e1, ?_⟩
      simp only [Rows.uptoBulk, Rows.uptoBulkAll, hd, psize]
      have hs : x2.size = x2.data.toList.length := Array.length_toList.symm
      dsimp only at hb
      omega
    rcases choose_ltP each with h0 | ⟨f, hf⟩
    · subst h0
      exact ⟨some a, 0, cap, [], hcs, Nat.zero_le _, hm, ⟨rfl, fun hn => absurd hn (Nat.lt_irrefl _)⟩, (fun r hr => by cases hr), by simp [psizes]⟩
    refine ⟨some a, len, cap, (List.range len).map f, hcs, hl, hm, ⟨by rw [encP_length]; simp, fun hn => ?_⟩, fun r hr => ?_, ?_⟩
    · have h0 := (hf 0 (by omega)).2.1
      rw [Nat.zero_mul] at h0
      obtain ⟨b, o, rfl⟩ := slice_addr h0
      refine ⟨b, o, rfl, ?_, fun j u hu => ?_⟩
      · have := World.block_lt_of_cell? W _ h0
        rw [add_plain] at this
        exact this
      · have hj := (List.getElem?_eq_some_iff.1 hu).1
        rw [encP_length] at hj
        simp only [List.length_map, List.length_range] at hj
        have hk : j / 2 < len := by omega
        obtain ⟨_, c0, c1, _⟩ := hf (j / 2) hk
        obtain ⟨g0, g1⟩ := encP_get (l := (List.range len).map f) (i := j / 2) (r := f (j / 2)) (by simp [hk])
        rw [add_plain] at c0 c1
        have hm2 : j % 2 = 0 ∨ j % 2 = 1 := by omega
        rcases hm2 with hp | hp
        · have hjj : j / 2 * 2 = j := by omega
          rw [hjj] at g0 c0
          rw [hu] at g0
          rw [c0, ← g0]
        · have hjj : j / 2 * 2 + 1 = j := by omega
          rw [hjj] at g1 c1
          rw [hu] at g1
          rw [c1, ← g1]
    · obtain ⟨i, hi', rfl⟩ := List.mem_map.1 hr
      exact (hf i (List.mem_range.1 hi')).1
    · subst hx
      simp only [Rows.uptoBulk, bulk_range]
      have := sum_le (f := fun i => psize (f i)) (g := fun i => Rows.uptoBulk (.agg [D0 i, D1 i] : DataW H)) len (fun i hi => (hf i hi).2.2.2)
      unfold psizes
      rw [List.map_map]
      simp only [Rows.uptoBulk] at this
      exact Nat.le_trans this (by omega)
set_option maxRecDepth 100000 in
/-- A property. -/
theorem open_prop {cs : List Value} {y : DataW H × List MemPlace} (h : DataW.trod enc Tryz.prog W base spare held fuel 30 cs = some y) :
    ∃ nm L n c vl l, cs = [.string nm, .slice L n c, .string vl] ∧ n ≤ c ∧ c ≤ maxLen ∧ Reads W W.heap.size 2 L n (encP l) ∧ (∀ r ∈ l, POk W W.heap.size r) ∧ nm.size + psizes l + vl.size ≤ Rows.uptoBulk y.1 := by
  have c9 : Tryz.prog.cellsOf 9 = 1 := by kernel_rfl
  have cp : Tryz.prog.cellsOf 28 = 1 := by kernel_rfl
  have ce : Tryz.prog.cellsOf 30 = 3 := by kernel_rfl
  obtain ⟨xs, q, _, hxy, hcl, hxl, hf⟩ := DataW.trod_struct Tryz.underlying30 h
  rw [ce] at hcl
  match xs, hxl, cs, hcl with
  | [y0, y1, y2], _, [v0, v1, v2], _ =>
    have g0 := hf 0 _ rfl
    have g1 := hf 1 _ rfl
    have g2 := hf 2 _ rfl
    simp [c9, cp] at g0 g1 g2
    obtain ⟨x0, f0, hy0, _⟩ := DataW.trod_string Tryz.underlying9 g0
    obtain ⟨L, n, c, l, f1, hn, hc, hR, hP, hb⟩ := open_params g1
    obtain ⟨x2, f2, hy2, _⟩ := DataW.trod_string Tryz.underlying9 g2
    injection f0 with f0 _
    injection f2 with f2 _
    subst f0 f1 f2
    refine ⟨x0, L, n, c, x2, l, rfl, hn, hc, hR, hP, ?_⟩
    subst hxy
    have s0 : x0.size = x0.data.toList.length := Array.length_toList.symm
    have s2 : x2.size = x2.data.toList.length := Array.length_toList.symm
    have e0 : y0.1 = .lit (.string x0.data.toList) := (Prod.ext_iff.1 hy0).1
    have e2 : y2.1 = .lit (.string x2.data.toList) := (Prod.ext_iff.1 hy2).1
    simp only [List.map_cons, List.map_nil, Rows.uptoBulk, Rows.uptoBulkAll, e0, e2]
    omega
end

end Go.Proofs.YtlfhhnjdfpgadaaGreatDoor

/-
  A component that a statement is handed, as plain texts: its properties, its components, and how much they weigh.
-/
namespace Go.Proofs.YtlfhhnjdfpgadaaGreatDoor
open Go.ChangeShapes Go.WideShapes Go.ChangeAt Go.RowKit Go.ChangeMaps Go.Joins Go.Deep

/-- A list whose elements lie in three cells each. -/
def enc3 {α : Type} (f : α → Value × Value × Value) : List α → List Value
  | [] => []
  | x :: l => (f x).1 :: (f x).2.1 :: (f x).2.2 :: enc3 f l
theorem enc3_length {α : Type} (f : α → Value × Value × Value) : ∀ l : List α, (enc3 f l).length = l.length * 3
  | [] => rfl
  | x :: l => by simp only [enc3, List.length_cons, enc3_length f l]; omega
theorem enc3_get {α : Type} {f : α → Value × Value × Value} : ∀ {l : List α} {i : Nat} {x : α}, l[i]? = some x → (enc3 f l)[i * 3]? = some (f x).1 ∧ (enc3 f l)[i * 3 + 1]? = some (f x).2.1 ∧ (enc3 f l)[i * 3 + 2]? = some (f x).2.2
  | [], i, x, h => by simp at h
  | y :: l, 0, x, h => by
    simp only [List.getElem?_cons_zero, Option.some.injEq] at h
    subst h
    exact ⟨rfl, rfl, rfl⟩
  | y :: l, i + 1, x, h => by
    rw [List.getElem?_cons_succ] at h
    obtain ⟨h0, h1, h2⟩ := enc3_get (f := f) h
    have e0 : (i + 1) * 3 = i * 3 + 1 + 1 + 1 := by omega
    rw [e0]
    simp only [enc3, List.getElem?_cons_succ]
    exact ⟨h0, h1, h2⟩
/-- The place of an element. -/
theorem Reads.tri {α : Type} {f : α → Value × Value × Value} {w : World} {B n : Nat} {A : Option Addr} {l : List α} (h : Reads w B 3 A n (enc3 f l)) {i : Nat} {x : α} (hx : l[i]? = some x) :
    ∃ b o, A = some ⟨b, o, none⟩ ∧ b < B ∧ w.cell? ⟨b, o + i * 3, none⟩ = some (f x).1 ∧ w.cell? ⟨b, o + i * 3 + 1, none⟩ = some (f x).2.1 ∧ w.cell? ⟨b, o + i * 3 + 2, none⟩ = some (f x).2.2 := by
  have hi := (List.getElem?_eq_some_iff.1 hx).1
  have hl := h.1
  rw [enc3_length] at hl
  obtain ⟨b, o, e, hb, hc⟩ := h.2 (by omega)
  obtain ⟨g0, g1, g2⟩ := enc3_get (f := f) hx
  exact ⟨b, o, e, hb, hc _ _ g0, hc _ _ g1, hc _ _ g2⟩
theorem Reads.len3 {α : Type} {f : α → Value × Value × Value} {w : World} {B n : Nat} {A : Option Addr} {l : List α} (h : Reads w B 3 A n (enc3 f l)) : l.length = n := by
  have := h.1
  rw [enc3_length] at this
  omega

/-- One property as it lies among others. -/
structure QR where
  name : ByteArray
  L : Option Addr
  n : Nat
  c : Nat
  vl : ByteArray
  ps : List PR
def fQ (q : QR) : Value × Value × Value := (.string q.name, .slice q.L q.n q.c, .string q.vl)
def qsize (q : QR) : Nat := q.name.size + psizes q.ps + q.vl.size + 1
def qsizes (l : List QR) : Nat := (l.map qsize).sum
structure QOk (w : World) (B : Nat) (q : QR) : Prop where
  rd : Reads w B 2 q.L q.n (encP q.ps)
  vs : ∀ r ∈ q.ps, POk w B r
  le : q.n ≤ q.c
  cap : q.c ≤ maxLen
theorem QOk.step {w w' : World} {q : QR} (h : QOk w w.heap.size q) (hb : Below w.heap.size w w') : QOk w' w'.heap.size q := ⟨h.rd.step hb, fun r hr => ⟨(h.vs r hr).rd.step hb, (h.vs r hr).le, (h.vs r hr).cap⟩, h.le, h.cap⟩

/-- A component as it lies among others. -/
inductive CR where
  | mk (name : ByteArray) (A : Option Addr) (n c : Nat) (qs : List QR) (K : Option Addr) (k kc : Nat) (cs : List CR) : CR
def fC : CR → Value × Value × Value
  | .mk nm A n c _ K k kc _ => (.string nm, .slice A n c, .slice K k kc)
mutual
def csize : CR → Nat
  | .mk nm _ _ _ qs _ _ _ cs => nm.size + qsizes qs + csizes cs + 1
def csizes : List CR → Nat
  | [] => 0
  | c :: cs => csize c + csizes cs
end
theorem csizes_sum : ∀ l : List CR, csizes l = (l.map csize).sum
  | [] => by simp [csizes]
  | c :: l => by simp [csizes, csizes_sum l]
inductive COk (w : World) (B : Nat) : CR → Prop
  | mk {nm : ByteArray} {A : Option Addr} {n c : Nat} {qs : List QR} {K : Option Addr} {k kc : Nat} {cs : List CR} : Reads w B 3 A n (enc3 fQ qs) → (∀ q ∈ qs, QOk w B q) → n ≤ c → c ≤ maxLen →
      Reads w B 3 K k (enc3 fC cs) → (∀ x ∈ cs, COk w B x) → k ≤ kc → kc ≤ maxLen → COk w B (.mk nm A n c qs K k kc cs)
theorem COk.step {w w' : World} (hb : Below w.heap.size w w') {r : CR} (h : COk w w.heap.size r) : COk w' w'.heap.size r := by
  induction h with
  | mk h1 h2 h3 h4 h5 _ h7 h8 ih => exact .mk (h1.step hb) (fun q hq => (h2 q hq).step hb) h3 h4 (h5.step hb) ih h7 h8

section
variable {H : Type} {enc : TypeId × Value → H} {W : World} {base : Nat} {spare : Nat → Bool} {held : Bool} {fuel : Nat}
theorem bulk_pos : ∀ d : DataW H, 1 ≤ Rows.uptoBulk d
  | .lit l => by cases l <;> simp [Rows.uptoBulk]
  | .nil => by simp [Rows.uptoBulk]
  | .ptr d => by simp [Rows.uptoBulk]
  | .slice a b => by simp [Rows.uptoBulk]
  | .agg l => by simp [Rows.uptoBulk]
  | .iface n d => by simp [Rows.uptoBulk]
  | .map e => by simp [Rows.uptoBulk]
  | .held h => by simp [Rows.uptoBulk]
theorem bulk_mem {D : Nat → DataW H} {n i : Nat} (h : i < n) : Rows.uptoBulk (D i) ≤ Rows.uptoBulkAll ((List.range n).map D) := by
  rw [bulk_range]
  induction n with
  | zero => omega
  | succ n ih =>
    simp only [List.range_succ, List.map_append, List.map_cons, List.map_nil, List.sum_append, List.sum_cons, List.sum_nil]
    by_cases e : i = n
    · subst e; omega
    · have := ih (by omega); omega
set_option maxRecDepth 100000 in
/-- A slice of structs of three cells, each opened by its own law. -/
theorem open_slice3 {α : Type} (f : α → Value × Value × Value) (R : α → Prop) (wt : α → Nat) {t e : TypeId} (ht : Tryz.prog.underlying t = some (.slice e)) (ce : Tryz.prog.cellsOf e = 3) {v : Value} {y : DataW H × List MemPlace}
    (hel : ∀ n cs' (z : DataW H × List MemPlace), DataW.trod enc Tryz.prog W base spare held n e cs' = some z → Rows.uptoBulk z.1 < Rows.uptoBulk y.1 → ∃ x : α, cs' = [(f x).1, (f x).2.1, (f x).2.2] ∧ R x ∧ wt x ≤ Rows.uptoBulk z.1)
    (h : DataW.trod enc Tryz.prog W base spare held fuel t [v] = some y) :
    ∃ L n c xs, v = .slice L n c ∧ n ≤ c ∧ c ≤ maxLen ∧ Reads W W.heap.size 3 L n (enc3 f xs) ∧ (∀ x ∈ xs, R x) ∧ (xs.map wt).sum ≤ Rows.uptoBulk y.1 := by
  rcases open_slice ht h with ⟨hcs, hx⟩ | ⟨a, len, cap, m, n, D, Pl, hcs, _, hl, hm, hmm, hx, hi⟩
  · injection hcs with hcs _
    exact ⟨none, 0, 0, [], hcs, Nat.le_refl _, by simp only [maxLen]; omega, Reads.nil, (fun r hr => by cases hr), by simp⟩
  · injection hcs with hcs _
    have hlm : len ≤ m := by rw [hmm]; split <;> omega
    have hy : Rows.uptoBulkAll ((List.range len).map D) < Rows.uptoBulk y.1 := by subst hx; simp only [Rows.uptoBulk]; omega
    have each : ∀ i, i < len → ∃ x : α, R x ∧ W.cell? (a.add (i * 3)) = some (f x).1 ∧ W.cell? (a.add (i * 3 + 1)) = some (f x).2.1 ∧ W.cell? (a.add (i * 3 + 2)) = some (f x).2.2 ∧ wt x ≤ Rows.uptoBulk (D i) := by
      intro i hil
      obtain ⟨cs', h1, h2⟩ := hi i (by omega)
      rw [ce] at h1
      obtain ⟨_, _, hcell⟩ := World.cells?_some h1
      have hbd := bulk_mem (D := D) hil
      obtain ⟨x, hxs, hR, hw⟩ := hel n cs' _ h2 (by dsimp only; omega)
      have e0 := hcell 0 (by omega)
      have e1 := hcell 1 (by omega)
      have e2 := hcell 2 (by omega)
      rw [add_add, hxs] at e0 e1 e2
      exact ⟨x, hR, by simpa using e0, by simpa using e1, by simpa using e2, hw⟩
    rcases choose_ltP each with h0 | ⟨g, hg⟩
    · subst h0
      exact ⟨some a, 0, cap, [], hcs, Nat.zero_le _, hm, ⟨rfl, fun hn => absurd hn (Nat.lt_irrefl _)⟩, (fun r hr => by cases hr), by simp⟩
    refine ⟨some a, len, cap, (List.range len).map g, hcs, hl, hm, ⟨by rw [enc3_length]; simp, fun hn => ?_⟩, fun r hr => ?_, ?_⟩
    · have h0 := (hg 0 (by omega)).2.1
      rw [Nat.zero_mul] at h0
      obtain ⟨b, o, rfl⟩ := slice_addr h0
      refine ⟨b, o, rfl, ?_, fun j u hu => ?_⟩
      · have := World.block_lt_of_cell? W _ h0
        rw [add_plain] at this
        exact this
      · have hj := (List.getElem?_eq_some_iff.1 hu).1
        rw [enc3_length] at hj
        simp only [List.length_map, List.length_range] at hj
        have hk : j / 3 < len := by omega
        obtain ⟨_, c0, c1, c2, _⟩ := hg (j / 3) hk
        obtain ⟨g0, g1, g2⟩ := enc3_get (f := f) (l := (List.range len).map g) (i := j / 3) (x := g (j / 3)) (by simp [hk])
        rw [add_plain] at c0 c1 c2
        have hm2 : j % 3 = 0 ∨ j % 3 = 1 ∨ j % 3 = 2 := by omega
        rcases hm2 with hp | hp | hp
        · have hjj : j / 3 * 3 = j := by omega
          rw [hjj] at g0 c0
          rw [hu] at g0
          rw [c0, ← g0]
        · have hjj : j / 3 * 3 + 1 = j := by omega
          rw [hjj] at g1 c1
          rw [hu] at g1
          rw [c1, ← g1]
        · have hjj : j / 3 * 3 + 2 = j := by omega
          rw [hjj] at g2 c2
          rw [hu] at g2
          rw [c2, ← g2]
    · obtain ⟨i, hi', rfl⟩ := List.mem_map.1 hr
      exact (hg i (List.mem_range.1 hi')).1
    · have := sum_le (f := fun i => wt (g i)) (g := fun i => Rows.uptoBulk (D i)) len (fun i hi => (hg i hi).2.2.2.2)
      rw [bulk_range] at hy
      rw [List.map_map]
      exact Nat.le_trans this (by omega)
set_option maxRecDepth 100000 in
/-- A property, and itself counted. -/
theorem open_prop1 {cs : List Value} {y : DataW H × List MemPlace} (h : DataW.trod enc Tryz.prog W base spare held fuel 30 cs = some y) :
    ∃ nm L n c vl l, cs = [.string nm, .slice L n c, .string vl] ∧ n ≤ c ∧ c ≤ maxLen ∧ Reads W W.heap.size 2 L n (encP l) ∧ (∀ r ∈ l, POk W W.heap.size r) ∧ nm.size + psizes l + vl.size + 1 ≤ Rows.uptoBulk y.1 := by
  have c9 : Tryz.prog.cellsOf 9 = 1 := by kernel_rfl
  have cp : Tryz.prog.cellsOf 28 = 1 := by kernel_rfl
  have ce : Tryz.prog.cellsOf 30 = 3 := by kernel_rfl
  obtain ⟨xs, q, _, hxy, hcl, hxl, hf⟩ := DataW.trod_struct Tryz.underlying30 h
  rw [ce] at hcl
  match xs, hxl, cs, hcl with
  | [y0, y1, y2], _, [v0, v1, v2], _ =>
    have g0 := hf 0 _ rfl
    have g1 := hf 1 _ rfl
    have g2 := hf 2 _ rfl
    simp [c9, cp] at g0 g1 g2
    obtain ⟨x0, f0, hy0, _⟩ := DataW.trod_string Tryz.underlying9 g0
    obtain ⟨L, n, c, l, f1, hn, hc, hR, hP, hb⟩ := open_params g1
    obtain ⟨x2, f2, hy2, _⟩ := DataW.trod_string Tryz.underlying9 g2
    injection f0 with f0 _
    injection f2 with f2 _
    subst f0 f1 f2
    refine ⟨x0, L, n, c, x2, l, rfl, hn, hc, hR, hP, ?_⟩
    subst hxy
    have s0 : x0.size = x0.data.toList.length := Array.length_toList.symm
    have s2 : x2.size = x2.data.toList.length := Array.length_toList.symm
    have e0 : y0.1 = .lit (.string x0.data.toList) := (Prod.ext_iff.1 hy0).1
    have e2 : y2.1 = .lit (.string x2.data.toList) := (Prod.ext_iff.1 hy2).1
    simp only [List.map_cons, List.map_nil, Rows.uptoBulk, Rows.uptoBulkAll, e0, e2]
    omega
set_option maxRecDepth 100000 in
/-- A slice of properties. -/
theorem open_props {v : Value} {y : DataW H × List MemPlace} (h : DataW.trod enc Tryz.prog W base spare held fuel 22 [v] = some y) :
    ∃ L n c qs, v = .slice L n c ∧ n ≤ c ∧ c ≤ maxLen ∧ Reads W W.heap.size 3 L n (enc3 fQ qs) ∧ (∀ q ∈ qs, QOk W W.heap.size q) ∧ (qs.map fun q => q.name.size + psizes q.ps + q.vl.size + 1).sum ≤ Rows.uptoBulk y.1 :=
  open_slice3 fQ (QOk W W.heap.size) (fun q => q.name.size + psizes q.ps + q.vl.size + 1) Tryz.underlying22 (by kernel_rfl) (fun n cs' z hz _ => by
    obtain ⟨nm, L, n, c, vl, l, he, hn, hc, hR, hP, hb⟩ := open_prop1 hz
    exact ⟨⟨nm, L, n, c, vl, l⟩, he, ⟨hR, hP, hn, hc⟩, hb⟩) h
set_option maxRecDepth 100000 in
/-- A component. -/
theorem open_comp : ∀ (N : Nat) (fuel : Nat) (cs : List Value) (y : DataW H × List MemPlace), Rows.uptoBulk y.1 ≤ N → DataW.trod enc Tryz.prog W base spare held fuel 25 cs = some y →
    ∃ r : CR, cs = [(fC r).1, (fC r).2.1, (fC r).2.2] ∧ COk W W.heap.size r ∧ csize r ≤ Rows.uptoBulk y.1
  | 0, fuel, cs, y, hN, _ => absurd (bulk_pos y.1) (by omega)
  | N + 1, fuel, cs, y, hN, h => by
    have c9 : Tryz.prog.cellsOf 9 = 1 := by kernel_rfl
    have cp : Tryz.prog.cellsOf 22 = 1 := by kernel_rfl
    have cc : Tryz.prog.cellsOf 23 = 1 := by kernel_rfl
    have ce : Tryz.prog.cellsOf 25 = 3 := by kernel_rfl
    obtain ⟨xs, q, _, hxy, hcl, hxl, hf⟩ := DataW.trod_struct Tryz.underlying25 h
    rw [ce] at hcl
    match xs, hxl, cs, hcl with
    | [y0, y1, y2], _, [v0, v1, v2], _ =>
      have g0 := hf 0 _ rfl
      have g1 := hf 1 _ rfl
      have g2 := hf 2 _ rfl
      simp [c9, cp, cc] at g0 g1 g2
      have hbk : Rows.uptoBulk y.1 = Rows.uptoBulk y0.1 + (Rows.uptoBulk y1.1 + (Rows.uptoBulk y2.1 + 0)) + 1 := by
        subst hxy
        simp only [List.map_cons, List.map_nil, Rows.uptoBulk, Rows.uptoBulkAll]
      obtain ⟨x0, f0, hy0, _⟩ := DataW.trod_string Tryz.underlying9 g0
      obtain ⟨A, n, c, qs, f1, hn, hc, hR, hP, hb⟩ := open_props g1
      obtain ⟨K, k, kc, xs, f2, hk, hkc, hR2, hP2, hb2⟩ := open_slice3 fC (COk W W.heap.size) csize Tryz.underlying23 ce (fun n cs' z hz hlt => open_comp N n cs' z (by omega) hz) g2
      injection f0 with f0 _
      subst f0 f1 f2
      have s0 : x0.size = x0.data.toList.length := Array.length_toList.symm
      have e0 : y0.1 = .lit (.string x0.data.toList) := (Prod.ext_iff.1 hy0).1
      rw [e0] at hbk
      simp only [Rows.uptoBulk] at hbk
      refine ⟨.mk x0 A n c qs K k kc xs, rfl, .mk hR hP hn hc hR2 hP2 hk hkc, ?_⟩
      rw [csize, csizes_sum]
      unfold qsizes
      have e1 : (qs.map qsize).sum = (qs.map fun q => q.name.size + psizes q.ps + q.vl.size + 1).sum := rfl
      omega
set_option maxRecDepth 100000 in
/-- A component that is handed in. -/
theorem open_compV {r : Reach} {b0 : Nat} {v : Value} {d : DataW H} {p : List MemPlace} (hv : Value.okWide Tryz.prog W r b0 25 v) (h : DataW.Trod enc Tryz.prog W base spare held 25 v d p) :
    ∃ r : CR, v = .agg #[(fC r).1, (fC r).2.1, (fC r).2.2] ∧ COk W W.heap.size r ∧ csize r ≤ Rows.uptoBulk d := by
  obtain ⟨cs, rfl, _⟩ := okWide_struct Tryz.underlying25 hv
  obtain ⟨fu, hf⟩ := h
  obtain ⟨r, he, hC, hb⟩ := open_comp _ _ _ _ (Nat.le_refl _) (by simpa [Value.cells] using hf)
  refine ⟨r, ?_, hC, hb⟩
  congr 1
  rw [← Array.toList_inj]
  exact he
end

end Go.Proofs.YtlfhhnjdfpgadaaGreatDoor

/-
  Plain mathematics for layer 8 (text): letters, digits, percent coding, base 64, UTF-8, as functions on lists of bytes.
-/
namespace Go.Proofs.YtlfhhnjdfpgadaaGreatDoor
open Go.RowKit

theorem bsize (b : ByteArray) : b.size = b.data.toList.length := Array.length_toList.symm
theorem mk_toList (b : ByteArray) : (⟨b.data.toList.toArray⟩ : ByteArray) = b := by simp
theorem mk_inj {a b : List UInt8} (h : (⟨a.toArray⟩ : ByteArray) = ⟨b.toArray⟩) : a = b := by
  have := congrArg (fun x : ByteArray => x.data.toList) h
  simpa using this
theorem of_mk {s : ByteArray} {l : List UInt8} (h : s.data.toList = l) : s = ⟨l.toArray⟩ := by subst h; simp

/-- A small letter for a great one. -/
def lowN (n : Nat) : Nat := if 65 ≤ n ∧ n ≤ 90 then n + 32 else n
theorem lowN_lt {n : Nat} (h : n < 256) : lowN n < 256 := by unfold lowN; split <;> omega
def lowC (c : UInt8) : UInt8 := UInt8.ofNat (lowN c.toNat)
theorem lowC_nat (c : UInt8) : (lowC c).toNat = lowN c.toNat := by
  have := lowN_lt c.toNat_lt
  unfold lowC
  rw [UInt8.toNat_ofNat']; omega
theorem lowN_low (n : Nat) : lowN (lowN n) = lowN n := by unfold lowN; split <;> (try split) <;> omega
theorem lowC_low (c : UInt8) : lowC (lowC c) = lowC c := by
  apply UInt8.toNat_inj.1
  rw [lowC_nat, lowC_nat, lowN_low]
def lowL (l : List UInt8) : List UInt8 := l.map lowC
theorem lowL_low (l : List UInt8) : lowL (lowL l) = lowL l := by
  unfold lowL
  rw [List.map_map]
  exact List.map_congr_left fun c _ => lowC_low c
theorem lowL_append (a b : List UInt8) : lowL (a ++ b) = lowL a ++ lowL b := by simp [lowL]
theorem lowL_length (a : List UInt8) : (lowL a).length = a.length := by simp [lowL]

/-- One of 0 to 9. -/
def digN (n : Nat) : Bool := decide (48 ≤ n) && decide (n ≤ 57)
/-- A letter. -/
def letN (n : Nat) : Bool := (decide (97 ≤ n) && decide (n ≤ 122)) || (decide (65 ≤ n) && decide (n ≤ 90))
/-- What stands in a path as it is. -/
def keepN (n : Nat) : Bool := digN n || letN n || n == 45 || n == 46 || n == 95 || n == 126 || n == 47
/-- What a digit of base 16 means; below 0: it is none. -/
def hexN (n : Nat) : Int := if 48 ≤ n ∧ n ≤ 57 then (n : Int) - 48 else if 65 ≤ n ∧ n ≤ 70 then (n : Int) - 55 else if 97 ≤ n ∧ n ≤ 102 then (n : Int) - 87 else -1
/-- A digit of base 16, as its letter. -/
def hexL (n : Nat) : Nat := if n < 10 then n + 48 else n + 55

/-- Percent coding. -/
def pct : List UInt8 → List UInt8
  | [] => []
  | c :: l => (if keepN c.toNat then [c] else [37, UInt8.ofNat (hexL (c.toNat / 16)), UInt8.ofNat (hexL (c.toNat % 16))]) ++ pct l
theorem pct_length (l : List UInt8) : (pct l).length ≤ 3 * l.length := by
  induction l with
  | nil => simp [pct]
  | cons c l ih =>
    simp only [pct, List.length_append, List.length_cons]
    split <;> simp <;> omega
theorem pct_append (a b : List UInt8) : pct (a ++ b) = pct a ++ pct b := by
  induction a with
  | nil => simp [pct]
  | cons c a ih => simp only [List.cons_append, pct, ih, List.append_assoc]
/-- Taken back: what has come, and what is left; none: a % that no two digits follow. -/
def unp : List UInt8 → Option (List UInt8)
  | [] => some []
  | c :: l => if c.toNat = 37 then
      match l with
      | x :: y :: r => if hexN x.toNat < 0 ∨ hexN y.toNat < 0 then none else (unp r).map (UInt8.ofNat (hexN x.toNat * 16 + hexN y.toNat).toNat :: ·)
      | _ => none
    else (unp l).map (c :: ·)
theorem unp_other {c : UInt8} (hc : c.toNat ≠ 37) (l : List UInt8) : unp (c :: l) = (unp l).map (c :: ·) := by
  rw [unp.eq_def]
  dsimp only
  rw [if_neg hc]
theorem unp_short {c : UInt8} (hc : c.toNat = 37) (l : List UInt8) (hl : l.length < 2) : unp (c :: l) = none := by
  rw [unp.eq_def]
  dsimp only
  rw [if_pos hc]
  match l, hl with
  | [], _ => rfl
  | [x], _ => rfl
theorem unp_bad {c x y : UInt8} (hc : c.toNat = 37) (r : List UInt8) (h : hexN x.toNat < 0 ∨ hexN y.toNat < 0) : unp (c :: x :: y :: r) = none := by
  rw [unp.eq_def]
  dsimp only
  rw [if_pos hc, if_pos h]
theorem unp_hex {c x y : UInt8} (hc : c.toNat = 37) (r : List UInt8) (h : ¬ (hexN x.toNat < 0 ∨ hexN y.toNat < 0)) : unp (c :: x :: y :: r) = (unp r).map (UInt8.ofNat (hexN x.toNat * 16 + hexN y.toNat).toNat :: ·) := by
  rw [unp.eq_def]
  dsimp only
  rw [if_pos hc, if_neg h]
theorem unp_length (n : Nat) : ∀ (l r : List UInt8), l.length ≤ n → unp l = some r → r.length ≤ l.length := by
  induction n with
  | zero => intro l r hl h; cases l with
    | nil => simp [unp] at h; subst h; simp
    | cons c l => simp at hl
  | succ n ih =>
    intro l r hl h
    cases l with
    | nil => simp [unp] at h; subst h; simp
    | cons c l =>
      simp only [List.length_cons] at hl
      by_cases hc : c.toNat = 37
      · match l, hl, h with
        | [], _, h => rw [unp_short hc _ (by simp)] at h; cases h
        | [x], _, h => rw [unp_short hc _ (by simp)] at h; cases h
        | x :: y :: l, hl, h =>
          by_cases hx : hexN x.toNat < 0 ∨ hexN y.toNat < 0
          · rw [unp_bad hc _ hx] at h; cases h
          · rw [unp_hex hc _ hx, Option.map_eq_some_iff] at h
            obtain ⟨q, hq, rfl⟩ := h
            simp only [List.length_cons] at hl
            have := ih l q (by omega) hq
            simp; omega
      · rw [unp_other hc, Option.map_eq_some_iff] at h
        obtain ⟨q, hq, rfl⟩ := h
        have := ih l q (by omega) hq
        simp; omega

/-- A number of decimal digits; none: another byte. -/
def numL : List UInt8 → Nat → Option Nat
  | [], n => some n
  | c :: l, n => if digN c.toNat then numL l (n * 10 + (c.toNat - 48)) else none
def numV (l : List UInt8) (most : Int) : Int × Bool :=
  if l = [] ∨ 18 < l.length then (0, false) else
  match numL l 0 with
  | some n => if most < n then (0, false) else (n, true)
  | none => (0, false)

end Go.Proofs.YtlfhhnjdfpgadaaGreatDoor

/-
  Rows of bytes of the call's own, made from a text or by append, as texts again; what lies below stays.
-/
namespace Go.Proofs.YtlfhhnjdfpgadaaGreatDoor
open Go.RowKit

theorem infoU8 : (Tryz.prog.info? 5).map (fun i => (i.zero, i.size, i.bytes)) = some (some (.int .u8 0), 1, 1) := by kernel_rfl
def u8s (l : List UInt8) : List Value := l.map fun c => .int .u8 (c.toNat : Int)
theorem u8s_app (a b : List UInt8) : u8s (a ++ b) = u8s a ++ u8s b := by simp [u8s]
theorem u8s_length (a : List UInt8) : (u8s a).length = a.length := by simp [u8s]

theorem own_string {P : Program} {w : World} {base st et dt n : Nat} {v : Value} {l : List UInt8} (hs : P.underlying st = some (.slice et)) (he : P.underlying et = some (.int .u8)) (hd : P.underlying dt = some .string)
    (hown : w.ownsRow base et 1 v n (u8s l)) : (convert st dt v).run P w = .ok (.string ⟨l.toArray⟩) w := by
  have hlen : l.length = n := by have := hown.1; simpa [u8s] using this
  subst hlen
  rcases hown.2 with ⟨rfl, h0⟩ | ⟨g, cap, cur, rfl, hb, hg, _⟩
  · obtain rfl : l = [] := List.eq_nil_of_length_eq_zero h0
    exact run_convert_bytes_nil w st et hs he 0 0 dt hd
  · refine run_convert_bytes_back w st dt et ⟨g, 0, none⟩ cap l hs he hd fun j hj => ?_
    exact hown.cells (g := g) rfl j _ (by simp [u8s, hj])

theorem below_append {w wr w1 : World} {n0 e size k : Nat} {v : Value} {xs : List Value} {tmp : Obj} (hb : Below n0 w wr) (hn : n0 ≤ wr.heap.size) (hrow : wr.ownsRow n0 e size v k xs) (hgrow : (wr.alloc tmp).grownBy w1 v.ownBlock) : Below n0 w w1 := by
  refine hb.trans (((Below.refl n0 wr).alloc hn tmp).grown hgrow (by simp; omega) fun j ej => ?_)
  rcases hrow.2 with ⟨rfl, _⟩ | ⟨g, cap, cur, rfl, hb, _, _⟩
  · simp [Value.ownBlock] at ej
  · obtain rfl : g = j := by simpa [Value.ownBlock] using ej
    exact hb

theorem below_appendD {w wr w1 : World} {n0 e size k : Nat} {v : Value} {xs : List Value} {tmp : Obj} (hb : Below n0 w wr) (hn : n0 ≤ wr.heap.size) (hrow : wr.ownsRow n0 e size v k xs) (hgrow : (wr.alloc tmp).drew.grownBy w1 v.ownBlock) : Below n0 w w1 := by
  refine hb.trans ((((Below.refl n0 wr).alloc hn tmp).drew).grown hgrow (by simp; omega) fun j ej => ?_)
  rcases hrow.2 with ⟨rfl, _⟩ | ⟨g, cap, cur, rfl, hb, _, _⟩
  · simp [Value.ownBlock] at ej
  · obtain rfl : g = j := by simpa [Value.ownBlock] using ej
    exact hb
theorem oper_append {P : Program} {o : Oper} {a : Act} {w : World} {K : Act → World → Prop} {Q : Exit → Act → World → Prop} (s x : Operand) (t : TypeId)
    (ho : o.op = .call { callee := .builtin .append, args := #[s, x], argTypes := #[t, t] })
    {base : Nat} {e : TypeId} {i : TypeInfo} (ht : P.underlying t = some (.slice e)) (hi : P.info? e = some i) (hz : i.zero = some (.int .u8 0)) (hsize : i.size = 1) (hby : i.bytes = 1)
    {v : Value} {l : List UInt8} (hs : a.eval s = v) (hown : w.ownsRow base e 1 v l.length (u8s l)) {g c : Nat} (m : List UInt8) (hx : a.eval x = .slice (some ⟨g, 0, none⟩) m.length c)
    (hnews : ∀ j u, (u8s m)[j]? = some u → w.cell? ((⟨g, 0, none⟩ : Addr).add j) = some u) (hroom : l.length + m.length ≤ 1099511627776) (hbase : base ≤ w.heap.size)
    (h : ∀ v' w', w'.ownsRow base e 1 v' (l ++ m).length (u8s (l ++ m)) → w.grownBy w' v.ownBlock → K (a.put o.dst v') w') : Oper.wp P o a w K Q := by
  obtain ⟨v', w', hr, h2, h3, h4⟩ := run_append_own (P := P) w base t o.type e i (.int .u8 0) 1 1 ht hi hz hsize hby rfl (by decide) v l.length (u8s l) hown ⟨g, 0, none⟩ m.length c (u8s m) (by rw [u8s_length]; omega) hnews
    (fun u hu => by
      unfold u8s at hu
      obtain ⟨c, _, rfl⟩ := List.mem_map.1 hu
      rfl) (by unfold maxLen; omega) (by omega) hbase
  unfold Oper.wp execOp
  simp only [ho, resolve, invoke, builtin, Sem.run_bind, Sem.run_pure, Result.andThen_ok, List.map_toArray, List.map_cons, List.map_nil, hs, hx, hr]
  exact h v' w' (by rw [u8s_app, List.length_append]; exact h2) h3
theorem cells_new (w : World) (m : List UInt8) (t : TypeId) (vs : Array Value) (h : vs = (u8s m).toArray) : ∀ j u, (u8s m)[j]? = some u → (w.alloc (.cells vs t)).cell? ((⟨w.heap.size, 0, none⟩ : Addr).add j) = some u := by
  intro j u hu
  subst h
  have hh := heap_alloc_new w (.cells (u8s m).toArray t)
  have e : ((⟨w.heap.size, 0, none⟩ : Addr).add j) = ⟨w.heap.size, j, none⟩ := by
    unfold Addr.add
    by_cases hj : j = 0
    · subst hj; rfl
    · simp [hj]
  rw [e]
  simp only [World.cell?, hh]
  simpa using hu

structure Byt (w : World) (g : Nat) (l : List UInt8) : Prop where
  blk : ∃ cur e lo hi, w.heap[g]? = some (.cells cur e (lo, hi)) ∧ (l.length ≤ lo ∨ hi = 0) ∧ l.length ≤ cur.size ∧ ∀ j, j < l.length → cur[j]? = some (.int .u8 ((l.getD j 0).toNat : Int))
section
variable {w w' : World} {g : Nat} {l : List UInt8}
theorem Byt.lt (h : Byt w g l) : g < w.heap.size := by
  obtain ⟨_, _, _, _, h, _⟩ := h.blk
  exact (Array.getElem?_eq_some_iff.1 h).1
theorem Byt.cell (h : Byt w g l) (j : Nat) (hj : j < l.length) : w.cell? ⟨g, j, none⟩ = some (.int .u8 ((l.getD j 0).toNat : Int)) := by
  obtain ⟨cur, e, lo, hi, h, _, _, hc⟩ := h.blk
  simp [World.cell?, h, hc j hj]
theorem Byt.free (h : Byt w g l) (j : Nat) (hj : j < l.length) : w.frozen? ⟨g, j, none⟩ = false := by
  obtain ⟨cur, e, lo, hi, h, hz, _, _⟩ := h.blk
  simp [World.frozen?, h]
  omega
theorem Byt.of_text (w : World) (e : TypeId) (m : ByteArray) (c : Nat) : Byt (w.drew.alloc (.cells (bytesRow m c) e ((bytesRow m c).size, (bytesRow m c).size + 1))) w.heap.size m.data.toList := by
  have hs : m.data.toList.length ≤ (bytesRow m c).size := by simp [bytesRow]
  refine ⟨bytesRow m c, e, _, _, heap_alloc_new w.drew _, .inl hs, hs, fun j hj => ?_⟩
  have hj' : j < m.data.size := by simpa using hj
  unfold bytesRow
  rw [Array.getElem?_append_left (by simpa using hj')]
  simp [Array.getElem?_eq_getElem hj', List.getD_eq_getElem?_getD]
theorem Byt.of_text_below (w : World) (e : TypeId) (m : ByteArray) (c : Nat) : Below w.heap.size w (w.drew.alloc (.cells (bytesRow m c) e ((bytesRow m c).size, (bytesRow m c).size + 1))) := ((Below.refl _ w).drew).alloc (Nat.le_refl _) _
theorem Byt.set (h : Byt w g l) (k : Nat) (x : UInt8) : Byt (w.setCell ⟨g, k, none⟩ (.int .u8 (x.toNat : Int))) g (l.set k x) := by
  obtain ⟨cur, e, lo, hi, h, hz, hs, hc⟩ := h.blk
  refine ⟨cur.setIfInBounds k (.int .u8 (x.toNat : Int)), e, lo, hi, ?_, by simpa using hz, by simpa using hs, fun j hj => ?_⟩
  · simp [World.setCell, Array.getElem?_modify, h]
  · have hj : j < l.length := by simpa using hj
    rw [Array.getElem?_setIfInBounds, List.getD_eq_getElem?_getD, List.getElem?_set]
    by_cases hk : k = j
    · subst hk
      rw [if_pos rfl, if_pos (by omega), if_pos rfl, if_pos hj]; rfl
    · rw [if_neg hk, if_neg hk, hc j hj, List.getD_eq_getElem?_getD]
theorem toNums (l : List UInt8) : strOfNums (l.map fun x => (x.toNat : Int)) = ⟨l.toArray⟩ := by
  unfold strOfNums
  rw [List.map_map]
  congr 2
  conv => rhs; rw [← List.map_id l]
  refine List.map_congr_left fun x _ => ?_
  simp
theorem Byt.conv {P : Program} {src e dst : TypeId} (hs : P.underlying src = some (.slice e)) (he : P.underlying e = some (.int .u8)) (hd : P.underlying dst = some .string) (h : Byt w g l) (c n : Nat) (hn : l.length = n) :
    (convert src dst (.slice (some ⟨g, 0, none⟩) n c)).run P w = .ok (.string ⟨l.toArray⟩) w := by
  have := run_convert_bytes_arg (P := P) w src e hs he g 0 n c (l.map fun x => (x.toNat : Int)) (by simpa using hn) (fun i hi => by
    rw [Nat.zero_add, h.cell i (by omega)]
    simp [show i < l.length by omega]) dst hd
  rw [toNums] at this
  exact this
end

end Go.Proofs.YtlfhhnjdfpgadaaGreatDoor
