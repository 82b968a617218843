/-
  The document's own answers of layer 10: a time as a stamp, and as HTTP writes it.
-/
import Derived.Test.YtnidkcedomhofaaGreatDoorG10
import Derived.Lib.Hide
import Derived.Lib.LaidTab
import Derived.Test.YtnidkcedomhofaaGreatDoorG09
import Derived.Test.YtnidkcedomhofaaGreatDoorG07
import Derived.Test.YtnidkcedomhofaaGreatDoorG08
import Derived.Test.YtnidkcedomhofaaGreatDoorG04
import Derived.Deep.MidRow
import Derived.RangeFuncNested
import Derived.RangeFuncBound
import Derived.RangeFuncCalls
import Derived.RangeFuncLeaves
import Derived.RangeFuncBox
import Derived.Shelf.Abstract
import Derived.Shelf.RegionOpen
import Derived.OwnWalkIn
import Derived.TacticsInMore
import Derived.RegionIn
import Derived.LoopNIn
import Derived.LoopIn
import Derived.Maps.AppendAt
import Derived.Lib.IndexAny
namespace Go.Proofs.YtnidkcedomhofaaGreatDoor
open Go.RowKit

theorem clk_parts {t : Int} (s : Nat) (hs : t % 86400 = s) : s < 86400 := by omega
set_option maxRecDepth 100000 in
set_option maxHeartbeats 2000000 in
theorem refStamp_any (t : Int) (ht : -9223372036854775808 ≤ t ∧ t < 9223372036854775808) (w : World) :
    Calls Tryz.prog 70 #[.int .i64 t] w fun e w' => e = .returned (.string ⟨(stampT t).toArray⟩) ∧ Below w.heap.size w w' := by
  have ci := fun W => refIn_any t W
  have cp := fun W => refParts_any t ht W
  cases hin : inD t
  · rw [hin] at ci
    have e : Hid (stampT t = []) := Lib.hid (by unfold stampT; rw [hin]; rfl)
    clear hin ht cp
    go_enter Tryz.func70, Tryz.ntmps70
    go_wp2_with (go_at_call 68; ((with_reducible refine (ci _).mono ?_); rintro e w' ⟨rfl, hw⟩; subst w'))
    go_ret
    exact ⟨by rw [e.out]; rfl, Below.refl _ _⟩
  · rw [hin] at ci
    have hd := inD_day hin
    obtain ⟨s, hs⟩ : ∃ s : Nat, t % 86400 = s := ⟨(t % 86400).toNat, by omega⟩
    have hs2 := clk_parts s hs
    have cd := fun W => refDay_any (t / 86400) (by omega) W
    have e : Hid (stampT t = dayT (t / 86400) ++ [84] ++ clkT [] s) := Lib.hid (by unfold stampT; rw [hin, hs]; rfl)
    have sd : (⟨(dayT (t / 86400)).toArray⟩ : ByteArray).size = 8 := by rw [mk_size, dayT_length hd]
    rw [hs] at cp
    clear hd hs hin
    generalize dayT (t / 86400) = dl at *
    generalize t / 86400 = q at *
    have c1 := pad2_any (s / 3600) (by omega)
    have c2 := pad2_any (s / 60 % 60) (by omega)
    have c3 := pad2_any (s % 60) (by omega)
    have m1 : Int.tdiv (s : Int) 3600 = ((s / 3600 : Nat) : Int) := by rw [tdiv_pos (by omega)]; omega
    have m2 : Int.tdiv (s : Int) 60 = ((s / 60 : Nat) : Int) := by rw [tdiv_pos (by omega)]; omega
    have m3 : Int.tmod ((s / 60 : Nat) : Int) 60 = ((s / 60 % 60 : Nat) : Int) := by rw [tmod_pos (by omega)]; omega
    have m4 : Int.tmod (s : Int) 60 = ((s % 60 : Nat) : Int) := by rw [tmod_pos (by omega)]; omega
    have HE := Lib.hid (show (⟨dl.toArray⟩ : ByteArray) ++ ⟨#[84]⟩ ++ ⟨(padT 2 (s / 3600)).toArray⟩ ++ ⟨(padT 2 (s / 60 % 60)).toArray⟩ ++ ⟨(padT 2 (s % 60)).toArray⟩ = ⟨(stampT t).toArray⟩ by
      rw [show (⟨#[84]⟩ : ByteArray) = ⟨([84] : List UInt8).toArray⟩ from rfl, mk_app, mk_app, mk_app, mk_app, e.out]
      unfold clkT
      simp only [List.append_nil, List.append_assoc])
    have s1 : (⟨(padT 2 (s / 3600)).toArray⟩ : ByteArray).size = 2 := by rw [mk_size, padT_length]
    have s2 : (⟨(padT 2 (s / 60 % 60)).toArray⟩ : ByteArray).size = 2 := by rw [mk_size, padT_length]
    have s3 : (⟨(padT 2 (s % 60)).toArray⟩ : ByteArray).size = 2 := by rw [mk_size, padT_length]
    generalize (⟨(padT 2 (s / 3600)).toArray⟩ : ByteArray) = a at *
    generalize (⟨(padT 2 (s / 60 % 60)).toArray⟩ : ByteArray) = b at *
    generalize (⟨(padT 2 (s % 60)).toArray⟩ : ByteArray) = c at *
    generalize (⟨dl.toArray⟩ : ByteArray) = d at *
    have no0 : ¬ 9223372036854775807 < d.size + (⟨#[84]⟩ : ByteArray).size := by rw [sd]; decide
    have no1 : ¬ 9223372036854775807 < (d ++ (⟨#[84]⟩ : ByteArray)).size + a.size := by rw [ByteArray.size_append, sd, s1]; decide
    have no2 : ¬ 9223372036854775807 < (d ++ (⟨#[84]⟩ : ByteArray) ++ a).size + b.size := by rw [ByteArray.size_append, ByteArray.size_append, sd, s1, s2]; decide
    have no3 : ¬ 9223372036854775807 < (d ++ (⟨#[84]⟩ : ByteArray) ++ a ++ b).size + c.size := by rw [ByteArray.size_append, ByteArray.size_append, ByteArray.size_append, sd, s1, s2, s3]; decide
    have k1 : s / 3600 < 86400 := by omega
    have k2 : s / 60 < 86400 := by omega
    have k3 : s / 60 % 60 < 60 := by omega
    have k4 : s % 60 < 60 := by omega
    generalize s / 3600 = x1 at *
    generalize s / 60 % 60 = x3 at *
    generalize s / 60 = x2 at *
    generalize s % 60 = x4 at *
    go_enter Tryz.func70, Tryz.ntmps70
    go_wp2_with (first
      | (go_at_call 68; ((with_reducible refine (ci _).mono ?_); rintro e w' ⟨rfl, hw⟩; subst w'))
      | (go_at_call 67; ((with_reducible refine (cp _).mono ?_); rintro e w' ⟨rfl, hw⟩; subst w'))
      | (go_at_call 69; ((with_reducible refine (cd _).mono ?_); rintro e w0 ⟨rfl, hb0⟩))
      | (go_at_call 104; ((with_reducible refine (c1 _).mono ?_); rintro e w1 ⟨rfl, hb1⟩))
      | (go_at_call 104; ((with_reducible refine (c2 _).mono ?_); rintro e w2 ⟨rfl, hb2⟩))
      | (go_at_call 104; ((with_reducible refine (c3 _).mono ?_); rintro e w3 ⟨rfl, hb3⟩)))
    go_ret
    exact ⟨by rw [← HE.out]; rfl, bstep (bstep (bstep hb0 hb1) hb2) hb3⟩

end Go.Proofs.YtnidkcedomhofaaGreatDoor

/-
  What the program's listed variables hold: the lengths of the months, the names of months and of days of the week, and the library's powers of ten.
-/
namespace Go.Proofs.YtnidkcedomhofaaGreatDoor
open Go.RowKit

/-- A variable's cells. -/
def CellsAt (w : World) (g : Nat) (vs : List Value) : Prop := ∀ i v, vs[i]? = some v → w.cell? ⟨g, i, none⟩ = some v
theorem cell_in {w : World} {a : Addr} {v : Value} (h : w.cell? a = some v) : a.block < w.heap.size := by
  unfold World.cell? at h
  by_cases hb : a.block < w.heap.size
  · exact hb
  · rw [Array.getElem?_eq_none (by simpa using hb)] at h
    cases h
theorem CellsAt.step {w w' : World} {g : Nat} {vs : List Value} (h : CellsAt w g vs) (hb : Below w.heap.size w w') : CellsAt w' g vs := fun i v hv =>
  (hb.cell (p := ⟨g, i, none⟩) (cell_in (h i v hv))).trans (h i v hv)
def lensV : List Value := [.int .i64 31, .int .i64 28, .int .i64 31, .int .i64 30, .int .i64 31, .int .i64 30, .int .i64 31, .int .i64 31, .int .i64 30, .int .i64 31, .int .i64 30, .int .i64 31]
/-- The listed variables as their initialisers lay them. -/
structure DV (w : World) : Prop where
  len : CellsAt w 6 lensV
  tab : Lib.TabIs Tryz.prog w "internal/strconv.uint64pow10" .u64 Lib.pow10Tab
theorem tab_step {n : String} {k : IntKind} {zs : List Int} {w w' : World} (h : Lib.TabIs Tryz.prog w n k zs) (hb : Below w.heap.size w w') : Lib.TabIs Tryz.prog w' n k zs := by
  unfold Lib.TabIs World.var? at *
  cases hg : Tryz.prog.globalNamed n with
  | none => simp [hg] at h
  | some g =>
    simp only [hg, Option.bind_some] at h ⊢
    have hlt : g < w.heap.size := by
      rcases Nat.lt_or_ge g w.heap.size with h' | h'
      · exact h'
      · rw [Array.getElem?_eq_none h'] at h; simp at h
    rw [hb.block g hlt]
    exact h
theorem DV.step {w w' : World} (h : DV w) (hb : Below w.heap.size w w') : DV w' := ⟨h.len.step hb, tab_step h.tab hb⟩
theorem DV.drew {w : World} (h : DV w) : DV w.drew := h.step (Below.refl _ _).drew
theorem DV.drewN {w : World} (h : DV w) (n : Nat) : DV (w.drewN n) := h.step ⟨rfl, rfl, rfl, Nat.le_refl _, fun _ _ => rfl⟩

end Go.Proofs.YtnidkcedomhofaaGreatDoor

/-
  The program's own functions of layer 13: a duration's parts by their letters.
-/
namespace Go.Proofs.YtnidkcedomhofaaGreatDoor
open Go.RowKit

/-- What the listed variables hold: the names of how often, the days' names. -/
def freqsV : List Value := [.string ⟨#[]⟩, .string ⟨#[68, 65, 73, 76, 89]⟩, .string ⟨#[87, 69, 69, 75, 76, 89]⟩, .string ⟨#[77, 79, 78, 84, 72, 76, 89]⟩, .string ⟨#[89, 69, 65, 82, 76, 89]⟩]
def wdaysV : List Value := [.string ⟨#[77, 79]⟩, .string ⟨#[84, 85]⟩, .string ⟨#[87, 69]⟩, .string ⟨#[84, 72]⟩, .string ⟨#[70, 82]⟩, .string ⟨#[83, 65]⟩, .string ⟨#[83, 85]⟩]
structure VV (w : World) : Prop where
  dv : DV w
  frq : CellsAt w 0 freqsV
  wds : CellsAt w 1 wdaysV
  mx : ∃ m, w.cell? ⟨4, 0, none⟩ = some (.int .i64 m)
theorem VV.step {w w' : World} (h : VV w) (hb : Below w.heap.size w w') : VV w' := ⟨h.dv.step hb, h.frq.step hb, h.wds.step hb, h.mx.imp fun _m hm => (hb.cell (p := ⟨4, 0, none⟩) (cell_in hm)).trans hm⟩

theorem VV.drew {w : World} (h : VV w) : VV w.drew := h.step (Below.refl _ _).drew
def letK (k : Nat) : UInt8 := [80, 87, 68, 84, 72, 77, 83].getD k 0
/-- A known letter, or 0. -/
def let0 (c : UInt8) : UInt8 := if c = 80 ∨ c = 87 ∨ c = 68 ∨ c = 84 ∨ c = 72 ∨ c = 77 ∨ c = 83 then c else 0
def behB (c : UInt8) : ByteArray := ⟨(behP c).toArray⟩
/-- A part as the program has it. -/
def partV (c : UInt8) : Value := .agg #[.int .u8 ((let0 c).toNat : Int), .string (behB c), .int .i64 (unitP c)]
section
variable {w w' : World} {g a : Nat} {b : ByteArray} {s : Int}
end
theorem heap_put {w : World} {g k : Nat} {C : Array Value} {T : TypeId} {v : Value} (h : w.heap[g]? = some (.cells C T (0, 0))) (_hk : k < C.size) : (w.setCell ⟨g, k, none⟩ v).heap[g]? = some (.cells (C.setIfInBounds k v) T (0, 0)) := by
  have hlt : g < w.heap.size := by
    rcases Nat.lt_or_ge g w.heap.size with hlt | hge
    · exact hlt
    · rw [Array.getElem?_eq_none hge] at h; cases h
  have h' : w.heap[g] = .cells C T (0, 0) := by rw [Array.getElem?_eq_getElem hlt] at h; exact Option.some.inj h
  simp [World.setCell, hlt, Array.getElem_modify, h']
/-- A record of three cells is stored. -/
def put3 (w : World) (g : Nat) (v0 v1 v2 : Value) : World := ((w.setCell ⟨g, 0, none⟩ v0).setCell ⟨g, 1, none⟩ v1).setCell ⟨g, 2, none⟩ v2
theorem heap_put3 {w : World} {g : Nat} {o0 o1 o2 v0 v1 v2 : Value} {T : TypeId} (h : w.heap[g]? = some (.cells #[o0, o1, o2] T (0, 0))) : (put3 w g v0 v1 v2).heap[g]? = some (.cells #[v0, v1, v2] T (0, 0)) := by
  unfold put3
  have h1 := heap_put (k := 0) (v := v0) h (by simp)
  have h2 := heap_put (k := 1) (v := v1) h1 (by simp)
  have h3 := heap_put (k := 2) (v := v2) h2 (by simp)
  simpa using h3
theorem below_put3 {B : Nat} {w : World} {g : Nat} (hg : B ≤ g) (v0 v1 v2 : Value) : Below B w (put3 w g v0 v1 v2) :=
  (((Below.refl B w).setCell (p := ⟨g, 0, none⟩) hg v0).setCell (p := ⟨g, 1, none⟩) hg v1).setCell (p := ⟨g, 2, none⟩) hg v2
theorem put3_other {w : World} {g k : Nat} (hk : k ≠ g) (v0 v1 v2 : Value) : (put3 w g v0 v1 v2).heap[k]? = w.heap[k]? := by
  unfold put3
  rw [Below.heap_setCell _ ⟨g, 2, none⟩ _ _ hk, Below.heap_setCell _ ⟨g, 1, none⟩ _ _ hk, Below.heap_setCell _ ⟨g, 0, none⟩ _ _ hk]
theorem put3_size (w : World) (g : Nat) (v0 v1 v2 : Value) : (put3 w g v0 v1 v2).heap.size = w.heap.size := by simp [put3]
/-- A result that lies in a variable of three cells. -/
theorem results_cell {P : Program} {fn : Func} {t : Tmp} {T : TypeId} (h : fn.results = #[.cell t T]) (tmps : Array Value) {w : World} {a : Addr} {v : Value} (ht : tmps.getD t undef = .pointer (some a)) (hv : (Go.loadVar T a).run P w = .ok v w) :
    (results fn tmps).run P w = .ok v w := by
  have ht2 : tmps[t]?.getD undef = .pointer (some a) := by rw [← Array.getD_eq_getD_getElem?]; exact ht
  simp [results, h, ht2, asAddr, hv]
theorem results_cell2 {P : Program} {fn : Func} {t u : Tmp} {T : TypeId} (h : fn.results = #[.cell t T, .tmp u]) (tmps : Array Value) {w : World} {a : Addr} {v v2 : Value} (ht : tmps.getD t undef = .pointer (some a)) (hu : tmps.getD u undef = v2) (hv : (Go.loadVar T a).run P w = .ok v w) :
    (results fn tmps).run P w = .ok (.tuple #[v, v2]) w := by
  subst hu
  have ht2 : tmps[t]?.getD undef = .pointer (some a) := by rw [← Array.getD_eq_getD_getElem?]; exact ht
  simp [results, h, ht2, asAddr, hv]
theorem part_none {c : UInt8} (h : ∀ j, j < 7 → letK j ≠ c) : let0 c = 0 ∧ behB c = ⟨#[]⟩ ∧ unitP c = 0 := by
  have h0 := h 0 (by omega)
  have h1 := h 1 (by omega)
  have h2 := h 2 (by omega)
  have h3 := h 3 (by omega)
  have h4 := h 4 (by omega)
  have h5 := h 5 (by omega)
  have h6 := h 6 (by omega)
  simp only [letK, List.getD_cons_zero, List.getD_cons_succ, ne_eq] at h0 h1 h2 h3 h4 h5 h6
  unfold let0 behB behP unitP
  have e0 : ¬ c = 80 := fun e => h0 e.symm
  have e1 : ¬ c = 87 := fun e => h1 e.symm
  have e2 : ¬ c = 68 := fun e => h2 e.symm
  have e3 : ¬ c = 84 := fun e => h3 e.symm
  have e4 : ¬ c = 72 := fun e => h4 e.symm
  have e5 : ¬ c = 77 := fun e => h5 e.symm
  have e6 : ¬ c = 83 := fun e => h6 e.symm
  simp [e0, e1, e2, e3, e4, e5, e6]
theorem let0_letK {k : Nat} (hk : k < 7) : let0 (letK k) = letK k := by
  have : k = 0 ∨ k = 1 ∨ k = 2 ∨ k = 3 ∨ k = 4 ∨ k = 5 ∨ k = 6 := by omega
  rcases this with rfl | rfl | rfl | rfl | rfl | rfl | rfl <;> rfl

end Go.Proofs.YtnidkcedomhofaaGreatDoor

/-
  The program's iterator over a duration's parts.
-/
namespace Go.Proofs.YtnidkcedomhofaaGreatDoor
open Go.RowKit Go.Shelf
attribute [local go_sem] Oper.semAt_some

/-- What is handed out: a letter and the digits ahead of it. -/
abbrev Part := { x : UInt8 × ByteArray // x.2.size ≤ 1048576 }
abbrev encsU (x : Part) : Array Value := #[.int .u8 (x.1.1.toNat : Int), .string x.1.2]
def prt (x : Part) : UInt8 × List UInt8 := (x.1.1, x.1.2.data.toList)
theorem listB (s : ByteArray) : s.data.toList.length = s.size := (bsize s).symm
theorem getB {s : ByteArray} {k : Nat} (h : k < s.size) : s.data.toList[k]? = some s[k] := by
  have h' : k < s.data.size := h
  rw [Array.getElem?_toList, Array.getElem?_eq_getElem h']
  rfl
theorem dropB {s : ByteArray} {k : Nat} (h : k < s.size) : s.data.toList.drop k = s[k] :: s.data.toList.drop (k + 1) := by
  have hl : k < s.data.toList.length := by rw [listB]; exact h
  rw [List.drop_eq_getElem_cons hl]
  first | rfl | (congr 1; exact Option.some.inj ((List.getElem?_eq_getElem hl).symm.trans (getB h)))
theorem takeB {s : ByteArray} {f k : Nat} (hf : f ≤ k) (h : k < s.size) : (s.data.toList.drop f).take (k + 1 - f) = (s.data.toList.drop f).take (k - f) ++ [s[k]] := by
  rw [show k + 1 - f = (k - f) + 1 by omega, List.take_add_one, List.getElem?_drop, show f + (k - f) = k by omega, getB h]
  first | done | rfl
theorem pieceB (s : ByteArray) (a b : Nat) : (s.extract a b).data.toList = (s.data.toList.drop a).take (b - a) := by
  rw [ByteArray.data_extract, Array.toList_extract, List.extract_eq_take_drop]
theorem pieceB_size (s : ByteArray) (a b : Nat) : (s.extract a b).size ≤ s.size := by
  rw [← listB, pieceB, List.length_take, List.length_drop, listB]; omega
theorem dig_index (c : UInt8) : (0 ≤ Lib.indexByte [48, 49, 50, 51, 52, 53, 54, 55, 56, 57] c) ↔ digN c.toNat = true := by
  have h : ∀ n : Fin 256, (0 ≤ Lib.indexByte [48, 49, 50, 51, 52, 53, 54, 55, 56, 57] (UInt8.ofNat n.val)) ↔ digN (UInt8.ofNat n.val).toNat = true := by decide +kernel
  have := h ⟨c.toNat, c.toNat_lt⟩
  simpa only [UInt8.ofNat_toNat] using this
/-- What a round keeps: what lay below n₀, and the box of the text. -/
structure KpV (n₀ By : Nat) (A B : World) : Prop where
  below : Below n₀ A B
  box : B.heap[By]? = A.heap[By]?
theorem KpV.trans {n₀ By : Nat} {A B C : World} (h : KpV n₀ By A B) (k : KpV n₀ By B C) : KpV n₀ By A C := ⟨h.below.trans k.below, k.box.trans h.box⟩
theorem belowV_put {n₀ z l : Nat} (hn : n₀ ≤ z) (hl : z ≤ l) (W : World) (o o' : Obj) (ho : W.heap[l]? = some o) (_hc : o.isCells = false) : Below n₀ W (W.putObj l o') :=
  (Below.refl n₀ W).grown (grownBy_putObj' W l o') (by have := (Array.getElem?_eq_some_iff.1 ho).1; omega) fun j ej => by cases ej; omega
theorem kpV_put {n₀ By z : Nat} (hn : n₀ ≤ z) (hs : By < z) (W : World) (l : Nat) (o o' : Obj) (hl : z ≤ l) (ho : W.heap[l]? = some o) (hc : o.isCells = false) (_hw : o.isWalk = false) : KpV n₀ By W (W.putObj l o') :=
  ⟨(Below.refl n₀ W).trans (belowV_put hn hl W o o' ho hc), World.putObj_heap_other (by omega)⟩
theorem grownV_below {W W' : World} (h : Below W.heap.size W W') : W.grownBy W' none := ⟨h.os, h.tape, h.output, h.size, fun k hk _ => h.block k hk⟩
theorem yv {e : Ending} {A B : Prop} (h : (e = .returned (.bool true) ∧ A) ∨ (e = .returned (.bool false) ∧ B)) : ∃ b, e = .returned (.bool b) ∧ (b = true → A) ∧ (b = false → B) := by
  rcases h with ⟨h, a⟩ | ⟨h, a⟩
  · exact ⟨true, h, fun _ => a, fun h => by cases h⟩
  · exact ⟨false, h, fun h => (by cases h), fun _ => a⟩
def OnlyV (Q : Act → World → Prop) : Exit → Act → World → Prop
  | .normal, a, w => Q a w
  | _, _, _ => False
theorem wpIn_normalV {F : Fence} {n : Nat} {P : Program} {c : Code} {Q : Exit → Act → World → Prop} {a : Act} {w : World} (h : c.wpIn F n P (OnlyV (Q .normal)) a w) : c.wpIn F n P Q a w := wpIn_mono h (fun e a w h => by cases e <;> first | exact h | exact h.elim)

end Go.Proofs.YtnidkcedomhofaaGreatDoor

/-
  The program's own functions of layer 13: signs, counts of parts, and which part may follow which.
-/
namespace Go.Proofs.YtnidkcedomhofaaGreatDoor
open Go.RowKit

theorem mk_listV (l : List UInt8) : (⟨l.toArray⟩ : ByteArray).data.toList = l := by simp
theorem list_mk (s : ByteArray) : (⟨s.data.toList.toArray⟩ : ByteArray) = s := by apply ByteArray.ext; simp
/-- A sign and what stands behind it. -/
def cutS (l : List UInt8) : Int × List UInt8 :=
  match l with
  | 43 :: r => (1, r)
  | 45 :: r => (-1, r)
  | _ => (0, l)
theorem dropOne (s : ByteArray) {c : UInt8} {r : List UInt8} (h : s.data.toList = c :: r) : s.extract 1 s.size = ⟨r.toArray⟩ ∧ 1 ≤ s.size := by
  have hl := listB s
  rw [h, List.length_cons] at hl
  refine ⟨?_, by omega⟩
  apply ByteArray.ext
  rw [← Array.toList_inj, pieceB, h, List.drop_one, List.tail_cons]
  simp only
  rw [List.take_of_length_le (by omega)]
theorem let0_lt (c : UInt8) : (let0 c).toNat < 256 := (let0 c).toNat_lt
theorem beh_index (c d : UInt8) : (0 ≤ Lib.indexByte (behP c) d) ↔ d ∈ behP c := by
  have := Lib.contains_iff_indexByte (behP c) d
  rw [← decide_eq_true_iff (p := 0 ≤ Lib.indexByte (behP c) d), ← this]
  simp
end Go.Proofs.YtnidkcedomhofaaGreatDoor

/-
  The program's own functions of layer 13: a duration, read.
-/
namespace Go.Proofs.YtnidkcedomhofaaGreatDoor
open Go.RowKit Go.Shelf
attribute [local go_sem] Oper.semAt_some

theorem cntP_bound {c : UInt8} {ah : List UInt8} (h : (cntP c ah).2 = true) : 0 ≤ (cntP c ah).1 ∧ (cntP c ah).1 ≤ 9999999 := by
  unfold cntP at h ⊢
  split
  · simp
  · rename_i hu
    rw [if_neg hu, Bool.and_eq_true, decide_eq_true_iff] at h
    obtain ⟨n, _, hb, _, e⟩ := numV_true h.1
    have hb7 : n < 10 ^ 7 := Nat.lt_of_lt_of_le hb (Nat.pow_le_pow_right (by omega) h.2)
    rw [e]; omega
theorem behP_rk {c d : UInt8} (h : c ∈ behP d) : rkP c + 1 ≤ rkP d ∧ let0 d = d ∧ unitP d ≤ 604800 ∧ 0 ≤ unitP d := by
  unfold behP at h
  by_cases e1 : d = 87
  · simp [e1] at h; subst h; subst e1; decide
  by_cases e2 : d = 68
  · simp [e2] at h; subst h; subst e2; decide
  by_cases e3 : d = 84
  · simp [e3] at h; subst e3; rcases h with rfl | rfl <;> decide
  by_cases e4 : d = 72
  · simp [e4] at h; subst h; subst e4; decide
  by_cases e5 : d = 77
  · simp [e5] at h; subst e5; rcases h with rfl | rfl <;> decide
  by_cases e6 : d = 83
  · simp [e6] at h; subst e6; rcases h with rfl | rfl <;> decide
  simp [e1, e2, e3, e4, e5, e6] at h
theorem durV_cut (l : List UInt8) : durV l = durB (if (cutS l).1 < 0 then -1 else 1) (cutS l).2 := by
  unfold durV cutS
  split <;> simp
theorem cutS_len (l : List UInt8) : (cutS l).2.length ≤ l.length := by
  unfold cutS
  split <;> simp
theorem cutS_sg (l : List UInt8) : (cutS l).1 = 0 ∨ (cutS l).1 = 1 ∨ (cutS l).1 = -1 := by
  unfold cutS
  split <;> simp
theorem keepV {B : Nat} {W W' : World} (hb : Below W.heap.size W W') : KeepsFrom B W W' := ⟨hb.size, fun k _o _ hk _ => (hb.block k (Array.getElem?_eq_some_iff.1 hk).1).trans hk⟩
theorem keepV_put3 (B : Nat) (W : World) (g : Nat) (v0 v1 v2 : Value) : KeepsFrom B W (put3 W g v0 v1 v2) :=
  (((KeepsOthers.setCell W _ _).from B).trans ((KeepsOthers.setCell _ _ _).from B)).trans ((KeepsOthers.setCell _ _ _).from B)
theorem cells_kept {X Y' : World} {row : Option Nat} {B : Nat} (hg : X.grownBy Y' row) (hr : ∀ r, row = some r → B ≤ r ∧ ∃ o : Obj, X.heap[r]? = some o ∧ o.isCells = false) {b : Nat} {C : Array Value} {T : TypeId} {f : Nat × Nat} (ho : X.heap[b]? = some (.cells C T f)) : Y'.heap[b]? = some (.cells C T f) :=
  (hg.block b (Array.getElem?_eq_some_iff.1 ho).1 (fun e => by
    obtain ⟨_, o', ho', hc'⟩ := hr b e.symm
    rw [ho] at ho'
    injection ho' with ho'
    subst ho'
    cases hc')).trans ho
end Go.Proofs.YtnidkcedomhofaaGreatDoor
