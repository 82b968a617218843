/-
  The document's own answers of layer 10: a time as a stamp, and as HTTP writes it.
-/
import Derived.Test.YtdilnofolnabdaaGreatDoorG10
import Derived.Lib.Hide
import Derived.Lib.LaidTab
import Derived.Test.YtdilnofolnabdaaGreatDoorG09
import Derived.Test.YtdilnofolnabdaaGreatDoorG07
import Derived.Test.YtdilnofolnabdaaGreatDoorG08
import Derived.Test.YtdilnofolnabdaaGreatDoorG04
import Derived.Deep.MidRow
namespace Go.Proofs.YtdilnofolnabdaaGreatDoor
open Go.RowKit

theorem clk_parts {t : Int} (s : Nat) (hs : t % 86400 = s) : s < 86400 := by omega
set_option maxRecDepth 100000 in
set_option maxHeartbeats 2000000 in
theorem refStamp_any (t : Int) (ht : -9223372036854775808 ≤ t ∧ t < 9223372036854775808) (w : World) :
    Calls Tryz.prog 27 #[.int .i64 t] w fun e w' => e = .returned (.string ⟨(stampT t).toArray⟩) ∧ Below w.heap.size w w' := by
  have ci := fun W => refIn_any t W
  have cp := fun W => refParts_any t ht W
  cases hin : inD t
  · rw [hin] at ci
    have e : Hid (stampT t = []) := Lib.hid (by unfold stampT; rw [hin]; rfl)
    clear hin ht cp
    go_enter Tryz.func27, Tryz.ntmps27
    go_wp2_with (go_at_call 25; ((with_reducible refine (ci _).mono ?_); rintro e w' ⟨rfl, hw⟩; subst w'))
    go_ret
    exact ⟨by rw [e.out]; rfl, Below.refl _ _⟩
  · rw [hin] at ci
    have hd := inD_day hin
    obtain ⟨s, hs⟩ : ∃ s : Nat, t % 86400 = s := ⟨(t % 86400).toNat, by omega⟩
    have hs2 := clk_parts s hs
    have cd := fun W => refDay_any (t / 86400) (by omega) W
    have e : Hid (stampT t = dayT (t / 86400) ++ [84] ++ clkT [] s) := Lib.hid (by unfold stampT; rw [hin, hs]; rfl)
    have sd : (⟨(dayT (t / 86400)).toArray⟩ : ByteArray).size = 8 := by rw [mk_size, dayT_length hd]
    rw [hs] at cp
    clear hd hs hin
    generalize dayT (t / 86400) = dl at *
    generalize t / 86400 = q at *
    have c1 := pad2_any (s / 3600) (by omega)
    have c2 := pad2_any (s / 60 % 60) (by omega)
    have c3 := pad2_any (s % 60) (by omega)
    have m1 : Int.tdiv (s : Int) 3600 = ((s / 3600 : Nat) : Int) := by rw [tdiv_pos (by omega)]; omega
    have m2 : Int.tdiv (s : Int) 60 = ((s / 60 : Nat) : Int) := by rw [tdiv_pos (by omega)]; omega
    have m3 : Int.tmod ((s / 60 : Nat) : Int) 60 = ((s / 60 % 60 : Nat) : Int) := by rw [tmod_pos (by omega)]; omega
    have m4 : Int.tmod (s : Int) 60 = ((s % 60 : Nat) : Int) := by rw [tmod_pos (by omega)]; omega
    have HE := Lib.hid (show (⟨dl.toArray⟩ : ByteArray) ++ ⟨#[84]⟩ ++ ⟨(padT 2 (s / 3600)).toArray⟩ ++ ⟨(padT 2 (s / 60 % 60)).toArray⟩ ++ ⟨(padT 2 (s % 60)).toArray⟩ = ⟨(stampT t).toArray⟩ by
      rw [show (⟨#[84]⟩ : ByteArray) = ⟨([84] : List UInt8).toArray⟩ from rfl, mk_app, mk_app, mk_app, mk_app, e.out]
      unfold clkT
      simp only [List.append_nil, List.append_assoc])
    have s1 : (⟨(padT 2 (s / 3600)).toArray⟩ : ByteArray).size = 2 := by rw [mk_size, padT_length]
    have s2 : (⟨(padT 2 (s / 60 % 60)).toArray⟩ : ByteArray).size = 2 := by rw [mk_size, padT_length]
    have s3 : (⟨(padT 2 (s % 60)).toArray⟩ : ByteArray).size = 2 := by rw [mk_size, padT_length]
    generalize (⟨(padT 2 (s / 3600)).toArray⟩ : ByteArray) = a at *
    generalize (⟨(padT 2 (s / 60 % 60)).toArray⟩ : ByteArray) = b at *
    generalize (⟨(padT 2 (s % 60)).toArray⟩ : ByteArray) = c at *
    generalize (⟨dl.toArray⟩ : ByteArray) = d at *
    have no0 : ¬ 9223372036854775807 < d.size + (⟨#[84]⟩ : ByteArray).size := by rw [sd]; decide
    have no1 : ¬ 9223372036854775807 < (d ++ (⟨#[84]⟩ : ByteArray)).size + a.size := by rw [ByteArray.size_append, sd, s1]; decide
    have no2 : ¬ 9223372036854775807 < (d ++ (⟨#[84]⟩ : ByteArray) ++ a).size + b.size := by rw [ByteArray.size_append, ByteArray.size_append, sd, s1, s2]; decide
    have no3 : ¬ 9223372036854775807 < (d ++ (⟨#[84]⟩ : ByteArray) ++ a ++ b).size + c.size := by rw [ByteArray.size_append, ByteArray.size_append, ByteArray.size_append, sd, s1, s2, s3]; decide
    have k1 : s / 3600 < 86400 := by omega
    have k2 : s / 60 < 86400 := by omega
    have k3 : s / 60 % 60 < 60 := by omega
    have k4 : s % 60 < 60 := by omega
    generalize s / 3600 = x1 at *
    generalize s / 60 % 60 = x3 at *
    generalize s / 60 = x2 at *
    generalize s % 60 = x4 at *
    go_enter Tryz.func27, Tryz.ntmps27
    go_wp2_with (first
      | (go_at_call 25; ((with_reducible refine (ci _).mono ?_); rintro e w' ⟨rfl, hw⟩; subst w'))
      | (go_at_call 24; ((with_reducible refine (cp _).mono ?_); rintro e w' ⟨rfl, hw⟩; subst w'))
      | (go_at_call 26; ((with_reducible refine (cd _).mono ?_); rintro e w0 ⟨rfl, hb0⟩))
      | (go_at_call 20; ((with_reducible refine (c1 _).mono ?_); rintro e w1 ⟨rfl, hb1⟩))
      | (go_at_call 20; ((with_reducible refine (c2 _).mono ?_); rintro e w2 ⟨rfl, hb2⟩))
      | (go_at_call 20; ((with_reducible refine (c3 _).mono ?_); rintro e w3 ⟨rfl, hb3⟩)))
    go_ret
    exact ⟨by rw [← HE.out]; rfl, bstep (bstep (bstep hb0 hb1) hb2) hb3⟩

end Go.Proofs.YtdilnofolnabdaaGreatDoor

/-
  What the program's listed variables hold: the lengths of the months, the names of months and of days of the week, and the library's powers of ten.
-/
namespace Go.Proofs.YtdilnofolnabdaaGreatDoor
open Go.RowKit

/-- A variable's cells. -/
def CellsAt (w : World) (g : Nat) (vs : List Value) : Prop := ∀ i v, vs[i]? = some v → w.cell? ⟨g, i, none⟩ = some v
theorem cell_in {w : World} {a : Addr} {v : Value} (h : w.cell? a = some v) : a.block < w.heap.size := by
  unfold World.cell? at h
  by_cases hb : a.block < w.heap.size
  · exact hb
  · rw [Array.getElem?_eq_none (by simpa using hb)] at h
    cases h
theorem CellsAt.step {w w' : World} {g : Nat} {vs : List Value} (h : CellsAt w g vs) (hb : Below w.heap.size w w') : CellsAt w' g vs := fun i v hv =>
  (hb.cell (p := ⟨g, i, none⟩) (cell_in (h i v hv))).trans (h i v hv)
def lensV : List Value := [.int .i64 31, .int .i64 28, .int .i64 31, .int .i64 30, .int .i64 31, .int .i64 30, .int .i64 31, .int .i64 31, .int .i64 30, .int .i64 31, .int .i64 30, .int .i64 31]
/-- The listed variables as their initialisers lay them. -/
structure DV (w : World) : Prop where
  len : CellsAt w 1 lensV
  tab : Lib.TabIs Tryz.prog w "internal/strconv.uint64pow10" .u64 Lib.pow10Tab
theorem tab_step {n : String} {k : IntKind} {zs : List Int} {w w' : World} (h : Lib.TabIs Tryz.prog w n k zs) (hb : Below w.heap.size w w') : Lib.TabIs Tryz.prog w' n k zs := by
  unfold Lib.TabIs World.var? at *
  cases hg : Tryz.prog.globalNamed n with
  | none => simp [hg] at h
  | some g =>
    simp only [hg, Option.bind_some] at h ⊢
    have hlt : g < w.heap.size := by
      rcases Nat.lt_or_ge g w.heap.size with h' | h'
      · exact h'
      · rw [Array.getElem?_eq_none h'] at h; simp at h
    rw [hb.block g hlt]
    exact h
theorem DV.step {w w' : World} (h : DV w) (hb : Below w.heap.size w w') : DV w' := ⟨h.len.step hb, tab_step h.tab hb⟩
theorem DV.drew {w : World} (h : DV w) : DV w.drew := h.step (Below.refl _ _).drew
theorem DV.drewN {w : World} (h : DV w) (n : Nat) : DV (w.drewN n) := h.step ⟨rfl, rfl, rfl, Nat.le_refl _, fun _ _ => rfl⟩

end Go.Proofs.YtdilnofolnabdaaGreatDoor

/-
  The program's own functions of layer 13: a duration's parts by their letters.
-/
namespace Go.Proofs.YtdilnofolnabdaaGreatDoor
open Go.RowKit

/-- What the listed variable of a duration's parts holds: a letter, what it may stand behind, how many seconds it means. -/
def partsV : List Value := [.int .u8 80, .string ⟨#[]⟩, .int .i64 0, .int .u8 87, .string ⟨#[80]⟩, .int .i64 604800, .int .u8 68, .string ⟨#[80]⟩, .int .i64 86400, .int .u8 84, .string ⟨#[80, 68]⟩, .int .i64 0, .int .u8 72, .string ⟨#[84]⟩, .int .i64 3600, .int .u8 77, .string ⟨#[84, 72]⟩, .int .i64 60, .int .u8 83, .string ⟨#[84, 77]⟩, .int .i64 1]
structure VV (w : World) : Prop where
  dv : DV w
  parts : CellsAt w 0 partsV
  mx : ∃ m, w.cell? ⟨3, 0, none⟩ = some (.int .i64 m)
theorem VV.step {w w' : World} (h : VV w) (hb : Below w.heap.size w w') : VV w' := ⟨h.dv.step hb, h.parts.step hb, h.mx.imp fun _m hm => (hb.cell (p := ⟨3, 0, none⟩) (cell_in hm)).trans hm⟩

theorem VV.drew {w : World} (h : VV w) : VV w.drew := h.step (Below.refl _ _).drew
def letK (k : Nat) : UInt8 := [80, 87, 68, 84, 72, 77, 83].getD k 0
/-- A known letter, or 0. -/
def let0 (c : UInt8) : UInt8 := if c = 80 ∨ c = 87 ∨ c = 68 ∨ c = 84 ∨ c = 72 ∨ c = 77 ∨ c = 83 then c else 0
def behB (c : UInt8) : ByteArray := ⟨(behP c).toArray⟩
/-- A part as the program has it. -/
def partV (c : UInt8) : Value := .agg #[.int .u8 ((let0 c).toNat : Int), .string (behB c), .int .i64 (unitP c)]
/-- A part's variable. -/
def R3 (w : World) (g : Nat) (a : Nat) (b : ByteArray) (s : Int) : Prop := w.heap[g]? = some (.cells #[.int .u8 (a : Int), .string b, .int .i64 s] 67 (0, 0))
section
variable {w w' : World} {g a : Nat} {b : ByteArray} {s : Int}
theorem R3.lt (h : R3 w g a b s) : g < w.heap.size := by
  rcases Nat.lt_or_ge g w.heap.size with hlt | hge
  · exact hlt
  · unfold R3 at h; rw [Array.getElem?_eq_none hge] at h; cases h
theorem R3.cells (h : R3 w g a b s) : w.cell? ⟨g, 0, none⟩ = some (.int .u8 (a : Int)) ∧ w.cell? ⟨g, 1, none⟩ = some (.string b) ∧ w.cell? ⟨g, 2, none⟩ = some (.int .i64 s) := by
  unfold R3 at h
  exact ⟨by simp [World.cell?, h], by simp [World.cell?, h], by simp [World.cell?, h]⟩
theorem R3.new (w : World) (a : Nat) (b : ByteArray) (s : Int) : R3 (w.alloc (.cells #[.int .u8 (a : Int), .string b, .int .i64 s] 67)) w.heap.size a b s := heap_alloc_new w _
theorem R3.step (h : R3 w g a b s) (hb : Below w.heap.size w w') : R3 w' g a b s := (hb.block g h.lt).trans h
theorem R3.frozen (h : R3 w g a b s) : ∀ k, w.frozen? ⟨g, k, none⟩ = false := fun k => by
  unfold R3 at h
  simp [World.frozen?, h]
end
theorem heap_put {w : World} {g k : Nat} {C : Array Value} {T : TypeId} {v : Value} (h : w.heap[g]? = some (.cells C T (0, 0))) (_hk : k < C.size) : (w.setCell ⟨g, k, none⟩ v).heap[g]? = some (.cells (C.setIfInBounds k v) T (0, 0)) := by
  have hlt : g < w.heap.size := by
    rcases Nat.lt_or_ge g w.heap.size with hlt | hge
    · exact hlt
    · rw [Array.getElem?_eq_none hge] at h; cases h
  have h' : w.heap[g] = .cells C T (0, 0) := by rw [Array.getElem?_eq_getElem hlt] at h; exact Option.some.inj h
  simp [World.setCell, hlt, Array.getElem_modify, h']
/-- A record of three cells is stored. -/
def put3 (w : World) (g : Nat) (v0 v1 v2 : Value) : World := ((w.setCell ⟨g, 0, none⟩ v0).setCell ⟨g, 1, none⟩ v1).setCell ⟨g, 2, none⟩ v2
theorem heap_put3 {w : World} {g : Nat} {o0 o1 o2 v0 v1 v2 : Value} {T : TypeId} (h : w.heap[g]? = some (.cells #[o0, o1, o2] T (0, 0))) : (put3 w g v0 v1 v2).heap[g]? = some (.cells #[v0, v1, v2] T (0, 0)) := by
  unfold put3
  have h1 := heap_put (k := 0) (v := v0) h (by simp)
  have h2 := heap_put (k := 1) (v := v1) h1 (by simp)
  have h3 := heap_put (k := 2) (v := v2) h2 (by simp)
  simpa using h3
theorem below_put3 {B : Nat} {w : World} {g : Nat} (hg : B ≤ g) (v0 v1 v2 : Value) : Below B w (put3 w g v0 v1 v2) :=
  (((Below.refl B w).setCell (p := ⟨g, 0, none⟩) hg v0).setCell (p := ⟨g, 1, none⟩) hg v1).setCell (p := ⟨g, 2, none⟩) hg v2
theorem put3_other {w : World} {g k : Nat} (hk : k ≠ g) (v0 v1 v2 : Value) : (put3 w g v0 v1 v2).heap[k]? = w.heap[k]? := by
  unfold put3
  rw [Below.heap_setCell _ ⟨g, 2, none⟩ _ _ hk, Below.heap_setCell _ ⟨g, 1, none⟩ _ _ hk, Below.heap_setCell _ ⟨g, 0, none⟩ _ _ hk]
theorem put3_size (w : World) (g : Nat) (v0 v1 v2 : Value) : (put3 w g v0 v1 v2).heap.size = w.heap.size := by simp [put3]
/-- A result that lies in a variable of three cells. -/
theorem results_cell {P : Program} {fn : Func} {t : Tmp} {T : TypeId} (h : fn.results = #[.cell t T]) (tmps : Array Value) {w : World} {a : Addr} {v : Value} (ht : tmps.getD t undef = .pointer (some a)) (hv : (Go.loadVar T a).run P w = .ok v w) :
    (results fn tmps).run P w = .ok v w := by
  have ht2 : tmps[t]?.getD undef = .pointer (some a) := by rw [← Array.getD_eq_getD_getElem?]; exact ht
  simp [results, h, ht2, asAddr, hv]
theorem results_cell2 {P : Program} {fn : Func} {t u : Tmp} {T : TypeId} (h : fn.results = #[.cell t T, .tmp u]) (tmps : Array Value) {w : World} {a : Addr} {v v2 : Value} (ht : tmps.getD t undef = .pointer (some a)) (hu : tmps.getD u undef = v2) (hv : (Go.loadVar T a).run P w = .ok v w) :
    (results fn tmps).run P w = .ok (.tuple #[v, v2]) w := by
  subst hu
  have ht2 : tmps[t]?.getD undef = .pointer (some a) := by rw [← Array.getD_eq_getD_getElem?]; exact ht
  simp [results, h, ht2, asAddr, hv]
theorem load_part {w : World} {g a : Nat} {b : ByteArray} {s : Int} (h : R3 w g a b s) : (Go.loadVar 67 ⟨g, 0, none⟩).run Tryz.prog w = .ok (.agg #[.int .u8 (a : Int), .string b, .int .i64 s]) w := by
  obtain ⟨a0, a1, a2⟩ := h.cells
  unfold loadVar
  go_simp
set_option maxRecDepth 100000 in
theorem index_part {k : Nat} (hk : k < 7) (w : World) : (Instr.index 86 (.agg partsV.toArray) (.int .i64 (k : Int))).run Tryz.prog w = .ok (.agg #[.int .u8 ((letK k).toNat : Int), .string (behB (letK k)), .int .i64 (unitP (letK k))]) w := by
  have : k = 0 ∨ k = 1 ∨ k = 2 ∨ k = 3 ∨ k = 4 ∨ k = 5 ∨ k = 6 := by omega
  rcases this with rfl | rfl | rfl | rfl | rfl | rfl | rfl <;> rfl
theorem part_none {c : UInt8} (h : ∀ j, j < 7 → letK j ≠ c) : let0 c = 0 ∧ behB c = ⟨#[]⟩ ∧ unitP c = 0 := by
  have h0 := h 0 (by omega)
  have h1 := h 1 (by omega)
  have h2 := h 2 (by omega)
  have h3 := h 3 (by omega)
  have h4 := h 4 (by omega)
  have h5 := h 5 (by omega)
  have h6 := h 6 (by omega)
  simp only [letK, List.getD_cons_zero, List.getD_cons_succ, ne_eq] at h0 h1 h2 h3 h4 h5 h6
  unfold let0 behB behP unitP
  have e0 : ¬ c = 80 := fun e => h0 e.symm
  have e1 : ¬ c = 87 := fun e => h1 e.symm
  have e2 : ¬ c = 68 := fun e => h2 e.symm
  have e3 : ¬ c = 84 := fun e => h3 e.symm
  have e4 : ¬ c = 72 := fun e => h4 e.symm
  have e5 : ¬ c = 77 := fun e => h5 e.symm
  have e6 : ¬ c = 83 := fun e => h6 e.symm
  simp [e0, e1, e2, e3, e4, e5, e6]
theorem let0_letK {k : Nat} (hk : k < 7) : let0 (letK k) = letK k := by
  have : k = 0 ∨ k = 1 ∨ k = 2 ∨ k = 3 ∨ k = 4 ∨ k = 5 ∨ k = 6 := by omega
  rcases this with rfl | rfl | rfl | rfl | rfl | rfl | rfl <;> rfl

set_option maxRecDepth 100000 in
set_option maxHeartbeats 2000000 in
theorem partOf_any (c : UInt8) (w : World) (hv : VV w) :
    Calls Tryz.prog 50 #[.int .u8 (c.toNat : Int)] w fun e w' => e = .returned (partV c) ∧ Below w.heap.size w w' := by
  have ha : Below w.heap.size w (w.alloc (.cells #[.int .u8 0, .string ⟨#[]⟩, .int .i64 0] 67)) := (Below.refl _ w).alloc (Nat.le_refl _) _
  have H1 := hv.step ha
  have Z1 := R3.new w 0 ⟨#[]⟩ 0
  go_enter Tryz.func50, Tryz.ntmps50
  go_upto_region 1 with fail
  generalize hw1 : w.alloc (.cells #[.int .u8 0, .string ⟨#[]⟩, .int .i64 0] 67) = w1 at H1 ha Z1 ⊢
  change R3 w1 w.heap.size 0 ⟨#[]⟩ 0 at Z1
  have hr : w1.rangeAt 0 0 partsV := fun j v hj => by rw [Nat.zero_add]; exact H1.parts j v hj
  go_wp2_with (refine wpList_load_mid rfl _ _ rfl 0 0 rfl partsV _ hr Tryz.underlying86 rfl (by kernel_rfl) ?_)
  have HZ := Lib.hid Z1
  have HB := Lib.hid ha
  have hsz : w.heap.size < w1.heap.size := Z1.lt
  clear hr H1 hv Z1 ha hw1
  go_loopw [6] (fun p wr => ∃ k : Nat, k ≤ 7 ∧ p = .int .i64 k ∧ Hid (R3 wr w.heap.size 0 ⟨#[]⟩ 0) ∧ Hid (Below w.heap.size w wr) ∧ Hid (∀ j, j < k → letK j ≠ c)) (fun p _ => 7 - (intOf p).toNat)
  case atStart => exact ⟨0, by omega, rfl, HZ, HB, Lib.hid (fun j hj => by omega)⟩
  case round =>
    clear HZ HB
    obtain ⟨k, hk, rfl, HZ, HB, HN⟩ := hrel
    by_cases hlt : k < 7
    · have hd : (k : Int) < 7 := by omega
      have hix := index_part (k := k) hlt
      have ha : Below wr.heap.size wr (wr.alloc (.cells #[.int .u8 ((letK k).toNat : Int), .string (behB (letK k)), .int .i64 (unitP (letK k))] 67)) := (Below.refl _ wr).alloc (Nat.le_refl _) _
      have HZ2 := Lib.hid (HZ.out.step ha)
      have HB2 := Lib.hid (bstep HB.out ha)
      have hxs := HZ.out.lt
      have HR := Lib.hid (R3.new wr (letK k).toNat (behB (letK k)) (unitP (letK k)))
      by_cases he : letK k = c
      · have HE := Lib.hid he
        have hb : ((((letK k).toNat : Nat) : Int) == ((c.toNat : Nat) : Int)) = true := by rw [he]; simp
        obtain ⟨x0, x1, x2⟩ := HZ.out.cells
        have xf := HZ.out.frozen
        clear he ha HN
        have HV : Hid (partV c = .agg #[.int .u8 ((letK k).toNat : Int), .string (behB (letK k)), .int .i64 (unitP (letK k))]) := Lib.hid (by rw [← HE.out, partV, let0_letK hlt])
        generalize (letK k).toNat = L at *
        generalize behB (letK k) = B at *
        generalize unitP (letK k) = S at *
        go_wp2
        have HP : R3 (put3 (wr.alloc (.cells #[.int .u8 (L : Int), .string B, .int .i64 S] 67)) w.heap.size (.int .u8 (L : Int)) (.string B) (.int .i64 S)) w.heap.size L B S := heap_put3 HZ2.out
        have HQ := HB2.out.trans (below_put3 (w := wr.alloc (.cells #[.int .u8 (L : Int), .string B, .int .i64 S] 67)) (Nat.le_refl w.heap.size) (.int .u8 (L : Int)) (.string B) (.int .i64 S))
        have e9 : put3 (wr.alloc (.cells #[.int .u8 (L : Int), .string B, .int .i64 S] 67)) w.heap.size (.int .u8 (L : Int)) (.string B) (.int .i64 S) = (((wr.setCell ⟨w.heap.size, 0, none⟩ (.int .u8 (L : Int))).setCell ⟨w.heap.size, 1, none⟩ (.string B)).setCell ⟨w.heap.size, 2, none⟩ (.int .i64 S)).alloc (.cells #[.int .u8 (L : Int), .string B, .int .i64 S] 67) := by
          unfold put3
          go_simp
        rw [e9] at HP HQ
        refine bodyPost_ret (results_cell rfl _ rfl (load_part HP)) rfl ⟨?_, HQ⟩
        rw [HV.out]
      · have HE := Lib.hid he
        have hb : ((((letK k).toNat : Nat) : Int) == ((c.toNat : Nat) : Int)) = false := by
          rw [beq_eq_false_iff_ne]
          intro h
          exact he (UInt8.toNat_inj.1 (by omega))
        have HN2 : Hid (∀ j, j < k + 1 → letK j ≠ c) := Lib.hid (fun j hj => by
          rcases Nat.lt_or_ge j k with h | h
          · exact HN.out j h
          · obtain rfl : j = k := by omega
            exact he)
        clear he ha
        generalize (letK k).toNat = L at *
        generalize behB (letK k) = B at *
        generalize unitP (letK k) = S at *
        go_wp2
        exact ⟨⟨k + 1, by omega, by go_num, HZ2, HB2, HN2⟩, by simp [intOf]; omega⟩
    · obtain rfl : k = 7 := by omega
      obtain ⟨e0, e1, e2⟩ := part_none HN.out
      obtain ⟨x0, x1, x2⟩ := HZ.out.cells
      have xf := HZ.out.frozen
      have HV : Hid (partV c = .agg #[.int .u8 0, .string ⟨#[]⟩, .int .i64 0]) := Lib.hid (by rw [partV, e0, e1, e2]; rfl)
      have HP : Hid (R3 (put3 wr w.heap.size (.int .u8 0) (.string ⟨#[]⟩) (.int .i64 0)) w.heap.size 0 ⟨#[]⟩ 0) := Lib.hid (heap_put3 HZ.out)
      have HQ := HB.out.trans (below_put3 (w := wr) (Nat.le_refl w.heap.size) (.int .u8 0) (.string ⟨#[]⟩) (.int .i64 0))
      have HQ := Lib.hid HQ
      go_wp2
      refine bodyPost_ret (results_cell rfl _ rfl (load_part HP.out)) rfl ⟨?_, HQ.out⟩
      rw [HV.out]
      rfl
end Go.Proofs.YtdilnofolnabdaaGreatDoor
