/-
  The program's own functions of layer 13: a duration's parts by their letters.
-/
import Derived.Test.YtdilnofolnabdaaDoorG07
import Derived.Test.YtdilnofolnabdaaDoorG08
import Derived.Test.YtdilnofolnabdaaDoorG10
import Derived.Test.YtdilnofolnabdaaDoorG04
import Derived.Deep.MidRow
namespace Go.Proofs.YtdilnofolnabdaaDoor
open Go.RowKit

/-- What the listed variable of a duration's parts holds: a letter, what it may stand behind, how many seconds it means. -/
def partsV : List Value := [.int .u8 80, .string ⟨#[]⟩, .int .i64 0, .int .u8 87, .string ⟨#[80]⟩, .int .i64 604800, .int .u8 68, .string ⟨#[80]⟩, .int .i64 86400, .int .u8 84, .string ⟨#[80, 68]⟩, .int .i64 0, .int .u8 72, .string ⟨#[84]⟩, .int .i64 3600, .int .u8 77, .string ⟨#[84, 72]⟩, .int .i64 60, .int .u8 83, .string ⟨#[84, 77]⟩, .int .i64 1]
structure VV (w : World) : Prop where
  dv : DV w
  parts : CellsAt w 0 partsV
  mx : ∃ m, w.cell? ⟨1, 0, none⟩ = some (.int .i64 m)
theorem VV.step {w w' : World} (h : VV w) (hb : Below w.heap.size w w') : VV w' := ⟨h.dv.step hb, h.parts.step hb, h.mx.imp fun _m hm => (hb.cell (p := ⟨1, 0, none⟩) (cell_in hm)).trans hm⟩

theorem VV.drew {w : World} (h : VV w) : VV w.drew := h.step (Below.refl _ _).drew
def letK (k : Nat) : UInt8 := [80, 87, 68, 84, 72, 77, 83].getD k 0
/-- A known letter, or 0. -/
def let0 (c : UInt8) : UInt8 := if c = 80 ∨ c = 87 ∨ c = 68 ∨ c = 84 ∨ c = 72 ∨ c = 77 ∨ c = 83 then c else 0
def behB (c : UInt8) : ByteArray := ⟨(behP c).toArray⟩
/-- A part as the program has it. -/
def partV (c : UInt8) : Value := .agg #[.int .u8 ((let0 c).toNat : Int), .string (behB c), .int .i64 (unitP c)]
/-- A part's variable. -/
def R3 (w : World) (g : Nat) (a : Nat) (b : ByteArray) (s : Int) : Prop := w.heap[g]? = some (.cells #[.int .u8 (a : Int), .string b, .int .i64 s] 62 (0, 0))
section
variable {w w' : World} {g a : Nat} {b : ByteArray} {s : Int}
theorem R3.lt (h : R3 w g a b s) : g < w.heap.size := by
  rcases Nat.lt_or_ge g w.heap.size with hlt | hge
  · exact hlt
  · unfold R3 at h; rw [Array.getElem?_eq_none hge] at h; cases h
theorem R3.cells (h : R3 w g a b s) : w.cell? ⟨g, 0, none⟩ = some (.int .u8 (a : Int)) ∧ w.cell? ⟨g, 1, none⟩ = some (.string b) ∧ w.cell? ⟨g, 2, none⟩ = some (.int .i64 s) := by
  unfold R3 at h
  exact ⟨by simp [World.cell?, h], by simp [World.cell?, h], by simp [World.cell?, h]⟩
theorem R3.new (w : World) (a : Nat) (b : ByteArray) (s : Int) : R3 (w.alloc (.cells #[.int .u8 (a : Int), .string b, .int .i64 s] 62)) w.heap.size a b s := heap_alloc_new w _
theorem R3.step (h : R3 w g a b s) (hb : Below w.heap.size w w') : R3 w' g a b s := (hb.block g h.lt).trans h
theorem R3.frozen (h : R3 w g a b s) : ∀ k, w.frozen? ⟨g, k, none⟩ = false := fun k => by
  unfold R3 at h
  simp [World.frozen?, h]
end
theorem heap_put {w : World} {g k : Nat} {C : Array Value} {T : TypeId} {v : Value} (h : w.heap[g]? = some (.cells C T (0, 0))) (_hk : k < C.size) : (w.setCell ⟨g, k, none⟩ v).heap[g]? = some (.cells (C.setIfInBounds k v) T (0, 0)) := by
  have hlt : g < w.heap.size := by
    rcases Nat.lt_or_ge g w.heap.size with hlt | hge
    · exact hlt
    · rw [Array.getElem?_eq_none hge] at h; cases h
  have h' : w.heap[g] = .cells C T (0, 0) := by rw [Array.getElem?_eq_getElem hlt] at h; exact Option.some.inj h
  simp [World.setCell, hlt, Array.getElem_modify, h']
/-- A record of three cells is stored. -/
def put3 (w : World) (g : Nat) (v0 v1 v2 : Value) : World := ((w.setCell ⟨g, 0, none⟩ v0).setCell ⟨g, 1, none⟩ v1).setCell ⟨g, 2, none⟩ v2
theorem heap_put3 {w : World} {g : Nat} {o0 o1 o2 v0 v1 v2 : Value} {T : TypeId} (h : w.heap[g]? = some (.cells #[o0, o1, o2] T (0, 0))) : (put3 w g v0 v1 v2).heap[g]? = some (.cells #[v0, v1, v2] T (0, 0)) := by
  unfold put3
  have h1 := heap_put (k := 0) (v := v0) h (by simp)
  have h2 := heap_put (k := 1) (v := v1) h1 (by simp)
  have h3 := heap_put (k := 2) (v := v2) h2 (by simp)
  simpa using h3
theorem below_put3 {B : Nat} {w : World} {g : Nat} (hg : B ≤ g) (v0 v1 v2 : Value) : Below B w (put3 w g v0 v1 v2) :=
  (((Below.refl B w).setCell (p := ⟨g, 0, none⟩) hg v0).setCell (p := ⟨g, 1, none⟩) hg v1).setCell (p := ⟨g, 2, none⟩) hg v2
theorem put3_other {w : World} {g k : Nat} (hk : k ≠ g) (v0 v1 v2 : Value) : (put3 w g v0 v1 v2).heap[k]? = w.heap[k]? := by
  unfold put3
  rw [Below.heap_setCell _ ⟨g, 2, none⟩ _ _ hk, Below.heap_setCell _ ⟨g, 1, none⟩ _ _ hk, Below.heap_setCell _ ⟨g, 0, none⟩ _ _ hk]
theorem put3_size (w : World) (g : Nat) (v0 v1 v2 : Value) : (put3 w g v0 v1 v2).heap.size = w.heap.size := by simp [put3]
/-- A result that lies in a variable of three cells. -/
theorem results_cell {P : Program} {fn : Func} {t : Tmp} {T : TypeId} (h : fn.results = #[.cell t T]) (tmps : Array Value) {w : World} {a : Addr} {v : Value} (ht : tmps.getD t undef = .pointer (some a)) (hv : (Go.loadVar T a).run P w = .ok v w) :
    (results fn tmps).run P w = .ok v w := by
  have ht2 : tmps[t]?.getD undef = .pointer (some a) := by rw [← Array.getD_eq_getD_getElem?]; exact ht
  simp [results, h, ht2, asAddr, hv]
theorem results_cell2 {P : Program} {fn : Func} {t u : Tmp} {T : TypeId} (h : fn.results = #[.cell t T, .tmp u]) (tmps : Array Value) {w : World} {a : Addr} {v v2 : Value} (ht : tmps.getD t undef = .pointer (some a)) (hu : tmps.getD u undef = v2) (hv : (Go.loadVar T a).run P w = .ok v w) :
    (results fn tmps).run P w = .ok (.tuple #[v, v2]) w := by
  subst hu
  have ht2 : tmps[t]?.getD undef = .pointer (some a) := by rw [← Array.getD_eq_getD_getElem?]; exact ht
  simp [results, h, ht2, asAddr, hv]
theorem load_part {w : World} {g a : Nat} {b : ByteArray} {s : Int} (h : R3 w g a b s) : (Go.loadVar 62 ⟨g, 0, none⟩).run Tryd.prog w = .ok (.agg #[.int .u8 (a : Int), .string b, .int .i64 s]) w := by
  obtain ⟨a0, a1, a2⟩ := h.cells
  unfold loadVar
  go_simp
set_option maxRecDepth 100000 in
theorem index_part {k : Nat} (hk : k < 7) (w : World) : (Instr.index 86 (.agg partsV.toArray) (.int .i64 (k : Int))).run Tryd.prog w = .ok (.agg #[.int .u8 ((letK k).toNat : Int), .string (behB (letK k)), .int .i64 (unitP (letK k))]) w := by
  have : k = 0 ∨ k = 1 ∨ k = 2 ∨ k = 3 ∨ k = 4 ∨ k = 5 ∨ k = 6 := by omega
  rcases this with rfl | rfl | rfl | rfl | rfl | rfl | rfl <;> rfl
theorem part_none {c : UInt8} (h : ∀ j, j < 7 → letK j ≠ c) : let0 c = 0 ∧ behB c = ⟨#[]⟩ ∧ unitP c = 0 := by
  have h0 := h 0 (by omega)
  have h1 := h 1 (by omega)
  have h2 := h 2 (by omega)
  have h3 := h 3 (by omega)
  have h4 := h 4 (by omega)
  have h5 := h 5 (by omega)
  have h6 := h 6 (by omega)
  simp only [letK, List.getD_cons_zero, List.getD_cons_succ, ne_eq] at h0 h1 h2 h3 h4 h5 h6
  unfold let0 behB behP unitP
  have e0 : ¬ c = 80 := fun e => h0 e.symm
  have e1 : ¬ c = 87 := fun e => h1 e.symm
  have e2 : ¬ c = 68 := fun e => h2 e.symm
  have e3 : ¬ c = 84 := fun e => h3 e.symm
  have e4 : ¬ c = 72 := fun e => h4 e.symm
  have e5 : ¬ c = 77 := fun e => h5 e.symm
  have e6 : ¬ c = 83 := fun e => h6 e.symm
  simp [e0, e1, e2, e3, e4, e5, e6]
theorem let0_letK {k : Nat} (hk : k < 7) : let0 (letK k) = letK k := by
  have : k = 0 ∨ k = 1 ∨ k = 2 ∨ k = 3 ∨ k = 4 ∨ k = 5 ∨ k = 6 := by omega
  rcases this with rfl | rfl | rfl | rfl | rfl | rfl | rfl <;> rfl

set_option maxRecDepth 100000 in
set_option maxHeartbeats 2000000 in
theorem partOf_any (c : UInt8) (w : World) (hv : VV w) :
    Calls Tryd.prog 27 #[.int .u8 (c.toNat : Int)] w fun e w' => e = .returned (partV c) ∧ Below w.heap.size w w' := by
  have ha : Below w.heap.size w (w.alloc (.cells #[.int .u8 0, .string ⟨#[]⟩, .int .i64 0] 62)) := (Below.refl _ w).alloc (Nat.le_refl _) _
  have H1 := hv.step ha
  have Z1 := R3.new w 0 ⟨#[]⟩ 0
  go_enter Tryd.func27, Tryd.ntmps27
  go_upto_region 1 with fail
  generalize hw1 : w.alloc (.cells #[.int .u8 0, .string ⟨#[]⟩, .int .i64 0] 62) = w1 at H1 ha Z1 ⊢
  change R3 w1 w.heap.size 0 ⟨#[]⟩ 0 at Z1
  have hr : w1.rangeAt 0 0 partsV := fun j v hj => by rw [Nat.zero_add]; exact H1.parts j v hj
  go_wp2_with (refine wpList_load_mid rfl _ _ rfl 0 0 rfl partsV _ hr Tryd.underlying86 rfl (by kernel_rfl) ?_)
  have HZ := Lib.hid Z1
  have HB := Lib.hid ha
  have hsz : w.heap.size < w1.heap.size := Z1.lt
  clear hr H1 hv Z1 ha hw1
  go_loopw [6] (fun p wr => ∃ k : Nat, k ≤ 7 ∧ p = .int .i64 k ∧ Hid (R3 wr w.heap.size 0 ⟨#[]⟩ 0) ∧ Hid (Below w.heap.size w wr) ∧ Hid (∀ j, j < k → letK j ≠ c)) (fun p _ => 7 - (intOf p).toNat)
  case atStart => exact ⟨0, by omega, rfl, HZ, HB, Lib.hid (fun j hj => by omega)⟩
  case round =>
    clear HZ HB
    obtain ⟨k, hk, rfl, HZ, HB, HN⟩ := hrel
    by_cases hlt : k < 7
    · have hd : (k : Int) < 7 := by omega
      have hix := index_part (k := k) hlt
      have ha : Below wr.heap.size wr (wr.alloc (.cells #[.int .u8 ((letK k).toNat : Int), .string (behB (letK k)), .int .i64 (unitP (letK k))] 62)) := (Below.refl _ wr).alloc (Nat.le_refl _) _
      have HZ2 := Lib.hid (HZ.out.step ha)
      have HB2 := Lib.hid (bstep HB.out ha)
      have hxs := HZ.out.lt
      have HR := Lib.hid (R3.new wr (letK k).toNat (behB (letK k)) (unitP (letK k)))
      by_cases he : letK k = c
      · have HE := Lib.hid he
        have hb : ((((letK k).toNat : Nat) : Int) == ((c.toNat : Nat) : Int)) = true := by rw [he]; simp
        obtain ⟨x0, x1, x2⟩ := HZ.out.cells
        have xf := HZ.out.frozen
        clear he ha HN
        have HV : Hid (partV c = .agg #[.int .u8 ((letK k).toNat : Int), .string (behB (letK k)), .int .i64 (unitP (letK k))]) := Lib.hid (by rw [← HE.out, partV, let0_letK hlt])
        generalize (letK k).toNat = L at *
        generalize behB (letK k) = B at *
        generalize unitP (letK k) = S at *
        go_wp2
        have HP : R3 (put3 (wr.alloc (.cells #[.int .u8 (L : Int), .string B, .int .i64 S] 62)) w.heap.size (.int .u8 (L : Int)) (.string B) (.int .i64 S)) w.heap.size L B S := heap_put3 HZ2.out
        have HQ := HB2.out.trans (below_put3 (w := wr.alloc (.cells #[.int .u8 (L : Int), .string B, .int .i64 S] 62)) (Nat.le_refl w.heap.size) (.int .u8 (L : Int)) (.string B) (.int .i64 S))
        have e9 : put3 (wr.alloc (.cells #[.int .u8 (L : Int), .string B, .int .i64 S] 62)) w.heap.size (.int .u8 (L : Int)) (.string B) (.int .i64 S) = (((wr.setCell ⟨w.heap.size, 0, none⟩ (.int .u8 (L : Int))).setCell ⟨w.heap.size, 1, none⟩ (.string B)).setCell ⟨w.heap.size, 2, none⟩ (.int .i64 S)).alloc (.cells #[.int .u8 (L : Int), .string B, .int .i64 S] 62) := by
          unfold put3
          go_simp
        rw [e9] at HP HQ
        refine bodyPost_ret (results_cell rfl _ rfl (load_part HP)) rfl ⟨?_, HQ⟩
        rw [HV.out]
      · have HE := Lib.hid he
        have hb : ((((letK k).toNat : Nat) : Int) == ((c.toNat : Nat) : Int)) = false := by
          rw [beq_eq_false_iff_ne]
          intro h
          exact he (UInt8.toNat_inj.1 (by omega))
        have HN2 : Hid (∀ j, j < k + 1 → letK j ≠ c) := Lib.hid (fun j hj => by
          rcases Nat.lt_or_ge j k with h | h
          · exact HN.out j h
          · obtain rfl : j = k := by omega
            exact he)
        clear he ha
        generalize (letK k).toNat = L at *
        generalize behB (letK k) = B at *
        generalize unitP (letK k) = S at *
        go_wp2
        exact ⟨⟨k + 1, by omega, by go_num, HZ2, HB2, HN2⟩, by simp [intOf]; omega⟩
    · obtain rfl : k = 7 := by omega
      obtain ⟨e0, e1, e2⟩ := part_none HN.out
      obtain ⟨x0, x1, x2⟩ := HZ.out.cells
      have xf := HZ.out.frozen
      have HV : Hid (partV c = .agg #[.int .u8 0, .string ⟨#[]⟩, .int .i64 0]) := Lib.hid (by rw [partV, e0, e1, e2]; rfl)
      have HP : Hid (R3 (put3 wr w.heap.size (.int .u8 0) (.string ⟨#[]⟩) (.int .i64 0)) w.heap.size 0 ⟨#[]⟩ 0) := Lib.hid (heap_put3 HZ.out)
      have HQ := HB.out.trans (below_put3 (w := wr) (Nat.le_refl w.heap.size) (.int .u8 0) (.string ⟨#[]⟩) (.int .i64 0))
      have HQ := Lib.hid HQ
      go_wp2
      refine bodyPost_ret (results_cell rfl _ rfl (load_part HP.out)) rfl ⟨?_, HQ.out⟩
      rw [HV.out]
      rfl
end Go.Proofs.YtdilnofolnabdaaDoor
