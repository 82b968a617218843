/-
  A row of bytes of the call's own, made from a text or made empty, written byte by byte, and made a text again.
-/
import Derived.Laws.IdiomStrings
import Derived.Laws.BytesArg
import Derived.Test.YtihmgamdnmipaaaDevLib
import Derived.Test.YtihmgamdnmipaaaWalMath
namespace Go.Proofs.Ytihmgamdnmipaaa
open Go.RowKit

/-- The block g begins with these bytes, none of them frozen. -/
structure Byt (w : World) (g : Nat) (l : List UInt8) : Prop where
  blk : ∃ cur e lo hi, w.heap[g]? = some (.cells cur e (lo, hi)) ∧ (l.length ≤ lo ∨ hi = 0) ∧ l.length ≤ cur.size ∧ ∀ j, j < l.length → cur[j]? = some (.int .u8 ((l.getD j 0).toNat : Int))
section
variable {w w' : World} {g : Nat} {l : List UInt8}
theorem Byt.lt (h : Byt w g l) : g < w.heap.size := by
  obtain ⟨_, _, _, _, h, _⟩ := h.blk
  exact (Array.getElem?_eq_some_iff.1 h).1
theorem Byt.cell (h : Byt w g l) (j : Nat) (hj : j < l.length) : w.cell? ⟨g, j, none⟩ = some (.int .u8 ((l.getD j 0).toNat : Int)) := by
  obtain ⟨cur, e, lo, hi, h, _, _, hc⟩ := h.blk
  simp [World.cell?, h, hc j hj]
theorem Byt.free (h : Byt w g l) (j : Nat) (hj : j < l.length) : w.frozen? ⟨g, j, none⟩ = false := by
  obtain ⟨cur, e, lo, hi, h, hz, _, _⟩ := h.blk
  simp [World.frozen?, h]
  omega
theorem Byt.of_text (w : World) (e : TypeId) (m : ByteArray) (c : Nat) : Byt (w.drew.alloc (.cells (bytesRow m c) e ((bytesRow m c).size, (bytesRow m c).size + 1))) w.heap.size m.data.toList := by
  have hs : m.data.toList.length ≤ (bytesRow m c).size := by simp [bytesRow]
  refine ⟨bytesRow m c, e, _, _, heap_alloc_new w.drew _, .inl hs, hs, fun j hj => ?_⟩
  have hj' : j < m.data.size := by simpa using hj
  unfold bytesRow
  rw [Array.getElem?_append_left (by simpa using hj')]
  simp [Array.getElem?_eq_getElem hj', List.getD_eq_getElem?_getD]
theorem Byt.of_text_below (w : World) (e : TypeId) (m : ByteArray) (c : Nat) : Below w.heap.size w (w.drew.alloc (.cells (bytesRow m c) e ((bytesRow m c).size, (bytesRow m c).size + 1))) := ((Below.refl _ w).drew).alloc (Nat.le_refl _) _
theorem Byt.set (h : Byt w g l) (k : Nat) (x : UInt8) : Byt (w.setCell ⟨g, k, none⟩ (.int .u8 (x.toNat : Int))) g (l.set k x) := by
  obtain ⟨cur, e, lo, hi, h, hz, hs, hc⟩ := h.blk
  refine ⟨cur.setIfInBounds k (.int .u8 (x.toNat : Int)), e, lo, hi, ?_, by simpa using hz, by simpa using hs, fun j hj => ?_⟩
  · simp [World.setCell, Array.getElem?_modify, h]
  · have hj : j < l.length := by simpa using hj
    rw [Array.getElem?_setIfInBounds, List.getD_eq_getElem?_getD, List.getElem?_set]
    by_cases hk : k = j
    · subst hk
      rw [if_pos rfl, if_pos (by omega), if_pos rfl, if_pos hj]; rfl
    · rw [if_neg hk, if_neg hk, hc j hj, List.getD_eq_getElem?_getD]
theorem Byt.drew (h : Byt w g l) : Byt w.drew g l := ⟨h.blk⟩
theorem Byt.drewN (h : Byt w g l) (q : Nat) : Byt (w.drewN q) g l := ⟨h.blk⟩
theorem Byt.step (h : Byt w g l) (hb : Below w.heap.size w w') : Byt w' g l := by
  have hl := h.lt
  obtain ⟨cur, e, lo, hi, h, r⟩ := h.blk
  exact ⟨cur, e, lo, hi, (hb.block g hl).trans h, r⟩
theorem Byt.alloc (h : Byt w g l) (o : Obj) : Byt (w.alloc o) g l := h.step ((Below.refl _ _).alloc (Nat.le_refl _) o)
/-- A row just made, all of one byte. -/
theorem Byt.of_own {base : Nat} {e : TypeId} {c n : Nat} {l : List UInt8} (h : w.ownsRow base e 1 (.slice (some ⟨g, 0, none⟩) n c) n (l.map fun x => Value.int .u8 (x.toNat : Int))) (hn : 0 < n) : Byt w g l := by
  have hl : l.length = n := by have := h.1; simpa using this
  rcases h.2 with ⟨h', _⟩ | ⟨g', cap', cur, h', _, hg, h1, h2, hc, hx⟩
  · simp at h'
  · simp only [Value.slice.injEq, Option.some.injEq, Addr.mk.injEq, and_true, true_and] at h'
    obtain ⟨rfl, rfl⟩ := h'
    exact ⟨cur, e, 0, 0, hg, .inr rfl, by simp at hc; omega, fun j hj => by
      have hcell := h.cellAt j (by omega)
      simp [World.cell?, hg] at hcell
      rw [hcell]
      simp [hj]⟩
theorem toNums (l : List UInt8) : strOfNums (l.map fun x => (x.toNat : Int)) = ⟨l.toArray⟩ := by
  unfold strOfNums
  rw [List.map_map]
  congr 2
  conv => rhs; rw [← List.map_id l]
  refine List.map_congr_left fun x _ => ?_
  simp
theorem Byt.conv {P : Program} {src e dst : TypeId} (hs : P.underlying src = some (.slice e)) (he : P.underlying e = some (.int .u8)) (hd : P.underlying dst = some .string) (h : Byt w g l) (c n : Nat) (hn : l.length = n) :
    (convert src dst (.slice (some ⟨g, 0, none⟩) n c)).run P w = .ok (.string (mkB l)) w := by
  have := run_convert_bytes_arg (P := P) w src e hs he g 0 n c (l.map fun x => (x.toNat : Int)) (by simpa using hn) (fun i hi => by
    rw [Nat.zero_add, h.cell i (by omega)]
    simp [show i < l.length by omega]) dst hd
  rw [toNums] at this
  exact this
end

end Go.Proofs.Ytihmgamdnmipaaa
