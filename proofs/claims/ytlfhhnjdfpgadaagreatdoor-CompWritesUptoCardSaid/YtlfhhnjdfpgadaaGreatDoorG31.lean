/-
  CompBack: what is written of a component is read as itself, and what is read, written, is read as the same.
-/
import Derived.Test.YtlfhhnjdfpgadaaGreatDoorG30
import Derived.Deep.DeepCutAuto
import Derived.Deep.CutBlock
namespace Go.Proofs.YtlfhhnjdfpgadaaGreatDoor
open Go.RowKit

/-- A component's variable stored cell by cell. -/
def putC (w : World) (g : Nat) (nm : ByteArray) (A : Option Addr) (n c : Nat) (K : Option Addr) (k kc : Nat) : World := ((w.setCell ⟨g, 0, none⟩ (.string nm)).setCell ⟨g, 1, none⟩ (.slice A n c)).setCell ⟨g, 2, none⟩ (.slice K k kc)
theorem putC_box {w : World} {g n c k kc n' c' k' kc' : Nat} {nm nm' : ByteArray} {A K A' K' : Option Addr} (h : C3 w g nm' A' n' c' K' k' kc') : C3 (putC w g nm A n c K k kc) g nm A n c K k kc := by
  unfold C3 at h ⊢
  unfold putC
  simp [World.setCell, Array.getElem?_modify, h]
theorem putC_below {w : World} {B g n c k kc : Nat} {nm : ByteArray} {A K : Option Addr} (hB : B ≤ g) : Below B w (putC w g nm A n c K k kc) :=
  (((Below.refl B w).setCell (p := ⟨g, 0, none⟩) hB _).setCell (p := ⟨g, 1, none⟩) hB _).setCell (p := ⟨g, 2, none⟩) hB _
theorem putC_other {w : World} {g n c k kc : Nat} {nm : ByteArray} {A K : Option Addr} {b : Nat} (hb : b ≠ g) : (putC w g nm A n c K k kc).heap[b]? = w.heap[b]? := by
  unfold putC
  rw [Below.heap_setCell _ ⟨g, 2, none⟩ _ b hb, Below.heap_setCell _ ⟨g, 1, none⟩ _ b hb, Below.heap_setCell _ ⟨g, 0, none⟩ _ b hb]
theorem putC_size {w : World} {g n c k kc : Nat} {nm : ByteArray} {A K : Option Addr} : (putC w g nm A n c K k kc).heap.size = w.heap.size := by simp [putC, World.setCell]
theorem prnC_size (c : CM) : (prnC c).length ≤ 8192 := by
  unfold prnC
  split
  · rename_i h
    unfold fitT at h
    simp only [Bool.and_eq_true, decide_eq_true_eq] at h
    exact h.2.2
  · simp
theorem foldL_ne {l : List (List UInt8)} (h : l ≠ []) : foldL l ≠ [] := by
  obtain ⟨x, t, rfl⟩ := List.exists_cons_of_ne_nil h
  intro e
  have := congrArg List.length e
  simp [foldL, lineF] at this
theorem linesC_ne (c : CM) : linesC c ≠ [] := by
  obtain ⟨nm, ps, cs⟩ := c
  rw [linesC]
  simp
theorem prnC_ne {c : CM} (h : fitT c = true) : prnC c ≠ [] := by
  unfold prnC
  rw [if_pos h]
  exact foldL_ne (linesC_ne c)
theorem fitT_of {c : CM} (h : prnC c ≠ []) : fitT c = true := by
  unfold prnC at h
  split at h
  · assumption
  · exact absurd rfl h
theorem parC_prn {c : CM} (h : prnC c ≠ []) : parC (prnC c) = .ok c := by
  have hf := fitT_of h
  unfold prnC
  rw [if_pos hf]
  exact parC_print hf
/-- The call's own variable, and what lay before. -/
structure KC (w W : World) (nm : ByteArray) (A : Option Addr) (n c : Nat) (qs : List QR) (K : Option Addr) (k kc : Nat) (cs : List CR) : Prop where
  ca : CA W w.heap.size nm A n c qs K k kc cs
  bel : Below w.heap.size w W
  v : CV W
section
variable {w W W' : World} {nm : ByteArray} {A K : Option Addr} {n c k kc : Nat} {qs : List QR} {cs : List CR}
theorem KC.step (h : KC w W nm A n c qs K k kc cs) (hb : Below W.heap.size W W') : KC w W' nm A n c qs K k kc cs := ⟨h.ca.step hb, bstep h.bel hb, h.v.step hb⟩
end
end Go.Proofs.YtlfhhnjdfpgadaaGreatDoor
