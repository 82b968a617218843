/-
  The document's own bit of a map, set; its block 0; a block of zeros.
-/
import Derived.Test.YtihmgamdnmipaaaAllocRef
namespace Go.Proofs.Ytihmgamdnmipaaa
open Go.RowKit

def keep8 (x : UInt8) (k : Nat) (is : Bool) : UInt8 := if x.toNat.testBit k = is then x else flip8 x k
def setA (m : ByteArray) (i : Nat) (is : Bool) : ByteArray := if bitA m i = is then m else flipA m i
def setI (img : List ByteArray) (i : Nat) (is : Bool) : List ByteArray := img.set 1 (setA (blk img 1) i is)
theorem not8 : ∀ x : Fin 256, ∀ k : Fin 8, bits BinOp.andNot IntKind.u8 (x.val : Int) (2 ^ k.val % 256) = ((keep8 (UInt8.ofNat x.val) k.val false).toNat : Int) := by decide +kernel
theorem or8 : ∀ x : Fin 256, ∀ k : Fin 8, bits BinOp.or IntKind.u8 (x.val : Int) (2 ^ k.val % 256) = ((keep8 (UInt8.ofNat x.val) k.val true).toNat : Int) := by decide +kernel
theorem keep8_twice : ∀ x : Fin 256, ∀ k : Fin 8, keep8 (keep8 (UInt8.ofNat x.val) k.val false) k.val true = keep8 (UInt8.ofNat x.val) k.val true := by decide +kernel
theorem bit_not (x : UInt8) (i : Nat) : bits BinOp.andNot IntKind.u8 (x.toNat : Int) (2 ^ (i % 8) % 256) = ((keep8 x (i % 8) false).toNat : Int) := by
  have := not8 ⟨x.toNat, UInt8.toNat_lt _⟩ ⟨i % 8, by omega⟩
  rwa [show UInt8.ofNat x.toNat = x by simp] at this
theorem bit_or (x : UInt8) (i : Nat) : bits BinOp.or IntKind.u8 (x.toNat : Int) (2 ^ (i % 8) % 256) = ((keep8 x (i % 8) true).toNat : Int) := by
  have := or8 ⟨x.toNat, UInt8.toNat_lt _⟩ ⟨i % 8, by omega⟩
  rwa [show UInt8.ofNat x.toNat = x by simp] at this
theorem keep_twice (x : UInt8) (i : Nat) : keep8 (keep8 x (i % 8) false) (i % 8) true = keep8 x (i % 8) true := by
  have := keep8_twice ⟨x.toNat, UInt8.toNat_lt _⟩ ⟨i % 8, by omega⟩
  rwa [show UInt8.ofNat x.toNat = x by simp] at this
theorem setA_set (m : ByteArray) (i : Nat) (is : Bool) (hi : i / 8 < m.size) : mkB (m.data.toList.set (i / 8) (keep8 (m.data.toList.getD (i / 8) 0) (i % 8) is)) = setA m i is := by
  have hi' : i / 8 < m.data.toList.length := by simpa using hi
  have hb : bitA m i = (m.data.toList.getD (i / 8) 0).toNat.testBit (i % 8) := rfl
  unfold setA keep8
  rw [hb]
  by_cases h : (m.data.toList.getD (i / 8) 0).toNat.testBit (i % 8) = is
  · rw [if_pos h, if_pos h]
    have : m.data.toList.set (i / 8) (m.data.toList.getD (i / 8) 0) = m.data.toList := by
      rw [List.getD_eq_getElem?_getD, List.getElem?_eq_getElem hi']
      exact List.set_getElem_self _
    rw [this]
    rfl
  · rw [if_neg h, if_neg h, flipA_set m i hi]
theorem setA_size (m : ByteArray) (i : Nat) (is : Bool) : (setA m i is).size = m.size := by
  unfold setA; split
  · rfl
  · exact flipA_size m i
theorem setA_yes {m : ByteArray} {i : Nat} (h : bitA m i = false) : setA m i true = flipA m i := by unfold setA; rw [h]; rfl
theorem setA_no {m : ByteArray} {i : Nat} (h : bitA m i = true) : setA m i false = flipA m i := by unfold setA; rw [h]; rfl

set_option maxRecDepth 100000 in
set_option maxHeartbeats 2000000 in
theorem refSet_any (A : Option Addr) (n c : Nat) (img : List ByteArray) (i : Nat) (is : Bool) (w : World) (h : Reads w w.heap.size 1 A n (encS img)) (hf : MapP img) (hi : i < 1024) :
    Calls Try.prog 49 #[.slice A n c, .int .i64 i, .bool is] w fun e w' => ∃ g c2, e = .returned (.slice (some ⟨g, 0, none⟩) n c2) ∧ OwI w' w.heap.size g n c2 (setI img i is) ∧ Below w.heap.size w w' := by
  have hl := h.lenS
  obtain ⟨⟨h2, h5⟩, hmm⟩ := hf
  rw [hl] at h2 h5
  have H := Lib.hid h
  obtain ⟨b, o, rfl, hbo, g1⟩ := h.str (k := 1) (by omega)
  obtain ⟨m, hm⟩ : ∃ m, m = blk img 1 := ⟨_, rfl⟩
  rw [← hm] at g1 hmm
  have HM := Lib.hid hm
  clear hm h hl
  have him : i / 8 < m.size := by omega
  have hcv := run_bytes_of_string (P := Try.prog) w 9 69 5 m Try.underlying9 Try.underlying69 Try.underlying5
  have hb0 := Byt.of_text w 5 m (grownCap w m.size 0 5)
  have hl0 := Byt.of_text_below w 5 m (grownCap w m.size 0 5)
  generalize w.drew.alloc (.cells (bytesRow m (grownCap w m.size 0 5)) 5 ((bytesRow m (grownCap w m.size 0 5)).size, (bytesRow m (grownCap w m.size 0 5)).size + 1)) = w1 at hcv hb0 hl0
  have hlen : m.data.toList.length = m.size := by simp
  have hce := hb0.cell (i / 8) (by omega)
  have hfr := hb0.free (i / 8) (by omega)
  have HB := Lib.hid (And.intro hb0 hl0)
  have HS := Lib.hid (setA_set m i is him)
  obtain ⟨x, hx⟩ : ∃ x, x = m.data.toList.getD (i / 8) 0 := ⟨_, rfl⟩
  rw [← hx] at hce HS
  have HL := Lib.hid hlen
  have hm2 : m.size ≤ 1099511627776 := by omega
  have h1n : 1 < n := by omega
  clear hb0 hl0 hlen hx hmm
  go_enter Try.func49, Try.ntmps49
  go_wp2
  go_region
  rw [bit_not]
  have hs1 := (HB.out.1.set (i / 8) (keep8 x (i % 8) false)).drew
  have hl1 : Below w.heap.size w (w1.setCell ⟨w.heap.size, i / 8, none⟩ (.int .u8 ((keep8 x (i % 8) false).toNat : Int))).drew := ((HB.out.2.setCell (p := ⟨w.heap.size, i / 8, none⟩) (Nat.le_refl _) _)).drew
  generalize (w1.setCell ⟨w.heap.size, i / 8, none⟩ (.int .u8 ((keep8 x (i % 8) false).toNat : Int))).drew = w2 at hs1 hl1 ⊢
  have hce2 := hs1.cell (i / 8) (by rw [List.length_set]; have := HL.out; omega)
  have hfr2 := hs1.free (i / 8) (by rw [List.length_set]; have := HL.out; omega)
  rw [show (m.data.toList.set (i / 8) (keep8 x (i % 8) false)).getD (i / 8) 0 = keep8 x (i % 8) false by rw [List.getD_eq_getElem?_getD, List.getElem?_set, if_pos rfl, if_pos (by have := HL.out; omega)]; rfl] at hce2
  have HB2 := Lib.hid (And.intro hs1 hl1)
  clear hs1 hl1 hce hfr hcv HB
  cases is with
  | false =>
    have R2 := Lib.hid (H.out.step HB2.out.2)
    have hr2 := refOwn_any _ n c img _ R2.out (by omega)
    go_wp2_with fail
    refine hr2.mono ?_
    rintro e w5 ⟨A5, c5, rfl, ho5, hb5⟩
    obtain ⟨g, rfl, hO⟩ := OwI.of ho5 (by omega)
    have O5 := Lib.hid (show OwI w5 w.heap.size g n c5 img from ⟨own_base hO.own HB2.out.2.size, hO.pos⟩)
    have B5 := Lib.hid (HB2.out.2.trans (hb5.mono HB2.out.2.size))
    have hcv2 := (HB2.out.1.step hb5).conv (P := Try.prog) Try.underlying69 Try.underlying5 Try.underlying9 (grownCap w m.size 0 5) m.size (by rw [List.length_set]; exact HL.out)
    rw [HS.out] at hcv2
    have c1 := O5.out.cell 1 h1n
    have f1 := O5.out.free 1
    have hE : Hid (img.set 1 (setA m i false) = setI img i false) := Lib.hid (by unfold setI; rw [← HM.out])
    have hset := O5.out.set 1 (setA m i false)
    rw [hE.out] at hset
    have HF := Lib.hid (And.intro hset (O5.out.below_set 1 (.string (setA m i false)) (Nat.le_refl _) B5.out))
    clear hO ho5 hb5 hr2 hset hce2 hfr2
    go_wp2
    go_ret
    exact ⟨g, c5, rfl, HF.out⟩
  | true =>
    go_wp2
    go_region
    rw [bit_or, keep_twice]
    have hs1 := (HB2.out.1.set (i / 8) (keep8 x (i % 8) true)).drew
    rw [List.set_set] at hs1
    have hl1 : Below w.heap.size w (w2.setCell ⟨w.heap.size, i / 8, none⟩ (.int .u8 ((keep8 x (i % 8) true).toNat : Int))).drew := ((HB2.out.2.setCell (p := ⟨w.heap.size, i / 8, none⟩) (Nat.le_refl _) _)).drew
    generalize (w2.setCell ⟨w.heap.size, i / 8, none⟩ (.int .u8 ((keep8 x (i % 8) true).toNat : Int))).drew = w3 at hs1 hl1 ⊢
    clear HB2
    have HB2 := Lib.hid (And.intro hs1 hl1)
    clear hs1 hl1
    have R2 := Lib.hid (H.out.step HB2.out.2)
    have hr2 := refOwn_any _ n c img _ R2.out (by omega)
    go_wp2_with fail
    refine hr2.mono ?_
    rintro e w5 ⟨A5, c5, rfl, ho5, hb5⟩
    obtain ⟨g, rfl, hO⟩ := OwI.of ho5 (by omega)
    have O5 := Lib.hid (show OwI w5 w.heap.size g n c5 img from ⟨own_base hO.own HB2.out.2.size, hO.pos⟩)
    have B5 := Lib.hid (HB2.out.2.trans (hb5.mono HB2.out.2.size))
    have hcv2 := (HB2.out.1.step hb5).conv (P := Try.prog) Try.underlying69 Try.underlying5 Try.underlying9 (grownCap w m.size 0 5) m.size (by rw [List.length_set]; exact HL.out)
    rw [HS.out] at hcv2
    have c1 := O5.out.cell 1 h1n
    have f1 := O5.out.free 1
    have hE : Hid (img.set 1 (setA m i true) = setI img i true) := Lib.hid (by unfold setI; rw [← HM.out])
    have hset := O5.out.set 1 (setA m i true)
    rw [hE.out] at hset
    have HF := Lib.hid (And.intro hset (O5.out.below_set 1 (.string (setA m i true)) (Nat.le_refl _) B5.out))
    clear hO ho5 hb5 hr2 hset hce2 hfr2
    go_wp2
    go_ret
    exact ⟨g, c5, rfl, HF.out⟩

end Go.Proofs.Ytihmgamdnmipaaa
