/-
  The small answers of the program on an image: how many inodes, where data begin, its map's bits.
-/
import Derived.Test.YtihmgamdnmipaaaAllocMath
import Derived.Test.YtihmgamdnmipaaaDevRepeat
import Derived.Test.YtihmgamdnmipaaaDevLib
import Derived.Test.YtihmgamdnmipaaaAllocBytes
import Derived.RegionTactic
import Derived.ChangeAlike
namespace Go.Proofs.Ytihmgamdnmipaaa
open Go.RowKit

set_option maxRecDepth 100000 in
theorem isCount_any (x : Int) (w : World) : Calls Try.prog 43 #[.int .i64 x] w fun e w' => e = .returned (.bool (decide (8 ≤ x ∧ x ≤ 512))) ∧ w = w' := by
  by_cases h : 8 ≤ x
  · by_cases h2 : x ≤ 512
    · have e : decide (8 ≤ x ∧ x ≤ 512) = true := decide_eq_true ⟨h, h2⟩
      rw [e]
      go_enter Try.func43, Try.ntmps43
      go_wp2
      go_ret
      exact ⟨rfl, rfl⟩
    · have e : decide (8 ≤ x ∧ x ≤ 512) = false := decide_eq_false fun hh => h2 hh.2
      rw [e]
      go_enter Try.func43, Try.ntmps43
      go_wp2
      go_ret
      exact ⟨rfl, rfl⟩
  · have e : decide (8 ≤ x ∧ x ≤ 512) = false := decide_eq_false fun hh => h hh.1
    rw [e]
    go_enter Try.func43, Try.ntmps43
    go_wp2
    go_ret
    exact ⟨rfl, rfl⟩

set_option maxRecDepth 100000 in
theorem inodes_any (A : Option Addr) (n c : Nat) (hn : n ≤ maxLen) (w : World) : Calls Try.prog 28 #[.slice A n c] w fun e w' => e = .returned (.int .i64 (cntA n : Nat)) ∧ w = w' := by
  unfold maxLen at hn
  go_enter Try.func28, Try.ntmps28
  go_wp2
  go_ret
  exact ⟨congrArg (fun z => Ending.returned (Value.int .i64 z)) (by unfold cntA; omega), rfl⟩

set_option maxRecDepth 100000 in
theorem first_any (A : Option Addr) (n c : Nat) (hn : n ≤ maxLen) (w : World) : Calls Try.prog 26 #[.slice A n c] w fun e w' => e = .returned (.int .i64 (firstA n : Nat)) ∧ w = w' := by
  have ci := fun W => inodes_any A n c hn W
  have hc : cntA n ≤ maxLen := by unfold cntA; unfold maxLen at hn ⊢; omega
  have hf : firstA n = 2 + cntA n / 4 := rfl
  unfold maxLen at hc
  have HF := Lib.hid hf
  clear hf
  generalize cntA n = k at ci hc HF
  go_enter Try.func26, Try.ntmps26
  go_wp2_with (go_at_call 28; refine (ci _).mono ?_; rintro e w1 ⟨rfl, rfl⟩)
  go_ret
  exact ⟨congrArg (fun z => Ending.returned (Value.int .i64 z)) (by rw [HF.out]; omega), rfl⟩

theorem and8 : ∀ x : Fin 256, ∀ k : Fin 8, (bits BinOp.and IntKind.u8 ((x.val : Int) / 2 ^ k.val) 1 == 1) = x.val.testBit k.val := by decide +kernel
theorem bit_and (m : ByteArray) (i : Nat) (hi : i / 8 < m.size) : (bits BinOp.and IntKind.u8 ((m[i / 8].toNat : Int) / 2 ^ (i % 8)) 1 == 1) = bitA m i := by
  have h := and8 ⟨m[i / 8].toNat, UInt8.toNat_lt _⟩ ⟨i % 8, by omega⟩
  dsimp only at h
  rw [h]
  unfold bitA byA
  rw [List.getD_eq_getElem?_getD, List.getElem?_eq_getElem (by simpa using hi)]
  rfl
set_option maxRecDepth 100000 in
theorem isTaken_any (m : ByteArray) (i : Nat) (hi : i / 8 < m.size) (h2 : i ≤ 1099511627776) (w : World) : Calls Try.prog 51 #[.string m, .int .i64 i] w fun e w' => e = .returned (.bool (bitA m i)) ∧ w = w' := by
  go_enter Try.func51, Try.ntmps51
  go_wp2
  go_ret
  exact ⟨congrArg (fun z => Ending.returned (Value.bool z)) (bit_and m i hi), rfl⟩

/-- The map of an image in memory is long enough. -/
def MapP (img : List ByteArray) : Prop := (8 ≤ img.length ∧ img.length ≤ 512) ∧ (blk img 1).size = 128
theorem FitA.map {img : List ByteArray} (h : FitA img) : MapP img := ⟨⟨by have := h.1; omega, h.1.2⟩, h.2.1 _ (List.mem_of_getElem? (blk_get (by have := h.1; omega)))⟩
set_option maxRecDepth 100000 in
theorem mapped_any (A : Option Addr) (n c : Nat) (img : List ByteArray) (w : World) (h : Reads w w.heap.size 1 A n (encS img)) (hf : MapP img) : Calls Try.prog 54 #[.slice A n c] w fun e w' => e = .returned (.int .i64 n) ∧ w = w' := by
  have hl := h.lenS
  obtain ⟨⟨h8, h512⟩, hsz⟩ := hf
  obtain ⟨b, o, rfl, _, g1⟩ := h.str (k := 1) (by omega)
  generalize blk img 1 = m at g1 hsz
  have hn1 : 1 < n := by omega
  have hn5 : n ≤ 512 := by omega
  clear h hl h8 h512
  go_enter Try.func54, Try.ntmps54
  go_wp2
  go_ret
  exact ⟨congrArg (fun z => Ending.returned (Value.int .i64 z)) (by omega), rfl⟩

theorem xor8 : ∀ x : Fin 256, ∀ k : Fin 8, bits BinOp.xor IntKind.u8 (x.val : Int) (2 ^ k.val % 256) = ((UInt8.ofNat (x.val ^^^ 2 ^ k.val)).toNat : Int) := by decide +kernel
theorem bit_xor (x : UInt8) (i : Nat) : bits BinOp.xor IntKind.u8 (x.toNat : Int) (2 ^ (i % 8) % 256) = ((flip8 x (i % 8)).toNat : Int) := xor8 ⟨x.toNat, UInt8.toNat_lt _⟩ ⟨i % 8, by omega⟩
theorem flipA_set (m : ByteArray) (i : Nat) (hi : i / 8 < m.size) : mkB (m.data.toList.set (i / 8) (flip8 (m.data.toList.getD (i / 8) 0) (i % 8))) = flipA m i := by
  have hi' : i / 8 < m.data.toList.length := by simpa using hi
  unfold flipA
  congr 1
  rw [List.getD_eq_getElem?_getD, List.getElem?_eq_getElem hi']
  refine List.ext_getElem? fun j => ?_
  rw [List.getElem?_modify, List.getElem?_set]
  by_cases h : i / 8 = j
  · subst h
    rw [if_pos rfl, if_pos hi', List.getElem?_eq_getElem hi']
    simp
  · rw [if_neg h]
    simp [h]
set_option maxRecDepth 100000 in
theorem turned_any (m : ByteArray) (i : Nat) (hi : i / 8 < m.size) (hm : m.size ≤ 1099511627776) (h2 : i ≤ 1099511627776) (w : World) : Calls Try.prog 47 #[.string m, .int .i64 i] w fun e w' => e = .returned (.string (flipA m i)) ∧ Below w.heap.size w w' := by
  have hcv := run_bytes_of_string (P := Try.prog) w 9 69 5 m Try.underlying9 Try.underlying69 Try.underlying5
  have hb0 := Byt.of_text w 5 m (grownCap w m.size 0 5)
  have hl0 := Byt.of_text_below w 5 m (grownCap w m.size 0 5)
  generalize w.drew.alloc (.cells (bytesRow m (grownCap w m.size 0 5)) 5 ((bytesRow m (grownCap w m.size 0 5)).size, (bytesRow m (grownCap w m.size 0 5)).size + 1)) = w1 at hcv hb0 hl0
  have hlen : m.data.toList.length = m.size := by simp
  have hce := hb0.cell (i / 8) (by omega)
  have hfr := hb0.free (i / 8) (by omega)
  have HB := Lib.hid (And.intro hb0 hl0)
  obtain ⟨x, hx⟩ : ∃ x, x = m.data.toList.getD (i / 8) 0 := ⟨_, rfl⟩
  rw [← hx] at hce
  have HX := Lib.hid hx
  have HL := Lib.hid hlen
  clear hb0 hl0 hlen hx
  go_enter Try.func47, Try.ntmps47
  go_wp2
  go_region
  rw [bit_xor]
  have hs1 := (HB.out.1.set (i / 8) (flip8 x (i % 8))).drew
  have hl1 : Below w.heap.size w (w1.setCell ⟨w.heap.size, i / 8, none⟩ (.int .u8 ((flip8 x (i % 8)).toNat : Int))).drew := ((HB.out.2.setCell (p := ⟨w.heap.size, i / 8, none⟩) (Nat.le_refl _) _)).drew
  generalize (w1.setCell ⟨w.heap.size, i / 8, none⟩ (.int .u8 ((flip8 x (i % 8)).toNat : Int))).drew = w2 at hs1 hl1 ⊢
  have hcv2 := hs1.conv (P := Try.prog) Try.underlying69 Try.underlying5 Try.underlying9 (grownCap w m.size 0 5) m.size (by rw [List.length_set]; exact HL.out)
  rw [HX.out, flipA_set m i hi] at hcv2
  have HB2 := Lib.hid hl1
  clear hs1 hl1 hce hfr hcv
  go_wp2
  go_ret
  exact ⟨rfl, HB2.out⟩

end Go.Proofs.Ytihmgamdnmipaaa
