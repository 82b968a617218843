/-
  Images of blocks and their map, as plain lists.
-/
import Derived.Test.YtihmgamdnmipaaaWalMath
import Derived.Test.YtihmgamdnmipaaaWalWords
namespace Go.Proofs.Ytihmgamdnmipaaa
open Go.RowKit

def cntA (n : Nat) : Nat := max 4 (n / 4 - n / 4 % 4)
def firstA (n : Nat) : Nat := 2 + cntA n / 4
def superL (n : Nat) : List UInt8 := [65, 70, 83, 49, UInt8.ofNat (n / 256), UInt8.ofNat n, UInt8.ofNat (cntA n / 256), UInt8.ofNat (cntA n)]
def superB (n : Nat) : ByteArray := padL (superL n)
/-- A byte of a map, a block's bit. -/
def byA (m : ByteArray) (k : Nat) : Nat := (m.data.toList.getD k 0).toNat
def bitA (m : ByteArray) (i : Nat) : Bool := (byA m (i / 8)).testBit (i % 8)
def flip8 (x : UInt8) (k : Nat) : UInt8 := UInt8.ofNat (x.toNat ^^^ 2 ^ k)
def flipA (m : ByteArray) (i : Nat) : ByteArray := mkB (m.data.toList.modify (i / 8) (fun x => flip8 x (i % 8)))

def FitA (img : List ByteArray) : Prop := (8 ≤ img.length ∧ img.length ≤ 512) ∧ (∀ s ∈ img, s.size = 128) ∧ blk img 0 = superB img.length ∧ ∀ b, b < 1024 → (b < firstA img.length → bitA (blk img 1) b = true) ∧ (img.length ≤ b → bitA (blk img 1) b = false)
instance (img : List ByteArray) : Decidable (FitA img) := by unfold FitA; infer_instance
def takenA (img : List ByteArray) (i : Int) : Bool := decide (0 ≤ i ∧ i < img.length) && bitA (blk img 1) i.toNat
/-- The free blocks below i. -/
def freeTo (img : List ByteArray) (i : Nat) : List Nat := (List.range i).filter fun k => decide (firstA img.length ≤ k) && !bitA (blk img 1) k
def freeA (img : List ByteArray) : List Nat := freeTo img img.length
def turn1A (c : List ByteArray) (i : Nat) : List ByteArray := c.set 1 (flipA (blk c 1) i)
def take1A (c : List ByteArray) (i : Nat) : List ByteArray := (turn1A c i).set i zeroB
def tookA (img : List ByteArray) (l : List Nat) : List ByteArray := l.foldl take1A img
def takeA (img : List ByteArray) (n : Int) : List ByteArray × List Nat × Int :=
  if n < 0 then (img, [], 13) else if (freeA img).length < n then (img, [], 18) else (tookA img ((freeA img).take n.toNat), (freeA img).take n.toNat, 0)
def gaveA : List ByteArray → List Int → Option (List ByteArray)
  | c, [] => some c
  | c, i :: l => if bitA (blk c 1) i.toNat = true then gaveA (turn1A c i.toNat) l else none
def outA (img : List ByteArray) (i : Int) : Prop := i < (firstA img.length : Int) ∨ (img.length : Int) ≤ i
instance (img : List ByteArray) (i : Int) : Decidable (outA img i) := by unfold outA; infer_instance
def giveA (img : List ByteArray) (l : List Int) : List ByteArray × Int :=
  if ∃ i ∈ l, outA img i then (img, 15) else match gaveA img l with
  | none => (img, 20)
  | some c => (c, 0)

theorem first_le {n : Nat} (h : 8 ≤ n) (h2 : n ≤ 512) : 3 ≤ firstA n ∧ firstA n ≤ 34 ∧ firstA n ≤ n ∧ cntA n ≤ 128 ∧ 4 ≤ cntA n := by
  unfold firstA cntA; omega
theorem cnt_mod (n : Nat) : (cntA n + 3) / 4 = cntA n / 4 := by unfold cntA; omega

section
variable {img c : List ByteArray} {i : Nat}
theorem freeTo_zero (h : i ≤ firstA img.length) : freeTo img i = [] := by
  unfold freeTo
  rw [List.filter_eq_nil_iff]
  intro k hk
  have := List.mem_range.1 hk
  simp; omega
theorem freeTo_no (h : bitA (blk img 1) i = true) : freeTo img (i + 1) = freeTo img i := by
  unfold freeTo
  rw [List.range_succ, List.filter_append]
  simp [h]
theorem freeTo_yes (h : bitA (blk img 1) i = false) (hi : firstA img.length ≤ i) : freeTo img (i + 1) = freeTo img i ++ [i] := by
  unfold freeTo
  rw [List.range_succ, List.filter_append]
  simp [h, hi]
theorem freeTo_len (i : Nat) : (freeTo img i).length ≤ i := by
  unfold freeTo
  exact Nat.le_trans (List.length_filter_le ..) (by simp)
theorem freeTo_mem {i k : Nat} : k ∈ freeTo img i ↔ k < i ∧ firstA img.length ≤ k ∧ bitA (blk img 1) k = false := by
  unfold freeTo
  simp [List.mem_filter]
theorem freeTo_pre {i j : Nat} (h : i ≤ j) : freeTo img i <+: freeTo img j := by
  induction j with
  | zero => obtain rfl : i = 0 := by omega
            exact List.prefix_refl _
  | succ j ih =>
    rcases Nat.lt_or_ge j i with h1 | h1
    · obtain rfl : i = j + 1 := by omega
      exact List.prefix_refl _
    · refine (ih h1).trans ?_
      cases hb : bitA (blk img 1) j with
      | true => rw [freeTo_no hb]; exact List.prefix_refl _
      | false =>
        rcases Nat.lt_or_ge j (firstA img.length) with h2 | h2
        · rw [freeTo_zero (img := img) (by omega), freeTo_zero (img := img) (by omega)]; exact List.prefix_refl _
        · rw [freeTo_yes hb h2]; exact List.prefix_append _ _
end

theorem flip8_bit (x : UInt8) (k j : Nat) (hk : k < 8) (hj : j < 8) : (flip8 x k).toNat.testBit j = (if j = k then !x.toNat.testBit j else x.toNat.testBit j) := by
  have h1 : x.toNat ^^^ 2 ^ k < 256 := Nat.xor_lt_two_pow (n := 8) x.toNat_lt (Nat.pow_lt_pow_right (by omega) hk)
  unfold flip8
  rw [UInt8.toNat_ofNat_of_lt' (by simpa using h1), Nat.testBit_xor, Nat.testBit_two_pow]
  by_cases h : k = j
  · subst h; simp
  · rw [if_neg (fun e => h e.symm)]; simp [h]
theorem byA_lt (m : ByteArray) (k : Nat) : byA m k < 256 := by unfold byA; exact UInt8.toNat_lt _
theorem flipA_size (m : ByteArray) (i : Nat) : (flipA m i).size = m.size := by
  show (m.data.toList.modify _ _).toArray.size = m.data.size
  simp
theorem byA_flip (m : ByteArray) (i k : Nat) (hi : i / 8 < m.size) : byA (flipA m i) k = if k = i / 8 then (flip8 (m.data.toList.getD (i / 8) 0) (i % 8)).toNat else byA m k := by
  have hi' : i / 8 < m.data.toList.length := by simpa using hi
  unfold byA flipA mkB
  show UInt8.toNat (List.getD (List.toArray _).toList k 0) = _
  rw [List.getD_eq_getElem?_getD, List.getD_eq_getElem?_getD, List.getD_eq_getElem?_getD]
  simp only [List.getElem?_modify]
  by_cases h : k = i / 8
  · subst h
    rw [if_pos rfl, List.getElem?_eq_getElem hi']
    simp
  · rw [if_neg h]
    have h2 : ¬ i / 8 = k := fun e => h e.symm
    simp [h2]
theorem bit_flip (m : ByteArray) (i j : Nat) (hi : i / 8 < m.size) : bitA (flipA m i) j = if j = i then !bitA m j else bitA m j := by
  unfold bitA
  rw [byA_flip m i _ hi]
  by_cases h : j / 8 = i / 8
  · rw [if_pos h, flip8_bit _ _ _ (by omega) (by omega)]
    by_cases h2 : j = i
    · subst h2
      rw [if_pos rfl, if_pos rfl]; rfl
    · rw [if_neg (by omega), if_neg h2]; unfold byA; rw [h]
  · rw [if_neg h, if_neg (fun e => h (by rw [e]))]
/-- Maps of one length with the same bits are the same. -/
theorem ext_bits {a b : ByteArray} (hs : a.size = b.size) (h : ∀ i, i < 8 * a.size → bitA a i = bitA b i) : a = b := by
  refine ByteArray.ext (Array.toList_inj.1 (List.ext_getElem? fun k => ?_))
  have hl : a.data.toList.length = b.data.toList.length := by simpa using hs
  by_cases hk : k < a.data.toList.length
  · rw [List.getElem?_eq_getElem hk, List.getElem?_eq_getElem (by omega)]
    congr 1
    apply UInt8.toNat_inj.1
    apply Nat.eq_of_testBit_eq
    intro j
    rcases Nat.lt_or_ge j 8 with hj | hj
    · have hk' : k < a.size := by simpa using hk
      have := h (8 * k + j) (by omega)
      unfold bitA byA at this
      rw [show (8 * k + j) / 8 = k by omega, show (8 * k + j) % 8 = j by omega] at this
      rw [List.getD_eq_getElem?_getD, List.getD_eq_getElem?_getD, List.getElem?_eq_getElem hk, List.getElem?_eq_getElem (by omega)] at this
      exact this
    · rw [Nat.testBit_lt_two_pow (Nat.lt_of_lt_of_le (UInt8.toNat_lt _) (by simpa using Nat.pow_le_pow_right (n := 2) (by omega) hj)), Nat.testBit_lt_two_pow (Nat.lt_of_lt_of_le (UInt8.toNat_lt _) (by simpa using Nat.pow_le_pow_right (n := 2) (by omega) hj))]
  · rw [List.getElem?_eq_none (by omega), List.getElem?_eq_none (by omega)]
theorem flip_flip (m : ByteArray) (i : Nat) (hi : i / 8 < m.size) : flipA (flipA m i) i = m := by
  refine ext_bits (by rw [flipA_size, flipA_size]) fun j hj => ?_
  rw [bit_flip _ _ _ (by rw [flipA_size]; exact hi), bit_flip _ _ _ hi]
  by_cases h : j = i <;> simp [h]
theorem flip_comm (m : ByteArray) (i j : Nat) (hi : i / 8 < m.size) (hj : j / 8 < m.size) : flipA (flipA m i) j = flipA (flipA m j) i := by
  refine ext_bits (by rw [flipA_size, flipA_size, flipA_size, flipA_size]) fun k hk => ?_
  rw [bit_flip _ _ _ (by rw [flipA_size]; exact hj), bit_flip _ _ _ hi, bit_flip _ _ _ (by rw [flipA_size]; exact hi), bit_flip _ _ _ hj]
  by_cases h : k = i
  · by_cases h2 : k = j
    · subst h; subst h2; simp
    · rw [if_neg h2, if_pos h, if_neg h2, if_pos h]
  · by_cases h2 : k = j
    · rw [if_pos h2, if_neg h, if_neg h, if_pos h2]
    · rw [if_neg h2, if_neg h, if_neg h, if_neg h2]

end Go.Proofs.Ytihmgamdnmipaaa
