/-
  A log over a device, as plain lists: how it is laid out, a commit, a recovery; and that devices stay fit.
-/
import Derived.Test.YtcfmpmcdfllibaaG01
import Derived.Test.YtcfmpmcdfllibaaG02
import Derived.Deep.QuietTactic
import Derived.BigQuiet
import Derived.Deep.RegionHeld3
import Derived.Shelf.Bits.Mul64
import Derived.Shelf.Strings.Repeat
import Derived.Test.YtcfmpmcdfllibaaProg
import Derived.LoopTactic
import Derived.Laws.CopyOwn
import Derived.Deep.RegionLaw
namespace Go.Proofs.Ytcfmpmcdfllibaa

/-- A write, or a flush. -/
inductive Step where
  | put (i : Int) (s : ByteArray)
  | flush
def stepD (x : D × Int) : Step → D × Int
  | .put i s => if x.2 = 0 then writeD x.1 i s else x
  | .flush => if x.2 = 0 then flushD x.1 else x
theorem stepD_W (x : D × Int) (i : Int) (s : ByteArray) : stepD x (.put i s) = if x.2 = 0 then writeD x.1 i s else x := rfl
theorem stepD_F (x : D × Int) : stepD x .flush = if x.2 = 0 then flushD x.1 else x := rfl
/-- One after another, up to the first error. -/
def runD (x : D × Int) (l : List Step) : D × Int := l.foldl stepD x
theorem runD_nil (x : D × Int) : runD x [] = x := rfl
theorem runD_cons (x : D × Int) (s : Step) (l : List Step) : runD x (s :: l) = runD (stepD x s) l := rfl
theorem runD_app (x : D × Int) (a b : List Step) : runD x (a ++ b) = runD (runD x a) b := by simp [runD]
theorem stepD_err {x : D × Int} (h : x.2 ≠ 0) (s : Step) : stepD x s = x := by cases s <;> simp [stepD, h]
theorem runD_err {x : D × Int} (h : x.2 ≠ 0) : ∀ l : List Step, runD x l = x
  | [] => rfl
  | s :: l => by rw [runD_cons, stepD_err h s]; exact runD_err h l

theorem fit_write {d : D} (h : FitP d) (i : Int) (s : ByteArray) : FitP (writeD d i s).1 := by
  unfold writeD
  by_cases h1 : d.dead = true
  · rw [if_pos h1]; exact h
  rw [if_neg h1]
  by_cases h2 : ¬ (at_ d.bs i ∧ s.size = 128)
  · rw [if_pos h2]; exact h
  rw [if_neg h2]
  by_cases h3 : 4096 ≤ d.cs.length
  · rw [if_pos h3]; exact h
  rw [if_neg h3]
  have h2' : at_ d.bs i ∧ s.size = 128 := Decidable.not_not.1 h2
  obtain ⟨⟨a1, a2, a3, a4, a5⟩, hb, hc⟩ := h
  by_cases h4 : d.left = 0
  · rw [if_pos h4]
    exact ⟨⟨a1, a2, a3, a4, fun _ => h4⟩, hb, hc⟩
  rw [if_neg h4]
  refine ⟨⟨a1, a2, ?_, ?_, fun h => absurd h h1⟩, hb, fun p hp => ?_⟩
  · show (d.cs ++ [(i, s)]).length ≤ 4096
    simp; omega
  · show -1 ≤ (if 0 < d.left then d.left - 1 else d.left)
    split <;> omega
  · rcases List.mem_append.1 hp with hp | hp
    · exact hc p hp
    · obtain rfl : p = (i, s) := by simpa using hp
      exact ⟨h2'.1.1, h2'.1.2, h2'.2⟩
theorem fit_flush {d : D} (h : FitP d) : FitP (flushD d).1 := by
  unfold flushD
  by_cases h1 : d.dead = true
  · rw [if_pos h1]; exact h
  rw [if_neg h1]
  obtain ⟨⟨a1, a2, a3, a4, a5⟩, hb, hc⟩ := h
  by_cases h4 : d.left = 0
  · rw [if_pos h4]
    exact ⟨⟨a1, a2, a3, a4, fun _ => h4⟩, hb, hc⟩
  rw [if_neg h4]
  refine ⟨⟨?_, ?_, by simp, ?_, fun h => absurd h h1⟩, settleL_sizes _ _ _ hb (fun p hp => (hc p hp).2.2), by simp [CsP]⟩
  · show 1 ≤ (allL d.bs d.cs).length
    rw [allL_length]; exact a1
  · show (allL d.bs d.cs).length ≤ 1024
    rw [allL_length]; exact a2
  · show -1 ≤ (if 0 < d.left then d.left - 1 else d.left)
    split <;> omega
theorem fit_step {x : D × Int} (h : FitP x.1) (s : Step) : FitP (stepD x s).1 := by
  cases s with
  | put i s => rw [stepD_W]; split; exact fit_write h i s; exact h
  | flush => rw [stepD_F]; split; exact fit_flush h; exact h
theorem fit_run : ∀ (l : List Step) {x : D × Int}, FitP x.1 → FitP (runD x l).1
  | [], _, h => h
  | s :: l, _, h => fit_run l (fit_step h s)
theorem fit_arm {d : D} (h : FitP d) (n : Int) : FitP (armD d n) := by
  unfold armD
  by_cases h1 : d.dead = true
  · rw [if_pos h1]; exact h
  rw [if_neg h1]
  exact ⟨⟨h.1.1, h.1.2.1, h.1.2.2.1, by show -1 ≤ max n (-1); omega, fun h => absurd h h1⟩, h.2⟩
theorem fit_new {n : Int} (h : 1 ≤ n ∧ n ≤ 1024) : FitP (newD n) := by
  unfold newD
  rw [if_neg (by omega)]
  refine ⟨⟨?_, ?_, by simp, by simp, by simp⟩, fun b hb => ?_, by simp [CsP]⟩
  · simp; omega
  · simp; omega
  · rw [(List.mem_replicate.1 hb).2]; exact zeroB_size
theorem left_step {x : D × Int} (h : x.1.left ≤ 9223372036854775807) (s : Step) : (stepD x s).1.left ≤ 9223372036854775807 := by
  cases s with
  | put i s =>
    rw [stepD_W]; split
    · unfold writeD
      split
      · exact h
      split
      · exact h
      split
      · exact h
      split
      · exact h
      dsimp only
      split <;> omega
    · exact h
  | flush =>
    rw [stepD_F]; split
    · unfold flushD
      split
      · exact h
      split
      · exact h
      dsimp only
      split <;> omega
    · exact h
theorem blocks_step (x : D × Int) (s : Step) : (stepD x s).1.bs.length = x.1.bs.length := by
  cases s with
  | put i s =>
    rw [stepD_W]; split
    · unfold writeD
      split
      · rfl
      split
      · rfl
      split
      · rfl
      split <;> rfl
    · rfl
  | flush =>
    rw [stepD_F]; split
    · unfold flushD
      split
      · rfl
      split
      · rfl
      exact allL_length _ _
    · rfl

/-! ### How it is laid out -/
def listsN (h : Nat) : Nat := (h + 63) / 64
def blocksI (home log : Int) : Int := if home < 1 ∨ 512 < home ∨ log < 1 ∨ 256 < log then 0 else 1 + (home + 63) / 64 + log + home
def wrongE (d : D) (home log : Int) : Int := if blocksI home log = 0 then 13 else if (d.bs.length : Int) ≠ blocksI home log then 14 else 0
def homeAt (h g i : Nat) : Nat := 1 + listsN h + g + i
/-- What is read of each home block. -/
def homeL (d : D) (h g : Nat) : List ByteArray := (List.range h).map fun i => (readD d (homeAt h g i : Nat)).1
def homeD (d : D) (home log : Int) : List ByteArray × Int :=
  if wrongE d home log ≠ 0 then ([], wrongE d home log) else if d.dead = true then ([], 17) else (homeL d home.toNat log.toNat, 0)
/-- The places, rising, at which two images differ. -/
def changedL (a b : List ByteArray) : List Nat := (List.range (max a.length b.length)).filter fun i => decide (a[i]? ≠ b[i]?)
def ImageP (img : List ByteArray) (home : Int) : Prop := (∀ s ∈ img, s.size = 128) ∧ (img.length : Int) = home
instance (img : List ByteArray) (home : Int) : Decidable (ImageP img home) := by unfold ImageP; exact inferInstance

/-! ### Numbers as bytes, the highest first -/
def mkB (l : List UInt8) : ByteArray := ⟨l.toArray⟩
def beL (n k : Nat) : List UInt8 := (List.range k).map fun j => UInt8.ofNat (n / 256 ^ (k - 1 - j))
def neL (l : List UInt8) : Nat := l.foldl (fun n b => n * 256 + b.toNat) 0
def padL (l : List UInt8) : ByteArray := mkB (l ++ List.replicate (128 - l.length) 0)
def placesL (l : List Nat) : List UInt8 := l.flatMap fun p => beL p 2
def dataL (l : List Nat) (img : List ByteArray) : List UInt8 := l.flatMap fun p => (img.getD p ⟨#[]⟩).data.toList

end Go.Proofs.Ytcfmpmcdfllibaa

/-
  Words for lists of numbers in memory, and for worlds that have drawn.
-/
namespace Go.Proofs.Ytcfmpmcdfllibaa
open Go.RowKit

theorem below_drewN {B : Nat} {a w : World} (h : Below B a w) (k : Nat) : Below B a (w.drewN k) := ⟨h.1, h.2, h.3, h.4, h.5⟩
def encN (l : List Nat) : List Value := l.map fun k : Nat => Value.int .i64 (k : Int)
theorem encN_length (l : List Nat) : (encN l).length = l.length := by simp [encN]
theorem encN_app (a b : List Nat) : encN (a ++ b) = encN a ++ encN b := by simp [encN]
theorem encN_get {l : List Nat} {k : Nat} (hk : k < l.length) : (encN l)[k]? = some (.int .i64 (l.getD k 0 : Nat)) := by simp [encN, hk]
theorem nat_get {l : List Nat} {k : Nat} (hk : k < l.length) : l[k]? = some (l.getD k 0) := by simp [hk]
theorem encN_one (l : List Nat) : ∀ u ∈ encN l, u.oneCell' = true := by
  intro u hu
  obtain ⟨s, _, rfl⟩ := List.mem_map.1 hu
  rfl
section
variable {w : World} {B n : Nat} {A : Option Addr}
theorem Reads.lenN {l : List Nat} (h : Reads w B 1 A n (encN l)) : l.length = n := by have := h.1; rw [encN_length] at this; omega
theorem Reads.nat {l : List Nat} (h : Reads w B 1 A n (encN l)) {k : Nat} (hk : k < n) : ∃ b o, A = some ⟨b, o, none⟩ ∧ b < B ∧ w.cell? ⟨b, o + k, none⟩ = some (.int .i64 (l.getD k 0 : Nat)) := by
  obtain ⟨b, o, e, hb, hc⟩ := h.2 (by omega)
  exact ⟨b, o, e, hb, hc k _ (encN_get (by rw [h.lenN]; exact hk))⟩
end
theorem infoI : (Try.prog.info? 3).map (fun i => (i.zero, i.size, i.bytes)) = some (some (.int .i64 0), 1, 8) := by kernel_rfl


end Go.Proofs.Ytcfmpmcdfllibaa

/-
  Images of blocks and their map, as plain lists.
-/
namespace Go.Proofs.Ytcfmpmcdfllibaa
open Go.RowKit

def cntA (n : Nat) : Nat := max 4 (n / 4 - n / 4 % 4)
def firstA (n : Nat) : Nat := 2 + cntA n / 4
def superL (n : Nat) : List UInt8 := [65, 70, 83, 49, UInt8.ofNat (n / 256), UInt8.ofNat n, UInt8.ofNat (cntA n / 256), UInt8.ofNat (cntA n)]
def superB (n : Nat) : ByteArray := padL (superL n)
/-- A byte of a map, a block's bit. -/
def byA (m : ByteArray) (k : Nat) : Nat := (m.data.toList.getD k 0).toNat
def bitA (m : ByteArray) (i : Nat) : Bool := (byA m (i / 8)).testBit (i % 8)
def flip8 (x : UInt8) (k : Nat) : UInt8 := UInt8.ofNat (x.toNat ^^^ 2 ^ k)
def flipA (m : ByteArray) (i : Nat) : ByteArray := mkB (m.data.toList.modify (i / 8) (fun x => flip8 x (i % 8)))

def FitA (img : List ByteArray) : Prop := (8 ≤ img.length ∧ img.length ≤ 512) ∧ (∀ s ∈ img, s.size = 128) ∧ blk img 0 = superB img.length ∧ ∀ b, b < 1024 → (b < firstA img.length → bitA (blk img 1) b = true) ∧ (img.length ≤ b → bitA (blk img 1) b = false)
instance (img : List ByteArray) : Decidable (FitA img) := by unfold FitA; infer_instance
def takenA (img : List ByteArray) (i : Int) : Bool := decide (0 ≤ i ∧ i < img.length) && bitA (blk img 1) i.toNat
/-- The free blocks below i. -/
def freeTo (img : List ByteArray) (i : Nat) : List Nat := (List.range i).filter fun k => decide (firstA img.length ≤ k) && !bitA (blk img 1) k
def freeA (img : List ByteArray) : List Nat := freeTo img img.length
def turn1A (c : List ByteArray) (i : Nat) : List ByteArray := c.set 1 (flipA (blk c 1) i)
def take1A (c : List ByteArray) (i : Nat) : List ByteArray := (turn1A c i).set i zeroB
def tookA (img : List ByteArray) (l : List Nat) : List ByteArray := l.foldl take1A img
def takeA (img : List ByteArray) (n : Int) : List ByteArray × List Nat × Int :=
  if n < 0 then (img, [], 13) else if (freeA img).length < n then (img, [], 18) else (tookA img ((freeA img).take n.toNat), (freeA img).take n.toNat, 0)
def gaveA : List ByteArray → List Int → Option (List ByteArray)
  | c, [] => some c
  | c, i :: l => if bitA (blk c 1) i.toNat = true then gaveA (turn1A c i.toNat) l else none
def outA (img : List ByteArray) (i : Int) : Prop := i < (firstA img.length : Int) ∨ (img.length : Int) ≤ i
instance (img : List ByteArray) (i : Int) : Decidable (outA img i) := by unfold outA; infer_instance
def giveA (img : List ByteArray) (l : List Int) : List ByteArray × Int :=
  if ∃ i ∈ l, outA img i then (img, 15) else match gaveA img l with
  | none => (img, 20)
  | some c => (c, 0)

theorem first_le {n : Nat} (h : 8 ≤ n) (h2 : n ≤ 512) : 3 ≤ firstA n ∧ firstA n ≤ 34 ∧ firstA n ≤ n ∧ cntA n ≤ 128 ∧ 4 ≤ cntA n := by
  unfold firstA cntA; omega
theorem cnt_mod (n : Nat) : (cntA n + 3) / 4 = cntA n / 4 := by unfold cntA; omega

section
variable {img c : List ByteArray} {i : Nat}
theorem freeTo_zero (h : i ≤ firstA img.length) : freeTo img i = [] := by
  unfold freeTo
  rw [List.filter_eq_nil_iff]
  intro k hk
  have := List.mem_range.1 hk
  simp; omega
theorem freeTo_no (h : bitA (blk img 1) i = true) : freeTo img (i + 1) = freeTo img i := by
  unfold freeTo
  rw [List.range_succ, List.filter_append]
  simp [h]
theorem freeTo_yes (h : bitA (blk img 1) i = false) (hi : firstA img.length ≤ i) : freeTo img (i + 1) = freeTo img i ++ [i] := by
  unfold freeTo
  rw [List.range_succ, List.filter_append]
  simp [h, hi]
theorem freeTo_len (i : Nat) : (freeTo img i).length ≤ i := by
  unfold freeTo
  exact Nat.le_trans (List.length_filter_le ..) (by simp)
theorem freeTo_mem {i k : Nat} : k ∈ freeTo img i ↔ k < i ∧ firstA img.length ≤ k ∧ bitA (blk img 1) k = false := by
  unfold freeTo
  simp [List.mem_filter]
theorem freeTo_pre {i j : Nat} (h : i ≤ j) : freeTo img i <+: freeTo img j := by
  induction j with
  | zero => obtain rfl : i = 0 := by omega
            exact List.prefix_refl _
  | succ j ih =>
    rcases Nat.lt_or_ge j i with h1 | h1
    · obtain rfl : i = j + 1 := by omega
      exact List.prefix_refl _
    · refine (ih h1).trans ?_
      cases hb : bitA (blk img 1) j with
      | true => rw [freeTo_no hb]; exact List.prefix_refl _
      | false =>
        rcases Nat.lt_or_ge j (firstA img.length) with h2 | h2
        · rw [freeTo_zero (img := img) (by omega), freeTo_zero (img := img) (by omega)]; exact List.prefix_refl _
        · rw [freeTo_yes hb h2]; exact List.prefix_append _ _
end

theorem flip8_bit (x : UInt8) (k j : Nat) (hk : k < 8) (hj : j < 8) : (flip8 x k).toNat.testBit j = (if j = k then !x.toNat.testBit j else x.toNat.testBit j) := by
  have h1 : x.toNat ^^^ 2 ^ k < 256 := Nat.xor_lt_two_pow (n := 8) x.toNat_lt (Nat.pow_lt_pow_right (by omega) hk)
  unfold flip8
  rw [UInt8.toNat_ofNat_of_lt' (by simpa using h1), Nat.testBit_xor, Nat.testBit_two_pow]
  by_cases h : k = j
  · subst h; simp
  · rw [if_neg (fun e => h e.symm)]; simp [h]
theorem byA_lt (m : ByteArray) (k : Nat) : byA m k < 256 := by unfold byA; exact UInt8.toNat_lt _
theorem flipA_size (m : ByteArray) (i : Nat) : (flipA m i).size = m.size := by
  show (m.data.toList.modify _ _).toArray.size = m.data.size
  simp
theorem byA_flip (m : ByteArray) (i k : Nat) (hi : i / 8 < m.size) : byA (flipA m i) k = if k = i / 8 then (flip8 (m.data.toList.getD (i / 8) 0) (i % 8)).toNat else byA m k := by
  have hi' : i / 8 < m.data.toList.length := by simpa using hi
  unfold byA flipA mkB
  show UInt8.toNat (List.getD (List.toArray _).toList k 0) = _
  rw [List.getD_eq_getElem?_getD, List.getD_eq_getElem?_getD, List.getD_eq_getElem?_getD]
  simp only [List.getElem?_modify]
  by_cases h : k = i / 8
  · subst h
    rw [if_pos rfl, List.getElem?_eq_getElem hi']
    simp
  · rw [if_neg h]
    have h2 : ¬ i / 8 = k := fun e => h e.symm
    simp [h2]
theorem bit_flip (m : ByteArray) (i j : Nat) (hi : i / 8 < m.size) : bitA (flipA m i) j = if j = i then !bitA m j else bitA m j := by
  unfold bitA
  rw [byA_flip m i _ hi]
  by_cases h : j / 8 = i / 8
  · rw [if_pos h, flip8_bit _ _ _ (by omega) (by omega)]
    by_cases h2 : j = i
    · subst h2
      rw [if_pos rfl, if_pos rfl]; rfl
    · rw [if_neg (by omega), if_neg h2]; unfold byA; rw [h]
  · rw [if_neg h, if_neg (fun e => h (by rw [e]))]
/-- Maps of one length with the same bits are the same. -/
theorem ext_bits {a b : ByteArray} (hs : a.size = b.size) (h : ∀ i, i < 8 * a.size → bitA a i = bitA b i) : a = b := by
  refine ByteArray.ext (Array.toList_inj.1 (List.ext_getElem? fun k => ?_))
  have hl : a.data.toList.length = b.data.toList.length := by simpa using hs
  by_cases hk : k < a.data.toList.length
  · rw [List.getElem?_eq_getElem hk, List.getElem?_eq_getElem (by omega)]
    congr 1
    apply UInt8.toNat_inj.1
    apply Nat.eq_of_testBit_eq
    intro j
    rcases Nat.lt_or_ge j 8 with hj | hj
    · have hk' : k < a.size := by simpa using hk
      have := h (8 * k + j) (by omega)
      unfold bitA byA at this
      rw [show (8 * k + j) / 8 = k by omega, show (8 * k + j) % 8 = j by omega] at this
      rw [List.getD_eq_getElem?_getD, List.getD_eq_getElem?_getD, List.getElem?_eq_getElem hk, List.getElem?_eq_getElem (by omega)] at this
      exact this
    · rw [Nat.testBit_lt_two_pow (Nat.lt_of_lt_of_le (UInt8.toNat_lt _) (by simpa using Nat.pow_le_pow_right (n := 2) (by omega) hj)), Nat.testBit_lt_two_pow (Nat.lt_of_lt_of_le (UInt8.toNat_lt _) (by simpa using Nat.pow_le_pow_right (n := 2) (by omega) hj))]
  · rw [List.getElem?_eq_none (by omega), List.getElem?_eq_none (by omega)]
theorem flip_flip (m : ByteArray) (i : Nat) (hi : i / 8 < m.size) : flipA (flipA m i) i = m := by
  refine ext_bits (by rw [flipA_size, flipA_size]) fun j hj => ?_
  rw [bit_flip _ _ _ (by rw [flipA_size]; exact hi), bit_flip _ _ _ hi]
  by_cases h : j = i <;> simp [h]
theorem flip_comm (m : ByteArray) (i j : Nat) (hi : i / 8 < m.size) (hj : j / 8 < m.size) : flipA (flipA m i) j = flipA (flipA m j) i := by
  refine ext_bits (by rw [flipA_size, flipA_size, flipA_size, flipA_size]) fun k hk => ?_
  rw [bit_flip _ _ _ (by rw [flipA_size]; exact hj), bit_flip _ _ _ hi, bit_flip _ _ _ (by rw [flipA_size]; exact hi), bit_flip _ _ _ hj]
  by_cases h : k = i
  · by_cases h2 : k = j
    · subst h; subst h2; simp
    · rw [if_neg h2, if_pos h, if_neg h2, if_pos h]
  · by_cases h2 : k = j
    · rw [if_pos h2, if_neg h, if_neg h, if_pos h2]
    · rw [if_neg h2, if_neg h, if_neg h, if_neg h2]

end Go.Proofs.Ytcfmpmcdfllibaa

/-
  The contracts of Go's own strings.Repeat and math/bits.Mul at this program, out of the library's shelf: count copies of a text within one allocation; a product in two words.
-/
namespace Go.Proofs
open Go.Shelf
def Try.lays264_ren : Go.Shelf.Ren := ⟨fun | 264 => 91 | n => n, fun | 53 => 89 | 46 => 84 | n => n, fun | n => n⟩
theorem Try.lays264 : Go.Proofs.Lays.n264 Try.prog Try.lays264_ren := {
  mixed := by kernel_rfl
  f264 := Try.func91.trans (congrArg some (by kernel_rfl))
  t46 := Try.underlying84
  a46 := Try.isAgg84
  z46 := Try.sizeOf84
  v46 := Try.zeroValue84
  t53 := Try.underlying89
  a53 := Try.isAgg89
  z53 := Try.sizeOf89
  v53 := Try.zeroValue89 }
open Go.RowKit Go.Lib in
theorem Try.bits_Mul64 (x y : Nat) (hx : x < 18446744073709551616) (hy : y < 18446744073709551616) (w : World) :
    Calls Try.prog 91 #[.int .u64 x, .int .u64 y] w fun e w' => e = .returned (.tuple #[.int .u64 ((x * y / 18446744073709551616 : Nat) : Int), .int .u64 ((x * y % 18446744073709551616 : Nat) : Int)]) ∧ w' = w := Any.bits_Mul64 Try.lays264 x y hx hy w
def Try.lays212_ren : Go.Shelf.Ren := ⟨fun | 212 => 85 | 263 => 90 | 264 => 91 | n => n, fun | 46 => 84 | 51 => 115 | 146 => 116 | 53 => 89 | 148 => 118 | n => n, fun | n => n⟩
theorem Try.lays212 : Go.Proofs.Lays.n212 Try.prog Try.lays212_ren := {
  mixed := by kernel_rfl
  f212 := Try.func85.trans (congrArg some (by kernel_rfl))
  f263 := Try.func90.trans (congrArg some (by kernel_rfl))
  f264 := Try.func91.trans (congrArg some (by kernel_rfl))
  t46 := Try.underlying84
  a46 := Try.isAgg84
  z46 := Try.sizeOf84
  v46 := Try.zeroValue84
  t51 := Try.underlying115
  a51 := Try.isAgg115
  z51 := Try.sizeOf115
  v51 := Try.zeroValue115
  t53 := Try.underlying89
  a53 := Try.isAgg89
  z53 := Try.sizeOf89
  v53 := Try.zeroValue89
  t146 := Try.underlying116
  a146 := Try.isAgg116
  z146 := Try.sizeOf116
  v146 := Try.zeroValue116
  t148 := Try.underlying118
  a148 := Try.isAgg118
  z148 := Try.sizeOf118
  v148 := Try.zeroValue118 }
open Go.RowKit Go.Lib in
/-- math/bits.Mul: "Mul returns the full-width product of x and y": on a machine of 64 bits: Mul64's. (LAID: no walk: one application.) -/
theorem Try.bits_Mul (x y : Nat) (hx : x < 18446744073709551616) (hy : y < 18446744073709551616) (w : World) :
    Calls Try.prog 85 #[.int .u64 x, .int .u64 y] w fun e w' => e = .returned (.tuple #[.int .u64 ((x * y / 18446744073709551616 : Nat) : Int), .int .u64 ((x * y % 18446744073709551616 : Nat) : Int)]) ∧ w' = w := Any.bits_Mul Try.lays212 x y hx hy w
def Try.lays105_ren : Go.Shelf.Ren := ⟨fun | 105 => 83 | 212 => 85 | 99 => 88 | 165 => 89 | 166 => 71 | 170 => 72 | 169 => 73 | 263 => 90 | 264 => 91 | 206 => 93 | 240 => 86 | 241 => 94 | 276 => 92 | 277 => 95 | n => n, fun | 9 => 9 | 3 => 3 | 4 => 4 | 20 => 20 | 0 => 0 | 46 => 84 | 109 => 108 | 5 => 5 | 72 => 96 | 76 => 99 | 51 => 115 | 146 => 116 | 53 => 89 | 148 => 118 | 70 => 94 | 37 => 63 | 75 => 98 | 127 => 110 | 164 => 120 | 80 => 87 | n => n, fun | n => n⟩
theorem Try.lays105 : Go.Proofs.Lays.n105 Try.prog Try.lays105_ren := {
  mixed := by kernel_rfl
  f99 := Try.func88.trans (congrArg some (by kernel_rfl))
  f105 := Try.func83.trans (congrArg some (by kernel_rfl))
  f165 := Try.func89.trans (congrArg some (by kernel_rfl))
  f166 := Try.func71.trans (congrArg some (by kernel_rfl))
  f169 := Try.func73.trans (congrArg some (by kernel_rfl))
  f170 := Try.func72.trans (congrArg some (by kernel_rfl))
  f206 := Try.func93.trans (congrArg some (by kernel_rfl))
  f212 := Try.func85.trans (congrArg some (by kernel_rfl))
  f240 := Try.func86.trans (congrArg some (by kernel_rfl))
  f241 := Try.func94.trans (congrArg some (by kernel_rfl))
  f263 := Try.func90.trans (congrArg some (by kernel_rfl))
  f264 := Try.func91.trans (congrArg some (by kernel_rfl))
  f276 := Try.func92.trans (congrArg some (by kernel_rfl))
  f277 := Try.func95.trans (congrArg some (by kernel_rfl))
  t0 := Try.underlying0
  a0 := Try.isAgg0
  z0 := Try.sizeOf0
  v0 := Try.zeroValue0
  t3 := Try.underlying3
  a3 := Try.isAgg3
  z3 := Try.sizeOf3
  v3 := Try.zeroValue3
  t4 := Try.underlying4
  a4 := Try.isAgg4
  z4 := Try.sizeOf4
  v4 := Try.zeroValue4
  t5 := Try.underlying5
  a5 := Try.isAgg5
  z5 := Try.sizeOf5
  v5 := Try.zeroValue5
  t9 := Try.underlying9
  a9 := Try.isAgg9
  z9 := Try.sizeOf9
  v9 := Try.zeroValue9
  t20 := Try.underlying20
  a20 := Try.isAgg20
  z20 := Try.sizeOf20
  v20 := Try.zeroValue20
  t37 := Try.underlying63
  a37 := Try.isAgg63
  z37 := Try.sizeOf63
  v37 := Try.zeroValue63
  t46 := Try.underlying84
  a46 := Try.isAgg84
  z46 := Try.sizeOf84
  v46 := Try.zeroValue84
  t51 := Try.underlying115
  a51 := Try.isAgg115
  z51 := Try.sizeOf115
  v51 := Try.zeroValue115
  t53 := Try.underlying89
  a53 := Try.isAgg89
  z53 := Try.sizeOf89
  v53 := Try.zeroValue89
  t70 := Try.underlying94
  a70 := Try.isAgg94
  z70 := Try.sizeOf94
  v70 := Try.zeroValue94
  t72 := Try.underlying96
  a72 := Try.isAgg96
  z72 := Try.sizeOf96
  v72 := Try.zeroValue96
  t75 := Try.underlying98
  a75 := Try.isAgg98
  z75 := Try.sizeOf98
  v75 := Try.zeroValue98
  t76 := Try.underlying99
  a76 := Try.isAgg99
  z76 := Try.sizeOf99
  v76 := Try.zeroValue99
  t109 := Try.underlying108
  a109 := Try.isAgg108
  z109 := Try.sizeOf108
  v109 := Try.zeroValue108
  t127 := Try.underlying110
  a127 := Try.isAgg110
  z127 := Try.sizeOf110
  v127 := Try.zeroValue110
  t146 := Try.underlying116
  a146 := Try.isAgg116
  z146 := Try.sizeOf116
  v146 := Try.zeroValue116
  t148 := Try.underlying118
  a148 := Try.isAgg118
  z148 := Try.sizeOf118
  v148 := Try.zeroValue118
  t164 := Try.underlying120
  a164 := Try.isAgg120
  z164 := Try.sizeOf120
  v164 := Try.zeroValue120 }
theorem Try.Builder_Extra_105 : Builder.Extra Try.prog Try.lays105_ren := {
  sizeBuilder := by kernel_rfl
  liesBuilder := by kernel_rfl
  t5 := Try.underlying5
  a5 := Try.isAgg5
  z5 := Try.sizeOf5
  v5 := Try.zeroValue5
  infoByte := by kernel_rfl
  cellsByte := by kernel_rfl
  sizeByte := by kernel_rfl
  neB5 := by decide }
open Go.RowKit Go.Lib in
/-- **strings.Repeat: count ≥ 0, the result within one allocation: count copies of s.** (LAID: no walk: one application.) -/
theorem Try.strings_Repeat (s : ByteArray) (c : Nat) (w : World) (hc : c ≤ 9223372036854775807) (hlen : s.size * c ≤ 140737488355328) :
    Calls Try.prog 83 #[.string s, .int .i64 c] w fun e w' => e = .returned (.string ⟨(Lib.repeatL s.data.toList c).toArray⟩) ∧ Below w.heap.size w w' := Any.strings_Repeat Try.lays105 Try.Builder_Extra_105 s c w hc hlen
end Go.Proofs

/-
  Same, of the program and of the document: whether two devices are one, field by field: for all devices.
-/
namespace Go.Proofs.Ytcfmpmcdfllibaa
open Go.RowKit

theorem drawn_below {B : Nat} (w : World) (n : Nat) : Below B w (w.drewN n) := ⟨rfl, rfl, rfl, Nat.le_refl _, fun _ _ => rfl⟩
theorem sameD_no1 {d d2 : D} (h : d.bs ≠ d2.bs) : decide (d = d2) = false := decide_eq_false fun e => h (by rw [e])
theorem sameD_no2 {d d2 : D} (h : d.cs ≠ d2.cs) : decide (d = d2) = false := decide_eq_false fun e => h (by rw [e])
theorem sameD_no3 {d d2 : D} (h : d.left ≠ d2.left) : decide (d = d2) = false := decide_eq_false fun e => h (by rw [e])
theorem sameD_no4 {d d2 : D} (h : d.dead ≠ d2.dead) : decide (d = d2) = false := decide_eq_false fun e => h (by rw [e])
theorem sameD_yes {d d2 : D} (h1 : d.bs = d2.bs) (h2 : d.cs = d2.cs) (h3 : d.left = d2.left) (h4 : d.dead = d2.dead) : decide (d = d2) = true := by
  obtain ⟨a, b, c, e⟩ := d
  obtain ⟨a2, b2, c2, e2⟩ := d2
  exact decide_eq_true (by cases h1; cases h2; cases h3; cases h4; rfl)

end Go.Proofs.Ytcfmpmcdfllibaa

/-
  slices.Repeat of one element, at texts and at truth values: so many of it, in memory of the call's own.
-/
namespace Go.Proofs.Ytcfmpmcdfllibaa
open Go.RowKit

/-- The list with its first k elements u. -/
def Head (u : Value) (k : Nat) (cur : List Value) : Prop := ∀ j, j < k → cur[j]? = some u
theorem Head.splice {u : Value} {k m N : Nat} {cur : List Value} (h : Head u k cur) (hl : cur.length = N) (hk : k + m ≤ N) : Head u (k + m) (splice cur k (List.replicate m u)) := by
  intro j hj
  unfold Go.splice
  rw [List.getElem?_append]
  split
  · next hjk =>
    rw [List.length_take] at hjk
    rw [List.getElem?_take, if_pos (by omega)]
    exact h j (by omega)
  · next hjk =>
    rw [List.length_take] at hjk
    rw [List.getElem?_append_left (by simp [List.length_take]; omega), List.getElem?_replicate, if_pos (by rw [List.length_take]; omega)]
theorem Head.all {u : Value} {N : Nat} {cur : List Value} (h : Head u N cur) (hl : cur.length = N) : cur = List.replicate N u := by
  refine List.ext_getElem? fun j => ?_
  by_cases hj : j < N
  · rw [h j hj, List.getElem?_replicate, if_pos hj]
  · rw [List.getElem?_eq_none (by omega), List.getElem?_replicate, if_neg hj]
theorem mul_one_any (N : Nat) (hN : N ≤ 4096) (W : World) : Calls Try.prog 85 #[.int .u64 1, .int .u64 N] W fun e w' => e = .returned (.tuple #[.int .u64 0, .int .u64 N]) ∧ W = w' :=
  (Try.bits_Mul 1 N (by decide) (by omega) W).mono fun e w' ⟨h1, h2⟩ => ⟨by rw [h1, Nat.one_mul, Nat.div_eq_of_lt (by omega), Nat.mod_eq_of_lt (by omega)]; rfl, h2.symm⟩

set_option maxRecDepth 100000 in
set_option maxHeartbeats 2000000 in
theorem repeatS_any (b : Nat) (u : Value) (N : Nat) (w : World) (hb : b < w.heap.size) (hu : w.cell? ⟨b, 0, none⟩ = some u) (h1 : u.oneCell' = true) (hN : N ≤ 4096) :
    Calls Try.prog 68 #[.slice (some ⟨b, 0, none⟩) 1 1, .int .i64 N] w fun e w' => ∃ A c, e = .returned (.slice A N c) ∧ w'.ownsRow w.heap.size 9 1 (.slice A N c) N (List.replicate N u) ∧ Below w.heap.size w w' := by
  have c1 := fun W => mul_one_any N hN W
  have hU := Lib.hid (And.intro hu h1)
  have hcu : IntKind.u64.wrap (N : Int) = (N : Int) := IntWalk.u64_in _ (by omega)
  have hci : IntKind.i64.wrap (N : Int) = (N : Int) := IntWalk.i64_in _ (by omega)
  have hd : decide ((9223372036854775807 : Int) < (N : Int)) = false := by simp; omega
  have hB := Lib.hid hb
  have hd0 : decide ((N : Int) < 0) = false := by simp
  obtain ⟨i0, hi0, hz0, hz1, hz2⟩ := info_parts infoS
  clear hu h1 hb
  go_enter Try.func68, Try.ntmps68
  go_wp2_with (first
    | (go_at_call 85; refine (c1 _).mono ?_; rintro e w' ⟨rfl, rfl⟩)
    | (at_make; refine wpList_make_full _ rfl _ _ 22 rfl w.heap.size 9 i0 _ 1 Try.underlying22 hi0 hz0 hz1 _ _ _ _ N rfl rfl rfl rfl ?_ ?_ ?_ ?_))
  · rw [hz2]; omega
  · simp only [maxLen]; omega
  · exact Nat.le_refl _
  intro w1 ho1 hg1
  obtain ⟨cur0, hcur0, hl0⟩ : ∃ cur : List Value, w1.heap[w.heap.size]? = some (.cells cur.toArray 9 (0, 0)) ∧ cur.length = N := by
    rcases ho1.2 with ⟨h', _⟩ | ⟨g', cap', cur, h', _, hh, _, _, hs, _⟩
    · simp at h'
    · simp only [Value.slice.injEq, Option.some.injEq, Addr.mk.injEq, and_true, true_and] at h'
      obtain ⟨rfl, rfl⟩ := h'
      exact ⟨cur.toList, by rw [Array.toArray_toList]; exact hh, by simpa using hs⟩
  have hb1 : Below w.heap.size w w1 := (Below.refl _ _).grown hg1 (Nat.le_refl _) (by intro k hk; cases hk)
  obtain ⟨M, hM⟩ : ∃ M, M = Nat.min 1 N := ⟨_, rfl⟩
  have hM1 : M ≤ N := by rw [hM]; exact Nat.min_le_right _ _
  have hM2 : M = 1 ∨ N = 0 := by rw [hM]; simp only [Nat.min_def]; split <;> omega
  have HM := Lib.hid hM; clear hM
  have HM2 := Lib.hid hM2; clear hM2
  have hlen : (List.replicate M u).length = M := List.length_replicate
  have hsrc : ∀ j v, (List.replicate M u)[j]? = some v → w1.cell? ⟨b, j, none⟩ = some v := by
    intro j v hj
    rw [List.getElem?_replicate] at hj
    split at hj
    · next hjM =>
      have : j = 0 := by rcases HM2.out with h | h <;> omega
      subst this
      rw [hb1.cell (p := ⟨b, 0, none⟩) hB.out, hU.out.1]
      exact hj
    · cases hj
  have H0 := Lib.hid (And.intro hcur0 (And.intro hl0 (And.intro hlen (And.intro hsrc hb1))))
  clear hcur0 hl0 hlen hsrc hb1 ho1 hg1
  go_wp2_with (with_reducible refine wpList_copy_splice (o := ⟨some 33, _, _, _, _, _⟩) rfl (.tmp 31) (.tmp 32) 22 22 rfl 9 Try.underlying22 (by kernel_rfl) _ _ N N 1 1 rfl rfl w.heap.size 0 cur0 9 H0.out.1 (List.replicate M u) ?_ ?_ ?_ ?_ w.heap.size w H0.out.2.2.2.2 (Nat.le_refl _) ?_)
  · rw [H0.out.2.2.1]; exact HM.out
  · exact fun _ => H0.out.2.2.2.1
  · rw [H0.out.2.2.1, H0.out.2.1]; omega
  · intro v hv; rw [List.eq_of_mem_replicate hv]; exact hU.out.2
  intro w2 hh2 hb2
  have J0 : Hid (w2.heap[w.heap.size]? = some (.cells (splice cur0 0 (List.replicate M u)).toArray 9 (0, 0)) ∧ (splice cur0 0 (List.replicate M u)).length = N ∧ Head u M (splice cur0 0 (List.replicate M u))) :=
    Lib.hid ⟨hh2.out, by rw [length_splice _ _ _ (by rw [H0.out.2.2.1, H0.out.2.1]; omega)]; exact H0.out.2.1, by
      have := Head.splice (u := u) (k := 0) (m := M) (N := N) (cur := cur0) (fun j hj => absurd hj (Nat.not_lt_zero _)) H0.out.2.1 (by omega)
      rwa [Nat.zero_add] at this⟩
  generalize splice cur0 0 (List.replicate M u) = cur1 at J0
  clear H0 hh2
  go_wp2
  go_loopg [8] N (fun g s8 wr => ∃ (k : Nat) (cur : List Value), k ≤ N ∧ N - k ≤ g ∧ s8 = .int .i64 k ∧ (k = 0 → N = 0) ∧ Hid (wr.heap[w.heap.size]? = some (.cells cur.toArray 9 (0, 0)) ∧ cur.length = N ∧ Head u k cur) ∧ Below w.heap.size w wr)
  case atStart => exact ⟨M, cur1, hM1, by omega, rfl, fun h => by rcases HM2.out with h2 | h2 <;> omega, J0, hb2⟩
  case round =>
    obtain ⟨k, cur, hk, hg, rfl, hk0, J, hbw⟩ := hrel
    by_cases hlt : k < N
    · have hk1 : (k : Int) < (N : Int) := by omega
      obtain ⟨P, hP⟩ : ∃ P, P = Nat.min k (N - k) := ⟨_, rfl⟩
      have hP1 : P ≤ k := by rw [hP]; exact Nat.min_le_left _ _
      have hP2 : P ≤ N - k := by rw [hP]; exact Nat.min_le_right _ _
      have hP3 : 0 < P := by rw [hP]; simp only [Nat.min_def]; split <;> omega
      have HP := Lib.hid hP; clear hP
      have hlen : (List.replicate P u).length = P := List.length_replicate
      have hsrc : ∀ j v, (List.replicate P u)[j]? = some v → wr.cell? ⟨w.heap.size, j, none⟩ = some v := by
        intro j v hj
        rw [List.getElem?_replicate] at hj
        split at hj
        · next hjM =>
          rw [cell_of_row wr w.heap.size j cur.toArray 9 (0, 0) J.out.1, ← hj]
          simpa using J.out.2.2 j (by omega)
        · cases hj
      have HL := Lib.hid (And.intro hlen hsrc); clear hlen hsrc
      have HW := Lib.hid hbw; clear hbw
      have hne : ¬ N = k := by omega
      have hkp : (k : Int) + (P : Int) ≤ 4096 := by omega
      have hkP : IntKind.i64.wrap ((k : Int) + (P : Int)) = (k : Int) + (P : Int) := IntWalk.i64_in _ (by omega)
      go_wp2_with fail
      go_region_law (refine step_copy_splice rfl (.tmp 41) (.tmp 44) 22 22 rfl 9 Try.underlying22 (by kernel_rfl) (some ⟨w.heap.size, k, none⟩) (some ⟨w.heap.size, 0, none⟩) (N - k) (N - k) k N (by simp [Act.eval, Act.put]) (by simp [Act.eval, Act.put]) w.heap.size k cur 9 J.out.1 (List.replicate P u) (HL.out.1.trans HP.out) (fun _ => ⟨rfl, _, rfl, fun j v h => (congrArg wr.cell? (show (⟨w.heap.size, 0, none⟩ : Addr).add j = ⟨w.heap.size, j, none⟩ by rw [Go.WideShapes.add_plain, Nat.zero_add])).trans (HL.out.2 j v h)⟩) (by rw [HL.out.1, J.out.2.1]; omega) (fun v hv => by rw [List.eq_of_mem_replicate hv]; exact hU.out.2) w.heap.size w (HW.out.drew) (Nat.le_refl _) ?_; intro w4 hh4 hb4)
      have J4 : Hid (w4.heap[w.heap.size]? = some (.cells (splice cur k (List.replicate P u)).toArray 9 (0, 0)) ∧ (splice cur k (List.replicate P u)).length = N ∧ Head u (k + P) (splice cur k (List.replicate P u))) :=
        Lib.hid ⟨hh4.out, by rw [length_splice _ _ _ (by rw [HL.out.1, J.out.2.1]; omega)]; exact J.out.2.1, Head.splice J.out.2.2 J.out.2.1 (by omega)⟩
      generalize splice cur k (List.replicate P u) = cur4 at J4
      clear hh4 HL HP J
      go_wp2
      go_roundg (N - (k + P))
      case measure => omega
      case rel => exact ⟨k + P, cur4, by omega, by omega, by go_num, fun h => by omega, J4, hb4⟩
    · have : k = N := by omega
      subst this
      go_wp2
      go_ret
      refine ⟨some ⟨w.heap.size, 0, none⟩, k, rfl, ⟨by simp, .inr ⟨w.heap.size, k, cur.toArray, rfl, Nat.le_refl _, J.out.1, Nat.le_refl _, by simp only [maxLen]; omega, by simpa using J.out.2.1, ?_⟩⟩, hbw⟩
      rw [Head.all J.out.2.2 J.out.2.1]
      simp

end Go.Proofs.Ytcfmpmcdfllibaa
