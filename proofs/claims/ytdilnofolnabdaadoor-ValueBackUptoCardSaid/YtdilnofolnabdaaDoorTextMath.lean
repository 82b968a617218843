/-
  Plain mathematics for layer 8 (text): letters, digits, percent coding, base 64, UTF-8, as functions on lists of bytes.
-/
import Derived.WalkKit
namespace Go.Proofs.YtdilnofolnabdaaDoor
open Go.RowKit

theorem bsize (b : ByteArray) : b.size = b.data.toList.length := Array.length_toList.symm
theorem mk_toList (b : ByteArray) : (⟨b.data.toList.toArray⟩ : ByteArray) = b := by simp
theorem mk_inj {a b : List UInt8} (h : (⟨a.toArray⟩ : ByteArray) = ⟨b.toArray⟩) : a = b := by
  have := congrArg (fun x : ByteArray => x.data.toList) h
  simpa using this
theorem of_mk {s : ByteArray} {l : List UInt8} (h : s.data.toList = l) : s = ⟨l.toArray⟩ := by subst h; simp

/-- A small letter for a great one. -/
def lowN (n : Nat) : Nat := if 65 ≤ n ∧ n ≤ 90 then n + 32 else n
theorem lowN_lt {n : Nat} (h : n < 256) : lowN n < 256 := by unfold lowN; split <;> omega
def lowC (c : UInt8) : UInt8 := UInt8.ofNat (lowN c.toNat)
theorem lowC_nat (c : UInt8) : (lowC c).toNat = lowN c.toNat := by
  have := lowN_lt c.toNat_lt
  unfold lowC
  rw [UInt8.toNat_ofNat']; omega
theorem lowN_low (n : Nat) : lowN (lowN n) = lowN n := by unfold lowN; split <;> (try split) <;> omega
theorem lowC_low (c : UInt8) : lowC (lowC c) = lowC c := by
  apply UInt8.toNat_inj.1
  rw [lowC_nat, lowC_nat, lowN_low]
def lowL (l : List UInt8) : List UInt8 := l.map lowC
theorem lowL_low (l : List UInt8) : lowL (lowL l) = lowL l := by
  unfold lowL
  rw [List.map_map]
  exact List.map_congr_left fun c _ => lowC_low c
theorem lowL_append (a b : List UInt8) : lowL (a ++ b) = lowL a ++ lowL b := by simp [lowL]
theorem lowL_length (a : List UInt8) : (lowL a).length = a.length := by simp [lowL]

/-- One of 0 to 9. -/
def digN (n : Nat) : Bool := decide (48 ≤ n) && decide (n ≤ 57)
/-- A letter. -/
def letN (n : Nat) : Bool := (decide (97 ≤ n) && decide (n ≤ 122)) || (decide (65 ≤ n) && decide (n ≤ 90))
/-- What stands in a path as it is. -/
def keepN (n : Nat) : Bool := digN n || letN n || n == 45 || n == 46 || n == 95 || n == 126 || n == 47
/-- What a digit of base 16 means; below 0: it is none. -/
def hexN (n : Nat) : Int := if 48 ≤ n ∧ n ≤ 57 then (n : Int) - 48 else if 65 ≤ n ∧ n ≤ 70 then (n : Int) - 55 else if 97 ≤ n ∧ n ≤ 102 then (n : Int) - 87 else -1
/-- A digit of base 16, as its letter. -/
def hexL (n : Nat) : Nat := if n < 10 then n + 48 else n + 55

/-- Percent coding. -/
def pct : List UInt8 → List UInt8
  | [] => []
  | c :: l => (if keepN c.toNat then [c] else [37, UInt8.ofNat (hexL (c.toNat / 16)), UInt8.ofNat (hexL (c.toNat % 16))]) ++ pct l
theorem pct_length (l : List UInt8) : (pct l).length ≤ 3 * l.length := by
  induction l with
  | nil => simp [pct]
  | cons c l ih =>
    simp only [pct, List.length_append, List.length_cons]
    split <;> simp <;> omega
theorem pct_append (a b : List UInt8) : pct (a ++ b) = pct a ++ pct b := by
  induction a with
  | nil => simp [pct]
  | cons c a ih => simp only [List.cons_append, pct, ih, List.append_assoc]
/-- Taken back: what has come, and what is left; none: a % that no two digits follow. -/
def unp : List UInt8 → Option (List UInt8)
  | [] => some []
  | c :: l => if c.toNat = 37 then
      match l with
      | x :: y :: r => if hexN x.toNat < 0 ∨ hexN y.toNat < 0 then none else (unp r).map (UInt8.ofNat (hexN x.toNat * 16 + hexN y.toNat).toNat :: ·)
      | _ => none
    else (unp l).map (c :: ·)
theorem unp_other {c : UInt8} (hc : c.toNat ≠ 37) (l : List UInt8) : unp (c :: l) = (unp l).map (c :: ·) := by
  rw [unp.eq_def]
  dsimp only
  rw [if_neg hc]
theorem unp_short {c : UInt8} (hc : c.toNat = 37) (l : List UInt8) (hl : l.length < 2) : unp (c :: l) = none := by
  rw [unp.eq_def]
  dsimp only
  rw [if_pos hc]
  match l, hl with
  | [], _ => rfl
  | [x], _ => rfl
theorem unp_bad {c x y : UInt8} (hc : c.toNat = 37) (r : List UInt8) (h : hexN x.toNat < 0 ∨ hexN y.toNat < 0) : unp (c :: x :: y :: r) = none := by
  rw [unp.eq_def]
  dsimp only
  rw [if_pos hc, if_pos h]
theorem unp_hex {c x y : UInt8} (hc : c.toNat = 37) (r : List UInt8) (h : ¬ (hexN x.toNat < 0 ∨ hexN y.toNat < 0)) : unp (c :: x :: y :: r) = (unp r).map (UInt8.ofNat (hexN x.toNat * 16 + hexN y.toNat).toNat :: ·) := by
  rw [unp.eq_def]
  dsimp only
  rw [if_pos hc, if_neg h]
theorem unp_length (n : Nat) : ∀ (l r : List UInt8), l.length ≤ n → unp l = some r → r.length ≤ l.length := by
  induction n with
  | zero => intro l r hl h; cases l with
    | nil => simp [unp] at h; subst h; simp
    | cons c l => simp at hl
  | succ n ih =>
    intro l r hl h
    cases l with
    | nil => simp [unp] at h; subst h; simp
    | cons c l =>
      simp only [List.length_cons] at hl
      by_cases hc : c.toNat = 37
      · match l, hl, h with
        | [], _, h => rw [unp_short hc _ (by simp)] at h; cases h
        | [x], _, h => rw [unp_short hc _ (by simp)] at h; cases h
        | x :: y :: l, hl, h =>
          by_cases hx : hexN x.toNat < 0 ∨ hexN y.toNat < 0
          · rw [unp_bad hc _ hx] at h; cases h
          · rw [unp_hex hc _ hx, Option.map_eq_some_iff] at h
            obtain ⟨q, hq, rfl⟩ := h
            simp only [List.length_cons] at hl
            have := ih l q (by omega) hq
            simp; omega
      · rw [unp_other hc, Option.map_eq_some_iff] at h
        obtain ⟨q, hq, rfl⟩ := h
        have := ih l q (by omega) hq
        simp; omega

/-- A number of decimal digits; none: another byte. -/
def numL : List UInt8 → Nat → Option Nat
  | [], n => some n
  | c :: l, n => if digN c.toNat then numL l (n * 10 + (c.toNat - 48)) else none
def numV (l : List UInt8) (most : Int) : Int × Bool :=
  if l = [] ∨ 18 < l.length then (0, false) else
  match numL l 0 with
  | some n => if most < n then (0, false) else (n, true)
  | none => (0, false)

end Go.Proofs.YtdilnofolnabdaaDoor
