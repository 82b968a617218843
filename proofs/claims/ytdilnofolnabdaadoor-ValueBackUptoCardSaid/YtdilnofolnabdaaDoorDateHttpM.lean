/-
  Plain mathematics for layer 10 (date): what bytes are as HTTP writes a time.
-/
import Derived.Test.YtdilnofolnabdaaDoorDateRead
namespace Go.Proofs.YtdilnofolnabdaaDoor
open Go.RowKit

theorem wd_three {V : Nat} (h : V ≤ 6) : ∃ a b c, wdT V = [a, b, c] := by
  have : V = 0 ∨ V = 1 ∨ V = 2 ∨ V = 3 ∨ V = 4 ∨ V = 5 ∨ V = 6 := by omega
  rcases this with rfl | rfl | rfl | rfl | rfl | rfl | rfl <;> exact ⟨_, _, _, rfl⟩
theorem mon_three {M : Nat} (h : 1 ≤ M ∧ M ≤ 12) : ∃ a b c, monT M = [a, b, c] := by
  have : M = 1 ∨ M = 2 ∨ M = 3 ∨ M = 4 ∨ M = 5 ∨ M = 6 ∨ M = 7 ∨ M = 8 ∨ M = 9 ∨ M = 10 ∨ M = 11 ∨ M = 12 := by omega
  rcases this with rfl | rfl | rfl | rfl | rfl | rfl | rfl | rfl | rfl | rfl | rfl | rfl <;> exact ⟨_, _, _, rfl⟩
/-- The month of a name, of the first k. -/
def monUp (x : List UInt8) : Nat → Nat
  | 0 => 0
  | k + 1 => if x = monT (k + 1) then k + 1 else monUp x k
theorem monUp_le (x : List UInt8) : ∀ k, monUp x k ≤ k
  | 0 => Nat.le_refl _
  | k + 1 => by
    unfold monUp
    split
    · exact Nat.le_refl _
    · exact Nat.le_succ_of_le (monUp_le x k)
theorem monUp_is {M : Nat} (h : 1 ≤ M ∧ M ≤ 12) : monUp (monT M) 12 = M := by
  have : M = 1 ∨ M = 2 ∨ M = 3 ∨ M = 4 ∨ M = 5 ∨ M = 6 ∨ M = 7 ∨ M = 8 ∨ M = 9 ∨ M = 10 ∨ M = 11 ∨ M = 12 := by omega
  rcases this with rfl | rfl | rfl | rfl | rfl | rfl | rfl | rfl | rfl | rfl | rfl | rfl <;> decide +kernel
def cutL (l : List UInt8) (a b : Nat) : List UInt8 := (l.drop a).take (b - a)
theorem pad_some {k n : Nat} {most : Int} (hk : 1 ≤ k ∧ k ≤ 18) (h : n < 10 ^ k) (hm : (n : Int) ≤ most) : numV (padT k n) most = ((n : Int), true) := by
  have hx : ¬ (padT k n = [] ∨ 18 < (padT k n).length) := by
    intro hx
    rw [padT_length] at hx
    cases hx with
    | inl e => have := congrArg List.length e; rw [padT_length] at this; simp at this; omega
    | inr e => omega
  unfold numV
  rw [if_neg hx, numL_pad, Nat.mod_eq_of_lt h]
  show (if most < (n : Int) then ((0 : Int), false) else ((n : Int), true)) = _
  rw [if_neg (by omega)]
theorem clkV_of {S : Nat} (h : S < 86400) : clkV (S / 3600 : Nat) (S / 60 % 60 : Nat) (S % 60 : Nat) = S := by
  unfold clkV
  rw [if_neg (by omega)]; omega
/-- What the bytes say of a time, if they are one's. -/
theorem http_parts {l : List UInt8} {t : Int} (h : isHttp l t) : l.length = 29 ∧ (numV (cutL l 5 7) 99).2 = true ∧ (numV (cutL l 12 16) 9999).2 = true ∧ (numV (cutL l 17 19) 99).2 = true ∧ (numV (cutL l 20 22) 99).2 = true ∧ (numV (cutL l 23 25) 99).2 = true ∧
    0 ≤ clkV (numV (cutL l 17 19) 99).1 (numV (cutL l 20 22) 99).1 (numV (cutL l 23 25) 99).1 ∧
    (daysV (numV (cutL l 12 16) 9999).1 (monUp (cutL l 8 11) 12) (numV (cutL l 5 7) 99).1).2 = true ∧
    t = (daysV (numV (cutL l 12 16) 9999).1 (monUp (cutL l 8 11) 12) (numV (cutL l 5 7) 99).1).1 * 86400 + clkV (numV (cutL l 17 19) 99).1 (numV (cutL l 20 22) 99).1 (numV (cutL l 23 25) 99).1 := by
  obtain ⟨hin, rfl⟩ := h
  have hd := inD_day hin
  obtain ⟨y, m, d, hdt, hnum⟩ := num_of hd
  obtain ⟨hy, hm⟩ := lenD_range hdt
  have hp := lenD_pos hy hm
  have ec := civ_num hdt
  rw [← hnum] at ec
  have hdt' := hdt
  unfold dateD at hdt'
  have hw := wdD_range (t / 86400)
  obtain ⟨a1, a2, a3, ea⟩ := wd_three (V := (wdD (t / 86400)).toNat) (by omega)
  obtain ⟨b1, b2, b3, eb⟩ := mon_three (M := m.toNat) (by omega)
  have e : httpT t = [a1, a2, a3, 44, 32, digC (d.toNat / 10), digC d.toNat, 32, b1, b2, b3, 32, digC (y.toNat / 10 / 10 / 10), digC (y.toNat / 10 / 10), digC (y.toNat / 10), digC y.toNat, 32,
      digC ((t % 86400).toNat / 3600 / 10), digC ((t % 86400).toNat / 3600), 58, digC ((t % 86400).toNat / 60 % 60 / 10), digC ((t % 86400).toNat / 60 % 60), 58, digC ((t % 86400).toNat % 60 / 10), digC ((t % 86400).toNat % 60), 32, 71, 77, 84] := by
    unfold httpT
    rw [hin, if_pos rfl, ec, ea]
    dsimp only
    rw [eb]
    rfl
  have hS : (t % 86400).toNat < 86400 := by omega
  have hS2 : t = t / 86400 * 86400 + (t % 86400).toNat := by omega
  generalize (t % 86400).toNat = S at *
  have p1 : cutL (httpT t) 5 7 = padT 2 d.toNat := by rw [e]; rfl
  have p2 : cutL (httpT t) 8 11 = monT m.toNat := by rw [e, eb]; rfl
  have p3 : cutL (httpT t) 12 16 = padT 4 y.toNat := by rw [e]; rfl
  have p4 : cutL (httpT t) 17 19 = padT 2 (S / 3600) := by rw [e]; rfl
  have p5 : cutL (httpT t) 20 22 = padT 2 (S / 60 % 60) := by rw [e]; rfl
  have p6 : cutL (httpT t) 23 25 = padT 2 (S % 60) := by rw [e]; rfl
  have q1 := pad_some (k := 2) (n := d.toNat) (most := 99) (by omega) (by omega) (by omega)
  have q3 := pad_some (k := 4) (n := y.toNat) (most := 9999) (by omega) (by omega) (by omega)
  have q4 := pad_some (k := 2) (n := S / 3600) (most := 99) (by omega) (by omega) (by omega)
  have q5 := pad_some (k := 2) (n := S / 60 % 60) (most := 99) (by omega) (by omega) (by omega)
  have q6 := pad_some (k := 2) (n := S % 60) (most := 99) (by omega) (by omega) (by omega)
  have hl : (httpT t).length = 29 := by rw [e]; rfl
  rw [p1, p2, p3, p4, p5, p6, q1, q3, q4, q5, q6, monUp_is (by omega)]
  dsimp only
  rw [clkV_of hS, show ((y.toNat : Nat) : Int) = y by omega, show ((m.toNat : Nat) : Int) = m by omega, show ((d.toNat : Nat) : Int) = d by omega, daysV_ok hdt, ← hnum]
  exact ⟨hl, rfl, rfl, rfl, rfl, rfl, by omega, rfl, hS2⟩
theorem isHttp_uniq {s : List UInt8} {a b : Int} (ha : isHttp s a) (hb : isHttp s b) : a = b := by
  rw [(http_parts ha).2.2.2.2.2.2.2.2, (http_parts hb).2.2.2.2.2.2.2.2]
theorem rdHttp_is {s : List UInt8} {n : Int} (h : isHttp s n) : rdHttp s = (n, 0) := readV_is h fun _ hm => isHttp_uniq hm h
theorem rdHttp_no {s : List UInt8} (h : ∀ n, ¬ isHttp s n) : rdHttp s = (0, 10) := readV_no h
theorem rdHttp_back {t : Int} (h : inD t = true) : rdHttp (httpT t) = (t, 0) := rdHttp_is ⟨h, rfl⟩
theorem rdHttp_len {s : List UInt8} (h : s.length ≠ 29) : rdHttp s = (0, 10) := rdHttp_no fun _ hn => h (http_parts hn).1
theorem httpT_out {t : Int} (h : inD t = false) : httpT t = [] := by unfold httpT; rw [h]; rfl
/-- Where all is read, it is the time, if that is written so. -/
theorem rdHttp_all {l : List UInt8} (_h1 : (numV (cutL l 5 7) 99).2 = true) (_h2 : (numV (cutL l 12 16) 9999).2 = true) (_h3 : (numV (cutL l 17 19) 99).2 = true) (_h4 : (numV (cutL l 20 22) 99).2 = true) (_h5 : (numV (cutL l 23 25) 99).2 = true)
    {t : Int} (ht : t = (daysV (numV (cutL l 12 16) 9999).1 (monUp (cutL l 8 11) 12) (numV (cutL l 5 7) 99).1).1 * 86400 + clkV (numV (cutL l 17 19) 99).1 (numV (cutL l 20 22) 99).1 (numV (cutL l 23 25) 99).1) (hl : l ≠ []) :
    rdHttp l = if httpT t = l then (t, 0) else (0, 10) := by
  by_cases h : httpT t = l
  · rw [if_pos h]
    cases hin : inD t
    · rw [httpT_out hin] at h
      exact absurd h.symm hl
    · exact rdHttp_is ⟨hin, h⟩
  · rw [if_neg h]
    refine rdHttp_no fun n hn => h ?_
    rw [ht, ← (http_parts hn).2.2.2.2.2.2.2.2]
    exact hn.2
theorem numV_range (l : List UInt8) (most : Int) (hm : 0 ≤ most) : 0 ≤ (numV l most).1 ∧ (numV l most).1 ≤ most := by
  unfold numV
  split
  · exact ⟨Int.le_refl _, hm⟩
  · split
    · rename_i n _
      split
      · exact ⟨Int.le_refl _, hm⟩
      · exact ⟨Int.natCast_nonneg n, by omega⟩
    · exact ⟨Int.le_refl _, hm⟩

end Go.Proofs.YtdilnofolnabdaaDoor
