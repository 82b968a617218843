/-
  Plain mathematics for layer 10 (date): what bytes are as HTTP writes a time.
-/
import Derived.Test.YtdilnofolnabdaaDoorG02
import Derived.WalkSpells
import Derived.WalkLawsBesides
import Derived.Lib.Hide
import Derived.Test.YtdilnofolnabdaaDoorProg
import Derived.Test.YtdilnofolnabdaaDoorG01
import Derived.WalkKit
namespace Go.Proofs.YtdilnofolnabdaaDoor
open Go.RowKit

theorem wd_three {V : Nat} (h : V ≤ 6) : ∃ a b c, wdT V = [a, b, c] := by
  have : V = 0 ∨ V = 1 ∨ V = 2 ∨ V = 3 ∨ V = 4 ∨ V = 5 ∨ V = 6 := by omega
  rcases this with rfl | rfl | rfl | rfl | rfl | rfl | rfl <;> exact ⟨_, _, _, rfl⟩
theorem mon_three {M : Nat} (h : 1 ≤ M ∧ M ≤ 12) : ∃ a b c, monT M = [a, b, c] := by
  have : M = 1 ∨ M = 2 ∨ M = 3 ∨ M = 4 ∨ M = 5 ∨ M = 6 ∨ M = 7 ∨ M = 8 ∨ M = 9 ∨ M = 10 ∨ M = 11 ∨ M = 12 := by omega
  rcases this with rfl | rfl | rfl | rfl | rfl | rfl | rfl | rfl | rfl | rfl | rfl | rfl <;> exact ⟨_, _, _, rfl⟩
/-- The month of a name, of the first k. -/
def monUp (x : List UInt8) : Nat → Nat
  | 0 => 0
  | k + 1 => if x = monT (k + 1) then k + 1 else monUp x k
theorem monUp_le (x : List UInt8) : ∀ k, monUp x k ≤ k
  | 0 => Nat.le_refl _
  | k + 1 => by
    unfold monUp
    split
    · exact Nat.le_refl _
    · exact Nat.le_succ_of_le (monUp_le x k)
theorem monUp_is {M : Nat} (h : 1 ≤ M ∧ M ≤ 12) : monUp (monT M) 12 = M := by
  have : M = 1 ∨ M = 2 ∨ M = 3 ∨ M = 4 ∨ M = 5 ∨ M = 6 ∨ M = 7 ∨ M = 8 ∨ M = 9 ∨ M = 10 ∨ M = 11 ∨ M = 12 := by omega
  rcases this with rfl | rfl | rfl | rfl | rfl | rfl | rfl | rfl | rfl | rfl | rfl | rfl <;> decide +kernel
def cutL (l : List UInt8) (a b : Nat) : List UInt8 := (l.drop a).take (b - a)
theorem pad_some {k n : Nat} {most : Int} (hk : 1 ≤ k ∧ k ≤ 18) (h : n < 10 ^ k) (hm : (n : Int) ≤ most) : numV (padT k n) most = ((n : Int), true) := by
  have hx : ¬ (padT k n = [] ∨ 18 < (padT k n).length) := by
    intro hx
    rw [padT_length] at hx
    cases hx with
    | inl e => have := congrArg List.length e; rw [padT_length] at this; simp at this; omega
    | inr e => omega
  unfold numV
  rw [if_neg hx, numL_pad, Nat.mod_eq_of_lt h]
  show (if most < (n : Int) then ((0 : Int), false) else ((n : Int), true)) = _
  rw [if_neg (by omega)]
theorem clkV_of {S : Nat} (h : S < 86400) : clkV (S / 3600 : Nat) (S / 60 % 60 : Nat) (S % 60 : Nat) = S := by
  unfold clkV
  rw [if_neg (by omega)]; omega
/-- What the bytes say of a time, if they are one's. -/
theorem http_parts {l : List UInt8} {t : Int} (h : isHttp l t) : l.length = 29 ∧ (numV (cutL l 5 7) 99).2 = true ∧ (numV (cutL l 12 16) 9999).2 = true ∧ (numV (cutL l 17 19) 99).2 = true ∧ (numV (cutL l 20 22) 99).2 = true ∧ (numV (cutL l 23 25) 99).2 = true ∧
    0 ≤ clkV (numV (cutL l 17 19) 99).1 (numV (cutL l 20 22) 99).1 (numV (cutL l 23 25) 99).1 ∧
    (daysV (numV (cutL l 12 16) 9999).1 (monUp (cutL l 8 11) 12) (numV (cutL l 5 7) 99).1).2 = true ∧
    t = (daysV (numV (cutL l 12 16) 9999).1 (monUp (cutL l 8 11) 12) (numV (cutL l 5 7) 99).1).1 * 86400 + clkV (numV (cutL l 17 19) 99).1 (numV (cutL l 20 22) 99).1 (numV (cutL l 23 25) 99).1 := by
  obtain ⟨hin, rfl⟩ := h
  have hd := inD_day hin
  obtain ⟨y, m, d, hdt, hnum⟩ := num_of hd
  obtain ⟨hy, hm⟩ := lenD_range hdt
  have hp := lenD_pos hy hm
  have ec := civ_num hdt
  rw [← hnum] at ec
  have hdt' := hdt
  unfold dateD at hdt'
  have hw := wdD_range (t / 86400)
  obtain ⟨a1, a2, a3, ea⟩ := wd_three (V := (wdD (t / 86400)).toNat) (by omega)
  obtain ⟨b1, b2, b3, eb⟩ := mon_three (M := m.toNat) (by omega)
  have e : httpT t = [a1, a2, a3, 44, 32, digC (d.toNat / 10), digC d.toNat, 32, b1, b2, b3, 32, digC (y.toNat / 10 / 10 / 10), digC (y.toNat / 10 / 10), digC (y.toNat / 10), digC y.toNat, 32,
      digC ((t % 86400).toNat / 3600 / 10), digC ((t % 86400).toNat / 3600), 58, digC ((t % 86400).toNat / 60 % 60 / 10), digC ((t % 86400).toNat / 60 % 60), 58, digC ((t % 86400).toNat % 60 / 10), digC ((t % 86400).toNat % 60), 32, 71, 77, 84] := by
    unfold httpT
    rw [hin, if_pos rfl, ec, ea]
    dsimp only
    rw [eb]
    rfl
  have hS : (t % 86400).toNat < 86400 := by omega
  have hS2 : t = t / 86400 * 86400 + (t % 86400).toNat := by omega
  generalize (t % 86400).toNat = S at *
  have p1 : cutL (httpT t) 5 7 = padT 2 d.toNat := by rw [e]; rfl
  have p2 : cutL (httpT t) 8 11 = monT m.toNat := by rw [e, eb]; rfl
  have p3 : cutL (httpT t) 12 16 = padT 4 y.toNat := by rw [e]; rfl
  have p4 : cutL (httpT t) 17 19 = padT 2 (S / 3600) := by rw [e]; rfl
  have p5 : cutL (httpT t) 20 22 = padT 2 (S / 60 % 60) := by rw [e]; rfl
  have p6 : cutL (httpT t) 23 25 = padT 2 (S % 60) := by rw [e]; rfl
  have q1 := pad_some (k := 2) (n := d.toNat) (most := 99) (by omega) (by omega) (by omega)
  have q3 := pad_some (k := 4) (n := y.toNat) (most := 9999) (by omega) (by omega) (by omega)
  have q4 := pad_some (k := 2) (n := S / 3600) (most := 99) (by omega) (by omega) (by omega)
  have q5 := pad_some (k := 2) (n := S / 60 % 60) (most := 99) (by omega) (by omega) (by omega)
  have q6 := pad_some (k := 2) (n := S % 60) (most := 99) (by omega) (by omega) (by omega)
  have hl : (httpT t).length = 29 := by rw [e]; rfl
  rw [p1, p2, p3, p4, p5, p6, q1, q3, q4, q5, q6, monUp_is (by omega)]
  dsimp only
  rw [clkV_of hS, show ((y.toNat : Nat) : Int) = y by omega, show ((m.toNat : Nat) : Int) = m by omega, show ((d.toNat : Nat) : Int) = d by omega, daysV_ok hdt, ← hnum]
  exact ⟨hl, rfl, rfl, rfl, rfl, rfl, by omega, rfl, hS2⟩
theorem isHttp_uniq {s : List UInt8} {a b : Int} (ha : isHttp s a) (hb : isHttp s b) : a = b := by
  rw [(http_parts ha).2.2.2.2.2.2.2.2, (http_parts hb).2.2.2.2.2.2.2.2]
theorem rdHttp_is {s : List UInt8} {n : Int} (h : isHttp s n) : rdHttp s = (n, 0) := readV_is h fun _ hm => isHttp_uniq hm h
theorem rdHttp_no {s : List UInt8} (h : ∀ n, ¬ isHttp s n) : rdHttp s = (0, 10) := readV_no h
theorem rdHttp_back {t : Int} (h : inD t = true) : rdHttp (httpT t) = (t, 0) := rdHttp_is ⟨h, rfl⟩
theorem rdHttp_len {s : List UInt8} (h : s.length ≠ 29) : rdHttp s = (0, 10) := rdHttp_no fun _ hn => h (http_parts hn).1
theorem httpT_out {t : Int} (h : inD t = false) : httpT t = [] := by unfold httpT; rw [h]; rfl
/-- Where all is read, it is the time, if that is written so. -/
theorem rdHttp_all {l : List UInt8} (_h1 : (numV (cutL l 5 7) 99).2 = true) (_h2 : (numV (cutL l 12 16) 9999).2 = true) (_h3 : (numV (cutL l 17 19) 99).2 = true) (_h4 : (numV (cutL l 20 22) 99).2 = true) (_h5 : (numV (cutL l 23 25) 99).2 = true)
    {t : Int} (ht : t = (daysV (numV (cutL l 12 16) 9999).1 (monUp (cutL l 8 11) 12) (numV (cutL l 5 7) 99).1).1 * 86400 + clkV (numV (cutL l 17 19) 99).1 (numV (cutL l 20 22) 99).1 (numV (cutL l 23 25) 99).1) (hl : l ≠ []) :
    rdHttp l = if httpT t = l then (t, 0) else (0, 10) := by
  by_cases h : httpT t = l
  · rw [if_pos h]
    cases hin : inD t
    · rw [httpT_out hin] at h
      exact absurd h.symm hl
    · exact rdHttp_is ⟨hin, h⟩
  · rw [if_neg h]
    refine rdHttp_no fun n hn => h ?_
    rw [ht, ← (http_parts hn).2.2.2.2.2.2.2.2]
    exact hn.2
theorem numV_range (l : List UInt8) (most : Int) (hm : 0 ≤ most) : 0 ≤ (numV l most).1 ∧ (numV l most).1 ≤ most := by
  unfold numV
  split
  · exact ⟨Int.le_refl _, hm⟩
  · split
    · rename_i n _
      split
      · exact ⟨Int.le_refl _, hm⟩
      · exact ⟨Int.natCast_nonneg n, by omega⟩
    · exact ⟨Int.le_refl _, hm⟩

end Go.Proofs.YtdilnofolnabdaaDoor

/-
  The document's own answers of layer 10, the first: years and months, days of the week, days and seconds.
-/
namespace Go.Proofs.YtdilnofolnabdaaDoor
open Go.RowKit

theorem tmod_pos {a b : Int} (h : 0 ≤ a) : Int.tmod a b = a % b := Int.tmod_eq_emod_of_nonneg h
theorem tdiv_pos {a b : Int} (h : 0 ≤ a) : Int.tdiv a b = a / b := Int.tdiv_eq_ediv_of_nonneg h

set_option maxRecDepth 100000 in
set_option maxHeartbeats 2000000 in
theorem refLeap_any (y : Int) (h : 1 ≤ y ∧ y ≤ 9999) (w : World) :
    Calls Tryd.prog 92 #[.int .i64 y] w fun e w' => e = .returned (.bool (leapD y)) ∧ w' = w := by
  have m1 : Int.tmod y 4 = y % 4 := tmod_pos (by omega)
  have m2 : Int.tmod y 100 = y % 100 := tmod_pos (by omega)
  have m3 : Int.tmod y 400 = y % 400 := tmod_pos (by omega)
  generalize hl : leapD y = l
  have hi := leapD_iff y
  rw [hl] at hi
  clear hl
  by_cases h4 : y % 4 = 0
  · by_cases h1 : y % 100 = 0
    · by_cases h0 : y % 400 = 0
      · obtain rfl : l = true := by first | (rw [hi]; omega) | (rw [Bool.eq_false_iff, ne_eq, hi]; omega)
        clear hi
        go_enter Tryd.func92, Tryd.ntmps92
        go_wp2
        go_ret
        exact ⟨rfl, rfl⟩
      · have b0 : (y % 400 == 0) = false := by simp [h0]
        obtain rfl : l = false := by first | (rw [hi]; omega) | (rw [Bool.eq_false_iff, ne_eq, hi]; omega)
        clear hi
        go_enter Tryd.func92, Tryd.ntmps92
        go_wp2
        go_ret
        exact ⟨rfl, rfl⟩
    · obtain rfl : l = true := by first | (rw [hi]; omega) | (rw [Bool.eq_false_iff, ne_eq, hi]; omega)
      clear hi
      go_enter Tryd.func92, Tryd.ntmps92
      go_wp2
      go_ret
      exact ⟨rfl, rfl⟩
  · have h0 : ¬ y % 400 = 0 := by omega
    have b0 : (y % 400 == 0) = false := by simp [h0]
    have b4 : (y % 4 == 0) = false := by simp [h4]
    obtain rfl : l = false := by first | (rw [hi]; omega) | (rw [Bool.eq_false_iff, ne_eq, hi]; omega)
    clear hi
    go_enter Tryd.func92, Tryd.ntmps92
    go_wp2
    go_ret
    exact ⟨rfl, rfl⟩
set_option maxRecDepth 100000 in
set_option maxHeartbeats 2000000 in
theorem refLength_any (y m : Int) (w : World) :
    Calls Tryd.prog 79 #[.int .i64 y, .int .i64 m] w fun e w' => e = .returned (.int .i64 (lenD y m)) ∧ w' = w := by
  by_cases h1 : y < 1
  · have e : Hid (lenD y m = 0) := Lib.hid (by unfold lenD; rw [if_pos (by omega)])
    go_enter Tryd.func79, Tryd.ntmps79
    go_wp2
    go_ret
    exact ⟨by rw [e.out]; rfl, rfl⟩
  by_cases h2 : 9999 < y
  · have e : Hid (lenD y m = 0) := Lib.hid (by unfold lenD; rw [if_pos (by omega)])
    go_enter Tryd.func79, Tryd.ntmps79
    go_wp2
    go_ret
    exact ⟨by rw [e.out]; rfl, rfl⟩
  by_cases h3 : m < 1
  · have e : Hid (lenD y m = 0) := Lib.hid (by unfold lenD; rw [if_pos (by omega)])
    go_enter Tryd.func79, Tryd.ntmps79
    go_wp2
    go_ret
    exact ⟨by rw [e.out]; rfl, rfl⟩
  by_cases h4 : 12 < m
  · have e : Hid (lenD y m = 0) := Lib.hid (by unfold lenD; rw [if_pos (by omega)])
    go_enter Tryd.func79, Tryd.ntmps79
    go_wp2
    go_ret
    exact ⟨by rw [e.out]; rfl, rfl⟩
  have hm : m = 1 ∨ m = 2 ∨ m = 3 ∨ m = 4 ∨ m = 5 ∨ m = 6 ∨ m = 7 ∨ m = 8 ∨ m = 9 ∨ m = 10 ∨ m = 11 ∨ m = 12 := by omega
  clear h3 h4
  · rcases hm with rfl | rfl | rfl | rfl | rfl | rfl | rfl | rfl | rfl | rfl | rfl | rfl
    · have e : Hid (lenD y 1 = 31) := Lib.hid (by unfold lenD; rw [if_neg (by omega)]; rfl)
      go_enter Tryd.func79, Tryd.ntmps79
      go_wp2
      go_ret
      exact ⟨by rw [e.out]; rfl, rfl⟩
    · cases hl : leapD y
      · have e : Hid (lenD y 2 = 28) := Lib.hid (by unfold lenD; rw [if_neg (by omega), if_pos rfl, hl]; rfl)
        go_enter Tryd.func79, Tryd.ntmps79
        go_wp2_with (go_at_call 92; ((with_reducible refine (refLeap_any y (by omega) _).mono ?_); rintro e w' ⟨rfl, rfl⟩; rw [hl]))
        go_ret
        exact ⟨by rw [e.out]; rfl, rfl⟩
      · have e : Hid (lenD y 2 = 29) := Lib.hid (by unfold lenD; rw [if_neg (by omega), if_pos rfl, hl]; rfl)
        go_enter Tryd.func79, Tryd.ntmps79
        go_wp2_with (go_at_call 92; ((with_reducible refine (refLeap_any y (by omega) _).mono ?_); rintro e w' ⟨rfl, rfl⟩; rw [hl]))
        go_ret
        exact ⟨by rw [e.out]; rfl, rfl⟩
    · have e : Hid (lenD y 3 = 31) := Lib.hid (by unfold lenD; rw [if_neg (by omega)]; rfl)
      go_enter Tryd.func79, Tryd.ntmps79
      go_wp2
      go_ret
      exact ⟨by rw [e.out]; rfl, rfl⟩
    · have e : Hid (lenD y 4 = 30) := Lib.hid (by unfold lenD; rw [if_neg (by omega)]; rfl)
      go_enter Tryd.func79, Tryd.ntmps79
      go_wp2
      go_ret
      exact ⟨by rw [e.out]; rfl, rfl⟩
    · have e : Hid (lenD y 5 = 31) := Lib.hid (by unfold lenD; rw [if_neg (by omega)]; rfl)
      go_enter Tryd.func79, Tryd.ntmps79
      go_wp2
      go_ret
      exact ⟨by rw [e.out]; rfl, rfl⟩
    · have e : Hid (lenD y 6 = 30) := Lib.hid (by unfold lenD; rw [if_neg (by omega)]; rfl)
      go_enter Tryd.func79, Tryd.ntmps79
      go_wp2
      go_ret
      exact ⟨by rw [e.out]; rfl, rfl⟩
    · have e : Hid (lenD y 7 = 31) := Lib.hid (by unfold lenD; rw [if_neg (by omega)]; rfl)
      go_enter Tryd.func79, Tryd.ntmps79
      go_wp2
      go_ret
      exact ⟨by rw [e.out]; rfl, rfl⟩
    · have e : Hid (lenD y 8 = 31) := Lib.hid (by unfold lenD; rw [if_neg (by omega)]; rfl)
      go_enter Tryd.func79, Tryd.ntmps79
      go_wp2
      go_ret
      exact ⟨by rw [e.out]; rfl, rfl⟩
    · have e : Hid (lenD y 9 = 30) := Lib.hid (by unfold lenD; rw [if_neg (by omega)]; rfl)
      go_enter Tryd.func79, Tryd.ntmps79
      go_wp2
      go_ret
      exact ⟨by rw [e.out]; rfl, rfl⟩
    · have e : Hid (lenD y 10 = 31) := Lib.hid (by unfold lenD; rw [if_neg (by omega)]; rfl)
      go_enter Tryd.func79, Tryd.ntmps79
      go_wp2
      go_ret
      exact ⟨by rw [e.out]; rfl, rfl⟩
    · have e : Hid (lenD y 11 = 30) := Lib.hid (by unfold lenD; rw [if_neg (by omega)]; rfl)
      go_enter Tryd.func79, Tryd.ntmps79
      go_wp2
      go_ret
      exact ⟨by rw [e.out]; rfl, rfl⟩
    · have e : Hid (lenD y 12 = 31) := Lib.hid (by unfold lenD; rw [if_neg (by omega)]; rfl)
      go_enter Tryd.func79, Tryd.ntmps79
      go_wp2
      go_ret
      exact ⟨by rw [e.out]; rfl, rfl⟩
set_option maxRecDepth 100000 in
set_option maxHeartbeats 2000000 in
theorem refAhead_any (y : Int) (h : 1 ≤ y ∧ y ≤ 10000) (w : World) :
    Calls Tryd.prog 80 #[.int .i64 y] w fun e w' => e = .returned (.int .i64 (aheadD y)) ∧ w' = w := by
  have m1 : Int.tdiv (y - 1) 4 = (y - 1) / 4 := tdiv_pos (by omega)
  have m2 : Int.tdiv (y - 1) 100 = (y - 1) / 100 := tdiv_pos (by omega)
  have m3 : Int.tdiv (y - 1) 400 = (y - 1) / 400 := tdiv_pos (by omega)
  have e : Hid (aheadD y = (y - 1) * 365 + (y - 1) / 4 - (y - 1) / 100 + (y - 1) / 400) := Lib.hid rfl
  go_enter Tryd.func80, Tryd.ntmps80
  go_wp2
  go_ret
  exact ⟨by rw [e.out]; rfl, rfl⟩
end Go.Proofs.YtdilnofolnabdaaDoor

/-
  The document's own answers of layer 10: a date's day, and a day's date.
-/
namespace Go.Proofs.YtdilnofolnabdaaDoor
open Go.RowKit

theorem results_tmp4 {fn : Func} {t u v x : Tmp} (h : fn.results = #[.tmp t, .tmp u, .tmp v, .tmp x]) (tmps : Array Value) (P : Program) (w : World) :
    (results fn tmps).run P w = .ok (.tuple #[tmps.getD t undef, tmps.getD u undef, tmps.getD v undef, tmps.getD x undef]) w := by
  simp [results, h]

set_option maxRecDepth 100000 in
set_option maxHeartbeats 2000000 in
theorem refDays_any (y m d : Int) (w : World) :
    Calls Tryd.prog 61 #[.int .i64 y, .int .i64 m, .int .i64 d] w fun e w' => e = .returned (.tuple #[.int .i64 (daysV y m d).1, .bool (daysV y m d).2]) ∧ w' = w := by
  by_cases h1 : d < 1
  · have e : Hid (daysV y m d = (0, false)) := Lib.hid (daysV_bad (by unfold dateD; omega))
    go_enter Tryd.func61, Tryd.ntmps61
    go_wp2
    go_ret2
    exact ⟨by rw [e.out]; rfl, rfl⟩
  by_cases h2 : lenD y m < d
  · have e : Hid (daysV y m d = (0, false)) := Lib.hid (daysV_bad (by unfold dateD; omega))
    go_enter Tryd.func61, Tryd.ntmps61
    go_wp2_with (go_at_call 79; ((with_reducible refine (refLength_any y m _).mono ?_); rintro e w' ⟨rfl, hw⟩; subst w'))
    go_ret2
    exact ⟨by rw [e.out]; rfl, rfl⟩
  obtain ⟨hy, hm⟩ := lenD_range (y := y) (m := m) (d := d) ⟨by omega, by omega⟩
  have hp := lenD_pos hy hm
  have e : Hid (daysV y m d = (-719162 + (aheadD y + monD (leapD y) m) + (d - 1), true)) := Lib.hid (by
    rw [daysV_ok ⟨by omega, by omega⟩]; unfold numD; simp only [Prod.mk.injEq, and_true]; omega)
  have ha1 := aheadD_le (y := 1) (z := y) (by omega)
  have ha2 := aheadD_le (y := y) (z := 10000) (by omega)
  have ha3 := aheadD_end
  have ha4 := aheadD_one
  have hb1 : 0 ≤ aheadD y := by omega
  have hb2 : aheadD y ≤ 3652059 := by omega
  clear ha1 ha2 ha3 ha4
  have M : Hid (∀ k : Int, 1 ≤ k → k ≤ 12 → 0 ≤ monD (leapD y) k ∧ monD (leapD y) (k + 1) = monD (leapD y) k + lenD y k ∧ monD (leapD y) k ≤ 366 ∧ 28 ≤ lenD y k ∧ lenD y k ≤ 31) := Lib.hid (by
    intro k k1 k2
    have a := monD_le (y := y) (m := k) (k := 13) hy k1 (by omega) (by omega)
    have b : monD (leapD y) 13 ≤ 366 := by cases leapD y <;> decide
    have c := lenD_pos (y := y) (m := k) hy ⟨k1, k2⟩
    exact ⟨monD_nonneg _ _, monD_next hy ⟨k1, k2⟩, by omega, c⟩)
  go_enter Tryd.func61, Tryd.ntmps61
  go_wp2_with (first | (go_at_call 79; ((with_reducible refine (refLength_any y m _).mono ?_); rintro e w' ⟨rfl, hw⟩; subst w')) | (go_at_call 80; ((with_reducible refine (refAhead_any y (by omega) _).mono ?_); rintro e w' ⟨rfl, hw⟩; subst w')))
  go_loopw [8, 9] (fun v p wr => ∃ k : Int, p = .int .i64 k ∧ v = .int .i64 (aheadD y + monD (leapD y) k) ∧ 1 ≤ k ∧ k ≤ m ∧ wr = w) (fun _ p _ => (m - intOf p).toNat)
  case atStart => exact ⟨1, rfl, by rw [monD_one]; simp, by omega, by omega, rfl⟩
  case round =>
    obtain ⟨k, rfl, rfl, hk1, hk2, rfl⟩ := hrel
    obtain ⟨q1, q2, q3, q4, q5⟩ := M.out k hk1 (by omega)
    by_cases hlt : k < m
    · have Q2 := Lib.hid q2
      clear q2
      go_wp2_with (go_at_call 79; ((with_reducible refine (refLength_any y k _).mono ?_); rintro e w' ⟨rfl, hw⟩; subst w'))
      go_round
      case rel => exact ⟨k + 1, by go_num, by rw [Q2.out]; first | go_num | (congr 1; omega), by omega, by omega, by first | rfl | trivial⟩
      case measure => simp [intOf]; omega
    · obtain rfl : k = m := by omega
      clear q2
      go_wp2
      go_ret2
      exact ⟨by rw [e.out]; rfl, by first | rfl | trivial⟩

end Go.Proofs.YtdilnofolnabdaaDoor

/-
  The small functions of layer 8, the program's and the document's: a byte's kind, its small letter, a digit's value.
-/
namespace Go.Proofs.YtdilnofolnabdaaDoor
open Go.RowKit

set_option maxHeartbeats 1000000 in
theorem isDigit_any (n : Nat) (hn : n < 256) (w : World) :
    Calls Tryd.prog 76 #[.int .u8 n] w fun e w' => e = .returned (.bool (digN n)) ∧ w' = w := by
  by_cases h1 : 48 ≤ n <;> by_cases h2 : n ≤ 57
  all_goals first
    | (exfalso; omega)
    | (have e : Hid (digN n = (decide (48 ≤ n) && decide (n ≤ 57))) := Lib.hid rfl
       go_enter Tryd.func76, Tryd.ntmps76
       go_wp2
       go_ret
       refine ⟨?_, rfl⟩
       rw [e.out]
       first | (simp [h1, h2]; done) | (simp [h1, h2]; omega))

set_option maxHeartbeats 1000000 in
theorem refDigit_any (n : Nat) (hn : n < 256) (w : World) :
    Calls Tryd.prog 58 #[.int .u8 n] w fun e w' => e = .returned (.bool (digN n)) ∧ w' = w := by
  by_cases h1 : 48 ≤ n <;> by_cases h2 : n ≤ 57
  all_goals first
    | (exfalso; omega)
    | (have e : Hid (digN n = (decide (48 ≤ n) && decide (n ≤ 57))) := Lib.hid rfl
       go_enter Tryd.func58, Tryd.ntmps58
       go_wp2
       go_ret
       refine ⟨?_, rfl⟩
       rw [e.out]
       first | (simp [h1, h2]; done) | (simp [h1, h2]; omega))

end Go.Proofs.YtdilnofolnabdaaDoor
