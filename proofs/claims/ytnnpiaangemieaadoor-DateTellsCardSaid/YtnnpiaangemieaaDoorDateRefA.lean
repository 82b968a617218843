/-
  The document's own answers of layer 10, the first: years and months, days of the week, days and seconds.
-/
import Derived.WalkSpells
import Derived.WalkLawsBesides
import Derived.Lib.Hide
import Derived.Test.YtnnpiaangemieaaDoorProg
import Derived.Test.YtnnpiaangemieaaDoorDateMath
namespace Go.Proofs.YtnnpiaangemieaaDoor
open Go.RowKit

theorem tmod_pos {a b : Int} (h : 0 ≤ a) : Int.tmod a b = a % b := Int.tmod_eq_emod_of_nonneg h
theorem tdiv_pos {a b : Int} (h : 0 ≤ a) : Int.tdiv a b = a / b := Int.tdiv_eq_ediv_of_nonneg h

set_option maxRecDepth 100000 in
set_option maxHeartbeats 2000000 in
theorem refLeap_any (y : Int) (h : 1 ≤ y ∧ y ≤ 9999) (w : World) :
    Calls Tryd.prog 36 #[.int .i64 y] w fun e w' => e = .returned (.bool (leapD y)) ∧ w' = w := by
  have m1 : Int.tmod y 4 = y % 4 := tmod_pos (by omega)
  have m2 : Int.tmod y 100 = y % 100 := tmod_pos (by omega)
  have m3 : Int.tmod y 400 = y % 400 := tmod_pos (by omega)
  generalize hl : leapD y = l
  have hi := leapD_iff y
  rw [hl] at hi
  clear hl
  by_cases h4 : y % 4 = 0
  · by_cases h1 : y % 100 = 0
    · by_cases h0 : y % 400 = 0
      · obtain rfl : l = true := by first | (rw [hi]; omega) | (rw [Bool.eq_false_iff, ne_eq, hi]; omega)
        clear hi
        go_enter Tryd.func36, Tryd.ntmps36
        go_wp2
        go_ret
        exact ⟨rfl, rfl⟩
      · have b0 : (y % 400 == 0) = false := by simp [h0]
        obtain rfl : l = false := by first | (rw [hi]; omega) | (rw [Bool.eq_false_iff, ne_eq, hi]; omega)
        clear hi
        go_enter Tryd.func36, Tryd.ntmps36
        go_wp2
        go_ret
        exact ⟨rfl, rfl⟩
    · obtain rfl : l = true := by first | (rw [hi]; omega) | (rw [Bool.eq_false_iff, ne_eq, hi]; omega)
      clear hi
      go_enter Tryd.func36, Tryd.ntmps36
      go_wp2
      go_ret
      exact ⟨rfl, rfl⟩
  · have h0 : ¬ y % 400 = 0 := by omega
    have b0 : (y % 400 == 0) = false := by simp [h0]
    have b4 : (y % 4 == 0) = false := by simp [h4]
    obtain rfl : l = false := by first | (rw [hi]; omega) | (rw [Bool.eq_false_iff, ne_eq, hi]; omega)
    clear hi
    go_enter Tryd.func36, Tryd.ntmps36
    go_wp2
    go_ret
    exact ⟨rfl, rfl⟩
set_option maxRecDepth 100000 in
set_option maxHeartbeats 2000000 in
theorem refLength_any (y m : Int) (w : World) :
    Calls Tryd.prog 14 #[.int .i64 y, .int .i64 m] w fun e w' => e = .returned (.int .i64 (lenD y m)) ∧ w' = w := by
  by_cases h1 : y < 1
  · have e : Hid (lenD y m = 0) := Lib.hid (by unfold lenD; rw [if_pos (by omega)])
    go_enter Tryd.func14, Tryd.ntmps14
    go_wp2
    go_ret
    exact ⟨by rw [e.out]; rfl, rfl⟩
  by_cases h2 : 9999 < y
  · have e : Hid (lenD y m = 0) := Lib.hid (by unfold lenD; rw [if_pos (by omega)])
    go_enter Tryd.func14, Tryd.ntmps14
    go_wp2
    go_ret
    exact ⟨by rw [e.out]; rfl, rfl⟩
  by_cases h3 : m < 1
  · have e : Hid (lenD y m = 0) := Lib.hid (by unfold lenD; rw [if_pos (by omega)])
    go_enter Tryd.func14, Tryd.ntmps14
    go_wp2
    go_ret
    exact ⟨by rw [e.out]; rfl, rfl⟩
  by_cases h4 : 12 < m
  · have e : Hid (lenD y m = 0) := Lib.hid (by unfold lenD; rw [if_pos (by omega)])
    go_enter Tryd.func14, Tryd.ntmps14
    go_wp2
    go_ret
    exact ⟨by rw [e.out]; rfl, rfl⟩
  have hm : m = 1 ∨ m = 2 ∨ m = 3 ∨ m = 4 ∨ m = 5 ∨ m = 6 ∨ m = 7 ∨ m = 8 ∨ m = 9 ∨ m = 10 ∨ m = 11 ∨ m = 12 := by omega
  clear h3 h4
  · rcases hm with rfl | rfl | rfl | rfl | rfl | rfl | rfl | rfl | rfl | rfl | rfl | rfl
    · have e : Hid (lenD y 1 = 31) := Lib.hid (by unfold lenD; rw [if_neg (by omega)]; rfl)
      go_enter Tryd.func14, Tryd.ntmps14
      go_wp2
      go_ret
      exact ⟨by rw [e.out]; rfl, rfl⟩
    · cases hl : leapD y
      · have e : Hid (lenD y 2 = 28) := Lib.hid (by unfold lenD; rw [if_neg (by omega), if_pos rfl, hl]; rfl)
        go_enter Tryd.func14, Tryd.ntmps14
        go_wp2_with (go_at_call 36; ((with_reducible refine (refLeap_any y (by omega) _).mono ?_); rintro e w' ⟨rfl, rfl⟩; rw [hl]))
        go_ret
        exact ⟨by rw [e.out]; rfl, rfl⟩
      · have e : Hid (lenD y 2 = 29) := Lib.hid (by unfold lenD; rw [if_neg (by omega), if_pos rfl, hl]; rfl)
        go_enter Tryd.func14, Tryd.ntmps14
        go_wp2_with (go_at_call 36; ((with_reducible refine (refLeap_any y (by omega) _).mono ?_); rintro e w' ⟨rfl, rfl⟩; rw [hl]))
        go_ret
        exact ⟨by rw [e.out]; rfl, rfl⟩
    · have e : Hid (lenD y 3 = 31) := Lib.hid (by unfold lenD; rw [if_neg (by omega)]; rfl)
      go_enter Tryd.func14, Tryd.ntmps14
      go_wp2
      go_ret
      exact ⟨by rw [e.out]; rfl, rfl⟩
    · have e : Hid (lenD y 4 = 30) := Lib.hid (by unfold lenD; rw [if_neg (by omega)]; rfl)
      go_enter Tryd.func14, Tryd.ntmps14
      go_wp2
      go_ret
      exact ⟨by rw [e.out]; rfl, rfl⟩
    · have e : Hid (lenD y 5 = 31) := Lib.hid (by unfold lenD; rw [if_neg (by omega)]; rfl)
      go_enter Tryd.func14, Tryd.ntmps14
      go_wp2
      go_ret
      exact ⟨by rw [e.out]; rfl, rfl⟩
    · have e : Hid (lenD y 6 = 30) := Lib.hid (by unfold lenD; rw [if_neg (by omega)]; rfl)
      go_enter Tryd.func14, Tryd.ntmps14
      go_wp2
      go_ret
      exact ⟨by rw [e.out]; rfl, rfl⟩
    · have e : Hid (lenD y 7 = 31) := Lib.hid (by unfold lenD; rw [if_neg (by omega)]; rfl)
      go_enter Tryd.func14, Tryd.ntmps14
      go_wp2
      go_ret
      exact ⟨by rw [e.out]; rfl, rfl⟩
    · have e : Hid (lenD y 8 = 31) := Lib.hid (by unfold lenD; rw [if_neg (by omega)]; rfl)
      go_enter Tryd.func14, Tryd.ntmps14
      go_wp2
      go_ret
      exact ⟨by rw [e.out]; rfl, rfl⟩
    · have e : Hid (lenD y 9 = 30) := Lib.hid (by unfold lenD; rw [if_neg (by omega)]; rfl)
      go_enter Tryd.func14, Tryd.ntmps14
      go_wp2
      go_ret
      exact ⟨by rw [e.out]; rfl, rfl⟩
    · have e : Hid (lenD y 10 = 31) := Lib.hid (by unfold lenD; rw [if_neg (by omega)]; rfl)
      go_enter Tryd.func14, Tryd.ntmps14
      go_wp2
      go_ret
      exact ⟨by rw [e.out]; rfl, rfl⟩
    · have e : Hid (lenD y 11 = 30) := Lib.hid (by unfold lenD; rw [if_neg (by omega)]; rfl)
      go_enter Tryd.func14, Tryd.ntmps14
      go_wp2
      go_ret
      exact ⟨by rw [e.out]; rfl, rfl⟩
    · have e : Hid (lenD y 12 = 31) := Lib.hid (by unfold lenD; rw [if_neg (by omega)]; rfl)
      go_enter Tryd.func14, Tryd.ntmps14
      go_wp2
      go_ret
      exact ⟨by rw [e.out]; rfl, rfl⟩
set_option maxRecDepth 100000 in
set_option maxHeartbeats 2000000 in
theorem refAhead_any (y : Int) (h : 1 ≤ y ∧ y ≤ 10000) (w : World) :
    Calls Tryd.prog 34 #[.int .i64 y] w fun e w' => e = .returned (.int .i64 (aheadD y)) ∧ w' = w := by
  have m1 : Int.tdiv (y - 1) 4 = (y - 1) / 4 := tdiv_pos (by omega)
  have m2 : Int.tdiv (y - 1) 100 = (y - 1) / 100 := tdiv_pos (by omega)
  have m3 : Int.tdiv (y - 1) 400 = (y - 1) / 400 := tdiv_pos (by omega)
  have e : Hid (aheadD y = (y - 1) * 365 + (y - 1) / 4 - (y - 1) / 100 + (y - 1) / 400) := Lib.hid rfl
  go_enter Tryd.func34, Tryd.ntmps34
  go_wp2
  go_ret
  exact ⟨by rw [e.out]; rfl, rfl⟩
set_option maxRecDepth 100000 in
set_option maxHeartbeats 2000000 in
theorem refWeekday_any (n : Int) (w : World) :
    Calls Tryd.prog 16 #[.int .i64 n] w fun e w' => e = .returned (.int .i64 (wdD n)) ∧ w' = w := by
  have h1 : Int.tmod (Int.tmod n 7 + 10) 7 = wdD n := by
    unfold wdD
    rw [tmod_pos (by have := Int.tmod_lt_of_pos n (b := 7) (by omega); have := Int.lt_tmod_of_pos n (b := 7) (by omega); omega)]
    have := Int.tmod_add_mul_tdiv n 7
    omega
  have h2 : -7 < Int.tmod n 7 := Int.lt_tmod_of_pos n (by omega)
  have h3 : Int.tmod n 7 < 7 := Int.tmod_lt_of_pos n (by omega)
  have h4 := wdD_range n
  go_enter Tryd.func16, Tryd.ntmps16
  go_wp2
  go_ret
  exact ⟨rfl, rfl⟩
set_option maxRecDepth 100000 in
set_option maxHeartbeats 2000000 in
theorem refIn_any (t : Int) (w : World) :
    Calls Tryd.prog 18 #[.int .i64 t] w fun e w' => e = .returned (.bool (inD t)) ∧ w' = w := by
  by_cases h1 : -62135596800 ≤ t
  · by_cases h2 : t ≤ 253402300799
    · have e : Hid (inD t = true) := Lib.hid (by unfold inD; simp [h1, h2])
      go_enter Tryd.func18, Tryd.ntmps18
      go_wp2
      go_ret
      exact ⟨by rw [e.out]; rfl, rfl⟩
    · have e : Hid (inD t = false) := Lib.hid (by unfold inD; simp [h2])
      go_enter Tryd.func18, Tryd.ntmps18
      go_wp2
      go_ret
      exact ⟨by rw [e.out]; rfl, rfl⟩
  · have e : Hid (inD t = false) := Lib.hid (by unfold inD; simp [h1])
    go_enter Tryd.func18, Tryd.ntmps18
    go_wp2
    go_ret
    exact ⟨by rw [e.out]; rfl, rfl⟩
set_option maxRecDepth 100000 in
set_option maxHeartbeats 2000000 in
theorem refParts_any (t : Int) (ht : -9223372036854775808 ≤ t ∧ t < 9223372036854775808) (w : World) :
    Calls Tryd.prog 12 #[.int .i64 t] w fun e w' => e = .returned (.tuple #[.int .i64 (t / 86400), .int .i64 (t % 86400)]) ∧ w' = w := by
  have k := Int.tmod_add_mul_tdiv t 86400
  have k1 : -86400 < Int.tmod t 86400 := Int.lt_tmod_of_pos t (by omega)
  have k2 : Int.tmod t 86400 < 86400 := Int.tmod_lt_of_pos t (by omega)
  by_cases hs : Int.tmod t 86400 < 0
  · have e1 : Hid (t / 86400 = Int.tdiv t 86400 - 1) := Lib.hid (by omega)
    have e2 : Hid (t % 86400 = Int.tmod t 86400 + 86400) := Lib.hid (by omega)
    have b : -9223372036854775808 ≤ Int.tdiv t 86400 - 1 ∧ Int.tdiv t 86400 - 1 < 9223372036854775808 := by omega
    have b2 : -9223372036854775808 ≤ Int.tdiv t 86400 ∧ Int.tdiv t 86400 < 9223372036854775808 := by omega
    clear k
    go_enter Tryd.func12, Tryd.ntmps12
    go_wp2
    go_ret2
    exact ⟨by rw [e1.out, e2.out]; rfl, rfl⟩
  · have e1 : Hid (t / 86400 = Int.tdiv t 86400) := Lib.hid (by omega)
    have e2 : Hid (t % 86400 = Int.tmod t 86400) := Lib.hid (by omega)
    have b2 : -9223372036854775808 ≤ Int.tdiv t 86400 ∧ Int.tdiv t 86400 < 9223372036854775808 := by omega
    clear k
    go_enter Tryd.func12, Tryd.ntmps12
    go_wp2
    go_ret2
    exact ⟨by rw [e1.out, e2.out]; rfl, rfl⟩

end Go.Proofs.YtnnpiaangemieaaDoor
