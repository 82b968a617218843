/-
  The document's own answers of layer 10, the first: years and months, days of the week, days and seconds.
-/
import Derived.WalkSpells
import Derived.WalkLawsBesides
import Derived.Lib.Hide
import Derived.Test.YtdilnofolnabdaaDoorProg
import Derived.Test.YtdilnofolnabdaaDoorDateMath
namespace Go.Proofs.YtdilnofolnabdaaDoor
open Go.RowKit

theorem tmod_pos {a b : Int} (h : 0 ≤ a) : Int.tmod a b = a % b := Int.tmod_eq_emod_of_nonneg h
theorem tdiv_pos {a b : Int} (h : 0 ≤ a) : Int.tdiv a b = a / b := Int.tdiv_eq_ediv_of_nonneg h

set_option maxRecDepth 100000 in
set_option maxHeartbeats 2000000 in
theorem refLeap_any (y : Int) (h : 1 ≤ y ∧ y ≤ 9999) (w : World) :
    Calls Tryd.prog 92 #[.int .i64 y] w fun e w' => e = .returned (.bool (leapD y)) ∧ w' = w := by
  have m1 : Int.tmod y 4 = y % 4 := tmod_pos (by omega)
  have m2 : Int.tmod y 100 = y % 100 := tmod_pos (by omega)
  have m3 : Int.tmod y 400 = y % 400 := tmod_pos (by omega)
  generalize hl : leapD y = l
  have hi := leapD_iff y
  rw [hl] at hi
  clear hl
  by_cases h4 : y % 4 = 0
  · by_cases h1 : y % 100 = 0
    · by_cases h0 : y % 400 = 0
      · obtain rfl : l = true := by first | (rw [hi]; omega) | (rw [Bool.eq_false_iff, ne_eq, hi]; omega)
        clear hi
        go_enter Tryd.func92, Tryd.ntmps92
        go_wp2
        go_ret
        exact ⟨rfl, rfl⟩
      · have b0 : (y % 400 == 0) = false := by simp [h0]
        obtain rfl : l = false := by first | (rw [hi]; omega) | (rw [Bool.eq_false_iff, ne_eq, hi]; omega)
        clear hi
        go_enter Tryd.func92, Tryd.ntmps92
        go_wp2
        go_ret
        exact ⟨rfl, rfl⟩
    · obtain rfl : l = true := by first | (rw [hi]; omega) | (rw [Bool.eq_false_iff, ne_eq, hi]; omega)
      clear hi
      go_enter Tryd.func92, Tryd.ntmps92
      go_wp2
      go_ret
      exact ⟨rfl, rfl⟩
  · have h0 : ¬ y % 400 = 0 := by omega
    have b0 : (y % 400 == 0) = false := by simp [h0]
    have b4 : (y % 4 == 0) = false := by simp [h4]
    obtain rfl : l = false := by first | (rw [hi]; omega) | (rw [Bool.eq_false_iff, ne_eq, hi]; omega)
    clear hi
    go_enter Tryd.func92, Tryd.ntmps92
    go_wp2
    go_ret
    exact ⟨rfl, rfl⟩
set_option maxRecDepth 100000 in
set_option maxHeartbeats 2000000 in
theorem refLength_any (y m : Int) (w : World) :
    Calls Tryd.prog 79 #[.int .i64 y, .int .i64 m] w fun e w' => e = .returned (.int .i64 (lenD y m)) ∧ w' = w := by
  by_cases h1 : y < 1
  · have e : Hid (lenD y m = 0) := Lib.hid (by unfold lenD; rw [if_pos (by omega)])
    go_enter Tryd.func79, Tryd.ntmps79
    go_wp2
    go_ret
    exact ⟨by rw [e.out]; rfl, rfl⟩
  by_cases h2 : 9999 < y
  · have e : Hid (lenD y m = 0) := Lib.hid (by unfold lenD; rw [if_pos (by omega)])
    go_enter Tryd.func79, Tryd.ntmps79
    go_wp2
    go_ret
    exact ⟨by rw [e.out]; rfl, rfl⟩
  by_cases h3 : m < 1
  · have e : Hid (lenD y m = 0) := Lib.hid (by unfold lenD; rw [if_pos (by omega)])
    go_enter Tryd.func79, Tryd.ntmps79
    go_wp2
    go_ret
    exact ⟨by rw [e.out]; rfl, rfl⟩
  by_cases h4 : 12 < m
  · have e : Hid (lenD y m = 0) := Lib.hid (by unfold lenD; rw [if_pos (by omega)])
    go_enter Tryd.func79, Tryd.ntmps79
    go_wp2
    go_ret
    exact ⟨by rw [e.out]; rfl, rfl⟩
  have hm : m = 1 ∨ m = 2 ∨ m = 3 ∨ m = 4 ∨ m = 5 ∨ m = 6 ∨ m = 7 ∨ m = 8 ∨ m = 9 ∨ m = 10 ∨ m = 11 ∨ m = 12 := by omega
  clear h3 h4
  · rcases hm with rfl | rfl | rfl | rfl | rfl | rfl | rfl | rfl | rfl | rfl | rfl | rfl
    · have e : Hid (lenD y 1 = 31) := Lib.hid (by unfold lenD; rw [if_neg (by omega)]; rfl)
      go_enter Tryd.func79, Tryd.ntmps79
      go_wp2
      go_ret
      exact ⟨by rw [e.out]; rfl, rfl⟩
    · cases hl : leapD y
      · have e : Hid (lenD y 2 = 28) := Lib.hid (by unfold lenD; rw [if_neg (by omega), if_pos rfl, hl]; rfl)
        go_enter Tryd.func79, Tryd.ntmps79
        go_wp2_with (go_at_call 92; ((with_reducible refine (refLeap_any y (by omega) _).mono ?_); rintro e w' ⟨rfl, rfl⟩; rw [hl]))
        go_ret
        exact ⟨by rw [e.out]; rfl, rfl⟩
      · have e : Hid (lenD y 2 = 29) := Lib.hid (by unfold lenD; rw [if_neg (by omega), if_pos rfl, hl]; rfl)
        go_enter Tryd.func79, Tryd.ntmps79
        go_wp2_with (go_at_call 92; ((with_reducible refine (refLeap_any y (by omega) _).mono ?_); rintro e w' ⟨rfl, rfl⟩; rw [hl]))
        go_ret
        exact ⟨by rw [e.out]; rfl, rfl⟩
    · have e : Hid (lenD y 3 = 31) := Lib.hid (by unfold lenD; rw [if_neg (by omega)]; rfl)
      go_enter Tryd.func79, Tryd.ntmps79
      go_wp2
      go_ret
      exact ⟨by rw [e.out]; rfl, rfl⟩
    · have e : Hid (lenD y 4 = 30) := Lib.hid (by unfold lenD; rw [if_neg (by omega)]; rfl)
      go_enter Tryd.func79, Tryd.ntmps79
      go_wp2
      go_ret
      exact ⟨by rw [e.out]; rfl, rfl⟩
    · have e : Hid (lenD y 5 = 31) := Lib.hid (by unfold lenD; rw [if_neg (by omega)]; rfl)
      go_enter Tryd.func79, Tryd.ntmps79
      go_wp2
      go_ret
      exact ⟨by rw [e.out]; rfl, rfl⟩
    · have e : Hid (lenD y 6 = 30) := Lib.hid (by unfold lenD; rw [if_neg (by omega)]; rfl)
      go_enter Tryd.func79, Tryd.ntmps79
      go_wp2
      go_ret
      exact ⟨by rw [e.out]; rfl, rfl⟩
    · have e : Hid (lenD y 7 = 31) := Lib.hid (by unfold lenD; rw [if_neg (by omega)]; rfl)
      go_enter Tryd.func79, Tryd.ntmps79
      go_wp2
      go_ret
      exact ⟨by rw [e.out]; rfl, rfl⟩
    · have e : Hid (lenD y 8 = 31) := Lib.hid (by unfold lenD; rw [if_neg (by omega)]; rfl)
      go_enter Tryd.func79, Tryd.ntmps79
      go_wp2
      go_ret
      exact ⟨by rw [e.out]; rfl, rfl⟩
    · have e : Hid (lenD y 9 = 30) := Lib.hid (by unfold lenD; rw [if_neg (by omega)]; rfl)
      go_enter Tryd.func79, Tryd.ntmps79
      go_wp2
      go_ret
      exact ⟨by rw [e.out]; rfl, rfl⟩
    · have e : Hid (lenD y 10 = 31) := Lib.hid (by unfold lenD; rw [if_neg (by omega)]; rfl)
      go_enter Tryd.func79, Tryd.ntmps79
      go_wp2
      go_ret
      exact ⟨by rw [e.out]; rfl, rfl⟩
    · have e : Hid (lenD y 11 = 30) := Lib.hid (by unfold lenD; rw [if_neg (by omega)]; rfl)
      go_enter Tryd.func79, Tryd.ntmps79
      go_wp2
      go_ret
      exact ⟨by rw [e.out]; rfl, rfl⟩
    · have e : Hid (lenD y 12 = 31) := Lib.hid (by unfold lenD; rw [if_neg (by omega)]; rfl)
      go_enter Tryd.func79, Tryd.ntmps79
      go_wp2
      go_ret
      exact ⟨by rw [e.out]; rfl, rfl⟩
set_option maxRecDepth 100000 in
set_option maxHeartbeats 2000000 in
theorem refAhead_any (y : Int) (h : 1 ≤ y ∧ y ≤ 10000) (w : World) :
    Calls Tryd.prog 80 #[.int .i64 y] w fun e w' => e = .returned (.int .i64 (aheadD y)) ∧ w' = w := by
  have m1 : Int.tdiv (y - 1) 4 = (y - 1) / 4 := tdiv_pos (by omega)
  have m2 : Int.tdiv (y - 1) 100 = (y - 1) / 100 := tdiv_pos (by omega)
  have m3 : Int.tdiv (y - 1) 400 = (y - 1) / 400 := tdiv_pos (by omega)
  have e : Hid (aheadD y = (y - 1) * 365 + (y - 1) / 4 - (y - 1) / 100 + (y - 1) / 400) := Lib.hid rfl
  go_enter Tryd.func80, Tryd.ntmps80
  go_wp2
  go_ret
  exact ⟨by rw [e.out]; rfl, rfl⟩
end Go.Proofs.YtdilnofolnabdaaDoor
