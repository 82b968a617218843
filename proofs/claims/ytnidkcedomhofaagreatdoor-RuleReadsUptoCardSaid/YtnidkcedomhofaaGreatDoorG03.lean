/-
  The document's own answers of layer 10, the first: years and months, days of the week, days and seconds.
-/
import Derived.WalkSpells
import Derived.WalkLawsBesides
import Derived.Lib.Hide
import Derived.Test.YtnidkcedomhofaaGreatDoorProg
import Derived.Test.YtnidkcedomhofaaGreatDoorG01
import Derived.WalkKit
namespace Go.Proofs.YtnidkcedomhofaaGreatDoor
open Go.RowKit

theorem tmod_pos {a b : Int} (h : 0 ≤ a) : Int.tmod a b = a % b := Int.tmod_eq_emod_of_nonneg h
theorem tdiv_pos {a b : Int} (h : 0 ≤ a) : Int.tdiv a b = a / b := Int.tdiv_eq_ediv_of_nonneg h

set_option maxRecDepth 100000 in
set_option maxHeartbeats 2000000 in
theorem refLeap_any (y : Int) (h : 1 ≤ y ∧ y ≤ 9999) (w : World) :
    Calls Tryz.prog 149 #[.int .i64 y] w fun e w' => e = .returned (.bool (leapD y)) ∧ w' = w := by
  have m1 : Int.tmod y 4 = y % 4 := tmod_pos (by omega)
  have m2 : Int.tmod y 100 = y % 100 := tmod_pos (by omega)
  have m3 : Int.tmod y 400 = y % 400 := tmod_pos (by omega)
  generalize hl : leapD y = l
  have hi := leapD_iff y
  rw [hl] at hi
  clear hl
  by_cases h4 : y % 4 = 0
  · by_cases h1 : y % 100 = 0
    · by_cases h0 : y % 400 = 0
      · obtain rfl : l = true := by first | (rw [hi]; omega) | (rw [Bool.eq_false_iff, ne_eq, hi]; omega)
        clear hi
        go_enter Tryz.func149, Tryz.ntmps149
        go_wp2
        go_ret
        exact ⟨rfl, rfl⟩
      · have b0 : (y % 400 == 0) = false := by simp [h0]
        obtain rfl : l = false := by first | (rw [hi]; omega) | (rw [Bool.eq_false_iff, ne_eq, hi]; omega)
        clear hi
        go_enter Tryz.func149, Tryz.ntmps149
        go_wp2
        go_ret
        exact ⟨rfl, rfl⟩
    · obtain rfl : l = true := by first | (rw [hi]; omega) | (rw [Bool.eq_false_iff, ne_eq, hi]; omega)
      clear hi
      go_enter Tryz.func149, Tryz.ntmps149
      go_wp2
      go_ret
      exact ⟨rfl, rfl⟩
  · have h0 : ¬ y % 400 = 0 := by omega
    have b0 : (y % 400 == 0) = false := by simp [h0]
    have b4 : (y % 4 == 0) = false := by simp [h4]
    obtain rfl : l = false := by first | (rw [hi]; omega) | (rw [Bool.eq_false_iff, ne_eq, hi]; omega)
    clear hi
    go_enter Tryz.func149, Tryz.ntmps149
    go_wp2
    go_ret
    exact ⟨rfl, rfl⟩
set_option maxRecDepth 100000 in
set_option maxHeartbeats 2000000 in
theorem refLength_any (y m : Int) (w : World) :
    Calls Tryz.prog 126 #[.int .i64 y, .int .i64 m] w fun e w' => e = .returned (.int .i64 (lenD y m)) ∧ w' = w := by
  by_cases h1 : y < 1
  · have e : Hid (lenD y m = 0) := Lib.hid (by unfold lenD; rw [if_pos (by omega)])
    go_enter Tryz.func126, Tryz.ntmps126
    go_wp2
    go_ret
    exact ⟨by rw [e.out]; rfl, rfl⟩
  by_cases h2 : 9999 < y
  · have e : Hid (lenD y m = 0) := Lib.hid (by unfold lenD; rw [if_pos (by omega)])
    go_enter Tryz.func126, Tryz.ntmps126
    go_wp2
    go_ret
    exact ⟨by rw [e.out]; rfl, rfl⟩
  by_cases h3 : m < 1
  · have e : Hid (lenD y m = 0) := Lib.hid (by unfold lenD; rw [if_pos (by omega)])
    go_enter Tryz.func126, Tryz.ntmps126
    go_wp2
    go_ret
    exact ⟨by rw [e.out]; rfl, rfl⟩
  by_cases h4 : 12 < m
  · have e : Hid (lenD y m = 0) := Lib.hid (by unfold lenD; rw [if_pos (by omega)])
    go_enter Tryz.func126, Tryz.ntmps126
    go_wp2
    go_ret
    exact ⟨by rw [e.out]; rfl, rfl⟩
  have hm : m = 1 ∨ m = 2 ∨ m = 3 ∨ m = 4 ∨ m = 5 ∨ m = 6 ∨ m = 7 ∨ m = 8 ∨ m = 9 ∨ m = 10 ∨ m = 11 ∨ m = 12 := by omega
  clear h3 h4
  · rcases hm with rfl | rfl | rfl | rfl | rfl | rfl | rfl | rfl | rfl | rfl | rfl | rfl
    · have e : Hid (lenD y 1 = 31) := Lib.hid (by unfold lenD; rw [if_neg (by omega)]; rfl)
      go_enter Tryz.func126, Tryz.ntmps126
      go_wp2
      go_ret
      exact ⟨by rw [e.out]; rfl, rfl⟩
    · cases hl : leapD y
      · have e : Hid (lenD y 2 = 28) := Lib.hid (by unfold lenD; rw [if_neg (by omega), if_pos rfl, hl]; rfl)
        go_enter Tryz.func126, Tryz.ntmps126
        go_wp2_with (go_at_call 149; ((with_reducible refine (refLeap_any y (by omega) _).mono ?_); rintro e w' ⟨rfl, rfl⟩; rw [hl]))
        go_ret
        exact ⟨by rw [e.out]; rfl, rfl⟩
      · have e : Hid (lenD y 2 = 29) := Lib.hid (by unfold lenD; rw [if_neg (by omega), if_pos rfl, hl]; rfl)
        go_enter Tryz.func126, Tryz.ntmps126
        go_wp2_with (go_at_call 149; ((with_reducible refine (refLeap_any y (by omega) _).mono ?_); rintro e w' ⟨rfl, rfl⟩; rw [hl]))
        go_ret
        exact ⟨by rw [e.out]; rfl, rfl⟩
    · have e : Hid (lenD y 3 = 31) := Lib.hid (by unfold lenD; rw [if_neg (by omega)]; rfl)
      go_enter Tryz.func126, Tryz.ntmps126
      go_wp2
      go_ret
      exact ⟨by rw [e.out]; rfl, rfl⟩
    · have e : Hid (lenD y 4 = 30) := Lib.hid (by unfold lenD; rw [if_neg (by omega)]; rfl)
      go_enter Tryz.func126, Tryz.ntmps126
      go_wp2
      go_ret
      exact ⟨by rw [e.out]; rfl, rfl⟩
    · have e : Hid (lenD y 5 = 31) := Lib.hid (by unfold lenD; rw [if_neg (by omega)]; rfl)
      go_enter Tryz.func126, Tryz.ntmps126
      go_wp2
      go_ret
      exact ⟨by rw [e.out]; rfl, rfl⟩
    · have e : Hid (lenD y 6 = 30) := Lib.hid (by unfold lenD; rw [if_neg (by omega)]; rfl)
      go_enter Tryz.func126, Tryz.ntmps126
      go_wp2
      go_ret
      exact ⟨by rw [e.out]; rfl, rfl⟩
    · have e : Hid (lenD y 7 = 31) := Lib.hid (by unfold lenD; rw [if_neg (by omega)]; rfl)
      go_enter Tryz.func126, Tryz.ntmps126
      go_wp2
      go_ret
      exact ⟨by rw [e.out]; rfl, rfl⟩
    · have e : Hid (lenD y 8 = 31) := Lib.hid (by unfold lenD; rw [if_neg (by omega)]; rfl)
      go_enter Tryz.func126, Tryz.ntmps126
      go_wp2
      go_ret
      exact ⟨by rw [e.out]; rfl, rfl⟩
    · have e : Hid (lenD y 9 = 30) := Lib.hid (by unfold lenD; rw [if_neg (by omega)]; rfl)
      go_enter Tryz.func126, Tryz.ntmps126
      go_wp2
      go_ret
      exact ⟨by rw [e.out]; rfl, rfl⟩
    · have e : Hid (lenD y 10 = 31) := Lib.hid (by unfold lenD; rw [if_neg (by omega)]; rfl)
      go_enter Tryz.func126, Tryz.ntmps126
      go_wp2
      go_ret
      exact ⟨by rw [e.out]; rfl, rfl⟩
    · have e : Hid (lenD y 11 = 30) := Lib.hid (by unfold lenD; rw [if_neg (by omega)]; rfl)
      go_enter Tryz.func126, Tryz.ntmps126
      go_wp2
      go_ret
      exact ⟨by rw [e.out]; rfl, rfl⟩
    · have e : Hid (lenD y 12 = 31) := Lib.hid (by unfold lenD; rw [if_neg (by omega)]; rfl)
      go_enter Tryz.func126, Tryz.ntmps126
      go_wp2
      go_ret
      exact ⟨by rw [e.out]; rfl, rfl⟩
set_option maxRecDepth 100000 in
set_option maxHeartbeats 2000000 in
theorem refAhead_any (y : Int) (h : 1 ≤ y ∧ y ≤ 10000) (w : World) :
    Calls Tryz.prog 125 #[.int .i64 y] w fun e w' => e = .returned (.int .i64 (aheadD y)) ∧ w' = w := by
  have m1 : Int.tdiv (y - 1) 4 = (y - 1) / 4 := tdiv_pos (by omega)
  have m2 : Int.tdiv (y - 1) 100 = (y - 1) / 100 := tdiv_pos (by omega)
  have m3 : Int.tdiv (y - 1) 400 = (y - 1) / 400 := tdiv_pos (by omega)
  have e : Hid (aheadD y = (y - 1) * 365 + (y - 1) / 4 - (y - 1) / 100 + (y - 1) / 400) := Lib.hid rfl
  go_enter Tryz.func125, Tryz.ntmps125
  go_wp2
  go_ret
  exact ⟨by rw [e.out]; rfl, rfl⟩
set_option maxRecDepth 100000 in
set_option maxHeartbeats 2000000 in
theorem refIn_any (t : Int) (w : World) :
    Calls Tryz.prog 68 #[.int .i64 t] w fun e w' => e = .returned (.bool (inD t)) ∧ w' = w := by
  by_cases h1 : -62135596800 ≤ t
  · by_cases h2 : t ≤ 253402300799
    · have e : Hid (inD t = true) := Lib.hid (by unfold inD; simp [h1, h2])
      go_enter Tryz.func68, Tryz.ntmps68
      go_wp2
      go_ret
      exact ⟨by rw [e.out]; rfl, rfl⟩
    · have e : Hid (inD t = false) := Lib.hid (by unfold inD; simp [h2])
      go_enter Tryz.func68, Tryz.ntmps68
      go_wp2
      go_ret
      exact ⟨by rw [e.out]; rfl, rfl⟩
  · have e : Hid (inD t = false) := Lib.hid (by unfold inD; simp [h1])
    go_enter Tryz.func68, Tryz.ntmps68
    go_wp2
    go_ret
    exact ⟨by rw [e.out]; rfl, rfl⟩
set_option maxRecDepth 100000 in
set_option maxHeartbeats 2000000 in
theorem refParts_any (t : Int) (ht : -9223372036854775808 ≤ t ∧ t < 9223372036854775808) (w : World) :
    Calls Tryz.prog 67 #[.int .i64 t] w fun e w' => e = .returned (.tuple #[.int .i64 (t / 86400), .int .i64 (t % 86400)]) ∧ w' = w := by
  have k := Int.tmod_add_mul_tdiv t 86400
  have k1 : -86400 < Int.tmod t 86400 := Int.lt_tmod_of_pos t (by omega)
  have k2 : Int.tmod t 86400 < 86400 := Int.tmod_lt_of_pos t (by omega)
  by_cases hs : Int.tmod t 86400 < 0
  · have e1 : Hid (t / 86400 = Int.tdiv t 86400 - 1) := Lib.hid (by omega)
    have e2 : Hid (t % 86400 = Int.tmod t 86400 + 86400) := Lib.hid (by omega)
    have b : -9223372036854775808 ≤ Int.tdiv t 86400 - 1 ∧ Int.tdiv t 86400 - 1 < 9223372036854775808 := by omega
    have b2 : -9223372036854775808 ≤ Int.tdiv t 86400 ∧ Int.tdiv t 86400 < 9223372036854775808 := by omega
    clear k
    go_enter Tryz.func67, Tryz.ntmps67
    go_wp2
    go_ret2
    exact ⟨by rw [e1.out, e2.out]; rfl, rfl⟩
  · have e1 : Hid (t / 86400 = Int.tdiv t 86400) := Lib.hid (by omega)
    have e2 : Hid (t % 86400 = Int.tmod t 86400) := Lib.hid (by omega)
    have b2 : -9223372036854775808 ≤ Int.tdiv t 86400 ∧ Int.tdiv t 86400 < 9223372036854775808 := by omega
    clear k
    go_enter Tryz.func67, Tryz.ntmps67
    go_wp2
    go_ret2
    exact ⟨by rw [e1.out, e2.out]; rfl, rfl⟩

end Go.Proofs.YtnidkcedomhofaaGreatDoor

/-
  The document's own answers of layer 10: a date's day, and a day's date.
-/
namespace Go.Proofs.YtnidkcedomhofaaGreatDoor
open Go.RowKit

theorem results_tmp4 {fn : Func} {t u v x : Tmp} (h : fn.results = #[.tmp t, .tmp u, .tmp v, .tmp x]) (tmps : Array Value) (P : Program) (w : World) :
    (results fn tmps).run P w = .ok (.tuple #[tmps.getD t undef, tmps.getD u undef, tmps.getD v undef, tmps.getD x undef]) w := by
  simp [results, h]

set_option maxRecDepth 100000 in
set_option maxHeartbeats 2000000 in
theorem refDays_any (y m d : Int) (w : World) :
    Calls Tryz.prog 122 #[.int .i64 y, .int .i64 m, .int .i64 d] w fun e w' => e = .returned (.tuple #[.int .i64 (daysV y m d).1, .bool (daysV y m d).2]) ∧ w' = w := by
  by_cases h1 : d < 1
  · have e : Hid (daysV y m d = (0, false)) := Lib.hid (daysV_bad (by unfold dateD; omega))
    go_enter Tryz.func122, Tryz.ntmps122
    go_wp2
    go_ret2
    exact ⟨by rw [e.out]; rfl, rfl⟩
  by_cases h2 : lenD y m < d
  · have e : Hid (daysV y m d = (0, false)) := Lib.hid (daysV_bad (by unfold dateD; omega))
    go_enter Tryz.func122, Tryz.ntmps122
    go_wp2_with (go_at_call 126; ((with_reducible refine (refLength_any y m _).mono ?_); rintro e w' ⟨rfl, hw⟩; subst w'))
    go_ret2
    exact ⟨by rw [e.out]; rfl, rfl⟩
  obtain ⟨hy, hm⟩ := lenD_range (y := y) (m := m) (d := d) ⟨by omega, by omega⟩
  have hp := lenD_pos hy hm
  have e : Hid (daysV y m d = (-719162 + (aheadD y + monD (leapD y) m) + (d - 1), true)) := Lib.hid (by
    rw [daysV_ok ⟨by omega, by omega⟩]; unfold numD; simp only [Prod.mk.injEq, and_true]; omega)
  have ha1 := aheadD_le (y := 1) (z := y) (by omega)
  have ha2 := aheadD_le (y := y) (z := 10000) (by omega)
  have ha3 := aheadD_end
  have ha4 := aheadD_one
  have hb1 : 0 ≤ aheadD y := by omega
  have hb2 : aheadD y ≤ 3652059 := by omega
  clear ha1 ha2 ha3 ha4
  have M : Hid (∀ k : Int, 1 ≤ k → k ≤ 12 → 0 ≤ monD (leapD y) k ∧ monD (leapD y) (k + 1) = monD (leapD y) k + lenD y k ∧ monD (leapD y) k ≤ 366 ∧ 28 ≤ lenD y k ∧ lenD y k ≤ 31) := Lib.hid (by
    intro k k1 k2
    have a := monD_le (y := y) (m := k) (k := 13) hy k1 (by omega) (by omega)
    have b : monD (leapD y) 13 ≤ 366 := by cases leapD y <;> decide
    have c := lenD_pos (y := y) (m := k) hy ⟨k1, k2⟩
    exact ⟨monD_nonneg _ _, monD_next hy ⟨k1, k2⟩, by omega, c⟩)
  go_enter Tryz.func122, Tryz.ntmps122
  go_wp2_with (first | (go_at_call 126; ((with_reducible refine (refLength_any y m _).mono ?_); rintro e w' ⟨rfl, hw⟩; subst w')) | (go_at_call 125; ((with_reducible refine (refAhead_any y (by omega) _).mono ?_); rintro e w' ⟨rfl, hw⟩; subst w')))
  go_loopw [8, 9] (fun v p wr => ∃ k : Int, p = .int .i64 k ∧ v = .int .i64 (aheadD y + monD (leapD y) k) ∧ 1 ≤ k ∧ k ≤ m ∧ wr = w) (fun _ p _ => (m - intOf p).toNat)
  case atStart => exact ⟨1, rfl, by rw [monD_one]; simp, by omega, by omega, rfl⟩
  case round =>
    obtain ⟨k, rfl, rfl, hk1, hk2, rfl⟩ := hrel
    obtain ⟨q1, q2, q3, q4, q5⟩ := M.out k hk1 (by omega)
    by_cases hlt : k < m
    · have Q2 := Lib.hid q2
      clear q2
      go_wp2_with (go_at_call 126; ((with_reducible refine (refLength_any y k _).mono ?_); rintro e w' ⟨rfl, hw⟩; subst w'))
      go_round
      case rel => exact ⟨k + 1, by go_num, by rw [Q2.out]; first | go_num | (congr 1; omega), by omega, by omega, by first | rfl | trivial⟩
      case measure => simp [intOf]; omega
    · obtain rfl : k = m := by omega
      clear q2
      go_wp2
      go_ret2
      exact ⟨by rw [e.out]; rfl, by first | rfl | trivial⟩

set_option maxRecDepth 100000 in
set_option maxHeartbeats 2000000 in
theorem refCivil_any (n : Int) (hn : -9223372036854775808 ≤ n ∧ n < 9223372036854775808) (w : World) :
    Calls Tryz.prog 103 #[.int .i64 n] w fun e w' => e = .returned (.tuple #[.int .i64 (civV n).1, .int .i64 (civV n).2.1, .int .i64 (civV n).2.2.1, .bool (civV n).2.2.2]) ∧ w' = w := by
  have a10 := aheadD_end
  by_cases h1 : n < -719162
  · have e : Hid (civV n = (0, 0, 0, false)) := Lib.hid (civ_bad (by omega))
    go_enter Tryz.func103, Tryz.ntmps103
    go_wp2
    (try simp only [Exit.inBlock, Exit.then])
    refine bodyPost_ret (results_tmp4 rfl _ _ _) rfl ?_
    exact ⟨by rw [e.out]; rfl, rfl⟩
  by_cases h2 : 2932896 < n
  · have e : Hid (civV n = (0, 0, 0, false)) := Lib.hid (civ_bad (by omega))
    go_enter Tryz.func103, Tryz.ntmps103
    go_wp2_with (go_at_call 125; ((with_reducible refine (refAhead_any _ (by omega) _).mono ?_); rintro e w' ⟨rfl, hw⟩; subst w'))
    (try simp only [Exit.inBlock, Exit.then])
    refine bodyPost_ret (results_tmp4 rfl _ _ _) rfl ?_
    exact ⟨by rw [e.out]; rfl, rfl⟩
  obtain ⟨y, m, d, hd, hnum⟩ := num_of (n := n) (by omega)
  obtain ⟨hy, hm⟩ := lenD_range hd
  have e : Hid (civV n = (y, m, d, true)) := Lib.hid (by rw [hnum]; exact civ_num hd)
  have Y : Hid (∀ k : Int, 1 ≤ k → k ≤ 10000 → (0 ≤ aheadD k ∧ aheadD k ≤ 3652059) ∧ (k ≤ y → -719162 + aheadD k ≤ n) ∧ (y < k → n < -719162 + aheadD k)) := Lib.hid (by
    intro k k1 k2
    obtain ⟨r1, r2, _⟩ := numD_range hd
    have := aheadD_one
    have := aheadD_le (y := 1) (z := k) (by omega)
    have := aheadD_le (y := k) (z := 10000) (by omega)
    refine ⟨by omega, fun h => ?_, fun h => ?_⟩
    · have := aheadD_le h; omega
    · have := aheadD_le (y := y + 1) (z := k) (by omega); omega)
  have M : Hid (∀ k : Int, 1 ≤ k → k ≤ m → (28 ≤ lenD y k ∧ lenD y k ≤ 31) ∧ (0 ≤ monD (leapD y) k ∧ monD (leapD y) k ≤ 366) ∧ monD (leapD y) (k + 1) = monD (leapD y) k + lenD y k ∧
      n - -719162 - aheadD y - monD (leapD y) k = monD (leapD y) m - monD (leapD y) k + (d - 1) ∧ (k < m → monD (leapD y) k + lenD y k ≤ monD (leapD y) m) ∧ (1 ≤ d ∧ d ≤ lenD y m)) := Lib.hid (by
    intro k k1 k2
    have a := monD_le (y := y) (m := k) (k := 13) hy k1 (by omega) (by omega)
    have b : monD (leapD y) 13 ≤ 366 := by cases leapD y <;> decide
    have c := lenD_pos (y := y) (m := k) hy ⟨k1, by omega⟩
    have dd := monD_nonneg (leapD y) k
    refine ⟨c, ⟨dd, by omega⟩, monD_next hy ⟨k1, by omega⟩, by rw [hnum]; unfold numD; omega, fun h => monD_le hy k1 h (by omega), hd⟩)
  have HD := Lib.hid hd
  clear hnum hd
  go_enter Tryz.func103, Tryz.ntmps103
  go_wp2_with (go_at_call 125; ((with_reducible refine (refAhead_any _ (by omega) _).mono ?_); rintro e w' ⟨rfl, hw⟩; subst w'))
  go_loopw [6, 7] (fun v p wr => ∃ lo hi : Int, v = .int .i64 lo ∧ p = .int .i64 hi ∧ 1 ≤ lo ∧ lo ≤ y ∧ y ≤ hi ∧ hi ≤ 9999 ∧ wr = w) (fun v p _ => (intOf p - intOf v).toNat)
  case atStart => exact ⟨1, 9999, rfl, rfl, by omega, by omega, by omega, by omega, rfl⟩
  case round =>
    obtain ⟨lo, hi, rfl, rfl, l1, l2, l3, l4, rfl⟩ := hrel
    by_cases hlt : lo < hi
    · have et : Int.tdiv (lo + hi + 1) 2 = (lo + hi + 1) / 2 := tdiv_pos (by omega)
      have b1 : lo < (lo + hi + 1) / 2 := by omega
      have b2 : (lo + hi + 1) / 2 ≤ hi := by omega
      have EM := Lib.hid (show (lo + hi + 1) / 2 = (lo + hi + 1) / 2 from rfl)
      generalize hmid : (lo + hi + 1) / 2 = mid at et b1 b2
      clear hmid EM
      obtain ⟨y1, y2, y3⟩ := Y.out mid (by omega) (by omega)
      by_cases hc : mid ≤ y
      · have t1 := y2 hc
        clear y2 y3
        go_wp2_with (go_at_call 125; ((with_reducible refine (refAhead_any _ (by omega) _).mono ?_); rintro e w' ⟨rfl, hw⟩; subst w'))
        go_round
        case rel => exact ⟨mid, hi, by first | rfl | go_num, by first | rfl | go_num, by omega, by omega, by omega, by omega, by first | rfl | trivial⟩
        case measure => simp [intOf]; omega
      · have t1 := y3 (by omega)
        clear y2 y3
        go_wp2_with (go_at_call 125; ((with_reducible refine (refAhead_any _ (by omega) _).mono ?_); rintro e w' ⟨rfl, hw⟩; subst w'))
        go_round
        case rel => exact ⟨lo, mid - 1, by first | rfl | go_num, by first | rfl | go_num, by omega, by omega, by omega, by omega, by first | rfl | trivial⟩
        case measure => simp [intOf]; omega
    · obtain rfl : lo = y := by omega
      obtain rfl : hi = lo := by omega
      obtain ⟨y1, y2, y3⟩ := Y.out hi (by omega) (by omega)
      clear y2 y3
      obtain ⟨m1, m2, m3, m4, m5, m6⟩ := M.out 1 (by omega) (by omega)
      clear m3 m5
      rw [monD_one] at m4
      go_wp2_with (go_at_call 125; ((with_reducible refine (refAhead_any _ (by omega) _).mono ?_); rintro e w' ⟨rfl, hw⟩; subst w'))
      go_loopw [9, 10] (fun v p wr2 => ∃ k : Int, p = .int .i64 k ∧ v = .int .i64 (n - -719162 - aheadD hi - monD (leapD hi) k) ∧ 1 ≤ k ∧ k ≤ m ∧ wr2 = wr) (fun _ p _ => (m - intOf p).toNat)
      case atStart => exact ⟨1, rfl, by rw [monD_one]; simp, by omega, by omega, rfl⟩
      case round =>
        obtain ⟨k, rfl, rfl, hk1, hk2, rfl⟩ := hrel
        obtain ⟨⟨p1, p2⟩, ⟨p3, p4⟩, p5, p6, p7, p8⟩ := M.out k hk1 hk2
        have P5 := Lib.hid p5
        by_cases hlt2 : k < m
        · have p9 := p7 hlt2
          have hge : lenD hi k ≤ n - -719162 - aheadD hi - monD (leapD hi) k := by omega
          have hle : n - -719162 - aheadD hi - monD (leapD hi) k ≤ 3652059 := by omega
          clear p5 p6 p7
          go_wp2_with (go_at_call 126; ((with_reducible refine (refLength_any _ _ _).mono ?_); rintro e w' ⟨rfl, hw⟩; subst w'))
          go_round
          case rel => exact ⟨k + 1, by first | rfl | go_num, by rw [P5.out]; first | rfl | go_num | (congr 1; omega), by omega, by omega, by first | rfl | trivial⟩
          case measure => simp [intOf]; omega
        · obtain rfl : k = m := by omega
          have hge : n - -719162 - aheadD hi - monD (leapD hi) k < lenD hi k := by omega
          have hle : 0 ≤ n - -719162 - aheadD hi - monD (leapD hi) k := by omega
          have HE := Lib.hid (show n - -719162 - aheadD hi - monD (leapD hi) k + 1 = d by omega)
          clear p5 p6 p7
          go_wp2_with (go_at_call 126; ((with_reducible refine (refLength_any _ _ _).mono ?_); rintro e w' ⟨rfl, hw⟩; subst w'))
          (try simp only [Exit.inBlock, Exit.then])
          refine bodyPost_ret (results_tmp4 rfl _ _ _) rfl ?_
          exact ⟨by rw [e.out, ← HE.out]; rfl, by first | rfl | trivial⟩

end Go.Proofs.YtnidkcedomhofaaGreatDoor

/-
  The small functions of layer 8, the program's and the document's: a byte's kind, its small letter, a digit's value.
-/
namespace Go.Proofs.YtnidkcedomhofaaGreatDoor
open Go.RowKit

set_option maxHeartbeats 1000000 in
theorem isDigit_any (n : Nat) (hn : n < 256) (w : World) :
    Calls Tryz.prog 160 #[.int .u8 n] w fun e w' => e = .returned (.bool (digN n)) ∧ w' = w := by
  by_cases h1 : 48 ≤ n <;> by_cases h2 : n ≤ 57
  all_goals first
    | (exfalso; omega)
    | (have e : Hid (digN n = (decide (48 ≤ n) && decide (n ≤ 57))) := Lib.hid rfl
       go_enter Tryz.func160, Tryz.ntmps160
       go_wp2
       go_ret
       refine ⟨?_, rfl⟩
       rw [e.out]
       first | (simp [h1, h2]; done) | (simp [h1, h2]; omega))

set_option maxHeartbeats 1000000 in
theorem refDigit_any (n : Nat) (hn : n < 256) (w : World) :
    Calls Tryz.prog 121 #[.int .u8 n] w fun e w' => e = .returned (.bool (digN n)) ∧ w' = w := by
  by_cases h1 : 48 ≤ n <;> by_cases h2 : n ≤ 57
  all_goals first
    | (exfalso; omega)
    | (have e : Hid (digN n = (decide (48 ≤ n) && decide (n ≤ 57))) := Lib.hid rfl
       go_enter Tryz.func121, Tryz.ntmps121
       go_wp2
       go_ret
       refine ⟨?_, rfl⟩
       rw [e.out]
       first | (simp [h1, h2]; done) | (simp [h1, h2]; omega))

end Go.Proofs.YtnidkcedomhofaaGreatDoor
