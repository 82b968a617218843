/-
  The program's own functions of layer 10, the first: years, days ahead of a year, days of the week, days and seconds.
-/
import Derived.Test.YtdilnofolnabdaaDoorDateVars
namespace Go.Proofs.YtdilnofolnabdaaDoor
open Go.RowKit

set_option maxRecDepth 100000 in
set_option maxHeartbeats 2000000 in
theorem isLeap_any (y : Int) (h : 1 ≤ y ∧ y ≤ 9999) (w : World) :
    Calls Tryd.prog 102 #[.int .i64 y] w fun e w' => e = .returned (.bool (leapD y)) ∧ w' = w := by
  have m1 : Int.tmod y 4 = y % 4 := tmod_pos (by omega)
  have m2 : Int.tmod y 100 = y % 100 := tmod_pos (by omega)
  have m3 : Int.tmod y 400 = y % 400 := tmod_pos (by omega)
  generalize hl : leapD y = l
  have hi := leapD_iff y
  rw [hl] at hi
  clear hl
  by_cases h4 : y % 4 = 0
  · by_cases h1 : y % 100 = 0
    · by_cases h0 : y % 400 = 0
      · obtain rfl : l = true := by first | (rw [hi]; omega) | (rw [Bool.eq_false_iff, ne_eq, hi]; omega)
        clear hi
        go_enter Tryd.func102, Tryd.ntmps102
        go_wp2
        go_ret
        exact ⟨rfl, rfl⟩
      · have b0 : (y % 400 == 0) = false := by simp [h0]
        obtain rfl : l = false := by first | (rw [hi]; omega) | (rw [Bool.eq_false_iff, ne_eq, hi]; omega)
        clear hi
        go_enter Tryd.func102, Tryd.ntmps102
        go_wp2
        go_ret
        exact ⟨rfl, rfl⟩
    · obtain rfl : l = true := by first | (rw [hi]; omega) | (rw [Bool.eq_false_iff, ne_eq, hi]; omega)
      clear hi
      go_enter Tryd.func102, Tryd.ntmps102
      go_wp2
      go_ret
      exact ⟨rfl, rfl⟩
  · have h0 : ¬ y % 400 = 0 := by omega
    have b0 : (y % 400 == 0) = false := by simp [h0]
    have b4 : (y % 4 == 0) = false := by simp [h4]
    obtain rfl : l = false := by first | (rw [hi]; omega) | (rw [Bool.eq_false_iff, ne_eq, hi]; omega)
    clear hi
    go_enter Tryd.func102, Tryd.ntmps102
    go_wp2
    go_ret
    exact ⟨rfl, rfl⟩
set_option maxRecDepth 100000 in
set_option maxHeartbeats 2000000 in
theorem ahead_any (y : Int) (h : 1 ≤ y ∧ y ≤ 10001) (w : World) :
    Calls Tryd.prog 86 #[.int .i64 y] w fun e w' => e = .returned (.int .i64 (aheadD y)) ∧ w' = w := by
  have m1 : Int.tdiv (y - 1) 4 = (y - 1) / 4 := tdiv_pos (by omega)
  have m2 : Int.tdiv (y - 1) 100 = (y - 1) / 100 := tdiv_pos (by omega)
  have m3 : Int.tdiv (y - 1) 400 = (y - 1) / 400 := tdiv_pos (by omega)
  have e : Hid (aheadD y = (y - 1) * 365 + (y - 1) / 4 - (y - 1) / 100 + (y - 1) / 400) := Lib.hid rfl
  go_enter Tryd.func86, Tryd.ntmps86
  go_wp2
  go_ret
  exact ⟨by rw [e.out]; rfl, rfl⟩
theorem year_low {n k : Int} (_h0 : 0 ≤ n) (hk : n * 400 / 146097 = k) : aheadD (k + 1) ≤ n := by
  unfold aheadD
  rw [show k + 1 - 1 = k by omega]
  omega
theorem year_high {n k : Int} (_h0 : 0 ≤ n) (hk : n * 400 / 146097 = k) : n < aheadD (k + 3) := by
  unfold aheadD
  rw [show k + 3 - 1 = k + 2 by omega]
  omega
theorem yearD_is {n y : Int} (h1 : 1 ≤ y) (h2 : y ≤ 9999) (h3 : aheadD y ≤ n) (h4 : n < aheadD (y + 1)) : yearD (n - 719162) = y := by
  obtain ⟨k, rfl⟩ : ∃ k : Nat, y = k := ⟨y.toNat, by omega⟩
  unfold yearD
  rw [yearF_is (y := k) (by omega) (by omega) (by omega) 9999 (by omega)]
set_option maxRecDepth 100000 in
set_option maxHeartbeats 2000000 in
theorem yearOf_any (n : Int) (h : 0 ≤ n ∧ n ≤ 3652058) (w : World) :
    Calls Tryd.prog 85 #[.int .i64 n] w fun e w' => e = .returned (.int .i64 (yearD (n - 719162))) ∧ w' = w := by
  obtain ⟨k, hk⟩ : ∃ k, n * 400 / 146097 = k := ⟨_, rfl⟩
  have hk1 : Int.tdiv (n * 400) 146097 = k := by rw [tdiv_pos (by omega)]; exact hk
  have hk2 : 0 ≤ k ∧ k ≤ 9998 := by omega
  have lo := year_low h.1 hk
  have hi := year_high h.1 hk
  have c1 := fun W => ahead_any (1 + k + 1) (by omega) W
  by_cases hy : aheadD (1 + k + 1) ≤ n
  · have e : Hid (yearD (n - 719162) = 1 + k + 1) := Lib.hid (yearD_is (by omega) (by
      rcases Int.lt_or_le 9999 (1 + k + 1) with h9 | h9
      · have := aheadD_le (y := 10000) (z := 1 + k + 1) (by omega)
        have := aheadD_end
        omega
      · exact h9) hy (by rw [show 1 + k + 1 + 1 = k + 3 by omega]; exact hi))
    clear hk lo hi
    generalize aheadD (1 + k + 1) = z at c1 hy
    go_enter Tryd.func85, Tryd.ntmps85
    go_wp2_with (go_at_call 86; ((with_reducible refine (c1 _).mono ?_); rintro e w' ⟨rfl, hw⟩; subst w'))
    go_ret
    exact ⟨by rw [e.out]; rfl, rfl⟩
  · have e : Hid (yearD (n - 719162) = 1 + k) := Lib.hid (yearD_is (by omega) (by omega) (by rw [Int.add_comm]; exact lo) (by omega))
    clear hk lo hi
    generalize aheadD (1 + k + 1) = z at c1 hy
    go_enter Tryd.func85, Tryd.ntmps85
    go_wp2_with (go_at_call 86; ((with_reducible refine (c1 _).mono ?_); rintro e w' ⟨rfl, hw⟩; subst w'))
    go_ret
    exact ⟨by rw [e.out]; rfl, rfl⟩
set_option maxRecDepth 100000 in
set_option maxHeartbeats 2000000 in
theorem in_any (t : Int) (w : World) :
    Calls Tryd.prog 70 #[.int .i64 t] w fun e w' => e = .returned (.bool (inD t)) ∧ w' = w := by
  by_cases h1 : -62135596800 ≤ t
  · by_cases h2 : t ≤ 253402300799
    · have e : Hid (inD t = true) := Lib.hid (by unfold inD; simp [h1, h2])
      go_enter Tryd.func70, Tryd.ntmps70
      go_wp2
      go_ret
      exact ⟨by rw [e.out]; rfl, rfl⟩
    · have e : Hid (inD t = false) := Lib.hid (by unfold inD; simp [h2])
      go_enter Tryd.func70, Tryd.ntmps70
      go_wp2
      go_ret
      exact ⟨by rw [e.out]; rfl, rfl⟩
  · have e : Hid (inD t = false) := Lib.hid (by unfold inD; simp [h1])
    go_enter Tryd.func70, Tryd.ntmps70
    go_wp2
    go_ret
    exact ⟨by rw [e.out]; rfl, rfl⟩
set_option maxRecDepth 100000 in
set_option maxHeartbeats 2000000 in
theorem parts_any (t : Int) (ht : -9223372036854775808 ≤ t ∧ t < 9223372036854775808) (w : World) :
    Calls Tryd.prog 48 #[.int .i64 t] w fun e w' => e = .returned (.tuple #[.int .i64 (t / 86400), .int .i64 (t % 86400)]) ∧ w' = w := by
  have k := Int.tmod_add_mul_tdiv t 86400
  have k1 : -86400 < Int.tmod t 86400 := Int.lt_tmod_of_pos t (by omega)
  have k2 : Int.tmod t 86400 < 86400 := Int.tmod_lt_of_pos t (by omega)
  by_cases hs : Int.tmod t 86400 < 0
  · have e1 : Hid (t / 86400 = Int.tdiv t 86400 - 1) := Lib.hid (by omega)
    have e2 : Hid (t % 86400 = Int.tmod t 86400 + 86400) := Lib.hid (by omega)
    have b : -9223372036854775808 ≤ Int.tdiv t 86400 - 1 ∧ Int.tdiv t 86400 - 1 < 9223372036854775808 := by omega
    have b2 : -9223372036854775808 ≤ Int.tdiv t 86400 ∧ Int.tdiv t 86400 < 9223372036854775808 := by omega
    clear k
    go_enter Tryd.func48, Tryd.ntmps48
    go_wp2
    go_ret2
    exact ⟨by rw [e1.out, e2.out]; rfl, rfl⟩
  · have e1 : Hid (t / 86400 = Int.tdiv t 86400) := Lib.hid (by omega)
    have e2 : Hid (t % 86400 = Int.tmod t 86400) := Lib.hid (by omega)
    have b2 : -9223372036854775808 ≤ Int.tdiv t 86400 ∧ Int.tdiv t 86400 < 9223372036854775808 := by omega
    clear k
    go_enter Tryd.func48, Tryd.ntmps48
    go_wp2
    go_ret2
    exact ⟨by rw [e1.out, e2.out]; rfl, rfl⟩

end Go.Proofs.YtdilnofolnabdaaDoor
