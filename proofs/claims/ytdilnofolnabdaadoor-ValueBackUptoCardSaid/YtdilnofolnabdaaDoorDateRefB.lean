/-
  The document's own answers of layer 10: a date's day, and a day's date.
-/
import Derived.Test.YtdilnofolnabdaaDoorDateRefA
namespace Go.Proofs.YtdilnofolnabdaaDoor
open Go.RowKit

theorem results_tmp4 {fn : Func} {t u v x : Tmp} (h : fn.results = #[.tmp t, .tmp u, .tmp v, .tmp x]) (tmps : Array Value) (P : Program) (w : World) :
    (results fn tmps).run P w = .ok (.tuple #[tmps.getD t undef, tmps.getD u undef, tmps.getD v undef, tmps.getD x undef]) w := by
  simp [results, h]

set_option maxRecDepth 100000 in
set_option maxHeartbeats 2000000 in
theorem refDays_any (y m d : Int) (w : World) :
    Calls Tryd.prog 61 #[.int .i64 y, .int .i64 m, .int .i64 d] w fun e w' => e = .returned (.tuple #[.int .i64 (daysV y m d).1, .bool (daysV y m d).2]) ∧ w' = w := by
  by_cases h1 : d < 1
  · have e : Hid (daysV y m d = (0, false)) := Lib.hid (daysV_bad (by unfold dateD; omega))
    go_enter Tryd.func61, Tryd.ntmps61
    go_wp2
    go_ret2
    exact ⟨by rw [e.out]; rfl, rfl⟩
  by_cases h2 : lenD y m < d
  · have e : Hid (daysV y m d = (0, false)) := Lib.hid (daysV_bad (by unfold dateD; omega))
    go_enter Tryd.func61, Tryd.ntmps61
    go_wp2_with (go_at_call 79; ((with_reducible refine (refLength_any y m _).mono ?_); rintro e w' ⟨rfl, hw⟩; subst w'))
    go_ret2
    exact ⟨by rw [e.out]; rfl, rfl⟩
  obtain ⟨hy, hm⟩ := lenD_range (y := y) (m := m) (d := d) ⟨by omega, by omega⟩
  have hp := lenD_pos hy hm
  have e : Hid (daysV y m d = (-719162 + (aheadD y + monD (leapD y) m) + (d - 1), true)) := Lib.hid (by
    rw [daysV_ok ⟨by omega, by omega⟩]; unfold numD; simp only [Prod.mk.injEq, and_true]; omega)
  have ha1 := aheadD_le (y := 1) (z := y) (by omega)
  have ha2 := aheadD_le (y := y) (z := 10000) (by omega)
  have ha3 := aheadD_end
  have ha4 := aheadD_one
  have hb1 : 0 ≤ aheadD y := by omega
  have hb2 : aheadD y ≤ 3652059 := by omega
  clear ha1 ha2 ha3 ha4
  have M : Hid (∀ k : Int, 1 ≤ k → k ≤ 12 → 0 ≤ monD (leapD y) k ∧ monD (leapD y) (k + 1) = monD (leapD y) k + lenD y k ∧ monD (leapD y) k ≤ 366 ∧ 28 ≤ lenD y k ∧ lenD y k ≤ 31) := Lib.hid (by
    intro k k1 k2
    have a := monD_le (y := y) (m := k) (k := 13) hy k1 (by omega) (by omega)
    have b : monD (leapD y) 13 ≤ 366 := by cases leapD y <;> decide
    have c := lenD_pos (y := y) (m := k) hy ⟨k1, k2⟩
    exact ⟨monD_nonneg _ _, monD_next hy ⟨k1, k2⟩, by omega, c⟩)
  go_enter Tryd.func61, Tryd.ntmps61
  go_wp2_with (first | (go_at_call 79; ((with_reducible refine (refLength_any y m _).mono ?_); rintro e w' ⟨rfl, hw⟩; subst w')) | (go_at_call 80; ((with_reducible refine (refAhead_any y (by omega) _).mono ?_); rintro e w' ⟨rfl, hw⟩; subst w')))
  go_loopw [8, 9] (fun v p wr => ∃ k : Int, p = .int .i64 k ∧ v = .int .i64 (aheadD y + monD (leapD y) k) ∧ 1 ≤ k ∧ k ≤ m ∧ wr = w) (fun _ p _ => (m - intOf p).toNat)
  case atStart => exact ⟨1, rfl, by rw [monD_one]; simp, by omega, by omega, rfl⟩
  case round =>
    obtain ⟨k, rfl, rfl, hk1, hk2, rfl⟩ := hrel
    obtain ⟨q1, q2, q3, q4, q5⟩ := M.out k hk1 (by omega)
    by_cases hlt : k < m
    · have Q2 := Lib.hid q2
      clear q2
      go_wp2_with (go_at_call 79; ((with_reducible refine (refLength_any y k _).mono ?_); rintro e w' ⟨rfl, hw⟩; subst w'))
      go_round
      case rel => exact ⟨k + 1, by go_num, by rw [Q2.out]; first | go_num | (congr 1; omega), by omega, by omega, by first | rfl | trivial⟩
      case measure => simp [intOf]; omega
    · obtain rfl : k = m := by omega
      clear q2
      go_wp2
      go_ret2
      exact ⟨by rw [e.out]; rfl, by first | rfl | trivial⟩

end Go.Proofs.YtdilnofolnabdaaDoor
