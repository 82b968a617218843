/-
  The program's own functions of layer 10: a stamp, and a time as HTTP writes it, as they are read.
-/
import Derived.Test.YtdilnofolnabdaaDoorG19
namespace Go.Proofs.YtdilnofolnabdaaDoor
open Go.RowKit

theorem clkP_range (a b c : List UInt8) : 0 ≤ (clkP a b c).1 ∧ (clkP a b c).1 ≤ 86399 := by
  have r1 := numV_rangeB a (most := 23) (by decide)
  have r2 := numV_rangeB b (most := 59) (by decide)
  have r3 := numV_rangeB c (most := 59) (by decide)
  unfold clkP
  dsimp only
  omega
theorem rdDay_range (l : List UInt8) : (-719162 ≤ (rdDay l).1 ∧ (rdDay l).1 ≤ 2932896) ∧ ((rdDay l).2 = 0 ∨ (rdDay l).2 = 10) := by
  rcases rdDay_cases l with ⟨n, hn, e⟩ | ⟨_, e⟩
  · rw [e]; exact ⟨hn.1, .inl rfl⟩
  · rw [e]; exact ⟨by decide, .inr rfl⟩
theorem dateW_range (a b : List UInt8) (m : Int) : -719162 ≤ (dateW a m b).1 ∧ (dateW a m b).1 ≤ 2932896 := by
  unfold dateW
  by_cases h : dateD (numV a 9999).1 m (numV b 31).1
  · rw [daysV_ok h]
    have := numD_range h
    dsimp only
    omega
  · rw [daysV_bad h]
    exact ⟨by decide, by decide⟩

set_option maxRecDepth 100000 in
set_option maxHeartbeats 2000000 in
theorem pReadStamp_any (s : ByteArray) (_hs : s.size < 9223372036854775808) (w : World) (hv : DV w) :
    Calls Tryd.prog 32 #[.string s] w fun e w' => e = .returned (.tuple #[.int .i64 (rdStamp s.data.toList).1, .int .i64 (rdStamp s.data.toList).2]) ∧ Below w.heap.size w w' := by
  have hsz := bsize s
  by_cases h15 : s.size = 15
  · have h8 : 8 < s.size := by omega
    have el := eq_letter (s := s) (k := 8) (c := 84) h8
    by_cases ht : s[8].toNat = 84
    · have e8 := el.2 ht
      have cd := pReadDay_any (s.extract 0 8) (by rw [ByteArray.size_extract]; omega) w hv
      rw [cutB, show cutL s.data.toList 0 8 = s.data.toList.take 8 from rfl] at cd
      have cc := fun W => readClock_any (s.extract 9 11) (s.extract 11 13) (s.extract 13 15) (by rw [ByteArray.size_extract]; omega) (by rw [ByteArray.size_extract]; omega) (by rw [ByteArray.size_extract]; omega) W
      rw [cutB, cutB, cutB, show cutL s.data.toList 13 15 = s.data.toList.drop 13 by
        unfold cutL; exact List.take_of_length_le (by rw [List.length_drop]; omega)] at cc
      have r1 := rdDay_range (s.data.toList.take 8)
      have r2 := clkP_range (cutL s.data.toList 9 11) (cutL s.data.toList 11 13) (s.data.toList.drop 13)
      have e := rdStamp_cut (l := s.data.toList) (by omega) e8
      generalize rdDay (s.data.toList.take 8) = x at *
      generalize clkP (cutL s.data.toList 9 11) (cutL s.data.toList 11 13) (s.data.toList.drop 13) = z at *
      obtain ⟨n, en⟩ := x
      obtain ⟨c, ok⟩ := z
      dsimp only at cd cc r1 r2 e
      obtain ⟨r1, r3⟩ := r1
      have E := Lib.hid e
      have hti : (s[8].toNat : Int) = 84 := by omega
      clear e e8 el hsz
      have hmx : Tryd.prog.follows .mixedOrders = true := by kernel_rfl
      rcases r3 with rfl | rfl
      · cases ok
        · have e2 := E.out
          rw [if_neg (by simp)] at e2
          have E2 := Lib.hid e2
          clear e2 E
          go_enter Tryd.func32, Tryd.ntmps32
          go_wp2_with (go_at_call 34; ((with_reducible refine cd.mono ?_); rintro e w1 ⟨rfl, hb1⟩))
          refine region_belowD (w0 := w) hb1 hmx (by kernel_rfl) ?_
          repeat (first
            | go_big_quiet_skip
            | (go_big_quiet_want; go_big_quiet_op; first
                | go_big_quiet_on
                | (refine ⟨_, fun _ _ => rfl, ?_⟩; go_big_quiet_on)
                | (apply Exists.intro
                   refine ⟨fun w5 hw5 => ?_, ?_⟩
                   · ((with_reducible refine (cc _).mono ?_); rintro e w6 ⟨rfl, hw⟩; subst w6; exact ⟨rfl, hw5⟩)
                   go_big_quiet_on)))
          refine wpQuiet_nil ?_
          intro w7 hw7
          go_wp2_with fail
          go_ret2
          exact ⟨by rw [E2.out]; rfl, hw7⟩
        · have e2 := E.out
          rw [if_pos (by simp)] at e2
          have E2 := Lib.hid e2
          clear e2 E
          go_enter Tryd.func32, Tryd.ntmps32
          go_wp2_with (go_at_call 34; ((with_reducible refine cd.mono ?_); rintro e w1 ⟨rfl, hb1⟩))
          refine region_belowD (w0 := w) hb1 hmx (by kernel_rfl) ?_
          repeat (first
            | go_big_quiet_skip
            | (go_big_quiet_want; go_big_quiet_op; first
                | go_big_quiet_on
                | (refine ⟨_, fun _ _ => rfl, ?_⟩; go_big_quiet_on)
                | (apply Exists.intro
                   refine ⟨fun w5 hw5 => ?_, ?_⟩
                   · ((with_reducible refine (cc _).mono ?_); rintro e w6 ⟨rfl, hw⟩; subst w6; exact ⟨rfl, hw5⟩)
                   go_big_quiet_on)))
          refine wpQuiet_nil ?_
          intro w7 hw7
          go_wp2_with fail
          go_ret2
          exact ⟨by rw [E2.out]; rfl, hw7⟩
      · cases ok
        · have e2 := E.out
          rw [if_neg (by simp)] at e2
          have E2 := Lib.hid e2
          clear e2 E
          go_enter Tryd.func32, Tryd.ntmps32
          go_wp2_with (go_at_call 34; ((with_reducible refine cd.mono ?_); rintro e w1 ⟨rfl, hb1⟩))
          refine region_belowD (w0 := w) hb1 hmx (by kernel_rfl) ?_
          repeat (first
            | go_big_quiet_skip
            | (go_big_quiet_want; go_big_quiet_op; first
                | go_big_quiet_on
                | (refine ⟨_, fun _ _ => rfl, ?_⟩; go_big_quiet_on)
                | (apply Exists.intro
                   refine ⟨fun w5 hw5 => ?_, ?_⟩
                   · ((with_reducible refine (cc _).mono ?_); rintro e w6 ⟨rfl, hw⟩; subst w6; exact ⟨rfl, hw5⟩)
                   go_big_quiet_on)))
          refine wpQuiet_nil ?_
          intro w7 hw7
          go_wp2_with fail
          go_ret2
          exact ⟨by rw [E2.out]; rfl, hw7⟩
        · have e2 := E.out
          rw [if_neg (by simp)] at e2
          have E2 := Lib.hid e2
          clear e2 E
          go_enter Tryd.func32, Tryd.ntmps32
          go_wp2_with (go_at_call 34; ((with_reducible refine cd.mono ?_); rintro e w1 ⟨rfl, hb1⟩))
          refine region_belowD (w0 := w) hb1 hmx (by kernel_rfl) ?_
          repeat (first
            | go_big_quiet_skip
            | (go_big_quiet_want; go_big_quiet_op; first
                | go_big_quiet_on
                | (refine ⟨_, fun _ _ => rfl, ?_⟩; go_big_quiet_on)
                | (apply Exists.intro
                   refine ⟨fun w5 hw5 => ?_, ?_⟩
                   · ((with_reducible refine (cc _).mono ?_); rintro e w6 ⟨rfl, hw⟩; subst w6; exact ⟨rfl, hw5⟩)
                   go_big_quiet_on)))
          refine wpQuiet_nil ?_
          intro w7 hw7
          go_wp2_with fail
          go_ret2
          exact ⟨by rw [E2.out]; rfl, hw7⟩
    · have E : Hid (rdStamp s.data.toList = (0, 10)) := Lib.hid (rdStamp_t (fun h => ht (el.1 h)))
      have hti : ¬ (s[8].toNat : Int) = 84 := by omega
      clear hsz el
      go_enter Tryd.func32, Tryd.ntmps32
      go_wp2
      go_ret2
      exact ⟨by rw [E.out]; rfl, Below.refl _ _⟩
  · have E : Hid (rdStamp s.data.toList = (0, 10)) := Lib.hid (rdStamp_len (by omega))
    have hne : ¬ (s.size : Int) = 15 := by omega
    have hne2 : ((s.size : Int) == 15) = false := by simp; omega
    clear hsz
    go_enter Tryd.func32, Tryd.ntmps32
    go_wp2
    go_ret2
    exact ⟨by rw [E.out]; rfl, Below.refl _ _⟩

end Go.Proofs.YtdilnofolnabdaaDoor
