/-
  The program's own functions of layer 10: a day and a stamp as they are read.
-/
import Derived.Test.YtnidkcedomhofaaGreatDoorG05
import Derived.BigQuiet
import Derived.Test.YtnidkcedomhofaaGreatDoorG12
import Derived.Test.YtnidkcedomhofaaGreatDoorG15
import Derived.Test.YtnidkcedomhofaaGreatDoorG04
namespace Go.Proofs.YtnidkcedomhofaaGreatDoor
open Go.RowKit

theorem numV_rangeB (l : List UInt8) {most : Int} (hm : 0 ≤ most) : 0 ≤ (numV l most).1 ∧ (numV l most).1 ≤ most := numV_range l most hm
set_option maxRecDepth 100000 in
set_option maxHeartbeats 2000000 in
theorem readDate_any (yr dy : ByteArray) (m : Int) (hy : yr.size ≤ 64) (hd : dy.size ≤ 64) (hm : 0 ≤ m ∧ m ≤ 12) (w : World) (hv : DV w) :
    Calls Tryz.prog 136 #[.string yr, .int .i64 m, .string dy] w fun e w' => e = .returned (.tuple #[.int .i64 (dateW yr.data.toList m dy.data.toList).1, .bool (dateW yr.data.toList m dy.data.toList).2]) ∧ Below w.heap.size w w' := by
  have n1 := fun W => number_any yr (by omega) 9999 W
  have n2 := fun W => number_any dy (by omega) 31 W
  have r1 := numV_rangeB yr.data.toList (most := 9999) (by decide)
  have r2 := numV_rangeB dy.data.toList (most := 31) (by decide)
  unfold dateW
  generalize numV yr.data.toList 9999 = z1 at *
  generalize numV dy.data.toList 31 = z2 at *
  obtain ⟨y, yb⟩ := z1
  obtain ⟨d, db⟩ := z2
  dsimp only at n1 n2 r1 r2 ⊢
  have c1 := pDays_any y m d (by omega) (by omega) (by omega) w hv
  generalize daysV y m d = z at *
  obtain ⟨q, qb⟩ := z
  dsimp only at c1 ⊢
  go_enter Tryz.func136, Tryz.ntmps136
  go_wp2_with (first
    | (go_at_call 135; ((with_reducible refine (n1 _).mono ?_); rintro e w' ⟨rfl, hw⟩; subst w'))
    | (go_at_call 135; ((with_reducible refine (n2 _).mono ?_); rintro e w' ⟨rfl, hw⟩; subst w'))
    | (go_at_call 161; ((with_reducible refine c1.mono ?_); rintro e w1 ⟨rfl, hb1⟩)))
  go_ret2
  exact ⟨rfl, hb1⟩

set_option maxRecDepth 100000 in
set_option maxHeartbeats 2000000 in
theorem readClock_any (a b c : ByteArray) (ha : a.size ≤ 64) (hb : b.size ≤ 64) (hc : c.size ≤ 64) (w : World) :
    Calls Tryz.prog 138 #[.string a, .string b, .string c] w fun e w' => e = .returned (.tuple #[.int .i64 (clkP a.data.toList b.data.toList c.data.toList).1, .bool (clkP a.data.toList b.data.toList c.data.toList).2]) ∧ w' = w := by
  have n1 := fun W => number_any a (by omega) 23 W
  have n2 := fun W => number_any b (by omega) 59 W
  have n3 := fun W => number_any c (by omega) 59 W
  have r1 := numV_rangeB a.data.toList (most := 23) (by decide)
  have r2 := numV_rangeB b.data.toList (most := 59) (by decide)
  have r3 := numV_rangeB c.data.toList (most := 59) (by decide)
  unfold clkP
  generalize numV a.data.toList 23 = z1 at *
  generalize numV b.data.toList 59 = z2 at *
  generalize numV c.data.toList 59 = z3 at *
  obtain ⟨x, xb⟩ := z1
  obtain ⟨y, yb⟩ := z2
  obtain ⟨z, zb⟩ := z3
  dsimp only at n1 n2 n3 r1 r2 r3 ⊢
  cases xb <;> cases yb <;> cases zb <;>
  · go_enter Tryz.func138, Tryz.ntmps138
    go_wp2_with (first
      | (go_at_call 135; ((with_reducible refine (n1 _).mono ?_); rintro e w' ⟨rfl, hw⟩; subst w'))
      | (go_at_call 135; ((with_reducible refine (n2 _).mono ?_); rintro e w' ⟨rfl, hw⟩; subst w'))
      | (go_at_call 135; ((with_reducible refine (n3 _).mono ?_); rintro e w' ⟨rfl, hw⟩; subst w')))
    go_ret2
    exact ⟨rfl, rfl⟩

end Go.Proofs.YtnidkcedomhofaaGreatDoor

/-
  The program's own functions of layer 10: a day as it is read.
-/
namespace Go.Proofs.YtnidkcedomhofaaGreatDoor
open Go.RowKit

theorem cutB (s : ByteArray) (a b : Nat) : (s.extract a b).data.toList = cutL s.data.toList a b := cut_list s a b
set_option maxRecDepth 100000 in
set_option maxHeartbeats 2000000 in
theorem pReadDay_any (s : ByteArray) (_hs : s.size < 9223372036854775808) (w : World) (hv : DV w) :
    Calls Tryz.prog 110 #[.string s] w fun e w' => e = .returned (.tuple #[.int .i64 (rdDay s.data.toList).1, .int .i64 (rdDay s.data.toList).2]) ∧ Below w.heap.size w w' := by
  have hsz := bsize s
  by_cases h8 : s.size = 8
  · have cn := fun W => number_any (s.extract 4 6) (by rw [ByteArray.size_extract]; omega) 12 W
    rw [cutB] at cn
    have rm := numV_rangeB (cutL s.data.toList 4 6) (most := 12) (by decide)
    have cd := fun W (hV : DV W) => readDate_any (s.extract 0 4) (s.extract 6 8) (numV (cutL s.data.toList 4 6) 12).1 (by rw [ByteArray.size_extract]; omega) (by rw [ByteArray.size_extract]; omega) rm W hV
    rw [cutB, cutB, show cutL s.data.toList 0 4 = s.data.toList.take 4 from rfl, show cutL s.data.toList 6 8 = s.data.toList.drop 6 by
      unfold cutL; exact List.take_of_length_le (by rw [List.length_drop]; omega)] at cd
    have e := rdDay_cut (l := s.data.toList) (by omega)
    generalize numV (cutL s.data.toList 4 6) 12 = m at *
    obtain ⟨m, mb⟩ := m
    dsimp only at cn cd rm e
    generalize dateW (s.data.toList.take 4) m (s.data.toList.drop 6) = z at *
    obtain ⟨n, b⟩ := z
    dsimp only at cd e
    have hmx : Tryz.prog.follows .mixedOrders = true := by kernel_rfl
    have hE : ∀ r : Int × Int, rdDay s.data.toList = r → Hid (rdDay s.data.toList = r) := fun _ h => Lib.hid h
    have E := Lib.hid e
    clear e hE hsz
    go_enter Tryz.func110, Tryz.ntmps110
    go_wp2_with (go_at_call 135; ((with_reducible refine (cn _).mono ?_); rintro e w' ⟨rfl, hw⟩; subst w'))
    refine region_belowD (w0 := w) (Below.refl _ _) hmx (by kernel_rfl) ?_
    repeat (first
      | go_big_quiet_skip
      | (go_big_quiet_want; go_big_quiet_op; first
          | go_big_quiet_on
          | (refine ⟨_, fun _ _ => rfl, ?_⟩; go_big_quiet_on)
          | (apply Exists.intro
             refine ⟨fun w5 hw5 => ?_, ?_⟩
             · ((with_reducible refine (cd _ (hv.step hw5)).mono ?_); rintro e w6 ⟨rfl, hbx⟩; exact ⟨rfl, bstep hw5 hbx⟩)
             go_big_quiet_on)))
    refine wpQuiet_nil ?_
    intro w7 hw7
    cases b
    · have e2 := E.out
      rw [if_neg (by decide)] at e2
      have E2 := Lib.hid e2
      clear e2
      go_wp2_with fail
      go_ret2
      exact ⟨by rw [E2.out]; rfl, hw7⟩
    · have e2 := E.out
      rw [if_pos rfl] at e2
      have E2 := Lib.hid e2
      clear e2
      go_wp2_with fail
      go_ret2
      exact ⟨by rw [E2.out]; rfl, hw7⟩
  · have e : Hid (rdDay s.data.toList = (0, 10)) := Lib.hid (rdDay_len (by omega))
    have hne : ¬ (s.size : Int) = 8 := by omega
    have hne2 : ((s.size : Int) == 8) = false := by simp; omega
    have hne3 : ((s.size : Int) != 8) = true := by simp; omega
    clear hsz
    go_enter Tryz.func110, Tryz.ntmps110
    go_wp2
    go_ret2
    exact ⟨by rw [e.out]; rfl, Below.refl _ _⟩

end Go.Proofs.YtnidkcedomhofaaGreatDoor

/-
  The program's own functions of layer 10: a stamp, and a time as HTTP writes it, as they are read.
-/
namespace Go.Proofs.YtnidkcedomhofaaGreatDoor
open Go.RowKit

theorem clkP_range (a b c : List UInt8) : 0 ≤ (clkP a b c).1 ∧ (clkP a b c).1 ≤ 86399 := by
  have r1 := numV_rangeB a (most := 23) (by decide)
  have r2 := numV_rangeB b (most := 59) (by decide)
  have r3 := numV_rangeB c (most := 59) (by decide)
  unfold clkP
  dsimp only
  omega
theorem rdDay_range (l : List UInt8) : (-719162 ≤ (rdDay l).1 ∧ (rdDay l).1 ≤ 2932896) ∧ ((rdDay l).2 = 0 ∨ (rdDay l).2 = 10) := by
  rcases rdDay_cases l with ⟨n, hn, e⟩ | ⟨_, e⟩
  · rw [e]; exact ⟨hn.1, .inl rfl⟩
  · rw [e]; exact ⟨by decide, .inr rfl⟩
theorem dateW_range (a b : List UInt8) (m : Int) : -719162 ≤ (dateW a m b).1 ∧ (dateW a m b).1 ≤ 2932896 := by
  unfold dateW
  by_cases h : dateD (numV a 9999).1 m (numV b 31).1
  · rw [daysV_ok h]
    have := numD_range h
    dsimp only
    omega
  · rw [daysV_bad h]
    exact ⟨by decide, by decide⟩

set_option maxRecDepth 100000 in
set_option maxHeartbeats 2000000 in
theorem pReadStamp_any (s : ByteArray) (_hs : s.size < 9223372036854775808) (w : World) (hv : DV w) :
    Calls Tryz.prog 112 #[.string s] w fun e w' => e = .returned (.tuple #[.int .i64 (rdStamp s.data.toList).1, .int .i64 (rdStamp s.data.toList).2]) ∧ Below w.heap.size w w' := by
  have hsz := bsize s
  by_cases h15 : s.size = 15
  · have h8 : 8 < s.size := by omega
    have el := eq_letter (s := s) (k := 8) (c := 84) h8
    by_cases ht : s[8].toNat = 84
    · have e8 := el.2 ht
      have cd := pReadDay_any (s.extract 0 8) (by rw [ByteArray.size_extract]; omega) w hv
      rw [cutB, show cutL s.data.toList 0 8 = s.data.toList.take 8 from rfl] at cd
      have cc := fun W => readClock_any (s.extract 9 11) (s.extract 11 13) (s.extract 13 15) (by rw [ByteArray.size_extract]; omega) (by rw [ByteArray.size_extract]; omega) (by rw [ByteArray.size_extract]; omega) W
      rw [cutB, cutB, cutB, show cutL s.data.toList 13 15 = s.data.toList.drop 13 by
        unfold cutL; exact List.take_of_length_le (by rw [List.length_drop]; omega)] at cc
      have r1 := rdDay_range (s.data.toList.take 8)
      have r2 := clkP_range (cutL s.data.toList 9 11) (cutL s.data.toList 11 13) (s.data.toList.drop 13)
      have e := rdStamp_cut (l := s.data.toList) (by omega) e8
      generalize rdDay (s.data.toList.take 8) = x at *
      generalize clkP (cutL s.data.toList 9 11) (cutL s.data.toList 11 13) (s.data.toList.drop 13) = z at *
      obtain ⟨n, en⟩ := x
      obtain ⟨c, ok⟩ := z
      dsimp only at cd cc r1 r2 e
      obtain ⟨r1, r3⟩ := r1
      have E := Lib.hid e
      have hti : (s[8].toNat : Int) = 84 := by omega
      clear e e8 el hsz
      have hmx : Tryz.prog.follows .mixedOrders = true := by kernel_rfl
      rcases r3 with rfl | rfl
      · cases ok
        · have e2 := E.out
          rw [if_neg (by simp)] at e2
          have E2 := Lib.hid e2
          clear e2 E
          go_enter Tryz.func112, Tryz.ntmps112
          go_wp2_with (go_at_call 110; ((with_reducible refine cd.mono ?_); rintro e w1 ⟨rfl, hb1⟩))
          refine region_belowD (w0 := w) hb1 hmx (by kernel_rfl) ?_
          repeat (first
            | go_big_quiet_skip
            | (go_big_quiet_want; go_big_quiet_op; first
                | go_big_quiet_on
                | (refine ⟨_, fun _ _ => rfl, ?_⟩; go_big_quiet_on)
                | (apply Exists.intro
                   refine ⟨fun w5 hw5 => ?_, ?_⟩
                   · ((with_reducible refine (cc _).mono ?_); rintro e w6 ⟨rfl, hw⟩; subst w6; exact ⟨rfl, hw5⟩)
                   go_big_quiet_on)))
          refine wpQuiet_nil ?_
          intro w7 hw7
          go_wp2_with fail
          go_ret2
          exact ⟨by rw [E2.out]; rfl, hw7⟩
        · have e2 := E.out
          rw [if_pos (by simp)] at e2
          have E2 := Lib.hid e2
          clear e2 E
          go_enter Tryz.func112, Tryz.ntmps112
          go_wp2_with (go_at_call 110; ((with_reducible refine cd.mono ?_); rintro e w1 ⟨rfl, hb1⟩))
          refine region_belowD (w0 := w) hb1 hmx (by kernel_rfl) ?_
          repeat (first
            | go_big_quiet_skip
            | (go_big_quiet_want; go_big_quiet_op; first
                | go_big_quiet_on
                | (refine ⟨_, fun _ _ => rfl, ?_⟩; go_big_quiet_on)
                | (apply Exists.intro
                   refine ⟨fun w5 hw5 => ?_, ?_⟩
                   · ((with_reducible refine (cc _).mono ?_); rintro e w6 ⟨rfl, hw⟩; subst w6; exact ⟨rfl, hw5⟩)
                   go_big_quiet_on)))
          refine wpQuiet_nil ?_
          intro w7 hw7
          go_wp2_with fail
          go_ret2
          exact ⟨by rw [E2.out]; rfl, hw7⟩
      · cases ok
        · have e2 := E.out
          rw [if_neg (by simp)] at e2
          have E2 := Lib.hid e2
          clear e2 E
          go_enter Tryz.func112, Tryz.ntmps112
          go_wp2_with (go_at_call 110; ((with_reducible refine cd.mono ?_); rintro e w1 ⟨rfl, hb1⟩))
          refine region_belowD (w0 := w) hb1 hmx (by kernel_rfl) ?_
          repeat (first
            | go_big_quiet_skip
            | (go_big_quiet_want; go_big_quiet_op; first
                | go_big_quiet_on
                | (refine ⟨_, fun _ _ => rfl, ?_⟩; go_big_quiet_on)
                | (apply Exists.intro
                   refine ⟨fun w5 hw5 => ?_, ?_⟩
                   · ((with_reducible refine (cc _).mono ?_); rintro e w6 ⟨rfl, hw⟩; subst w6; exact ⟨rfl, hw5⟩)
                   go_big_quiet_on)))
          refine wpQuiet_nil ?_
          intro w7 hw7
          go_wp2_with fail
          go_ret2
          exact ⟨by rw [E2.out]; rfl, hw7⟩
        · have e2 := E.out
          rw [if_neg (by simp)] at e2
          have E2 := Lib.hid e2
          clear e2 E
          go_enter Tryz.func112, Tryz.ntmps112
          go_wp2_with (go_at_call 110; ((with_reducible refine cd.mono ?_); rintro e w1 ⟨rfl, hb1⟩))
          refine region_belowD (w0 := w) hb1 hmx (by kernel_rfl) ?_
          repeat (first
            | go_big_quiet_skip
            | (go_big_quiet_want; go_big_quiet_op; first
                | go_big_quiet_on
                | (refine ⟨_, fun _ _ => rfl, ?_⟩; go_big_quiet_on)
                | (apply Exists.intro
                   refine ⟨fun w5 hw5 => ?_, ?_⟩
                   · ((with_reducible refine (cc _).mono ?_); rintro e w6 ⟨rfl, hw⟩; subst w6; exact ⟨rfl, hw5⟩)
                   go_big_quiet_on)))
          refine wpQuiet_nil ?_
          intro w7 hw7
          go_wp2_with fail
          go_ret2
          exact ⟨by rw [E2.out]; rfl, hw7⟩
    · have E : Hid (rdStamp s.data.toList = (0, 10)) := Lib.hid (rdStamp_t (fun h => ht (el.1 h)))
      have hti : ¬ (s[8].toNat : Int) = 84 := by omega
      clear hsz el
      go_enter Tryz.func112, Tryz.ntmps112
      go_wp2
      go_ret2
      exact ⟨by rw [E.out]; rfl, Below.refl _ _⟩
  · have E : Hid (rdStamp s.data.toList = (0, 10)) := Lib.hid (rdStamp_len (by omega))
    have hne : ¬ (s.size : Int) = 15 := by omega
    have hne2 : ((s.size : Int) == 15) = false := by simp; omega
    clear hsz
    go_enter Tryz.func112, Tryz.ntmps112
    go_wp2
    go_ret2
    exact ⟨by rw [E.out]; rfl, Below.refl _ _⟩

end Go.Proofs.YtnidkcedomhofaaGreatDoor
