/-
  The program's own functions of layer 10, the first: years, days ahead of a year, days of the week, days and seconds.
-/
import Derived.Test.YtnidkcedomhofaaGreatDoorG11
import Derived.RangeFuncNested
import Derived.RangeFuncBound
import Derived.RangeFuncCalls
import Derived.RangeFuncLeaves
import Derived.RangeFuncBox
import Derived.Shelf.Abstract
import Derived.Shelf.RegionOpen
import Derived.OwnWalkIn
import Derived.TacticsInMore
import Derived.RegionIn
import Derived.LoopNIn
import Derived.LoopIn
import Derived.Maps.AppendAt
namespace Go.Proofs.YtnidkcedomhofaaGreatDoor
open Go.RowKit

set_option maxRecDepth 100000 in
set_option maxHeartbeats 2000000 in
theorem isLeap_any (y : Int) (h : 1 ≤ y ∧ y ≤ 9999) (w : World) :
    Calls Tryz.prog 156 #[.int .i64 y] w fun e w' => e = .returned (.bool (leapD y)) ∧ w' = w := by
  have m1 : Int.tmod y 4 = y % 4 := tmod_pos (by omega)
  have m2 : Int.tmod y 100 = y % 100 := tmod_pos (by omega)
  have m3 : Int.tmod y 400 = y % 400 := tmod_pos (by omega)
  generalize hl : leapD y = l
  have hi := leapD_iff y
  rw [hl] at hi
  clear hl
  by_cases h4 : y % 4 = 0
  · by_cases h1 : y % 100 = 0
    · by_cases h0 : y % 400 = 0
      · obtain rfl : l = true := by first | (rw [hi]; omega) | (rw [Bool.eq_false_iff, ne_eq, hi]; omega)
        clear hi
        go_enter Tryz.func156, Tryz.ntmps156
        go_wp2
        go_ret
        exact ⟨rfl, rfl⟩
      · have b0 : (y % 400 == 0) = false := by simp [h0]
        obtain rfl : l = false := by first | (rw [hi]; omega) | (rw [Bool.eq_false_iff, ne_eq, hi]; omega)
        clear hi
        go_enter Tryz.func156, Tryz.ntmps156
        go_wp2
        go_ret
        exact ⟨rfl, rfl⟩
    · obtain rfl : l = true := by first | (rw [hi]; omega) | (rw [Bool.eq_false_iff, ne_eq, hi]; omega)
      clear hi
      go_enter Tryz.func156, Tryz.ntmps156
      go_wp2
      go_ret
      exact ⟨rfl, rfl⟩
  · have h0 : ¬ y % 400 = 0 := by omega
    have b0 : (y % 400 == 0) = false := by simp [h0]
    have b4 : (y % 4 == 0) = false := by simp [h4]
    obtain rfl : l = false := by first | (rw [hi]; omega) | (rw [Bool.eq_false_iff, ne_eq, hi]; omega)
    clear hi
    go_enter Tryz.func156, Tryz.ntmps156
    go_wp2
    go_ret
    exact ⟨rfl, rfl⟩
set_option maxRecDepth 100000 in
set_option maxHeartbeats 2000000 in
theorem ahead_any (y : Int) (h : 1 ≤ y ∧ y ≤ 10001) (w : World) :
    Calls Tryz.prog 132 #[.int .i64 y] w fun e w' => e = .returned (.int .i64 (aheadD y)) ∧ w' = w := by
  have m1 : Int.tdiv (y - 1) 4 = (y - 1) / 4 := tdiv_pos (by omega)
  have m2 : Int.tdiv (y - 1) 100 = (y - 1) / 100 := tdiv_pos (by omega)
  have m3 : Int.tdiv (y - 1) 400 = (y - 1) / 400 := tdiv_pos (by omega)
  have e : Hid (aheadD y = (y - 1) * 365 + (y - 1) / 4 - (y - 1) / 100 + (y - 1) / 400) := Lib.hid rfl
  go_enter Tryz.func132, Tryz.ntmps132
  go_wp2
  go_ret
  exact ⟨by rw [e.out]; rfl, rfl⟩
theorem year_low {n k : Int} (_h0 : 0 ≤ n) (hk : n * 400 / 146097 = k) : aheadD (k + 1) ≤ n := by
  unfold aheadD
  rw [show k + 1 - 1 = k by omega]
  omega
theorem year_high {n k : Int} (_h0 : 0 ≤ n) (hk : n * 400 / 146097 = k) : n < aheadD (k + 3) := by
  unfold aheadD
  rw [show k + 3 - 1 = k + 2 by omega]
  omega
theorem yearD_is {n y : Int} (h1 : 1 ≤ y) (h2 : y ≤ 9999) (h3 : aheadD y ≤ n) (h4 : n < aheadD (y + 1)) : yearD (n - 719162) = y := by
  obtain ⟨k, rfl⟩ : ∃ k : Nat, y = k := ⟨y.toNat, by omega⟩
  unfold yearD
  rw [yearF_is (y := k) (by omega) (by omega) (by omega) 9999 (by omega)]
set_option maxRecDepth 100000 in
set_option maxHeartbeats 2000000 in
theorem yearOf_any (n : Int) (h : 0 ≤ n ∧ n ≤ 3652058) (w : World) :
    Calls Tryz.prog 131 #[.int .i64 n] w fun e w' => e = .returned (.int .i64 (yearD (n - 719162))) ∧ w' = w := by
  obtain ⟨k, hk⟩ : ∃ k, n * 400 / 146097 = k := ⟨_, rfl⟩
  have hk1 : Int.tdiv (n * 400) 146097 = k := by rw [tdiv_pos (by omega)]; exact hk
  have hk2 : 0 ≤ k ∧ k ≤ 9998 := by omega
  have lo := year_low h.1 hk
  have hi := year_high h.1 hk
  have c1 := fun W => ahead_any (1 + k + 1) (by omega) W
  by_cases hy : aheadD (1 + k + 1) ≤ n
  · have e : Hid (yearD (n - 719162) = 1 + k + 1) := Lib.hid (yearD_is (by omega) (by
      rcases Int.lt_or_le 9999 (1 + k + 1) with h9 | h9
      · have := aheadD_le (y := 10000) (z := 1 + k + 1) (by omega)
        have := aheadD_end
        omega
      · exact h9) hy (by rw [show 1 + k + 1 + 1 = k + 3 by omega]; exact hi))
    clear hk lo hi
    generalize aheadD (1 + k + 1) = z at c1 hy
    go_enter Tryz.func131, Tryz.ntmps131
    go_wp2_with (go_at_call 132; ((with_reducible refine (c1 _).mono ?_); rintro e w' ⟨rfl, hw⟩; subst w'))
    go_ret
    exact ⟨by rw [e.out]; rfl, rfl⟩
  · have e : Hid (yearD (n - 719162) = 1 + k) := Lib.hid (yearD_is (by omega) (by omega) (by rw [Int.add_comm]; exact lo) (by omega))
    clear hk lo hi
    generalize aheadD (1 + k + 1) = z at c1 hy
    go_enter Tryz.func131, Tryz.ntmps131
    go_wp2_with (go_at_call 132; ((with_reducible refine (c1 _).mono ?_); rintro e w' ⟨rfl, hw⟩; subst w'))
    go_ret
    exact ⟨by rw [e.out]; rfl, rfl⟩
set_option maxRecDepth 100000 in
set_option maxHeartbeats 2000000 in
theorem in_any (t : Int) (w : World) :
    Calls Tryz.prog 106 #[.int .i64 t] w fun e w' => e = .returned (.bool (inD t)) ∧ w' = w := by
  by_cases h1 : -62135596800 ≤ t
  · by_cases h2 : t ≤ 253402300799
    · have e : Hid (inD t = true) := Lib.hid (by unfold inD; simp [h1, h2])
      go_enter Tryz.func106, Tryz.ntmps106
      go_wp2
      go_ret
      exact ⟨by rw [e.out]; rfl, rfl⟩
    · have e : Hid (inD t = false) := Lib.hid (by unfold inD; simp [h2])
      go_enter Tryz.func106, Tryz.ntmps106
      go_wp2
      go_ret
      exact ⟨by rw [e.out]; rfl, rfl⟩
  · have e : Hid (inD t = false) := Lib.hid (by unfold inD; simp [h1])
    go_enter Tryz.func106, Tryz.ntmps106
    go_wp2
    go_ret
    exact ⟨by rw [e.out]; rfl, rfl⟩
set_option maxRecDepth 100000 in
set_option maxHeartbeats 2000000 in
theorem parts_any (t : Int) (ht : -9223372036854775808 ≤ t ∧ t < 9223372036854775808) (w : World) :
    Calls Tryz.prog 73 #[.int .i64 t] w fun e w' => e = .returned (.tuple #[.int .i64 (t / 86400), .int .i64 (t % 86400)]) ∧ w' = w := by
  have k := Int.tmod_add_mul_tdiv t 86400
  have k1 : -86400 < Int.tmod t 86400 := Int.lt_tmod_of_pos t (by omega)
  have k2 : Int.tmod t 86400 < 86400 := Int.tmod_lt_of_pos t (by omega)
  by_cases hs : Int.tmod t 86400 < 0
  · have e1 : Hid (t / 86400 = Int.tdiv t 86400 - 1) := Lib.hid (by omega)
    have e2 : Hid (t % 86400 = Int.tmod t 86400 + 86400) := Lib.hid (by omega)
    have b : -9223372036854775808 ≤ Int.tdiv t 86400 - 1 ∧ Int.tdiv t 86400 - 1 < 9223372036854775808 := by omega
    have b2 : -9223372036854775808 ≤ Int.tdiv t 86400 ∧ Int.tdiv t 86400 < 9223372036854775808 := by omega
    clear k
    go_enter Tryz.func73, Tryz.ntmps73
    go_wp2
    go_ret2
    exact ⟨by rw [e1.out, e2.out]; rfl, rfl⟩
  · have e1 : Hid (t / 86400 = Int.tdiv t 86400) := Lib.hid (by omega)
    have e2 : Hid (t % 86400 = Int.tmod t 86400) := Lib.hid (by omega)
    have b2 : -9223372036854775808 ≤ Int.tdiv t 86400 ∧ Int.tdiv t 86400 < 9223372036854775808 := by omega
    clear k
    go_enter Tryz.func73, Tryz.ntmps73
    go_wp2
    go_ret2
    exact ⟨by rw [e1.out, e2.out]; rfl, rfl⟩

end Go.Proofs.YtnidkcedomhofaaGreatDoor

/-
  The program's iterator over the months of a year.
-/
namespace Go.Proofs.YtnidkcedomhofaaGreatDoor
open Go.RowKit Go.Shelf
attribute [local go_sem] Oper.semAt_some

/-- What is handed out: a month and how many days it has. -/
abbrev encsM (y : Int) (i : Fin 12) : Array Value := #[.int .i64 ((i.val : Int) + 1), .int .i64 (lenD y ((i.val : Int) + 1))]
def mths (k : Nat) : List (Fin 12) := (List.finRange 12).take k
theorem mths_length {k : Nat} (h : k ≤ 12) : (mths k).length = k := by unfold mths; rw [List.length_take, List.length_finRange]; omega
theorem mths_succ {k : Nat} (h : k < 12) : mths (k + 1) = mths k ++ [⟨k, h⟩] := by
  unfold mths
  rw [List.take_add_one, List.getElem?_eq_getElem (by simpa using h)]
  simp
def cntM (y : Int) : Nat := if 1 ≤ y ∧ y ≤ 9999 then 12 else 0
theorem cntM_le (y : Int) : cntM y ≤ 12 := by unfold cntM; split <;> omega
/-- What a round keeps: what lay below n₀, and the box of the year. -/
structure KpM (n₀ By : Nat) (A B : World) : Prop where
  below : Below n₀ A B
  box : B.heap[By]? = A.heap[By]?
theorem KpM.trans {n₀ By : Nat} {A B C : World} (h : KpM n₀ By A B) (k : KpM n₀ By B C) : KpM n₀ By A C := ⟨h.below.trans k.below, k.box.trans h.box⟩
theorem belowM_put {n₀ z l : Nat} (hn : n₀ ≤ z) (hl : z ≤ l) (W : World) (o o' : Obj) (ho : W.heap[l]? = some o) (_hc : o.isCells = false) : Below n₀ W (W.putObj l o') :=
  (Below.refl n₀ W).grown (grownBy_putObj' W l o') (by have := (Array.getElem?_eq_some_iff.1 ho).1; omega) fun j ej => by cases ej; omega
theorem kpM_put {n₀ By z : Nat} (hn : n₀ ≤ z) (hs : By < z) (W : World) (l : Nat) (o o' : Obj) (hl : z ≤ l) (ho : W.heap[l]? = some o) (hc : o.isCells = false) (_hw : o.isWalk = false) : KpM n₀ By W (W.putObj l o') :=
  ⟨(Below.refl n₀ W).trans (belowM_put hn hl W o o' ho hc), World.putObj_heap_other (by omega)⟩
theorem kpM_set {n₀ By B : Nat} {W : World} {u : Value} (hn : n₀ ≤ B) (hs : By ≠ B) : KpM n₀ By W (W.setCell ⟨B, 0, none⟩ u) :=
  ⟨(Below.refl n₀ W).setCell (p := ⟨B, 0, none⟩) hn u, Below.heap_setCell W ⟨B, 0, none⟩ u By hs⟩
theorem belowM_set {n₀ B : Nat} (hn : n₀ ≤ B) (W : World) (u : Value) : Below n₀ W (W.setCell ⟨B, 0, none⟩ u) := (Below.refl n₀ W).setCell (p := ⟨B, 0, none⟩) hn u

/-- The months of a common year, as the program's variable has them. -/
abbrev lensA : Value := .agg #[.int .i64 31, .int .i64 28, .int .i64 31, .int .i64 30, .int .i64 31, .int .i64 30, .int .i64 31, .int .i64 31, .int .i64 30, .int .i64 31, .int .i64 30, .int .i64 31]
theorem lenD_at {y : Int} (hy : 1 ≤ y ∧ y ≤ 9999) {k : Nat} (hk : k < 12) (h1 : k ≠ 1) : lenD y ((k : Int) + 1) = [31, 28, 31, 30, 31, 30, 31, 31, 30, 31, 30, 31].getD k 0 := by
  have : k = 0 ∨ k = 2 ∨ k = 3 ∨ k = 4 ∨ k = 5 ∨ k = 6 ∨ k = 7 ∨ k = 8 ∨ k = 9 ∨ k = 10 ∨ k = 11 := by omega
  unfold lenD
  rw [if_neg (by omega)]
  rcases this with rfl | rfl | rfl | rfl | rfl | rfl | rfl | rfl | rfl | rfl | rfl <;> rfl
set_option maxRecDepth 100000 in
theorem index_at {k : Nat} (hk : k < 12) (w : World) : (Instr.index 166 lensA (.int .i64 (k : Int))).run Tryz.prog w = .ok (.int .i64 ([31, 28, 31, 30, 31, 30, 31, 31, 30, 31, 30, 31].getD k 0)) w := by
  have : k = 0 ∨ k = 1 ∨ k = 2 ∨ k = 3 ∨ k = 4 ∨ k = 5 ∨ k = 6 ∨ k = 7 ∨ k = 8 ∨ k = 9 ∨ k = 10 ∨ k = 11 := by omega
  rcases this with rfl | rfl | rfl | rfl | rfl | rfl | rfl | rfl | rfl | rfl | rfl | rfl <;> rfl
theorem index_len {y : Int} (hy : 1 ≤ y ∧ y ≤ 9999) {k : Nat} (hk : k < 12) (h1 : k ≠ 1) (w : World) : (Instr.index 166 lensA (.int .i64 (k : Int))).run Tryz.prog w = .ok (.int .i64 (lenD y ((k : Int) + 1))) w := by
  rw [index_at hk, lenD_at hy hk h1]
theorem index_len1 : ∀ w, (Instr.index 166 lensA (.int .i64 1)).run Tryz.prog w = .ok (.int .i64 28) w := by intro w; kernel_rfl

set_option maxRecDepth 100000 in
set_option maxHeartbeats 4000000 in
theorem mths1_in (n : Nat) (hn : 1 ≤ n) (l By n₀ : Nat) (y : Int) (J Jx : List (Fin 12) → World → Prop)
    (hY : ∀ (pre : List (Fin 12)) (i : Fin 12) (W : World), J pre W → pre.length < cntM y → YieldAt Fence.wide (n - 1) Tryz.prog l (encsM y i) W fun e W' =>
      (e = .returned (.bool true) ∧ J (pre ++ [i]) W' ∧ KpM n₀ By W W') ∨ (e = .returned (.bool false) ∧ Jx (pre ++ [i]) W'))
    (W : World) (hBy : W.cell? ⟨By, 0, none⟩ = some (.int .i64 y)) (hv : CellsAt W 6 lensV) (h0 : J [] W) :
    CallsIn Fence.wide n Tryz.prog 155 #[.func (.yield l) #[] #[], .pointer (some ⟨By, 0, none⟩)] W fun e W' => (∃ v, e = .returned v) ∧
      ((∃ ys, ys = mths (cntM y) ∧ J ys W') ∨ (∃ pre, (∃ k, k ≤ cntM y ∧ pre = mths k) ∧ Jx pre W')) := by
  refine callsIn_of_wp Tryz.func155 rfl trivial ?_ rfl
  simp only [Tryz.ntmps155, List.size_toArray, List.length_cons, List.length_nil, Nat.reduceAdd, Nat.reduceSub, Array.replicate_succ, Array.replicate_zero, List.push_toArray, List.append_toArray, List.nil_append, List.cons_append]
  by_cases hr : 1 ≤ y ∧ y ≤ 9999
  · have hc12 : cntM y = 12 := by unfold cntM; rw [if_pos hr]
    rw [hc12] at hY ⊢
    have b1 : ¬ y < 1 := by omega
    have b2 : ¬ 9999 < y := by omega
    have v0 := hv 0 _ rfl
    have v1 := hv 1 _ rfl
    have v2 := hv 2 _ rfl
    have v3 := hv 3 _ rfl
    have v4 := hv 4 _ rfl
    have v5 := hv 5 _ rfl
    have v6 := hv 6 _ rfl
    have v7 := hv 7 _ rfl
    have v8 := hv 8 _ rfl
    have v9 := hv 9 _ rfl
    have v10 := hv 10 _ rfl
    have v11 := hv 11 _ rfl
    have HR := Lib.hid hr
    clear hv hr hc12
    gi_wp2
    clear v0 v1 v2 v3 v4 v5 v6 v7 v8 v9 v10 v11 b1 b2
    gi_loopw [13] (fun p wr => ∃ k : Nat, p = .int .i64 k ∧ k ≤ 12 ∧ J (mths k) wr ∧ wr.cell? ⟨By, 0, none⟩ = some (.int .i64 y)) (fun p _ => 12 - (intOf p).toNat)
    case atStart => exact ⟨0, rfl, by omega, by simpa [mths] using h0, hBy⟩
    case round =>
      obtain ⟨k, rfl, hk, hJ, hcy⟩ := hrel
      by_cases h : k < 12
      · have hd : (k : Int) < 12 := by omega
        obtain ⟨fn, tmps, assign, body, hy, hR⟩ := hY (mths k) ⟨k, h⟩ wr hJ (by rw [mths_length (by omega)]; exact h)
        dsimp only [encsM] at hy
        have HM := Lib.hid (mths_succ h)
        have HRR := Lib.hid hR
        clear hR hJ
        by_cases hk1 : k = 1
        · subst hk1
          have hix := index_len1
          cases hl : leapD y
          · have e : lenD y (((1 : Nat) : Int) + 1) = 28 := by have := HR.out; unfold lenD; rw [if_neg (by omega), if_pos (by rfl), hl]; rfl
            rw [e, show (((1 : Nat) : Int) + 1) = 2 by rfl] at hy
            gi_wp2_with (refine ⟨trivial, ?_⟩; gi_at_call 156; refine (callsIn_wide.2 (isLeap_any y HR.out _)).mono ?_; rintro e w' ⟨rfl, hw⟩; subst w'; rw [hl])
            gi_wp2
            refine HRR.out.mono ?_
            rintro e W3 (⟨rfl, hJ3, hk3⟩ | ⟨rfl, hJx3⟩)
            · have hcy3 := (World.cell?_of_block hk3.box).trans hcy
              have HJ := Lib.hid hJ3; clear hJ3
              gi_wp2
              go_roundw
              case rel => exact ⟨1 + 1, by go_num, by omega, by rw [HM.out]; exact HJ.out, hcy3⟩
              case measure => simp [intOf]
            · gi_wp2
              refine bodyPost_ret (results_none rfl _ _ _) rfl ?_
              exact ⟨⟨_, rfl⟩, .inr ⟨_, ⟨1 + 1, by omega, HM.out.symm⟩, hJx3⟩⟩
          · have e : lenD y (((1 : Nat) : Int) + 1) = 29 := by have := HR.out; unfold lenD; rw [if_neg (by omega), if_pos (by rfl), hl]; rfl
            rw [e, show (((1 : Nat) : Int) + 1) = 2 by rfl] at hy
            gi_wp2_with (refine ⟨trivial, ?_⟩; gi_at_call 156; refine (callsIn_wide.2 (isLeap_any y HR.out _)).mono ?_; rintro e w' ⟨rfl, hw⟩; subst w'; rw [hl])
            gi_wp2
            refine HRR.out.mono ?_
            rintro e W3 (⟨rfl, hJ3, hk3⟩ | ⟨rfl, hJx3⟩)
            · have hcy3 := (World.cell?_of_block hk3.box).trans hcy
              have HJ := Lib.hid hJ3; clear hJ3
              gi_wp2
              go_roundw
              case rel => exact ⟨1 + 1, by go_num, by omega, by rw [HM.out]; exact HJ.out, hcy3⟩
              case measure => simp [intOf]
            · gi_wp2
              refine bodyPost_ret (results_none rfl _ _ _) rfl ?_
              exact ⟨⟨_, rfl⟩, .inr ⟨_, ⟨1 + 1, by omega, HM.out.symm⟩, hJx3⟩⟩
        · have hix := index_len HR.out h hk1
          have hk2 : ((k : Int) + 1 == 2) = false := by simp; omega
          generalize lenD y ((k : Int) + 1) = q at hy hix
          · gi_wp2
            refine ⟨trivial, ?_⟩
            gi_wp2
            refine HRR.out.mono ?_
            rintro e W3 (⟨rfl, hJ3, hk3⟩ | ⟨rfl, hJx3⟩)
            · have hcy3 := (World.cell?_of_block hk3.box).trans hcy
              have HJ := Lib.hid hJ3; clear hJ3
              gi_wp2
              go_roundw
              case rel => exact ⟨k + 1, by go_num, by omega, by rw [HM.out]; exact HJ.out, hcy3⟩
              case measure => simp [intOf]; omega
            · gi_wp2
              refine bodyPost_ret (results_none rfl _ _ _) rfl ?_
              exact ⟨⟨_, rfl⟩, .inr ⟨_, ⟨k + 1, by omega, HM.out.symm⟩, hJx3⟩⟩
      · have hd : (12 : Int) ≤ (k : Int) := by omega
        gi_wp2
        go_end0
        obtain rfl : k = 12 := by omega
        exact ⟨⟨_, rfl⟩, .inl ⟨_, rfl, hJ⟩⟩
  · have hc0 : cntM y = 0 := by unfold cntM; rw [if_neg hr]
    rw [hc0]
    have H0 := Lib.hid h0
    clear hY h0
    rcases Int.lt_or_le y 1 with h1 | h1
    · clear hr
      gi_wp2
      refine bodyPost_ret (results_none rfl _ _ _) rfl ?_
      exact ⟨⟨_, rfl⟩, .inl (by simpa [mths] using H0.out)⟩
    · have h2 : 9999 < y := by omega
      have h3 : ¬ y < 1 := by omega
      clear hr
      gi_wp2
      refine bodyPost_ret (results_none rfl _ _ _) rfl ?_
      exact ⟨⟨_, rfl⟩, .inl (by simpa [mths] using H0.out)⟩

set_option maxHeartbeats 1000000 in
theorem mthsOf_in (n : Nat) (y : Int) (w : World) :
    CallsIn Fence.wide n Tryz.prog 133 #[.int .i64 y] w fun e w' => e = .returned (.func (.func 155) #[] #[.pointer (some ⟨w.heap.size, 0, none⟩)]) ∧ w' = w.alloc (.cells #[.int .i64 y] 3) := by
  refine callsIn_of_wp Tryz.func133 rfl trivial ?_ rfl
  simp only [Tryz.ntmps133, List.size_toArray, List.length_cons, List.length_nil, Nat.reduceAdd, Nat.reduceSub, Array.replicate_succ, Array.replicate_zero, List.push_toArray, List.append_toArray, List.nil_append, List.cons_append]
  gi_wp2
  go_ret
  exact ⟨rfl, rfl⟩

theorem mths_stops (n : Nat) (hn : 1 ≤ n) (By n₀ : Nat) (y : Int) (w : World) (hlt : By < w.heap.size) (hBy : w.cell? ⟨By, 0, none⟩ = some (.int .i64 y)) (hv : CellsAt w 6 lensV) :
    SeqStopsK Fence.wide n Tryz.prog 155 #[.pointer (some ⟨By, 0, none⟩)] (encsM y) (KpM n₀ By) (fun ys => ys = mths (cntM y)) (fun pre => ∃ k, k ≤ cntM y ∧ pre = mths k) (cntM y) w := fun l J Jx W hW _ _ hY h0 =>
  mths1_in n hn l By n₀ y J Jx hY W ((hW.cell (p := ⟨By, 0, none⟩) hlt).trans hBy) (hv.step hW) h0

/-- The days of the months that have come. -/
def sumM (y : Int) (pre : List (Fin 12)) : Int := (pre.map fun i => lenD y ((i.val : Int) + 1)).sum
theorem sumM_snoc (y : Int) (pre : List (Fin 12)) (i : Fin 12) : sumM y (pre ++ [i]) = sumM y pre + lenD y ((i.val : Int) + 1) := by
  unfold sumM
  rw [List.map_append, List.sum_append]
  simp
theorem sumM_bound {y : Int} : ∀ (pre : List (Fin 12)), 0 ≤ sumM y pre ∧ sumM y pre ≤ 31 * pre.length
  | [] => by simp [sumM]
  | i :: pre => by
    have h := sumM_bound (y := y) pre
    have hl : 0 ≤ lenD y ((i.val : Int) + 1) ∧ lenD y ((i.val : Int) + 1) ≤ 31 := by
      unfold lenD
      repeat (first | omega | split)
    have e : sumM y (i :: pre) = lenD y ((i.val : Int) + 1) + sumM y pre := by simp [sumM]
    rw [e, List.length_cons]
    omega
theorem sumM_mths {y : Int} (hy : 1 ≤ y ∧ y ≤ 9999) : ∀ k, k ≤ 12 → sumM y (mths k) = monD (leapD y) ((k : Int) + 1)
  | 0, _ => by rw [show (((0 : Nat) : Int) + 1) = 1 by rfl, monD_one]; rfl
  | k + 1, h => by
    rw [mths_succ (by omega), sumM_snoc, sumM_mths hy k (by omega)]
    rw [show (((k + 1 : Nat) : Int) + 1) = ((k : Int) + 1) + 1 by omega, monD_next (m := (k : Int) + 1) hy (by omega)]
/-- Where a part of the months ends. -/
theorem mths_end {k : Nat} {pre : List (Fin 12)} {i : Fin 12} (h : k ≤ 12) (e : pre ++ [i] = mths k) : pre = mths i.val ∧ k = i.val + 1 := by
  cases k with
  | zero => have := congrArg List.length e; simp [mths] at this
  | succ k =>
    rw [mths_succ (by omega)] at e
    obtain ⟨h1, h2⟩ := List.append_inj' e rfl
    simp only [List.cons.injEq, and_true] at h2
    subst h2
    exact ⟨h1, rfl⟩

end Go.Proofs.YtnidkcedomhofaaGreatDoor
