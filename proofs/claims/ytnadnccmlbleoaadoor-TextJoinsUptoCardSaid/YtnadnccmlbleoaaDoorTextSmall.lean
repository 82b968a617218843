/-
  The small functions of layer 8, the program's and the document's: a byte's kind, its small letter, a digit's value.
-/
import Derived.WalkKit
import Derived.WalkSpells
import Derived.WalkLawsBesides
import Derived.Lib.Hide
import Derived.Test.YtnadnccmlbleoaaDoorProg
import Derived.Test.YtnadnccmlbleoaaDoorTextMath
namespace Go.Proofs.YtnadnccmlbleoaaDoor
open Go.RowKit

set_option maxHeartbeats 1000000 in
theorem small_any (n : Nat) (hn : n < 256) (w : World) :
    Calls Tryd.prog 39 #[.int .u8 n] w fun e w' => e = .returned (.int .u8 (lowN n)) ∧ w' = w := by
  by_cases h1 : 65 ≤ n
  · by_cases h2 : n ≤ 90
    · have e : Hid (lowN n = n + 32) := Lib.hid (by unfold lowN; rw [if_pos ⟨h1, h2⟩])
      go_enter Tryd.func39, Tryd.ntmps39
      go_wp2
      go_ret
      refine ⟨?_, rfl⟩
      rw [e.out]; congr 2; go_num
    · have e : Hid (lowN n = n) := Lib.hid (by unfold lowN; rw [if_neg (by omega)])
      go_enter Tryd.func39, Tryd.ntmps39
      go_wp2
      go_ret
      exact ⟨by rw [e.out]; rfl, rfl⟩
  · have e : Hid (lowN n = n) := Lib.hid (by unfold lowN; rw [if_neg (by omega)])
    go_enter Tryd.func39, Tryd.ntmps39
    go_wp2
    go_ret
    exact ⟨by rw [e.out]; rfl, rfl⟩

set_option maxHeartbeats 1000000 in
theorem isDigit_any (n : Nat) (hn : n < 256) (w : World) :
    Calls Tryd.prog 38 #[.int .u8 n] w fun e w' => e = .returned (.bool (digN n)) ∧ w' = w := by
  by_cases h1 : 48 ≤ n <;> by_cases h2 : n ≤ 57
  all_goals first
    | (exfalso; omega)
    | (have e : Hid (digN n = (decide (48 ≤ n) && decide (n ≤ 57))) := Lib.hid rfl
       go_enter Tryd.func38, Tryd.ntmps38
       go_wp2
       go_ret
       refine ⟨?_, rfl⟩
       rw [e.out]
       first | (simp [h1, h2]; done) | (simp [h1, h2]; omega))

set_option maxHeartbeats 1000000 in
theorem refDigit_any (n : Nat) (hn : n < 256) (w : World) :
    Calls Tryd.prog 35 #[.int .u8 n] w fun e w' => e = .returned (.bool (digN n)) ∧ w' = w := by
  by_cases h1 : 48 ≤ n <;> by_cases h2 : n ≤ 57
  all_goals first
    | (exfalso; omega)
    | (have e : Hid (digN n = (decide (48 ≤ n) && decide (n ≤ 57))) := Lib.hid rfl
       go_enter Tryd.func35, Tryd.ntmps35
       go_wp2
       go_ret
       refine ⟨?_, rfl⟩
       rw [e.out]
       first | (simp [h1, h2]; done) | (simp [h1, h2]; omega))

set_option maxHeartbeats 2000000 in
theorem refLetter_any (n : Nat) (hn : n < 256) (w : World) :
    Calls Tryd.prog 36 #[.int .u8 n] w fun e w' => e = .returned (.bool (letN n)) ∧ w' = w := by
  have e : Hid (letN n = ((decide (97 ≤ n) && decide (n ≤ 122)) || (decide (65 ≤ n) && decide (n ≤ 90)))) := Lib.hid rfl
  by_cases h1 : 97 ≤ n <;> by_cases h2 : n ≤ 122 <;> by_cases h3 : 65 ≤ n <;> by_cases h4 : n ≤ 90
  all_goals first
    | (exfalso; omega)
    | (go_enter Tryd.func36, Tryd.ntmps36
       go_wp2
       go_ret
       refine ⟨?_, rfl⟩
       rw [e.out]
       first | (simp [h1, h2, h3, h4]; done) | (simp [h1, h2, h3, h4]; omega))

set_option maxHeartbeats 2000000 in
theorem refHex_any (n : Nat) (hn : n < 256) (w : World) :
    Calls Tryd.prog 29 #[.int .u8 n] w fun e w' => e = .returned (.int .i64 (hexN n)) ∧ w' = w := by
  rcases Decidable.em (48 ≤ n ∧ n ≤ 57) with hd | hd
  · have e : Hid (hexN n = (n : Int) - 48) := Lib.hid (by unfold hexN; rw [if_pos hd])
    have hdg : digN n = true := by simp [digN, hd]
    go_enter Tryd.func29, Tryd.ntmps29
    go_wp2_with (go_at_call 35; refine (refDigit_any n hn _).mono ?_; rintro e w' ⟨rfl, rfl⟩)
    go_ret
    exact ⟨by rw [e.out]; rfl, rfl⟩
  · have hdg : digN n = false := by simp [digN]; omega
    rcases Decidable.em (65 ≤ n ∧ n ≤ 70) with hu | hu
    · have e : Hid (hexN n = (n : Int) - 65 + 10) := Lib.hid (by unfold hexN; rw [if_neg hd, if_pos hu]; omega)
      clear hd
      go_enter Tryd.func29, Tryd.ntmps29
      go_wp2_with (go_at_call 35; refine (refDigit_any n hn _).mono ?_; rintro e w' ⟨rfl, rfl⟩)
      go_ret
      exact ⟨by rw [e.out]; rfl, rfl⟩
    · rcases Decidable.em (97 ≤ n ∧ n ≤ 102) with hl | hl
      · have e : Hid (hexN n = (n : Int) - 97 + 10) := Lib.hid (by unfold hexN; rw [if_neg hd, if_neg hu, if_pos hl]; omega)
        clear hd hu
        go_enter Tryd.func29, Tryd.ntmps29
        go_wp2_with (go_at_call 35; refine (refDigit_any n hn _).mono ?_; rintro e w' ⟨rfl, rfl⟩)
        go_ret
        exact ⟨by rw [e.out]; rfl, rfl⟩
      · have e : Hid (hexN n = -1) := Lib.hid (by unfold hexN; rw [if_neg hd, if_neg hu, if_neg hl])
        by_cases h1 : 65 ≤ n <;> by_cases h2 : n ≤ 70 <;> by_cases h3 : 97 ≤ n <;> by_cases h4 : n ≤ 102
        all_goals first
          | (exfalso; omega)
          | (go_enter Tryd.func29, Tryd.ntmps29
             go_wp2_with (go_at_call 35; refine (refDigit_any n hn _).mono ?_; rintro e w' ⟨rfl, rfl⟩)
             go_ret
             exact ⟨by rw [e.out]; rfl, rfl⟩)
end Go.Proofs.YtnadnccmlbleoaaDoor
