/-
  UTF-8 as the document goes through it.
-/
import Derived.WalkSpells
import Derived.WalkLawsBesides
import Derived.Test.YtlfhhnjdfpgadaaGreatDoorG02
import Derived.Test.YtlfhhnjdfpgadaaGreatDoorG03
import Derived.Below
import Derived.OwnWalk
import Derived.WalkKit
import Derived.Lib.Hide
import Derived.BigQuiet
import Derived.Test.YtlfhhnjdfpgadaaGreatDoorProg
namespace Go.Proofs.YtlfhhnjdfpgadaaGreatDoor
open Go.RowKit
theorem getB {s : ByteArray} {k : Nat} (h : k < s.size) : s.data.toList.getD k 0 = s[k] := by
  have h' : k < s.data.size := h
  rw [List.getD_eq_getElem?_getD, Array.getElem?_toList, Array.getElem?_eq_getElem h']; rfl

theorem bytB {s : ByteArray} {k : Nat} (h : k < s.size) : byt s.data.toList k = s[k].toNat := by unfold byt; rw [getB h]
set_option maxHeartbeats 1000000 in
theorem refCont_any (s : ByteArray) (_hs : s.size ≤ 16777216) (i : Nat) (w : World) :
    Calls Tryz.prog 65 #[.string s, .int .i64 (i : Int)] w fun e w' => e = .returned (.bool (cont s.data.toList i)) ∧ w' = w := by
  have hlen := Lib.hid (bsize s)
  by_cases hlt : i < s.size
  · have hb := bytB hlt
    have e : Hid (cont s.data.toList i = (decide (128 ≤ s[i].toNat) && decide (s[i].toNat < 192))) := Lib.hid (by unfold cont; rw [hb])
    have hc := s[i].toNat_lt
    clear hb
    by_cases h1 : 128 ≤ s[i].toNat
    · by_cases h2 : s[i].toNat < 192
      · have e2 : Hid (cont s.data.toList i = true) := Lib.hid (by rw [e.out]; simp [h1, h2])
        have d2 : decide ((s[i].toNat : Int) < 192) = true := by simp; omega
        have d1 : decide ((128 : Int) ≤ (s[i].toNat : Int)) = true := by simp; omega
        clear h1 h2
        go_enter Tryz.func65, Tryz.ntmps65
        go_wp2
        go_ret
        refine ⟨?_, rfl⟩
        rw [e2.out]
        first | rfl | (simp; omega)
      · have e2 : Hid (cont s.data.toList i = false) := Lib.hid (by rw [e.out]; simp [h2])
        have d2 : decide ((s[i].toNat : Int) < 192) = false := by simp; omega
        have d1 : decide ((128 : Int) ≤ (s[i].toNat : Int)) = true := by simp; omega
        clear h1 h2
        go_enter Tryz.func65, Tryz.ntmps65
        go_wp2
        go_ret
        refine ⟨?_, rfl⟩
        rw [e2.out]
        first | rfl | (simp; omega)
    · have e2 : Hid (cont s.data.toList i = false) := Lib.hid (by rw [e.out]; simp [h1])
      have d1 : decide ((128 : Int) ≤ (s[i].toNat : Int)) = false := by simp; omega
      clear h1
      go_enter Tryz.func65, Tryz.ntmps65
      go_wp2
      go_ret
      refine ⟨?_, rfl⟩
      rw [e2.out]
      first | rfl | (simp; omega)
  · have e2 : Hid (cont s.data.toList i = false) := Lib.hid (by
      unfold cont
      rw [byt_out (by rw [← hlen.out]; omega)]; rfl)
    go_enter Tryz.func65, Tryz.ntmps65
    go_wp2
    go_ret
    refine ⟨?_, rfl⟩
    rw [e2.out]
    first | rfl | (simp; omega)

theorem byt_drop (l : List UInt8) (k i : Nat) : byt (l.drop k) i = byt l (k + i) := by
  unfold byt
  rw [List.getD_eq_getElem?_getD, List.getD_eq_getElem?_getD, List.getElem?_drop]
theorem cont_drop (l : List UInt8) (k i : Nat) : cont (l.drop k) i = cont l (k + i) := by unfold cont; rw [byt_drop]

set_option maxRecDepth 100000 in
set_option maxHeartbeats 4000000 in
theorem rune_one (s : ByteArray) (_hs : s.size ≤ 16777216) (k : Nat) (hk : k < s.size) (h : s[k].toNat < 128) (w : World) :
    Calls Tryz.prog 43 #[.string s, .int .i64 (k : Int)] w fun e w' => e = .returned (.int .i64 1) ∧ w' = w := by
  have hc := s[k].toNat_lt

  go_enter Tryz.func43, Tryz.ntmps43
  go_wp2
  go_ret
  exact ⟨rfl, by first | rfl | trivial⟩

set_option maxRecDepth 100000 in
set_option maxHeartbeats 4000000 in
theorem rune_two (s : ByteArray) (hs : s.size ≤ 16777216) (k : Nat) (hk : k < s.size) (h1 : 194 ≤ s[k].toNat) (h2 : s[k].toNat < 224) (hc1 : cont s.data.toList (k + 1) = true) (w : World) :
    Calls Tryz.prog 43 #[.string s, .int .i64 (k : Int)] w fun e w' => e = .returned (.int .i64 2) ∧ w' = w := by
  have hc := s[k].toNat_lt
  have c1 := fun w => (show Calls Tryz.prog 65 #[.string s, .int .i64 ((k : Int) + 1)] w _ from refCont_any s hs (k + 1) w)
  rw [hc1] at c1
  clear hc1
  go_enter Tryz.func43, Tryz.ntmps43
  go_wp2_with fail
  go_at_call 65
  refine (c1 _).mono ?_
  rintro e w1 ⟨rfl, rfl⟩
  go_wp2
  go_ret
  exact ⟨rfl, by first | rfl | trivial⟩

set_option maxRecDepth 100000 in
set_option maxHeartbeats 4000000 in
theorem rune_two0 (s : ByteArray) (hs : s.size ≤ 16777216) (k : Nat) (hk : k < s.size) (h1 : 194 ≤ s[k].toNat) (h2 : s[k].toNat < 224) (hc1 : cont s.data.toList (k + 1) = false) (w : World) :
    Calls Tryz.prog 43 #[.string s, .int .i64 (k : Int)] w fun e w' => e = .returned (.int .i64 0) ∧ w' = w := by
  have hc := s[k].toNat_lt
  have c1 := fun w => (show Calls Tryz.prog 65 #[.string s, .int .i64 ((k : Int) + 1)] w _ from refCont_any s hs (k + 1) w)
  rw [hc1] at c1
  clear hc1
  go_enter Tryz.func43, Tryz.ntmps43
  go_wp2_with fail
  go_at_call 65
  refine (c1 _).mono ?_
  rintro e w1 ⟨rfl, rfl⟩
  go_wp2
  go_ret
  exact ⟨rfl, by first | rfl | trivial⟩

set_option maxRecDepth 100000 in
set_option maxHeartbeats 4000000 in
theorem rune_three0 (s : ByteArray) (hs : s.size ≤ 16777216) (k : Nat) (hk : k < s.size) (h1 : 224 ≤ s[k].toNat) (h2 : s[k].toNat < 240) (hc1 : cont s.data.toList (k + 1) = false) (w : World) :
    Calls Tryz.prog 43 #[.string s, .int .i64 (k : Int)] w fun e w' => e = .returned (.int .i64 0) ∧ w' = w := by
  have hc := s[k].toNat_lt
  have c1 := fun w => (show Calls Tryz.prog 65 #[.string s, .int .i64 ((k : Int) + 1)] w _ from refCont_any s hs (k + 1) w)
  rw [hc1] at c1
  clear hc1
  go_enter Tryz.func43, Tryz.ntmps43
  go_wp2_with fail
  go_at_call 65
  refine (c1 _).mono ?_
  rintro e w1 ⟨rfl, rfl⟩
  go_wp2
  go_ret
  exact ⟨rfl, by first | rfl | trivial⟩

set_option maxRecDepth 100000 in
set_option maxHeartbeats 4000000 in
theorem rune_three1 (s : ByteArray) (hs : s.size ≤ 16777216) (k : Nat) (hk : k < s.size) (h1 : 224 ≤ s[k].toNat) (h2 : s[k].toNat < 240) (hc1 : cont s.data.toList (k + 1) = true) (hc2 : cont s.data.toList (k + 2) = false) (w : World) :
    Calls Tryz.prog 43 #[.string s, .int .i64 (k : Int)] w fun e w' => e = .returned (.int .i64 0) ∧ w' = w := by
  have hc := s[k].toNat_lt
  have c1 := fun w => (show Calls Tryz.prog 65 #[.string s, .int .i64 ((k : Int) + 1)] w _ from refCont_any s hs (k + 1) w)
  rw [hc1] at c1
  clear hc1
  have c2 := fun w => (show Calls Tryz.prog 65 #[.string s, .int .i64 ((k : Int) + 2)] w _ from refCont_any s hs (k + 2) w)
  rw [hc2] at c2
  clear hc2
  go_enter Tryz.func43, Tryz.ntmps43
  go_wp2_with fail
  go_at_call 65
  refine (c1 _).mono ?_
  rintro e w1 ⟨rfl, rfl⟩
  go_wp2_with fail
  go_at_call 65
  refine (c2 _).mono ?_
  rintro e w2 ⟨rfl, rfl⟩
  go_wp2
  go_ret
  exact ⟨rfl, by first | rfl | trivial⟩

set_option maxRecDepth 100000 in
set_option maxHeartbeats 4000000 in
theorem rune_three224 (s : ByteArray) (hs : s.size ≤ 16777216) (k : Nat) (hk : k < s.size) (h1 : s[k].toNat = 224) (hk1 : k + 1 < s.size) (h2 : s[k + 1].toNat < 160) (hc1 : cont s.data.toList (k + 1) = true) (hc2 : cont s.data.toList (k + 2) = true) (w : World) :
    Calls Tryz.prog 43 #[.string s, .int .i64 (k : Int)] w fun e w' => e = .returned (.int .i64 0) ∧ w' = w := by
  have hc := s[k].toNat_lt
  have hi : (k : Int) + 1 < (s.size : Int) := by omega
  have b1 : ((s[k].toNat : Int) == 224) = true := by rw [beq_iff_eq]; omega
  have g1 : 224 ≤ s[k].toNat := by omega
  have g2 : s[k].toNat < 240 := by omega
  clear h1
  have b3 : decide ((s[k + 1].toNat : Int) < 160) = true := by simp; omega
  have c1 := fun w => (show Calls Tryz.prog 65 #[.string s, .int .i64 ((k : Int) + 1)] w _ from refCont_any s hs (k + 1) w)
  rw [hc1] at c1
  clear hc1
  have c2 := fun w => (show Calls Tryz.prog 65 #[.string s, .int .i64 ((k : Int) + 2)] w _ from refCont_any s hs (k + 2) w)
  rw [hc2] at c2
  clear hc2
  go_enter Tryz.func43, Tryz.ntmps43
  go_wp2_with fail
  go_at_call 65
  refine (c1 _).mono ?_
  rintro e w1 ⟨rfl, rfl⟩
  go_wp2_with fail
  go_at_call 65
  refine (c2 _).mono ?_
  rintro e w2 ⟨rfl, rfl⟩
  go_wp2
  go_ret
  exact ⟨rfl, by first | rfl | trivial⟩

set_option maxRecDepth 100000 in
set_option maxHeartbeats 4000000 in
theorem rune_three224y (s : ByteArray) (hs : s.size ≤ 16777216) (k : Nat) (hk : k < s.size) (h1 : s[k].toNat = 224) (hk1 : k + 1 < s.size) (h2 : ¬ s[k + 1].toNat < 160) (hc1 : cont s.data.toList (k + 1) = true) (hc2 : cont s.data.toList (k + 2) = true) (w : World) :
    Calls Tryz.prog 43 #[.string s, .int .i64 (k : Int)] w fun e w' => e = .returned (.int .i64 3) ∧ w' = w := by
  have hc := s[k].toNat_lt
  have hi : (k : Int) + 1 < (s.size : Int) := by omega
  have b1 : ((s[k].toNat : Int) == 224) = true := by rw [beq_iff_eq]; omega
  have b2 : ((s[k].toNat : Int) == 237) = false := by rw [beq_eq_false_iff_ne]; omega
  have g1 : 224 ≤ s[k].toNat := by omega
  have g2 : s[k].toNat < 240 := by omega
  clear h1
  have b3 : decide ((s[k + 1].toNat : Int) < 160) = false := by simp; omega
  have c1 := fun w => (show Calls Tryz.prog 65 #[.string s, .int .i64 ((k : Int) + 1)] w _ from refCont_any s hs (k + 1) w)
  rw [hc1] at c1
  clear hc1
  have c2 := fun w => (show Calls Tryz.prog 65 #[.string s, .int .i64 ((k : Int) + 2)] w _ from refCont_any s hs (k + 2) w)
  rw [hc2] at c2
  clear hc2
  go_enter Tryz.func43, Tryz.ntmps43
  go_wp2_with fail
  go_at_call 65
  refine (c1 _).mono ?_
  rintro e w1 ⟨rfl, rfl⟩
  go_wp2_with fail
  go_at_call 65
  refine (c2 _).mono ?_
  rintro e w2 ⟨rfl, rfl⟩
  go_wp2
  go_ret
  exact ⟨rfl, by first | rfl | trivial⟩

set_option maxRecDepth 100000 in
set_option maxHeartbeats 4000000 in
theorem rune_three237 (s : ByteArray) (hs : s.size ≤ 16777216) (k : Nat) (hk : k < s.size) (h1 : s[k].toNat = 237) (hk1 : k + 1 < s.size) (h2 : 160 ≤ s[k + 1].toNat) (hc1 : cont s.data.toList (k + 1) = true) (hc2 : cont s.data.toList (k + 2) = true) (w : World) :
    Calls Tryz.prog 43 #[.string s, .int .i64 (k : Int)] w fun e w' => e = .returned (.int .i64 0) ∧ w' = w := by
  have hc := s[k].toNat_lt
  have hi : (k : Int) + 1 < (s.size : Int) := by omega
  have b1 : ((s[k].toNat : Int) == 224) = false := by rw [beq_eq_false_iff_ne]; omega
  have b2 : ((s[k].toNat : Int) == 237) = true := by rw [beq_iff_eq]; omega
  have g1 : 224 ≤ s[k].toNat := by omega
  have g2 : s[k].toNat < 240 := by omega
  clear h1
  have b3 : decide ((160 : Int) ≤ (s[k + 1].toNat : Int)) = true := by simp; omega
  have c1 := fun w => (show Calls Tryz.prog 65 #[.string s, .int .i64 ((k : Int) + 1)] w _ from refCont_any s hs (k + 1) w)
  rw [hc1] at c1
  clear hc1
  have c2 := fun w => (show Calls Tryz.prog 65 #[.string s, .int .i64 ((k : Int) + 2)] w _ from refCont_any s hs (k + 2) w)
  rw [hc2] at c2
  clear hc2
  go_enter Tryz.func43, Tryz.ntmps43
  go_wp2_with fail
  go_at_call 65
  refine (c1 _).mono ?_
  rintro e w1 ⟨rfl, rfl⟩
  go_wp2_with fail
  go_at_call 65
  refine (c2 _).mono ?_
  rintro e w2 ⟨rfl, rfl⟩
  go_wp2
  go_ret
  exact ⟨rfl, by first | rfl | trivial⟩

set_option maxRecDepth 100000 in
set_option maxHeartbeats 4000000 in
theorem rune_three237y (s : ByteArray) (hs : s.size ≤ 16777216) (k : Nat) (hk : k < s.size) (h1 : s[k].toNat = 237) (hk1 : k + 1 < s.size) (h2 : ¬ 160 ≤ s[k + 1].toNat) (hc1 : cont s.data.toList (k + 1) = true) (hc2 : cont s.data.toList (k + 2) = true) (w : World) :
    Calls Tryz.prog 43 #[.string s, .int .i64 (k : Int)] w fun e w' => e = .returned (.int .i64 3) ∧ w' = w := by
  have hc := s[k].toNat_lt
  have hi : (k : Int) + 1 < (s.size : Int) := by omega
  have b1 : ((s[k].toNat : Int) == 224) = false := by rw [beq_eq_false_iff_ne]; omega
  have b2 : ((s[k].toNat : Int) == 237) = true := by rw [beq_iff_eq]; omega
  have g1 : 224 ≤ s[k].toNat := by omega
  have g2 : s[k].toNat < 240 := by omega
  clear h1
  have b3 : decide ((160 : Int) ≤ (s[k + 1].toNat : Int)) = false := by simp; omega
  have c1 := fun w => (show Calls Tryz.prog 65 #[.string s, .int .i64 ((k : Int) + 1)] w _ from refCont_any s hs (k + 1) w)
  rw [hc1] at c1
  clear hc1
  have c2 := fun w => (show Calls Tryz.prog 65 #[.string s, .int .i64 ((k : Int) + 2)] w _ from refCont_any s hs (k + 2) w)
  rw [hc2] at c2
  clear hc2
  go_enter Tryz.func43, Tryz.ntmps43
  go_wp2_with fail
  go_at_call 65
  refine (c1 _).mono ?_
  rintro e w1 ⟨rfl, rfl⟩
  go_wp2_with fail
  go_at_call 65
  refine (c2 _).mono ?_
  rintro e w2 ⟨rfl, rfl⟩
  go_wp2
  go_ret
  exact ⟨rfl, by first | rfl | trivial⟩

set_option maxRecDepth 100000 in
set_option maxHeartbeats 4000000 in
theorem rune_three (s : ByteArray) (hs : s.size ≤ 16777216) (k : Nat) (hk : k < s.size) (h1 : 224 ≤ s[k].toNat) (h2 : s[k].toNat < 240) (n1 : s[k].toNat ≠ 224) (n2 : s[k].toNat ≠ 237) (hc1 : cont s.data.toList (k + 1) = true) (hc2 : cont s.data.toList (k + 2) = true) (w : World) :
    Calls Tryz.prog 43 #[.string s, .int .i64 (k : Int)] w fun e w' => e = .returned (.int .i64 3) ∧ w' = w := by
  have hc := s[k].toNat_lt
  have b1 : ((s[k].toNat : Int) == 224) = false := by rw [beq_eq_false_iff_ne]; omega
  have b2 : ((s[k].toNat : Int) == 237) = false := by rw [beq_eq_false_iff_ne]; omega
  clear n1 n2
  have c1 := fun w => (show Calls Tryz.prog 65 #[.string s, .int .i64 ((k : Int) + 1)] w _ from refCont_any s hs (k + 1) w)
  rw [hc1] at c1
  clear hc1
  have c2 := fun w => (show Calls Tryz.prog 65 #[.string s, .int .i64 ((k : Int) + 2)] w _ from refCont_any s hs (k + 2) w)
  rw [hc2] at c2
  clear hc2
  go_enter Tryz.func43, Tryz.ntmps43
  go_wp2_with fail
  go_at_call 65
  refine (c1 _).mono ?_
  rintro e w1 ⟨rfl, rfl⟩
  go_wp2_with fail
  go_at_call 65
  refine (c2 _).mono ?_
  rintro e w2 ⟨rfl, rfl⟩
  go_wp2
  go_ret
  exact ⟨rfl, by first | rfl | trivial⟩

set_option maxRecDepth 100000 in
set_option maxHeartbeats 4000000 in
theorem rune_four0 (s : ByteArray) (hs : s.size ≤ 16777216) (k : Nat) (hk : k < s.size) (h1 : 240 ≤ s[k].toNat) (h2 : s[k].toNat < 245) (hc1 : cont s.data.toList (k + 1) = false) (w : World) :
    Calls Tryz.prog 43 #[.string s, .int .i64 (k : Int)] w fun e w' => e = .returned (.int .i64 0) ∧ w' = w := by
  have hc := s[k].toNat_lt
  have c1 := fun w => (show Calls Tryz.prog 65 #[.string s, .int .i64 ((k : Int) + 1)] w _ from refCont_any s hs (k + 1) w)
  rw [hc1] at c1
  clear hc1
  go_enter Tryz.func43, Tryz.ntmps43
  go_wp2_with fail
  go_at_call 65
  refine (c1 _).mono ?_
  rintro e w1 ⟨rfl, rfl⟩
  go_wp2
  go_ret
  exact ⟨rfl, by first | rfl | trivial⟩

set_option maxRecDepth 100000 in
set_option maxHeartbeats 4000000 in
theorem rune_four1 (s : ByteArray) (hs : s.size ≤ 16777216) (k : Nat) (hk : k < s.size) (h1 : 240 ≤ s[k].toNat) (h2 : s[k].toNat < 245) (hc1 : cont s.data.toList (k + 1) = true) (hc2 : cont s.data.toList (k + 2) = false) (w : World) :
    Calls Tryz.prog 43 #[.string s, .int .i64 (k : Int)] w fun e w' => e = .returned (.int .i64 0) ∧ w' = w := by
  have hc := s[k].toNat_lt
  have c1 := fun w => (show Calls Tryz.prog 65 #[.string s, .int .i64 ((k : Int) + 1)] w _ from refCont_any s hs (k + 1) w)
  rw [hc1] at c1
  clear hc1
  have c2 := fun w => (show Calls Tryz.prog 65 #[.string s, .int .i64 ((k : Int) + 2)] w _ from refCont_any s hs (k + 2) w)
  rw [hc2] at c2
  clear hc2
  go_enter Tryz.func43, Tryz.ntmps43
  go_wp2_with fail
  go_at_call 65
  refine (c1 _).mono ?_
  rintro e w1 ⟨rfl, rfl⟩
  go_wp2_with fail
  go_at_call 65
  refine (c2 _).mono ?_
  rintro e w2 ⟨rfl, rfl⟩
  go_wp2
  go_ret
  exact ⟨rfl, by first | rfl | trivial⟩

set_option maxRecDepth 100000 in
set_option maxHeartbeats 4000000 in
theorem rune_four2 (s : ByteArray) (hs : s.size ≤ 16777216) (k : Nat) (hk : k < s.size) (h1 : 240 ≤ s[k].toNat) (h2 : s[k].toNat < 245) (hc1 : cont s.data.toList (k + 1) = true) (hc2 : cont s.data.toList (k + 2) = true) (hc3 : cont s.data.toList (k + 3) = false) (w : World) :
    Calls Tryz.prog 43 #[.string s, .int .i64 (k : Int)] w fun e w' => e = .returned (.int .i64 0) ∧ w' = w := by
  have hc := s[k].toNat_lt
  have c1 := fun w => (show Calls Tryz.prog 65 #[.string s, .int .i64 ((k : Int) + 1)] w _ from refCont_any s hs (k + 1) w)
  rw [hc1] at c1
  clear hc1
  have c2 := fun w => (show Calls Tryz.prog 65 #[.string s, .int .i64 ((k : Int) + 2)] w _ from refCont_any s hs (k + 2) w)
  rw [hc2] at c2
  clear hc2
  have c3 := fun w => (show Calls Tryz.prog 65 #[.string s, .int .i64 ((k : Int) + 3)] w _ from refCont_any s hs (k + 3) w)
  rw [hc3] at c3
  clear hc3
  go_enter Tryz.func43, Tryz.ntmps43
  go_wp2_with fail
  go_at_call 65
  refine (c1 _).mono ?_
  rintro e w1 ⟨rfl, rfl⟩
  go_wp2_with fail
  go_at_call 65
  refine (c2 _).mono ?_
  rintro e w2 ⟨rfl, rfl⟩
  go_wp2_with fail
  go_at_call 65
  refine (c3 _).mono ?_
  rintro e w3 ⟨rfl, rfl⟩
  go_wp2
  go_ret
  exact ⟨rfl, by first | rfl | trivial⟩

set_option maxRecDepth 100000 in
set_option maxHeartbeats 4000000 in
theorem rune_four240 (s : ByteArray) (hs : s.size ≤ 16777216) (k : Nat) (hk : k < s.size) (h1 : s[k].toNat = 240) (hk1 : k + 1 < s.size) (h2 : s[k + 1].toNat < 144) (hc1 : cont s.data.toList (k + 1) = true) (hc2 : cont s.data.toList (k + 2) = true) (hc3 : cont s.data.toList (k + 3) = true) (w : World) :
    Calls Tryz.prog 43 #[.string s, .int .i64 (k : Int)] w fun e w' => e = .returned (.int .i64 0) ∧ w' = w := by
  have hc := s[k].toNat_lt
  have hi : (k : Int) + 1 < (s.size : Int) := by omega
  have b1 : ((s[k].toNat : Int) == 240) = true := by rw [beq_iff_eq]; omega
  have b2 : ((s[k].toNat : Int) == 244) = false := by rw [beq_eq_false_iff_ne]; omega
  have g1 : 240 ≤ s[k].toNat := by omega
  have g2 : s[k].toNat < 245 := by omega
  clear h1
  have b3 : decide ((s[k + 1].toNat : Int) < 144) = true := by simp; omega
  have c1 := fun w => (show Calls Tryz.prog 65 #[.string s, .int .i64 ((k : Int) + 1)] w _ from refCont_any s hs (k + 1) w)
  rw [hc1] at c1
  clear hc1
  have c2 := fun w => (show Calls Tryz.prog 65 #[.string s, .int .i64 ((k : Int) + 2)] w _ from refCont_any s hs (k + 2) w)
  rw [hc2] at c2
  clear hc2
  have c3 := fun w => (show Calls Tryz.prog 65 #[.string s, .int .i64 ((k : Int) + 3)] w _ from refCont_any s hs (k + 3) w)
  rw [hc3] at c3
  clear hc3
  go_enter Tryz.func43, Tryz.ntmps43
  go_wp2_with fail
  go_at_call 65
  refine (c1 _).mono ?_
  rintro e w1 ⟨rfl, rfl⟩
  go_wp2_with fail
  go_at_call 65
  refine (c2 _).mono ?_
  rintro e w2 ⟨rfl, rfl⟩
  go_wp2_with fail
  go_at_call 65
  refine (c3 _).mono ?_
  rintro e w3 ⟨rfl, rfl⟩
  go_wp2
  go_ret
  exact ⟨rfl, by first | rfl | trivial⟩

set_option maxRecDepth 100000 in
set_option maxHeartbeats 4000000 in
theorem rune_four240y (s : ByteArray) (hs : s.size ≤ 16777216) (k : Nat) (hk : k < s.size) (h1 : s[k].toNat = 240) (hk1 : k + 1 < s.size) (h2 : ¬ s[k + 1].toNat < 144) (hc1 : cont s.data.toList (k + 1) = true) (hc2 : cont s.data.toList (k + 2) = true) (hc3 : cont s.data.toList (k + 3) = true) (w : World) :
    Calls Tryz.prog 43 #[.string s, .int .i64 (k : Int)] w fun e w' => e = .returned (.int .i64 4) ∧ w' = w := by
  have hc := s[k].toNat_lt
  have hi : (k : Int) + 1 < (s.size : Int) := by omega
  have b1 : ((s[k].toNat : Int) == 240) = true := by rw [beq_iff_eq]; omega
  have b2 : ((s[k].toNat : Int) == 244) = false := by rw [beq_eq_false_iff_ne]; omega
  have g1 : 240 ≤ s[k].toNat := by omega
  have g2 : s[k].toNat < 245 := by omega
  clear h1
  have b3 : decide ((s[k + 1].toNat : Int) < 144) = false := by simp; omega
  have c1 := fun w => (show Calls Tryz.prog 65 #[.string s, .int .i64 ((k : Int) + 1)] w _ from refCont_any s hs (k + 1) w)
  rw [hc1] at c1
  clear hc1
  have c2 := fun w => (show Calls Tryz.prog 65 #[.string s, .int .i64 ((k : Int) + 2)] w _ from refCont_any s hs (k + 2) w)
  rw [hc2] at c2
  clear hc2
  have c3 := fun w => (show Calls Tryz.prog 65 #[.string s, .int .i64 ((k : Int) + 3)] w _ from refCont_any s hs (k + 3) w)
  rw [hc3] at c3
  clear hc3
  go_enter Tryz.func43, Tryz.ntmps43
  go_wp2_with fail
  go_at_call 65
  refine (c1 _).mono ?_
  rintro e w1 ⟨rfl, rfl⟩
  go_wp2_with fail
  go_at_call 65
  refine (c2 _).mono ?_
  rintro e w2 ⟨rfl, rfl⟩
  go_wp2_with fail
  go_at_call 65
  refine (c3 _).mono ?_
  rintro e w3 ⟨rfl, rfl⟩
  go_wp2
  go_ret
  exact ⟨rfl, by first | rfl | trivial⟩

set_option maxRecDepth 100000 in
set_option maxHeartbeats 4000000 in
theorem rune_four244 (s : ByteArray) (hs : s.size ≤ 16777216) (k : Nat) (hk : k < s.size) (h1 : s[k].toNat = 244) (hk1 : k + 1 < s.size) (h2 : 144 ≤ s[k + 1].toNat) (hc1 : cont s.data.toList (k + 1) = true) (hc2 : cont s.data.toList (k + 2) = true) (hc3 : cont s.data.toList (k + 3) = true) (w : World) :
    Calls Tryz.prog 43 #[.string s, .int .i64 (k : Int)] w fun e w' => e = .returned (.int .i64 0) ∧ w' = w := by
  have hc := s[k].toNat_lt
  have hi : (k : Int) + 1 < (s.size : Int) := by omega
  have b1 : ((s[k].toNat : Int) == 244) = true := by rw [beq_iff_eq]; omega
  have b2 : ((s[k].toNat : Int) == 240) = false := by rw [beq_eq_false_iff_ne]; omega
  have g1 : 240 ≤ s[k].toNat := by omega
  have g2 : s[k].toNat < 245 := by omega
  clear h1
  have b3 : decide ((144 : Int) ≤ (s[k + 1].toNat : Int)) = true := by simp; omega
  have c1 := fun w => (show Calls Tryz.prog 65 #[.string s, .int .i64 ((k : Int) + 1)] w _ from refCont_any s hs (k + 1) w)
  rw [hc1] at c1
  clear hc1
  have c2 := fun w => (show Calls Tryz.prog 65 #[.string s, .int .i64 ((k : Int) + 2)] w _ from refCont_any s hs (k + 2) w)
  rw [hc2] at c2
  clear hc2
  have c3 := fun w => (show Calls Tryz.prog 65 #[.string s, .int .i64 ((k : Int) + 3)] w _ from refCont_any s hs (k + 3) w)
  rw [hc3] at c3
  clear hc3
  go_enter Tryz.func43, Tryz.ntmps43
  go_wp2_with fail
  go_at_call 65
  refine (c1 _).mono ?_
  rintro e w1 ⟨rfl, rfl⟩
  go_wp2_with fail
  go_at_call 65
  refine (c2 _).mono ?_
  rintro e w2 ⟨rfl, rfl⟩
  go_wp2_with fail
  go_at_call 65
  refine (c3 _).mono ?_
  rintro e w3 ⟨rfl, rfl⟩
  go_wp2
  go_ret
  exact ⟨rfl, by first | rfl | trivial⟩

set_option maxRecDepth 100000 in
set_option maxHeartbeats 4000000 in
theorem rune_four244y (s : ByteArray) (hs : s.size ≤ 16777216) (k : Nat) (hk : k < s.size) (h1 : s[k].toNat = 244) (hk1 : k + 1 < s.size) (h2 : ¬ 144 ≤ s[k + 1].toNat) (hc1 : cont s.data.toList (k + 1) = true) (hc2 : cont s.data.toList (k + 2) = true) (hc3 : cont s.data.toList (k + 3) = true) (w : World) :
    Calls Tryz.prog 43 #[.string s, .int .i64 (k : Int)] w fun e w' => e = .returned (.int .i64 4) ∧ w' = w := by
  have hc := s[k].toNat_lt
  have hi : (k : Int) + 1 < (s.size : Int) := by omega
  have b1 : ((s[k].toNat : Int) == 244) = true := by rw [beq_iff_eq]; omega
  have b2 : ((s[k].toNat : Int) == 240) = false := by rw [beq_eq_false_iff_ne]; omega
  have g1 : 240 ≤ s[k].toNat := by omega
  have g2 : s[k].toNat < 245 := by omega
  clear h1
  have b3 : decide ((144 : Int) ≤ (s[k + 1].toNat : Int)) = false := by simp; omega
  have c1 := fun w => (show Calls Tryz.prog 65 #[.string s, .int .i64 ((k : Int) + 1)] w _ from refCont_any s hs (k + 1) w)
  rw [hc1] at c1
  clear hc1
  have c2 := fun w => (show Calls Tryz.prog 65 #[.string s, .int .i64 ((k : Int) + 2)] w _ from refCont_any s hs (k + 2) w)
  rw [hc2] at c2
  clear hc2
  have c3 := fun w => (show Calls Tryz.prog 65 #[.string s, .int .i64 ((k : Int) + 3)] w _ from refCont_any s hs (k + 3) w)
  rw [hc3] at c3
  clear hc3
  go_enter Tryz.func43, Tryz.ntmps43
  go_wp2_with fail
  go_at_call 65
  refine (c1 _).mono ?_
  rintro e w1 ⟨rfl, rfl⟩
  go_wp2_with fail
  go_at_call 65
  refine (c2 _).mono ?_
  rintro e w2 ⟨rfl, rfl⟩
  go_wp2_with fail
  go_at_call 65
  refine (c3 _).mono ?_
  rintro e w3 ⟨rfl, rfl⟩
  go_wp2
  go_ret
  exact ⟨rfl, by first | rfl | trivial⟩

set_option maxRecDepth 100000 in
set_option maxHeartbeats 4000000 in
theorem rune_four (s : ByteArray) (hs : s.size ≤ 16777216) (k : Nat) (hk : k < s.size) (h1 : 240 ≤ s[k].toNat) (h2 : s[k].toNat < 245) (n1 : s[k].toNat ≠ 240) (n2 : s[k].toNat ≠ 244) (hc1 : cont s.data.toList (k + 1) = true) (hc2 : cont s.data.toList (k + 2) = true) (hc3 : cont s.data.toList (k + 3) = true) (w : World) :
    Calls Tryz.prog 43 #[.string s, .int .i64 (k : Int)] w fun e w' => e = .returned (.int .i64 4) ∧ w' = w := by
  have hc := s[k].toNat_lt
  have b1 : ((s[k].toNat : Int) == 240) = false := by rw [beq_eq_false_iff_ne]; omega
  have b2 : ((s[k].toNat : Int) == 244) = false := by rw [beq_eq_false_iff_ne]; omega
  clear n1 n2
  have c1 := fun w => (show Calls Tryz.prog 65 #[.string s, .int .i64 ((k : Int) + 1)] w _ from refCont_any s hs (k + 1) w)
  rw [hc1] at c1
  clear hc1
  have c2 := fun w => (show Calls Tryz.prog 65 #[.string s, .int .i64 ((k : Int) + 2)] w _ from refCont_any s hs (k + 2) w)
  rw [hc2] at c2
  clear hc2
  have c3 := fun w => (show Calls Tryz.prog 65 #[.string s, .int .i64 ((k : Int) + 3)] w _ from refCont_any s hs (k + 3) w)
  rw [hc3] at c3
  clear hc3
  go_enter Tryz.func43, Tryz.ntmps43
  go_wp2_with fail
  go_at_call 65
  refine (c1 _).mono ?_
  rintro e w1 ⟨rfl, rfl⟩
  go_wp2_with fail
  go_at_call 65
  refine (c2 _).mono ?_
  rintro e w2 ⟨rfl, rfl⟩
  go_wp2_with fail
  go_at_call 65
  refine (c3 _).mono ?_
  rintro e w3 ⟨rfl, rfl⟩
  go_wp2
  go_ret
  exact ⟨rfl, by first | rfl | trivial⟩

set_option maxRecDepth 100000 in
set_option maxHeartbeats 4000000 in
theorem rune_low (s : ByteArray) (_hs : s.size ≤ 16777216) (k : Nat) (hk : k < s.size) (h1 : 128 ≤ s[k].toNat) (h2 : s[k].toNat < 194) (w : World) :
    Calls Tryz.prog 43 #[.string s, .int .i64 (k : Int)] w fun e w' => e = .returned (.int .i64 0) ∧ w' = w := by
  have hc := s[k].toNat_lt

  go_enter Tryz.func43, Tryz.ntmps43
  go_wp2
  go_ret
  exact ⟨rfl, by first | rfl | trivial⟩

set_option maxRecDepth 100000 in
set_option maxHeartbeats 4000000 in
theorem rune_high (s : ByteArray) (_hs : s.size ≤ 16777216) (k : Nat) (hk : k < s.size) (h1 : 245 ≤ s[k].toNat) (w : World) :
    Calls Tryz.prog 43 #[.string s, .int .i64 (k : Int)] w fun e w' => e = .returned (.int .i64 0) ∧ w' = w := by
  have hc := s[k].toNat_lt

  go_enter Tryz.func43, Tryz.ntmps43
  go_wp2
  go_ret
  exact ⟨rfl, by first | rfl | trivial⟩

theorem refRune_any (s : ByteArray) (hs : s.size ≤ 16777216) (k : Nat) (hk : k < s.size) (w : World) :
    Calls Tryz.prog 43 #[.string s, .int .i64 (k : Int)] w fun e w' => e = .returned (.int .i64 (runeL (s.data.toList.drop k) : Nat)) ∧ w' = w := by
  have hlen := bsize s
  have e0 : byt (s.data.toList.drop k) 0 = s[k].toNat := by rw [byt_drop, Nat.add_zero, bytB hk]
  have e1 : ∀ h : k + 1 < s.size, byt (s.data.toList.drop k) 1 = s[k + 1].toNat := fun h => by rw [byt_drop, bytB h]
  have lt1 : cont s.data.toList (k + 1) = true → k + 1 < s.size := fun h => by have := cont_len h; omega
  unfold runeL
  rw [e0, cont_drop, cont_drop, cont_drop]
  by_cases h1 : s[k].toNat < 128
  · rw [if_pos h1]; exact rune_one s hs k hk h1 w
  · rw [if_neg h1]
    by_cases h2 : 194 ≤ s[k].toNat ∧ s[k].toNat < 224
    · rw [if_pos h2]
      cases hc1 : cont s.data.toList (k + 1)
      · exact rune_two0 s hs k hk h2.1 h2.2 hc1 w
      · exact rune_two s hs k hk h2.1 h2.2 hc1 w
    · rw [if_neg h2]
      by_cases h3 : 224 ≤ s[k].toNat ∧ s[k].toNat < 240
      · rw [if_pos h3]
        cases hc1 : cont s.data.toList (k + 1)
        · rw [if_neg (by simp)]; exact rune_three0 s hs k hk h3.1 h3.2 hc1 w
        · cases hc2 : cont s.data.toList (k + 2)
          · rw [if_neg (by simp)]; exact rune_three1 s hs k hk h3.1 h3.2 hc1 hc2 w
          · have hk1 := lt1 hc1
            rw [e1 hk1]
            by_cases c1 : s[k].toNat = 224
            · by_cases c2 : s[k + 1].toNat < 160
              · rw [if_neg (by omega)]; exact rune_three224 s hs k hk c1 hk1 c2 hc1 hc2 w
              · rw [if_pos ⟨rfl, rfl, by omega, by omega⟩]; exact rune_three224y s hs k hk c1 hk1 c2 hc1 hc2 w
            · by_cases d1 : s[k].toNat = 237
              · by_cases c2 : 160 ≤ s[k + 1].toNat
                · rw [if_neg (by omega)]; exact rune_three237 s hs k hk d1 hk1 c2 hc1 hc2 w
                · rw [if_pos ⟨rfl, rfl, by omega, by omega⟩]; exact rune_three237y s hs k hk d1 hk1 c2 hc1 hc2 w
              · rw [if_pos ⟨rfl, rfl, by omega, by omega⟩]; exact rune_three s hs k hk h3.1 h3.2 c1 d1 hc1 hc2 w
      · rw [if_neg h3]
        by_cases h4 : 240 ≤ s[k].toNat ∧ s[k].toNat < 245
        · rw [if_pos h4]
          cases hc1 : cont s.data.toList (k + 1)
          · rw [if_neg (by simp)]; exact rune_four0 s hs k hk h4.1 h4.2 hc1 w
          · cases hc2 : cont s.data.toList (k + 2)
            · rw [if_neg (by simp)]; exact rune_four1 s hs k hk h4.1 h4.2 hc1 hc2 w
            · cases hc3 : cont s.data.toList (k + 3)
              · rw [if_neg (by simp)]; exact rune_four2 s hs k hk h4.1 h4.2 hc1 hc2 hc3 w
              · have hk1 := lt1 hc1
                rw [e1 hk1]
                by_cases c1 : s[k].toNat = 240
                · by_cases c2 : s[k + 1].toNat < 144
                  · rw [if_neg (by omega)]; exact rune_four240 s hs k hk c1 hk1 c2 hc1 hc2 hc3 w
                  · rw [if_pos ⟨rfl, rfl, rfl, by omega, by omega⟩]; exact rune_four240y s hs k hk c1 hk1 c2 hc1 hc2 hc3 w
                · by_cases d1 : s[k].toNat = 244
                  · by_cases c2 : 144 ≤ s[k + 1].toNat
                    · rw [if_neg (by omega)]; exact rune_four244 s hs k hk d1 hk1 c2 hc1 hc2 hc3 w
                    · rw [if_pos ⟨rfl, rfl, rfl, by omega, by omega⟩]; exact rune_four244y s hs k hk d1 hk1 c2 hc1 hc2 hc3 w
                  · rw [if_pos ⟨rfl, rfl, rfl, by omega, by omega⟩]; exact rune_four s hs k hk h4.1 h4.2 c1 d1 hc1 hc2 hc3 w
        · rw [if_neg h4]
          by_cases h5 : s[k].toNat < 194
          · exact rune_low s hs k hk (by omega) h5 w
          · exact rune_high s hs k hk (by omega) w

set_option maxRecDepth 100000 in
set_option maxHeartbeats 2000000 in
theorem refValid_any (s : ByteArray) (hs : s.size ≤ 16777216) (w : World) :
    Calls Tryz.prog 86 #[.string s] w fun e w' => e = .returned (.bool (vld s.data.toList)) ∧ w' = w := by
  have hlen := Lib.hid (bsize s)
  go_enter Tryz.func86, Tryz.ntmps86
  go_wp2
  go_loopw [3] (fun p wr => ∃ k : Nat, p = .int .i64 k ∧ k ≤ s.size ∧ wr = w ∧ Hid (vld s.data.toList = vld (s.data.toList.drop k))) (fun p _ => s.size - (intOf p).toNat)
  case atStart => exact ⟨0, rfl, Nat.zero_le _, rfl, Lib.hid rfl⟩
  case round =>
    obtain ⟨k, rfl, hk, rfl, HV⟩ := hrel
    by_cases hlt : k < s.size
    · have c1 := fun w => refRune_any s hs k hlt w
      have hdl : Hid ((s.data.toList.drop k).length = s.size - k) := Lib.hid (by rw [List.length_drop, ← hlen.out])
      have hrl := runeL_le (s.data.toList.drop k) (by rw [hdl.out]; omega)
      rw [hdl.out] at hrl
      obtain ⟨r, hr⟩ : ∃ r, r = runeL (s.data.toList.drop k) := ⟨_, rfl⟩
      rw [← hr] at c1 hrl
      have HR := Lib.hid hr; clear hr
      by_cases hr0 : r = 0
      · subst hr0
        have e : Hid (vld s.data.toList = false) := Lib.hid (by rw [HV.out, vld_bad (by rw [hdl.out]; omega) HR.out.symm])
        go_wp2_with (go_at_call 43; refine (c1 _).mono ?_; rintro e w' ⟨rfl, rfl⟩)
        go_ret
        exact ⟨by rw [e.out]; rfl, by first | rfl | trivial⟩
      · have HV2 : Hid (vld s.data.toList = vld (s.data.toList.drop (k + r))) := Lib.hid (by
          rw [HV.out, vld_step (by rw [hdl.out]; omega) (by rw [← HR.out]; exact hr0), ← HR.out, List.drop_drop])
        have hr1 : ((r : Int) == 0) = false := by rw [beq_eq_false_iff_ne]; omega
        go_wp2_with (go_at_call 43; refine (c1 _).mono ?_; rintro e w' ⟨rfl, rfl⟩)
        go_round
        case rel => exact ⟨k + r, by go_num, by omega, by first | rfl | trivial, HV2⟩
        case measure => simp [intOf]; omega
    · have e : Hid (vld s.data.toList = true) := Lib.hid (by
        rw [HV.out, List.drop_eq_nil_of_le (by rw [← hlen.out]; omega), vld_nil])
      go_wp2
      go_ret
      exact ⟨by rw [e.out]; rfl, by first | rfl | trivial⟩

end Go.Proofs.YtlfhhnjdfpgadaaGreatDoor

/-
  Plain mathematics for layer 11 (line): a line's name, parameters and value, as they are read from a row of bytes.
-/
namespace Go.Proofs.YtlfhhnjdfpgadaaGreatDoor
open Go.RowKit

/-- A control. -/
def ctlN (n : Nat) : Bool := (decide (n < 32) && !decide (n = 9)) || decide (n = 127)
/-- A byte of names. -/
def nbN (n : Nat) : Bool := letN n || digN n || decide (n = 45)
def upN (n : Nat) : Nat := if 97 ≤ n ∧ n ≤ 122 then n - 32 else n
def upC (c : UInt8) : UInt8 := UInt8.ofNat (upN c.toNat)
def upL (l : List UInt8) : List UInt8 := l.map upC
def nbC (c : UInt8) : Bool := nbN c.toNat
/-- A byte of a value between two ". -/
def qvC (c : UInt8) : Bool := !decide (c.toNat = 34) && !ctlN c.toNat
/-- A byte of a value that stands alone. -/
def uvC (c : UInt8) : Bool := qvC c && (!decide (c.toNat = 44) && !decide (c.toNat = 59) && !decide (c.toNat = 58))
/-- No text goes on so. -/
def eoE (l : List UInt8) : Int := if l = [] then 11 else 10
theorem eoE_pos (l : List UInt8) : eoE l ≠ 0 := by unfold eoE; split <;> decide
/-- What is read: it and what is left, or an error. -/
inductive Got (α : Type) where
  | ok (a : α) (rest : List UInt8) : Got α
  | bad (e : Int) : Got α
def rdName (l : List UInt8) : Got (List UInt8) :=
  if 64 < (l.takeWhile nbC).length then .bad 12
  else if l.takeWhile nbC = [] then .bad (eoE l)
  else .ok (upL (l.takeWhile nbC)) (l.drop (l.takeWhile nbC).length)
def rdQuoted (l : List UInt8) : Got (List UInt8) :=
  if (l.drop (l.takeWhile qvC).length).head? = some 34 then .ok (l.takeWhile qvC) (l.drop ((l.takeWhile qvC).length + 1))
  else .bad (eoE (l.drop (l.takeWhile qvC).length))
def rdVal (l : List UInt8) : Got (List UInt8) :=
  if l.head? = some 34 then rdQuoted (l.drop 1) else .ok (l.takeWhile uvC) (l.drop (l.takeWhile uvC).length)
/-- More values, each behind a comma. -/
def rdMore : Nat → List UInt8 → List (List UInt8) → Got (List (List UInt8))
  | 0, l, vs => .ok vs l
  | f + 1, l, vs => if l.head? = some 44 then (match rdVal (l.drop 1) with | .ok v r => rdMore f r (vs ++ [v]) | .bad e => .bad e) else .ok vs l
structure Par where
  name : List UInt8
  vals : List (List UInt8)
deriving DecidableEq
structure Pro where
  name : List UInt8
  pars : List Par
  value : List UInt8
deriving DecidableEq
/-- One parameter, behind its ;. -/
def rdPar (l : List UInt8) : Got Par :=
  match rdName l with
  | .bad e => .bad e
  | .ok n r => if r.head? = some 61 then
      (match rdVal (r.drop 1) with
       | .bad e => .bad e
       | .ok v r2 => (match rdMore r2.length r2 [v] with | .bad e => .bad e | .ok vs r3 => .ok ⟨n, vs⟩ r3))
    else .bad (eoE r)
def rdPars : Nat → List UInt8 → List Par → Got (List Par)
  | 0, l, ps => .ok ps l
  | f + 1, l, ps => if l.head? = some 59 then
      (if ps.length = 16 then .bad 27 else (match rdPar (l.drop 1) with | .bad e => .bad e | .ok p r => rdPars f r (ps ++ [p])))
    else .ok ps l
def rdRest (l : List UInt8) : Got Pro :=
  match rdName l with
  | .bad e => .bad e
  | .ok n r => (match rdPars r.length r [] with
    | .bad e => .bad e
    | .ok ps r2 => if r2.head? = some 58 then (if (r2.drop 1).all (fun c => !ctlN c.toNat) = true then .ok ⟨n, ps, r2.drop 1⟩ [] else .bad 10) else .bad (eoE r2))
def noPro : Pro := ⟨[], [], []⟩
/-- What Parse tells. -/
def parL (l : List UInt8) : Pro × Int :=
  if 1024 < l.length then (noPro, 12) else if vld l = true then (match rdRest l with | .ok p _ => (p, 0) | .bad e => (noPro, e)) else (noPro, 10)

theorem takeWhile_len {p : UInt8 → Bool} (l : List UInt8) : (l.takeWhile p).length ≤ l.length := (List.takeWhile_sublist p).length_le
theorem rdVal_len {l r : List UInt8} {v : List UInt8} (h : rdVal l = .ok v r) : r.length ≤ l.length := by
  unfold rdVal at h
  split at h
  · unfold rdQuoted at h
    split at h
    · injection h with h1 h2; subst h2; simp
    · cases h
  · injection h with h1 h2; subst h2; simp
theorem rdMore_len : ∀ (f : Nat) {l r : List UInt8} {vs ws : List (List UInt8)}, rdMore f l vs = .ok ws r → r.length ≤ l.length
  | 0, l, r, vs, ws, h => by unfold rdMore at h; injection h with h1 h2; subst h2; exact Nat.le_refl _
  | f + 1, l, r, vs, ws, h => by
    unfold rdMore at h
    split at h
    · split at h
      · rename_i v r2 hv
        have a := rdVal_len hv
        have b := rdMore_len f h
        simp at a; omega
      · cases h
    · injection h with h1 h2; subst h2; exact Nat.le_refl _
theorem rdName_len {l r n : List UInt8} (h : rdName l = .ok n r) : r.length < l.length := by
  unfold rdName at h
  split at h
  · cases h
  · split at h
    · cases h
    · injection h with h1 h2
      subst h2
      rename_i hne
      have : 0 < (l.takeWhile nbC).length := List.length_pos_iff.2 hne
      have := takeWhile_len (p := nbC) l
      simp; omega
theorem rdPar_len {l r : List UInt8} {p : Par} (h : rdPar l = .ok p r) : r.length < l.length := by
  unfold rdPar at h
  split at h
  · cases h
  · rename_i n r1 hn
    have a := rdName_len hn
    split at h
    · split at h
      · cases h
      · rename_i v r2 hv
        have b := rdVal_len hv
        split at h
        · cases h
        · rename_i vs r3 hm
          have c := rdMore_len _ hm
          injection h with h1 h2
          subst h2
          simp at b; omega
    · cases h

end Go.Proofs.YtlfhhnjdfpgadaaGreatDoor

/-
  A reader's variable in memory: its text, its place, its error; what a method leaves as it was.
-/
namespace Go.Proofs.YtlfhhnjdfpgadaaGreatDoor
open Go.RowKit

/-- All that there was is as it was, but the block g. -/
structure ButL (g : Nat) (w w' : World) : Prop where
  os : w'.os = w.os
  tape : w'.tape = w.tape
  output : w'.output = w.output
  size : w.heap.size ≤ w'.heap.size
  block : ∀ k, k < w.heap.size → k ≠ g → w'.heap[k]? = w.heap[k]?
section
variable {w w1 w' : World} {g : Nat} {s : ByteArray} {p e : Int}
theorem ButL.refl (g : Nat) (w : World) : ButL g w w := ⟨rfl, rfl, rfl, Nat.le_refl _, fun _ _ _ => rfl⟩
theorem ButL.of_below (h : Below w.heap.size w w') (g : Nat) : ButL g w w' := ⟨h.os, h.tape, h.output, h.size, fun k hk _ => h.block k hk⟩
theorem ButL.trans (h : ButL g w w1) (h2 : ButL g w1 w') : ButL g w w' := ⟨h2.os.trans h.os, h2.tape.trans h.tape, h2.output.trans h.output, Nat.le_trans h.size h2.size, fun k hk hne => (h2.block k (Nat.lt_of_lt_of_le hk h.size) hne).trans (h.block k hk hne)⟩
theorem ButL.set (w : World) (g o : Nat) (u : Value) : ButL g w (w.setCell ⟨g, o, none⟩ u) := ⟨rfl, rfl, rfl, by simp [World.setCell], fun k _ hne => Below.heap_setCell w ⟨g, o, none⟩ u k hne⟩
theorem ButL.to_below (h : ButL g w w') {B : Nat} (hB : B ≤ g) (hw : B ≤ w.heap.size) : Below B w w' := ⟨h.os, h.tape, h.output, h.size, fun k hk => h.block k (by omega) (by omega)⟩
end
theorem below_drewNL {w W : World} {B : Nat} (h : Below B w W) (q : Nat) : Below B w (W.drewN q) := ⟨h.1, h.2, h.3, h.4, h.5⟩
/-- A region that draws its order, whose operations read and whose calls leave what lay before: one walk, in the order of the text. -/
theorem region_belowL {P : Program} {id : Nat} {Q : Exit → Act → World → Prop} {a : Act} {w0 w : World} {l : List Oper} (hC : Below w0.heap.size w0 w) (hm : P.follows .mixedOrders = true) (hB : Region.lexB .any l.toArray = true)
    (h : wpQuiet P l.toArray (fun w' => Below w0.heap.size w0 w') (fun a' => ∀ w', Below w0.heap.size w0 w' → Q .normal a' w') l a) : (Code.region id l.toArray true).wp P Q a w :=
  wp_region_quiet (C := fun w' => Below w0.heap.size w0 w') hm hB hC.drew (by simpa using h)

end Go.Proofs.YtlfhhnjdfpgadaaGreatDoor

/-
  The small functions of layer 8, the program's and the document's: a byte's kind, its small letter, a digit's value.
-/
namespace Go.Proofs.YtlfhhnjdfpgadaaGreatDoor
open Go.RowKit

set_option maxHeartbeats 1000000 in
theorem refDigit_any (n : Nat) (hn : n < 256) (w : World) :
    Calls Tryz.prog 84 #[.int .u8 n] w fun e w' => e = .returned (.bool (digN n)) ∧ w' = w := by
  by_cases h1 : 48 ≤ n <;> by_cases h2 : n ≤ 57
  all_goals first
    | (exfalso; omega)
    | (have e : Hid (digN n = (decide (48 ≤ n) && decide (n ≤ 57))) := Lib.hid rfl
       go_enter Tryz.func84, Tryz.ntmps84
       go_wp2
       go_ret
       refine ⟨?_, rfl⟩
       rw [e.out]
       first | (simp [h1, h2]; done) | (simp [h1, h2]; omega))

set_option maxHeartbeats 2000000 in
theorem refLetter_any (n : Nat) (hn : n < 256) (w : World) :
    Calls Tryz.prog 83 #[.int .u8 n] w fun e w' => e = .returned (.bool (letN n)) ∧ w' = w := by
  have e : Hid (letN n = ((decide (97 ≤ n) && decide (n ≤ 122)) || (decide (65 ≤ n) && decide (n ≤ 90)))) := Lib.hid rfl
  by_cases h1 : 97 ≤ n <;> by_cases h2 : n ≤ 122 <;> by_cases h3 : 65 ≤ n <;> by_cases h4 : n ≤ 90
  all_goals first
    | (exfalso; omega)
    | (go_enter Tryz.func83, Tryz.ntmps83
       go_wp2
       go_ret
       refine ⟨?_, rfl⟩
       rw [e.out]
       first | (simp [h1, h2, h3, h4]; done) | (simp [h1, h2, h3, h4]; omega))

end Go.Proofs.YtlfhhnjdfpgadaaGreatDoor
