/-
  UTF-8 as the document goes through it.
-/
import Derived.WalkSpells
import Derived.WalkLawsBesides
import Derived.Test.YtipmeooldopkmaaDoorL03
import Derived.Test.YtipmeooldopkmaaDoorL04
namespace Go.Proofs.YtipmeooldopkmaaDoor
open Go.RowKit
theorem getB {s : ByteArray} {k : Nat} (h : k < s.size) : s.data.toList.getD k 0 = s[k] := by
  have h' : k < s.data.size := h
  rw [List.getD_eq_getElem?_getD, Array.getElem?_toList, Array.getElem?_eq_getElem h']; rfl

theorem bytB {s : ByteArray} {k : Nat} (h : k < s.size) : byt s.data.toList k = s[k].toNat := by unfold byt; rw [getB h]
set_option maxHeartbeats 1000000 in
theorem refCont_any (s : ByteArray) (_hs : s.size ≤ 16777216) (i : Nat) (w : World) :
    Calls Tryd.prog 74 #[.string s, .int .i64 (i : Int)] w fun e w' => e = .returned (.bool (cont s.data.toList i)) ∧ w' = w := by
  have hlen := Lib.hid (bsize s)
  by_cases hlt : i < s.size
  · have hb := bytB hlt
    have e : Hid (cont s.data.toList i = (decide (128 ≤ s[i].toNat) && decide (s[i].toNat < 192))) := Lib.hid (by unfold cont; rw [hb])
    have hc := s[i].toNat_lt
    clear hb
    by_cases h1 : 128 ≤ s[i].toNat
    · by_cases h2 : s[i].toNat < 192
      · have e2 : Hid (cont s.data.toList i = true) := Lib.hid (by rw [e.out]; simp [h1, h2])
        have d2 : decide ((s[i].toNat : Int) < 192) = true := by simp; omega
        have d1 : decide ((128 : Int) ≤ (s[i].toNat : Int)) = true := by simp; omega
        clear h1 h2
        go_enter Tryd.func74, Tryd.ntmps74
        go_wp2
        go_ret
        refine ⟨?_, rfl⟩
        rw [e2.out]
        first | rfl | (simp; omega)
      · have e2 : Hid (cont s.data.toList i = false) := Lib.hid (by rw [e.out]; simp [h2])
        have d2 : decide ((s[i].toNat : Int) < 192) = false := by simp; omega
        have d1 : decide ((128 : Int) ≤ (s[i].toNat : Int)) = true := by simp; omega
        clear h1 h2
        go_enter Tryd.func74, Tryd.ntmps74
        go_wp2
        go_ret
        refine ⟨?_, rfl⟩
        rw [e2.out]
        first | rfl | (simp; omega)
    · have e2 : Hid (cont s.data.toList i = false) := Lib.hid (by rw [e.out]; simp [h1])
      have d1 : decide ((128 : Int) ≤ (s[i].toNat : Int)) = false := by simp; omega
      clear h1
      go_enter Tryd.func74, Tryd.ntmps74
      go_wp2
      go_ret
      refine ⟨?_, rfl⟩
      rw [e2.out]
      first | rfl | (simp; omega)
  · have e2 : Hid (cont s.data.toList i = false) := Lib.hid (by
      unfold cont
      rw [byt_out (by rw [← hlen.out]; omega)]; rfl)
    go_enter Tryd.func74, Tryd.ntmps74
    go_wp2
    go_ret
    refine ⟨?_, rfl⟩
    rw [e2.out]
    first | rfl | (simp; omega)

theorem byt_drop (l : List UInt8) (k i : Nat) : byt (l.drop k) i = byt l (k + i) := by
  unfold byt
  rw [List.getD_eq_getElem?_getD, List.getD_eq_getElem?_getD, List.getElem?_drop]
theorem cont_drop (l : List UInt8) (k i : Nat) : cont (l.drop k) i = cont l (k + i) := by unfold cont; rw [byt_drop]

set_option maxRecDepth 100000 in
set_option maxHeartbeats 4000000 in
theorem rune_one (s : ByteArray) (_hs : s.size ≤ 16777216) (k : Nat) (hk : k < s.size) (h : s[k].toNat < 128) (w : World) :
    Calls Tryd.prog 56 #[.string s, .int .i64 (k : Int)] w fun e w' => e = .returned (.int .i64 1) ∧ w' = w := by
  have hc := s[k].toNat_lt

  go_enter Tryd.func56, Tryd.ntmps56
  go_wp2
  go_ret
  exact ⟨rfl, by first | rfl | trivial⟩

set_option maxRecDepth 100000 in
set_option maxHeartbeats 4000000 in
theorem rune_two (s : ByteArray) (hs : s.size ≤ 16777216) (k : Nat) (hk : k < s.size) (h1 : 194 ≤ s[k].toNat) (h2 : s[k].toNat < 224) (hc1 : cont s.data.toList (k + 1) = true) (w : World) :
    Calls Tryd.prog 56 #[.string s, .int .i64 (k : Int)] w fun e w' => e = .returned (.int .i64 2) ∧ w' = w := by
  have hc := s[k].toNat_lt
  have c1 := fun w => (show Calls Tryd.prog 74 #[.string s, .int .i64 ((k : Int) + 1)] w _ from refCont_any s hs (k + 1) w)
  rw [hc1] at c1
  clear hc1
  go_enter Tryd.func56, Tryd.ntmps56
  go_wp2_with fail
  go_at_call 74
  refine (c1 _).mono ?_
  rintro e w1 ⟨rfl, rfl⟩
  go_wp2
  go_ret
  exact ⟨rfl, by first | rfl | trivial⟩

set_option maxRecDepth 100000 in
set_option maxHeartbeats 4000000 in
theorem rune_two0 (s : ByteArray) (hs : s.size ≤ 16777216) (k : Nat) (hk : k < s.size) (h1 : 194 ≤ s[k].toNat) (h2 : s[k].toNat < 224) (hc1 : cont s.data.toList (k + 1) = false) (w : World) :
    Calls Tryd.prog 56 #[.string s, .int .i64 (k : Int)] w fun e w' => e = .returned (.int .i64 0) ∧ w' = w := by
  have hc := s[k].toNat_lt
  have c1 := fun w => (show Calls Tryd.prog 74 #[.string s, .int .i64 ((k : Int) + 1)] w _ from refCont_any s hs (k + 1) w)
  rw [hc1] at c1
  clear hc1
  go_enter Tryd.func56, Tryd.ntmps56
  go_wp2_with fail
  go_at_call 74
  refine (c1 _).mono ?_
  rintro e w1 ⟨rfl, rfl⟩
  go_wp2
  go_ret
  exact ⟨rfl, by first | rfl | trivial⟩

set_option maxRecDepth 100000 in
set_option maxHeartbeats 4000000 in
theorem rune_three0 (s : ByteArray) (hs : s.size ≤ 16777216) (k : Nat) (hk : k < s.size) (h1 : 224 ≤ s[k].toNat) (h2 : s[k].toNat < 240) (hc1 : cont s.data.toList (k + 1) = false) (w : World) :
    Calls Tryd.prog 56 #[.string s, .int .i64 (k : Int)] w fun e w' => e = .returned (.int .i64 0) ∧ w' = w := by
  have hc := s[k].toNat_lt
  have c1 := fun w => (show Calls Tryd.prog 74 #[.string s, .int .i64 ((k : Int) + 1)] w _ from refCont_any s hs (k + 1) w)
  rw [hc1] at c1
  clear hc1
  go_enter Tryd.func56, Tryd.ntmps56
  go_wp2_with fail
  go_at_call 74
  refine (c1 _).mono ?_
  rintro e w1 ⟨rfl, rfl⟩
  go_wp2
  go_ret
  exact ⟨rfl, by first | rfl | trivial⟩

set_option maxRecDepth 100000 in
set_option maxHeartbeats 4000000 in
theorem rune_three1 (s : ByteArray) (hs : s.size ≤ 16777216) (k : Nat) (hk : k < s.size) (h1 : 224 ≤ s[k].toNat) (h2 : s[k].toNat < 240) (hc1 : cont s.data.toList (k + 1) = true) (hc2 : cont s.data.toList (k + 2) = false) (w : World) :
    Calls Tryd.prog 56 #[.string s, .int .i64 (k : Int)] w fun e w' => e = .returned (.int .i64 0) ∧ w' = w := by
  have hc := s[k].toNat_lt
  have c1 := fun w => (show Calls Tryd.prog 74 #[.string s, .int .i64 ((k : Int) + 1)] w _ from refCont_any s hs (k + 1) w)
  rw [hc1] at c1
  clear hc1
  have c2 := fun w => (show Calls Tryd.prog 74 #[.string s, .int .i64 ((k : Int) + 2)] w _ from refCont_any s hs (k + 2) w)
  rw [hc2] at c2
  clear hc2
  go_enter Tryd.func56, Tryd.ntmps56
  go_wp2_with fail
  go_at_call 74
  refine (c1 _).mono ?_
  rintro e w1 ⟨rfl, rfl⟩
  go_wp2_with fail
  go_at_call 74
  refine (c2 _).mono ?_
  rintro e w2 ⟨rfl, rfl⟩
  go_wp2
  go_ret
  exact ⟨rfl, by first | rfl | trivial⟩

set_option maxRecDepth 100000 in
set_option maxHeartbeats 4000000 in
theorem rune_three224 (s : ByteArray) (hs : s.size ≤ 16777216) (k : Nat) (hk : k < s.size) (h1 : s[k].toNat = 224) (hk1 : k + 1 < s.size) (h2 : s[k + 1].toNat < 160) (hc1 : cont s.data.toList (k + 1) = true) (hc2 : cont s.data.toList (k + 2) = true) (w : World) :
    Calls Tryd.prog 56 #[.string s, .int .i64 (k : Int)] w fun e w' => e = .returned (.int .i64 0) ∧ w' = w := by
  have hc := s[k].toNat_lt
  have hi : (k : Int) + 1 < (s.size : Int) := by omega
  have b1 : ((s[k].toNat : Int) == 224) = true := by rw [beq_iff_eq]; omega
  have g1 : 224 ≤ s[k].toNat := by omega
  have g2 : s[k].toNat < 240 := by omega
  clear h1
  have b3 : decide ((s[k + 1].toNat : Int) < 160) = true := by simp; omega
  have c1 := fun w => (show Calls Tryd.prog 74 #[.string s, .int .i64 ((k : Int) + 1)] w _ from refCont_any s hs (k + 1) w)
  rw [hc1] at c1
  clear hc1
  have c2 := fun w => (show Calls Tryd.prog 74 #[.string s, .int .i64 ((k : Int) + 2)] w _ from refCont_any s hs (k + 2) w)
  rw [hc2] at c2
  clear hc2
  go_enter Tryd.func56, Tryd.ntmps56
  go_wp2_with fail
  go_at_call 74
  refine (c1 _).mono ?_
  rintro e w1 ⟨rfl, rfl⟩
  go_wp2_with fail
  go_at_call 74
  refine (c2 _).mono ?_
  rintro e w2 ⟨rfl, rfl⟩
  go_wp2
  go_ret
  exact ⟨rfl, by first | rfl | trivial⟩

set_option maxRecDepth 100000 in
set_option maxHeartbeats 4000000 in
theorem rune_three224y (s : ByteArray) (hs : s.size ≤ 16777216) (k : Nat) (hk : k < s.size) (h1 : s[k].toNat = 224) (hk1 : k + 1 < s.size) (h2 : ¬ s[k + 1].toNat < 160) (hc1 : cont s.data.toList (k + 1) = true) (hc2 : cont s.data.toList (k + 2) = true) (w : World) :
    Calls Tryd.prog 56 #[.string s, .int .i64 (k : Int)] w fun e w' => e = .returned (.int .i64 3) ∧ w' = w := by
  have hc := s[k].toNat_lt
  have hi : (k : Int) + 1 < (s.size : Int) := by omega
  have b1 : ((s[k].toNat : Int) == 224) = true := by rw [beq_iff_eq]; omega
  have b2 : ((s[k].toNat : Int) == 237) = false := by rw [beq_eq_false_iff_ne]; omega
  have g1 : 224 ≤ s[k].toNat := by omega
  have g2 : s[k].toNat < 240 := by omega
  clear h1
  have b3 : decide ((s[k + 1].toNat : Int) < 160) = false := by simp; omega
  have c1 := fun w => (show Calls Tryd.prog 74 #[.string s, .int .i64 ((k : Int) + 1)] w _ from refCont_any s hs (k + 1) w)
  rw [hc1] at c1
  clear hc1
  have c2 := fun w => (show Calls Tryd.prog 74 #[.string s, .int .i64 ((k : Int) + 2)] w _ from refCont_any s hs (k + 2) w)
  rw [hc2] at c2
  clear hc2
  go_enter Tryd.func56, Tryd.ntmps56
  go_wp2_with fail
  go_at_call 74
  refine (c1 _).mono ?_
  rintro e w1 ⟨rfl, rfl⟩
  go_wp2_with fail
  go_at_call 74
  refine (c2 _).mono ?_
  rintro e w2 ⟨rfl, rfl⟩
  go_wp2
  go_ret
  exact ⟨rfl, by first | rfl | trivial⟩

set_option maxRecDepth 100000 in
set_option maxHeartbeats 4000000 in
theorem rune_three237 (s : ByteArray) (hs : s.size ≤ 16777216) (k : Nat) (hk : k < s.size) (h1 : s[k].toNat = 237) (hk1 : k + 1 < s.size) (h2 : 160 ≤ s[k + 1].toNat) (hc1 : cont s.data.toList (k + 1) = true) (hc2 : cont s.data.toList (k + 2) = true) (w : World) :
    Calls Tryd.prog 56 #[.string s, .int .i64 (k : Int)] w fun e w' => e = .returned (.int .i64 0) ∧ w' = w := by
  have hc := s[k].toNat_lt
  have hi : (k : Int) + 1 < (s.size : Int) := by omega
  have b1 : ((s[k].toNat : Int) == 224) = false := by rw [beq_eq_false_iff_ne]; omega
  have b2 : ((s[k].toNat : Int) == 237) = true := by rw [beq_iff_eq]; omega
  have g1 : 224 ≤ s[k].toNat := by omega
  have g2 : s[k].toNat < 240 := by omega
  clear h1
  have b3 : decide ((160 : Int) ≤ (s[k + 1].toNat : Int)) = true := by simp; omega
  have c1 := fun w => (show Calls Tryd.prog 74 #[.string s, .int .i64 ((k : Int) + 1)] w _ from refCont_any s hs (k + 1) w)
  rw [hc1] at c1
  clear hc1
  have c2 := fun w => (show Calls Tryd.prog 74 #[.string s, .int .i64 ((k : Int) + 2)] w _ from refCont_any s hs (k + 2) w)
  rw [hc2] at c2
  clear hc2
  go_enter Tryd.func56, Tryd.ntmps56
  go_wp2_with fail
  go_at_call 74
  refine (c1 _).mono ?_
  rintro e w1 ⟨rfl, rfl⟩
  go_wp2_with fail
  go_at_call 74
  refine (c2 _).mono ?_
  rintro e w2 ⟨rfl, rfl⟩
  go_wp2
  go_ret
  exact ⟨rfl, by first | rfl | trivial⟩

set_option maxRecDepth 100000 in
set_option maxHeartbeats 4000000 in
theorem rune_three237y (s : ByteArray) (hs : s.size ≤ 16777216) (k : Nat) (hk : k < s.size) (h1 : s[k].toNat = 237) (hk1 : k + 1 < s.size) (h2 : ¬ 160 ≤ s[k + 1].toNat) (hc1 : cont s.data.toList (k + 1) = true) (hc2 : cont s.data.toList (k + 2) = true) (w : World) :
    Calls Tryd.prog 56 #[.string s, .int .i64 (k : Int)] w fun e w' => e = .returned (.int .i64 3) ∧ w' = w := by
  have hc := s[k].toNat_lt
  have hi : (k : Int) + 1 < (s.size : Int) := by omega
  have b1 : ((s[k].toNat : Int) == 224) = false := by rw [beq_eq_false_iff_ne]; omega
  have b2 : ((s[k].toNat : Int) == 237) = true := by rw [beq_iff_eq]; omega
  have g1 : 224 ≤ s[k].toNat := by omega
  have g2 : s[k].toNat < 240 := by omega
  clear h1
  have b3 : decide ((160 : Int) ≤ (s[k + 1].toNat : Int)) = false := by simp; omega
  have c1 := fun w => (show Calls Tryd.prog 74 #[.string s, .int .i64 ((k : Int) + 1)] w _ from refCont_any s hs (k + 1) w)
  rw [hc1] at c1
  clear hc1
  have c2 := fun w => (show Calls Tryd.prog 74 #[.string s, .int .i64 ((k : Int) + 2)] w _ from refCont_any s hs (k + 2) w)
  rw [hc2] at c2
  clear hc2
  go_enter Tryd.func56, Tryd.ntmps56
  go_wp2_with fail
  go_at_call 74
  refine (c1 _).mono ?_
  rintro e w1 ⟨rfl, rfl⟩
  go_wp2_with fail
  go_at_call 74
  refine (c2 _).mono ?_
  rintro e w2 ⟨rfl, rfl⟩
  go_wp2
  go_ret
  exact ⟨rfl, by first | rfl | trivial⟩

set_option maxRecDepth 100000 in
set_option maxHeartbeats 4000000 in
theorem rune_three (s : ByteArray) (hs : s.size ≤ 16777216) (k : Nat) (hk : k < s.size) (h1 : 224 ≤ s[k].toNat) (h2 : s[k].toNat < 240) (n1 : s[k].toNat ≠ 224) (n2 : s[k].toNat ≠ 237) (hc1 : cont s.data.toList (k + 1) = true) (hc2 : cont s.data.toList (k + 2) = true) (w : World) :
    Calls Tryd.prog 56 #[.string s, .int .i64 (k : Int)] w fun e w' => e = .returned (.int .i64 3) ∧ w' = w := by
  have hc := s[k].toNat_lt
  have b1 : ((s[k].toNat : Int) == 224) = false := by rw [beq_eq_false_iff_ne]; omega
  have b2 : ((s[k].toNat : Int) == 237) = false := by rw [beq_eq_false_iff_ne]; omega
  clear n1 n2
  have c1 := fun w => (show Calls Tryd.prog 74 #[.string s, .int .i64 ((k : Int) + 1)] w _ from refCont_any s hs (k + 1) w)
  rw [hc1] at c1
  clear hc1
  have c2 := fun w => (show Calls Tryd.prog 74 #[.string s, .int .i64 ((k : Int) + 2)] w _ from refCont_any s hs (k + 2) w)
  rw [hc2] at c2
  clear hc2
  go_enter Tryd.func56, Tryd.ntmps56
  go_wp2_with fail
  go_at_call 74
  refine (c1 _).mono ?_
  rintro e w1 ⟨rfl, rfl⟩
  go_wp2_with fail
  go_at_call 74
  refine (c2 _).mono ?_
  rintro e w2 ⟨rfl, rfl⟩
  go_wp2
  go_ret
  exact ⟨rfl, by first | rfl | trivial⟩

set_option maxRecDepth 100000 in
set_option maxHeartbeats 4000000 in
theorem rune_four0 (s : ByteArray) (hs : s.size ≤ 16777216) (k : Nat) (hk : k < s.size) (h1 : 240 ≤ s[k].toNat) (h2 : s[k].toNat < 245) (hc1 : cont s.data.toList (k + 1) = false) (w : World) :
    Calls Tryd.prog 56 #[.string s, .int .i64 (k : Int)] w fun e w' => e = .returned (.int .i64 0) ∧ w' = w := by
  have hc := s[k].toNat_lt
  have c1 := fun w => (show Calls Tryd.prog 74 #[.string s, .int .i64 ((k : Int) + 1)] w _ from refCont_any s hs (k + 1) w)
  rw [hc1] at c1
  clear hc1
  go_enter Tryd.func56, Tryd.ntmps56
  go_wp2_with fail
  go_at_call 74
  refine (c1 _).mono ?_
  rintro e w1 ⟨rfl, rfl⟩
  go_wp2
  go_ret
  exact ⟨rfl, by first | rfl | trivial⟩

set_option maxRecDepth 100000 in
set_option maxHeartbeats 4000000 in
theorem rune_four1 (s : ByteArray) (hs : s.size ≤ 16777216) (k : Nat) (hk : k < s.size) (h1 : 240 ≤ s[k].toNat) (h2 : s[k].toNat < 245) (hc1 : cont s.data.toList (k + 1) = true) (hc2 : cont s.data.toList (k + 2) = false) (w : World) :
    Calls Tryd.prog 56 #[.string s, .int .i64 (k : Int)] w fun e w' => e = .returned (.int .i64 0) ∧ w' = w := by
  have hc := s[k].toNat_lt
  have c1 := fun w => (show Calls Tryd.prog 74 #[.string s, .int .i64 ((k : Int) + 1)] w _ from refCont_any s hs (k + 1) w)
  rw [hc1] at c1
  clear hc1
  have c2 := fun w => (show Calls Tryd.prog 74 #[.string s, .int .i64 ((k : Int) + 2)] w _ from refCont_any s hs (k + 2) w)
  rw [hc2] at c2
  clear hc2
  go_enter Tryd.func56, Tryd.ntmps56
  go_wp2_with fail
  go_at_call 74
  refine (c1 _).mono ?_
  rintro e w1 ⟨rfl, rfl⟩
  go_wp2_with fail
  go_at_call 74
  refine (c2 _).mono ?_
  rintro e w2 ⟨rfl, rfl⟩
  go_wp2
  go_ret
  exact ⟨rfl, by first | rfl | trivial⟩

set_option maxRecDepth 100000 in
set_option maxHeartbeats 4000000 in
theorem rune_four2 (s : ByteArray) (hs : s.size ≤ 16777216) (k : Nat) (hk : k < s.size) (h1 : 240 ≤ s[k].toNat) (h2 : s[k].toNat < 245) (hc1 : cont s.data.toList (k + 1) = true) (hc2 : cont s.data.toList (k + 2) = true) (hc3 : cont s.data.toList (k + 3) = false) (w : World) :
    Calls Tryd.prog 56 #[.string s, .int .i64 (k : Int)] w fun e w' => e = .returned (.int .i64 0) ∧ w' = w := by
  have hc := s[k].toNat_lt
  have c1 := fun w => (show Calls Tryd.prog 74 #[.string s, .int .i64 ((k : Int) + 1)] w _ from refCont_any s hs (k + 1) w)
  rw [hc1] at c1
  clear hc1
  have c2 := fun w => (show Calls Tryd.prog 74 #[.string s, .int .i64 ((k : Int) + 2)] w _ from refCont_any s hs (k + 2) w)
  rw [hc2] at c2
  clear hc2
  have c3 := fun w => (show Calls Tryd.prog 74 #[.string s, .int .i64 ((k : Int) + 3)] w _ from refCont_any s hs (k + 3) w)
  rw [hc3] at c3
  clear hc3
  go_enter Tryd.func56, Tryd.ntmps56
  go_wp2_with fail
  go_at_call 74
  refine (c1 _).mono ?_
  rintro e w1 ⟨rfl, rfl⟩
  go_wp2_with fail
  go_at_call 74
  refine (c2 _).mono ?_
  rintro e w2 ⟨rfl, rfl⟩
  go_wp2_with fail
  go_at_call 74
  refine (c3 _).mono ?_
  rintro e w3 ⟨rfl, rfl⟩
  go_wp2
  go_ret
  exact ⟨rfl, by first | rfl | trivial⟩

set_option maxRecDepth 100000 in
set_option maxHeartbeats 4000000 in
theorem rune_four240 (s : ByteArray) (hs : s.size ≤ 16777216) (k : Nat) (hk : k < s.size) (h1 : s[k].toNat = 240) (hk1 : k + 1 < s.size) (h2 : s[k + 1].toNat < 144) (hc1 : cont s.data.toList (k + 1) = true) (hc2 : cont s.data.toList (k + 2) = true) (hc3 : cont s.data.toList (k + 3) = true) (w : World) :
    Calls Tryd.prog 56 #[.string s, .int .i64 (k : Int)] w fun e w' => e = .returned (.int .i64 0) ∧ w' = w := by
  have hc := s[k].toNat_lt
  have hi : (k : Int) + 1 < (s.size : Int) := by omega
  have b1 : ((s[k].toNat : Int) == 240) = true := by rw [beq_iff_eq]; omega
  have b2 : ((s[k].toNat : Int) == 244) = false := by rw [beq_eq_false_iff_ne]; omega
  have g1 : 240 ≤ s[k].toNat := by omega
  have g2 : s[k].toNat < 245 := by omega
  clear h1
  have b3 : decide ((s[k + 1].toNat : Int) < 144) = true := by simp; omega
  have c1 := fun w => (show Calls Tryd.prog 74 #[.string s, .int .i64 ((k : Int) + 1)] w _ from refCont_any s hs (k + 1) w)
  rw [hc1] at c1
  clear hc1
  have c2 := fun w => (show Calls Tryd.prog 74 #[.string s, .int .i64 ((k : Int) + 2)] w _ from refCont_any s hs (k + 2) w)
  rw [hc2] at c2
  clear hc2
  have c3 := fun w => (show Calls Tryd.prog 74 #[.string s, .int .i64 ((k : Int) + 3)] w _ from refCont_any s hs (k + 3) w)
  rw [hc3] at c3
  clear hc3
  go_enter Tryd.func56, Tryd.ntmps56
  go_wp2_with fail
  go_at_call 74
  refine (c1 _).mono ?_
  rintro e w1 ⟨rfl, rfl⟩
  go_wp2_with fail
  go_at_call 74
  refine (c2 _).mono ?_
  rintro e w2 ⟨rfl, rfl⟩
  go_wp2_with fail
  go_at_call 74
  refine (c3 _).mono ?_
  rintro e w3 ⟨rfl, rfl⟩
  go_wp2
  go_ret
  exact ⟨rfl, by first | rfl | trivial⟩

set_option maxRecDepth 100000 in
set_option maxHeartbeats 4000000 in
theorem rune_four240y (s : ByteArray) (hs : s.size ≤ 16777216) (k : Nat) (hk : k < s.size) (h1 : s[k].toNat = 240) (hk1 : k + 1 < s.size) (h2 : ¬ s[k + 1].toNat < 144) (hc1 : cont s.data.toList (k + 1) = true) (hc2 : cont s.data.toList (k + 2) = true) (hc3 : cont s.data.toList (k + 3) = true) (w : World) :
    Calls Tryd.prog 56 #[.string s, .int .i64 (k : Int)] w fun e w' => e = .returned (.int .i64 4) ∧ w' = w := by
  have hc := s[k].toNat_lt
  have hi : (k : Int) + 1 < (s.size : Int) := by omega
  have b1 : ((s[k].toNat : Int) == 240) = true := by rw [beq_iff_eq]; omega
  have b2 : ((s[k].toNat : Int) == 244) = false := by rw [beq_eq_false_iff_ne]; omega
  have g1 : 240 ≤ s[k].toNat := by omega
  have g2 : s[k].toNat < 245 := by omega
  clear h1
  have b3 : decide ((s[k + 1].toNat : Int) < 144) = false := by simp; omega
  have c1 := fun w => (show Calls Tryd.prog 74 #[.string s, .int .i64 ((k : Int) + 1)] w _ from refCont_any s hs (k + 1) w)
  rw [hc1] at c1
  clear hc1
  have c2 := fun w => (show Calls Tryd.prog 74 #[.string s, .int .i64 ((k : Int) + 2)] w _ from refCont_any s hs (k + 2) w)
  rw [hc2] at c2
  clear hc2
  have c3 := fun w => (show Calls Tryd.prog 74 #[.string s, .int .i64 ((k : Int) + 3)] w _ from refCont_any s hs (k + 3) w)
  rw [hc3] at c3
  clear hc3
  go_enter Tryd.func56, Tryd.ntmps56
  go_wp2_with fail
  go_at_call 74
  refine (c1 _).mono ?_
  rintro e w1 ⟨rfl, rfl⟩
  go_wp2_with fail
  go_at_call 74
  refine (c2 _).mono ?_
  rintro e w2 ⟨rfl, rfl⟩
  go_wp2_with fail
  go_at_call 74
  refine (c3 _).mono ?_
  rintro e w3 ⟨rfl, rfl⟩
  go_wp2
  go_ret
  exact ⟨rfl, by first | rfl | trivial⟩

set_option maxRecDepth 100000 in
set_option maxHeartbeats 4000000 in
theorem rune_four244 (s : ByteArray) (hs : s.size ≤ 16777216) (k : Nat) (hk : k < s.size) (h1 : s[k].toNat = 244) (hk1 : k + 1 < s.size) (h2 : 144 ≤ s[k + 1].toNat) (hc1 : cont s.data.toList (k + 1) = true) (hc2 : cont s.data.toList (k + 2) = true) (hc3 : cont s.data.toList (k + 3) = true) (w : World) :
    Calls Tryd.prog 56 #[.string s, .int .i64 (k : Int)] w fun e w' => e = .returned (.int .i64 0) ∧ w' = w := by
  have hc := s[k].toNat_lt
  have hi : (k : Int) + 1 < (s.size : Int) := by omega
  have b1 : ((s[k].toNat : Int) == 244) = true := by rw [beq_iff_eq]; omega
  have b2 : ((s[k].toNat : Int) == 240) = false := by rw [beq_eq_false_iff_ne]; omega
  have g1 : 240 ≤ s[k].toNat := by omega
  have g2 : s[k].toNat < 245 := by omega
  clear h1
  have b3 : decide ((144 : Int) ≤ (s[k + 1].toNat : Int)) = true := by simp; omega
  have c1 := fun w => (show Calls Tryd.prog 74 #[.string s, .int .i64 ((k : Int) + 1)] w _ from refCont_any s hs (k + 1) w)
  rw [hc1] at c1
  clear hc1
  have c2 := fun w => (show Calls Tryd.prog 74 #[.string s, .int .i64 ((k : Int) + 2)] w _ from refCont_any s hs (k + 2) w)
  rw [hc2] at c2
  clear hc2
  have c3 := fun w => (show Calls Tryd.prog 74 #[.string s, .int .i64 ((k : Int) + 3)] w _ from refCont_any s hs (k + 3) w)
  rw [hc3] at c3
  clear hc3
  go_enter Tryd.func56, Tryd.ntmps56
  go_wp2_with fail
  go_at_call 74
  refine (c1 _).mono ?_
  rintro e w1 ⟨rfl, rfl⟩
  go_wp2_with fail
  go_at_call 74
  refine (c2 _).mono ?_
  rintro e w2 ⟨rfl, rfl⟩
  go_wp2_with fail
  go_at_call 74
  refine (c3 _).mono ?_
  rintro e w3 ⟨rfl, rfl⟩
  go_wp2
  go_ret
  exact ⟨rfl, by first | rfl | trivial⟩

set_option maxRecDepth 100000 in
set_option maxHeartbeats 4000000 in
theorem rune_four244y (s : ByteArray) (hs : s.size ≤ 16777216) (k : Nat) (hk : k < s.size) (h1 : s[k].toNat = 244) (hk1 : k + 1 < s.size) (h2 : ¬ 144 ≤ s[k + 1].toNat) (hc1 : cont s.data.toList (k + 1) = true) (hc2 : cont s.data.toList (k + 2) = true) (hc3 : cont s.data.toList (k + 3) = true) (w : World) :
    Calls Tryd.prog 56 #[.string s, .int .i64 (k : Int)] w fun e w' => e = .returned (.int .i64 4) ∧ w' = w := by
  have hc := s[k].toNat_lt
  have hi : (k : Int) + 1 < (s.size : Int) := by omega
  have b1 : ((s[k].toNat : Int) == 244) = true := by rw [beq_iff_eq]; omega
  have b2 : ((s[k].toNat : Int) == 240) = false := by rw [beq_eq_false_iff_ne]; omega
  have g1 : 240 ≤ s[k].toNat := by omega
  have g2 : s[k].toNat < 245 := by omega
  clear h1
  have b3 : decide ((144 : Int) ≤ (s[k + 1].toNat : Int)) = false := by simp; omega
  have c1 := fun w => (show Calls Tryd.prog 74 #[.string s, .int .i64 ((k : Int) + 1)] w _ from refCont_any s hs (k + 1) w)
  rw [hc1] at c1
  clear hc1
  have c2 := fun w => (show Calls Tryd.prog 74 #[.string s, .int .i64 ((k : Int) + 2)] w _ from refCont_any s hs (k + 2) w)
  rw [hc2] at c2
  clear hc2
  have c3 := fun w => (show Calls Tryd.prog 74 #[.string s, .int .i64 ((k : Int) + 3)] w _ from refCont_any s hs (k + 3) w)
  rw [hc3] at c3
  clear hc3
  go_enter Tryd.func56, Tryd.ntmps56
  go_wp2_with fail
  go_at_call 74
  refine (c1 _).mono ?_
  rintro e w1 ⟨rfl, rfl⟩
  go_wp2_with fail
  go_at_call 74
  refine (c2 _).mono ?_
  rintro e w2 ⟨rfl, rfl⟩
  go_wp2_with fail
  go_at_call 74
  refine (c3 _).mono ?_
  rintro e w3 ⟨rfl, rfl⟩
  go_wp2
  go_ret
  exact ⟨rfl, by first | rfl | trivial⟩

set_option maxRecDepth 100000 in
set_option maxHeartbeats 4000000 in
theorem rune_four (s : ByteArray) (hs : s.size ≤ 16777216) (k : Nat) (hk : k < s.size) (h1 : 240 ≤ s[k].toNat) (h2 : s[k].toNat < 245) (n1 : s[k].toNat ≠ 240) (n2 : s[k].toNat ≠ 244) (hc1 : cont s.data.toList (k + 1) = true) (hc2 : cont s.data.toList (k + 2) = true) (hc3 : cont s.data.toList (k + 3) = true) (w : World) :
    Calls Tryd.prog 56 #[.string s, .int .i64 (k : Int)] w fun e w' => e = .returned (.int .i64 4) ∧ w' = w := by
  have hc := s[k].toNat_lt
  have b1 : ((s[k].toNat : Int) == 240) = false := by rw [beq_eq_false_iff_ne]; omega
  have b2 : ((s[k].toNat : Int) == 244) = false := by rw [beq_eq_false_iff_ne]; omega
  clear n1 n2
  have c1 := fun w => (show Calls Tryd.prog 74 #[.string s, .int .i64 ((k : Int) + 1)] w _ from refCont_any s hs (k + 1) w)
  rw [hc1] at c1
  clear hc1
  have c2 := fun w => (show Calls Tryd.prog 74 #[.string s, .int .i64 ((k : Int) + 2)] w _ from refCont_any s hs (k + 2) w)
  rw [hc2] at c2
  clear hc2
  have c3 := fun w => (show Calls Tryd.prog 74 #[.string s, .int .i64 ((k : Int) + 3)] w _ from refCont_any s hs (k + 3) w)
  rw [hc3] at c3
  clear hc3
  go_enter Tryd.func56, Tryd.ntmps56
  go_wp2_with fail
  go_at_call 74
  refine (c1 _).mono ?_
  rintro e w1 ⟨rfl, rfl⟩
  go_wp2_with fail
  go_at_call 74
  refine (c2 _).mono ?_
  rintro e w2 ⟨rfl, rfl⟩
  go_wp2_with fail
  go_at_call 74
  refine (c3 _).mono ?_
  rintro e w3 ⟨rfl, rfl⟩
  go_wp2
  go_ret
  exact ⟨rfl, by first | rfl | trivial⟩

set_option maxRecDepth 100000 in
set_option maxHeartbeats 4000000 in
theorem rune_low (s : ByteArray) (_hs : s.size ≤ 16777216) (k : Nat) (hk : k < s.size) (h1 : 128 ≤ s[k].toNat) (h2 : s[k].toNat < 194) (w : World) :
    Calls Tryd.prog 56 #[.string s, .int .i64 (k : Int)] w fun e w' => e = .returned (.int .i64 0) ∧ w' = w := by
  have hc := s[k].toNat_lt

  go_enter Tryd.func56, Tryd.ntmps56
  go_wp2
  go_ret
  exact ⟨rfl, by first | rfl | trivial⟩

set_option maxRecDepth 100000 in
set_option maxHeartbeats 4000000 in
theorem rune_high (s : ByteArray) (_hs : s.size ≤ 16777216) (k : Nat) (hk : k < s.size) (h1 : 245 ≤ s[k].toNat) (w : World) :
    Calls Tryd.prog 56 #[.string s, .int .i64 (k : Int)] w fun e w' => e = .returned (.int .i64 0) ∧ w' = w := by
  have hc := s[k].toNat_lt

  go_enter Tryd.func56, Tryd.ntmps56
  go_wp2
  go_ret
  exact ⟨rfl, by first | rfl | trivial⟩

theorem refRune_any (s : ByteArray) (hs : s.size ≤ 16777216) (k : Nat) (hk : k < s.size) (w : World) :
    Calls Tryd.prog 56 #[.string s, .int .i64 (k : Int)] w fun e w' => e = .returned (.int .i64 (runeL (s.data.toList.drop k) : Nat)) ∧ w' = w := by
  have hlen := bsize s
  have e0 : byt (s.data.toList.drop k) 0 = s[k].toNat := by rw [byt_drop, Nat.add_zero, bytB hk]
  have e1 : ∀ h : k + 1 < s.size, byt (s.data.toList.drop k) 1 = s[k + 1].toNat := fun h => by rw [byt_drop, bytB h]
  have lt1 : cont s.data.toList (k + 1) = true → k + 1 < s.size := fun h => by have := cont_len h; omega
  unfold runeL
  rw [e0, cont_drop, cont_drop, cont_drop]
  by_cases h1 : s[k].toNat < 128
  · rw [if_pos h1]; exact rune_one s hs k hk h1 w
  · rw [if_neg h1]
    by_cases h2 : 194 ≤ s[k].toNat ∧ s[k].toNat < 224
    · rw [if_pos h2]
      cases hc1 : cont s.data.toList (k + 1)
      · exact rune_two0 s hs k hk h2.1 h2.2 hc1 w
      · exact rune_two s hs k hk h2.1 h2.2 hc1 w
    · rw [if_neg h2]
      by_cases h3 : 224 ≤ s[k].toNat ∧ s[k].toNat < 240
      · rw [if_pos h3]
        cases hc1 : cont s.data.toList (k + 1)
        · rw [if_neg (by simp)]; exact rune_three0 s hs k hk h3.1 h3.2 hc1 w
        · cases hc2 : cont s.data.toList (k + 2)
          · rw [if_neg (by simp)]; exact rune_three1 s hs k hk h3.1 h3.2 hc1 hc2 w
          · have hk1 := lt1 hc1
            rw [e1 hk1]
            by_cases c1 : s[k].toNat = 224
            · by_cases c2 : s[k + 1].toNat < 160
              · rw [if_neg (by omega)]; exact rune_three224 s hs k hk c1 hk1 c2 hc1 hc2 w
              · rw [if_pos ⟨rfl, rfl, by omega, by omega⟩]; exact rune_three224y s hs k hk c1 hk1 c2 hc1 hc2 w
            · by_cases d1 : s[k].toNat = 237
              · by_cases c2 : 160 ≤ s[k + 1].toNat
                · rw [if_neg (by omega)]; exact rune_three237 s hs k hk d1 hk1 c2 hc1 hc2 w
                · rw [if_pos ⟨rfl, rfl, by omega, by omega⟩]; exact rune_three237y s hs k hk d1 hk1 c2 hc1 hc2 w
              · rw [if_pos ⟨rfl, rfl, by omega, by omega⟩]; exact rune_three s hs k hk h3.1 h3.2 c1 d1 hc1 hc2 w
      · rw [if_neg h3]
        by_cases h4 : 240 ≤ s[k].toNat ∧ s[k].toNat < 245
        · rw [if_pos h4]
          cases hc1 : cont s.data.toList (k + 1)
          · rw [if_neg (by simp)]; exact rune_four0 s hs k hk h4.1 h4.2 hc1 w
          · cases hc2 : cont s.data.toList (k + 2)
            · rw [if_neg (by simp)]; exact rune_four1 s hs k hk h4.1 h4.2 hc1 hc2 w
            · cases hc3 : cont s.data.toList (k + 3)
              · rw [if_neg (by simp)]; exact rune_four2 s hs k hk h4.1 h4.2 hc1 hc2 hc3 w
              · have hk1 := lt1 hc1
                rw [e1 hk1]
                by_cases c1 : s[k].toNat = 240
                · by_cases c2 : s[k + 1].toNat < 144
                  · rw [if_neg (by omega)]; exact rune_four240 s hs k hk c1 hk1 c2 hc1 hc2 hc3 w
                  · rw [if_pos ⟨rfl, rfl, rfl, by omega, by omega⟩]; exact rune_four240y s hs k hk c1 hk1 c2 hc1 hc2 hc3 w
                · by_cases d1 : s[k].toNat = 244
                  · by_cases c2 : 144 ≤ s[k + 1].toNat
                    · rw [if_neg (by omega)]; exact rune_four244 s hs k hk d1 hk1 c2 hc1 hc2 hc3 w
                    · rw [if_pos ⟨rfl, rfl, rfl, by omega, by omega⟩]; exact rune_four244y s hs k hk d1 hk1 c2 hc1 hc2 hc3 w
                  · rw [if_pos ⟨rfl, rfl, rfl, by omega, by omega⟩]; exact rune_four s hs k hk h4.1 h4.2 c1 d1 hc1 hc2 hc3 w
        · rw [if_neg h4]
          by_cases h5 : s[k].toNat < 194
          · exact rune_low s hs k hk (by omega) h5 w
          · exact rune_high s hs k hk (by omega) w

set_option maxRecDepth 100000 in
set_option maxHeartbeats 2000000 in
theorem refValid_any (s : ByteArray) (hs : s.size ≤ 16777216) (w : World) :
    Calls Tryd.prog 27 #[.string s] w fun e w' => e = .returned (.bool (vld s.data.toList)) ∧ w' = w := by
  have hlen := Lib.hid (bsize s)
  go_enter Tryd.func27, Tryd.ntmps27
  go_wp2
  go_loopw [3] (fun p wr => ∃ k : Nat, p = .int .i64 k ∧ k ≤ s.size ∧ wr = w ∧ Hid (vld s.data.toList = vld (s.data.toList.drop k))) (fun p _ => s.size - (intOf p).toNat)
  case atStart => exact ⟨0, rfl, Nat.zero_le _, rfl, Lib.hid rfl⟩
  case round =>
    obtain ⟨k, rfl, hk, rfl, HV⟩ := hrel
    by_cases hlt : k < s.size
    · have c1 := fun w => refRune_any s hs k hlt w
      have hdl : Hid ((s.data.toList.drop k).length = s.size - k) := Lib.hid (by rw [List.length_drop, ← hlen.out])
      have hrl := runeL_le (s.data.toList.drop k) (by rw [hdl.out]; omega)
      rw [hdl.out] at hrl
      obtain ⟨r, hr⟩ : ∃ r, r = runeL (s.data.toList.drop k) := ⟨_, rfl⟩
      rw [← hr] at c1 hrl
      have HR := Lib.hid hr; clear hr
      by_cases hr0 : r = 0
      · subst hr0
        have e : Hid (vld s.data.toList = false) := Lib.hid (by rw [HV.out, vld_bad (by rw [hdl.out]; omega) HR.out.symm])
        go_wp2_with (go_at_call 56; refine (c1 _).mono ?_; rintro e w' ⟨rfl, rfl⟩)
        go_ret
        exact ⟨by rw [e.out]; rfl, by first | rfl | trivial⟩
      · have HV2 : Hid (vld s.data.toList = vld (s.data.toList.drop (k + r))) := Lib.hid (by
          rw [HV.out, vld_step (by rw [hdl.out]; omega) (by rw [← HR.out]; exact hr0), ← HR.out, List.drop_drop])
        have hr1 : ((r : Int) == 0) = false := by rw [beq_eq_false_iff_ne]; omega
        go_wp2_with (go_at_call 56; refine (c1 _).mono ?_; rintro e w' ⟨rfl, rfl⟩)
        go_round
        case rel => exact ⟨k + r, by go_num, by omega, by first | rfl | trivial, HV2⟩
        case measure => simp [intOf]; omega
    · have e : Hid (vld s.data.toList = true) := Lib.hid (by
        rw [HV.out, List.drop_eq_nil_of_le (by rw [← hlen.out]; omega), vld_nil])
      go_wp2
      go_ret
      exact ⟨by rw [e.out]; rfl, by first | rfl | trivial⟩

end Go.Proofs.YtipmeooldopkmaaDoor
