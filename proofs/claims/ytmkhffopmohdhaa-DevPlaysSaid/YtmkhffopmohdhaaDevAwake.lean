/-
  Chapter 2's example: the statements' last part returns true.
-/
import Derived.Test.YtmkhffopmohdhaaDevRead
import Derived.Test.YtmkhffopmohdhaaDevRefFit
namespace Go.Proofs.Ytmkhffopmohdhaa
open Go.RowKit

theorem aw_at {a : ByteArray} : at_ (List.replicate 2 zeroB) 0 := ⟨by omega, by simp⟩
theorem aw_new : newD 2 = ⟨List.replicate 2 zeroB, [], -1, false⟩ := by
  unfold newD
  rw [if_neg (by omega)]
  rfl
theorem aw_write {a : ByteArray} (ha : a.size = 128) : writeD ⟨List.replicate 2 zeroB, [], -1, false⟩ 0 a = (⟨List.replicate 2 zeroB, [(0, a)], -1, false⟩, 0) := by
  unfold writeD
  rw [if_neg Bool.false_ne_true, if_neg (fun hh => hh ⟨aw_at (a := a), ha⟩), if_neg (by simp), if_neg (by decide)]
  rfl
theorem aw_read (a : ByteArray) : readD ⟨List.replicate 2 zeroB, [(0, a)], -1, false⟩ 0 = (a, 0) := by
  unfold readD
  rw [if_neg Bool.false_ne_true, if_pos (aw_at (a := a))]
  rfl
theorem aw_read0 : readD ⟨List.replicate 2 zeroB, [], -1, false⟩ 0 = (zeroB, 0) := by
  unfold readD
  rw [if_neg Bool.false_ne_true, if_pos (aw_at (a := zeroB))]
  rfl
theorem aw_arm : armD ⟨List.replicate 2 zeroB, [], -1, false⟩ 0 = ⟨List.replicate 2 zeroB, [], 0, false⟩ := by
  unfold armD
  rw [if_neg Bool.false_ne_true]
  rfl
theorem aw_write0 {a : ByteArray} (ha : a.size = 128) : writeD ⟨List.replicate 2 zeroB, [], 0, false⟩ 0 a = (⟨List.replicate 2 zeroB, [], 0, true⟩, 16) := by
  unfold writeD
  rw [if_neg Bool.false_ne_true, if_neg (fun hh => hh ⟨aw_at (a := a), ha⟩), if_neg (by simp), if_pos rfl]
theorem aw_read1 : readD ⟨List.replicate 2 zeroB, [], 0, true⟩ 0 = (⟨#[]⟩, 17) := by
  unfold readD
  rw [if_pos rfl]

/-- A device with this left and this dead is told. -/
def TellsL (w w' : World) (d : D) (l : Int) (b : Bool) (e : Ending) : Prop :=
  ∃ A n c A' m c', e = .returned (.agg #[.slice A n c, .slice A' m c', .int .i64 l, .bool b]) ∧ Dv w' w'.heap.size A n A' m d ∧ Below w.heap.size w w'
def TellsL2 (w w' : World) (d : D) (l : Int) (b : Bool) (x : Int) (e : Ending) : Prop :=
  ∃ A n c A' m c', e = .returned (.tuple #[.agg #[.slice A n c, .slice A' m c', .int .i64 l, .bool b], .int .i64 x]) ∧ Dv w' w'.heap.size A n A' m d ∧ Below w.heap.size w w'
theorem awC_new (w : World) : Calls Try.prog 7 #[.int .i64 2] w fun e w' => TellsL w w' ⟨List.replicate 2 zeroB, [], -1, false⟩ (-1) false e :=
  (new_any 2 w).mono fun e w' h => by rw [aw_new] at h; exact h
theorem awC_write (A A' : Option Addr) (n c m c' : Nat) (a : ByteArray) (ha : a.size = 128) (w : World) (h : Dv w w.heap.size A n A' m ⟨List.replicate 2 zeroB, [], -1, false⟩) :
    Calls Try.prog 14 #[.agg #[.slice A n c, .slice A' m c', .int .i64 (-1), .bool false], .int .i64 0, .string a] w fun e w' => TellsL2 w w' ⟨List.replicate 2 zeroB, [(0, a)], -1, false⟩ (-1) false 0 e :=
  (write_any A A' n c m c' ⟨List.replicate 2 zeroB, [], -1, false⟩ 0 a w h (by decide)).mono fun e w' h => by rw [aw_write ha] at h; exact h
theorem awC_read (A A' : Option Addr) (n c m c' : Nat) (a : ByteArray) (w : World) (h : Dv w w.heap.size A n A' m ⟨List.replicate 2 zeroB, [(0, a)], -1, false⟩) :
    Calls Try.prog 22 #[.agg #[.slice A n c, .slice A' m c', .int .i64 (-1), .bool false], .int .i64 0] w fun e w' => e = .returned (.tuple #[.string a, .int .i64 0]) ∧ Below w.heap.size w w' :=
  (read_any A A' n c m c' ⟨List.replicate 2 zeroB, [(0, a)], -1, false⟩ 0 w h).mono fun e w' h => by rw [aw_read] at h; exact h
theorem awC_crash (A A' : Option Addr) (n c m c' : Nat) (a : ByteArray) (w : World) (h : Dv w w.heap.size A n A' m ⟨List.replicate 2 zeroB, [(0, a)], -1, false⟩) :
    Calls Try.prog 18 #[.agg #[.slice A n c, .slice A' m c', .int .i64 (-1), .bool false], .slice none 0 0] w fun e w' => TellsL w w' ⟨List.replicate 2 zeroB, [], -1, false⟩ (-1) false e :=
  (crash_any A A' none n c m c' 0 0 ⟨List.replicate 2 zeroB, [(0, a)], -1, false⟩ [] w h Reads.nil (Nat.le_refl _) (by simp only [maxLen]; omega)).mono fun e w' h => h
theorem awC_read0 (A A' : Option Addr) (n c m c' : Nat) (w : World) (h : Dv w w.heap.size A n A' m ⟨List.replicate 2 zeroB, [], -1, false⟩) :
    Calls Try.prog 22 #[.agg #[.slice A n c, .slice A' m c', .int .i64 (-1), .bool false], .int .i64 0] w fun e w' => e = .returned (.tuple #[.string zeroB, .int .i64 0]) ∧ Below w.heap.size w w' :=
  (read_any A A' n c m c' ⟨List.replicate 2 zeroB, [], -1, false⟩ 0 w h).mono fun e w' h => by rw [aw_read0] at h; exact h
theorem awC_arm (A A' : Option Addr) (n c m c' : Nat) (w : World) (h : Dv w w.heap.size A n A' m ⟨List.replicate 2 zeroB, [], -1, false⟩) :
    Calls Try.prog 20 #[.agg #[.slice A n c, .slice A' m c', .int .i64 (-1), .bool false], .int .i64 0] w fun e w' => TellsL w w' ⟨List.replicate 2 zeroB, [], 0, false⟩ 0 false e :=
  (arm_any A A' n c m c' ⟨List.replicate 2 zeroB, [], -1, false⟩ 0 w h).mono fun e w' ⟨A2, c2, A2', c2', he, ho, hb⟩ => by
    rw [aw_arm] at he
    exact ⟨A2, n, c2, A2', m, c2', he, Own.dv (d := ⟨List.replicate 2 zeroB, [], 0, false⟩) ho h.hn h.hm, hb⟩
theorem awC_write0 (A A' : Option Addr) (n c m c' : Nat) (a : ByteArray) (ha : a.size = 128) (w : World) (h : Dv w w.heap.size A n A' m ⟨List.replicate 2 zeroB, [], 0, false⟩) :
    Calls Try.prog 14 #[.agg #[.slice A n c, .slice A' m c', .int .i64 0, .bool false], .int .i64 0, .string a] w fun e w' => TellsL2 w w' ⟨List.replicate 2 zeroB, [], 0, true⟩ 0 true 16 e :=
  (write_any A A' n c m c' ⟨List.replicate 2 zeroB, [], 0, false⟩ 0 a w h (by decide)).mono fun e w' h => by rw [aw_write0 ha] at h; exact h
theorem awC_read1 (A A' : Option Addr) (n c m c' : Nat) (w : World) (h : Dv w w.heap.size A n A' m ⟨List.replicate 2 zeroB, [], 0, true⟩) :
    Calls Try.prog 22 #[.agg #[.slice A n c, .slice A' m c', .int .i64 0, .bool true], .int .i64 0] w fun e w' => e = .returned (.tuple #[.string ⟨#[]⟩, .int .i64 17]) ∧ Below w.heap.size w w' :=
  (read_any A A' n c m c' ⟨List.replicate 2 zeroB, [], 0, true⟩ 0 w h).mono fun e w' h => by rw [aw_read1] at h; exact h
theorem awC_filled0 (w : World) : Calls Try.prog 13 #[.string ⟨#[]⟩] w fun e w' => e = .returned (.string zeroB) ∧ Below w.heap.size w w' :=
  (filled_any ⟨#[]⟩ w).mono fun e w' h => by rw [filledD_none] at h; exact h

set_option maxRecDepth 100000 in
set_option maxHeartbeats 4000000 in
theorem awake_any (w : World) : Calls Try.prog 12 #[] w fun e w' => e = .returned (.bool true) ∧ Below w.heap.size w w' := by
  have cf := fun W => filled_any ⟨#[97, 97, 97]⟩ W
  have ha := filledD_size ⟨#[97, 97, 97]⟩
  generalize filledD ⟨#[97, 97, 97]⟩ = a at cf ha
  have HA := Lib.hid ha; clear ha
  go_enter Try.func12, Try.ntmps12
  go_wp2_with fail
  refine (awC_new _).mono ?_
  rintro e w1 ⟨A, n, c, A', m, c', rfl, hd1, hb1⟩
  have D1 := Lib.hid hd1; have B1 := Lib.hid hb1; clear hd1 hb1
  go_wp2_with fail
  refine (cf _).mono ?_
  rintro e w2 ⟨rfl, hb2⟩
  have k2 := (B4.new w1 (.slice A n c) (.slice A' m c') (.int .i64 (-1)) (.bool false)).step hb2
  have D2 := Lib.hid ((D1.out.alloc (.cells #[.slice A n c, .slice A' m c', .int .i64 (-1), .bool false] 26)).step hb2)
  have B2 := Lib.hid (bstep (B1.out.alloc (B1.out.size) (.cells #[.slice A n c, .slice A' m c', .int .i64 (-1), .bool false] 26)) hb2)
  have K2 := Lib.hid k2
  obtain ⟨x0, x1, x2, x3, xf⟩ := k2.cells
  clear k2 hb2 D1 B1 cf
  go_wp2_with fail
  refine (awC_write A A' n c m c' a HA.out _ D2.out).mono ?_
  rintro e w3 ⟨A3, n3, c3, A3', m3, c3', rfl, hd3, hb3⟩
  have K3 := Lib.hid (K2.out.step hb3)
  have D3 := Lib.hid (And.intro (D2.out.step hb3) hd3)
  have B3 := Lib.hid (bstep B2.out hb3)
  clear x0 x1 x2 x3 xf hd3 hb3 K2 D2 B2
  go_wp2_with fail
  refine (awC_read A3 A3' n3 c3 m3 c3' a _ (D3.out.2.alloc _)).mono ?_
  rintro e w4 ⟨rfl, hb4⟩
  have k4 := (B4.new w3 (.slice A3 n3 c3) (.slice A3' m3 c3') (.int .i64 (-1)) (.bool false)).step hb4
  have K4 := Lib.hid (And.intro ((K3.out.alloc (.cells #[.slice A3 n3 c3, .slice A3' m3 c3', .int .i64 (-1), .bool false] 26)).step hb4) k4)
  have D4 := Lib.hid (And.intro ((D3.out.1.alloc (.cells #[.slice A3 n3 c3, .slice A3' m3 c3', .int .i64 (-1), .bool false] 26)).step hb4) ((D3.out.2.alloc (.cells #[.slice A3 n3 c3, .slice A3' m3 c3', .int .i64 (-1), .bool false] 26)).step hb4))
  have B4' := Lib.hid (bstep (B3.out.alloc (B3.out.size) (.cells #[.slice A3 n3 c3, .slice A3' m3 c3', .int .i64 (-1), .bool false] 26)) hb4)
  obtain ⟨x0, x1, x2, x3, xf⟩ := k4.cells
  clear k4 hb4 D3 B3 K3
  go_wp2_with fail
  refine (awC_crash A3 A3' n3 c3 m3 c3' a _ D4.out.2).mono ?_
  rintro e w5 ⟨A5, n5, c5, A5', m5, c5', rfl, hd5, hb5⟩
  have K5 := Lib.hid (K4.out.1.step hb5)
  have D5 := Lib.hid (And.intro (D4.out.1.step hb5) hd5)
  have B5 := Lib.hid (bstep B4'.out hb5)
  clear x0 x1 x2 x3 xf hd5 hb5 K4 D4 B4'
  go_wp2_with fail
  refine (awC_read0 A5 A5' n5 c5 m5 c5' _ (D5.out.2.alloc _)).mono ?_
  rintro e w6 ⟨rfl, hb6⟩
  have k6 := (K5.out.alloc (.cells #[.slice A5 n5 c5, .slice A5' m5 c5', .int .i64 (-1), .bool false] 26)).step hb6
  have D6 := Lib.hid ((D5.out.1.alloc (.cells #[.slice A5 n5 c5, .slice A5' m5 c5', .int .i64 (-1), .bool false] 26)).step hb6)
  have B6 := Lib.hid (bstep (B5.out.alloc (B5.out.size) (.cells #[.slice A5 n5 c5, .slice A5' m5 c5', .int .i64 (-1), .bool false] 26)) hb6)
  obtain ⟨x0, x1, x2, x3, xf⟩ := k6.cells
  clear k6 hb6 D5 B5 K5
  go_wp2_with fail
  refine (awC_arm A A' n c m c' _ D6.out).mono ?_
  rintro e w7 ⟨A7, n7, c7, A7', m7, c7', rfl, hd7, hb7⟩
  have D7 := Lib.hid hd7
  have B7 := Lib.hid (bstep B6.out hb7)
  clear x0 x1 x2 x3 xf hd7 hb7 D6 B6
  go_wp2_with fail
  refine (awC_write0 A7 A7' n7 c7 m7 c7' a HA.out _ D7.out).mono ?_
  rintro e w8 ⟨A8, n8, c8, A8', m8, c8', rfl, hd8, hb8⟩
  have D8 := Lib.hid hd8
  have B8 := Lib.hid (bstep B7.out hb8)
  clear hd8 hb8 D7 B7
  go_wp2_with fail
  refine (awC_read1 A8 A8' n8 c8 m8 c8' _ (D8.out.alloc _)).mono ?_
  rintro e w9 ⟨rfl, hb9⟩
  have B9 := Lib.hid (bstep (B8.out.alloc (B8.out.size) (.cells #[.slice A8 n8 c8, .slice A8' m8 c8', .int .i64 0, .bool true] 26)) hb9)
  clear hb9 D8 B8
  have ht : (a.toList == a.toList) = true := by simp
  have hz : (zeroB.toList == zeroB.toList) = true := by simp
  go_wp2_with (go_at_call 13; refine (awC_filled0 _).mono ?_; rintro e w10 ⟨rfl, hb10⟩)
  go_ret
  exact ⟨rfl, bstep B9.out hb10⟩

end Go.Proofs.Ytmkhffopmohdhaa
