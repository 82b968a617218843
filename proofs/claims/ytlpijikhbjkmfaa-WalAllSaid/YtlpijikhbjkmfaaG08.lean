/-
  More of the small functions on a device: which writes can be, the document's operation spent, Arm, Same, a block of zeros.
-/
import Derived.Test.YtlpijikhbjkmfaaG04
import Derived.Deep.RegionHeld3
namespace Go.Proofs.Ytlpijikhbjkmfaa
open Go.RowKit

set_option maxRecDepth 100000 in
set_option maxHeartbeats 1000000 in
theorem takes_any (A A' : Option Addr) (n c m c' : Nat) (l : Int) (b : Bool) (i : Int) (s : ByteArray) (w : World) :
    Calls Try.prog 89 #[.agg #[.slice A n c, .slice A' m c', .int .i64 l, .bool b], .int .i64 i, .string s] w fun e w' => e = .returned (.bool (decide ((0 ≤ i ∧ i < (n : Int)) ∧ s.size = 128))) ∧ Below w.heap.size w w' := by
  have c1 := fun W => isBlock_any A A' n c m c' l b i W
  by_cases h0 : 0 ≤ i ∧ i < (n : Int)
  · rw [decide_eq_true h0] at c1
    by_cases h1 : s.size = 128
    · have E := Lib.hid (decide_eq_true (And.intro h0 h1))
      have ht : ((s.size : Int) == 128) = true := by simp [h1]
      clear h0 h1
      go_enter Try.func89, Try.ntmps89
      go_wp2_with (go_at_call 66; refine (c1 _).mono ?_; rintro e w1 ⟨rfl, hb1⟩)
      go_ret
      exact ⟨by first | rfl | (rw [E.out]; rfl), ((Below.refl _ _).alloc (Nat.le_refl _) _).trans (hb1.mono (by simp))⟩
    · have E := Lib.hid (decide_eq_false (p := (0 ≤ i ∧ i < (n : Int)) ∧ s.size = 128) (fun h => h1 h.2))
      have ht : ((s.size : Int) == 128) = false := by rw [beq_eq_false_iff_ne]; omega
      clear h0 h1
      go_enter Try.func89, Try.ntmps89
      go_wp2_with (go_at_call 66; refine (c1 _).mono ?_; rintro e w1 ⟨rfl, hb1⟩)
      go_ret
      exact ⟨by first | rfl | (rw [E.out]; rfl), ((Below.refl _ _).alloc (Nat.le_refl _) _).trans (hb1.mono (by simp))⟩
  · rw [decide_eq_false h0] at c1
    have E := Lib.hid (decide_eq_false (p := (0 ≤ i ∧ i < (n : Int)) ∧ s.size = 128) (fun h => h0 h.1))
    clear h0
    go_enter Try.func89, Try.ntmps89
    go_wp2_with (go_at_call 66; refine (c1 _).mono ?_; rintro e w1 ⟨rfl, hb1⟩)
    go_ret
    exact ⟨by first | rfl | (rw [E.out]; rfl), ((Below.refl _ _).alloc (Nat.le_refl _) _).trans (hb1.mono (by simp))⟩

theorem alloc2_below (w : World) (o o' : Obj) : Below w.heap.size w ((w.alloc o).alloc o') := ((Below.refl _ _).alloc (Nat.le_refl _) _).alloc (by simp) _

set_option maxRecDepth 100000 in
set_option maxHeartbeats 1000000 in
theorem refSpend_no (A A' : Option Addr) (n c m c' : Nat) (d : D) (b : Bool) (w : World) (h : Dv w w.heap.size A n A' m d) :
    Calls Try.prog 81 #[.agg #[.slice A n c, .slice A' m c', .int .i64 0, .bool b]] w fun e w' => ∃ A2 c2 A2' c2', e = .returned (.tuple #[.agg #[.slice A2 n c2, .slice A2' m c2', .int .i64 0, .bool true], .bool false]) ∧ Own w' w.heap.size A2 n c2 A2' m c2' d.bs d.cs ∧ Below w.heap.size w w' := by
  have H := Lib.hid h; clear h
  go_enter Try.func81, Try.ntmps81
  go_wp2_with fail
  refine (refCopy_any A A' n c m c' d 0 b _ ((H.out.alloc _).alloc _)).mono ?_
  rintro e w1 ⟨A2, c2, A2', c2', rfl, ho1, hb1⟩
  have r1 := (B4.new (w.alloc (.cells #[.slice A n c, .slice A' m c', .int .i64 0, .bool b] 25)) _ _ _ _).step hb1
  simp only [World.size_alloc] at r1
  have hz : w.heap.size + 1 < w1.heap.size := r1.lt
  obtain ⟨y0, y1, y2, y3, yf⟩ := r1.cells
  have hB1 : Below w.heap.size w w1 := (alloc2_below w _ _).trans (hb1.mono (by simp; omega))
  have O := Lib.hid (ho1.base (base' := w.heap.size + 2) (by simp))
  clear r1 ho1 hb1
  go_wp2
  refine bodyPost_ret (v := .tuple #[.agg #[.slice A2 n c2, .slice A2' m c2', .int .i64 0, .bool true], .bool false]) (by simp [results, Try.results81, go_sem, y0, y1, y2, y3, hz]) rfl ⟨A2, c2, A2', c2', rfl, Own.base (base := w.heap.size + 2) ?_ (by omega), ?_⟩
  · repeat (first | (with_reducible refine Own.set ?_ (by simp) _) | (with_reducible refine Own.alloc ?_ _))
    exact O.out
  · repeat (first | (with_reducible refine Below.setCell ?_ (by simp; try omega) _) | (with_reducible refine Below.alloc ?_ (by simp; omega) _))
    exact hB1

set_option maxRecDepth 100000 in
set_option maxHeartbeats 1000000 in
theorem refSpend_yes (A A' : Option Addr) (n c m c' : Nat) (d : D) (l : Int) (b : Bool) (w : World) (h : Dv w w.heap.size A n A' m d) (h0 : l ≠ 0) (h1 : l ≤ 9223372036854775807) :
    Calls Try.prog 81 #[.agg #[.slice A n c, .slice A' m c', .int .i64 l, .bool b]] w fun e w' => ∃ A2 c2 A2' c2', e = .returned (.tuple #[.agg #[.slice A2 n c2, .slice A2' m c2', .int .i64 (spL l), .bool b], .bool true]) ∧ Own w' w.heap.size A2 n c2 A2' m c2' d.bs d.cs ∧ Below w.heap.size w w' := by
  have H := Lib.hid h; clear h
  have hl0 : (l == 0) = false := by simpa using h0
  clear h0
  go_enter Try.func81, Try.ntmps81
  go_wp2_with fail
  refine (refCopy_any A A' n c m c' d l b _ ((H.out.alloc _).alloc _)).mono ?_
  rintro e w1 ⟨A2, c2, A2', c2', rfl, ho1, hb1⟩
  have r1 := (B4.new (w.alloc (.cells #[.slice A n c, .slice A' m c', .int .i64 l, .bool b] 25)) _ _ _ _).step hb1
  simp only [World.size_alloc] at r1
  have hz : w.heap.size + 1 < w1.heap.size := r1.lt
  obtain ⟨y0, y1, y2, y3, yf⟩ := r1.cells
  have hB1 : Below w.heap.size w w1 := (alloc2_below w _ _).trans (hb1.mono (by simp; omega))
  have O := Lib.hid (ho1.base (base' := w.heap.size + 2) (by simp))
  clear r1 ho1 hb1
  by_cases hp : 0 < l
  · have S := Lib.hid (spL_pos hp)
    go_wp2
    refine bodyPost_ret (v := .tuple #[.agg #[.slice A2 n c2, .slice A2' m c2', .int .i64 (l - 1), .bool b], .bool true]) (by simp [results, Try.results81, go_sem, y0, y1, y2, y3, hz]) rfl ⟨A2, c2, A2', c2', by rw [S.out], Own.base (base := w.heap.size + 2) ?_ (by omega), ?_⟩
    · repeat (first | (with_reducible refine Own.set ?_ (by simp) _) | (with_reducible refine Own.alloc ?_ _))
      exact O.out
    · repeat (first | (with_reducible refine Below.setCell ?_ (by simp; try omega) _) | (with_reducible refine Below.alloc ?_ (by simp; omega) _))
      exact hB1
  · have S := Lib.hid (spL_neg hp)
    go_wp2
    refine bodyPost_ret (v := .tuple #[.agg #[.slice A2 n c2, .slice A2' m c2', .int .i64 l, .bool b], .bool true]) (by simp [results, Try.results81, go_sem, y0, y1, y2, y3, hz]) rfl ⟨A2, c2, A2', c2', by rw [S.out], Own.base (base := w.heap.size + 2) ?_ (by omega), ?_⟩
    · repeat (first | (with_reducible refine Own.set ?_ (by simp) _) | (with_reducible refine Own.alloc ?_ _))
      exact O.out
    · repeat (first | (with_reducible refine Below.setCell ?_ (by simp; try omega) _) | (with_reducible refine Below.alloc ?_ (by simp; omega) _))
      exact hB1

set_option maxRecDepth 100000 in
set_option maxHeartbeats 1000000 in
theorem arm_any (A A' : Option Addr) (n c m c' : Nat) (d : D) (i : Int) (w : World) (h : Dv w w.heap.size A n A' m d) :
    Calls Try.prog 13 #[.agg #[.slice A n c, .slice A' m c', .int .i64 d.left, .bool d.dead], .int .i64 i] w fun e w' => ∃ A2 c2 A2' c2', e = .returned (.agg #[.slice A2 n c2, .slice A2' m c2', .int .i64 (armD d i).left, .bool (armD d i).dead]) ∧ Own w' w.heap.size A2 n c2 A2' m c2' d.bs d.cs ∧ Below w.heap.size w w' := by
  have H := Lib.hid h; clear h
  have hD : Hid ((armD d i).dead = d.dead ∧ (armD d i).left = if d.dead = true then d.left else max i (-1)) := Lib.hid (by unfold armD; split <;> exact ⟨rfl, rfl⟩)
  generalize armD d i = D2 at hD ⊢
  obtain ⟨bs, cs, l, b⟩ := d
  obtain ⟨bs2, cs2, l2, b2⟩ := D2
  dsimp only at hD ⊢
  go_enter Try.func13, Try.ntmps13
  go_wp2_with fail
  refine (copied_any A A' n c m c' ⟨bs, cs, l, b⟩ l b _ ((H.out.alloc _).alloc _)).mono ?_
  rintro e w1 ⟨A2, c2, A2', c2', rfl, ho1, hb1⟩
  have k1 := ((B4.new w (.slice A n c) (.slice A' m c') (.int .i64 l) (.bool b)).alloc (.cells #[.slice none 0 0, .slice none 0 0, .int .i64 0, .bool false] 25)).step hb1
  have r1 := (B4.new (w.alloc (.cells #[.slice A n c, .slice A' m c', .int .i64 l, .bool b] 25)) _ _ _ _).step hb1
  simp only [World.size_alloc] at k1 r1
  have hz : w.heap.size + 1 < w1.heap.size := r1.lt
  have hy : w.heap.size < w1.heap.size := by omega
  obtain ⟨x0, x1, x2, x3, xf⟩ := k1.cells
  obtain ⟨y0, y1, y2, y3, yf⟩ := r1.cells
  have hB1 : Below w.heap.size w w1 := (alloc2_below w _ _).trans (hb1.mono (by simp; omega))
  have O := Lib.hid (ho1.base (base' := w.heap.size + 2) (by simp))
  clear k1 r1 ho1 hb1
  obtain ⟨HD, HL⟩ := hD.out
  have HD := Lib.hid HD
  have HL := Lib.hid HL
  clear hD
  cases b
  · by_cases hi : -1 ≤ i
    · go_wp2
      refine bodyPost_ret (v := .agg #[.slice A2 n c2, .slice A2' m c2', .int .i64 i, .bool false]) (by simp [results, Try.results13, go_sem, y0, y1, y2, y3, hz]) rfl ⟨A2, c2, A2', c2', by rw [HD.out, HL.out, if_neg (by decide), Int.max_eq_left hi], Own.base (base := w.heap.size + 2) ?_ (by omega), ?_⟩
      · repeat (first | (with_reducible refine Own.set ?_ (by simp) _) | (with_reducible refine Own.alloc ?_ _))
        exact O.out
      · repeat (first | (with_reducible refine Below.setCell ?_ (by simp; try omega) _) | (with_reducible refine Below.alloc ?_ (by simp; omega) _))
        exact hB1
    · go_wp2
      refine bodyPost_ret (v := .agg #[.slice A2 n c2, .slice A2' m c2', .int .i64 (-1), .bool false]) (by simp [results, Try.results13, go_sem, y0, y1, y2, y3, hz]) rfl ⟨A2, c2, A2', c2', by rw [HD.out, HL.out, if_neg (by decide), Int.max_eq_right (by omega)], Own.base (base := w.heap.size + 2) ?_ (by omega), ?_⟩
      · repeat (first | (with_reducible refine Own.set ?_ (by simp) _) | (with_reducible refine Own.alloc ?_ _))
        exact O.out
      · repeat (first | (with_reducible refine Below.setCell ?_ (by simp; try omega) _) | (with_reducible refine Below.alloc ?_ (by simp; omega) _))
        exact hB1
  · go_wp2
    refine bodyPost_ret (v := .agg #[.slice A2 n c2, .slice A2' m c2', .int .i64 l, .bool true]) (by simp [results, Try.results13, go_sem, y0, y1, y2, y3, hz]) rfl ⟨A2, c2, A2', c2', by rw [HD.out, HL.out, if_pos trivial], Own.base (base := w.heap.size + 2) ?_ (by omega), ?_⟩
    · repeat (first | (with_reducible refine Own.set ?_ (by simp) _) | (with_reducible refine Own.alloc ?_ _))
      exact O.out
    · repeat (first | (with_reducible refine Below.setCell ?_ (by simp; try omega) _) | (with_reducible refine Below.alloc ?_ (by simp; omega) _))
      exact hB1

end Go.Proofs.Ytlpijikhbjkmfaa
