/-
  The reference's Commit, where it ends early.
-/
import Derived.Test.YtlpijikhbjkmfaaG35
import Derived.Test.YtlpijikhbjkmfaaG25
namespace Go.Proofs.Ytlpijikhbjkmfaa
open Go.RowKit

section
variable {w W W' : World} {A A' E E' : Option Addr} {n c m c' k e k' e' : Nat} {d d2 : D}
/-- A device is stored in the result's box; two results more. -/
theorem RB.told3 (R : RB w W A A' n c m c' d) (hv : Dv W W.heap.size E k E' k' d2) (code : Int) (done : Bool) : Tells3 w (putD W (w.heap.size + 1) (.slice E k e) (.slice E' k' e') (.int .i64 d2.left) (.bool d2.dead)) (d2, code, done) (.returned (.tuple #[.agg #[.slice E k e, .slice E' k' e', .int .i64 d2.left, .bool d2.dead], .int .i64 code, .bool done])) :=
  ⟨E, k, e, E', k', e', rfl, putD_dv R.b1 hv, putD_below R.below (by omega)⟩
end

set_option maxRecDepth 100000 in
set_option maxHeartbeats 1000000 in
theorem refCom_wrong (A A' : Option Addr) (n c m c' : Nat) (d : D) (x y : Int) (sq : Nat) (I : Option Addr) (i ic : Nat) (img : List ByteArray) (w : World) (H : Dv w w.heap.size A n A' m d) (hI : Reads w w.heap.size 1 I i (encS img)) (_hi : i * 16 ≤ 140737488355328) (h0 : wrongE d x y ≠ 0) :
    Calls Try.prog 8 #[.agg #[.slice A n c, .slice A' m c', .int .i64 d.left, .bool d.dead], .int .i64 x, .int .i64 y, .int .u64 sq, .slice I i ic] w fun e w' => Tells3 w w' (d, wrongE d x y, false) e := by
  have R0 := Lib.hid (And.intro (RB.new H c c') ((hI.alloc (.cells #[.slice A n c, .slice A' m c', .int .i64 d.left, .bool d.dead] 25)).alloc (.cells #[.slice none 0 0, .slice none 0 0, .int .i64 0, .bool false] 25)))
  have cw := refWrong_any A A' n c m c' d x y _ R0.out.1.dv
  generalize wrongE d x y = q at cw h0 ⊢
  have h1 : (q == 0) = false := by simpa using h0
  have h2 : (q != 0) = true := by simpa using h0
  obtain ⟨x0, x1, x2, x3, xf⟩ := R0.out.1.b0.cells
  clear H hI h0
  go_enter Try.func8, Try.ntmps8
  go_wp2_with fail
  refine cw.mono ?_
  rintro e w1 ⟨rfl, hb1⟩
  have R1 := Lib.hid (And.intro (R0.out.1.step hb1) (R0.out.2.step hb1))
  clear x0 x1 x2 x3 xf R0 hb1 cw
  obtain ⟨x0, x1, x2, x3, xf⟩ := R1.out.1.b0.cells
  go_wp2_with fail
  refine (refCopy_any A A' n c m c' d d.left d.dead _ R1.out.1.dv).mono ?_
  rintro e w9 ⟨A9, c9, A9', c9', rfl, ho9, hb9⟩
  have R9 := Lib.hid (R1.out.1.step hb9)
  have V9 := Lib.hid (Own.dv (d := d) ho9 R1.out.1.dv.hn R1.out.1.dv.hm)
  clear x0 x1 x2 x3 xf R1 ho9 hb9
  obtain ⟨z0, z1, z2, z3, zf⟩ := R9.out.b1.cells
  have hz := R9.out.lt
  go_wp2
  refine bodyPost_ret (v := .tuple #[.agg #[.slice A9 n c9, .slice A9' m c9', .int .i64 d.left, .bool d.dead], .int .i64 q, .bool false]) (by simp [results, Try.results8, go_sem, z0, z1, z2, z3]) rfl ?_
  exact R9.out.told3 V9.out q false

set_option maxRecDepth 100000 in
set_option maxHeartbeats 1000000 in
theorem refCom_image (A A' : Option Addr) (n c m c' : Nat) (d : D) (x y : Int) (sq : Nat) (I : Option Addr) (i ic : Nat) (img : List ByteArray) (w : World) (H : Dv w w.heap.size A n A' m d) (hI : Reads w w.heap.size 1 I i (encS img)) (hi : i * 16 ≤ 140737488355328) (h0 : wrongE d x y = 0) (h1 : ¬ ImageP img x) :
    Calls Try.prog 8 #[.agg #[.slice A n c, .slice A' m c', .int .i64 d.left, .bool d.dead], .int .i64 x, .int .i64 y, .int .u64 sq, .slice I i ic] w fun e w' => Tells3 w w' (d, 14, false) e := by
  have R0 := Lib.hid (And.intro (RB.new H c c') ((hI.alloc (.cells #[.slice A n c, .slice A' m c', .int .i64 d.left, .bool d.dead] 25)).alloc (.cells #[.slice none 0 0, .slice none 0 0, .int .i64 0, .bool false] 25)))
  have cw := refWrong_any A A' n c m c' d x y _ R0.out.1.dv
  rw [h0] at cw
  have ci := fun W hW => refImage_any I i ic img x W hW hi
  rw [decide_eq_false h1] at ci
  obtain ⟨x0, x1, x2, x3, xf⟩ := R0.out.1.b0.cells
  clear H hI h0 h1
  go_enter Try.func8, Try.ntmps8
  go_wp2_with fail
  refine cw.mono ?_
  rintro e w1 ⟨rfl, hb1⟩
  have R1 := Lib.hid (And.intro (R0.out.1.step hb1) (R0.out.2.step hb1))
  clear x0 x1 x2 x3 xf R0 hb1 cw
  obtain ⟨x0, x1, x2, x3, xf⟩ := R1.out.1.b0.cells
  go_wp2_with fail
  refine (ci _ R1.out.2).mono ?_
  rintro e w2 ⟨rfl, rfl⟩
  go_wp2_with fail
  refine (refCopy_any A A' n c m c' d d.left d.dead _ R1.out.1.dv).mono ?_
  rintro e w9 ⟨A9, c9, A9', c9', rfl, ho9, hb9⟩
  have R9 := Lib.hid (R1.out.1.step hb9)
  have V9 := Lib.hid (Own.dv (d := d) ho9 R1.out.1.dv.hn R1.out.1.dv.hm)
  clear x0 x1 x2 x3 xf R1 ho9 hb9
  obtain ⟨z0, z1, z2, z3, zf⟩ := R9.out.b1.cells
  have hz := R9.out.lt
  go_wp2
  refine bodyPost_ret (v := .tuple #[.agg #[.slice A9 n c9, .slice A9' m c9', .int .i64 d.left, .bool d.dead], .int .i64 14, .bool false]) (by simp [results, Try.results8, go_sem, z0, z1, z2, z3]) rfl ?_
  exact R9.out.told3 V9.out 14 false

set_option maxRecDepth 100000 in
set_option maxHeartbeats 1000000 in
theorem refCom_dead (A A' : Option Addr) (n c m c' : Nat) (bs : List ByteArray) (cs : List (Int × ByteArray)) (l : Int) (x y : Int) (sq : Nat) (I : Option Addr) (i ic : Nat) (img : List ByteArray) (w : World) (H : Dv w w.heap.size A n A' m ⟨bs, cs, l, true⟩) (hI : Reads w w.heap.size 1 I i (encS img)) (hi : i * 16 ≤ 140737488355328) (h0 : wrongE ⟨bs, cs, l, true⟩ x y = 0) (h1 : ImageP img x) :
    Calls Try.prog 8 #[.agg #[.slice A n c, .slice A' m c', .int .i64 l, .bool true], .int .i64 x, .int .i64 y, .int .u64 sq, .slice I i ic] w fun e w' => Tells3 w w' (⟨bs, cs, l, true⟩, 17, false) e := by
  have R0 := Lib.hid (And.intro (RB.new H c c') ((hI.alloc (.cells #[.slice A n c, .slice A' m c', .int .i64 l, .bool true] 25)).alloc (.cells #[.slice none 0 0, .slice none 0 0, .int .i64 0, .bool false] 25)))
  have cw := refWrong_any A A' n c m c' ⟨bs, cs, l, true⟩ x y _ R0.out.1.dv
  rw [h0] at cw
  have ci := fun W hW => refImage_any I i ic img x W hW hi
  rw [decide_eq_true h1] at ci
  obtain ⟨x0, x1, x2, x3, xf⟩ := R0.out.1.b0.cells
  dsimp only at x2 x3
  clear H hI h0 h1
  go_enter Try.func8, Try.ntmps8
  go_wp2_with fail
  refine cw.mono ?_
  rintro e w1 ⟨rfl, hb1⟩
  have R1 := Lib.hid (And.intro (R0.out.1.step hb1) (R0.out.2.step hb1))
  clear x0 x1 x2 x3 xf R0 hb1 cw
  obtain ⟨x0, x1, x2, x3, xf⟩ := R1.out.1.b0.cells
  dsimp only at x2 x3
  go_wp2_with fail
  refine (ci _ R1.out.2).mono ?_
  rintro e w2 ⟨rfl, rfl⟩
  go_wp2_with fail
  refine (refCopy_any A A' n c m c' ⟨bs, cs, l, true⟩ l true _ R1.out.1.dv).mono ?_
  rintro e w9 ⟨A9, c9, A9', c9', rfl, ho9, hb9⟩
  have R9 := Lib.hid (R1.out.1.step hb9)
  have V9 := Lib.hid (Own.dv (d := ⟨bs, cs, l, true⟩) ho9 R1.out.1.dv.hn R1.out.1.dv.hm)
  clear x0 x1 x2 x3 xf R1 ho9 hb9
  obtain ⟨z0, z1, z2, z3, zf⟩ := R9.out.b1.cells
  have hz := R9.out.lt
  go_wp2
  refine bodyPost_ret (v := .tuple #[.agg #[.slice A9 n c9, .slice A9' m c9', .int .i64 l, .bool true], .int .i64 17, .bool false]) (by simp [results, Try.results8, go_sem, z0, z1, z2, z3]) rfl ?_
  exact R9.out.told3 V9.out 17 false

set_option maxRecDepth 100000 in
set_option maxHeartbeats 1000000 in
theorem refCom_head (A A' : Option Addr) (n c m c' : Nat) (bs : List ByteArray) (cs : List (Int × ByteArray)) (l : Int) (x y : Int) (sq : Nat) (I : Option Addr) (i ic : Nat) (img : List ByteArray) (w : World) (H : Dv w w.heap.size A n A' m ⟨bs, cs, l, false⟩) (hI : Reads w w.heap.size 1 I i (encS img)) (hi : i * 16 ≤ 140737488355328) (h0 : wrongE ⟨bs, cs, l, false⟩ x y = 0) (h1 : ImageP img x) (hz : headB ⟨bs, cs, l, false⟩ ≠ zeroB) :
    Calls Try.prog 8 #[.agg #[.slice A n c, .slice A' m c', .int .i64 l, .bool false], .int .i64 x, .int .i64 y, .int .u64 sq, .slice I i ic] w fun e w' => Tells3 w w' (⟨bs, cs, l, false⟩, 14, false) e := by
  have R0 := Lib.hid (And.intro (RB.new H c c') ((hI.alloc (.cells #[.slice A n c, .slice A' m c', .int .i64 l, .bool false] 25)).alloc (.cells #[.slice none 0 0, .slice none 0 0, .int .i64 0, .bool false] 25)))
  have cw := refWrong_any A A' n c m c' ⟨bs, cs, l, false⟩ x y _ R0.out.1.dv
  rw [h0] at cw
  have ci := fun W hW => refImage_any I i ic img x W hW hi
  rw [decide_eq_true h1] at ci
  have cr := fun W hW => refRead_any A A' n c m c' ⟨bs, cs, l, false⟩ 0 W hW
  obtain ⟨hd, hhd⟩ : ∃ hd, hd = headB ⟨bs, cs, l, false⟩ := ⟨_, rfl⟩
  rw [show (readD ⟨bs, cs, l, false⟩ 0).1 = hd from hhd.symm] at cr
  generalize (readD ⟨bs, cs, l, false⟩ 0).2 = re at cr
  obtain ⟨x0, x1, x2, x3, xf⟩ := R0.out.1.b0.cells
  dsimp only at x2 x3
  rw [← hhd] at hz
  have heq : (hd.toList == zeroB.toList) = false := bytes_other hz
  clear H hI h0 h1 hz hhd
  go_enter Try.func8, Try.ntmps8
  go_wp2_with fail
  refine cw.mono ?_
  rintro e w1 ⟨rfl, hb1⟩
  have R1 := Lib.hid (And.intro (R0.out.1.step hb1) (R0.out.2.step hb1))
  clear x0 x1 x2 x3 xf R0 hb1 cw
  obtain ⟨x0, x1, x2, x3, xf⟩ := R1.out.1.b0.cells
  dsimp only at x2 x3
  go_wp2_with fail
  refine (ci _ R1.out.2).mono ?_
  rintro e w2 ⟨rfl, rfl⟩
  go_wp2_with fail
  refine (cr _ R1.out.1.dv).mono ?_
  rintro e w2 ⟨rfl, hb2⟩
  have R2 := Lib.hid (And.intro (R1.out.1.step hb2) (R1.out.2.step hb2))
  clear x0 x1 x2 x3 xf R1 hb2 cr
  go_wp2_with fail
  refine (zeros_any _).mono ?_
  rintro e w3 ⟨rfl, hb3⟩
  have R3 := Lib.hid (And.intro (R2.out.1.step hb3) (R2.out.2.step hb3))
  clear R2 hb3
  obtain ⟨x0, x1, x2, x3, xf⟩ := R3.out.1.b0.cells
  dsimp only at x2 x3
  go_wp2_with fail
  refine (refCopy_any A A' n c m c' ⟨bs, cs, l, false⟩ l false _ R3.out.1.dv).mono ?_
  rintro e w9 ⟨A9, c9, A9', c9', rfl, ho9, hb9⟩
  have R9 := Lib.hid (R3.out.1.step hb9)
  have V9 := Lib.hid (Own.dv (d := ⟨bs, cs, l, false⟩) ho9 R3.out.1.dv.hn R3.out.1.dv.hm)
  clear x0 x1 x2 x3 xf R3 ho9 hb9
  obtain ⟨z0, z1, z2, z3, zf⟩ := R9.out.b1.cells
  have hz := R9.out.lt
  go_wp2
  refine bodyPost_ret (v := .tuple #[.agg #[.slice A9 n c9, .slice A9' m c9', .int .i64 l, .bool false], .int .i64 14, .bool false]) (by simp [results, Try.results8, go_sem, z0, z1, z2, z3]) rfl ?_
  exact R9.out.told3 V9.out 14 false

set_option maxRecDepth 100000 in
set_option maxHeartbeats 1000000 in
theorem refCom_none (A A' : Option Addr) (n c m c' : Nat) (bs : List ByteArray) (cs : List (Int × ByteArray)) (l : Int) (x y : Int) (sq : Nat) (I : Option Addr) (i ic : Nat) (img : List ByteArray) (w : World) (H : Dv w w.heap.size A n A' m ⟨bs, cs, l, false⟩) (hI : Reads w w.heap.size 1 I i (encS img)) (hi : i * 16 ≤ 140737488355328) (h0 : wrongE ⟨bs, cs, l, false⟩ x y = 0) (h1 : ImageP img x) (hz : headB ⟨bs, cs, l, false⟩ = zeroB) (hk : (changedL (homeL ⟨bs, cs, l, false⟩ x.toNat y.toNat) img).length = 0) :
    Calls Try.prog 8 #[.agg #[.slice A n c, .slice A' m c', .int .i64 l, .bool false], .int .i64 x, .int .i64 y, .int .u64 sq, .slice I i ic] w fun e w' => Tells3 w w' (⟨bs, cs, l, false⟩, 0, true) e := by
  have R0 := Lib.hid (And.intro (RB.new H c c') ((hI.alloc (.cells #[.slice A n c, .slice A' m c', .int .i64 l, .bool false] 25)).alloc (.cells #[.slice none 0 0, .slice none 0 0, .int .i64 0, .bool false] 25)))
  have HH : Hid ((homeD ⟨bs, cs, l, false⟩ x y).1 = homeL ⟨bs, cs, l, false⟩ x.toNat y.toNat) := Lib.hid (by unfold homeD; rw [if_neg (by rw [h0]; decide), if_neg Bool.false_ne_true])
  have cw := refWrong_any A A' n c m c' ⟨bs, cs, l, false⟩ x y _ R0.out.1.dv
  rw [h0] at cw
  have ci := fun W hW => refImage_any I i ic img x W hW hi
  rw [decide_eq_true h1] at ci
  have cr := fun W hW => refRead_any A A' n c m c' ⟨bs, cs, l, false⟩ 0 W hW
  obtain ⟨hd, hhd⟩ : ∃ hd, hd = headB ⟨bs, cs, l, false⟩ := ⟨_, rfl⟩
  rw [show (readD ⟨bs, cs, l, false⟩ 0).1 = hd from hhd.symm] at cr
  generalize (readD ⟨bs, cs, l, false⟩ 0).2 = re at cr
  have ch := fun W hW => refHome_any A A' n c m c' ⟨bs, cs, l, false⟩ x y W hW
  rw [HH.out] at ch
  obtain ⟨pl, hpl⟩ : ∃ pl, pl = changedL (homeL ⟨bs, cs, l, false⟩ x.toNat y.toNat) img := ⟨_, rfl⟩
  rw [← hpl] at hk
  have HPL : Hid (changedL (homeL ⟨bs, cs, l, false⟩ x.toNat y.toNat) img = pl) := Lib.hid hpl.symm
  generalize homeL ⟨bs, cs, l, false⟩ x.toNat y.toNat = hm at ch HPL
  generalize (homeD ⟨bs, cs, l, false⟩ x y).2 = he at ch
  clear hpl HH
  obtain ⟨x0, x1, x2, x3, xf⟩ := R0.out.1.b0.cells
  dsimp only at x2 x3
  rw [← hhd] at hz
  subst hz
  have heq : (zeroB.toList == zeroB.toList) = true := by simp
  clear H hI h0 h1 hhd
  have hk1 : ((pl.length : Int) == 0) = true := by rw [hk]; rfl
  clear hk
  go_enter Try.func8, Try.ntmps8
  go_wp2_with fail
  refine cw.mono ?_
  rintro e w1 ⟨rfl, hb1⟩
  have R1 := Lib.hid (And.intro (R0.out.1.step hb1) (R0.out.2.step hb1))
  clear x0 x1 x2 x3 xf R0 hb1 cw
  obtain ⟨x0, x1, x2, x3, xf⟩ := R1.out.1.b0.cells
  dsimp only at x2 x3
  go_wp2_with fail
  refine (ci _ R1.out.2).mono ?_
  rintro e w2 ⟨rfl, rfl⟩
  go_wp2_with fail
  refine (cr _ R1.out.1.dv).mono ?_
  rintro e w2 ⟨rfl, hb2⟩
  have R2 := Lib.hid (And.intro (R1.out.1.step hb2) (R1.out.2.step hb2))
  clear x0 x1 x2 x3 xf R1 hb2 cr
  go_wp2_with fail
  refine (zeros_any _).mono ?_
  rintro e w3 ⟨rfl, hb3⟩
  have R3 := Lib.hid (And.intro (R2.out.1.step hb3) (R2.out.2.step hb3))
  clear R2 hb3
  obtain ⟨x0, x1, x2, x3, xf⟩ := R3.out.1.b0.cells
  dsimp only at x2 x3
  go_wp2_with fail
  refine (ch _ R3.out.1.dv).mono ?_
  rintro e w4 ⟨A4, n4, c4, rfl, hr4, h512, hb4⟩
  have R4 := Lib.hid (And.intro (R3.out.1.step hb4) (And.intro (R3.out.2.step hb4) hr4))
  clear x0 x1 x2 x3 xf R3 hr4 hb4
  go_wp2_with fail
  refine (refChanged_any _ _ _ _ _ _ _ img _ R4.out.2.2 R4.out.2.1 (by omega) hi).mono ?_
  rintro e w5 ⟨A5, c5, rfl, ho5, hb5⟩
  rw [HPL.out] at ho5 ⊢
  have R5 := Lib.hid (And.intro (R4.out.1.step hb5) (And.intro (R4.out.2.1.step hb5) ho5))
  clear R4 hb5 ho5
  obtain ⟨x0, x1, x2, x3, xf⟩ := R5.out.1.b0.cells
  dsimp only at x2 x3
  go_wp2_with fail
  refine (refCopy_any A A' n c m c' ⟨bs, cs, l, false⟩ l false _ R5.out.1.dv).mono ?_
  rintro e w9 ⟨A9, c9, A9', c9', rfl, ho9, hb9⟩
  have R9 := Lib.hid (R5.out.1.step hb9)
  have V9 := Lib.hid (Own.dv (d := ⟨bs, cs, l, false⟩) ho9 R5.out.1.dv.hn R5.out.1.dv.hm)
  clear x0 x1 x2 x3 xf R5 ho9 hb9
  obtain ⟨z0, z1, z2, z3, zf⟩ := R9.out.b1.cells
  have hz := R9.out.lt
  go_wp2
  refine bodyPost_ret (v := .tuple #[.agg #[.slice A9 n c9, .slice A9' m c9', .int .i64 l, .bool false], .int .i64 0, .bool true]) (by simp [results, Try.results8, go_sem, z0, z1, z2, z3]) rfl ?_
  exact R9.out.told3 V9.out 0 true

set_option maxRecDepth 100000 in
set_option maxHeartbeats 1000000 in
theorem refCom_many (A A' : Option Addr) (n c m c' : Nat) (bs : List ByteArray) (cs : List (Int × ByteArray)) (l : Int) (x y : Int) (sq : Nat) (I : Option Addr) (i ic : Nat) (img : List ByteArray) (w : World) (H : Dv w w.heap.size A n A' m ⟨bs, cs, l, false⟩) (hI : Reads w w.heap.size 1 I i (encS img)) (hi : i * 16 ≤ 140737488355328) (h0 : wrongE ⟨bs, cs, l, false⟩ x y = 0) (h1 : ImageP img x) (hz : headB ⟨bs, cs, l, false⟩ = zeroB) (hy : 1 ≤ y) (hk : y.toNat < (changedL (homeL ⟨bs, cs, l, false⟩ x.toNat y.toNat) img).length) :
    Calls Try.prog 8 #[.agg #[.slice A n c, .slice A' m c', .int .i64 l, .bool false], .int .i64 x, .int .i64 y, .int .u64 sq, .slice I i ic] w fun e w' => Tells3 w w' (⟨bs, cs, l, false⟩, 18, false) e := by
  have R0 := Lib.hid (And.intro (RB.new H c c') ((hI.alloc (.cells #[.slice A n c, .slice A' m c', .int .i64 l, .bool false] 25)).alloc (.cells #[.slice none 0 0, .slice none 0 0, .int .i64 0, .bool false] 25)))
  have HH : Hid ((homeD ⟨bs, cs, l, false⟩ x y).1 = homeL ⟨bs, cs, l, false⟩ x.toNat y.toNat) := Lib.hid (by unfold homeD; rw [if_neg (by rw [h0]; decide), if_neg Bool.false_ne_true])
  have cw := refWrong_any A A' n c m c' ⟨bs, cs, l, false⟩ x y _ R0.out.1.dv
  rw [h0] at cw
  have ci := fun W hW => refImage_any I i ic img x W hW hi
  rw [decide_eq_true h1] at ci
  have cr := fun W hW => refRead_any A A' n c m c' ⟨bs, cs, l, false⟩ 0 W hW
  obtain ⟨hd, hhd⟩ : ∃ hd, hd = headB ⟨bs, cs, l, false⟩ := ⟨_, rfl⟩
  rw [show (readD ⟨bs, cs, l, false⟩ 0).1 = hd from hhd.symm] at cr
  generalize (readD ⟨bs, cs, l, false⟩ 0).2 = re at cr
  have ch := fun W hW => refHome_any A A' n c m c' ⟨bs, cs, l, false⟩ x y W hW
  rw [HH.out] at ch
  obtain ⟨pl, hpl⟩ : ∃ pl, pl = changedL (homeL ⟨bs, cs, l, false⟩ x.toNat y.toNat) img := ⟨_, rfl⟩
  rw [← hpl] at hk
  have HPL : Hid (changedL (homeL ⟨bs, cs, l, false⟩ x.toNat y.toNat) img = pl) := Lib.hid hpl.symm
  generalize homeL ⟨bs, cs, l, false⟩ x.toNat y.toNat = hm at ch HPL
  generalize (homeD ⟨bs, cs, l, false⟩ x y).2 = he at ch
  clear hpl HH
  obtain ⟨x0, x1, x2, x3, xf⟩ := R0.out.1.b0.cells
  dsimp only at x2 x3
  rw [← hhd] at hz
  subst hz
  have heq : (zeroB.toList == zeroB.toList) = true := by simp
  clear H hI h0 h1 hhd
  have hk1 : ((pl.length : Int) == 0) = false := by rw [beq_eq_false_iff_ne]; omega
  have hk2 : y < (pl.length : Int) := by omega
  clear hk
  go_enter Try.func8, Try.ntmps8
  go_wp2_with fail
  refine cw.mono ?_
  rintro e w1 ⟨rfl, hb1⟩
  have R1 := Lib.hid (And.intro (R0.out.1.step hb1) (R0.out.2.step hb1))
  clear x0 x1 x2 x3 xf R0 hb1 cw
  obtain ⟨x0, x1, x2, x3, xf⟩ := R1.out.1.b0.cells
  dsimp only at x2 x3
  go_wp2_with fail
  refine (ci _ R1.out.2).mono ?_
  rintro e w2 ⟨rfl, rfl⟩
  go_wp2_with fail
  refine (cr _ R1.out.1.dv).mono ?_
  rintro e w2 ⟨rfl, hb2⟩
  have R2 := Lib.hid (And.intro (R1.out.1.step hb2) (R1.out.2.step hb2))
  clear x0 x1 x2 x3 xf R1 hb2 cr
  go_wp2_with fail
  refine (zeros_any _).mono ?_
  rintro e w3 ⟨rfl, hb3⟩
  have R3 := Lib.hid (And.intro (R2.out.1.step hb3) (R2.out.2.step hb3))
  clear R2 hb3
  obtain ⟨x0, x1, x2, x3, xf⟩ := R3.out.1.b0.cells
  dsimp only at x2 x3
  go_wp2_with fail
  refine (ch _ R3.out.1.dv).mono ?_
  rintro e w4 ⟨A4, n4, c4, rfl, hr4, h512, hb4⟩
  have R4 := Lib.hid (And.intro (R3.out.1.step hb4) (And.intro (R3.out.2.step hb4) hr4))
  clear x0 x1 x2 x3 xf R3 hr4 hb4
  go_wp2_with fail
  refine (refChanged_any _ _ _ _ _ _ _ img _ R4.out.2.2 R4.out.2.1 (by omega) hi).mono ?_
  rintro e w5 ⟨A5, c5, rfl, ho5, hb5⟩
  rw [HPL.out] at ho5 ⊢
  have R5 := Lib.hid (And.intro (R4.out.1.step hb5) (And.intro (R4.out.2.1.step hb5) ho5))
  clear R4 hb5 ho5
  obtain ⟨x0, x1, x2, x3, xf⟩ := R5.out.1.b0.cells
  dsimp only at x2 x3
  go_wp2_with fail
  refine (refCopy_any A A' n c m c' ⟨bs, cs, l, false⟩ l false _ R5.out.1.dv).mono ?_
  rintro e w9 ⟨A9, c9, A9', c9', rfl, ho9, hb9⟩
  have R9 := Lib.hid (R5.out.1.step hb9)
  have V9 := Lib.hid (Own.dv (d := ⟨bs, cs, l, false⟩) ho9 R5.out.1.dv.hn R5.out.1.dv.hm)
  clear x0 x1 x2 x3 xf R5 ho9 hb9
  obtain ⟨z0, z1, z2, z3, zf⟩ := R9.out.b1.cells
  have hz := R9.out.lt
  go_wp2
  refine bodyPost_ret (v := .tuple #[.agg #[.slice A9 n c9, .slice A9' m c9', .int .i64 l, .bool false], .int .i64 18, .bool false]) (by simp [results, Try.results8, go_sem, z0, z1, z2, z3]) rfl ?_
  exact R9.out.told3 V9.out 18 false

end Go.Proofs.Ytlpijikhbjkmfaa
