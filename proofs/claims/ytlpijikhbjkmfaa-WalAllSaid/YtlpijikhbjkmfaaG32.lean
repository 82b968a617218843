/-
  The chapter's example: the statement's own awake.
-/
import Derived.Test.YtlpijikhbjkmfaaG10
import Derived.Test.YtlpijikhbjkmfaaG28
import Derived.Test.YtlpijikhbjkmfaaG30
import Derived.Test.YtlpijikhbjkmfaaG29
import Derived.Test.YtlpijikhbjkmfaaG31
import Derived.Test.YtlpijikhbjkmfaaG23
namespace Go.Proofs.Ytlpijikhbjkmfaa
open Go.RowKit

/-- A list of texts that reads, as a device's blocks. -/
theorem dv_of_reads {w : World} {A : Option Addr} {n : Nat} {l : List ByteArray} (h : Reads w w.heap.size 1 A n (encS l)) (hn : n ≤ 1024) : Dv w w.heap.size A n none 0 ⟨l, [], 0, false⟩ := ⟨h, Reads.nil, by omega, by omega⟩

theorem ex_fit2 : FitP (crashD ex1 [true]) := by decide +kernel
theorem ex_left0 : ex0.left ≤ 9223372036854775807 := by decide +kernel
theorem ex_left1 : (armD ex0 4).left ≤ 9223372036854775807 := by decide +kernel
theorem ex_left2 : (crashD ex1 [true]).left ≤ 9223372036854775807 := by decide +kernel

set_option maxRecDepth 100000 in
set_option maxHeartbeats 2000000 in
theorem awake_walk (d0 d1 d2 d3 : D) (img0 img : List ByteArray) (hm : makeD 8 4 = (d0, 0)) (hh : homeD d0 8 4 = (img0, 0)) (hl : img0.length = 8) (ht : turnZ img0 1 [3] = img)
    (hc1 : commitD (armD d0 4) 8 4 7 img = (d1, 16, false)) (hr : recoverD (crashD d1 [true]) 8 4 = (d2, 0)) (hh2 : homeD d2 8 4 = (img, 0)) (hc2 : commitD d0 8 4 7 img = (d3, 0, true)) (hh3 : homeD d3 8 4 = (img, 0)) (hch : changedL img img = [])
    (f0 : FitP d0) (f1 : FitP (armD d0 4)) (f2 : FitP (crashD d1 [true])) (l0 : d0.left ≤ 9223372036854775807) (l1 : (armD d0 4).left ≤ 9223372036854775807) (l2 : (crashD d1 [true]).left ≤ 9223372036854775807) (w : World) :
    Calls Try.prog 6 #[] w fun e w' => e = .returned (.bool true) ∧ Below w.heap.size w w' := by
  have hb14 : blocksI 8 4 = 14 := by decide
  have hb0 : blocksI 0 1 = 0 := by decide
  have cM := fun W => makeP_any 8 4 W
  rw [hm] at cM
  have cH := fun (A A' : Option Addr) (n c m c' : Nat) (W : World) h => homeP_any A A' n c m c' d0 8 4 W h
  rw [hh] at cH
  have cT := fun (A : Option Addr) (c : Nat) (P : Option Addr) (W : World) (hI : Reads W W.heap.size 1 A 8 (encS img0)) (hA : Reads W W.heap.size 1 P 1 (encZ [3])) => turned_any A 8 c img0 P none none 1 1 0 0 0 0 [3] 1 0 W hI (by omega) hA (by omega) (by omega)
  rw [ht] at cT
  have cC1 := fun (A A' I : Option Addr) (n c m c' ic : Nat) (W : World) h hi => commitP_any A A' n c m c' (armD d0 4) 8 4 7 I 8 ic img W h hi (by omega) f1 l1 (by omega)
  rw [hc1] at cC1
  have cR := fun (A A' : Option Addr) (n c m c' : Nat) (W : World) h => recoverP_any A A' n c m c' (crashD d1 [true]) 8 4 W h f2 l2
  rw [hr] at cR
  have cH2 := fun (A A' : Option Addr) (n c m c' : Nat) (W : World) h => homeP_any A A' n c m c' d2 8 4 W h
  rw [hh2] at cH2
  have cC2 := fun (A A' I : Option Addr) (n c m c' ic : Nat) (W : World) h hi => commitP_any A A' n c m c' d0 8 4 7 I 8 ic img W h hi (by omega) f0 l0 (by omega)
  rw [hc2] at cC2
  have cH3 := fun (A A' : Option Addr) (n c m c' : Nat) (W : World) h => homeP_any A A' n c m c' d3 8 4 W h
  rw [hh3] at cH3
  have hil : img.length = 8 := by rw [← ht, turnZ_length]; exact hl
  have cA := fun (A A' : Option Addr) (n c m c' : Nat) (W : World) h => armT_any A A' n c m c' d0 4 W h
  have cX := fun (A A' K : Option Addr) (n c m c' : Nat) (W : World) h hK => crash_any A A' K n c m c' 1 1 d1 [true] W h hK (by omega) (by decide)
  generalize armD d0 4 = da at cA cC1
  generalize crashD d1 [true] = dc at cX cR
  have cb1 := fun W => blocksP_any 8 4 W
  rw [hb14] at cb1
  have cb2 := fun W => blocksP_any 0 1 W
  rw [hb0] at cb2
  have HL := Lib.hid (And.intro hl hil)
  have HCH := Lib.hid hch
  clear hm hh hl ht hc1 hr hh2 hc2 hh3 f0 f1 f2 l0 l1 l2 hb14 hb0 hil hch
  dsimp only at cH cH2 cH3 cM
  go_enter Try.func6, Try.ntmps6
  go_wp2_with (go_at_call 10; refine (cM _).mono ?_; rintro e w1 ⟨A, n, c, A', m, c', rfl, hd1, hb1⟩)
  have D1 := Lib.hid hd1; have B1 := Lib.hid hb1; clear hd1 hb1 cM
  go_wp2_with fail
  refine (cH _ _ _ _ _ _ _ (D1.out.alloc _)).mono ?_
  rintro e w2 ⟨A2, n2, c2, rfl, hr2, _, _, _, hb2⟩
  obtain rfl : n2 = 8 := by have := hr2.lenS; have := HL.out.1; omega
  have K2 := Lib.hid ((B4.new w1 (.slice A n c) (.slice A' m c') (.int .i64 d0.left) (.bool d0.dead)).step hb2)
  have D2 := Lib.hid ((D1.out.alloc (.cells #[.slice A n c, .slice A' m c', .int .i64 d0.left, .bool d0.dead] 25)).step hb2)
  have B2 := Lib.hid (bstep (B1.out.alloc (B1.out.size) (.cells #[.slice A n c, .slice A' m c', .int .i64 d0.left, .bool d0.dead] 25)) hb2)
  have I2 := Lib.hid hr2
  clear hr2 hb2 D1 B1
  go_wp2_with fail
  refine (cT _ _ _ _ (I2.out.step (alloc_below0 w2 _)) (reads_new w2 #[.int .i64 3] 3 1 1 rfl)).mono ?_
  rintro e w3 ⟨A3, c3, rfl, hr3, hb3⟩
  have hb23 : Below w2.heap.size w2 w3 := bstep (alloc_below0 w2 (.cells #[.int .i64 3] 3)) hb3
  have K3 := Lib.hid (K2.out.step hb23)
  have D3 := Lib.hid (D2.out.step hb23)
  have B3 := Lib.hid (bstep B2.out hb23)
  have I3 := Lib.hid (dv_of_reads hr3 (by omega))
  obtain ⟨x0, x1, x2, x3, xf⟩ := K3.out.cells
  clear hr3 hb3 hb23 K2 D2 B2 I2
  go_wp2_with fail
  refine (cA _ _ _ _ _ _ _ D3.out).mono ?_
  rintro e w4 ⟨A4, n4, c4, A4', m4, c4', rfl, hd4, hb4⟩
  have K4 := Lib.hid (K3.out.step hb4)
  have D4 := Lib.hid (And.intro (D3.out.step hb4) hd4)
  have B4' := Lib.hid (bstep B3.out hb4)
  have I4 := Lib.hid (I3.out.step hb4)
  clear x0 x1 x2 x3 xf hd4 hb4 K3 D3 B3 I3
  go_wp2_with fail
  refine (cC1 _ _ _ _ _ _ _ _ _ D4.out.2 I4.out.bs).mono ?_
  rintro e w5 ⟨A5, n5, c5, A5', m5, c5', rfl, hd5, hb5⟩
  have k5 := B4.new w5 (.slice A5 n5 c5) (.slice A5' m5 c5') (.int .i64 d1.left) (.bool d1.dead)
  have K5 := Lib.hid (And.intro ((K4.out.step hb5).alloc (.cells #[.slice A5 n5 c5, .slice A5' m5 c5', .int .i64 d1.left, .bool d1.dead] 25)) k5)
  have D5 := Lib.hid (And.intro ((D4.out.1.step hb5).alloc (.cells #[.slice A5 n5 c5, .slice A5' m5 c5', .int .i64 d1.left, .bool d1.dead] 25)) (Dv.alloc hd5 (.cells #[.slice A5 n5 c5, .slice A5' m5 c5', .int .i64 d1.left, .bool d1.dead] 25)))
  have B5 := Lib.hid ((bstep B4'.out hb5).alloc ((bstep B4'.out hb5).size) (.cells #[.slice A5 n5 c5, .slice A5' m5 c5', .int .i64 d1.left, .bool d1.dead] 25))
  have I5 := Lib.hid ((I4.out.step hb5).alloc (.cells #[.slice A5 n5 c5, .slice A5' m5 c5', .int .i64 d1.left, .bool d1.dead] 25))
  obtain ⟨x0, x1, x2, x3, xf⟩ := k5.cells
  have HG := Lib.hid (And.intro (K4.out.step hb5).lt (bstep B4'.out hb5).size)
  clear k5 hd5 hb5 K4 D4 B4' I4
  generalize hw5 : w5.alloc (.cells #[.slice A5 n5 c5, .slice A5' m5 c5', .int .i64 d1.left, .bool d1.dead] 25) = W5 at *
  have HK : Hid (Reads (W5.alloc (.cells #[.bool true] 4)) (W5.alloc (.cells #[.bool true] 4)).heap.size 1 (some ⟨W5.heap.size, 0, none⟩) 1 (encB [true])) := Lib.hid (reads_new W5 #[.bool true] 4 1 1 rfl)
  have HV : Hid (Dv (W5.alloc (.cells #[.bool true] 4)) (W5.alloc (.cells #[.bool true] 4)).heap.size A5 n5 A5' m5 d1) := Lib.hid (D5.out.2.alloc _)
  go_wp2_with fail
  refine (cX A5 A5' (some ⟨W5.heap.size, 0, none⟩) n5 c5 m5 c5' (W5.alloc (.cells #[.bool true] 4)) HV.out HK.out).mono ?_
  rintro e w6 ⟨A6, n6, c6, A6', m6, c6', rfl, hd6, hb6⟩
  clear hw5
  have hb56 : Below W5.heap.size W5 w6 := bstep (alloc_below0 W5 (.cells #[.bool true] 4)) hb6
  have K6 := Lib.hid (And.intro (K5.out.1.step hb56) (K5.out.2.step hb56))
  have D6 := Lib.hid (And.intro (D5.out.1.step hb56) hd6)
  have B6 := Lib.hid (bstep B5.out hb56)
  have I6 := Lib.hid (I5.out.step hb56)
  clear x0 x1 x2 x3 xf hd6 hb6 hb56 K5 D5 B5 I5
  go_wp2_with fail
  refine (cR _ _ _ _ _ _ _ D6.out.2).mono ?_
  rintro e w7 ⟨A7, n7, c7, A7', m7, c7', rfl, hd7, hb7⟩
  have K7 := Lib.hid (And.intro (K6.out.1.step hb7) (K6.out.2.step hb7))
  have D7 := Lib.hid (And.intro (D6.out.1.step hb7) hd7)
  have B7 := Lib.hid (bstep B6.out hb7)
  have I7 := Lib.hid (I6.out.step hb7)
  obtain ⟨x0, x1, x2, x3, xf⟩ := K7.out.2.cells
  clear hd7 hb7 K6 D6 B6 I6
  go_upto_region 8 with fail
  change Code.wp _ _ _ _ (putD w7 w5.heap.size (.slice A7 n7 c7) (.slice A7' m7 c7') (.int .i64 d2.left) (.bool d2.dead))
  have K8 := Lib.hid (And.intro (putD_far (g := w5.heap.size) (a2 := .slice A7 n7 c7) (b2 := .slice A7' m7 c7') (c2 := .int .i64 d2.left) (d2 := .bool d2.dead) K7.out.1 (by have := HG.out.1; omega)) (putD_b4 (A := A7) (n := n7) (c := c7) (A' := A7') (m := m7) (c' := c7') (l2 := d2.left) (z2 := d2.dead) K7.out.2))
  have D8 := Lib.hid (And.intro (putD_dv (A := A7) (n := n7) (c := c7) (A' := A7') (m := m7) (c' := c7') (l2 := d2.left) (z2 := d2.dead) K7.out.2 D7.out.1) (putD_dv (A := A7) (n := n7) (c := c7) (A' := A7') (m := m7) (c' := c7') (l2 := d2.left) (z2 := d2.dead) K7.out.2 D7.out.2))
  have I8 := Lib.hid (putD_dv (A := A7) (n := n7) (c := c7) (A' := A7') (m := m7) (c' := c7') (l2 := d2.left) (z2 := d2.dead) K7.out.2 I7.out)
  have B8 := Lib.hid (putD_below (a := .slice A7 n7 c7) (b := .slice A7' m7 c7') (c := .int .i64 d2.left) (d := .bool d2.dead) B7.out HG.out.2)
  generalize putD w7 w5.heap.size (.slice A7 n7 c7) (.slice A7' m7 c7') (.int .i64 d2.left) (.bool d2.dead) = w8 at K8 D8 I8 B8 ⊢
  clear x0 x1 x2 x3 xf K7 D7 I7 B7
  obtain ⟨x0, x1, x2, x3, xf⟩ := K8.out.2.cells
  go_wp2_with fail
  refine (cH2 _ _ _ _ _ _ _ D8.out.2).mono ?_
  rintro e w9 ⟨A9, n9, c9, rfl, hr9, _, _, _, hb9⟩
  obtain rfl : n9 = 8 := by have := hr9.lenS; have := HL.out.2; omega
  have K9 := Lib.hid (K8.out.1.step hb9)
  have D9 := Lib.hid (D8.out.1.step hb9)
  have B9 := Lib.hid (bstep B8.out hb9)
  have I9 := Lib.hid (And.intro (I8.out.step hb9) (dv_of_reads hr9 (by omega)))
  clear x0 x1 x2 x3 xf K8 D8 I8 B8 hr9 hb9
  obtain ⟨x0, x1, x2, x3, xf⟩ := K9.out.cells
  go_wp2_with fail
  refine (cC2 _ _ _ _ _ _ _ _ _ D9.out I9.out.1.bs).mono ?_
  rintro e w10 ⟨A10, n10, c10, A10', m10, c10', rfl, hd10, hb10⟩
  have B10 := Lib.hid (bstep B9.out hb10)
  have I10 := Lib.hid (And.intro (I9.out.1.step hb10) (I9.out.2.step hb10))
  have D10 := Lib.hid hd10
  clear x0 x1 x2 x3 xf K9 D9 I9 B9 hd10 hb10
  go_wp2_with fail
  refine (cH3 _ _ _ _ _ _ _ (D10.out.alloc _)).mono ?_
  rintro e w11 ⟨A11, n11, c11, rfl, hr11, _, _, _, hb11⟩
  obtain rfl : n11 = 8 := by have := hr11.lenS; have := HL.out.2; omega
  have hb1011 : Below w10.heap.size w10 w11 := bstep (alloc_below0 w10 (.cells #[.slice A10 n10 c10, .slice A10' m10 c10', .int .i64 d3.left, .bool d3.dead] 25)) hb11
  have B11 := Lib.hid (bstep B10.out hb1011)
  have I11 := Lib.hid (And.intro (I10.out.1.step hb1011) (And.intro (I10.out.2.step hb1011) (dv_of_reads hr11 (by omega))))
  clear D10 I10 B10 hr11 hb11 hb1011
  have heq : decide (img = img) = true := decide_eq_true rfl
  go_wp2_with fail
  refine (cb1 _).mono ?_
  rintro e w12 ⟨rfl, hb12⟩
  have B12 := Lib.hid (bstep B11.out hb12)
  have I12 := Lib.hid (And.intro (I11.out.1.step hb12) (And.intro (I11.out.2.1.step hb12) (I11.out.2.2.step hb12)))
  clear B11 I11 hb12
  go_wp2_with fail
  refine (cb2 _).mono ?_
  rintro e w13 ⟨rfl, hb13⟩
  have B13 := Lib.hid (bstep B12.out hb13)
  have I13 := Lib.hid (And.intro (I12.out.1.step hb13) (And.intro (I12.out.2.1.step hb13) (I12.out.2.2.step hb13)))
  clear B12 I12 hb13
  go_wp2_with fail
  refine (refTexts_any A9 A3 8 c9 8 c3 img img _ I13.out.2.1.bs I13.out.1.bs (by omega) (by omega)).mono ?_
  rintro e w14 ⟨rfl, hb14⟩
  have B14 := Lib.hid (bstep B13.out hb14)
  have I14 := Lib.hid (And.intro (I13.out.1.step hb14) (And.intro (I13.out.2.1.step hb14) (I13.out.2.2.step hb14)))
  clear B13 I13 hb14
  go_wp2_with fail
  refine (refTexts_any A11 A3 8 c11 8 c3 img img _ I14.out.2.2.bs I14.out.1.bs (by omega) (by omega)).mono ?_
  rintro e w15 ⟨rfl, hb15⟩
  have B15 := Lib.hid (bstep B14.out hb15)
  have I15 := Lib.hid (And.intro (I14.out.1.step hb15) (I14.out.2.1.step hb15))
  clear B14 I14 hb15
  go_wp2_with fail
  refine (changed_any A3 A9 8 c3 8 c9 img img _ I15.out.1.bs I15.out.2.bs (by omega) (by omega)).mono ?_
  rintro e w16 ⟨A16, c16, rfl, _, hb16⟩
  have B16 := Lib.hid (bstep B15.out hb16)
  rw [HCH.out]
  dsimp only [List.length_nil]
  clear B15 I15 hb16
  go_wp2
  go_ret
  exact ⟨rfl, B16.out⟩

theorem pair_of {α β : Type} {p : α × β} {b : β} (h : p.2 = b) : p = (p.1, b) := by subst h; rfl
theorem ex_p1 : makeD 8 4 = (ex0, 0) := by unfold ex0; exact pair_of ex_make
theorem ex_p2 : homeD ex0 8 4 = ((homeD ex0 8 4).1, 0) := pair_of ex_home.1
theorem ex_p3 : commitD (armD ex0 4) 8 4 7 exI = (ex1, 16, false) := by unfold ex1; exact pair_of ex_broken
theorem ex_p4 : recoverD (crashD ex1 [true]) 8 4 = (ex2, 0) := by unfold ex2; exact pair_of ex_rec
theorem ex_p5 : commitD ex0 8 4 7 exI = (ex3, 0, true) := by unfold ex3; exact pair_of ex_done
/-- The chapter's example comes out as the chapter says. -/
theorem awake3_any (w : World) : Calls Try.prog 6 #[] w fun e w' => e = .returned (.bool true) ∧ Below w.heap.size w w' :=
  awake_walk ex0 ex1 ex2 ex3 (homeD ex0 8 4).1 exI ex_p1 ex_p2 ex_home.2 ex_turned ex_p3 ex_p4 ex_rec_home ex_p5 ex_done_home ex_same ex_fit0 ex_fit1 ex_fit2 ex_left0 ex_left1 ex_left2 w

end Go.Proofs.Ytlpijikhbjkmfaa
