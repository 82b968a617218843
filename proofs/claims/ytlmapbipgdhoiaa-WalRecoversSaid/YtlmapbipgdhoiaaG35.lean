/-
  The reference's Recover, where it ends early.
-/
import Derived.Test.YtlmapbipgdhoiaaG34
import Derived.Test.YtlmapbipgdhoiaaG03
import Derived.BigQuiet
namespace Go.Proofs.Ytlmapbipgdhoiaa
open Go.RowKit

/-- The device's box, the result's, and what lay before. -/
structure RB (w W : World) (A A' : Option Addr) (n c m c' : Nat) (d : D) : Prop where
  b0 : B4 W w.heap.size (.slice A n c) (.slice A' m c') (.int .i64 d.left) (.bool d.dead)
  b1 : B4 W (w.heap.size + 1) (.slice none 0 0) (.slice none 0 0) (.int .i64 0) (.bool false)
  dv : Dv W W.heap.size A n A' m d
  below : Below w.heap.size w W
section
variable {w W W' : World} {A A' E E' : Option Addr} {n c m c' k e k' e' : Nat} {d d2 : D}
theorem RB.step (h : RB w W A A' n c m c' d) (hb : Below W.heap.size W W') : RB w W' A A' n c m c' d := ⟨h.b0.step hb, h.b1.step hb, h.dv.step hb, bstep h.below hb⟩
theorem RB.drewN (h : RB w W A A' n c m c' d) (q : Nat) : RB w (W.drewN q) A A' n c m c' d := ⟨h.b0, h.b1, ⟨h.dv.bs, h.dv.cs, h.dv.hn, h.dv.hm⟩, below_drewN h.below q⟩
theorem RB.lt (h : RB w W A A' n c m c' d) : w.heap.size + 1 < W.heap.size := h.b1.lt
theorem RB.new (h : Dv w w.heap.size A n A' m d) (c c' : Nat) : RB w ((w.alloc (.cells #[.slice A n c, .slice A' m c', .int .i64 d.left, .bool d.dead] 25)).alloc (.cells #[.slice none 0 0, .slice none 0 0, .int .i64 0, .bool false] 25)) A A' n c m c' d :=
  ⟨(B4.new w _ _ _ _).alloc _, by simpa using B4.new (w.alloc (.cells #[.slice A n c, .slice A' m c', .int .i64 d.left, .bool d.dead] 25)) (.slice none 0 0) (.slice none 0 0) (.int .i64 0) (.bool false), (h.alloc _).alloc _, alloc2_below w _ _⟩
/-- A device is stored in the result's box. -/
theorem RB.told (R : RB w W A A' n c m c' d) (hv : Dv W W.heap.size E k E' k' d2) (code : Int) : Tells2 w (putD W (w.heap.size + 1) (.slice E k e) (.slice E' k' e') (.int .i64 d2.left) (.bool d2.dead)) d2 code (.returned (.tuple #[.agg #[.slice E k e, .slice E' k' e', .int .i64 d2.left, .bool d2.dead], .int .i64 code])) :=
  ⟨E, k, e, E', k', e', rfl, putD_dv R.b1 hv, putD_below R.below (by omega)⟩
end

/-- A region that draws its order, whose operations read and whose calls leave what lay before: one walk, in the order of the text. -/
theorem region_belowR {P : Program} {id : Nat} {Q : Exit → Act → World → Prop} {a : Act} {w0 w : World} {l : List Oper} (hC : Below w0.heap.size w0 w) (hm : P.follows .mixedOrders = true) (hB : Region.lexB .any l.toArray = true)
    (h : wpQuiet P l.toArray (fun w' => Below w0.heap.size w0 w') (fun a' => ∀ w', Below w0.heap.size w0 w' → Q .normal a' w') l a) : (Code.region id l.toArray true).wp P Q a w :=
  wp_region_quiet (C := fun w' => Below w0.heap.size w0 w') hm hB hC.drew (by simpa using h)

set_option maxRecDepth 100000 in
set_option maxHeartbeats 1000000 in
theorem refRec_wrong (A A' : Option Addr) (n c m c' : Nat) (d : D) (x y : Int) (w : World) (h : Dv w w.heap.size A n A' m d) (h0 : wrongE d x y ≠ 0) :
    Calls Try.prog 26 #[.agg #[.slice A n c, .slice A' m c', .int .i64 d.left, .bool d.dead], .int .i64 x, .int .i64 y] w fun e w' => Tells2 w w' d (wrongE d x y) e := by
  have R0 := Lib.hid (RB.new h c c')
  have cw := refWrong_any A A' n c m c' d x y _ R0.out.dv
  generalize wrongE d x y = q at cw h0 ⊢
  have h1 : (q == 0) = false := by simpa using h0
  have h2 : (q != 0) = true := by simpa using h0
  obtain ⟨x0, x1, x2, x3, xf⟩ := R0.out.b0.cells
  clear h h0
  go_enter Try.func26, Try.ntmps26
  go_wp2_with fail
  refine cw.mono ?_
  rintro e w1 ⟨rfl, hb1⟩
  have R1 := Lib.hid (R0.out.step hb1)
  clear x0 x1 x2 x3 xf R0 hb1 cw
  obtain ⟨x0, x1, x2, x3, xf⟩ := R1.out.b0.cells
  go_wp2_with fail
  refine (refCopy_any A A' n c m c' d d.left d.dead _ R1.out.dv).mono ?_
  rintro e w9 ⟨A9, c9, A9', c9', rfl, ho9, hb9⟩
  have R9 := Lib.hid (R1.out.step hb9)
  have V9 := Lib.hid (Own.dv (d := d) ho9 R1.out.dv.hn R1.out.dv.hm)
  clear x0 x1 x2 x3 xf R1 ho9 hb9
  obtain ⟨z0, z1, z2, z3, zf⟩ := R9.out.b1.cells
  have hz := R9.out.lt
  go_wp2
  refine bodyPost_ret (v := .tuple #[.agg #[.slice A9 n c9, .slice A9' m c9', .int .i64 d.left, .bool d.dead], .int .i64 q]) (by simp [results, Try.results26, go_sem, z0, z1, z2, z3]) rfl ?_
  exact R9.out.told V9.out q

set_option maxRecDepth 100000 in
set_option maxHeartbeats 1000000 in
theorem refRec_dead (A A' : Option Addr) (n c m c' : Nat) (bs : List ByteArray) (cs : List (Int × ByteArray)) (l : Int) (x y : Int) (w : World) (h : Dv w w.heap.size A n A' m ⟨bs, cs, l, true⟩) (h0 : wrongE ⟨bs, cs, l, true⟩ x y = 0) :
    Calls Try.prog 26 #[.agg #[.slice A n c, .slice A' m c', .int .i64 l, .bool true], .int .i64 x, .int .i64 y] w fun e w' => Tells2 w w' ⟨bs, cs, l, true⟩ 17 e := by
  have R0 := Lib.hid (RB.new h c c')
  have cw := refWrong_any A A' n c m c' ⟨bs, cs, l, true⟩ x y _ R0.out.dv
  rw [h0] at cw
  obtain ⟨x0, x1, x2, x3, xf⟩ := R0.out.b0.cells
  dsimp only at x2 x3
  clear h h0
  go_enter Try.func26, Try.ntmps26
  go_wp2_with fail
  refine cw.mono ?_
  rintro e w1 ⟨rfl, hb1⟩
  have R1 := Lib.hid (R0.out.step hb1)
  clear x0 x1 x2 x3 xf R0 hb1 cw
  obtain ⟨x0, x1, x2, x3, xf⟩ := R1.out.b0.cells
  dsimp only at x2 x3
  go_wp2_with fail
  refine (refCopy_any A A' n c m c' ⟨bs, cs, l, true⟩ l true _ R1.out.dv).mono ?_
  rintro e w9 ⟨A9, c9, A9', c9', rfl, ho9, hb9⟩
  have R9 := Lib.hid (R1.out.step hb9)
  have V9 := Lib.hid (Own.dv (d := ⟨bs, cs, l, true⟩) ho9 R1.out.dv.hn R1.out.dv.hm)
  clear x0 x1 x2 x3 xf R1 ho9 hb9
  obtain ⟨z0, z1, z2, z3, zf⟩ := R9.out.b1.cells
  have hz := R9.out.lt
  go_wp2
  refine bodyPost_ret (v := .tuple #[.agg #[.slice A9 n c9, .slice A9' m c9', .int .i64 l, .bool true], .int .i64 17]) (by simp [results, Try.results26, go_sem, z0, z1, z2, z3]) rfl ?_
  exact R9.out.told V9.out 17

set_option maxRecDepth 100000 in
set_option maxHeartbeats 1000000 in
theorem refRec_zero (A A' : Option Addr) (n c m c' : Nat) (bs : List ByteArray) (cs : List (Int × ByteArray)) (l : Int) (x y : Int) (w : World) (h : Dv w w.heap.size A n A' m ⟨bs, cs, l, false⟩) (h0 : wrongE ⟨bs, cs, l, false⟩ x y = 0) (hz : headB ⟨bs, cs, l, false⟩ = zeroB) :
    Calls Try.prog 26 #[.agg #[.slice A n c, .slice A' m c', .int .i64 l, .bool false], .int .i64 x, .int .i64 y] w fun e w' => Tells2 w w' ⟨bs, cs, l, false⟩ 0 e := by
  have R0 := Lib.hid (RB.new h c c')
  have cw := refWrong_any A A' n c m c' ⟨bs, cs, l, false⟩ x y _ R0.out.dv
  rw [h0] at cw
  have cr := fun W hW => refRead_any A A' n c m c' ⟨bs, cs, l, false⟩ 0 W hW
  rw [show (readD ⟨bs, cs, l, false⟩ 0).1 = zeroB from hz] at cr
  generalize (readD ⟨bs, cs, l, false⟩ 0).2 = re at cr
  obtain ⟨x0, x1, x2, x3, xf⟩ := R0.out.b0.cells
  dsimp only at x2 x3
  have heq : (zeroB.toList == zeroB.toList) = true := by simp
  clear h h0 hz
  go_enter Try.func26, Try.ntmps26
  go_wp2_with fail
  refine cw.mono ?_
  rintro e w1 ⟨rfl, hb1⟩
  have R1 := Lib.hid (R0.out.step hb1)
  clear x0 x1 x2 x3 xf R0 hb1 cw
  obtain ⟨x0, x1, x2, x3, xf⟩ := R1.out.b0.cells
  dsimp only at x2 x3
  go_wp2_with fail
  refine (cr _ R1.out.dv).mono ?_
  rintro e w2 ⟨rfl, hb2⟩
  have R2 := Lib.hid (R1.out.step hb2)
  clear x0 x1 x2 x3 xf R1 hb2 cr
  obtain ⟨x0, x1, x2, x3, xf⟩ := R2.out.b0.cells
  dsimp only at x2 x3
  go_wp2_with fail
  refine (zeros_any _).mono ?_
  rintro e w3 ⟨rfl, hb3⟩
  have R3 := Lib.hid (R2.out.step hb3)
  clear x0 x1 x2 x3 xf R2 hb3
  obtain ⟨x0, x1, x2, x3, xf⟩ := R3.out.b0.cells
  dsimp only at x2 x3
  go_wp2_with fail
  refine (refCopy_any A A' n c m c' ⟨bs, cs, l, false⟩ l false _ R3.out.dv).mono ?_
  rintro e w9 ⟨A9, c9, A9', c9', rfl, ho9, hb9⟩
  have R9 := Lib.hid (R3.out.step hb9)
  have V9 := Lib.hid (Own.dv (d := ⟨bs, cs, l, false⟩) ho9 R3.out.dv.hn R3.out.dv.hm)
  clear x0 x1 x2 x3 xf R3 ho9 hb9
  obtain ⟨z0, z1, z2, z3, zf⟩ := R9.out.b1.cells
  have hz := R9.out.lt
  go_wp2
  refine bodyPost_ret (v := .tuple #[.agg #[.slice A9 n c9, .slice A9' m c9', .int .i64 l, .bool false], .int .i64 0]) (by simp [results, Try.results26, go_sem, z0, z1, z2, z3]) rfl ?_
  exact R9.out.told V9.out 0

set_option maxRecDepth 100000 in
set_option maxHeartbeats 2000000 in
theorem refRec_form (A A' : Option Addr) (n c m c' : Nat) (bs : List ByteArray) (cs : List (Int × ByteArray)) (l : Int) (h g : Nat) (w : World) (H : Dv w w.heap.size A n A' m ⟨bs, cs, l, false⟩) (h0 : wrongE ⟨bs, cs, l, false⟩ h g = 0) (hz : headB ⟨bs, cs, l, false⟩ ≠ zeroB) (hs : (headB ⟨bs, cs, l, false⟩).size = 128)
    (hf : ((((headB ⟨bs, cs, l, false⟩).extract 0 4).data.toList ≠ [65, 87, 76, 49] ∨ (headB ⟨bs, cs, l, false⟩).data.toList.drop 18 ≠ List.replicate 110 0) ∨ cntN ⟨bs, cs, l, false⟩ < 1 ∨ g < cntN ⟨bs, cs, l, false⟩ ∨ h < cntN ⟨bs, cs, l, false⟩)) :
    Calls Try.prog 26 #[.agg #[.slice A n c, .slice A' m c', .int .i64 l, .bool false], .int .i64 h, .int .i64 g] w fun e w' => Tells2 w w' ⟨bs, cs, l, false⟩ 10 e := by
  have hmx : Try.prog.follows .mixedOrders = true := by kernel_rfl
  have R0 := Lib.hid (RB.new H c c')
  have cw := refWrong_any A A' n c m c' ⟨bs, cs, l, false⟩ h g _ R0.out.dv
  rw [h0] at cw
  have cr := fun W hW => refRead_any A A' n c m c' ⟨bs, cs, l, false⟩ 0 W hW
  obtain ⟨hb, hhb⟩ : ∃ hb, hb = headB ⟨bs, cs, l, false⟩ := ⟨_, rfl⟩
  rw [show (readD ⟨bs, cs, l, false⟩ 0).1 = hb from hhb.symm] at cr
  generalize (readD ⟨bs, cs, l, false⟩ 0).2 = re at cr
  have cn := fun W => refNe_any (hb.extract 12 14) W (by rw [ByteArray.size_extract]; omega)
  have hcl := cntN_lt ⟨bs, cs, l, false⟩
  rw [show neL (hb.extract 12 14).data.toList = cntN ⟨bs, cs, l, false⟩ by rw [hhb]; rfl] at cn
  rw [← hhb] at hz hs hf
  generalize cntN ⟨bs, cs, l, false⟩ = N at hf cn hcl
  obtain ⟨x0, x1, x2, x3, xf⟩ := R0.out.b0.cells
  dsimp only at x2 x3
  have HF := Lib.hid hf
  have heq : (hb.toList == zeroB.toList) = false := by
    rw [beq_eq_false_iff_ne]
    intro e
    exact hz (by
      rw [ByteArray.toList_eq, ByteArray.toList_eq] at e
      exact ByteArray.ext (Array.toList_inj.1 e))
  have h18 : (hb.extract 18 128).toList = hb.data.toList.drop 18 := by
    rw [ByteArray.toList_eq, ByteArray.data_extract, Array.toList_extract, List.extract_eq_take_drop, List.take_of_length_le]
    rw [List.length_drop, Array.length_toList]
    have : hb.data.size = 128 := hs
    omega
  have hz18 : (zeroB.extract 18 128).toList = List.replicate 110 0 := by decide +kernel
  have h4 : (hb.extract 0 4).toList = (hb.extract 0 4).data.toList := ByteArray.toList_eq _
  have T1 := Lib.hid h4
  have T2 := Lib.hid (And.intro h18 hz18)
  have hzs : zeroB.size = 128 := zeroB_size
  clear H h0 hz hf hhb h4 h18 hz18
  go_enter Try.func26, Try.ntmps26
  go_wp2_with fail
  refine cw.mono ?_
  rintro e w1 ⟨rfl, hb1⟩
  have R1 := Lib.hid (R0.out.step hb1)
  clear x0 x1 x2 x3 xf R0 hb1 cw
  obtain ⟨x0, x1, x2, x3, xf⟩ := R1.out.b0.cells
  dsimp only at x2 x3
  go_wp2_with fail
  refine (cr _ R1.out.dv).mono ?_
  rintro e w2 ⟨rfl, hb2⟩
  have R2 := Lib.hid (R1.out.step hb2)
  clear x0 x1 x2 x3 xf R1 hb2 cr
  go_wp2_with fail
  refine (zeros_any _).mono ?_
  rintro e w3 ⟨rfl, hb3⟩
  have R3 := Lib.hid (R2.out.step hb3)
  clear R2 hb3
  go_wp2_with fail
  refine (cn _).mono ?_
  rintro e w4 ⟨rfl, rfl⟩
  have hw1 : IntKind.i64.wrap (N : Int) = (N : Int) := IntWalk.i64_in _ (by omega)
  go_wp2_with fail
  by_cases t1 : ((hb.extract 0 4).toList == [65, 87, 76, 49]) = true
  · by_cases t2 : ((hb.extract 18 128).toList == (zeroB.extract 18 128).toList) = true
    · by_cases c0 : N < 1
      · have n0 : decide ((N : Int) < 1) = true := decide_eq_true (by omega)
        refine region_belowR (w0 := w3) (Below.refl _ _) hmx (by kernel_rfl) ?_
        repeat (first
          | go_big_quiet_skip
          | (go_big_quiet_want; go_big_quiet_op; first
              | go_big_quiet_on
              | (refine ⟨_, fun _ _ => rfl, ?_⟩; go_big_quiet_on)
              | (apply Exists.intro
                 refine ⟨fun w5 hw5 => ?_, ?_⟩
                 · (refine (zeros_any _).mono ?_; rintro e w6 ⟨rfl, hbx⟩; exact ⟨rfl, bstep hw5 hbx⟩)
                 go_big_quiet_on)))
        refine wpQuiet_nil ?_
        intro w7 hw7
        have R7 := Lib.hid (R3.out.step hw7)
        clear hw7 R3
        obtain ⟨x0, x1, x2, x3, xf⟩ := R7.out.b0.cells
        dsimp only at x2 x3
        go_wp2_with fail
        refine (refCopy_any A A' n c m c' ⟨bs, cs, l, false⟩ l false _ R7.out.dv).mono ?_
        rintro e w9 ⟨A9, c9, A9', c9', rfl, ho9, hb9⟩
        have R9 := Lib.hid (R7.out.step hb9)
        have V9 := Lib.hid (Own.dv (d := ⟨bs, cs, l, false⟩) ho9 R7.out.dv.hn R7.out.dv.hm)
        clear x0 x1 x2 x3 xf R7 ho9 hb9
        obtain ⟨z0, z1, z2, z3, zf⟩ := R9.out.b1.cells
        have hz := R9.out.lt
        go_wp2
        refine bodyPost_ret (v := .tuple #[.agg #[.slice A9 n c9, .slice A9' m c9', .int .i64 l, .bool false], .int .i64 10]) (by simp [results, Try.results26, go_sem, z0, z1, z2, z3]) rfl ?_
        exact R9.out.told V9.out 10
      · by_cases c1 : g < N
        · have n0 : decide ((N : Int) < 1) = false := decide_eq_false (by omega)
          have n1 : decide ((g : Int) < (N : Int)) = true := decide_eq_true (by omega)
          refine region_belowR (w0 := w3) (Below.refl _ _) hmx (by kernel_rfl) ?_
          repeat (first
            | go_big_quiet_skip
            | (go_big_quiet_want; go_big_quiet_op; first
                | go_big_quiet_on
                | (refine ⟨_, fun _ _ => rfl, ?_⟩; go_big_quiet_on)
                | (apply Exists.intro
                   refine ⟨fun w5 hw5 => ?_, ?_⟩
                   · (refine (zeros_any _).mono ?_; rintro e w6 ⟨rfl, hbx⟩; exact ⟨rfl, bstep hw5 hbx⟩)
                   go_big_quiet_on)))
          refine wpQuiet_nil ?_
          intro w7 hw7
          have R7 := Lib.hid (R3.out.step hw7)
          clear hw7 R3
          obtain ⟨x0, x1, x2, x3, xf⟩ := R7.out.b0.cells
          dsimp only at x2 x3
          go_wp2_with fail
          refine (refCopy_any A A' n c m c' ⟨bs, cs, l, false⟩ l false _ R7.out.dv).mono ?_
          rintro e w9 ⟨A9, c9, A9', c9', rfl, ho9, hb9⟩
          have R9 := Lib.hid (R7.out.step hb9)
          have V9 := Lib.hid (Own.dv (d := ⟨bs, cs, l, false⟩) ho9 R7.out.dv.hn R7.out.dv.hm)
          clear x0 x1 x2 x3 xf R7 ho9 hb9
          obtain ⟨z0, z1, z2, z3, zf⟩ := R9.out.b1.cells
          have hz := R9.out.lt
          go_wp2
          refine bodyPost_ret (v := .tuple #[.agg #[.slice A9 n c9, .slice A9' m c9', .int .i64 l, .bool false], .int .i64 10]) (by simp [results, Try.results26, go_sem, z0, z1, z2, z3]) rfl ?_
          exact R9.out.told V9.out 10
        · by_cases c2 : h < N
          · have n0 : decide ((N : Int) < 1) = false := decide_eq_false (by omega)
            have n1 : decide ((g : Int) < (N : Int)) = false := decide_eq_false (by omega)
            have n2 : decide ((h : Int) < (N : Int)) = true := decide_eq_true (by omega)
            refine region_belowR (w0 := w3) (Below.refl _ _) hmx (by kernel_rfl) ?_
            repeat (first
              | go_big_quiet_skip
              | (go_big_quiet_want; go_big_quiet_op; first
                  | go_big_quiet_on
                  | (refine ⟨_, fun _ _ => rfl, ?_⟩; go_big_quiet_on)
                  | (apply Exists.intro
                     refine ⟨fun w5 hw5 => ?_, ?_⟩
                     · (refine (zeros_any _).mono ?_; rintro e w6 ⟨rfl, hbx⟩; exact ⟨rfl, bstep hw5 hbx⟩)
                     go_big_quiet_on)))
            refine wpQuiet_nil ?_
            intro w7 hw7
            have R7 := Lib.hid (R3.out.step hw7)
            clear hw7 R3
            obtain ⟨x0, x1, x2, x3, xf⟩ := R7.out.b0.cells
            dsimp only at x2 x3
            go_wp2_with fail
            refine (refCopy_any A A' n c m c' ⟨bs, cs, l, false⟩ l false _ R7.out.dv).mono ?_
            rintro e w9 ⟨A9, c9, A9', c9', rfl, ho9, hb9⟩
            have R9 := Lib.hid (R7.out.step hb9)
            have V9 := Lib.hid (Own.dv (d := ⟨bs, cs, l, false⟩) ho9 R7.out.dv.hn R7.out.dv.hm)
            clear x0 x1 x2 x3 xf R7 ho9 hb9
            obtain ⟨z0, z1, z2, z3, zf⟩ := R9.out.b1.cells
            have hz := R9.out.lt
            go_wp2
            refine bodyPost_ret (v := .tuple #[.agg #[.slice A9 n c9, .slice A9' m c9', .int .i64 l, .bool false], .int .i64 10]) (by simp [results, Try.results26, go_sem, z0, z1, z2, z3]) rfl ?_
            exact R9.out.told V9.out 10
          · exact absurd HF.out (by
              rw [not_or, not_or, not_or, not_or]
              have e1 : (hb.extract 0 4).toList = [65, 87, 76, 49] := by simpa using t1
              have e2 : (hb.extract 18 128).toList = (zeroB.extract 18 128).toList := by simpa using t2
              rw [T1.out] at e1
              rw [T2.out.1, T2.out.2] at e2
              exact ⟨⟨fun h => h e1, fun h => h e2⟩, c0, c1, c2⟩)
    · replace t2 : ((hb.extract 18 128).toList == (zeroB.extract 18 128).toList) = false := by simpa using t2
      refine region_belowR (w0 := w3) (Below.refl _ _) hmx (by kernel_rfl) ?_
      repeat (first
        | go_big_quiet_skip
        | (go_big_quiet_want; go_big_quiet_op; first
            | go_big_quiet_on
            | (refine ⟨_, fun _ _ => rfl, ?_⟩; go_big_quiet_on)
            | (apply Exists.intro
               refine ⟨fun w5 hw5 => ?_, ?_⟩
               · (refine (zeros_any _).mono ?_; rintro e w6 ⟨rfl, hbx⟩; exact ⟨rfl, bstep hw5 hbx⟩)
               go_big_quiet_on)))
      refine wpQuiet_nil ?_
      intro w7 hw7
      have R7 := Lib.hid (R3.out.step hw7)
      clear hw7 R3
      obtain ⟨x0, x1, x2, x3, xf⟩ := R7.out.b0.cells
      dsimp only at x2 x3
      go_wp2_with fail
      refine (refCopy_any A A' n c m c' ⟨bs, cs, l, false⟩ l false _ R7.out.dv).mono ?_
      rintro e w9 ⟨A9, c9, A9', c9', rfl, ho9, hb9⟩
      have R9 := Lib.hid (R7.out.step hb9)
      have V9 := Lib.hid (Own.dv (d := ⟨bs, cs, l, false⟩) ho9 R7.out.dv.hn R7.out.dv.hm)
      clear x0 x1 x2 x3 xf R7 ho9 hb9
      obtain ⟨z0, z1, z2, z3, zf⟩ := R9.out.b1.cells
      have hz := R9.out.lt
      go_wp2
      refine bodyPost_ret (v := .tuple #[.agg #[.slice A9 n c9, .slice A9' m c9', .int .i64 l, .bool false], .int .i64 10]) (by simp [results, Try.results26, go_sem, z0, z1, z2, z3]) rfl ?_
      exact R9.out.told V9.out 10
  · replace t1 : ((hb.extract 0 4).toList == [65, 87, 76, 49]) = false := by simpa using t1
    refine region_belowR (w0 := w3) (Below.refl _ _) hmx (by kernel_rfl) ?_
    repeat (first
      | go_big_quiet_skip
      | (go_big_quiet_want; go_big_quiet_op; first
          | go_big_quiet_on
          | (refine ⟨_, fun _ _ => rfl, ?_⟩; go_big_quiet_on)
          | (apply Exists.intro
             refine ⟨fun w5 hw5 => ?_, ?_⟩
             · (refine (zeros_any _).mono ?_; rintro e w6 ⟨rfl, hbx⟩; exact ⟨rfl, bstep hw5 hbx⟩)
             go_big_quiet_on)))
    refine wpQuiet_nil ?_
    intro w7 hw7
    have R7 := Lib.hid (R3.out.step hw7)
    clear hw7 R3
    obtain ⟨x0, x1, x2, x3, xf⟩ := R7.out.b0.cells
    dsimp only at x2 x3
    go_wp2_with fail
    refine (refCopy_any A A' n c m c' ⟨bs, cs, l, false⟩ l false _ R7.out.dv).mono ?_
    rintro e w9 ⟨A9, c9, A9', c9', rfl, ho9, hb9⟩
    have R9 := Lib.hid (R7.out.step hb9)
    have V9 := Lib.hid (Own.dv (d := ⟨bs, cs, l, false⟩) ho9 R7.out.dv.hn R7.out.dv.hm)
    clear x0 x1 x2 x3 xf R7 ho9 hb9
    obtain ⟨z0, z1, z2, z3, zf⟩ := R9.out.b1.cells
    have hz := R9.out.lt
    go_wp2
    refine bodyPost_ret (v := .tuple #[.agg #[.slice A9 n c9, .slice A9' m c9', .int .i64 l, .bool false], .int .i64 10]) (by simp [results, Try.results26, go_sem, z0, z1, z2, z3]) rfl ?_
    exact R9.out.told V9.out 10

end Go.Proofs.Ytlmapbipgdhoiaa
