/-
  The chapter's example: the law's function.
-/
import Derived.Test.YtcfmpmcdfllibaaG32
import Derived.Test.YtcfmpmcdfllibaaG16
import Derived.Test.YtcfmpmcdfllibaaG26
namespace Go.Proofs.Ytcfmpmcdfllibaa
open Go.RowKit

set_option maxRecDepth 100000 in
set_option maxHeartbeats 8000000 in
theorem awake5_any (w : World) : Calls Try.prog 9 #[] w fun e w' => e = .returned (.bool true) ∧ Below w.heap.size w w' := by
  have cmk := makeA_any 16 w
  rw [ex5_1] at cmk
  have cn := fun A c W hW => newI_any A 16 c exM 1 W hW (by omega) (by omega)
  rw [show newI exM 1 = (exN, 0, 0) from Prod.ext rfl ex5_2] at cn
  have cw := fun A c W hW => writeI_any A 16 c exN 0 130 ⟨#[120]⟩ W hW ex5_m1 (by omega) (by omega) (by decide)
  rw [show writeI exN 0 130 ⟨#[120]⟩ = (exW, 0) from Prod.ext rfl ex5_3] at cw
  have cr := fun A c W hW => readI_any A 16 c exW 0 W hW (by omega)
  unfold ReadP at cr
  rw [show readI exW 0 = (exR, 0) from Prod.ext rfl ex5_4] at cr
  have ct := fun A c W hW => truncI_any A 16 c exW 0 0 W hW ex5_m2 (by omega) (by omega)
  rw [show truncI exW 0 0 = (exT, 0) from Prod.ext rfl ex5_6] at ct
  have cb := fun A c W hW => blocks_any A 16 c exW 0 W hW (by omega)
  unfold RowP at cb
  rw [ex5_9] at cb
  have cf := fun A c W hW => freeA_any A 16 c exT W hW ex5_m3
  rw [ex5_8] at cf
  have cs := fun A c W hW => soundI_any A 16 c exW W hW (by omega)
  rw [ex5_10] at cs
  have cs0 := fun W => soundI_any none 0 0 [] W Reads.nil (by omega)
  rw [ex5_11] at cs0
  have HL := Lib.hid ex5_7
  have hs : exR.size = 131 := by have := congrArg List.length ex5_5; simpa using this
  have h130 : 130 < exR.size := by omega
  have h0 : 0 < exR.size := by omega
  have e130 : (((exR[130]'h130).toNat : Int) == 120) = true := by
    have h := congrArg (fun l : List UInt8 => l[130]?) ex5_5
    have : (exR[130]'h130) = 120 := by
      have h2 : exR.data.toList[130]? = some (exR[130]'h130) := by
        rw [List.getElem?_eq_getElem (by simpa using h130)]; rfl
      rw [h2] at h
      simpa using h
    rw [this]; rfl
  have e0 : (((exR[0]'h0).toNat : Int) == 0) = true := by
    have h := congrArg (fun l : List UInt8 => l[0]?) ex5_5
    have : (exR[0]'h0) = 0 := by
      have h2 : exR.data.toList[0]? = some (exR[0]'h0) := by
        rw [List.getElem?_eq_getElem (by simpa using h0)]; rfl
      rw [h2] at h
      simpa using h
    rw [this]; rfl
  dsimp only at cmk cn cw cr ct
  generalize exM = eM at *
  generalize exN = eN at *
  generalize exW = eW at *
  generalize exR = s at *
  generalize exT = eT at *
  have hsi : ((s.size : Int) == 131) = true := by rw [hs]; rfl
  have t34 : decide (([3, 4] : List Nat) = [3, 4]) = true := rfl
  go_enter Try.func9, Try.ntmps9
  go_wp2_with fail
  refine cmk.mono ?_
  rintro e w1 ⟨A1, n1, c1, rfl, ho1, _, hb1⟩
  obtain rfl : n1 = 16 := by rw [← (Reads.of_own ho1).lenS, HL.out.2.1]
  have R1 := Lib.hid (And.intro (Reads.of_own ho1) hb1)
  clear ho1 hb1 cmk
  go_wp2_with fail
  refine (cn _ _ _ R1.out.1).mono ?_
  rintro e w2 ⟨g2, n2, c2, rfl, hO2, _, hb2⟩
  obtain rfl : n2 = 16 := by rw [← hO2.reads.lenS, HL.out.2.2.1]
  have R2 := Lib.hid (And.intro hO2.reads (bstep R1.out.2 hb2))
  clear R1 hO2 hb2 cn
  go_wp2_with fail
  refine (cw _ _ _ R2.out.1).mono ?_
  rintro e w3 ⟨g3, n3, c3, rfl, hO3, _, hb3⟩
  obtain rfl : n3 = 16 := by rw [← hO3.reads.lenS, HL.out.2.2.2]
  have G3 := Lib.hid (Bag.add (T := []) (w0 := w) ⟨fun _ h => absurd h (by simp), bstep R2.out.2 hb3⟩ hO3.reads)
  clear R2 hO3 hb3 cw
  go_wp2_with fail
  refine (cr _ _ _ (G3.out.get _ _ (encS eW) (by simp))).mono ?_
  rintro e w4 ⟨rfl, hb⟩
  have G4 := Lib.hid (G3.out.step hb)
  clear G3 hb cr
  go_wp2_with fail
  refine (ct _ _ _ (G4.out.get _ _ (encS eW) (by simp))).mono ?_
  rintro e w5 ⟨g5, n5, c5, rfl, hO5, _, hb⟩
  obtain rfl : n5 = 16 := by rw [← hO5.reads.lenS, HL.out.1]
  have G5 := Lib.hid ((G4.out.step hb).add hO5.reads)
  clear G4 hb hO5 ct
  go_wp2_with fail
  refine (cb _ _ _ (G5.out.get _ _ (encS eW) (by simp))).mono ?_
  rintro e w6 ⟨A6, c6, rfl, ho6, hb⟩
  have G6 := Lib.hid (((G5.out.step hb).add (Reads.of_own ho6)).alloc (.cells #[.int .i64 3, .int .i64 4] 3))
  have L6 := Lib.hid (show Reads _ _ _ _ _ (encN [3, 4]) from reads_lit (w := w6) (e := 3) [3, 4] #[.int .i64 3, .int .i64 4] 2 rfl rfl)
  clear G5 hb ho6 cb
  go_wp2_with fail
  generalize w6.alloc (.cells #[.int .i64 3, .int .i64 4] 3) = w7 at G6 L6 ⊢
  refine (refInts_any _ _ _ _ _ _ [3, 4] [3, 4] _ (G6.out.get A6 _ _ (by simp)) L6.out (by simp) (by omega)).mono ?_
  rintro e w8 ⟨rfl, q, rfl⟩
  have G8 := Lib.hid (G6.out.drewN q)
  clear G6 L6
  generalize w7.drewN q = w8 at G8 ⊢
  go_wp2_with fail
  refine (cf _ _ _ (G8.out.get _ _ (encS eT) (by simp))).mono ?_
  rintro e w9 ⟨rfl, hb⟩
  have G9 := Lib.hid (G8.out.step hb)
  clear G8 hb cf
  go_wp2_with fail
  refine (cs _ _ _ (G9.out.get _ _ (encS eW) (by simp))).mono ?_
  rintro e w10 ⟨rfl, hb⟩
  have G10 := Lib.hid (G9.out.step hb)
  clear G9 hb cs
  go_wp2_with fail
  refine (cs0 _).mono ?_
  rintro e w11 ⟨rfl, hb⟩
  have G11 := Lib.hid (G10.out.step hb)
  clear G10 hb cs0
  go_wp2
  go_ret
  exact ⟨rfl, G11.out.below⟩

end Go.Proofs.Ytcfmpmcdfllibaa

/-
  InodeSound is true of every list of texts.
-/
namespace Go.Proofs.Ytcfmpmcdfllibaa
open Go.RowKit

set_option maxRecDepth 100000 in
set_option maxHeartbeats 2000000 in
theorem inodeSound_any (P : Option Addr) (p pc : Nat) (a : List ByteArray) (w : World) (hP : Reads w w.heap.size 1 P p (encS a)) (hp : p * 16 ≤ 140737488355328) :
    Calls Try.prog 3 #[.slice P p pc] w fun e w' => e = .returned (.bool true) ∧ Below w.heap.size w w' := by
  have H := Lib.hid hP
  have c1 := soundI_any P p pc a w hP hp
  have c2 := fun W hW => refSound_any P p pc a W hW hp
  rw [soundR_eq] at c2
  obtain ⟨u, hu⟩ : ∃ u, u = soundI a := ⟨_, rfl⟩
  rw [← hu] at c1 c2
  have eu : (u == u) = true := by simp
  clear hP hu
  go_enter Try.func3, Try.ntmps3
  go_wp2_with fail
  refine c1.mono ?_
  rintro e w1 ⟨rfl, hb1⟩
  have R1 := Lib.hid hb1
  clear hb1 c1
  go_wp2_with fail
  refine (c2 _ (H.out.step R1.out)).mono ?_
  rintro e w2 ⟨rfl, hb2⟩
  have R2 := Lib.hid (bstep R1.out hb2)
  clear R1 hb2 c2
  go_wp2_with fail
  refine (awake5_any _).mono ?_
  rintro e w3 ⟨rfl, hb3⟩
  have R3 := Lib.hid (bstep R2.out hb3)
  clear R2 hb3
  go_wp2
  go_ret
  exact ⟨rfl, R3.out⟩

end Go.Proofs.Ytcfmpmcdfllibaa
