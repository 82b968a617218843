/-
  Blocks taken by the program, any number; the chapter's example; AllocMakes.
-/
import Derived.Test.YtihmgamdnmipaaaAllocTake
import Derived.Test.YtihmgamdnmipaaaWalRefSmall
namespace Go.Proofs.Ytihmgamdnmipaaa
open Go.RowKit

set_option maxRecDepth 100000 in
set_option maxHeartbeats 2000000 in
theorem takeA_any (A : Option Addr) (n c : Nat) (img : List ByteArray) (x : Int) (w : World) (h : Reads w w.heap.size 1 A n (encS img)) (hf : MapP img) (hx : x ≤ 9223372036854775807) :
    Calls Try.prog 17 #[.slice A n c, .int .i64 x] w fun e w' => ImgL w w' (takeA img x).1 (takeA img x).2.1 (takeA img x).2.2 e := by
  by_cases h0 : x < 0
  · have HE : Hid (takeA img x = (img, [], 13)) := Lib.hid (by unfold takeA; rw [if_pos h0])
    have hl := h.lenS
    have h8 : 8 ≤ n := by have := hf.1; omega
    have h5 : n ≤ 512 := by have := hf.1; omega
    have hco := cloneS_any A n c img (w.alloc (.cells #[.int .i64 x] 3)) (h.alloc _) (by omega)
    have cx : ∀ W, Below (w.alloc (.cells #[.int .i64 x] 3)).heap.size (w.alloc (.cells #[.int .i64 x] 3)) W → W.cell? ⟨w.heap.size, 0, none⟩ = some (.int .i64 x) := fun W hW => by
      have := hW.cell (p := ⟨w.heap.size, 0, none⟩) (by simp)
      rw [this]
      go_simp
    clear h hf hl
    go_enter Try.func17, Try.ntmps17
    go_wp2
    go_step3
    go_wp2_with fail
    refine hco.mono ?_
    rintro e w1 ⟨A1, c1, rfl, ho1, hb1⟩
    have c1x := cx w1 hb1
    have HR := Lib.hid (And.intro (Reads.of_own ho1) (((Below.refl _ w).alloc (Nat.le_refl _) (.cells #[.int .i64 x] 3)).trans (hb1.mono (by simp))))
    clear ho1 hb1 hco cx
    go_wp2
    rw [Exit.noGoto_ret]
    go_ret3
    rw [HE.out]
    exact ⟨A1, n, c1, none, 0, 0, rfl, HR.out.1, h5, Reads.nil, by omega, HR.out.2⟩
  · obtain ⟨K, rfl⟩ : ∃ K : Nat, x = K := ⟨x.toNat, by omega⟩
    exact takeA_in A n c img K w h hf (by omega)

/-- The chapter's example. -/
def exI : List ByteArray := (makeA 16).1
def exA : List ByteArray := (takeA exI 2).1
def exB : List ByteArray := (giveA exA [4]).1
theorem ex_1 : makeA 16 = (exI, 0) := by
  refine Prod.ext rfl ?_
  decide +kernel
theorem ex_len : exI.length = 16 := by decide +kernel
theorem ex_2 : (takeA exI 2).2 = ([3, 4], 0) := by decide +kernel
theorem ex_3 : (giveA exA [4]).2 = 0 := by decide +kernel
theorem ex_4 : (takeA exB 1).2 = ([4], 0) := by decide +kernel
theorem ex_5 : (giveA exI [2]).2 = 15 := by decide +kernel
theorem ex_6 : (freeA exI).length = 13 := by decide +kernel
theorem ex_7 : takenA exI 0 = true := by decide +kernel
theorem ex_8 : takenA exI 3 = false := by decide +kernel
theorem ex_m1 : MapP exI := by unfold MapP; decide +kernel
theorem ex_m2 : MapP exA := by unfold MapP; decide +kernel
theorem ex_m3 : MapP exB := by unfold MapP; decide +kernel

theorem reads_lit {w : World} {e : TypeId} (l : List Int) (cs : Array Value) (n : Nat) (h : cs.toList = encI l) (hn : cs.size = n) : Reads (w.alloc (.cells cs e)) (w.alloc (.cells cs e)).heap.size 1 (some ⟨w.heap.size, 0, none⟩) n (encI l) := by
  have := reads_new w cs e n 1 (by omega)
  rwa [h] at this
theorem below_all {w w1 : World} (h : Below w.heap.size w w1) (o : Obj) : Below w.heap.size w (w1.alloc o) := h.alloc h.size o

set_option maxRecDepth 100000 in
set_option maxHeartbeats 4000000 in
theorem awake4_any (w : World) : Calls Try.prog 15 #[] w fun e w' => e = .returned (.bool true) ∧ Below w.heap.size w w' := by
  have cmk := makeA_any 16 w
  rw [ex_1] at cmk
  have ct1 := fun A c W hW => takeA_any A 16 c exI 2 W hW ex_m1 (by omega)
  rw [show takeA exI 2 = (exA, [3, 4], 0) from Prod.ext rfl ex_2] at ct1
  have cg1 := fun A c B m W hW hB => giveA_any A B 16 c 1 m exA [4] W hW ex_m2 hB (by omega)
  rw [show giveA exA [4] = (exB, 0) from Prod.ext rfl ex_3] at cg1
  have ct2 := fun A c W hW => takeA_any A 16 c exB 1 W hW ex_m3 (by omega)
  obtain ⟨exC, hC⟩ : ∃ x, x = (takeA exB 1).1 := ⟨_, rfl⟩
  rw [show takeA exB 1 = (exC, [4], 0) from Prod.ext hC.symm ex_4] at ct2
  have cg2 := fun A c B m W hW hB => giveA_any A B 16 c 1 m exI [2] W hW ex_m1 hB (by omega)
  obtain ⟨exD, hD⟩ : ∃ x, x = (giveA exI [2]).1 := ⟨_, rfl⟩
  rw [show giveA exI [2] = (exD, 15) from Prod.ext hD.symm ex_5] at cg2
  have cf := fun A c W hW => freeA_any A 16 c exI W hW ex_m1
  rw [ex_6] at cf
  have ck0 := fun A c W hW => takenA_any A 16 c exI 0 W hW ex_m1
  rw [ex_7] at ck0
  have ck3 := fun A c W hW => takenA_any A 16 c exI 3 W hW ex_m1
  rw [ex_8] at ck3
  have ci := fun A c W => inodes_any A 16 c (by unfold maxLen; omega) W
  rw [show cntA 16 = 4 by decide] at ci
  have cr := fun A c W => first_any A 16 c (by unfold maxLen; omega) W
  rw [show firstA 16 = 3 by decide] at cr
  have HLI := Lib.hid ex_len
  have HLA := Lib.hid (show exA.length = 16 by decide +kernel)
  have HLB := Lib.hid (show exB.length = 16 by decide +kernel)
  dsimp only at cmk ct1 cg1 ct2 cg2
  clear hC hD
  generalize exI = eI at *
  generalize exA = eA at *
  generalize exB = eB at *
  go_enter Try.func15, Try.ntmps15
  go_wp2_with fail
  refine cmk.mono ?_
  rintro e w1 ⟨A1, n1, c1, rfl, ho1, _, hb1⟩
  have R1 := Lib.hid (And.intro (Reads.of_own ho1) hb1)
  obtain rfl : n1 = 16 := by rw [← R1.out.1.lenS, HLI.out]
  clear ho1 hb1 cmk
  go_wp2_with fail
  refine (ct1 _ _ _ R1.out.1).mono ?_
  rintro e w2 ⟨A2, n2, c2, B2, k2, d2, rfl, hr2, _, hl2, hk2, hb2⟩
  obtain rfl : n2 = 16 := by rw [← hr2.lenS, HLA.out]
  obtain rfl : k2 = 2 := hl2.lenN.symm
  have R2 := Lib.hid (And.intro (R1.out.1.step hb2) (And.intro hr2 (And.intro hl2 (bstep R1.out.2 hb2))))
  clear R1 hr2 hl2 hb2 ct1
  have R3 := Lib.hid (And.intro (R2.out.1.alloc (.cells #[.int .i64 4] 3)) (And.intro (R2.out.2.1.alloc (.cells #[.int .i64 4] 3)) (And.intro (R2.out.2.2.1.alloc (.cells #[.int .i64 4] 3)) (below_all R2.out.2.2.2 (.cells #[.int .i64 4] 3)))))
  have L3 := Lib.hid (reads_lit (w := w2) (e := 3) [4] #[.int .i64 4] 1 rfl rfl)
  go_wp2_with fail
  generalize w2.alloc (.cells #[.int .i64 4] 3) = w3 at R3 L3 ⊢
  refine (cg1 _ _ _ _ _ R3.out.2.1 L3.out).mono ?_
  rintro e w4 ⟨A4, n4, c4, rfl, hr4, _, hb4⟩
  obtain rfl : n4 = 16 := by rw [← hr4.lenS, HLB.out]
  have R4 := Lib.hid (And.intro (R3.out.1.step hb4) (And.intro hr4 (And.intro (R3.out.2.2.1.step hb4) (bstep R3.out.2.2.2 hb4))))
  clear R2 R3 L3 hr4 hb4 cg1
  go_wp2_with fail
  refine (ct2 _ _ _ R4.out.2.1).mono ?_
  rintro e w5 ⟨A5, n5, c5, B5, k5, d5, rfl, hr5, _, hl5, hk5, hb5⟩
  obtain rfl : k5 = 1 := hl5.lenN.symm
  have R5 := Lib.hid (And.intro (R4.out.1.step hb5) (And.intro (R4.out.2.2.1.step hb5) (And.intro hl5 (bstep R4.out.2.2.2 hb5))))
  clear R4 hr5 hl5 hb5 ct2
  have R6 := Lib.hid (And.intro (R5.out.1.alloc (.cells #[.int .i64 2] 3)) (And.intro (R5.out.2.1.alloc (.cells #[.int .i64 2] 3)) (And.intro (R5.out.2.2.1.alloc (.cells #[.int .i64 2] 3)) (below_all R5.out.2.2.2 (.cells #[.int .i64 2] 3)))))
  have L6 := Lib.hid (reads_lit (w := w5) (e := 3) [2] #[.int .i64 2] 1 rfl rfl)
  go_wp2_with fail
  generalize w5.alloc (.cells #[.int .i64 2] 3) = w6 at R6 L6 ⊢
  refine (cg2 _ _ _ _ _ R6.out.1 L6.out).mono ?_
  rintro e w7 ⟨A7, n7, c7, rfl, hr7, _, hb7⟩
  have R7 := Lib.hid (And.intro (R6.out.1.step hb7) (And.intro (R6.out.2.1.step hb7) (And.intro (R6.out.2.2.1.step hb7) (bstep R6.out.2.2.2 hb7))))
  clear R5 R6 L6 hr7 hb7 cg2
  go_wp2_with (first | (go_at_call 28; refine (ci _ _ _).mono ?_; rintro e w8 ⟨rfl, rfl⟩) | (go_at_call 26; refine (cr _ _ _).mono ?_; rintro e w8 ⟨rfl, rfl⟩))
  refine (cf _ _ _ R7.out.1).mono ?_
  rintro e w8 ⟨rfl, hb8⟩
  have R8 := Lib.hid (And.intro (R7.out.1.step hb8) (And.intro (R7.out.2.1.step hb8) (And.intro (R7.out.2.2.1.step hb8) (bstep R7.out.2.2.2 hb8))))
  clear R7 hb8 cf ci cr
  have R9 := Lib.hid (And.intro (R8.out.1.alloc (.cells #[.int .i64 3, .int .i64 4] 3)) (And.intro (R8.out.2.1.alloc (.cells #[.int .i64 3, .int .i64 4] 3)) (And.intro (R8.out.2.2.1.alloc (.cells #[.int .i64 3, .int .i64 4] 3)) (below_all R8.out.2.2.2 (.cells #[.int .i64 3, .int .i64 4] 3)))))
  have L9 := Lib.hid (show Reads _ _ _ _ _ (encN [3, 4]) from reads_lit (w := w8) (e := 3) [3, 4] #[.int .i64 3, .int .i64 4] 2 rfl rfl)
  have t1 : decide (([3, 4] : List Nat) = [3, 4]) = true := rfl
  have t2 : decide (([4] : List Nat) = [4]) = true := rfl
  go_wp2_with fail
  generalize w8.alloc (.cells #[.int .i64 3, .int .i64 4] 3) = w9 at R9 L9 ⊢
  refine (refInts_any _ _ _ _ _ _ [3, 4] [3, 4] _ R9.out.2.1 L9.out (by omega) (by omega)).mono ?_
  rintro e w10 ⟨rfl, q, rfl⟩
  have R10 := Lib.hid (And.intro (show Reads (w9.drewN q) (w9.drewN q).heap.size 1 _ _ _ from R9.out.1) (And.intro (show Reads (w9.drewN q) (w9.drewN q).heap.size 1 _ _ _ from R9.out.2.2.1) (below_drewN R9.out.2.2.2 q)))
  clear R8 R9 L9
  generalize w9.drewN q = w10 at R10 ⊢
  have R11 := Lib.hid (And.intro (R10.out.1.alloc (.cells #[.int .i64 4] 3)) (And.intro (R10.out.2.1.alloc (.cells #[.int .i64 4] 3)) (below_all R10.out.2.2 (.cells #[.int .i64 4] 3))))
  have L11 := Lib.hid (show Reads _ _ _ _ _ (encN [4]) from reads_lit (w := w10) (e := 3) [4] #[.int .i64 4] 1 rfl rfl)
  go_wp2_with fail
  generalize w10.alloc (.cells #[.int .i64 4] 3) = w11 at R11 L11 ⊢
  refine (refInts_any _ _ _ _ _ _ [4] [4] _ R11.out.2.1 L11.out (by omega) (by omega)).mono ?_
  rintro e w12 ⟨rfl, q2, rfl⟩
  have R12 := Lib.hid (And.intro (show Reads (w11.drewN q2) (w11.drewN q2).heap.size 1 _ _ _ from R11.out.1) (below_drewN R11.out.2.2 q2))
  clear R10 R11 L11
  generalize w11.drewN q2 = w12 at R12 ⊢
  go_wp2_with fail
  refine (ck0 _ _ _ R12.out.1).mono ?_
  rintro e w13 ⟨rfl, rfl⟩
  go_wp2_with fail
  refine (ck3 _ _ _ R12.out.1).mono ?_
  rintro e w13 ⟨rfl, rfl⟩
  go_wp2
  go_ret
  exact ⟨rfl, R12.out.2⟩

set_option maxRecDepth 100000 in
set_option maxHeartbeats 2000000 in
theorem allocMakes_any (x : Int) (P : Option Addr) (p pc : Nat) (a : List ByteArray) (w : World) (hP : Reads w w.heap.size 1 P p (encS a)) (hp : p * 16 ≤ 140737488355328) :
    Calls Try.prog 3 #[.int .i64 x, .slice P p pc] w fun e w' => e = .returned (.bool true) ∧ Below w.heap.size w w' := by
  have cM := makeA_any x w
  have cR := fun W => refMakeA_any x W
  have HP := Lib.hid hP
  generalize makeA x = md at cM cR
  obtain ⟨md, me⟩ := md
  dsimp only at cM cR
  clear hP
  go_enter Try.func3, Try.ntmps3
  go_wp2_with fail
  refine cM.mono ?_
  rintro e w1 ⟨A1, n1, c1, rfl, ho1, hn1, hb1⟩
  have R1 := Lib.hid (And.intro (Reads.of_own ho1) (And.intro (HP.out.step hb1) hb1))
  clear ho1 hb1 cM
  go_wp2_with fail
  refine (cR _).mono ?_
  rintro e w2 ⟨A2, n2, c2, rfl, hr2, hn2, hb2⟩
  have R2 := Lib.hid (And.intro (R1.out.1.step hb2) (And.intro hr2 (And.intro (R1.out.2.1.step hb2) (bstep R1.out.2.2 hb2))))
  clear R1 hr2 hb2 cR
  have e2 : (me == me) = true := by simp
  have f1 : decide (md = md) = true := decide_eq_true rfl
  go_wp2_with fail
  refine (refTexts_any _ _ _ _ _ _ md md _ R2.out.1 R2.out.2.1 (by omega) (by omega)).mono ?_
  rintro e w3 ⟨rfl, hb3⟩
  have R3 := Lib.hid (And.intro (R2.out.2.2.1.step hb3) (bstep R2.out.2.2.2 hb3))
  clear R2 hb3
  obtain ⟨u, hu⟩ : ∃ u, u = decide (FitA a) := ⟨_, rfl⟩
  have eu : (u == u) = true := by simp
  go_wp2_with fail
  refine (fitA_any _ _ _ a _ R3.out.1 hp).mono ?_
  rintro e w4 ⟨rfl, hb4⟩
  rw [← hu]
  have R4 := Lib.hid (And.intro (R3.out.1.step hb4) (bstep R3.out.2 hb4))
  clear R3 hb4
  go_wp2_with fail
  refine (refFit_anyA _ _ _ a _ R4.out.1 hp).mono ?_
  rintro e w5 ⟨rfl, hb5⟩
  rw [← hu]
  have R5 := Lib.hid (bstep R4.out.2 hb5)
  clear R4 hb5 hu
  go_wp2_with fail
  refine (awake4_any _).mono ?_
  rintro e w6 ⟨rfl, hb6⟩
  have R6 := Lib.hid (bstep R5.out hb6)
  clear R5 hb6
  go_wp2
  go_ret
  exact ⟨rfl, R6.out⟩

end Go.Proofs.Ytihmgamdnmipaaa
