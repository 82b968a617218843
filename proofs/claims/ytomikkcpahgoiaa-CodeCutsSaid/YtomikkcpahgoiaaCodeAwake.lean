/-
  Chapter 1's examples: the statements' last part returns true.
-/
import Derived.Test.YtomikkcpahgoiaaCodeRest
import Derived.Test.YtomikkcpahgoiaaCodeCrc
namespace Go.Proofs.Ytomikkcpahgoiaa
open Go.RowKit

theorem bstep {w w1 w2 : World} (h : Below w.heap.size w w1) (h2 : Below w1.heap.size w1 w2) : Below w.heap.size w w2 := h.trans (h2.mono h.size)

theorem ex1 : rdN ⟨#[128, 0]⟩ 0 = (0, 0, 10) := by decide +kernel
theorem ex2 : rdN ⟨#[128]⟩ 0 = (0, 0, 11) := by decide +kernel
theorem ex3 : rdN ⟨#[]⟩ 1 = (0, 0, 15) := by decide +kernel
theorem ex4 : enc 300 = [172, 2] := by rw [enc_ge (by decide), enc_lt (by decide)]; rfl
theorem ex5 : enc (zz (-1)) = [1] := by rw [show zz (-1) = 1 by decide, enc_lt (by decide)]; rfl
theorem ex6 : enc (zz 1) = [2] := by rw [show zz 1 = 2 by decide, enc_lt (by decide)]; rfl
theorem ex7 : txt ⟨#[104, 105]⟩ = ⟨#[2, 104, 105]⟩ := by
  unfold txt
  rw [show (⟨#[104, 105]⟩ : ByteArray).size = 2 by rfl, enc_lt (by decide)]; rfl
theorem ex8 : crc [49, 50, 51, 52, 53, 54, 55, 56, 57] = 3421780262 := by decide +kernel

theorem call1 (w : World) : Calls Try.prog 7 #[.string ⟨#[128, 0]⟩, .int .i64 0] w fun e w' => e = .returned (.tuple #[.int .u64 0, .int .i64 0, .int .i64 10]) ∧ Below w.heap.size w w' :=
  (readNumber_any ⟨#[128, 0]⟩ 0 w (by decide)).mono fun e w' h => by rw [ex1] at h; exact h
theorem call2 (w : World) : Calls Try.prog 7 #[.string ⟨#[128]⟩, .int .i64 0] w fun e w' => e = .returned (.tuple #[.int .u64 0, .int .i64 0, .int .i64 11]) ∧ Below w.heap.size w w' :=
  (readNumber_any ⟨#[128]⟩ 0 w (by decide)).mono fun e w' h => by rw [ex2] at h; exact h
theorem call3 (w : World) : Calls Try.prog 7 #[.string ⟨#[]⟩, .int .i64 1] w fun e w' => e = .returned (.tuple #[.int .u64 0, .int .i64 0, .int .i64 15]) ∧ Below w.heap.size w w' :=
  (readNumber_any ⟨#[]⟩ 1 w (by decide)).mono fun e w' h => by rw [ex3] at h; exact h
theorem call4 (w : World) : Calls Try.prog 14 #[.int .u64 300] w fun e w' => e = .returned (.string ⟨#[172, 2]⟩) ∧ Below w.heap.size w w' :=
  (number_any 300 w (by decide)).mono fun e w' h => by rw [ex4] at h; exact h
theorem call5 (w : World) : Calls Try.prog 16 #[.int .i64 (-1)] w fun e w' => e = .returned (.string ⟨#[1]⟩) ∧ Below w.heap.size w w' :=
  (signed_any (-1) w (by decide) (by decide)).mono fun e w' h => by rw [ex5] at h; exact h
theorem call6 (w : World) : Calls Try.prog 16 #[.int .i64 1] w fun e w' => e = .returned (.string ⟨#[2]⟩) ∧ Below w.heap.size w w' :=
  (signed_any 1 w (by decide) (by decide)).mono fun e w' h => by rw [ex6] at h; exact h
theorem call7 (w : World) : Calls Try.prog 18 #[.string ⟨#[104, 105]⟩] w fun e w' => e = .returned (.string ⟨#[2, 104, 105]⟩) ∧ Below w.heap.size w w' :=
  (text_any ⟨#[104, 105]⟩ w (by decide)).mono fun e w' h => by rw [ex7] at h; exact h
theorem call8 (w : World) : Calls Try.prog 20 #[.string ⟨#[49, 50, 51, 52, 53, 54, 55, 56, 57]⟩] w fun e w' => e = .returned (.int .u32 3421780262) ∧ w = w' :=
  (crc_any ⟨#[49, 50, 51, 52, 53, 54, 55, 56, 57]⟩ w (by decide)).mono fun e w' h => by rw [ex8] at h; exact h

set_option maxRecDepth 100000 in
set_option maxHeartbeats 2000000 in
theorem awake_any (w : World) : Calls Try.prog 13 #[] w fun e w' => e = .returned (.bool true) ∧ Below w.heap.size w w' := by
  go_enter Try.func13, Try.ntmps13
  go_wp2_with (first
    | (go_at_call 7; ((with_reducible refine (call1 _).mono ?_); rintro e w1 ⟨rfl, hb1⟩))
    | (go_at_call 7; ((with_reducible refine (call2 _).mono ?_); rintro e w2 ⟨rfl, hb2⟩))
    | (go_at_call 7; ((with_reducible refine (call3 _).mono ?_); rintro e w3 ⟨rfl, hb3⟩))
    | (go_at_call 14; ((with_reducible refine (call4 _).mono ?_); rintro e w4 ⟨rfl, hb4⟩))
    | (go_at_call 16; ((with_reducible refine (call5 _).mono ?_); rintro e w5 ⟨rfl, hb5⟩))
    | (go_at_call 16; ((with_reducible refine (call6 _).mono ?_); rintro e w6 ⟨rfl, hb6⟩))
    | (go_at_call 18; ((with_reducible refine (call7 _).mono ?_); rintro e w7 ⟨rfl, hb7⟩))
    | (go_at_call 20; ((with_reducible refine (call8 _).mono ?_); rintro e w8 ⟨rfl, rfl⟩)))
  go_ret
  exact ⟨rfl, bstep (bstep (bstep (bstep (bstep (bstep hb1 hb2) hb3) hb4) hb5) hb6) hb7⟩

end Go.Proofs.Ytomikkcpahgoiaa
