/-
  Chapter 8's examples: the statements' last part returns true.
-/
import Derived.Test.YtnadnccmlbleoaaDoorTextLawM
import Derived.Test.YtnadnccmlbleoaaDoorTextValid
import Derived.Test.YtnadnccmlbleoaaDoorTextNumberR
namespace Go.Proofs.YtnadnccmlbleoaaDoor
open Go.RowKit

theorem call1 (w : World) : Calls Tryd.prog 9 #[.string ⟨#[89, 87, 74, 61]⟩] w fun e w' => e = .returned (.tuple #[.string ⟨#[]⟩, .int .i64 10]) ∧ Below w.heap.size w w' :=
  (unbase64_any ⟨#[89, 87, 74, 61]⟩ (by decide) w).mono fun e w' h => by rw [show (⟨#[89, 87, 74, 61]⟩ : ByteArray).data.toList = [89, 87, 74, 61] from rfl, ex_unb] at h; exact h
theorem call2 (w : World) : Calls Tryd.prog 18 #[.string ⟨#[48, 48, 55]⟩, .int .i64 9] w fun e w' => e = .returned (.tuple #[.int .i64 7, .bool true]) ∧ w' = w :=
  (number_any ⟨#[48, 48, 55]⟩ (by decide) 9 w).mono fun e w' h => by rw [show (⟨#[48, 48, 55]⟩ : ByteArray).data.toList = [48, 48, 55] from rfl, ex_num7] at h; exact h
theorem call3 (w : World) : Calls Tryd.prog 18 #[.string ⟨#[49, 48]⟩, .int .i64 9] w fun e w' => e = .returned (.tuple #[.int .i64 0, .bool false]) ∧ w' = w :=
  (number_any ⟨#[49, 48]⟩ (by decide) 9 w).mono fun e w' h => by rw [show (⟨#[49, 48]⟩ : ByteArray).data.toList = [49, 48] from rfl, ex_num10] at h; exact h
theorem call4 (w : World) : Calls Tryd.prog 13 #[.string ⟨#[97, 32, 98, 47, 195, 169]⟩] w fun e w' => e = .returned (.string ⟨#[97, 37, 50, 48, 98, 47, 37, 67, 51, 37, 65, 57]⟩) ∧ Below w.heap.size w w' :=
  (percent_any ⟨#[97, 32, 98, 47, 195, 169]⟩ (by decide) w).mono fun e w' h => by rw [show (⟨#[97, 32, 98, 47, 195, 169]⟩ : ByteArray).data.toList = [97, 32, 98, 47, 195, 169] from rfl, ex_pct] at h; exact h
theorem call5 (w : World) : Calls Tryd.prog 15 #[.string ⟨#[97, 98]⟩] w fun e w' => e = .returned (.string ⟨#[89, 87, 73, 61]⟩) ∧ Below w.heap.size w w' :=
  (base64_any ⟨#[97, 98]⟩ (by decide) w).mono fun e w' h => by rw [show (⟨#[97, 98]⟩ : ByteArray).data.toList = [97, 98] from rfl, ex_b64] at h; exact h
theorem call6 (w : World) (hf : Forms w) : Calls Tryd.prog 11 #[.string ⟨#[192, 128]⟩] w fun e w' => e = .returned (.bool false) ∧ Below w.heap.size w w' :=
  (valid_any ⟨#[192, 128]⟩ (by decide) w hf).mono fun e w' h => by rw [show (⟨#[192, 128]⟩ : ByteArray).data.toList = [192, 128] from rfl, ex_vld0] at h; exact h
theorem call7 (w : World) (hf : Forms w) : Calls Tryd.prog 11 #[.string ⟨#[195, 169]⟩] w fun e w' => e = .returned (.bool true) ∧ Below w.heap.size w w' :=
  (valid_any ⟨#[195, 169]⟩ (by decide) w hf).mono fun e w' h => by rw [show (⟨#[195, 169]⟩ : ByteArray).data.toList = [195, 169] from rfl, ex_vld1] at h; exact h
theorem call8 (w : World) : Calls Tryd.prog 20 #[.string ⟨#[65, 90]⟩] w fun e w' => e = .returned (.string ⟨#[97, 122]⟩) ∧ Below w.heap.size w w' :=
  (lower_any ⟨#[65, 90]⟩ (by decide) w).mono fun e w' h => by rw [show (⟨#[65, 90]⟩ : ByteArray).data.toList = [65, 90] from rfl, ex_low] at h; exact h
theorem call9 (w : World) : Calls Tryd.prog 26 #[.string ⟨#[32, 97, 9]⟩] w fun e w' => e = .returned (.string ⟨#[97]⟩) ∧ Below w.heap.size w w' :=
  (trim_any ⟨#[32, 97, 9]⟩ (by decide) w).mono fun e w' h => by rw [show (⟨#[32, 97, 9]⟩ : ByteArray).data.toList = [32, 97, 9] from rfl, ex_trim] at h; exact h

set_option maxRecDepth 100000 in
set_option maxHeartbeats 2000000 in
theorem awake_any (w : World) (hf : Forms w) : Calls Tryd.prog 17 #[] w fun e w' => e = .returned (.bool true) ∧ Below w.heap.size w w' := by
  have HF := Lib.hid hf
  clear hf
  go_enter Tryd.func17, Tryd.ntmps17
  go_wp2_with (first
    | (go_at_call 9; ((with_reducible refine (call1 _).mono ?_); rintro e w1 ⟨rfl, hb1⟩))
    | (go_at_call 18; ((with_reducible refine (call2 _).mono ?_); rintro e w' ⟨rfl, rfl⟩))
    | (go_at_call 18; ((with_reducible refine (call3 _).mono ?_); rintro e w' ⟨rfl, rfl⟩))
    | (go_at_call 13; ((with_reducible refine (call4 _).mono ?_); rintro e w2 ⟨rfl, hb2⟩))
    | (go_at_call 15; ((with_reducible refine (call5 _).mono ?_); rintro e w3 ⟨rfl, hb3⟩))
    | (go_at_call 11; ((with_reducible refine (call6 _ (((HF.out.step hb1).step hb2).step hb3)).mono ?_); rintro e w4 ⟨rfl, hb4⟩))
    | (go_at_call 11; ((with_reducible refine (call7 _ ((((HF.out.step hb1).step hb2).step hb3).step hb4)).mono ?_); rintro e w5 ⟨rfl, hb5⟩))
    | (go_at_call 20; ((with_reducible refine (call8 _).mono ?_); rintro e w6 ⟨rfl, hb6⟩))
    | (go_at_call 26; ((with_reducible refine (call9 _).mono ?_); rintro e w7 ⟨rfl, hb7⟩)))
  go_ret
  exact ⟨rfl, bstep (bstep (bstep (bstep (bstep (bstep hb1 hb2) hb3) hb4) hb5) hb6) hb7⟩

end Go.Proofs.YtnadnccmlbleoaaDoor
