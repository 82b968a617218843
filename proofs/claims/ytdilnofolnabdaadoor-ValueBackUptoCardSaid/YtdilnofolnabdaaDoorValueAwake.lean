/-
  The chapter's examples (layer 13), as the law asks them.
-/
import Derived.Test.YtdilnofolnabdaaDoorValueProgI
import Derived.Test.YtdilnofolnabdaaDoorValueProgG
namespace Go.Proofs.YtdilnofolnabdaaDoor
open Go.RowKit

theorem ex_dur1 : durV [45, 80, 49, 68, 84, 50, 72] = (-93600, 0) := by decide +kernel
theorem ex_dur2 : durV [80, 84, 49, 72, 53, 83] = (0, 10) := by decide +kernel
theorem ex_off : offV [45, 48, 49, 51, 48] = (-5400, 0) := by decide +kernel
theorem ex_un : unV [97, 92, 44, 98] = ([97, 44, 98], 0) := by decide +kernel
theorem ex_t1 : durT 3605 = [80, 84, 49, 72, 48, 77, 53, 83] := by simp [durT, bodyT, clkQ, dec_small]
theorem ex_t2 : durT 604800 = [80, 49, 87] := by simp [durT, bodyT, dec_small]
theorem ex_t3 : durT 0 = [80, 84, 48, 83] := by simp [durT, bodyT, clkQ, dec_small]
theorem ex_tim : timV [50, 48, 50, 53, 48, 49, 48, 49, 84, 48, 48, 48, 48, 48, 48, 90] = (⟨1735689600, true, false⟩, 0) := by
  obtain ⟨h1, h2⟩ := stripZ_app [50, 48, 50, 53, 48, 49, 48, 49, 84, 48, 48, 48, 48, 48, 48]
  have hd : rdDay [50, 48, 50, 53, 48, 49, 48, 49] = (20089, 0) := by
    rw [rdDay_num (v := 20250101) rfl (by decide +kernel), if_pos (by decide +kernel)]
    decide +kernel
  have hs : rdStamp [50, 48, 50, 53, 48, 49, 48, 49, 84, 48, 48, 48, 48, 48, 48] = (1735689600, 0) := by
    rw [rdStamp_cut rfl rfl]
    rw [show ([50, 48, 50, 53, 48, 49, 48, 49, 84, 48, 48, 48, 48, 48, 48] : List UInt8).take 8 = [50, 48, 50, 53, 48, 49, 48, 49] from rfl, hd, if_pos ⟨rfl, by decide +kernel⟩]
    decide +kernel
  show timV ([50, 48, 50, 53, 48, 49, 48, 49, 84, 48, 48, 48, 48, 48, 48] ++ [90]) = _
  unfold timV
  rw [rdDay_len (by decide), if_neg (by decide), h1, h2, hs, if_pos rfl]
set_option maxRecDepth 100000 in
set_option maxHeartbeats 4000000 in
theorem awake13_any (w : World) (hv : VV w) : Calls Tryd.prog 18 #[] w fun e w' => e = .returned (.bool true) ∧ Below w.heap.size w w' := by
  have c1 := fun W (hV : VV W) => pDur_any ⟨#[45, 80, 49, 68, 84, 50, 72]⟩ (by decide) W hV
  have c2 := fun W (hV : VV W) => pOff_any ⟨#[45, 48, 49, 51, 48]⟩ (by decide) W hV
  have c3 := fun W => pUnesc_any ⟨#[97, 92, 44, 98]⟩ (by decide) W
  have c4 := fun W (hV : VV W) => pDur_any ⟨#[80, 84, 49, 72, 53, 83]⟩ (by decide) W hV
  have c5 := fun W (hV : VV W) => pTime_any ⟨#[50, 48, 50, 53, 48, 49, 48, 49, 84, 48, 48, 48, 48, 48, 48, 90]⟩ (by decide) W hV
  have c6 := fun W (hV : DV W) => pDurText_any 3605 (by decide) W hV
  have c7 := fun W (hV : DV W) => pDurText_any 604800 (by decide) W hV
  have c8 := fun W (hV : DV W) => pDurText_any 0 (by decide) W hV
  rw [show (⟨#[45, 80, 49, 68, 84, 50, 72]⟩ : ByteArray).data.toList = [45, 80, 49, 68, 84, 50, 72] from rfl, ex_dur1] at c1
  rw [show (⟨#[45, 48, 49, 51, 48]⟩ : ByteArray).data.toList = [45, 48, 49, 51, 48] from rfl, ex_off] at c2
  rw [show (⟨#[97, 92, 44, 98]⟩ : ByteArray).data.toList = [97, 92, 44, 98] from rfl, ex_un] at c3
  rw [show (⟨#[80, 84, 49, 72, 53, 83]⟩ : ByteArray).data.toList = [80, 84, 49, 72, 53, 83] from rfl, ex_dur2] at c4
  rw [show (⟨#[50, 48, 50, 53, 48, 49, 48, 49, 84, 48, 48, 48, 48, 48, 48, 90]⟩ : ByteArray).data.toList = [50, 48, 50, 53, 48, 49, 48, 49, 84, 48, 48, 48, 48, 48, 48, 90] from rfl, ex_tim] at c5
  rw [ex_t1] at c6
  rw [ex_t2] at c7
  rw [ex_t3] at c8
  unfold whV at c5
  have H0 := Lib.hid hv
  clear hv
  go_enter Tryd.func18, Tryd.ntmps18
  go_wp2_with (first
    | (go_at_call 5; ((with_reducible refine (c1 _ H0.out).mono ?_); rintro e w1 ⟨rfl, hb1⟩; clear c1; have H1 := Lib.hid (H0.out.step hb1); have B1 := Lib.hid hb1; clear hb1))
    | (go_at_call 7; ((with_reducible refine (c2 _ H1.out).mono ?_); rintro e w2 ⟨rfl, hb2⟩; clear c2; have H2 := Lib.hid (H1.out.step hb2); have B2 := Lib.hid (bstep B1.out hb2); clear hb2))
    | (go_at_call 9; ((with_reducible refine (c3 _).mono ?_); rintro e w3 ⟨rfl, hb3⟩; clear c3; have H3v := Lib.hid (H2.out.step hb3); have B3 := Lib.hid (bstep B2.out hb3); clear hb3))
    | (go_at_call 5; ((with_reducible refine (c4 _ H3v.out).mono ?_); rintro e w4 ⟨rfl, hb4⟩; clear c4; have H4v := Lib.hid (H3v.out.step hb4); have B4 := Lib.hid (bstep B3.out hb4); clear hb4))
    | (go_at_call 11; (with_reducible refine (c5 _ H4v.out).mono ?_); rintro e w5 ⟨rfl, hb5⟩; clear c5
       have ha5 : Below w5.heap.size w5 (w5.alloc (.cells #[.int .i64 1735689600, .bool true, .bool false] 32)) := (Below.refl _ w5).alloc (Nat.le_refl _) _
       have N5 := Lib.hid (H3.new w5 ⟨1735689600, true, false⟩)
       have H5v := Lib.hid (H4v.out.step (bstep hb5 ha5))
       have B5 := Lib.hid (bstep (bstep B4.out hb5) ha5)
       clear hb5 ha5)
    | (go_at_call 19; ((with_reducible refine (c6 _ H5v.out.dv).mono ?_); rintro e w6 ⟨rfl, hb6⟩; clear c6; have H6v := Lib.hid (H5v.out.step hb6); have B6 := Lib.hid (bstep B5.out hb6); have N6 := Lib.hid (N5.out.step hb6); clear hb6))
    | (go_at_call 19; ((with_reducible refine (c7 _ H6v.out.dv).mono ?_); rintro e w7 ⟨rfl, hb7⟩; clear c7; have H7v := Lib.hid (H6v.out.step hb7); have B7 := Lib.hid (bstep B6.out hb7); have N7 := Lib.hid (N6.out.step hb7); clear hb7))
    | (go_at_call 19; (with_reducible refine (c8 _ H7v.out.dv).mono ?_); rintro e w8 ⟨rfl, hb8⟩; clear c8
       have B8 := Lib.hid (bstep B7.out hb8)
       obtain ⟨y0, y1, y2⟩ := (N7.out.step hb8).cells
       simp only at y0 y1 y2
       clear hb8))
  go_ret
  exact ⟨rfl, B8.out⟩
end Go.Proofs.YtdilnofolnabdaaDoor
