/-
  Chapter 10's examples: the statements' last part returns true.
-/
import Derived.Test.YtnnpiaangemieaaDoorDateProg
import Derived.Test.YtnnpiaangemieaaDoorDateLess
namespace Go.Proofs.YtnnpiaangemieaaDoor
open Go.RowKit

theorem ex_civ0 : civV (-719162) = (1, 1, 1, true) := civ_num (y := 1) (m := 1) (d := 1) (by unfold dateD; decide +kernel)
theorem ex_civ1 : civV 0 = (1970, 1, 1, true) := civ_num (y := 1970) (m := 1) (d := 1) (by unfold dateD; decide +kernel)
theorem ex_civ2 : civV 9075 = (1994, 11, 6, true) := civ_num (y := 1994) (m := 11) (d := 6) (by unfold dateD; decide +kernel)
theorem ex_days : daysV 2000 2 29 = (11016, true) := by decide +kernel
theorem ex_wd : wdD 11016 = 1 := by decide +kernel
theorem ex_len : lenD 1900 2 = 28 := by decide +kernel
theorem ex_stamp : stampT 0 = [49, 57, 55, 48, 48, 49, 48, 49, 84, 48, 48, 48, 48, 48, 48] := by
  unfold stampT
  rw [show inD 0 = true by decide, if_pos rfl, show (0 : Int) / 86400 = 0 by decide]
  unfold dayT
  rw [ex_civ1]
  decide +kernel
theorem ex_http : httpT 784111777 = [83, 117, 110, 44, 32, 48, 54, 32, 78, 111, 118, 32, 49, 57, 57, 52, 32, 48, 56, 58, 52, 57, 58, 51, 55, 32, 71, 77, 84] := by
  unfold httpT
  rw [show inD 784111777 = true by decide, if_pos rfl, show (784111777 : Int) / 86400 = 9075 by decide, ex_civ2]
  decide +kernel
theorem ex_mon : rdHttp [77, 111, 110, 44, 32, 48, 54, 32, 78, 111, 118, 32, 49, 57, 57, 52, 32, 48, 56, 58, 52, 57, 58, 51, 55, 32, 71, 77, 84] = (0, 10) := by
  rw [rdHttp_all (l := [77, 111, 110, 44, 32, 48, 54, 32, 78, 111, 118, 32, 49, 57, 57, 52, 32, 48, 56, 58, 52, 57, 58, 51, 55, 32, 71, 77, 84]) (t := 784111777) (by decide +kernel) (by decide +kernel) (by decide +kernel) (by decide +kernel) (by decide +kernel) (by decide +kernel) (by decide), ex_http, if_neg (by decide)]

set_option maxRecDepth 100000 in
set_option maxHeartbeats 2000000 in
theorem awake10_any (w : World) (hv : DV w) : Calls Tryd.prog 19 #[] w fun e w' => e = .returned (.bool true) ∧ Below w.heap.size w w' := by
  have c1 := fun W (hV : DV W) => pDays_any 2000 2 29 (by omega) (by omega) (by omega) W hV
  have c2 := fun W (hV : DV W) => pCivil_any (-719162) (by omega) W hV
  have c3 := fun W (hV : DV W) => pReadHttp_any ⟨#[77, 111, 110, 44, 32, 48, 54, 32, 78, 111, 118, 32, 49, 57, 57, 52, 32, 48, 56, 58, 52, 57, 58, 51, 55, 32, 71, 77, 84]⟩ (by decide) W hV
  have c4 := fun W (hV : DV W) => pWeekday_any 11016 (by omega) W hV
  have c5 := fun W (hV : DV W) => pStamp_any 0 (by omega) W hV
  have c6 := fun W (hV : DV W) => pHttp_any 784111777 (by omega) W hV
  have c7 := fun W (hV : DV W) => pLength_any 1900 2 (by omega) (by omega) W hV
  rw [ex_days] at c1
  rw [ex_civ0] at c2
  rw [show (⟨#[77, 111, 110, 44, 32, 48, 54, 32, 78, 111, 118, 32, 49, 57, 57, 52, 32, 48, 56, 58, 52, 57, 58, 51, 55, 32, 71, 77, 84]⟩ : ByteArray).data.toList = [77, 111, 110, 44, 32, 48, 54, 32, 78, 111, 118, 32, 49, 57, 57, 52, 32, 48, 56, 58, 52, 57, 58, 51, 55, 32, 71, 77, 84] from rfl, ex_mon] at c3
  rw [ex_wd] at c4
  rw [ex_stamp] at c5
  rw [ex_http] at c6
  rw [ex_len] at c7
  go_enter Tryd.func19, Tryd.ntmps19
  go_wp2_with (first
    | (go_at_call 7; ((with_reducible refine (c1 _ (by assumption)).mono ?_); rintro e w1 ⟨rfl, hb1⟩; have hvhb1 := DV.step (by assumption) hb1))
    | (go_at_call 9; ((with_reducible refine (c2 _ (by assumption)).mono ?_); rintro e w2 ⟨rfl, hb2⟩; have hvhb2 := DV.step (by assumption) hb2))
    | (go_at_call 24; ((with_reducible refine (c3 _ (by assumption)).mono ?_); rintro e w3 ⟨rfl, hb3⟩; have hvhb3 := DV.step (by assumption) hb3))
    | (go_at_call 15; ((with_reducible refine (c4 _ (by assumption)).mono ?_); rintro e w4 ⟨rfl, hb4⟩; have hvhb4 := DV.step (by assumption) hb4))
    | (go_at_call 26; ((with_reducible refine (c5 _ (by assumption)).mono ?_); rintro e w5 ⟨rfl, hb5⟩; have hvhb5 := DV.step (by assumption) hb5))
    | (go_at_call 30; ((with_reducible refine (c6 _ (by assumption)).mono ?_); rintro e w6 ⟨rfl, hb6⟩; have hvhb6 := DV.step (by assumption) hb6))
    | (go_at_call 13; ((with_reducible refine (c7 _ (by assumption)).mono ?_); rintro e w7 ⟨rfl, hb7⟩; have hvhb7 := DV.step (by assumption) hb7)))
  go_ret
  exact ⟨rfl, bstep (bstep (bstep (bstep (bstep (bstep hb1 hb2) hb3) hb4) hb5) hb6) hb7⟩

end Go.Proofs.YtnnpiaangemieaaDoor
