/-
  Layer 10's four laws: each returns true.
-/
import Derived.Test.YtnnpiaangemieaaDoorDateAwake
namespace Go.Proofs.YtnnpiaangemieaaDoor
open Go.RowKit

theorem two_sameD (a : ByteArray) : (a.toList == a.toList) = true := by simp

set_option maxRecDepth 100000 in
set_option maxHeartbeats 2000000 in
theorem tells_any (y m d n : Int) (hy : -9223372036854775808 ≤ y ∧ y < 9223372036854775808) (hm : -9223372036854775808 ≤ m ∧ m < 9223372036854775808) (hd : -9223372036854775808 ≤ d ∧ d < 9223372036854775808) (hn : -9223372036854775808 ≤ n ∧ n < 9223372036854775808) (w : World) (hv : DV w) :
    Calls Tryd.prog 3 #[.int .i64 y, .int .i64 m, .int .i64 d, .int .i64 n] w fun e w' => e = .returned (.bool true) ∧ Below w.heap.size w w' := by
  have c1 := fun W (hV : DV W) => pDays_any y m d hy hm hd W hV
  have c2 := fun W => refDays_any y m d W
  have c3 := fun W (hV : DV W) => pCivil_any n hn W hV
  have c4 := fun W => refCivil_any n hn W
  have c5 := fun W (hV : DV W) => pParts_any n hn W hV
  have c6 := fun W => refParts_any n hn W
  have c7 := fun W (hV : DV W) => pLength_any y m hy hm W hV
  have c8 := fun W => refLength_any y m W
  have c9 := fun W (hV : DV W) => pWeekday_any n hn W hV
  have c10 := fun W => refWeekday_any n W
  have c11 := fun W (hV : DV W) => pIn_any n hn W hV
  have c12 := fun W => refIn_any n W
  generalize daysV y m d = z1 at c1 c2
  generalize civV n = z2 at c3 c4
  generalize n / 86400 = z3 at c5 c6
  generalize n % 86400 = z4 at c5 c6
  generalize lenD y m = z5 at c7 c8
  generalize wdD n = z6 at c9 c10
  generalize inD n = z7 at c11 c12
  obtain ⟨a1, a2⟩ := z1
  obtain ⟨b1, b2, b3, b4⟩ := z2
  dsimp only at c1 c2 c3 c4
  have t1 : (a2 == a2) = true := by simp
  have t2 : (b4 == b4) = true := by simp
  have t3 : (z7 == z7) = true := by simp
  go_enter Tryd.func3, Tryd.ntmps3
  go_wp2_with (first
    | (go_at_call 7; ((with_reducible refine (c1 _ (by assumption)).mono ?_); rintro e w1 ⟨rfl, hb1⟩; have hvhb1 := DV.step (by assumption) hb1))
    | (go_at_call 8; ((with_reducible refine (c2 _).mono ?_); rintro e w' ⟨rfl, hw⟩; subst w'))
    | (go_at_call 9; ((with_reducible refine (c3 _ (by assumption)).mono ?_); rintro e w2 ⟨rfl, hb2⟩; have hvhb2 := DV.step (by assumption) hb2))
    | (go_at_call 10; ((with_reducible refine (c4 _).mono ?_); rintro e w' ⟨rfl, hw⟩; subst w'))
    | (go_at_call 11; ((with_reducible refine (c5 _ (by assumption)).mono ?_); rintro e w3 ⟨rfl, hb3⟩; have hvhb3 := DV.step (by assumption) hb3))
    | (go_at_call 12; ((with_reducible refine (c6 _).mono ?_); rintro e w' ⟨rfl, hw⟩; subst w'))
    | (go_at_call 13; ((with_reducible refine (c7 _ (by assumption)).mono ?_); rintro e w4 ⟨rfl, hb4⟩; have hvhb4 := DV.step (by assumption) hb4))
    | (go_at_call 14; ((with_reducible refine (c8 _).mono ?_); rintro e w' ⟨rfl, hw⟩; subst w'))
    | (go_at_call 15; ((with_reducible refine (c9 _ (by assumption)).mono ?_); rintro e w5 ⟨rfl, hb5⟩; have hvhb5 := DV.step (by assumption) hb5))
    | (go_at_call 16; ((with_reducible refine (c10 _).mono ?_); rintro e w' ⟨rfl, hw⟩; subst w'))
    | (go_at_call 17; ((with_reducible refine (c11 _ (by assumption)).mono ?_); rintro e w6 ⟨rfl, hb6⟩; have hvhb6 := DV.step (by assumption) hb6))
    | (go_at_call 18; ((with_reducible refine (c12 _).mono ?_); rintro e w' ⟨rfl, hw⟩; subst w'))
    | (go_at_call 19; ((with_reducible refine (awake10_any _ (by assumption)).mono ?_); rintro e w7 ⟨rfl, hb7⟩; have hvhb7 := DV.step (by assumption) hb7)))
  go_ret
  exact ⟨rfl, bstep (bstep (bstep (bstep (bstep (bstep hb1 hb2) hb3) hb4) hb5) hb6) hb7⟩

set_option maxRecDepth 100000 in
set_option maxHeartbeats 2000000 in
theorem writes_any (n : Int) (s : ByteArray) (hn : -9223372036854775808 ≤ n ∧ n < 9223372036854775808) (hs : s.size < 9223372036854775808) (w : World) (hv : DV w) :
    Calls Tryd.prog 4 #[.int .i64 n, .string s] w fun e w' => e = .returned (.bool true) ∧ Below w.heap.size w w' := by
  have c1 := fun W (hV : DV W) => pReadStamp_any s hs W hV
  have c2 := fun W => refReadStamp_any s W
  have c3 := fun W (hV : DV W) => pReadDay_any s hs W hV
  have c4 := fun W => refReadDay_any s W
  have c5 := fun W (hV : DV W) => pReadHttp_any s hs W hV
  have c6 := fun W => refReadHttp_any s W
  have c7 := fun W (hV : DV W) => pStamp_any n hn W hV
  have c8 := fun W => refStamp_any n hn W
  have c9 := fun W (hV : DV W) => pDay_any n hn W hV
  have c10 := fun W => refDay_any n hn W
  have c11 := fun W (hV : DV W) => pHttp_any n hn W hV
  have c12 := fun W => refHttp_any n hn W
  generalize rdStamp s.data.toList = z1 at c1 c2
  generalize rdDay s.data.toList = z2 at c3 c4
  generalize rdHttp s.data.toList = z3 at c5 c6
  generalize (⟨(stampT n).toArray⟩ : ByteArray) = z4 at c7 c8
  generalize (⟨(dayT n).toArray⟩ : ByteArray) = z5 at c9 c10
  generalize (⟨(httpT n).toArray⟩ : ByteArray) = z6 at c11 c12
  obtain ⟨a1, a2⟩ := z1
  obtain ⟨b1, b2⟩ := z2
  obtain ⟨d1, d2⟩ := z3
  dsimp only at c1 c2 c3 c4 c5 c6
  have t1 := two_sameD z4
  have t2 := two_sameD z5
  have t3 := two_sameD z6
  go_enter Tryd.func4, Tryd.ntmps4
  go_wp2_with (first
    | (go_at_call 20; ((with_reducible refine (c1 _ (by assumption)).mono ?_); rintro e w1 ⟨rfl, hb1⟩; have hvhb1 := DV.step (by assumption) hb1))
    | (go_at_call 21; ((with_reducible refine (c2 _).mono ?_); rintro e w' ⟨rfl, hw⟩; subst w'))
    | (go_at_call 22; ((with_reducible refine (c3 _ (by assumption)).mono ?_); rintro e w2 ⟨rfl, hb2⟩; have hvhb2 := DV.step (by assumption) hb2))
    | (go_at_call 23; ((with_reducible refine (c4 _).mono ?_); rintro e w' ⟨rfl, hw⟩; subst w'))
    | (go_at_call 24; ((with_reducible refine (c5 _ (by assumption)).mono ?_); rintro e w3 ⟨rfl, hb3⟩; have hvhb3 := DV.step (by assumption) hb3))
    | (go_at_call 25; ((with_reducible refine (c6 _).mono ?_); rintro e w4 ⟨rfl, hb4⟩; have hvhb4 := DV.step (by assumption) hb4))
    | (go_at_call 26; ((with_reducible refine (c7 _ (by assumption)).mono ?_); rintro e w5 ⟨rfl, hb5⟩; have hvhb5 := DV.step (by assumption) hb5))
    | (go_at_call 27; ((with_reducible refine (c8 _).mono ?_); rintro e w6 ⟨rfl, hb6⟩; have hvhb6 := DV.step (by assumption) hb6))
    | (go_at_call 28; ((with_reducible refine (c9 _ (by assumption)).mono ?_); rintro e w7 ⟨rfl, hb7⟩; have hvhb7 := DV.step (by assumption) hb7))
    | (go_at_call 29; ((with_reducible refine (c10 _).mono ?_); rintro e w8 ⟨rfl, hb8⟩; have hvhb8 := DV.step (by assumption) hb8))
    | (go_at_call 30; ((with_reducible refine (c11 _ (by assumption)).mono ?_); rintro e w9 ⟨rfl, hb9⟩; have hvhb9 := DV.step (by assumption) hb9))
    | (go_at_call 31; ((with_reducible refine (c12 _).mono ?_); rintro e w10 ⟨rfl, hb10⟩; have hvhb10 := DV.step (by assumption) hb10))
    | (go_at_call 19; ((with_reducible refine (awake10_any _ (by assumption)).mono ?_); rintro e w11 ⟨rfl, hb11⟩; have hvhb11 := DV.step (by assumption) hb11)))
  go_ret
  exact ⟨rfl, bstep (bstep (bstep (bstep (bstep (bstep (bstep (bstep (bstep (bstep hb1 hb2) hb3) hb4) hb5) hb6) hb7) hb8) hb9) hb10) hb11⟩

end Go.Proofs.YtnnpiaangemieaaDoor
