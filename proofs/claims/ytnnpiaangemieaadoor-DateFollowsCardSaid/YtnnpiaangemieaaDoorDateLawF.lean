/-
  Layer 10's law on days that follow one another and stamps that rise: it returns true.
-/
import Derived.Test.YtnnpiaangemieaaDoorDateLawB
namespace Go.Proofs.YtnnpiaangemieaaDoor
open Go.RowKit

set_option maxRecDepth 100000 in
set_option maxHeartbeats 4000000 in
theorem follows_any (n t u : Int) (hn : -9223372036854775808 ≤ n ∧ n < 9223372036854775808) (ht : -9223372036854775808 ≤ t ∧ t < 9223372036854775808) (hu : -9223372036854775808 ≤ u ∧ u < 9223372036854775808) (w : World) (hv : DV w) :
    Calls Tryd.prog 6 #[.int .i64 n, .int .i64 t, .int .i64 u] w fun e w' => e = .returned (.bool true) ∧ Below w.heap.size w w' := by
  have hb : Below w.heap.size w w := Below.refl _ _
  have cc := fun W (hV : DV W) => pCivil_any n hn W hV
  have c1 := fun W (hV : DV W) => pIn_any t ht W hV
  have c2 := fun W (hV : DV W) => pIn_any u hu W hV
  have c3 := fun W (hV : DV W) => pStamp_any t ht W hV
  have c4 := fun W (hV : DV W) => pStamp_any u hu W hV
  have cw := fun W (hV : DV W) => pWeekday_any n hn W hV
  have hl := lessB (stampT t) (stampT u)
  cases hit : inD t
  · rw [hit] at c1
    clear hit c2 c3 c4 hl
    by_cases hx : n < -719162 ∨ 2932896 < n
    · rw [civ_bad hx] at cc
      clear hx cw
      go_enter Tryd.func6, Tryd.ntmps6
      go_wp2_with (first
        | (go_at_call 17; ((with_reducible refine (c1 _ (hv.step hb)).mono ?_); rintro e w1 ⟨rfl, hx⟩; replace hb := bstep hb hx; clear hx))
        | (go_at_call 9; ((with_reducible refine (cc _ (hv.step hb)).mono ?_); rintro e w1 ⟨rfl, hx⟩; replace hb := bstep hb hx; clear hx))
        | (go_at_call 19; ((with_reducible refine (awake10_any _ (hv.step hb)).mono ?_); rintro e w1 ⟨rfl, hx⟩; replace hb := bstep hb hx; clear hx)))
      go_ret
      exact ⟨rfl, hb⟩
    · have hr : -719162 ≤ n ∧ n ≤ 2932896 := by omega
      obtain ⟨y, m, d, hd, hnum⟩ := num_of hr
      obtain ⟨hy, hm⟩ := lenD_range hd
      have hlen := lenD_pos hy hm
      have hd2 : 1 ≤ d ∧ d ≤ lenD y m := hd
      have ec := civ_num hd
      rw [← hnum] at ec
      rw [ec] at cc
      by_cases he : 2932896 ≤ n
      · clear hnum ec hd cw hx
        go_enter Tryd.func6, Tryd.ntmps6
        go_wp2_with (first
          | (go_at_call 17; ((with_reducible refine (c1 _ (hv.step hb)).mono ?_); rintro e w1 ⟨rfl, hx⟩; replace hb := bstep hb hx; clear hx))
          | (go_at_call 9; ((with_reducible refine (cc _ (hv.step hb)).mono ?_); rintro e w1 ⟨rfl, hx⟩; replace hb := bstep hb hx; clear hx))
          | (go_at_call 19; ((with_reducible refine (awake10_any _ (hv.step hb)).mono ?_); rintro e w1 ⟨rfl, hx⟩; replace hb := bstep hb hx; clear hx)))
        go_ret
        exact ⟨rfl, hb⟩
      · have nx := next_day hd (by omega)
        rw [← hnum] at nx
        have cl := fun W (hV : DV W) => pLength_any y m (by omega) (by omega) W hV
        have cn := fun W (hV : DV W) => pCivil_any (n + 1) (by omega) W hV
        have cv := fun W (hV : DV W) => pWeekday_any (n + 1) (by omega) W hV
        rw [wd_next] at cv
        have hw := wdD_range n
        have ht7 : Int.tmod (wdD n + 1) 7 = (wdD n + 1) % 7 := tmod_pos (by omega)
        generalize wdD n = x at *
        generalize lenD y m = L at *
        clear hnum ec hd hx hr
        rcases nx with ⟨q1, q2⟩ | ⟨q1, q0, q2⟩ | ⟨q1, q0, q2⟩
        · rw [q2] at cn
          clear q2
          have f1 : decide (d < L) = true := decide_eq_true q1
          go_enter Tryd.func6, Tryd.ntmps6
          go_wp2_with (first
            | (go_at_call 17; ((with_reducible refine (c1 _ (hv.step hb)).mono ?_); rintro e w1 ⟨rfl, hx⟩; replace hb := bstep hb hx; clear hx))
            | (go_at_call 9; ((with_reducible refine (cc _ (hv.step hb)).mono ?_); rintro e w1 ⟨rfl, hx⟩; replace hb := bstep hb hx; clear hx))
            | (go_at_call 19; ((with_reducible refine (awake10_any _ (hv.step hb)).mono ?_); rintro e w1 ⟨rfl, hx⟩; replace hb := bstep hb hx; clear hx))
            | (go_at_call 13; ((with_reducible refine (cl _ (hv.step hb)).mono ?_); rintro e w1 ⟨rfl, hx⟩; replace hb := bstep hb hx; clear hx))
            | (go_at_call 9; ((with_reducible refine (cn _ (hv.step hb)).mono ?_); rintro e w1 ⟨rfl, hx⟩; replace hb := bstep hb hx; clear hx))
            | (go_at_call 15; ((with_reducible refine (cw _ (hv.step hb)).mono ?_); rintro e w1 ⟨rfl, hx⟩; replace hb := bstep hb hx; clear hx))
            | (go_at_call 15; ((with_reducible refine (cv _ (hv.step hb)).mono ?_); rintro e w1 ⟨rfl, hx⟩; replace hb := bstep hb hx; clear hx)))
          go_ret
          exact ⟨rfl, hb⟩
        · rw [q2] at cn
          clear q2
          subst q1
          have f1 : ((m + 1 : Int) == m) = false := by rw [beq_eq_false_iff_ne]; omega
          go_enter Tryd.func6, Tryd.ntmps6
          go_wp2_with (first
            | (go_at_call 17; ((with_reducible refine (c1 _ (hv.step hb)).mono ?_); rintro e w1 ⟨rfl, hx⟩; replace hb := bstep hb hx; clear hx))
            | (go_at_call 9; ((with_reducible refine (cc _ (hv.step hb)).mono ?_); rintro e w1 ⟨rfl, hx⟩; replace hb := bstep hb hx; clear hx))
            | (go_at_call 19; ((with_reducible refine (awake10_any _ (hv.step hb)).mono ?_); rintro e w1 ⟨rfl, hx⟩; replace hb := bstep hb hx; clear hx))
            | (go_at_call 13; ((with_reducible refine (cl _ (hv.step hb)).mono ?_); rintro e w1 ⟨rfl, hx⟩; replace hb := bstep hb hx; clear hx))
            | (go_at_call 9; ((with_reducible refine (cn _ (hv.step hb)).mono ?_); rintro e w1 ⟨rfl, hx⟩; replace hb := bstep hb hx; clear hx))
            | (go_at_call 15; ((with_reducible refine (cw _ (hv.step hb)).mono ?_); rintro e w1 ⟨rfl, hx⟩; replace hb := bstep hb hx; clear hx))
            | (go_at_call 15; ((with_reducible refine (cv _ (hv.step hb)).mono ?_); rintro e w1 ⟨rfl, hx⟩; replace hb := bstep hb hx; clear hx)))
          go_ret
          exact ⟨rfl, hb⟩
        · rw [q2] at cn
          clear q2
          subst q1 q0
          have f1 : ((y + 1 : Int) == y) = false := by rw [beq_eq_false_iff_ne]; omega
          go_enter Tryd.func6, Tryd.ntmps6
          go_wp2_with (first
            | (go_at_call 17; ((with_reducible refine (c1 _ (hv.step hb)).mono ?_); rintro e w1 ⟨rfl, hx⟩; replace hb := bstep hb hx; clear hx))
            | (go_at_call 9; ((with_reducible refine (cc _ (hv.step hb)).mono ?_); rintro e w1 ⟨rfl, hx⟩; replace hb := bstep hb hx; clear hx))
            | (go_at_call 19; ((with_reducible refine (awake10_any _ (hv.step hb)).mono ?_); rintro e w1 ⟨rfl, hx⟩; replace hb := bstep hb hx; clear hx))
            | (go_at_call 13; ((with_reducible refine (cl _ (hv.step hb)).mono ?_); rintro e w1 ⟨rfl, hx⟩; replace hb := bstep hb hx; clear hx))
            | (go_at_call 9; ((with_reducible refine (cn _ (hv.step hb)).mono ?_); rintro e w1 ⟨rfl, hx⟩; replace hb := bstep hb hx; clear hx))
            | (go_at_call 15; ((with_reducible refine (cw _ (hv.step hb)).mono ?_); rintro e w1 ⟨rfl, hx⟩; replace hb := bstep hb hx; clear hx))
            | (go_at_call 15; ((with_reducible refine (cv _ (hv.step hb)).mono ?_); rintro e w1 ⟨rfl, hx⟩; replace hb := bstep hb hx; clear hx)))
          go_ret
          exact ⟨rfl, hb⟩
  cases hiu : inD u
  · rw [hit] at c1
    rw [hiu] at c2
    clear hit hiu c3 c4 hl
    by_cases hx : n < -719162 ∨ 2932896 < n
    · rw [civ_bad hx] at cc
      clear hx cw
      go_enter Tryd.func6, Tryd.ntmps6
      go_wp2_with (first
        | (go_at_call 17; ((with_reducible refine (c1 _ (hv.step hb)).mono ?_); rintro e w1 ⟨rfl, hx⟩; replace hb := bstep hb hx; clear hx))
        | (go_at_call 17; ((with_reducible refine (c2 _ (hv.step hb)).mono ?_); rintro e w1 ⟨rfl, hx⟩; replace hb := bstep hb hx; clear hx))
        | (go_at_call 9; ((with_reducible refine (cc _ (hv.step hb)).mono ?_); rintro e w1 ⟨rfl, hx⟩; replace hb := bstep hb hx; clear hx))
        | (go_at_call 19; ((with_reducible refine (awake10_any _ (hv.step hb)).mono ?_); rintro e w1 ⟨rfl, hx⟩; replace hb := bstep hb hx; clear hx)))
      go_ret
      exact ⟨rfl, hb⟩
    · have hr : -719162 ≤ n ∧ n ≤ 2932896 := by omega
      obtain ⟨y, m, d, hd, hnum⟩ := num_of hr
      obtain ⟨hy, hm⟩ := lenD_range hd
      have hlen := lenD_pos hy hm
      have hd2 : 1 ≤ d ∧ d ≤ lenD y m := hd
      have ec := civ_num hd
      rw [← hnum] at ec
      rw [ec] at cc
      by_cases he : 2932896 ≤ n
      · clear hnum ec hd cw hx
        go_enter Tryd.func6, Tryd.ntmps6
        go_wp2_with (first
          | (go_at_call 17; ((with_reducible refine (c1 _ (hv.step hb)).mono ?_); rintro e w1 ⟨rfl, hx⟩; replace hb := bstep hb hx; clear hx))
          | (go_at_call 17; ((with_reducible refine (c2 _ (hv.step hb)).mono ?_); rintro e w1 ⟨rfl, hx⟩; replace hb := bstep hb hx; clear hx))
          | (go_at_call 9; ((with_reducible refine (cc _ (hv.step hb)).mono ?_); rintro e w1 ⟨rfl, hx⟩; replace hb := bstep hb hx; clear hx))
          | (go_at_call 19; ((with_reducible refine (awake10_any _ (hv.step hb)).mono ?_); rintro e w1 ⟨rfl, hx⟩; replace hb := bstep hb hx; clear hx)))
        go_ret
        exact ⟨rfl, hb⟩
      · have nx := next_day hd (by omega)
        rw [← hnum] at nx
        have cl := fun W (hV : DV W) => pLength_any y m (by omega) (by omega) W hV
        have cn := fun W (hV : DV W) => pCivil_any (n + 1) (by omega) W hV
        have cv := fun W (hV : DV W) => pWeekday_any (n + 1) (by omega) W hV
        rw [wd_next] at cv
        have hw := wdD_range n
        have ht7 : Int.tmod (wdD n + 1) 7 = (wdD n + 1) % 7 := tmod_pos (by omega)
        generalize wdD n = x at *
        generalize lenD y m = L at *
        clear hnum ec hd hx hr
        rcases nx with ⟨q1, q2⟩ | ⟨q1, q0, q2⟩ | ⟨q1, q0, q2⟩
        · rw [q2] at cn
          clear q2
          have f1 : decide (d < L) = true := decide_eq_true q1
          go_enter Tryd.func6, Tryd.ntmps6
          go_wp2_with (first
            | (go_at_call 17; ((with_reducible refine (c1 _ (hv.step hb)).mono ?_); rintro e w1 ⟨rfl, hx⟩; replace hb := bstep hb hx; clear hx))
            | (go_at_call 17; ((with_reducible refine (c2 _ (hv.step hb)).mono ?_); rintro e w1 ⟨rfl, hx⟩; replace hb := bstep hb hx; clear hx))
            | (go_at_call 9; ((with_reducible refine (cc _ (hv.step hb)).mono ?_); rintro e w1 ⟨rfl, hx⟩; replace hb := bstep hb hx; clear hx))
            | (go_at_call 19; ((with_reducible refine (awake10_any _ (hv.step hb)).mono ?_); rintro e w1 ⟨rfl, hx⟩; replace hb := bstep hb hx; clear hx))
            | (go_at_call 13; ((with_reducible refine (cl _ (hv.step hb)).mono ?_); rintro e w1 ⟨rfl, hx⟩; replace hb := bstep hb hx; clear hx))
            | (go_at_call 9; ((with_reducible refine (cn _ (hv.step hb)).mono ?_); rintro e w1 ⟨rfl, hx⟩; replace hb := bstep hb hx; clear hx))
            | (go_at_call 15; ((with_reducible refine (cw _ (hv.step hb)).mono ?_); rintro e w1 ⟨rfl, hx⟩; replace hb := bstep hb hx; clear hx))
            | (go_at_call 15; ((with_reducible refine (cv _ (hv.step hb)).mono ?_); rintro e w1 ⟨rfl, hx⟩; replace hb := bstep hb hx; clear hx)))
          go_ret
          exact ⟨rfl, hb⟩
        · rw [q2] at cn
          clear q2
          subst q1
          have f1 : ((m + 1 : Int) == m) = false := by rw [beq_eq_false_iff_ne]; omega
          go_enter Tryd.func6, Tryd.ntmps6
          go_wp2_with (first
            | (go_at_call 17; ((with_reducible refine (c1 _ (hv.step hb)).mono ?_); rintro e w1 ⟨rfl, hx⟩; replace hb := bstep hb hx; clear hx))
            | (go_at_call 17; ((with_reducible refine (c2 _ (hv.step hb)).mono ?_); rintro e w1 ⟨rfl, hx⟩; replace hb := bstep hb hx; clear hx))
            | (go_at_call 9; ((with_reducible refine (cc _ (hv.step hb)).mono ?_); rintro e w1 ⟨rfl, hx⟩; replace hb := bstep hb hx; clear hx))
            | (go_at_call 19; ((with_reducible refine (awake10_any _ (hv.step hb)).mono ?_); rintro e w1 ⟨rfl, hx⟩; replace hb := bstep hb hx; clear hx))
            | (go_at_call 13; ((with_reducible refine (cl _ (hv.step hb)).mono ?_); rintro e w1 ⟨rfl, hx⟩; replace hb := bstep hb hx; clear hx))
            | (go_at_call 9; ((with_reducible refine (cn _ (hv.step hb)).mono ?_); rintro e w1 ⟨rfl, hx⟩; replace hb := bstep hb hx; clear hx))
            | (go_at_call 15; ((with_reducible refine (cw _ (hv.step hb)).mono ?_); rintro e w1 ⟨rfl, hx⟩; replace hb := bstep hb hx; clear hx))
            | (go_at_call 15; ((with_reducible refine (cv _ (hv.step hb)).mono ?_); rintro e w1 ⟨rfl, hx⟩; replace hb := bstep hb hx; clear hx)))
          go_ret
          exact ⟨rfl, hb⟩
        · rw [q2] at cn
          clear q2
          subst q1 q0
          have f1 : ((y + 1 : Int) == y) = false := by rw [beq_eq_false_iff_ne]; omega
          go_enter Tryd.func6, Tryd.ntmps6
          go_wp2_with (first
            | (go_at_call 17; ((with_reducible refine (c1 _ (hv.step hb)).mono ?_); rintro e w1 ⟨rfl, hx⟩; replace hb := bstep hb hx; clear hx))
            | (go_at_call 17; ((with_reducible refine (c2 _ (hv.step hb)).mono ?_); rintro e w1 ⟨rfl, hx⟩; replace hb := bstep hb hx; clear hx))
            | (go_at_call 9; ((with_reducible refine (cc _ (hv.step hb)).mono ?_); rintro e w1 ⟨rfl, hx⟩; replace hb := bstep hb hx; clear hx))
            | (go_at_call 19; ((with_reducible refine (awake10_any _ (hv.step hb)).mono ?_); rintro e w1 ⟨rfl, hx⟩; replace hb := bstep hb hx; clear hx))
            | (go_at_call 13; ((with_reducible refine (cl _ (hv.step hb)).mono ?_); rintro e w1 ⟨rfl, hx⟩; replace hb := bstep hb hx; clear hx))
            | (go_at_call 9; ((with_reducible refine (cn _ (hv.step hb)).mono ?_); rintro e w1 ⟨rfl, hx⟩; replace hb := bstep hb hx; clear hx))
            | (go_at_call 15; ((with_reducible refine (cw _ (hv.step hb)).mono ?_); rintro e w1 ⟨rfl, hx⟩; replace hb := bstep hb hx; clear hx))
            | (go_at_call 15; ((with_reducible refine (cv _ (hv.step hb)).mono ?_); rintro e w1 ⟨rfl, hx⟩; replace hb := bstep hb hx; clear hx)))
          go_ret
          exact ⟨rfl, hb⟩
  rw [hit] at c1
  rw [hiu] at c2
  rw [stamp_less hit hiu] at hl
  clear hit hiu
  generalize (⟨(stampT t).toArray⟩ : ByteArray) = S at *
  generalize (⟨(stampT u).toArray⟩ : ByteArray) = U at *
  by_cases hlt : t < u
  · rw [decide_eq_true hlt] at hl
    by_cases hx : n < -719162 ∨ 2932896 < n
    · rw [civ_bad hx] at cc
      clear hx cw
      go_enter Tryd.func6, Tryd.ntmps6
      go_wp2_with (first
        | (go_at_call 17; ((with_reducible refine (c1 _ (hv.step hb)).mono ?_); rintro e w1 ⟨rfl, hx⟩; replace hb := bstep hb hx; clear hx))
        | (go_at_call 17; ((with_reducible refine (c2 _ (hv.step hb)).mono ?_); rintro e w1 ⟨rfl, hx⟩; replace hb := bstep hb hx; clear hx))
        | (go_at_call 26; ((with_reducible refine (c3 _ (hv.step hb)).mono ?_); rintro e w1 ⟨rfl, hx⟩; replace hb := bstep hb hx; clear hx))
        | (go_at_call 26; ((with_reducible refine (c4 _ (hv.step hb)).mono ?_); rintro e w1 ⟨rfl, hx⟩; replace hb := bstep hb hx; clear hx))
        | (go_at_call 9; ((with_reducible refine (cc _ (hv.step hb)).mono ?_); rintro e w1 ⟨rfl, hx⟩; replace hb := bstep hb hx; clear hx))
        | (go_at_call 19; ((with_reducible refine (awake10_any _ (hv.step hb)).mono ?_); rintro e w1 ⟨rfl, hx⟩; replace hb := bstep hb hx; clear hx)))
      go_ret
      exact ⟨rfl, hb⟩
    · have hr : -719162 ≤ n ∧ n ≤ 2932896 := by omega
      obtain ⟨y, m, d, hd, hnum⟩ := num_of hr
      obtain ⟨hy, hm⟩ := lenD_range hd
      have hlen := lenD_pos hy hm
      have hd2 : 1 ≤ d ∧ d ≤ lenD y m := hd
      have ec := civ_num hd
      rw [← hnum] at ec
      rw [ec] at cc
      by_cases he : 2932896 ≤ n
      · clear hnum ec hd cw hx
        go_enter Tryd.func6, Tryd.ntmps6
        go_wp2_with (first
          | (go_at_call 17; ((with_reducible refine (c1 _ (hv.step hb)).mono ?_); rintro e w1 ⟨rfl, hx⟩; replace hb := bstep hb hx; clear hx))
          | (go_at_call 17; ((with_reducible refine (c2 _ (hv.step hb)).mono ?_); rintro e w1 ⟨rfl, hx⟩; replace hb := bstep hb hx; clear hx))
          | (go_at_call 26; ((with_reducible refine (c3 _ (hv.step hb)).mono ?_); rintro e w1 ⟨rfl, hx⟩; replace hb := bstep hb hx; clear hx))
          | (go_at_call 26; ((with_reducible refine (c4 _ (hv.step hb)).mono ?_); rintro e w1 ⟨rfl, hx⟩; replace hb := bstep hb hx; clear hx))
          | (go_at_call 9; ((with_reducible refine (cc _ (hv.step hb)).mono ?_); rintro e w1 ⟨rfl, hx⟩; replace hb := bstep hb hx; clear hx))
          | (go_at_call 19; ((with_reducible refine (awake10_any _ (hv.step hb)).mono ?_); rintro e w1 ⟨rfl, hx⟩; replace hb := bstep hb hx; clear hx)))
        go_ret
        exact ⟨rfl, hb⟩
      · have nx := next_day hd (by omega)
        rw [← hnum] at nx
        have cl := fun W (hV : DV W) => pLength_any y m (by omega) (by omega) W hV
        have cn := fun W (hV : DV W) => pCivil_any (n + 1) (by omega) W hV
        have cv := fun W (hV : DV W) => pWeekday_any (n + 1) (by omega) W hV
        rw [wd_next] at cv
        have hw := wdD_range n
        have ht7 : Int.tmod (wdD n + 1) 7 = (wdD n + 1) % 7 := tmod_pos (by omega)
        generalize wdD n = x at *
        generalize lenD y m = L at *
        clear hnum ec hd hx hr
        rcases nx with ⟨q1, q2⟩ | ⟨q1, q0, q2⟩ | ⟨q1, q0, q2⟩
        · rw [q2] at cn
          clear q2
          have f1 : decide (d < L) = true := decide_eq_true q1
          go_enter Tryd.func6, Tryd.ntmps6
          go_wp2_with (first
            | (go_at_call 17; ((with_reducible refine (c1 _ (hv.step hb)).mono ?_); rintro e w1 ⟨rfl, hx⟩; replace hb := bstep hb hx; clear hx))
            | (go_at_call 17; ((with_reducible refine (c2 _ (hv.step hb)).mono ?_); rintro e w1 ⟨rfl, hx⟩; replace hb := bstep hb hx; clear hx))
            | (go_at_call 26; ((with_reducible refine (c3 _ (hv.step hb)).mono ?_); rintro e w1 ⟨rfl, hx⟩; replace hb := bstep hb hx; clear hx))
            | (go_at_call 26; ((with_reducible refine (c4 _ (hv.step hb)).mono ?_); rintro e w1 ⟨rfl, hx⟩; replace hb := bstep hb hx; clear hx))
            | (go_at_call 9; ((with_reducible refine (cc _ (hv.step hb)).mono ?_); rintro e w1 ⟨rfl, hx⟩; replace hb := bstep hb hx; clear hx))
            | (go_at_call 19; ((with_reducible refine (awake10_any _ (hv.step hb)).mono ?_); rintro e w1 ⟨rfl, hx⟩; replace hb := bstep hb hx; clear hx))
            | (go_at_call 13; ((with_reducible refine (cl _ (hv.step hb)).mono ?_); rintro e w1 ⟨rfl, hx⟩; replace hb := bstep hb hx; clear hx))
            | (go_at_call 9; ((with_reducible refine (cn _ (hv.step hb)).mono ?_); rintro e w1 ⟨rfl, hx⟩; replace hb := bstep hb hx; clear hx))
            | (go_at_call 15; ((with_reducible refine (cw _ (hv.step hb)).mono ?_); rintro e w1 ⟨rfl, hx⟩; replace hb := bstep hb hx; clear hx))
            | (go_at_call 15; ((with_reducible refine (cv _ (hv.step hb)).mono ?_); rintro e w1 ⟨rfl, hx⟩; replace hb := bstep hb hx; clear hx)))
          go_ret
          exact ⟨rfl, hb⟩
        · rw [q2] at cn
          clear q2
          subst q1
          have f1 : ((m + 1 : Int) == m) = false := by rw [beq_eq_false_iff_ne]; omega
          go_enter Tryd.func6, Tryd.ntmps6
          go_wp2_with (first
            | (go_at_call 17; ((with_reducible refine (c1 _ (hv.step hb)).mono ?_); rintro e w1 ⟨rfl, hx⟩; replace hb := bstep hb hx; clear hx))
            | (go_at_call 17; ((with_reducible refine (c2 _ (hv.step hb)).mono ?_); rintro e w1 ⟨rfl, hx⟩; replace hb := bstep hb hx; clear hx))
            | (go_at_call 26; ((with_reducible refine (c3 _ (hv.step hb)).mono ?_); rintro e w1 ⟨rfl, hx⟩; replace hb := bstep hb hx; clear hx))
            | (go_at_call 26; ((with_reducible refine (c4 _ (hv.step hb)).mono ?_); rintro e w1 ⟨rfl, hx⟩; replace hb := bstep hb hx; clear hx))
            | (go_at_call 9; ((with_reducible refine (cc _ (hv.step hb)).mono ?_); rintro e w1 ⟨rfl, hx⟩; replace hb := bstep hb hx; clear hx))
            | (go_at_call 19; ((with_reducible refine (awake10_any _ (hv.step hb)).mono ?_); rintro e w1 ⟨rfl, hx⟩; replace hb := bstep hb hx; clear hx))
            | (go_at_call 13; ((with_reducible refine (cl _ (hv.step hb)).mono ?_); rintro e w1 ⟨rfl, hx⟩; replace hb := bstep hb hx; clear hx))
            | (go_at_call 9; ((with_reducible refine (cn _ (hv.step hb)).mono ?_); rintro e w1 ⟨rfl, hx⟩; replace hb := bstep hb hx; clear hx))
            | (go_at_call 15; ((with_reducible refine (cw _ (hv.step hb)).mono ?_); rintro e w1 ⟨rfl, hx⟩; replace hb := bstep hb hx; clear hx))
            | (go_at_call 15; ((with_reducible refine (cv _ (hv.step hb)).mono ?_); rintro e w1 ⟨rfl, hx⟩; replace hb := bstep hb hx; clear hx)))
          go_ret
          exact ⟨rfl, hb⟩
        · rw [q2] at cn
          clear q2
          subst q1 q0
          have f1 : ((y + 1 : Int) == y) = false := by rw [beq_eq_false_iff_ne]; omega
          go_enter Tryd.func6, Tryd.ntmps6
          go_wp2_with (first
            | (go_at_call 17; ((with_reducible refine (c1 _ (hv.step hb)).mono ?_); rintro e w1 ⟨rfl, hx⟩; replace hb := bstep hb hx; clear hx))
            | (go_at_call 17; ((with_reducible refine (c2 _ (hv.step hb)).mono ?_); rintro e w1 ⟨rfl, hx⟩; replace hb := bstep hb hx; clear hx))
            | (go_at_call 26; ((with_reducible refine (c3 _ (hv.step hb)).mono ?_); rintro e w1 ⟨rfl, hx⟩; replace hb := bstep hb hx; clear hx))
            | (go_at_call 26; ((with_reducible refine (c4 _ (hv.step hb)).mono ?_); rintro e w1 ⟨rfl, hx⟩; replace hb := bstep hb hx; clear hx))
            | (go_at_call 9; ((with_reducible refine (cc _ (hv.step hb)).mono ?_); rintro e w1 ⟨rfl, hx⟩; replace hb := bstep hb hx; clear hx))
            | (go_at_call 19; ((with_reducible refine (awake10_any _ (hv.step hb)).mono ?_); rintro e w1 ⟨rfl, hx⟩; replace hb := bstep hb hx; clear hx))
            | (go_at_call 13; ((with_reducible refine (cl _ (hv.step hb)).mono ?_); rintro e w1 ⟨rfl, hx⟩; replace hb := bstep hb hx; clear hx))
            | (go_at_call 9; ((with_reducible refine (cn _ (hv.step hb)).mono ?_); rintro e w1 ⟨rfl, hx⟩; replace hb := bstep hb hx; clear hx))
            | (go_at_call 15; ((with_reducible refine (cw _ (hv.step hb)).mono ?_); rintro e w1 ⟨rfl, hx⟩; replace hb := bstep hb hx; clear hx))
            | (go_at_call 15; ((with_reducible refine (cv _ (hv.step hb)).mono ?_); rintro e w1 ⟨rfl, hx⟩; replace hb := bstep hb hx; clear hx)))
          go_ret
          exact ⟨rfl, hb⟩
  · rw [decide_eq_false hlt] at hl
    by_cases hx : n < -719162 ∨ 2932896 < n
    · rw [civ_bad hx] at cc
      clear hx cw
      go_enter Tryd.func6, Tryd.ntmps6
      go_wp2_with (first
        | (go_at_call 17; ((with_reducible refine (c1 _ (hv.step hb)).mono ?_); rintro e w1 ⟨rfl, hx⟩; replace hb := bstep hb hx; clear hx))
        | (go_at_call 17; ((with_reducible refine (c2 _ (hv.step hb)).mono ?_); rintro e w1 ⟨rfl, hx⟩; replace hb := bstep hb hx; clear hx))
        | (go_at_call 26; ((with_reducible refine (c3 _ (hv.step hb)).mono ?_); rintro e w1 ⟨rfl, hx⟩; replace hb := bstep hb hx; clear hx))
        | (go_at_call 26; ((with_reducible refine (c4 _ (hv.step hb)).mono ?_); rintro e w1 ⟨rfl, hx⟩; replace hb := bstep hb hx; clear hx))
        | (go_at_call 9; ((with_reducible refine (cc _ (hv.step hb)).mono ?_); rintro e w1 ⟨rfl, hx⟩; replace hb := bstep hb hx; clear hx))
        | (go_at_call 19; ((with_reducible refine (awake10_any _ (hv.step hb)).mono ?_); rintro e w1 ⟨rfl, hx⟩; replace hb := bstep hb hx; clear hx)))
      go_ret
      exact ⟨rfl, hb⟩
    · have hr : -719162 ≤ n ∧ n ≤ 2932896 := by omega
      obtain ⟨y, m, d, hd, hnum⟩ := num_of hr
      obtain ⟨hy, hm⟩ := lenD_range hd
      have hlen := lenD_pos hy hm
      have hd2 : 1 ≤ d ∧ d ≤ lenD y m := hd
      have ec := civ_num hd
      rw [← hnum] at ec
      rw [ec] at cc
      by_cases he : 2932896 ≤ n
      · clear hnum ec hd cw hx
        go_enter Tryd.func6, Tryd.ntmps6
        go_wp2_with (first
          | (go_at_call 17; ((with_reducible refine (c1 _ (hv.step hb)).mono ?_); rintro e w1 ⟨rfl, hx⟩; replace hb := bstep hb hx; clear hx))
          | (go_at_call 17; ((with_reducible refine (c2 _ (hv.step hb)).mono ?_); rintro e w1 ⟨rfl, hx⟩; replace hb := bstep hb hx; clear hx))
          | (go_at_call 26; ((with_reducible refine (c3 _ (hv.step hb)).mono ?_); rintro e w1 ⟨rfl, hx⟩; replace hb := bstep hb hx; clear hx))
          | (go_at_call 26; ((with_reducible refine (c4 _ (hv.step hb)).mono ?_); rintro e w1 ⟨rfl, hx⟩; replace hb := bstep hb hx; clear hx))
          | (go_at_call 9; ((with_reducible refine (cc _ (hv.step hb)).mono ?_); rintro e w1 ⟨rfl, hx⟩; replace hb := bstep hb hx; clear hx))
          | (go_at_call 19; ((with_reducible refine (awake10_any _ (hv.step hb)).mono ?_); rintro e w1 ⟨rfl, hx⟩; replace hb := bstep hb hx; clear hx)))
        go_ret
        exact ⟨rfl, hb⟩
      · have nx := next_day hd (by omega)
        rw [← hnum] at nx
        have cl := fun W (hV : DV W) => pLength_any y m (by omega) (by omega) W hV
        have cn := fun W (hV : DV W) => pCivil_any (n + 1) (by omega) W hV
        have cv := fun W (hV : DV W) => pWeekday_any (n + 1) (by omega) W hV
        rw [wd_next] at cv
        have hw := wdD_range n
        have ht7 : Int.tmod (wdD n + 1) 7 = (wdD n + 1) % 7 := tmod_pos (by omega)
        generalize wdD n = x at *
        generalize lenD y m = L at *
        clear hnum ec hd hx hr
        rcases nx with ⟨q1, q2⟩ | ⟨q1, q0, q2⟩ | ⟨q1, q0, q2⟩
        · rw [q2] at cn
          clear q2
          have f1 : decide (d < L) = true := decide_eq_true q1
          go_enter Tryd.func6, Tryd.ntmps6
          go_wp2_with (first
            | (go_at_call 17; ((with_reducible refine (c1 _ (hv.step hb)).mono ?_); rintro e w1 ⟨rfl, hx⟩; replace hb := bstep hb hx; clear hx))
            | (go_at_call 17; ((with_reducible refine (c2 _ (hv.step hb)).mono ?_); rintro e w1 ⟨rfl, hx⟩; replace hb := bstep hb hx; clear hx))
            | (go_at_call 26; ((with_reducible refine (c3 _ (hv.step hb)).mono ?_); rintro e w1 ⟨rfl, hx⟩; replace hb := bstep hb hx; clear hx))
            | (go_at_call 26; ((with_reducible refine (c4 _ (hv.step hb)).mono ?_); rintro e w1 ⟨rfl, hx⟩; replace hb := bstep hb hx; clear hx))
            | (go_at_call 9; ((with_reducible refine (cc _ (hv.step hb)).mono ?_); rintro e w1 ⟨rfl, hx⟩; replace hb := bstep hb hx; clear hx))
            | (go_at_call 19; ((with_reducible refine (awake10_any _ (hv.step hb)).mono ?_); rintro e w1 ⟨rfl, hx⟩; replace hb := bstep hb hx; clear hx))
            | (go_at_call 13; ((with_reducible refine (cl _ (hv.step hb)).mono ?_); rintro e w1 ⟨rfl, hx⟩; replace hb := bstep hb hx; clear hx))
            | (go_at_call 9; ((with_reducible refine (cn _ (hv.step hb)).mono ?_); rintro e w1 ⟨rfl, hx⟩; replace hb := bstep hb hx; clear hx))
            | (go_at_call 15; ((with_reducible refine (cw _ (hv.step hb)).mono ?_); rintro e w1 ⟨rfl, hx⟩; replace hb := bstep hb hx; clear hx))
            | (go_at_call 15; ((with_reducible refine (cv _ (hv.step hb)).mono ?_); rintro e w1 ⟨rfl, hx⟩; replace hb := bstep hb hx; clear hx)))
          go_ret
          exact ⟨rfl, hb⟩
        · rw [q2] at cn
          clear q2
          subst q1
          have f1 : ((m + 1 : Int) == m) = false := by rw [beq_eq_false_iff_ne]; omega
          go_enter Tryd.func6, Tryd.ntmps6
          go_wp2_with (first
            | (go_at_call 17; ((with_reducible refine (c1 _ (hv.step hb)).mono ?_); rintro e w1 ⟨rfl, hx⟩; replace hb := bstep hb hx; clear hx))
            | (go_at_call 17; ((with_reducible refine (c2 _ (hv.step hb)).mono ?_); rintro e w1 ⟨rfl, hx⟩; replace hb := bstep hb hx; clear hx))
            | (go_at_call 26; ((with_reducible refine (c3 _ (hv.step hb)).mono ?_); rintro e w1 ⟨rfl, hx⟩; replace hb := bstep hb hx; clear hx))
            | (go_at_call 26; ((with_reducible refine (c4 _ (hv.step hb)).mono ?_); rintro e w1 ⟨rfl, hx⟩; replace hb := bstep hb hx; clear hx))
            | (go_at_call 9; ((with_reducible refine (cc _ (hv.step hb)).mono ?_); rintro e w1 ⟨rfl, hx⟩; replace hb := bstep hb hx; clear hx))
            | (go_at_call 19; ((with_reducible refine (awake10_any _ (hv.step hb)).mono ?_); rintro e w1 ⟨rfl, hx⟩; replace hb := bstep hb hx; clear hx))
            | (go_at_call 13; ((with_reducible refine (cl _ (hv.step hb)).mono ?_); rintro e w1 ⟨rfl, hx⟩; replace hb := bstep hb hx; clear hx))
            | (go_at_call 9; ((with_reducible refine (cn _ (hv.step hb)).mono ?_); rintro e w1 ⟨rfl, hx⟩; replace hb := bstep hb hx; clear hx))
            | (go_at_call 15; ((with_reducible refine (cw _ (hv.step hb)).mono ?_); rintro e w1 ⟨rfl, hx⟩; replace hb := bstep hb hx; clear hx))
            | (go_at_call 15; ((with_reducible refine (cv _ (hv.step hb)).mono ?_); rintro e w1 ⟨rfl, hx⟩; replace hb := bstep hb hx; clear hx)))
          go_ret
          exact ⟨rfl, hb⟩
        · rw [q2] at cn
          clear q2
          subst q1 q0
          have f1 : ((y + 1 : Int) == y) = false := by rw [beq_eq_false_iff_ne]; omega
          go_enter Tryd.func6, Tryd.ntmps6
          go_wp2_with (first
            | (go_at_call 17; ((with_reducible refine (c1 _ (hv.step hb)).mono ?_); rintro e w1 ⟨rfl, hx⟩; replace hb := bstep hb hx; clear hx))
            | (go_at_call 17; ((with_reducible refine (c2 _ (hv.step hb)).mono ?_); rintro e w1 ⟨rfl, hx⟩; replace hb := bstep hb hx; clear hx))
            | (go_at_call 26; ((with_reducible refine (c3 _ (hv.step hb)).mono ?_); rintro e w1 ⟨rfl, hx⟩; replace hb := bstep hb hx; clear hx))
            | (go_at_call 26; ((with_reducible refine (c4 _ (hv.step hb)).mono ?_); rintro e w1 ⟨rfl, hx⟩; replace hb := bstep hb hx; clear hx))
            | (go_at_call 9; ((with_reducible refine (cc _ (hv.step hb)).mono ?_); rintro e w1 ⟨rfl, hx⟩; replace hb := bstep hb hx; clear hx))
            | (go_at_call 19; ((with_reducible refine (awake10_any _ (hv.step hb)).mono ?_); rintro e w1 ⟨rfl, hx⟩; replace hb := bstep hb hx; clear hx))
            | (go_at_call 13; ((with_reducible refine (cl _ (hv.step hb)).mono ?_); rintro e w1 ⟨rfl, hx⟩; replace hb := bstep hb hx; clear hx))
            | (go_at_call 9; ((with_reducible refine (cn _ (hv.step hb)).mono ?_); rintro e w1 ⟨rfl, hx⟩; replace hb := bstep hb hx; clear hx))
            | (go_at_call 15; ((with_reducible refine (cw _ (hv.step hb)).mono ?_); rintro e w1 ⟨rfl, hx⟩; replace hb := bstep hb hx; clear hx))
            | (go_at_call 15; ((with_reducible refine (cv _ (hv.step hb)).mono ?_); rintro e w1 ⟨rfl, hx⟩; replace hb := bstep hb hx; clear hx)))
          go_ret
          exact ⟨rfl, hb⟩

end Go.Proofs.YtnnpiaangemieaaDoor
