/-
  Layer 10's laws on days and dates there and back, and one behind the other: each returns true.
-/
import Derived.Test.YtnnpiaangemieaaDoorDateLaws
namespace Go.Proofs.YtnnpiaangemieaaDoor
open Go.RowKit

theorem mk_list (l : List UInt8) : (⟨l.toArray⟩ : ByteArray).data.toList = l := by simp
theorem stampT_length {t : Int} (h : inD t = true) : (stampT t).length = 15 := by
  unfold stampT
  rw [if_pos h]
  simp [dayT_length (inD_day h), clkT_length]
theorem httpT_length {t : Int} (h : inD t = true) : (httpT t).length = 29 := (http_parts ⟨h, rfl⟩).1
theorem dayT_small (n : Int) : (dayT n).length ≤ 8 := by
  by_cases h : n < -719162 ∨ 2932896 < n
  · rw [dayT_bad h]; simp
  · rw [dayT_length (by omega)]; omega
theorem stampT_out {t : Int} (h : inD t = false) : stampT t = [] := by unfold stampT; rw [h]; rfl

set_option maxRecDepth 100000 in
set_option maxHeartbeats 4000000 in
theorem back_any (n y m d : Int) (hn : -9223372036854775808 ≤ n ∧ n < 9223372036854775808) (hy : -9223372036854775808 ≤ y ∧ y < 9223372036854775808) (hm : -9223372036854775808 ≤ m ∧ m < 9223372036854775808) (hd : -9223372036854775808 ≤ d ∧ d < 9223372036854775808) (w : World) (hv : DV w) :
    Calls Tryd.prog 5 #[.int .i64 n, .int .i64 y, .int .i64 m, .int .i64 d] w fun e w' => e = .returned (.bool true) ∧ Below w.heap.size w w' := by
  have hb : Below w.heap.size w w := Below.refl _ _
  have cc := fun W (hV : DV W) => pCivil_any n hn W hV
  have cd := fun W (hV : DV W) => pDays_any y m d hy hm hd W hV
  have cy := fun W (hV : DV W) => pDay_any n hn W hV
  have cr := fun W (hV : DV W) => pReadDay_any ⟨(dayT n).toArray⟩ (by rw [mk_size]; have := dayT_small n; omega) W hV
  have ci := fun W (hV : DV W) => pIn_any n hn W hV
  have cs := fun W (hV : DV W) => pStamp_any n hn W hV
  have ch := fun W (hV : DV W) => pHttp_any n hn W hV
  have cp := fun W (hV : DV W) => pParts_any n hn W hV
  rw [mk_list] at cr
  by_cases hx : n < -719162 ∨ 2932896 < n
  · rw [civ_bad hx] at cc
    clear hx cr
    by_cases hdt : dateD y m d
    · have ra := numD_range hdt
      have ca := fun W (hV : DV W) => pCivil_any (numD y m d) (by omega) W hV
      rw [daysV_ok hdt] at cd
      rw [civ_num hdt] at ca
      clear hdt
      generalize numD y m d = a at *
      clear ra
      cases hin : inD n
      · rw [hin] at ci
        rw [stampT_out hin] at cs
        rw [httpT_out hin] at ch
        clear hin cp
        generalize (⟨(dayT n).toArray⟩ : ByteArray) = D at *
        go_enter Tryd.func5, Tryd.ntmps5
        go_wp2_with (first
          | (go_at_call 9; ((with_reducible refine (cc _ (hv.step hb)).mono ?_); rintro e w1 ⟨rfl, hx⟩; replace hb := bstep hb hx; clear hx))
          | (go_at_call 7; ((with_reducible refine (cd _ (hv.step hb)).mono ?_); rintro e w1 ⟨rfl, hx⟩; replace hb := bstep hb hx; clear hx))
          | (go_at_call 9; ((with_reducible refine (ca _ (hv.step hb)).mono ?_); rintro e w1 ⟨rfl, hx⟩; replace hb := bstep hb hx; clear hx))
          | (go_at_call 17; ((with_reducible refine (ci _ (hv.step hb)).mono ?_); rintro e w1 ⟨rfl, hx⟩; replace hb := bstep hb hx; clear hx))
          | (go_at_call 26; ((with_reducible refine (cs _ (hv.step hb)).mono ?_); rintro e w1 ⟨rfl, hx⟩; replace hb := bstep hb hx; clear hx))
          | (go_at_call 30; ((with_reducible refine (ch _ (hv.step hb)).mono ?_); rintro e w1 ⟨rfl, hx⟩; replace hb := bstep hb hx; clear hx))
          | (go_at_call 19; ((with_reducible refine (awake10_any _ (hv.step hb)).mono ?_); rintro e w1 ⟨rfl, hx⟩; replace hb := bstep hb hx; clear hx)))
        go_ret
        exact ⟨rfl, hb⟩
      · rw [hin] at ci
        have crs := fun W (hV : DV W) => pReadStamp_any ⟨(stampT n).toArray⟩ (by rw [mk_size, stampT_length hin]; omega) W hV
        have crh := fun W (hV : DV W) => pReadHttp_any ⟨(httpT n).toArray⟩ (by rw [mk_size, httpT_length hin]; omega) W hV
        rw [mk_list, rdStamp_back hin] at crs
        rw [mk_list, rdHttp_back hin] at crh
        have h1 : n / 86400 * 86400 + n % 86400 = n := by omega
        have h2 : 0 ≤ n % 86400 := by omega
        have h3 : n % 86400 < 86400 := by omega
        have h4 : -719162 ≤ n / 86400 ∧ n / 86400 ≤ 2932896 := inD_day hin
        generalize (⟨(stampT n).toArray⟩ : ByteArray) = S at *
        generalize (⟨(httpT n).toArray⟩ : ByteArray) = H at *
        generalize (⟨(dayT n).toArray⟩ : ByteArray) = D at *
        clear hin
        generalize n / 86400 = q at *
        generalize n % 86400 = r at *
        go_enter Tryd.func5, Tryd.ntmps5
        go_wp2_with (first
          | (go_at_call 9; ((with_reducible refine (cc _ (hv.step hb)).mono ?_); rintro e w1 ⟨rfl, hx⟩; replace hb := bstep hb hx; clear hx))
          | (go_at_call 7; ((with_reducible refine (cd _ (hv.step hb)).mono ?_); rintro e w1 ⟨rfl, hx⟩; replace hb := bstep hb hx; clear hx))
          | (go_at_call 9; ((with_reducible refine (ca _ (hv.step hb)).mono ?_); rintro e w1 ⟨rfl, hx⟩; replace hb := bstep hb hx; clear hx))
          | (go_at_call 17; ((with_reducible refine (ci _ (hv.step hb)).mono ?_); rintro e w1 ⟨rfl, hx⟩; replace hb := bstep hb hx; clear hx))
          | (go_at_call 26; ((with_reducible refine (cs _ (hv.step hb)).mono ?_); rintro e w1 ⟨rfl, hx⟩; replace hb := bstep hb hx; clear hx))
          | (go_at_call 30; ((with_reducible refine (ch _ (hv.step hb)).mono ?_); rintro e w1 ⟨rfl, hx⟩; replace hb := bstep hb hx; clear hx))
          | (go_at_call 20; ((with_reducible refine (crs _ (hv.step hb)).mono ?_); rintro e w1 ⟨rfl, hx⟩; replace hb := bstep hb hx; clear hx))
          | (go_at_call 24; ((with_reducible refine (crh _ (hv.step hb)).mono ?_); rintro e w1 ⟨rfl, hx⟩; replace hb := bstep hb hx; clear hx))
          | (go_at_call 11; ((with_reducible refine (cp _ (hv.step hb)).mono ?_); rintro e w1 ⟨rfl, hx⟩; replace hb := bstep hb hx; clear hx))
          | (go_at_call 19; ((with_reducible refine (awake10_any _ (hv.step hb)).mono ?_); rintro e w1 ⟨rfl, hx⟩; replace hb := bstep hb hx; clear hx)))
        go_ret
        exact ⟨rfl, hb⟩
    · rw [daysV_bad hdt] at cd
      clear hdt
      cases hin : inD n
      · rw [hin] at ci
        rw [stampT_out hin] at cs
        rw [httpT_out hin] at ch
        clear hin cp
        generalize (⟨(dayT n).toArray⟩ : ByteArray) = D at *
        go_enter Tryd.func5, Tryd.ntmps5
        go_wp2_with (first
          | (go_at_call 9; ((with_reducible refine (cc _ (hv.step hb)).mono ?_); rintro e w1 ⟨rfl, hx⟩; replace hb := bstep hb hx; clear hx))
          | (go_at_call 7; ((with_reducible refine (cd _ (hv.step hb)).mono ?_); rintro e w1 ⟨rfl, hx⟩; replace hb := bstep hb hx; clear hx))
          | (go_at_call 17; ((with_reducible refine (ci _ (hv.step hb)).mono ?_); rintro e w1 ⟨rfl, hx⟩; replace hb := bstep hb hx; clear hx))
          | (go_at_call 26; ((with_reducible refine (cs _ (hv.step hb)).mono ?_); rintro e w1 ⟨rfl, hx⟩; replace hb := bstep hb hx; clear hx))
          | (go_at_call 30; ((with_reducible refine (ch _ (hv.step hb)).mono ?_); rintro e w1 ⟨rfl, hx⟩; replace hb := bstep hb hx; clear hx))
          | (go_at_call 19; ((with_reducible refine (awake10_any _ (hv.step hb)).mono ?_); rintro e w1 ⟨rfl, hx⟩; replace hb := bstep hb hx; clear hx)))
        go_ret
        exact ⟨rfl, hb⟩
      · rw [hin] at ci
        have crs := fun W (hV : DV W) => pReadStamp_any ⟨(stampT n).toArray⟩ (by rw [mk_size, stampT_length hin]; omega) W hV
        have crh := fun W (hV : DV W) => pReadHttp_any ⟨(httpT n).toArray⟩ (by rw [mk_size, httpT_length hin]; omega) W hV
        rw [mk_list, rdStamp_back hin] at crs
        rw [mk_list, rdHttp_back hin] at crh
        have h1 : n / 86400 * 86400 + n % 86400 = n := by omega
        have h2 : 0 ≤ n % 86400 := by omega
        have h3 : n % 86400 < 86400 := by omega
        have h4 : -719162 ≤ n / 86400 ∧ n / 86400 ≤ 2932896 := inD_day hin
        generalize (⟨(stampT n).toArray⟩ : ByteArray) = S at *
        generalize (⟨(httpT n).toArray⟩ : ByteArray) = H at *
        generalize (⟨(dayT n).toArray⟩ : ByteArray) = D at *
        clear hin
        generalize n / 86400 = q at *
        generalize n % 86400 = r at *
        go_enter Tryd.func5, Tryd.ntmps5
        go_wp2_with (first
          | (go_at_call 9; ((with_reducible refine (cc _ (hv.step hb)).mono ?_); rintro e w1 ⟨rfl, hx⟩; replace hb := bstep hb hx; clear hx))
          | (go_at_call 7; ((with_reducible refine (cd _ (hv.step hb)).mono ?_); rintro e w1 ⟨rfl, hx⟩; replace hb := bstep hb hx; clear hx))
          | (go_at_call 17; ((with_reducible refine (ci _ (hv.step hb)).mono ?_); rintro e w1 ⟨rfl, hx⟩; replace hb := bstep hb hx; clear hx))
          | (go_at_call 26; ((with_reducible refine (cs _ (hv.step hb)).mono ?_); rintro e w1 ⟨rfl, hx⟩; replace hb := bstep hb hx; clear hx))
          | (go_at_call 30; ((with_reducible refine (ch _ (hv.step hb)).mono ?_); rintro e w1 ⟨rfl, hx⟩; replace hb := bstep hb hx; clear hx))
          | (go_at_call 20; ((with_reducible refine (crs _ (hv.step hb)).mono ?_); rintro e w1 ⟨rfl, hx⟩; replace hb := bstep hb hx; clear hx))
          | (go_at_call 24; ((with_reducible refine (crh _ (hv.step hb)).mono ?_); rintro e w1 ⟨rfl, hx⟩; replace hb := bstep hb hx; clear hx))
          | (go_at_call 11; ((with_reducible refine (cp _ (hv.step hb)).mono ?_); rintro e w1 ⟨rfl, hx⟩; replace hb := bstep hb hx; clear hx))
          | (go_at_call 19; ((with_reducible refine (awake10_any _ (hv.step hb)).mono ?_); rintro e w1 ⟨rfl, hx⟩; replace hb := bstep hb hx; clear hx)))
        go_ret
        exact ⟨rfl, hb⟩
  · have hr : -719162 ≤ n ∧ n ≤ 2932896 := by omega
    obtain ⟨i, j, k, hijk, hnum⟩ := num_of hr
    obtain ⟨hi, hj⟩ := lenD_range hijk
    have hk := lenD_pos hi hj
    have hk2 : 1 ≤ k ∧ k ≤ lenD i j := hijk
    have cn := fun W (hV : DV W) => pDays_any i j k (by omega) (by omega) (by omega) W hV
    rw [daysV_ok hijk, ← hnum] at cn
    have ec := civ_num hijk
    rw [← hnum] at ec
    rw [ec] at cc
    rw [rdDay_back hr] at cr
    clear hnum ec hijk hk hk2 hx
    by_cases hdt : dateD y m d
    · have ra := numD_range hdt
      have ca := fun W (hV : DV W) => pCivil_any (numD y m d) (by omega) W hV
      rw [daysV_ok hdt] at cd
      rw [civ_num hdt] at ca
      clear hdt
      generalize numD y m d = a at *
      clear ra
      cases hin : inD n
      · rw [hin] at ci
        rw [stampT_out hin] at cs
        rw [httpT_out hin] at ch
        clear hin cp
        generalize (⟨(dayT n).toArray⟩ : ByteArray) = D at *
        go_enter Tryd.func5, Tryd.ntmps5
        go_wp2_with (first
          | (go_at_call 9; ((with_reducible refine (cc _ (hv.step hb)).mono ?_); rintro e w1 ⟨rfl, hx⟩; replace hb := bstep hb hx; clear hx))
          | (go_at_call 7; ((with_reducible refine (cn _ (hv.step hb)).mono ?_); rintro e w1 ⟨rfl, hx⟩; replace hb := bstep hb hx; clear hx))
          | (go_at_call 22; ((with_reducible refine (cr _ (hv.step hb)).mono ?_); rintro e w1 ⟨rfl, hx⟩; replace hb := bstep hb hx; clear hx))
          | (go_at_call 28; ((with_reducible refine (cy _ (hv.step hb)).mono ?_); rintro e w1 ⟨rfl, hx⟩; replace hb := bstep hb hx; clear hx))
          | (go_at_call 7; ((with_reducible refine (cd _ (hv.step hb)).mono ?_); rintro e w1 ⟨rfl, hx⟩; replace hb := bstep hb hx; clear hx))
          | (go_at_call 9; ((with_reducible refine (ca _ (hv.step hb)).mono ?_); rintro e w1 ⟨rfl, hx⟩; replace hb := bstep hb hx; clear hx))
          | (go_at_call 17; ((with_reducible refine (ci _ (hv.step hb)).mono ?_); rintro e w1 ⟨rfl, hx⟩; replace hb := bstep hb hx; clear hx))
          | (go_at_call 26; ((with_reducible refine (cs _ (hv.step hb)).mono ?_); rintro e w1 ⟨rfl, hx⟩; replace hb := bstep hb hx; clear hx))
          | (go_at_call 30; ((with_reducible refine (ch _ (hv.step hb)).mono ?_); rintro e w1 ⟨rfl, hx⟩; replace hb := bstep hb hx; clear hx))
          | (go_at_call 19; ((with_reducible refine (awake10_any _ (hv.step hb)).mono ?_); rintro e w1 ⟨rfl, hx⟩; replace hb := bstep hb hx; clear hx)))
        go_ret
        exact ⟨rfl, hb⟩
      · rw [hin] at ci
        have crs := fun W (hV : DV W) => pReadStamp_any ⟨(stampT n).toArray⟩ (by rw [mk_size, stampT_length hin]; omega) W hV
        have crh := fun W (hV : DV W) => pReadHttp_any ⟨(httpT n).toArray⟩ (by rw [mk_size, httpT_length hin]; omega) W hV
        rw [mk_list, rdStamp_back hin] at crs
        rw [mk_list, rdHttp_back hin] at crh
        have h1 : n / 86400 * 86400 + n % 86400 = n := by omega
        have h2 : 0 ≤ n % 86400 := by omega
        have h3 : n % 86400 < 86400 := by omega
        have h4 : -719162 ≤ n / 86400 ∧ n / 86400 ≤ 2932896 := inD_day hin
        generalize (⟨(stampT n).toArray⟩ : ByteArray) = S at *
        generalize (⟨(httpT n).toArray⟩ : ByteArray) = H at *
        generalize (⟨(dayT n).toArray⟩ : ByteArray) = D at *
        clear hin
        generalize n / 86400 = q at *
        generalize n % 86400 = r at *
        go_enter Tryd.func5, Tryd.ntmps5
        go_wp2_with (first
          | (go_at_call 9; ((with_reducible refine (cc _ (hv.step hb)).mono ?_); rintro e w1 ⟨rfl, hx⟩; replace hb := bstep hb hx; clear hx))
          | (go_at_call 7; ((with_reducible refine (cn _ (hv.step hb)).mono ?_); rintro e w1 ⟨rfl, hx⟩; replace hb := bstep hb hx; clear hx))
          | (go_at_call 22; ((with_reducible refine (cr _ (hv.step hb)).mono ?_); rintro e w1 ⟨rfl, hx⟩; replace hb := bstep hb hx; clear hx))
          | (go_at_call 28; ((with_reducible refine (cy _ (hv.step hb)).mono ?_); rintro e w1 ⟨rfl, hx⟩; replace hb := bstep hb hx; clear hx))
          | (go_at_call 7; ((with_reducible refine (cd _ (hv.step hb)).mono ?_); rintro e w1 ⟨rfl, hx⟩; replace hb := bstep hb hx; clear hx))
          | (go_at_call 9; ((with_reducible refine (ca _ (hv.step hb)).mono ?_); rintro e w1 ⟨rfl, hx⟩; replace hb := bstep hb hx; clear hx))
          | (go_at_call 17; ((with_reducible refine (ci _ (hv.step hb)).mono ?_); rintro e w1 ⟨rfl, hx⟩; replace hb := bstep hb hx; clear hx))
          | (go_at_call 26; ((with_reducible refine (cs _ (hv.step hb)).mono ?_); rintro e w1 ⟨rfl, hx⟩; replace hb := bstep hb hx; clear hx))
          | (go_at_call 30; ((with_reducible refine (ch _ (hv.step hb)).mono ?_); rintro e w1 ⟨rfl, hx⟩; replace hb := bstep hb hx; clear hx))
          | (go_at_call 20; ((with_reducible refine (crs _ (hv.step hb)).mono ?_); rintro e w1 ⟨rfl, hx⟩; replace hb := bstep hb hx; clear hx))
          | (go_at_call 24; ((with_reducible refine (crh _ (hv.step hb)).mono ?_); rintro e w1 ⟨rfl, hx⟩; replace hb := bstep hb hx; clear hx))
          | (go_at_call 11; ((with_reducible refine (cp _ (hv.step hb)).mono ?_); rintro e w1 ⟨rfl, hx⟩; replace hb := bstep hb hx; clear hx))
          | (go_at_call 19; ((with_reducible refine (awake10_any _ (hv.step hb)).mono ?_); rintro e w1 ⟨rfl, hx⟩; replace hb := bstep hb hx; clear hx)))
        go_ret
        exact ⟨rfl, hb⟩
    · rw [daysV_bad hdt] at cd
      clear hdt
      cases hin : inD n
      · rw [hin] at ci
        rw [stampT_out hin] at cs
        rw [httpT_out hin] at ch
        clear hin cp
        generalize (⟨(dayT n).toArray⟩ : ByteArray) = D at *
        go_enter Tryd.func5, Tryd.ntmps5
        go_wp2_with (first
          | (go_at_call 9; ((with_reducible refine (cc _ (hv.step hb)).mono ?_); rintro e w1 ⟨rfl, hx⟩; replace hb := bstep hb hx; clear hx))
          | (go_at_call 7; ((with_reducible refine (cn _ (hv.step hb)).mono ?_); rintro e w1 ⟨rfl, hx⟩; replace hb := bstep hb hx; clear hx))
          | (go_at_call 22; ((with_reducible refine (cr _ (hv.step hb)).mono ?_); rintro e w1 ⟨rfl, hx⟩; replace hb := bstep hb hx; clear hx))
          | (go_at_call 28; ((with_reducible refine (cy _ (hv.step hb)).mono ?_); rintro e w1 ⟨rfl, hx⟩; replace hb := bstep hb hx; clear hx))
          | (go_at_call 7; ((with_reducible refine (cd _ (hv.step hb)).mono ?_); rintro e w1 ⟨rfl, hx⟩; replace hb := bstep hb hx; clear hx))
          | (go_at_call 17; ((with_reducible refine (ci _ (hv.step hb)).mono ?_); rintro e w1 ⟨rfl, hx⟩; replace hb := bstep hb hx; clear hx))
          | (go_at_call 26; ((with_reducible refine (cs _ (hv.step hb)).mono ?_); rintro e w1 ⟨rfl, hx⟩; replace hb := bstep hb hx; clear hx))
          | (go_at_call 30; ((with_reducible refine (ch _ (hv.step hb)).mono ?_); rintro e w1 ⟨rfl, hx⟩; replace hb := bstep hb hx; clear hx))
          | (go_at_call 19; ((with_reducible refine (awake10_any _ (hv.step hb)).mono ?_); rintro e w1 ⟨rfl, hx⟩; replace hb := bstep hb hx; clear hx)))
        go_ret
        exact ⟨rfl, hb⟩
      · rw [hin] at ci
        have crs := fun W (hV : DV W) => pReadStamp_any ⟨(stampT n).toArray⟩ (by rw [mk_size, stampT_length hin]; omega) W hV
        have crh := fun W (hV : DV W) => pReadHttp_any ⟨(httpT n).toArray⟩ (by rw [mk_size, httpT_length hin]; omega) W hV
        rw [mk_list, rdStamp_back hin] at crs
        rw [mk_list, rdHttp_back hin] at crh
        have h1 : n / 86400 * 86400 + n % 86400 = n := by omega
        have h2 : 0 ≤ n % 86400 := by omega
        have h3 : n % 86400 < 86400 := by omega
        have h4 : -719162 ≤ n / 86400 ∧ n / 86400 ≤ 2932896 := inD_day hin
        generalize (⟨(stampT n).toArray⟩ : ByteArray) = S at *
        generalize (⟨(httpT n).toArray⟩ : ByteArray) = H at *
        generalize (⟨(dayT n).toArray⟩ : ByteArray) = D at *
        clear hin
        generalize n / 86400 = q at *
        generalize n % 86400 = r at *
        go_enter Tryd.func5, Tryd.ntmps5
        go_wp2_with (first
          | (go_at_call 9; ((with_reducible refine (cc _ (hv.step hb)).mono ?_); rintro e w1 ⟨rfl, hx⟩; replace hb := bstep hb hx; clear hx))
          | (go_at_call 7; ((with_reducible refine (cn _ (hv.step hb)).mono ?_); rintro e w1 ⟨rfl, hx⟩; replace hb := bstep hb hx; clear hx))
          | (go_at_call 22; ((with_reducible refine (cr _ (hv.step hb)).mono ?_); rintro e w1 ⟨rfl, hx⟩; replace hb := bstep hb hx; clear hx))
          | (go_at_call 28; ((with_reducible refine (cy _ (hv.step hb)).mono ?_); rintro e w1 ⟨rfl, hx⟩; replace hb := bstep hb hx; clear hx))
          | (go_at_call 7; ((with_reducible refine (cd _ (hv.step hb)).mono ?_); rintro e w1 ⟨rfl, hx⟩; replace hb := bstep hb hx; clear hx))
          | (go_at_call 17; ((with_reducible refine (ci _ (hv.step hb)).mono ?_); rintro e w1 ⟨rfl, hx⟩; replace hb := bstep hb hx; clear hx))
          | (go_at_call 26; ((with_reducible refine (cs _ (hv.step hb)).mono ?_); rintro e w1 ⟨rfl, hx⟩; replace hb := bstep hb hx; clear hx))
          | (go_at_call 30; ((with_reducible refine (ch _ (hv.step hb)).mono ?_); rintro e w1 ⟨rfl, hx⟩; replace hb := bstep hb hx; clear hx))
          | (go_at_call 20; ((with_reducible refine (crs _ (hv.step hb)).mono ?_); rintro e w1 ⟨rfl, hx⟩; replace hb := bstep hb hx; clear hx))
          | (go_at_call 24; ((with_reducible refine (crh _ (hv.step hb)).mono ?_); rintro e w1 ⟨rfl, hx⟩; replace hb := bstep hb hx; clear hx))
          | (go_at_call 11; ((with_reducible refine (cp _ (hv.step hb)).mono ?_); rintro e w1 ⟨rfl, hx⟩; replace hb := bstep hb hx; clear hx))
          | (go_at_call 19; ((with_reducible refine (awake10_any _ (hv.step hb)).mono ?_); rintro e w1 ⟨rfl, hx⟩; replace hb := bstep hb hx; clear hx)))
        go_ret
        exact ⟨rfl, hb⟩

theorem lessB (a b : List UInt8) : Op.bytesLess (⟨a.toArray⟩ : ByteArray).toList (⟨b.toArray⟩ : ByteArray).toList = Op.bytesLess a b := by
  rw [ByteArray.toList_eq, ByteArray.toList_eq, mk_list, mk_list]

end Go.Proofs.YtnnpiaangemieaaDoor
