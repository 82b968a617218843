/-
  The program's own functions of layer 10: a clock, a day, and a stamp.
-/
import Derived.Test.YtdilnofolnabdaaDoorDateDig
namespace Go.Proofs.YtdilnofolnabdaaDoor
open Go.RowKit

set_option maxRecDepth 100000 in
set_option maxHeartbeats 2000000 in
theorem clock_any (s : Nat) (hs2 : s < 86400) (sep : List UInt8) (hsep : sep.length ≤ 8) (w : World) (hv : DV w) :
    Calls Tryd.prog 71 #[.int .i64 s, .string ⟨sep.toArray⟩] w fun e w' => e = .returned (.string ⟨(clkT sep s).toArray⟩) ∧ Below w.heap.size w w' := by
  have c1 := dig2_any (s / 3600) (by omega)
  have c2 := dig2_any (s % 3600 / 60) (by omega)
  have c3 := dig2_any (s % 60) (by omega)
  have m1 : Int.tdiv (s : Int) 3600 = ((s / 3600 : Nat) : Int) := by rw [tdiv_pos (by omega)]; omega
  have m2 : Int.tmod (s : Int) 3600 = ((s % 3600 : Nat) : Int) := by rw [tmod_pos (by omega)]; omega
  have m3 : Int.tdiv ((s % 3600 : Nat) : Int) 60 = ((s % 3600 / 60 : Nat) : Int) := by rw [tdiv_pos (by omega)]; omega
  have m4 : Int.tmod (s : Int) 60 = ((s % 60 : Nat) : Int) := by rw [tmod_pos (by omega)]; omega
  have HE := Lib.hid (show (⟨(padT 2 (s / 3600)).toArray⟩ : ByteArray) ++ ⟨sep.toArray⟩ ++ ⟨(padT 2 (s % 3600 / 60)).toArray⟩ ++ ⟨sep.toArray⟩ ++ ⟨(padT 2 (s % 60)).toArray⟩ = ⟨(clkT sep s).toArray⟩ by
    simp only [mk_app]
    unfold clkT
    rw [show s % 3600 / 60 = s / 60 % 60 by omega])
  have s0 : (⟨sep.toArray⟩ : ByteArray).size = sep.length := mk_size _
  have s1 : (⟨(padT 2 (s / 3600)).toArray⟩ : ByteArray).size = 2 := by rw [mk_size, padT_length]
  have s2 : (⟨(padT 2 (s % 3600 / 60)).toArray⟩ : ByteArray).size = 2 := by rw [mk_size, padT_length]
  have s3 : (⟨(padT 2 (s % 60)).toArray⟩ : ByteArray).size = 2 := by rw [mk_size, padT_length]
  generalize (⟨(padT 2 (s / 3600)).toArray⟩ : ByteArray) = a at *
  generalize (⟨(padT 2 (s % 3600 / 60)).toArray⟩ : ByteArray) = b at *
  generalize (⟨(padT 2 (s % 60)).toArray⟩ : ByteArray) = c at *
  generalize (⟨sep.toArray⟩ : ByteArray) = p at *
  have no0 : ¬ 9223372036854775807 < a.size + p.size := by omega
  have no1 : ¬ 9223372036854775807 < (a ++ p).size + b.size := by rw [ByteArray.size_append]; omega
  have no2 : ¬ 9223372036854775807 < (a ++ p ++ b).size + p.size := by rw [ByteArray.size_append, ByteArray.size_append]; omega
  have no3 : ¬ 9223372036854775807 < (a ++ p ++ b ++ p).size + c.size := by rw [ByteArray.size_append, ByteArray.size_append, ByteArray.size_append]; omega
  have k1 : s / 3600 < 86400 := by omega
  have k2 : s % 3600 < 86400 := by omega
  have k3 : s % 3600 / 60 < 60 := by omega
  have k4 : s % 60 < 60 := by omega
  generalize s / 3600 = x1 at *
  generalize s % 3600 / 60 = x3 at *
  generalize s % 3600 = x2 at *
  generalize s % 60 = x4 at *
  clear hsep s0
  go_enter Tryd.func71, Tryd.ntmps71
  go_wp2_with (first
    | (go_at_call 73; ((with_reducible refine (c1 _ (by assumption)).mono ?_); rintro e w1 ⟨rfl, hb1⟩; have hv1 := DV.step hv hb1))
    | (go_at_call 73; ((with_reducible refine (c2 _ (by assumption)).mono ?_); rintro e w2 ⟨rfl, hb2⟩; have hv2 := DV.step hv1 hb2))
    | (go_at_call 73; ((with_reducible refine (c3 _ (by assumption)).mono ?_); rintro e w3 ⟨rfl, hb3⟩)))
  go_ret
  exact ⟨by rw [← HE.out]; rfl, bstep (bstep hb1 hb2) hb3⟩

set_option maxRecDepth 100000 in
set_option maxHeartbeats 2000000 in
theorem pDay_any (n : Int) (hn : -9223372036854775808 ≤ n ∧ n < 9223372036854775808) (w : World) (hv : DV w) :
    Calls Tryd.prog 49 #[.int .i64 n] w fun e w' => e = .returned (.string ⟨(dayT n).toArray⟩) ∧ Below w.heap.size w w' := by
  have hc := pCivil_any n hn w hv
  by_cases h : n < -719162 ∨ 2932896 < n
  · have e : Hid (dayT n = []) := Lib.hid (dayT_bad h)
    rw [civ_bad h] at hc
    clear hn h
    go_enter Tryd.func49, Tryd.ntmps49
    go_wp2_with (go_at_call 72; ((with_reducible refine hc.mono ?_); rintro e w1 ⟨rfl, hb1⟩))
    go_ret
    exact ⟨by rw [e.out]; rfl, hb1⟩
  · obtain ⟨y, m, d, hd, rfl⟩ := num_of (n := n) (by omega)
    obtain ⟨hy, hm⟩ := lenD_range hd
    have hp := lenD_pos hy hm
    have e : Hid (dayT (numD y m d) = padT 4 y.toNat ++ padT 2 m.toNat ++ padT 2 d.toNat) := Lib.hid (by unfold dayT; rw [civ_num hd]; rfl)
    rw [civ_num hd] at hc
    generalize numD y m d = n at *
    unfold dateD at hd
    obtain ⟨Y, rfl⟩ : ∃ k : Nat, y = k := ⟨y.toNat, by omega⟩
    obtain ⟨M, rfl⟩ : ∃ k : Nat, m = k := ⟨m.toNat, by omega⟩
    obtain ⟨D, rfl⟩ : ∃ k : Nat, d = k := ⟨d.toNat, by omega⟩
    have c1 := dig4_any Y (by omega)
    have c2 := dig2_any M (by omega)
    have c3 := dig2_any D (by omega)
    have HE := Lib.hid (show (⟨(padT 4 Y).toArray⟩ : ByteArray) ++ ⟨(padT 2 M).toArray⟩ ++ ⟨(padT 2 D).toArray⟩ = ⟨(dayT n).toArray⟩ by rw [mk_app, mk_app, e.out]; rfl)
    have s1 : (⟨(padT 4 Y).toArray⟩ : ByteArray).size = 4 := by rw [mk_size, padT_length]
    have s2 : (⟨(padT 2 M).toArray⟩ : ByteArray).size = 2 := by rw [mk_size, padT_length]
    have s3 : (⟨(padT 2 D).toArray⟩ : ByteArray).size = 2 := by rw [mk_size, padT_length]
    generalize (⟨(padT 4 Y).toArray⟩ : ByteArray) = a at *
    generalize (⟨(padT 2 M).toArray⟩ : ByteArray) = b at *
    generalize (⟨(padT 2 D).toArray⟩ : ByteArray) = c at *
    have no1 : ¬ 9223372036854775807 < a.size + b.size := by omega
    have no2 : ¬ 9223372036854775807 < (a ++ b).size + c.size := by rw [ByteArray.size_append]; omega
    go_enter Tryd.func49, Tryd.ntmps49
    go_wp2_with (first
      | (go_at_call 72; ((with_reducible refine hc.mono ?_); rintro e w0 ⟨rfl, hb0⟩; have hv0 := DV.step hv hb0))
      | (go_at_call 73; ((with_reducible refine (c1 _ (by assumption)).mono ?_); rintro e w1 ⟨rfl, hb1⟩; have hv1 := DV.step hv0 hb1))
      | (go_at_call 73; ((with_reducible refine (c2 _ (by assumption)).mono ?_); rintro e w2 ⟨rfl, hb2⟩; have hv2 := DV.step hv1 hb2))
      | (go_at_call 73; ((with_reducible refine (c3 _ (by assumption)).mono ?_); rintro e w3 ⟨rfl, hb3⟩)))
    go_ret
    exact ⟨by rw [← HE.out]; rfl, bstep (bstep (bstep hb0 hb1) hb2) hb3⟩

set_option maxRecDepth 100000 in
set_option maxHeartbeats 2000000 in
theorem pStamp_any (t : Int) (ht : -9223372036854775808 ≤ t ∧ t < 9223372036854775808) (w : World) (hv : DV w) :
    Calls Tryd.prog 47 #[.int .i64 t] w fun e w' => e = .returned (.string ⟨(stampT t).toArray⟩) ∧ Below w.heap.size w w' := by
  have ci := fun W => in_any t W
  have cp := fun W => parts_any t ht W
  cases hin : inD t
  · rw [hin] at ci
    have e : Hid (stampT t = []) := Lib.hid (by unfold stampT; rw [hin]; rfl)
    clear hin ht cp
    go_enter Tryd.func47, Tryd.ntmps47
    go_wp2_with (go_at_call 70; ((with_reducible refine (ci _).mono ?_); rintro e w' ⟨rfl, hw⟩; subst w'))
    go_ret
    exact ⟨by rw [e.out]; rfl, Below.refl _ _⟩
  · rw [hin] at ci
    have hd := inD_day hin
    obtain ⟨s, hs⟩ : ∃ s : Nat, t % 86400 = s := ⟨(t % 86400).toNat, by omega⟩
    have hs2 := clk_parts s hs
    have cd := fun W (h : DV W) => pDay_any (t / 86400) (by omega) W h
    have ck := clock_any s hs2 [] (by decide)
    have e : Hid (stampT t = dayT (t / 86400) ++ [84] ++ clkT [] s) := Lib.hid (by unfold stampT; rw [hin, hs]; rfl)
    have sd : (⟨(dayT (t / 86400)).toArray⟩ : ByteArray).size = 8 := by rw [mk_size, dayT_length hd]
    have HE := Lib.hid (show (⟨(dayT (t / 86400)).toArray⟩ : ByteArray) ++ ⟨#[84]⟩ ++ ⟨(clkT [] s).toArray⟩ = ⟨(stampT t).toArray⟩ by
      rw [show (⟨#[84]⟩ : ByteArray) = ⟨([84] : List UInt8).toArray⟩ from rfl, mk_app, mk_app, e.out])
    have sc : (⟨(clkT [] s).toArray⟩ : ByteArray).size = 6 := by rw [mk_size]; unfold clkT; simp [padT_length]
    rw [hs] at cp
    rw [show (⟨([] : List UInt8).toArray⟩ : ByteArray) = ⟨#[]⟩ from rfl] at ck
    clear hd hs hin e hs2
    generalize (⟨(dayT (t / 86400)).toArray⟩ : ByteArray) = d at *
    generalize (⟨(clkT [] s).toArray⟩ : ByteArray) = c at *
    generalize t / 86400 = q at *
    have no0 : ¬ 9223372036854775807 < d.size + (⟨#[84]⟩ : ByteArray).size := by rw [sd]; decide
    have no1 : ¬ 9223372036854775807 < (d ++ (⟨#[84]⟩ : ByteArray)).size + c.size := by rw [ByteArray.size_append, sd, sc]; decide
    go_enter Tryd.func47, Tryd.ntmps47
    go_wp2_with (first
      | (go_at_call 70; ((with_reducible refine (ci _).mono ?_); rintro e w' ⟨rfl, hw⟩; subst w'))
      | (go_at_call 48; ((with_reducible refine (cp _).mono ?_); rintro e w' ⟨rfl, hw⟩; subst w'))
      | (go_at_call 49; ((with_reducible refine (cd _ (by assumption)).mono ?_); rintro e w0 ⟨rfl, hb0⟩; have hv0 := DV.step hv hb0))
      | (go_at_call 71; ((with_reducible refine (ck _ (by assumption)).mono ?_); rintro e w1 ⟨rfl, hb1⟩)))
    go_ret
    exact ⟨by rw [← HE.out]; rfl, bstep hb0 hb1⟩

end Go.Proofs.YtdilnofolnabdaaDoor
