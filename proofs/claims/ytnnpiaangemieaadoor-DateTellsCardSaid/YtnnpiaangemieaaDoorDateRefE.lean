/-
  The document's own answers of layer 10: a time as a stamp, and as HTTP writes it.
-/
import Derived.Test.YtnnpiaangemieaaDoorDateRefD
namespace Go.Proofs.YtnnpiaangemieaaDoor
open Go.RowKit

theorem clk_parts {t : Int} (s : Nat) (hs : t % 86400 = s) : s < 86400 := by omega
set_option maxRecDepth 100000 in
set_option maxHeartbeats 2000000 in
theorem refStamp_any (t : Int) (ht : -9223372036854775808 ≤ t ∧ t < 9223372036854775808) (w : World) :
    Calls Tryd.prog 27 #[.int .i64 t] w fun e w' => e = .returned (.string ⟨(stampT t).toArray⟩) ∧ Below w.heap.size w w' := by
  have ci := fun W => refIn_any t W
  have cp := fun W => refParts_any t ht W
  cases hin : inD t
  · rw [hin] at ci
    have e : Hid (stampT t = []) := Lib.hid (by unfold stampT; rw [hin]; rfl)
    clear hin ht cp
    go_enter Tryd.func27, Tryd.ntmps27
    go_wp2_with (go_at_call 18; ((with_reducible refine (ci _).mono ?_); rintro e w' ⟨rfl, hw⟩; subst w'))
    go_ret
    exact ⟨by rw [e.out]; rfl, Below.refl _ _⟩
  · rw [hin] at ci
    have hd := inD_day hin
    obtain ⟨s, hs⟩ : ∃ s : Nat, t % 86400 = s := ⟨(t % 86400).toNat, by omega⟩
    have hs2 := clk_parts s hs
    have cd := fun W => refDay_any (t / 86400) (by omega) W
    have e : Hid (stampT t = dayT (t / 86400) ++ [84] ++ clkT [] s) := Lib.hid (by unfold stampT; rw [hin, hs]; rfl)
    have sd : (⟨(dayT (t / 86400)).toArray⟩ : ByteArray).size = 8 := by rw [mk_size, dayT_length hd]
    rw [hs] at cp
    clear hd hs hin
    generalize dayT (t / 86400) = dl at *
    generalize t / 86400 = q at *
    have c1 := pad2_any (s / 3600) (by omega)
    have c2 := pad2_any (s / 60 % 60) (by omega)
    have c3 := pad2_any (s % 60) (by omega)
    have m1 : Int.tdiv (s : Int) 3600 = ((s / 3600 : Nat) : Int) := by rw [tdiv_pos (by omega)]; omega
    have m2 : Int.tdiv (s : Int) 60 = ((s / 60 : Nat) : Int) := by rw [tdiv_pos (by omega)]; omega
    have m3 : Int.tmod ((s / 60 : Nat) : Int) 60 = ((s / 60 % 60 : Nat) : Int) := by rw [tmod_pos (by omega)]; omega
    have m4 : Int.tmod (s : Int) 60 = ((s % 60 : Nat) : Int) := by rw [tmod_pos (by omega)]; omega
    have HE := Lib.hid (show (⟨dl.toArray⟩ : ByteArray) ++ ⟨#[84]⟩ ++ ⟨(padT 2 (s / 3600)).toArray⟩ ++ ⟨(padT 2 (s / 60 % 60)).toArray⟩ ++ ⟨(padT 2 (s % 60)).toArray⟩ = ⟨(stampT t).toArray⟩ by
      rw [show (⟨#[84]⟩ : ByteArray) = ⟨([84] : List UInt8).toArray⟩ from rfl, mk_app, mk_app, mk_app, mk_app, e.out]
      unfold clkT
      simp only [List.append_nil, List.append_assoc])
    have s1 : (⟨(padT 2 (s / 3600)).toArray⟩ : ByteArray).size = 2 := by rw [mk_size, padT_length]
    have s2 : (⟨(padT 2 (s / 60 % 60)).toArray⟩ : ByteArray).size = 2 := by rw [mk_size, padT_length]
    have s3 : (⟨(padT 2 (s % 60)).toArray⟩ : ByteArray).size = 2 := by rw [mk_size, padT_length]
    generalize (⟨(padT 2 (s / 3600)).toArray⟩ : ByteArray) = a at *
    generalize (⟨(padT 2 (s / 60 % 60)).toArray⟩ : ByteArray) = b at *
    generalize (⟨(padT 2 (s % 60)).toArray⟩ : ByteArray) = c at *
    generalize (⟨dl.toArray⟩ : ByteArray) = d at *
    have no0 : ¬ 9223372036854775807 < d.size + (⟨#[84]⟩ : ByteArray).size := by rw [sd]; decide
    have no1 : ¬ 9223372036854775807 < (d ++ (⟨#[84]⟩ : ByteArray)).size + a.size := by rw [ByteArray.size_append, sd, s1]; decide
    have no2 : ¬ 9223372036854775807 < (d ++ (⟨#[84]⟩ : ByteArray) ++ a).size + b.size := by rw [ByteArray.size_append, ByteArray.size_append, sd, s1, s2]; decide
    have no3 : ¬ 9223372036854775807 < (d ++ (⟨#[84]⟩ : ByteArray) ++ a ++ b).size + c.size := by rw [ByteArray.size_append, ByteArray.size_append, ByteArray.size_append, sd, s1, s2, s3]; decide
    have k1 : s / 3600 < 86400 := by omega
    have k2 : s / 60 < 86400 := by omega
    have k3 : s / 60 % 60 < 60 := by omega
    have k4 : s % 60 < 60 := by omega
    generalize s / 3600 = x1 at *
    generalize s / 60 % 60 = x3 at *
    generalize s / 60 = x2 at *
    generalize s % 60 = x4 at *
    go_enter Tryd.func27, Tryd.ntmps27
    go_wp2_with (first
      | (go_at_call 18; ((with_reducible refine (ci _).mono ?_); rintro e w' ⟨rfl, hw⟩; subst w'))
      | (go_at_call 12; ((with_reducible refine (cp _).mono ?_); rintro e w' ⟨rfl, hw⟩; subst w'))
      | (go_at_call 29; ((with_reducible refine (cd _).mono ?_); rintro e w0 ⟨rfl, hb0⟩))
      | (go_at_call 44; ((with_reducible refine (c1 _).mono ?_); rintro e w1 ⟨rfl, hb1⟩))
      | (go_at_call 44; ((with_reducible refine (c2 _).mono ?_); rintro e w2 ⟨rfl, hb2⟩))
      | (go_at_call 44; ((with_reducible refine (c3 _).mono ?_); rintro e w3 ⟨rfl, hb3⟩)))
    go_ret
    exact ⟨by rw [← HE.out]; rfl, bstep (bstep (bstep hb0 hb1) hb2) hb3⟩

end Go.Proofs.YtnnpiaangemieaaDoor
