/-
  The document's own answers of layer 10: a day, and a time, as a text.
-/
import Derived.Test.YtnnpiaangemieaaDoorDateRefC
namespace Go.Proofs.YtnnpiaangemieaaDoor
open Go.RowKit

theorem pad2_any (n : Nat) (hn : n < 100) (w : World) : Calls Tryd.prog 44 #[.int .i64 n, .int .i64 2] w fun e w' => e = .returned (.string ⟨(padT 2 n).toArray⟩) ∧ Below w.heap.size w w' :=
  refPad_any n 2 (by omega) (by omega) w
theorem pad4_any (n : Nat) (hn : n < 10000) (w : World) : Calls Tryd.prog 44 #[.int .i64 n, .int .i64 4] w fun e w' => e = .returned (.string ⟨(padT 4 n).toArray⟩) ∧ Below w.heap.size w w' :=
  refPad_any n 4 (by omega) (by omega) w
theorem mk_nil : (⟨[].toArray⟩ : ByteArray) = ⟨#[]⟩ := rfl

set_option maxRecDepth 100000 in
set_option maxHeartbeats 2000000 in
theorem refDay_any (n : Int) (hn : -9223372036854775808 ≤ n ∧ n < 9223372036854775808) (w : World) :
    Calls Tryd.prog 29 #[.int .i64 n] w fun e w' => e = .returned (.string ⟨(dayT n).toArray⟩) ∧ Below w.heap.size w w' := by
  have hc := fun W => refCivil_any n hn W
  by_cases h : n < -719162 ∨ 2932896 < n
  · have e : Hid (dayT n = []) := Lib.hid (dayT_bad h)
    rw [civ_bad h] at hc
    clear hn h
    go_enter Tryd.func29, Tryd.ntmps29
    go_wp2_with (go_at_call 10; ((with_reducible refine (hc _).mono ?_); rintro e w' ⟨rfl, hw⟩; subst w'))
    go_ret
    exact ⟨by rw [e.out]; rfl, Below.refl _ _⟩
  · obtain ⟨y, m, d, hd, rfl⟩ := num_of (n := n) (by omega)
    obtain ⟨hy, hm⟩ := lenD_range hd
    have hp := lenD_pos hy hm
    have e : Hid (dayT (numD y m d) = padT 4 y.toNat ++ padT 2 m.toNat ++ padT 2 d.toNat) := Lib.hid (by unfold dayT; rw [civ_num hd]; rfl)
    rw [civ_num hd] at hc
    generalize numD y m d = n at *
    unfold dateD at hd
    obtain ⟨Y, rfl⟩ : ∃ k : Nat, y = k := ⟨y.toNat, by omega⟩
    obtain ⟨M, rfl⟩ : ∃ k : Nat, m = k := ⟨m.toNat, by omega⟩
    obtain ⟨D, rfl⟩ : ∃ k : Nat, d = k := ⟨d.toNat, by omega⟩
    have c1 := pad4_any Y (by omega)
    have c2 := pad2_any M (by omega)
    have c3 := pad2_any D (by omega)
    have HE := Lib.hid (show (⟨(padT 4 Y).toArray⟩ : ByteArray) ++ ⟨(padT 2 M).toArray⟩ ++ ⟨(padT 2 D).toArray⟩ = ⟨(dayT n).toArray⟩ by rw [mk_app, mk_app, e.out]; rfl)
    have s1 : (⟨(padT 4 Y).toArray⟩ : ByteArray).size = 4 := by rw [mk_size, padT_length]
    have s2 : (⟨(padT 2 M).toArray⟩ : ByteArray).size = 2 := by rw [mk_size, padT_length]
    have s3 : (⟨(padT 2 D).toArray⟩ : ByteArray).size = 2 := by rw [mk_size, padT_length]
    generalize (⟨(padT 4 Y).toArray⟩ : ByteArray) = a at *
    generalize (⟨(padT 2 M).toArray⟩ : ByteArray) = b at *
    generalize (⟨(padT 2 D).toArray⟩ : ByteArray) = c at *
    have no1 : ¬ 9223372036854775807 < a.size + b.size := by omega
    have no2 : ¬ 9223372036854775807 < (a ++ b).size + c.size := by rw [ByteArray.size_append]; omega
    go_enter Tryd.func29, Tryd.ntmps29
    go_wp2_with (first
      | (go_at_call 10; ((with_reducible refine (hc _).mono ?_); rintro e w' ⟨rfl, hw⟩; subst w'))
      | (go_at_call 44; ((with_reducible refine (c1 _).mono ?_); rintro e w1 ⟨rfl, hb1⟩))
      | (go_at_call 44; ((with_reducible refine (c2 _).mono ?_); rintro e w2 ⟨rfl, hb2⟩))
      | (go_at_call 44; ((with_reducible refine (c3 _).mono ?_); rintro e w3 ⟨rfl, hb3⟩)))
    go_ret
    exact ⟨by rw [← HE.out]; rfl, bstep (bstep hb1 hb2) hb3⟩

end Go.Proofs.YtnnpiaangemieaaDoor
