/-
  The document's own answers of layer 13: a duration, written.
-/
import Derived.Test.YtdilnofolnabdaaGreatDoorG30
namespace Go.Proofs.YtdilnofolnabdaaGreatDoor
open Go.RowKit

set_option maxRecDepth 100000 in
set_option maxHeartbeats 16000000 in
theorem refDurText_pos (m : Nat) (hm : m ≤ 1000000000) (w : World) :
    Calls Tryz.prog 5 #[.int .i64 ((m : Int))] w fun e w' => e = .returned (.string ⟨([80] ++ bodyT m).toArray⟩) ∧ Below w.heap.size w w' := by
  have kW := fun W => refNumT (m / 604800) (by omega) W
  have kD := fun W => refNumT (m / 86400) (by omega) W
  have kH := fun W => refNumT (m % 86400 / 3600) (by omega) W
  have kM := fun W => refNumT (m % 86400 / 60 % 60) (by omega) W
  have kX := fun W => refNumT (m % 86400 % 60) (by omega) W
  have m1 : Int.tdiv (m : Int) 86400 = ((m / 86400 : Nat) : Int) := by rw [tdiv_pos (by omega)]; omega
  have m2 : Int.tmod (m : Int) 86400 = ((m % 86400 : Nat) : Int) := by rw [tmod_pos (by omega)]; omega
  have m3 : Int.tdiv (m : Int) 604800 = ((m / 604800 : Nat) : Int) := by rw [tdiv_pos (by omega)]; omega
  have m4 : Int.tmod (m : Int) 604800 = ((m % 604800 : Nat) : Int) := by rw [tmod_pos (by omega)]; omega
  have m5 : Int.tdiv ((m % 86400 : Nat) : Int) 3600 = ((m % 86400 / 3600 : Nat) : Int) := by rw [tdiv_pos (by omega)]; omega
  have m6 : Int.tdiv ((m % 86400 : Nat) : Int) 60 = ((m % 86400 / 60 : Nat) : Int) := by rw [tdiv_pos (by omega)]; omega
  have m7 : Int.tmod ((m % 86400 / 60 : Nat) : Int) 60 = ((m % 86400 / 60 % 60 : Nat) : Int) := by rw [tmod_pos (by omega)]; omega
  have m8 : Int.tmod ((m % 86400 : Nat) : Int) 60 = ((m % 86400 % 60 : Nat) : Int) := by rw [tmod_pos (by omega)]; omega
  have HQ : Hid (bodyT m = if 0 < m ∧ m % 604800 = 0 then Lib.decDigits (m / 604800) ++ [87] else (if 0 < m / 86400 then Lib.decDigits (m / 86400) ++ [68] else []) ++ (if m % 86400 = 0 ∧ 0 < m then [] else 84 :: ((if 0 < m % 86400 / 3600 then Lib.decDigits (m % 86400 / 3600) ++ [72] else []) ++ ((if 0 < m % 86400 / 60 % 60 ∨ (0 < m % 86400 / 3600 ∧ 0 < m % 86400 % 60) then Lib.decDigits (m % 86400 / 60 % 60) ++ [77] else []) ++ (if 0 < m % 86400 % 60 ∨ (m % 86400 / 3600 = 0 ∧ m % 86400 / 60 % 60 = 0) then Lib.decDigits (m % 86400 % 60) ++ [83] else []))))) := Lib.hid rfl
  have SW := num_sz (n := m / 604800) (by omega)
  have SD := num_sz (n := m / 86400) (by omega)
  have SH := num_sz (n := m % 86400 / 3600) (by omega)
  have SM := num_sz (n := m % 86400 / 60 % 60) (by omega)
  have SX := num_sz (n := m % 86400 % 60) (by omega)
  have AW := Lib.hid (mk_listR (Lib.decDigits (m / 604800)))
  have AD := Lib.hid (mk_listR (Lib.decDigits (m / 86400)))
  have AH := Lib.hid (mk_listR (Lib.decDigits (m % 86400 / 3600)))
  have AM := Lib.hid (mk_listR (Lib.decDigits (m % 86400 / 60 % 60)))
  have AX := Lib.hid (mk_listR (Lib.decDigits (m % 86400 % 60)))
  have HM1 := Lib.hid (show m = m / 86400 * 86400 + m % 86400 by omega)
  have HM2 := Lib.hid (show m % 86400 = m % 86400 / 3600 * 3600 + m % 86400 / 60 % 60 * 60 + m % 86400 % 60 by omega)
  have bW : m / 604800 ≤ 1000000000 := by omega
  have bD : m / 86400 ≤ 1000000000 := by omega
  have bc : m % 86400 < 86400 := by omega
  have b4 : m % 604800 < 604800 := by omega
  have bH : m % 86400 / 3600 ≤ 24 := by omega
  have b5 : m % 86400 / 60 ≤ 86400 := by omega
  have bM : m % 86400 / 60 % 60 ≤ 60 := by omega
  have bX : m % 86400 % 60 ≤ 60 := by omega
  generalize (⟨(Lib.decDigits (m / 604800)).toArray⟩ : ByteArray) = aW at *
  generalize (⟨(Lib.decDigits (m / 86400)).toArray⟩ : ByteArray) = aD at *
  generalize (⟨(Lib.decDigits (m % 86400 / 3600)).toArray⟩ : ByteArray) = aH at *
  generalize (⟨(Lib.decDigits (m % 86400 / 60 % 60)).toArray⟩ : ByteArray) = aM at *
  generalize (⟨(Lib.decDigits (m % 86400 % 60)).toArray⟩ : ByteArray) = aX at *
  generalize m / 604800 = W0 at *
  generalize m % 604800 = y4 at *
  generalize m % 86400 % 60 = X at *
  generalize m % 86400 / 60 % 60 = M at *
  generalize m % 86400 / 60 = y5 at *
  generalize m % 86400 / 3600 = H at *
  generalize m % 86400 = C at *
  generalize m / 86400 = D at *
  have zP : (⟨#[80]⟩ : ByteArray).size = 1 := rfl
  have zT : (⟨#[84]⟩ : ByteArray).size = 1 := rfl
  have zW : (⟨#[87]⟩ : ByteArray).size = 1 := rfl
  have zD : (⟨#[68]⟩ : ByteArray).size = 1 := rfl
  have zH : (⟨#[72]⟩ : ByteArray).size = 1 := rfl
  have zM : (⟨#[77]⟩ : ByteArray).size = 1 := rfl
  have zX : (⟨#[83]⟩ : ByteArray).size = 1 := rfl
  have i0 : ¬ (m : Int) < 0 := by omega
  have i1 : ¬ 1000000000 < (m : Int) := by omega
  have i2 : ¬ (m : Int) < -1000000000 := by omega
  by_cases hk : 0 < m ∧ y4 = 0
  · obtain ⟨k1, rfl⟩ := hk
    have k2 : (0 : Int) < (m : Int) := by omega
    have FM := Lib.hid k1
    clear k1
    have no1 : ¬ 9223372036854775807 < ((⟨#[80]⟩ : ByteArray)).size + aW.size := by first | omega | (simp only [ByteArray.size_append]; omega)
    have no2 : ¬ 9223372036854775807 < ((⟨#[80]⟩ : ByteArray) ++ aW).size + 1 := by first | omega | (simp only [ByteArray.size_append]; omega)
    have no3 : ¬ 9223372036854775806 < ((⟨#[80]⟩ : ByteArray) ++ aW).size := by first | omega | (simp only [ByteArray.size_append]; omega)
    have no4 : ¬ 9223372036854775807 ≤ ((⟨#[80]⟩ : ByteArray) ++ aW).size := by first | omega | (simp only [ByteArray.size_append]; omega)
    have no5 : ¬ 9223372036854775807 < ((⟨#[80]⟩ : ByteArray) ++ aW).size + (⟨#[87]⟩ : ByteArray).size := by first | omega | (simp only [ByteArray.size_append]; omega)
    clear zP zT zW zD zH zM zX SW SD SH SM SX
    have zb1 : (0 : Int) ≤ (m : Int) := by omega
    have zb2 : (m : Int) ≤ 1000000000 := by omega
    have zb5 : (0 : Int) ≤ (y5 : Int) := by omega
    have zb6 : (y5 : Int) ≤ 86400 := by omega
    have zb3 : (0 : Int) ≤ (C : Int) := by omega
    have zb4 : (C : Int) < 86400 := by omega
    generalize (m : Int) = z at *
    generalize (C : Int) = zC at *
    generalize (y5 : Int) = z5 at *
    go_enter Tryz.func5, Tryz.ntmps5
    go_wp2_with (first
      | (go_at_call 17; ((with_reducible refine (kW _).mono ?_); rintro e w1 ⟨rfl, hb1⟩; clear kW; have B1 := Lib.hid hb1)))
    go_ret
    refine ⟨?_, B1.out⟩
    show Ending.returned (Value.string _) = Ending.returned (Value.string _)
    congr 2
    apply bytesR
    rw [mk_listR]
    have gFM := FM.out
    simp [HQ.out, AW.out, gFM]
  · have FK := Lib.hid hk
    by_cases hm0 : m = 0
    · have FZ := Lib.hid hm0
      have e1 : D = 0 := by have := HM1.out; omega
      have e2 : C = 0 := by have := HM1.out; omega
      have e3 : H = 0 := by have := HM2.out; omega
      have e4 : M = 0 := by have := HM2.out; omega
      have e5 : X = 0 := by have := HM2.out; omega
      subst e1 e2 e3 e4 e5
      subst hm0
      clear hk
      replace kX : ∀ W, Calls Tryz.prog 17 #[.int .i64 0] W fun e w' => e = .returned (.string aX) ∧ Below W.heap.size W w' := kX
      have no1 : ¬ 9223372036854775807 < ((⟨#[80]⟩ : ByteArray)).size + 1 := by first | omega | (simp only [ByteArray.size_append]; omega)
      have no2 : ¬ 9223372036854775806 < ((⟨#[80]⟩ : ByteArray)).size := by first | omega | (simp only [ByteArray.size_append]; omega)
      have no3 : ¬ 9223372036854775807 ≤ ((⟨#[80]⟩ : ByteArray)).size := by first | omega | (simp only [ByteArray.size_append]; omega)
      have no4 : ¬ 9223372036854775807 < ((⟨#[80]⟩ : ByteArray)).size + (⟨#[84]⟩ : ByteArray).size := by first | omega | (simp only [ByteArray.size_append]; omega)
      have no5 : ¬ 9223372036854775807 < ((⟨#[80]⟩ : ByteArray) ++ (⟨#[84]⟩ : ByteArray)).size + aX.size := by first | omega | (simp only [ByteArray.size_append]; omega)
      have no6 : ¬ 9223372036854775807 < ((⟨#[80]⟩ : ByteArray) ++ (⟨#[84]⟩ : ByteArray) ++ aX).size + 1 := by first | omega | (simp only [ByteArray.size_append]; omega)
      have no7 : ¬ 9223372036854775806 < ((⟨#[80]⟩ : ByteArray) ++ (⟨#[84]⟩ : ByteArray) ++ aX).size := by first | omega | (simp only [ByteArray.size_append]; omega)
      have no8 : ¬ 9223372036854775807 ≤ ((⟨#[80]⟩ : ByteArray) ++ (⟨#[84]⟩ : ByteArray) ++ aX).size := by first | omega | (simp only [ByteArray.size_append]; omega)
      have no9 : ¬ 9223372036854775807 < ((⟨#[80]⟩ : ByteArray) ++ (⟨#[84]⟩ : ByteArray) ++ aX).size + (⟨#[83]⟩ : ByteArray).size := by first | omega | (simp only [ByteArray.size_append]; omega)
      clear zP zT zW zD zH zM zX SW SD SH SM SX
      go_enter Tryz.func5, Tryz.ntmps5
      go_wp2_with (first
        | (go_at_call 17; ((with_reducible refine (kX _).mono ?_); rintro e w1 ⟨rfl, hb1⟩; clear kX; have B1 := Lib.hid hb1)))
      go_ret
      refine ⟨?_, B1.out⟩
      show Ending.returned (Value.string _) = Ending.returned (Value.string _)
      congr 2
      apply bytesR
      rw [mk_listR]
      simp [HQ.out, AX.out]
    · have hm1 : 0 < m := by omega
      have FM := Lib.hid hm1
      have k2 : (0 : Int) < (m : Int) := by omega
      have k3 : ((y4 : Int) == 0) = false := by rw [beq_eq_false_iff_ne]; intro h; exact hk ⟨hm1, by omega⟩
      clear hk
      by_cases hD : D = 0
      · obtain rfl := hD
        have k6 : ¬ 86400 ≤ (m : Int) := by have := HM1.out; omega
        have hC : ¬ C = 0 := by have := HM1.out; omega
        have FC := Lib.hid hC
        have kc : ((C : Int) == 0) = false := by rw [beq_eq_false_iff_ne]; omega
        clear hC hm1
        rcases Nat.eq_zero_or_pos H with qH | qH
        · obtain rfl : H = 0 := by omega
          rcases Nat.eq_zero_or_pos M with qM | qM
          · obtain rfl : M = 0 := by omega
            rcases Nat.eq_zero_or_pos X with qX | qX
            · exfalso; have := HM2.out; have := FC.out; omega
            · have fX1 : (0 : Int) < (X : Int) := by omega
              have FX := Lib.hid (show 0 < X by omega)
              have fX2 : ((X : Int) == 0) = false := by rw [beq_eq_false_iff_ne]; omega
              have FXn := Lib.hid (show ¬ X = 0 by omega)
              clear qX
              have no1 : ¬ 9223372036854775807 < ((⟨#[80]⟩ : ByteArray)).size + 1 := by first | omega | (simp only [ByteArray.size_append]; omega)
              have no2 : ¬ 9223372036854775806 < ((⟨#[80]⟩ : ByteArray)).size := by first | omega | (simp only [ByteArray.size_append]; omega)
              have no3 : ¬ 9223372036854775807 ≤ ((⟨#[80]⟩ : ByteArray)).size := by first | omega | (simp only [ByteArray.size_append]; omega)
              have no4 : ¬ 9223372036854775807 < ((⟨#[80]⟩ : ByteArray)).size + (⟨#[84]⟩ : ByteArray).size := by first | omega | (simp only [ByteArray.size_append]; omega)
              have no5 : ¬ 9223372036854775807 < ((⟨#[80]⟩ : ByteArray) ++ (⟨#[84]⟩ : ByteArray)).size + aX.size := by first | omega | (simp only [ByteArray.size_append]; omega)
              have no6 : ¬ 9223372036854775807 < ((⟨#[80]⟩ : ByteArray) ++ (⟨#[84]⟩ : ByteArray) ++ aX).size + 1 := by first | omega | (simp only [ByteArray.size_append]; omega)
              have no7 : ¬ 9223372036854775806 < ((⟨#[80]⟩ : ByteArray) ++ (⟨#[84]⟩ : ByteArray) ++ aX).size := by first | omega | (simp only [ByteArray.size_append]; omega)
              have no8 : ¬ 9223372036854775807 ≤ ((⟨#[80]⟩ : ByteArray) ++ (⟨#[84]⟩ : ByteArray) ++ aX).size := by first | omega | (simp only [ByteArray.size_append]; omega)
              have no9 : ¬ 9223372036854775807 < ((⟨#[80]⟩ : ByteArray) ++ (⟨#[84]⟩ : ByteArray) ++ aX).size + (⟨#[83]⟩ : ByteArray).size := by first | omega | (simp only [ByteArray.size_append]; omega)
              clear zP zT zW zD zH zM zX SW SD SH SM SX
              have zb1 : (0 : Int) ≤ (m : Int) := by omega
              have zb2 : (m : Int) ≤ 1000000000 := by omega
              have zb5 : (0 : Int) ≤ (y5 : Int) := by omega
              have zb6 : (y5 : Int) ≤ 86400 := by omega
              have zb3 : (0 : Int) ≤ (C : Int) := by omega
              have zb4 : (C : Int) < 86400 := by omega
              generalize (m : Int) = z at *
              generalize (C : Int) = zC at *
              generalize (y5 : Int) = z5 at *
              go_enter Tryz.func5, Tryz.ntmps5
              go_wp2_with (first
                | (go_at_call 17; ((with_reducible refine (kX _).mono ?_); rintro e w1 ⟨rfl, hb1⟩; clear kX; have B1 := Lib.hid hb1)))
              go_ret
              refine ⟨?_, B1.out⟩
              show Ending.returned (Value.string _) = Ending.returned (Value.string _)
              congr 2
              apply bytesR
              rw [mk_listR]
              have gFM := FM.out
              have gFC := FC.out
              have gFK := FK.out
              have gFX := FX.out
              have gFXn := FXn.out
              rw [HQ.out, if_neg FK.out]
              clear gFK
              simp [AX.out, gFM, gFC, gFX]
          · have fM1 : (0 : Int) < (M : Int) := by omega
            have FMp := Lib.hid (show 0 < M by omega)
            have fM2 : ((M : Int) == 0) = false := by rw [beq_eq_false_iff_ne]; omega
            have FMn := Lib.hid (show ¬ M = 0 by omega)
            clear qM
            rcases Nat.eq_zero_or_pos X with qX | qX
            · obtain rfl : X = 0 := by omega
              have no1 : ¬ 9223372036854775807 < ((⟨#[80]⟩ : ByteArray)).size + 1 := by first | omega | (simp only [ByteArray.size_append]; omega)
              have no2 : ¬ 9223372036854775806 < ((⟨#[80]⟩ : ByteArray)).size := by first | omega | (simp only [ByteArray.size_append]; omega)
              have no3 : ¬ 9223372036854775807 ≤ ((⟨#[80]⟩ : ByteArray)).size := by first | omega | (simp only [ByteArray.size_append]; omega)
              have no4 : ¬ 9223372036854775807 < ((⟨#[80]⟩ : ByteArray)).size + (⟨#[84]⟩ : ByteArray).size := by first | omega | (simp only [ByteArray.size_append]; omega)
              have no5 : ¬ 9223372036854775807 < ((⟨#[80]⟩ : ByteArray) ++ (⟨#[84]⟩ : ByteArray)).size + aM.size := by first | omega | (simp only [ByteArray.size_append]; omega)
              have no6 : ¬ 9223372036854775807 < ((⟨#[80]⟩ : ByteArray) ++ (⟨#[84]⟩ : ByteArray) ++ aM).size + 1 := by first | omega | (simp only [ByteArray.size_append]; omega)
              have no7 : ¬ 9223372036854775806 < ((⟨#[80]⟩ : ByteArray) ++ (⟨#[84]⟩ : ByteArray) ++ aM).size := by first | omega | (simp only [ByteArray.size_append]; omega)
              have no8 : ¬ 9223372036854775807 ≤ ((⟨#[80]⟩ : ByteArray) ++ (⟨#[84]⟩ : ByteArray) ++ aM).size := by first | omega | (simp only [ByteArray.size_append]; omega)
              have no9 : ¬ 9223372036854775807 < ((⟨#[80]⟩ : ByteArray) ++ (⟨#[84]⟩ : ByteArray) ++ aM).size + (⟨#[77]⟩ : ByteArray).size := by first | omega | (simp only [ByteArray.size_append]; omega)
              clear zP zT zW zD zH zM zX SW SD SH SM SX
              have zb1 : (0 : Int) ≤ (m : Int) := by omega
              have zb2 : (m : Int) ≤ 1000000000 := by omega
              have zb5 : (0 : Int) ≤ (y5 : Int) := by omega
              have zb6 : (y5 : Int) ≤ 86400 := by omega
              have zb3 : (0 : Int) ≤ (C : Int) := by omega
              have zb4 : (C : Int) < 86400 := by omega
              generalize (m : Int) = z at *
              generalize (C : Int) = zC at *
              generalize (y5 : Int) = z5 at *
              go_enter Tryz.func5, Tryz.ntmps5
              go_wp2_with (first
                | (go_at_call 17; ((with_reducible refine (kM _).mono ?_); rintro e w1 ⟨rfl, hb1⟩; clear kM; have B1 := Lib.hid hb1)))
              go_ret
              refine ⟨?_, B1.out⟩
              show Ending.returned (Value.string _) = Ending.returned (Value.string _)
              congr 2
              apply bytesR
              rw [mk_listR]
              have gFM := FM.out
              have gFC := FC.out
              have gFK := FK.out
              have gFMn := FMn.out
              have gFMp := FMp.out
              rw [HQ.out, if_neg FK.out]
              clear gFK
              simp [AM.out, gFM, gFC, gFMn, gFMp]
            · have fX1 : (0 : Int) < (X : Int) := by omega
              have FX := Lib.hid (show 0 < X by omega)
              have fX2 : ((X : Int) == 0) = false := by rw [beq_eq_false_iff_ne]; omega
              have FXn := Lib.hid (show ¬ X = 0 by omega)
              clear qX
              have no1 : ¬ 9223372036854775807 < ((⟨#[80]⟩ : ByteArray)).size + 1 := by first | omega | (simp only [ByteArray.size_append]; omega)
              have no2 : ¬ 9223372036854775806 < ((⟨#[80]⟩ : ByteArray)).size := by first | omega | (simp only [ByteArray.size_append]; omega)
              have no3 : ¬ 9223372036854775807 ≤ ((⟨#[80]⟩ : ByteArray)).size := by first | omega | (simp only [ByteArray.size_append]; omega)
              have no4 : ¬ 9223372036854775807 < ((⟨#[80]⟩ : ByteArray)).size + (⟨#[84]⟩ : ByteArray).size := by first | omega | (simp only [ByteArray.size_append]; omega)
              have no5 : ¬ 9223372036854775807 < ((⟨#[80]⟩ : ByteArray) ++ (⟨#[84]⟩ : ByteArray)).size + aM.size := by first | omega | (simp only [ByteArray.size_append]; omega)
              have no6 : ¬ 9223372036854775807 < ((⟨#[80]⟩ : ByteArray) ++ (⟨#[84]⟩ : ByteArray) ++ aM).size + 1 := by first | omega | (simp only [ByteArray.size_append]; omega)
              have no7 : ¬ 9223372036854775806 < ((⟨#[80]⟩ : ByteArray) ++ (⟨#[84]⟩ : ByteArray) ++ aM).size := by first | omega | (simp only [ByteArray.size_append]; omega)
              have no8 : ¬ 9223372036854775807 ≤ ((⟨#[80]⟩ : ByteArray) ++ (⟨#[84]⟩ : ByteArray) ++ aM).size := by first | omega | (simp only [ByteArray.size_append]; omega)
              have no9 : ¬ 9223372036854775807 < ((⟨#[80]⟩ : ByteArray) ++ (⟨#[84]⟩ : ByteArray) ++ aM).size + (⟨#[77]⟩ : ByteArray).size := by first | omega | (simp only [ByteArray.size_append]; omega)
              have no10 : ¬ 9223372036854775807 < ((⟨#[80]⟩ : ByteArray) ++ (⟨#[84]⟩ : ByteArray) ++ aM ++ (⟨#[77]⟩ : ByteArray)).size + aX.size := by first | omega | (simp only [ByteArray.size_append]; omega)
              have no11 : ¬ 9223372036854775807 < ((⟨#[80]⟩ : ByteArray) ++ (⟨#[84]⟩ : ByteArray) ++ aM ++ (⟨#[77]⟩ : ByteArray) ++ aX).size + 1 := by first | omega | (simp only [ByteArray.size_append]; omega)
              have no12 : ¬ 9223372036854775806 < ((⟨#[80]⟩ : ByteArray) ++ (⟨#[84]⟩ : ByteArray) ++ aM ++ (⟨#[77]⟩ : ByteArray) ++ aX).size := by first | omega | (simp only [ByteArray.size_append]; omega)
              have no13 : ¬ 9223372036854775807 ≤ ((⟨#[80]⟩ : ByteArray) ++ (⟨#[84]⟩ : ByteArray) ++ aM ++ (⟨#[77]⟩ : ByteArray) ++ aX).size := by first | omega | (simp only [ByteArray.size_append]; omega)
              have no14 : ¬ 9223372036854775807 < ((⟨#[80]⟩ : ByteArray) ++ (⟨#[84]⟩ : ByteArray) ++ aM ++ (⟨#[77]⟩ : ByteArray) ++ aX).size + (⟨#[83]⟩ : ByteArray).size := by first | omega | (simp only [ByteArray.size_append]; omega)
              clear zP zT zW zD zH zM zX SW SD SH SM SX
              have zb1 : (0 : Int) ≤ (m : Int) := by omega
              have zb2 : (m : Int) ≤ 1000000000 := by omega
              have zb5 : (0 : Int) ≤ (y5 : Int) := by omega
              have zb6 : (y5 : Int) ≤ 86400 := by omega
              have zb3 : (0 : Int) ≤ (C : Int) := by omega
              have zb4 : (C : Int) < 86400 := by omega
              generalize (m : Int) = z at *
              generalize (C : Int) = zC at *
              generalize (y5 : Int) = z5 at *
              go_enter Tryz.func5, Tryz.ntmps5
              go_wp2_with (first
                | (go_at_call 17; ((with_reducible refine (kM _).mono ?_); rintro e w1 ⟨rfl, hb1⟩; clear kM; have B1 := Lib.hid hb1))
                | (go_at_call 17; ((with_reducible refine (kX _).mono ?_); rintro e w2 ⟨rfl, hb2⟩; clear kX; have B2 := Lib.hid (bstep B1.out hb2))))
              go_ret
              refine ⟨?_, B2.out⟩
              show Ending.returned (Value.string _) = Ending.returned (Value.string _)
              congr 2
              apply bytesR
              rw [mk_listR]
              have gFM := FM.out
              have gFC := FC.out
              have gFK := FK.out
              have gFX := FX.out
              have gFXn := FXn.out
              have gFMn := FMn.out
              have gFMp := FMp.out
              rw [HQ.out, if_neg FK.out]
              clear gFK
              simp [AM.out, AX.out, gFM, gFC, gFX, gFMn, gFMp]
        · have fH1 : (0 : Int) < (H : Int) := by omega
          have FH := Lib.hid (show 0 < H by omega)
          have fH2 : ((H : Int) == 0) = false := by rw [beq_eq_false_iff_ne]; omega
          have FHn := Lib.hid (show ¬ H = 0 by omega)
          clear qH
          rcases Nat.eq_zero_or_pos M with qM | qM
          · obtain rfl : M = 0 := by omega
            rcases Nat.eq_zero_or_pos X with qX | qX
            · obtain rfl : X = 0 := by omega
              have no1 : ¬ 9223372036854775807 < ((⟨#[80]⟩ : ByteArray)).size + 1 := by first | omega | (simp only [ByteArray.size_append]; omega)
              have no2 : ¬ 9223372036854775806 < ((⟨#[80]⟩ : ByteArray)).size := by first | omega | (simp only [ByteArray.size_append]; omega)
              have no3 : ¬ 9223372036854775807 ≤ ((⟨#[80]⟩ : ByteArray)).size := by first | omega | (simp only [ByteArray.size_append]; omega)
              have no4 : ¬ 9223372036854775807 < ((⟨#[80]⟩ : ByteArray)).size + (⟨#[84]⟩ : ByteArray).size := by first | omega | (simp only [ByteArray.size_append]; omega)
              have no5 : ¬ 9223372036854775807 < ((⟨#[80]⟩ : ByteArray) ++ (⟨#[84]⟩ : ByteArray)).size + aH.size := by first | omega | (simp only [ByteArray.size_append]; omega)
              have no6 : ¬ 9223372036854775807 < ((⟨#[80]⟩ : ByteArray) ++ (⟨#[84]⟩ : ByteArray) ++ aH).size + 1 := by first | omega | (simp only [ByteArray.size_append]; omega)
              have no7 : ¬ 9223372036854775806 < ((⟨#[80]⟩ : ByteArray) ++ (⟨#[84]⟩ : ByteArray) ++ aH).size := by first | omega | (simp only [ByteArray.size_append]; omega)
              have no8 : ¬ 9223372036854775807 ≤ ((⟨#[80]⟩ : ByteArray) ++ (⟨#[84]⟩ : ByteArray) ++ aH).size := by first | omega | (simp only [ByteArray.size_append]; omega)
              have no9 : ¬ 9223372036854775807 < ((⟨#[80]⟩ : ByteArray) ++ (⟨#[84]⟩ : ByteArray) ++ aH).size + (⟨#[72]⟩ : ByteArray).size := by first | omega | (simp only [ByteArray.size_append]; omega)
              clear zP zT zW zD zH zM zX SW SD SH SM SX
              have zb1 : (0 : Int) ≤ (m : Int) := by omega
              have zb2 : (m : Int) ≤ 1000000000 := by omega
              have zb5 : (0 : Int) ≤ (y5 : Int) := by omega
              have zb6 : (y5 : Int) ≤ 86400 := by omega
              have zb3 : (0 : Int) ≤ (C : Int) := by omega
              have zb4 : (C : Int) < 86400 := by omega
              generalize (m : Int) = z at *
              generalize (C : Int) = zC at *
              generalize (y5 : Int) = z5 at *
              go_enter Tryz.func5, Tryz.ntmps5
              go_wp2_with (first
                | (go_at_call 17; ((with_reducible refine (kH _).mono ?_); rintro e w1 ⟨rfl, hb1⟩; clear kH; have B1 := Lib.hid hb1)))
              go_ret
              refine ⟨?_, B1.out⟩
              show Ending.returned (Value.string _) = Ending.returned (Value.string _)
              congr 2
              apply bytesR
              rw [mk_listR]
              have gFM := FM.out
              have gFC := FC.out
              have gFK := FK.out
              have gFH := FH.out
              have gFHn := FHn.out
              rw [HQ.out, if_neg FK.out]
              clear gFK
              simp [AH.out, gFM, gFC, gFH, gFHn]
            · have fX1 : (0 : Int) < (X : Int) := by omega
              have FX := Lib.hid (show 0 < X by omega)
              have fX2 : ((X : Int) == 0) = false := by rw [beq_eq_false_iff_ne]; omega
              have FXn := Lib.hid (show ¬ X = 0 by omega)
              clear qX
              replace kM : ∀ W, Calls Tryz.prog 17 #[.int .i64 0] W fun e w' => e = .returned (.string aM) ∧ Below W.heap.size W w' := kM
              have no1 : ¬ 9223372036854775807 < ((⟨#[80]⟩ : ByteArray)).size + 1 := by first | omega | (simp only [ByteArray.size_append]; omega)
              have no2 : ¬ 9223372036854775806 < ((⟨#[80]⟩ : ByteArray)).size := by first | omega | (simp only [ByteArray.size_append]; omega)
              have no3 : ¬ 9223372036854775807 ≤ ((⟨#[80]⟩ : ByteArray)).size := by first | omega | (simp only [ByteArray.size_append]; omega)
              have no4 : ¬ 9223372036854775807 < ((⟨#[80]⟩ : ByteArray)).size + (⟨#[84]⟩ : ByteArray).size := by first | omega | (simp only [ByteArray.size_append]; omega)
              have no5 : ¬ 9223372036854775807 < ((⟨#[80]⟩ : ByteArray) ++ (⟨#[84]⟩ : ByteArray)).size + aH.size := by first | omega | (simp only [ByteArray.size_append]; omega)
              have no6 : ¬ 9223372036854775807 < ((⟨#[80]⟩ : ByteArray) ++ (⟨#[84]⟩ : ByteArray) ++ aH).size + 1 := by first | omega | (simp only [ByteArray.size_append]; omega)
              have no7 : ¬ 9223372036854775806 < ((⟨#[80]⟩ : ByteArray) ++ (⟨#[84]⟩ : ByteArray) ++ aH).size := by first | omega | (simp only [ByteArray.size_append]; omega)
              have no8 : ¬ 9223372036854775807 ≤ ((⟨#[80]⟩ : ByteArray) ++ (⟨#[84]⟩ : ByteArray) ++ aH).size := by first | omega | (simp only [ByteArray.size_append]; omega)
              have no9 : ¬ 9223372036854775807 < ((⟨#[80]⟩ : ByteArray) ++ (⟨#[84]⟩ : ByteArray) ++ aH).size + (⟨#[72]⟩ : ByteArray).size := by first | omega | (simp only [ByteArray.size_append]; omega)
              have no10 : ¬ 9223372036854775807 < ((⟨#[80]⟩ : ByteArray) ++ (⟨#[84]⟩ : ByteArray) ++ aH ++ (⟨#[72]⟩ : ByteArray)).size + aM.size := by first | omega | (simp only [ByteArray.size_append]; omega)
              have no11 : ¬ 9223372036854775807 < ((⟨#[80]⟩ : ByteArray) ++ (⟨#[84]⟩ : ByteArray) ++ aH ++ (⟨#[72]⟩ : ByteArray) ++ aM).size + 1 := by first | omega | (simp only [ByteArray.size_append]; omega)
              have no12 : ¬ 9223372036854775806 < ((⟨#[80]⟩ : ByteArray) ++ (⟨#[84]⟩ : ByteArray) ++ aH ++ (⟨#[72]⟩ : ByteArray) ++ aM).size := by first | omega | (simp only [ByteArray.size_append]; omega)
              have no13 : ¬ 9223372036854775807 ≤ ((⟨#[80]⟩ : ByteArray) ++ (⟨#[84]⟩ : ByteArray) ++ aH ++ (⟨#[72]⟩ : ByteArray) ++ aM).size := by first | omega | (simp only [ByteArray.size_append]; omega)
              have no14 : ¬ 9223372036854775807 < ((⟨#[80]⟩ : ByteArray) ++ (⟨#[84]⟩ : ByteArray) ++ aH ++ (⟨#[72]⟩ : ByteArray) ++ aM).size + (⟨#[77]⟩ : ByteArray).size := by first | omega | (simp only [ByteArray.size_append]; omega)
              have no15 : ¬ 9223372036854775807 < ((⟨#[80]⟩ : ByteArray) ++ (⟨#[84]⟩ : ByteArray) ++ aH ++ (⟨#[72]⟩ : ByteArray) ++ aM ++ (⟨#[77]⟩ : ByteArray)).size + aX.size := by first | omega | (simp only [ByteArray.size_append]; omega)
              have no16 : ¬ 9223372036854775807 < ((⟨#[80]⟩ : ByteArray) ++ (⟨#[84]⟩ : ByteArray) ++ aH ++ (⟨#[72]⟩ : ByteArray) ++ aM ++ (⟨#[77]⟩ : ByteArray) ++ aX).size + 1 := by first | omega | (simp only [ByteArray.size_append]; omega)
              have no17 : ¬ 9223372036854775806 < ((⟨#[80]⟩ : ByteArray) ++ (⟨#[84]⟩ : ByteArray) ++ aH ++ (⟨#[72]⟩ : ByteArray) ++ aM ++ (⟨#[77]⟩ : ByteArray) ++ aX).size := by first | omega | (simp only [ByteArray.size_append]; omega)
              have no18 : ¬ 9223372036854775807 ≤ ((⟨#[80]⟩ : ByteArray) ++ (⟨#[84]⟩ : ByteArray) ++ aH ++ (⟨#[72]⟩ : ByteArray) ++ aM ++ (⟨#[77]⟩ : ByteArray) ++ aX).size := by first | omega | (simp only [ByteArray.size_append]; omega)
              have no19 : ¬ 9223372036854775807 < ((⟨#[80]⟩ : ByteArray) ++ (⟨#[84]⟩ : ByteArray) ++ aH ++ (⟨#[72]⟩ : ByteArray) ++ aM ++ (⟨#[77]⟩ : ByteArray) ++ aX).size + (⟨#[83]⟩ : ByteArray).size := by first | omega | (simp only [ByteArray.size_append]; omega)
              clear zP zT zW zD zH zM zX SW SD SH SM SX
              have zb1 : (0 : Int) ≤ (m : Int) := by omega
              have zb2 : (m : Int) ≤ 1000000000 := by omega
              have zb5 : (0 : Int) ≤ (y5 : Int) := by omega
              have zb6 : (y5 : Int) ≤ 86400 := by omega
              have zb3 : (0 : Int) ≤ (C : Int) := by omega
              have zb4 : (C : Int) < 86400 := by omega
              generalize (m : Int) = z at *
              generalize (C : Int) = zC at *
              generalize (y5 : Int) = z5 at *
              go_enter Tryz.func5, Tryz.ntmps5
              go_wp2_with (first
                | (go_at_call 17; ((with_reducible refine (kH _).mono ?_); rintro e w1 ⟨rfl, hb1⟩; clear kH; have B1 := Lib.hid hb1))
                | (go_at_call 17; ((with_reducible refine (kM _).mono ?_); rintro e w2 ⟨rfl, hb2⟩; clear kM; have B2 := Lib.hid (bstep B1.out hb2)))
                | (go_at_call 17; ((with_reducible refine (kX _).mono ?_); rintro e w3 ⟨rfl, hb3⟩; clear kX; have B3 := Lib.hid (bstep B2.out hb3))))
              go_ret
              refine ⟨?_, B3.out⟩
              show Ending.returned (Value.string _) = Ending.returned (Value.string _)
              congr 2
              apply bytesR
              rw [mk_listR]
              have gFM := FM.out
              have gFC := FC.out
              have gFK := FK.out
              have gFH := FH.out
              have gFHn := FHn.out
              have gFX := FX.out
              have gFXn := FXn.out
              rw [HQ.out, if_neg FK.out]
              clear gFK
              simp [AH.out, AM.out, AX.out, gFM, gFC, gFH, gFHn, gFX]
          · have fM1 : (0 : Int) < (M : Int) := by omega
            have FMp := Lib.hid (show 0 < M by omega)
            have fM2 : ((M : Int) == 0) = false := by rw [beq_eq_false_iff_ne]; omega
            have FMn := Lib.hid (show ¬ M = 0 by omega)
            clear qM
            rcases Nat.eq_zero_or_pos X with qX | qX
            · obtain rfl : X = 0 := by omega
              have no1 : ¬ 9223372036854775807 < ((⟨#[80]⟩ : ByteArray)).size + 1 := by first | omega | (simp only [ByteArray.size_append]; omega)
              have no2 : ¬ 9223372036854775806 < ((⟨#[80]⟩ : ByteArray)).size := by first | omega | (simp only [ByteArray.size_append]; omega)
              have no3 : ¬ 9223372036854775807 ≤ ((⟨#[80]⟩ : ByteArray)).size := by first | omega | (simp only [ByteArray.size_append]; omega)
              have no4 : ¬ 9223372036854775807 < ((⟨#[80]⟩ : ByteArray)).size + (⟨#[84]⟩ : ByteArray).size := by first | omega | (simp only [ByteArray.size_append]; omega)
              have no5 : ¬ 9223372036854775807 < ((⟨#[80]⟩ : ByteArray) ++ (⟨#[84]⟩ : ByteArray)).size + aH.size := by first | omega | (simp only [ByteArray.size_append]; omega)
              have no6 : ¬ 9223372036854775807 < ((⟨#[80]⟩ : ByteArray) ++ (⟨#[84]⟩ : ByteArray) ++ aH).size + 1 := by first | omega | (simp only [ByteArray.size_append]; omega)
              have no7 : ¬ 9223372036854775806 < ((⟨#[80]⟩ : ByteArray) ++ (⟨#[84]⟩ : ByteArray) ++ aH).size := by first | omega | (simp only [ByteArray.size_append]; omega)
              have no8 : ¬ 9223372036854775807 ≤ ((⟨#[80]⟩ : ByteArray) ++ (⟨#[84]⟩ : ByteArray) ++ aH).size := by first | omega | (simp only [ByteArray.size_append]; omega)
              have no9 : ¬ 9223372036854775807 < ((⟨#[80]⟩ : ByteArray) ++ (⟨#[84]⟩ : ByteArray) ++ aH).size + (⟨#[72]⟩ : ByteArray).size := by first | omega | (simp only [ByteArray.size_append]; omega)
              have no10 : ¬ 9223372036854775807 < ((⟨#[80]⟩ : ByteArray) ++ (⟨#[84]⟩ : ByteArray) ++ aH ++ (⟨#[72]⟩ : ByteArray)).size + aM.size := by first | omega | (simp only [ByteArray.size_append]; omega)
              have no11 : ¬ 9223372036854775807 < ((⟨#[80]⟩ : ByteArray) ++ (⟨#[84]⟩ : ByteArray) ++ aH ++ (⟨#[72]⟩ : ByteArray) ++ aM).size + 1 := by first | omega | (simp only [ByteArray.size_append]; omega)
              have no12 : ¬ 9223372036854775806 < ((⟨#[80]⟩ : ByteArray) ++ (⟨#[84]⟩ : ByteArray) ++ aH ++ (⟨#[72]⟩ : ByteArray) ++ aM).size := by first | omega | (simp only [ByteArray.size_append]; omega)
              have no13 : ¬ 9223372036854775807 ≤ ((⟨#[80]⟩ : ByteArray) ++ (⟨#[84]⟩ : ByteArray) ++ aH ++ (⟨#[72]⟩ : ByteArray) ++ aM).size := by first | omega | (simp only [ByteArray.size_append]; omega)
              have no14 : ¬ 9223372036854775807 < ((⟨#[80]⟩ : ByteArray) ++ (⟨#[84]⟩ : ByteArray) ++ aH ++ (⟨#[72]⟩ : ByteArray) ++ aM).size + (⟨#[77]⟩ : ByteArray).size := by first | omega | (simp only [ByteArray.size_append]; omega)
              clear zP zT zW zD zH zM zX SW SD SH SM SX
              have zb1 : (0 : Int) ≤ (m : Int) := by omega
              have zb2 : (m : Int) ≤ 1000000000 := by omega
              have zb5 : (0 : Int) ≤ (y5 : Int) := by omega
              have zb6 : (y5 : Int) ≤ 86400 := by omega
              have zb3 : (0 : Int) ≤ (C : Int) := by omega
              have zb4 : (C : Int) < 86400 := by omega
              generalize (m : Int) = z at *
              generalize (C : Int) = zC at *
              generalize (y5 : Int) = z5 at *
              go_enter Tryz.func5, Tryz.ntmps5
              go_wp2_with (first
                | (go_at_call 17; ((with_reducible refine (kH _).mono ?_); rintro e w1 ⟨rfl, hb1⟩; clear kH; have B1 := Lib.hid hb1))
                | (go_at_call 17; ((with_reducible refine (kM _).mono ?_); rintro e w2 ⟨rfl, hb2⟩; clear kM; have B2 := Lib.hid (bstep B1.out hb2))))
              go_ret
              refine ⟨?_, B2.out⟩
              show Ending.returned (Value.string _) = Ending.returned (Value.string _)
              congr 2
              apply bytesR
              rw [mk_listR]
              have gFM := FM.out
              have gFC := FC.out
              have gFK := FK.out
              have gFH := FH.out
              have gFHn := FHn.out
              have gFMn := FMn.out
              have gFMp := FMp.out
              rw [HQ.out, if_neg FK.out]
              clear gFK
              simp [AH.out, AM.out, gFM, gFC, gFH, gFHn, gFMn, gFMp]
            · have fX1 : (0 : Int) < (X : Int) := by omega
              have FX := Lib.hid (show 0 < X by omega)
              have fX2 : ((X : Int) == 0) = false := by rw [beq_eq_false_iff_ne]; omega
              have FXn := Lib.hid (show ¬ X = 0 by omega)
              clear qX
              have no1 : ¬ 9223372036854775807 < ((⟨#[80]⟩ : ByteArray)).size + 1 := by first | omega | (simp only [ByteArray.size_append]; omega)
              have no2 : ¬ 9223372036854775806 < ((⟨#[80]⟩ : ByteArray)).size := by first | omega | (simp only [ByteArray.size_append]; omega)
              have no3 : ¬ 9223372036854775807 ≤ ((⟨#[80]⟩ : ByteArray)).size := by first | omega | (simp only [ByteArray.size_append]; omega)
              have no4 : ¬ 9223372036854775807 < ((⟨#[80]⟩ : ByteArray)).size + (⟨#[84]⟩ : ByteArray).size := by first | omega | (simp only [ByteArray.size_append]; omega)
              have no5 : ¬ 9223372036854775807 < ((⟨#[80]⟩ : ByteArray) ++ (⟨#[84]⟩ : ByteArray)).size + aH.size := by first | omega | (simp only [ByteArray.size_append]; omega)
              have no6 : ¬ 9223372036854775807 < ((⟨#[80]⟩ : ByteArray) ++ (⟨#[84]⟩ : ByteArray) ++ aH).size + 1 := by first | omega | (simp only [ByteArray.size_append]; omega)
              have no7 : ¬ 9223372036854775806 < ((⟨#[80]⟩ : ByteArray) ++ (⟨#[84]⟩ : ByteArray) ++ aH).size := by first | omega | (simp only [ByteArray.size_append]; omega)
              have no8 : ¬ 9223372036854775807 ≤ ((⟨#[80]⟩ : ByteArray) ++ (⟨#[84]⟩ : ByteArray) ++ aH).size := by first | omega | (simp only [ByteArray.size_append]; omega)
              have no9 : ¬ 9223372036854775807 < ((⟨#[80]⟩ : ByteArray) ++ (⟨#[84]⟩ : ByteArray) ++ aH).size + (⟨#[72]⟩ : ByteArray).size := by first | omega | (simp only [ByteArray.size_append]; omega)
              have no10 : ¬ 9223372036854775807 < ((⟨#[80]⟩ : ByteArray) ++ (⟨#[84]⟩ : ByteArray) ++ aH ++ (⟨#[72]⟩ : ByteArray)).size + aM.size := by first | omega | (simp only [ByteArray.size_append]; omega)
              have no11 : ¬ 9223372036854775807 < ((⟨#[80]⟩ : ByteArray) ++ (⟨#[84]⟩ : ByteArray) ++ aH ++ (⟨#[72]⟩ : ByteArray) ++ aM).size + 1 := by first | omega | (simp only [ByteArray.size_append]; omega)
              have no12 : ¬ 9223372036854775806 < ((⟨#[80]⟩ : ByteArray) ++ (⟨#[84]⟩ : ByteArray) ++ aH ++ (⟨#[72]⟩ : ByteArray) ++ aM).size := by first | omega | (simp only [ByteArray.size_append]; omega)
              have no13 : ¬ 9223372036854775807 ≤ ((⟨#[80]⟩ : ByteArray) ++ (⟨#[84]⟩ : ByteArray) ++ aH ++ (⟨#[72]⟩ : ByteArray) ++ aM).size := by first | omega | (simp only [ByteArray.size_append]; omega)
              have no14 : ¬ 9223372036854775807 < ((⟨#[80]⟩ : ByteArray) ++ (⟨#[84]⟩ : ByteArray) ++ aH ++ (⟨#[72]⟩ : ByteArray) ++ aM).size + (⟨#[77]⟩ : ByteArray).size := by first | omega | (simp only [ByteArray.size_append]; omega)
              have no15 : ¬ 9223372036854775807 < ((⟨#[80]⟩ : ByteArray) ++ (⟨#[84]⟩ : ByteArray) ++ aH ++ (⟨#[72]⟩ : ByteArray) ++ aM ++ (⟨#[77]⟩ : ByteArray)).size + aX.size := by first | omega | (simp only [ByteArray.size_append]; omega)
              have no16 : ¬ 9223372036854775807 < ((⟨#[80]⟩ : ByteArray) ++ (⟨#[84]⟩ : ByteArray) ++ aH ++ (⟨#[72]⟩ : ByteArray) ++ aM ++ (⟨#[77]⟩ : ByteArray) ++ aX).size + 1 := by first | omega | (simp only [ByteArray.size_append]; omega)
              have no17 : ¬ 9223372036854775806 < ((⟨#[80]⟩ : ByteArray) ++ (⟨#[84]⟩ : ByteArray) ++ aH ++ (⟨#[72]⟩ : ByteArray) ++ aM ++ (⟨#[77]⟩ : ByteArray) ++ aX).size := by first | omega | (simp only [ByteArray.size_append]; omega)
              have no18 : ¬ 9223372036854775807 ≤ ((⟨#[80]⟩ : ByteArray) ++ (⟨#[84]⟩ : ByteArray) ++ aH ++ (⟨#[72]⟩ : ByteArray) ++ aM ++ (⟨#[77]⟩ : ByteArray) ++ aX).size := by first | omega | (simp only [ByteArray.size_append]; omega)
              have no19 : ¬ 9223372036854775807 < ((⟨#[80]⟩ : ByteArray) ++ (⟨#[84]⟩ : ByteArray) ++ aH ++ (⟨#[72]⟩ : ByteArray) ++ aM ++ (⟨#[77]⟩ : ByteArray) ++ aX).size + (⟨#[83]⟩ : ByteArray).size := by first | omega | (simp only [ByteArray.size_append]; omega)
              clear zP zT zW zD zH zM zX SW SD SH SM SX
              have zb1 : (0 : Int) ≤ (m : Int) := by omega
              have zb2 : (m : Int) ≤ 1000000000 := by omega
              have zb5 : (0 : Int) ≤ (y5 : Int) := by omega
              have zb6 : (y5 : Int) ≤ 86400 := by omega
              have zb3 : (0 : Int) ≤ (C : Int) := by omega
              have zb4 : (C : Int) < 86400 := by omega
              generalize (m : Int) = z at *
              generalize (C : Int) = zC at *
              generalize (y5 : Int) = z5 at *
              go_enter Tryz.func5, Tryz.ntmps5
              go_wp2_with (first
                | (go_at_call 17; ((with_reducible refine (kH _).mono ?_); rintro e w1 ⟨rfl, hb1⟩; clear kH; have B1 := Lib.hid hb1))
                | (go_at_call 17; ((with_reducible refine (kM _).mono ?_); rintro e w2 ⟨rfl, hb2⟩; clear kM; have B2 := Lib.hid (bstep B1.out hb2)))
                | (go_at_call 17; ((with_reducible refine (kX _).mono ?_); rintro e w3 ⟨rfl, hb3⟩; clear kX; have B3 := Lib.hid (bstep B2.out hb3))))
              go_ret
              refine ⟨?_, B3.out⟩
              show Ending.returned (Value.string _) = Ending.returned (Value.string _)
              congr 2
              apply bytesR
              rw [mk_listR]
              have gFM := FM.out
              have gFC := FC.out
              have gFK := FK.out
              have gFH := FH.out
              have gFHn := FHn.out
              have gFX := FX.out
              have gFXn := FXn.out
              have gFMn := FMn.out
              have gFMp := FMp.out
              rw [HQ.out, if_neg FK.out]
              clear gFK
              simp [AH.out, AM.out, AX.out, gFM, gFC, gFH, gFHn, gFX, gFMn, gFMp]
      · have kd : (0 : Int) < (D : Int) := by omega
        have FD := Lib.hid (show 0 < D by omega)
        have FDn := Lib.hid hD
        have k6 : 86400 ≤ (m : Int) := by have := HM1.out; omega
        clear hD
        by_cases hC : C = 0
        · obtain rfl := hC
          clear hm1
          have no1 : ¬ 9223372036854775807 < ((⟨#[80]⟩ : ByteArray)).size + aD.size := by first | omega | (simp only [ByteArray.size_append]; omega)
          have no2 : ¬ 9223372036854775807 < ((⟨#[80]⟩ : ByteArray) ++ aD).size + 1 := by first | omega | (simp only [ByteArray.size_append]; omega)
          have no3 : ¬ 9223372036854775806 < ((⟨#[80]⟩ : ByteArray) ++ aD).size := by first | omega | (simp only [ByteArray.size_append]; omega)
          have no4 : ¬ 9223372036854775807 ≤ ((⟨#[80]⟩ : ByteArray) ++ aD).size := by first | omega | (simp only [ByteArray.size_append]; omega)
          have no5 : ¬ 9223372036854775807 < ((⟨#[80]⟩ : ByteArray) ++ aD).size + (⟨#[68]⟩ : ByteArray).size := by first | omega | (simp only [ByteArray.size_append]; omega)
          clear zP zT zW zD zH zM zX SW SD SH SM SX
          have zb1 : (0 : Int) ≤ (m : Int) := by omega
          have zb2 : (m : Int) ≤ 1000000000 := by omega
          have zb5 : (0 : Int) ≤ (y5 : Int) := by omega
          have zb6 : (y5 : Int) ≤ 86400 := by omega
          generalize (m : Int) = z at *
          generalize (y5 : Int) = z5 at *
          go_enter Tryz.func5, Tryz.ntmps5
          go_wp2_with (first
            | (go_at_call 17; ((with_reducible refine (kD _).mono ?_); rintro e w1 ⟨rfl, hb1⟩; clear kD; have B1 := Lib.hid hb1)))
          go_ret
          refine ⟨?_, B1.out⟩
          show Ending.returned (Value.string _) = Ending.returned (Value.string _)
          congr 2
          apply bytesR
          rw [mk_listR]
          have gFM := FM.out
          have gFK := FK.out
          have gFD := FD.out
          have gFDn := FDn.out
          rw [HQ.out, if_neg FK.out]
          clear gFK
          simp [AD.out, gFM, gFD]
        · have FC := Lib.hid hC
          have kc : ((C : Int) == 0) = false := by rw [beq_eq_false_iff_ne]; omega
          clear hC hm1
          rcases Nat.eq_zero_or_pos H with qH | qH
          · obtain rfl : H = 0 := by omega
            rcases Nat.eq_zero_or_pos M with qM | qM
            · obtain rfl : M = 0 := by omega
              rcases Nat.eq_zero_or_pos X with qX | qX
              · exfalso; have := HM2.out; have := FC.out; omega
              · have fX1 : (0 : Int) < (X : Int) := by omega
                have FX := Lib.hid (show 0 < X by omega)
                have fX2 : ((X : Int) == 0) = false := by rw [beq_eq_false_iff_ne]; omega
                have FXn := Lib.hid (show ¬ X = 0 by omega)
                clear qX
                have no1 : ¬ 9223372036854775807 < ((⟨#[80]⟩ : ByteArray)).size + aD.size := by first | omega | (simp only [ByteArray.size_append]; omega)
                have no2 : ¬ 9223372036854775807 < ((⟨#[80]⟩ : ByteArray) ++ aD).size + 1 := by first | omega | (simp only [ByteArray.size_append]; omega)
                have no3 : ¬ 9223372036854775806 < ((⟨#[80]⟩ : ByteArray) ++ aD).size := by first | omega | (simp only [ByteArray.size_append]; omega)
                have no4 : ¬ 9223372036854775807 ≤ ((⟨#[80]⟩ : ByteArray) ++ aD).size := by first | omega | (simp only [ByteArray.size_append]; omega)
                have no5 : ¬ 9223372036854775807 < ((⟨#[80]⟩ : ByteArray) ++ aD).size + (⟨#[68]⟩ : ByteArray).size := by first | omega | (simp only [ByteArray.size_append]; omega)
                have no6 : ¬ 9223372036854775807 < ((⟨#[80]⟩ : ByteArray) ++ aD ++ (⟨#[68]⟩ : ByteArray)).size + 1 := by first | omega | (simp only [ByteArray.size_append]; omega)
                have no7 : ¬ 9223372036854775806 < ((⟨#[80]⟩ : ByteArray) ++ aD ++ (⟨#[68]⟩ : ByteArray)).size := by first | omega | (simp only [ByteArray.size_append]; omega)
                have no8 : ¬ 9223372036854775807 ≤ ((⟨#[80]⟩ : ByteArray) ++ aD ++ (⟨#[68]⟩ : ByteArray)).size := by first | omega | (simp only [ByteArray.size_append]; omega)
                have no9 : ¬ 9223372036854775807 < ((⟨#[80]⟩ : ByteArray) ++ aD ++ (⟨#[68]⟩ : ByteArray)).size + (⟨#[84]⟩ : ByteArray).size := by first | omega | (simp only [ByteArray.size_append]; omega)
                have no10 : ¬ 9223372036854775807 < ((⟨#[80]⟩ : ByteArray) ++ aD ++ (⟨#[68]⟩ : ByteArray) ++ (⟨#[84]⟩ : ByteArray)).size + aX.size := by first | omega | (simp only [ByteArray.size_append]; omega)
                have no11 : ¬ 9223372036854775807 < ((⟨#[80]⟩ : ByteArray) ++ aD ++ (⟨#[68]⟩ : ByteArray) ++ (⟨#[84]⟩ : ByteArray) ++ aX).size + 1 := by first | omega | (simp only [ByteArray.size_append]; omega)
                have no12 : ¬ 9223372036854775806 < ((⟨#[80]⟩ : ByteArray) ++ aD ++ (⟨#[68]⟩ : ByteArray) ++ (⟨#[84]⟩ : ByteArray) ++ aX).size := by first | omega | (simp only [ByteArray.size_append]; omega)
                have no13 : ¬ 9223372036854775807 ≤ ((⟨#[80]⟩ : ByteArray) ++ aD ++ (⟨#[68]⟩ : ByteArray) ++ (⟨#[84]⟩ : ByteArray) ++ aX).size := by first | omega | (simp only [ByteArray.size_append]; omega)
                have no14 : ¬ 9223372036854775807 < ((⟨#[80]⟩ : ByteArray) ++ aD ++ (⟨#[68]⟩ : ByteArray) ++ (⟨#[84]⟩ : ByteArray) ++ aX).size + (⟨#[83]⟩ : ByteArray).size := by first | omega | (simp only [ByteArray.size_append]; omega)
                clear zP zT zW zD zH zM zX SW SD SH SM SX
                have zb1 : (0 : Int) ≤ (m : Int) := by omega
                have zb2 : (m : Int) ≤ 1000000000 := by omega
                have zb5 : (0 : Int) ≤ (y5 : Int) := by omega
                have zb6 : (y5 : Int) ≤ 86400 := by omega
                have zb3 : (0 : Int) ≤ (C : Int) := by omega
                have zb4 : (C : Int) < 86400 := by omega
                generalize (m : Int) = z at *
                generalize (C : Int) = zC at *
                generalize (y5 : Int) = z5 at *
                go_enter Tryz.func5, Tryz.ntmps5
                go_wp2_with (first
                  | (go_at_call 17; ((with_reducible refine (kD _).mono ?_); rintro e w1 ⟨rfl, hb1⟩; clear kD; have B1 := Lib.hid hb1))
                  | (go_at_call 17; ((with_reducible refine (kX _).mono ?_); rintro e w2 ⟨rfl, hb2⟩; clear kX; have B2 := Lib.hid (bstep B1.out hb2))))
                go_ret
                refine ⟨?_, B2.out⟩
                show Ending.returned (Value.string _) = Ending.returned (Value.string _)
                congr 2
                apply bytesR
                rw [mk_listR]
                have gFM := FM.out
                have gFC := FC.out
                have gFK := FK.out
                have gFD := FD.out
                have gFDn := FDn.out
                have gFX := FX.out
                have gFXn := FXn.out
                rw [HQ.out, if_neg FK.out]
                clear gFK
                simp [AD.out, AX.out, gFM, gFC, gFD, gFX]
            · have fM1 : (0 : Int) < (M : Int) := by omega
              have FMp := Lib.hid (show 0 < M by omega)
              have fM2 : ((M : Int) == 0) = false := by rw [beq_eq_false_iff_ne]; omega
              have FMn := Lib.hid (show ¬ M = 0 by omega)
              clear qM
              rcases Nat.eq_zero_or_pos X with qX | qX
              · obtain rfl : X = 0 := by omega
                have no1 : ¬ 9223372036854775807 < ((⟨#[80]⟩ : ByteArray)).size + aD.size := by first | omega | (simp only [ByteArray.size_append]; omega)
                have no2 : ¬ 9223372036854775807 < ((⟨#[80]⟩ : ByteArray) ++ aD).size + 1 := by first | omega | (simp only [ByteArray.size_append]; omega)
                have no3 : ¬ 9223372036854775806 < ((⟨#[80]⟩ : ByteArray) ++ aD).size := by first | omega | (simp only [ByteArray.size_append]; omega)
                have no4 : ¬ 9223372036854775807 ≤ ((⟨#[80]⟩ : ByteArray) ++ aD).size := by first | omega | (simp only [ByteArray.size_append]; omega)
                have no5 : ¬ 9223372036854775807 < ((⟨#[80]⟩ : ByteArray) ++ aD).size + (⟨#[68]⟩ : ByteArray).size := by first | omega | (simp only [ByteArray.size_append]; omega)
                have no6 : ¬ 9223372036854775807 < ((⟨#[80]⟩ : ByteArray) ++ aD ++ (⟨#[68]⟩ : ByteArray)).size + 1 := by first | omega | (simp only [ByteArray.size_append]; omega)
                have no7 : ¬ 9223372036854775806 < ((⟨#[80]⟩ : ByteArray) ++ aD ++ (⟨#[68]⟩ : ByteArray)).size := by first | omega | (simp only [ByteArray.size_append]; omega)
                have no8 : ¬ 9223372036854775807 ≤ ((⟨#[80]⟩ : ByteArray) ++ aD ++ (⟨#[68]⟩ : ByteArray)).size := by first | omega | (simp only [ByteArray.size_append]; omega)
                have no9 : ¬ 9223372036854775807 < ((⟨#[80]⟩ : ByteArray) ++ aD ++ (⟨#[68]⟩ : ByteArray)).size + (⟨#[84]⟩ : ByteArray).size := by first | omega | (simp only [ByteArray.size_append]; omega)
                have no10 : ¬ 9223372036854775807 < ((⟨#[80]⟩ : ByteArray) ++ aD ++ (⟨#[68]⟩ : ByteArray) ++ (⟨#[84]⟩ : ByteArray)).size + aM.size := by first | omega | (simp only [ByteArray.size_append]; omega)
                have no11 : ¬ 9223372036854775807 < ((⟨#[80]⟩ : ByteArray) ++ aD ++ (⟨#[68]⟩ : ByteArray) ++ (⟨#[84]⟩ : ByteArray) ++ aM).size + 1 := by first | omega | (simp only [ByteArray.size_append]; omega)
                have no12 : ¬ 9223372036854775806 < ((⟨#[80]⟩ : ByteArray) ++ aD ++ (⟨#[68]⟩ : ByteArray) ++ (⟨#[84]⟩ : ByteArray) ++ aM).size := by first | omega | (simp only [ByteArray.size_append]; omega)
                have no13 : ¬ 9223372036854775807 ≤ ((⟨#[80]⟩ : ByteArray) ++ aD ++ (⟨#[68]⟩ : ByteArray) ++ (⟨#[84]⟩ : ByteArray) ++ aM).size := by first | omega | (simp only [ByteArray.size_append]; omega)
                have no14 : ¬ 9223372036854775807 < ((⟨#[80]⟩ : ByteArray) ++ aD ++ (⟨#[68]⟩ : ByteArray) ++ (⟨#[84]⟩ : ByteArray) ++ aM).size + (⟨#[77]⟩ : ByteArray).size := by first | omega | (simp only [ByteArray.size_append]; omega)
                clear zP zT zW zD zH zM zX SW SD SH SM SX
                have zb1 : (0 : Int) ≤ (m : Int) := by omega
                have zb2 : (m : Int) ≤ 1000000000 := by omega
                have zb5 : (0 : Int) ≤ (y5 : Int) := by omega
                have zb6 : (y5 : Int) ≤ 86400 := by omega
                have zb3 : (0 : Int) ≤ (C : Int) := by omega
                have zb4 : (C : Int) < 86400 := by omega
                generalize (m : Int) = z at *
                generalize (C : Int) = zC at *
                generalize (y5 : Int) = z5 at *
                go_enter Tryz.func5, Tryz.ntmps5
                go_wp2_with (first
                  | (go_at_call 17; ((with_reducible refine (kD _).mono ?_); rintro e w1 ⟨rfl, hb1⟩; clear kD; have B1 := Lib.hid hb1))
                  | (go_at_call 17; ((with_reducible refine (kM _).mono ?_); rintro e w2 ⟨rfl, hb2⟩; clear kM; have B2 := Lib.hid (bstep B1.out hb2))))
                go_ret
                refine ⟨?_, B2.out⟩
                show Ending.returned (Value.string _) = Ending.returned (Value.string _)
                congr 2
                apply bytesR
                rw [mk_listR]
                have gFM := FM.out
                have gFC := FC.out
                have gFK := FK.out
                have gFD := FD.out
                have gFDn := FDn.out
                have gFMn := FMn.out
                have gFMp := FMp.out
                rw [HQ.out, if_neg FK.out]
                clear gFK
                simp [AD.out, AM.out, gFM, gFC, gFD, gFMn, gFMp]
              · have fX1 : (0 : Int) < (X : Int) := by omega
                have FX := Lib.hid (show 0 < X by omega)
                have fX2 : ((X : Int) == 0) = false := by rw [beq_eq_false_iff_ne]; omega
                have FXn := Lib.hid (show ¬ X = 0 by omega)
                clear qX
                have no1 : ¬ 9223372036854775807 < ((⟨#[80]⟩ : ByteArray)).size + aD.size := by first | omega | (simp only [ByteArray.size_append]; omega)
                have no2 : ¬ 9223372036854775807 < ((⟨#[80]⟩ : ByteArray) ++ aD).size + 1 := by first | omega | (simp only [ByteArray.size_append]; omega)
                have no3 : ¬ 9223372036854775806 < ((⟨#[80]⟩ : ByteArray) ++ aD).size := by first | omega | (simp only [ByteArray.size_append]; omega)
                have no4 : ¬ 9223372036854775807 ≤ ((⟨#[80]⟩ : ByteArray) ++ aD).size := by first | omega | (simp only [ByteArray.size_append]; omega)
                have no5 : ¬ 9223372036854775807 < ((⟨#[80]⟩ : ByteArray) ++ aD).size + (⟨#[68]⟩ : ByteArray).size := by first | omega | (simp only [ByteArray.size_append]; omega)
                have no6 : ¬ 9223372036854775807 < ((⟨#[80]⟩ : ByteArray) ++ aD ++ (⟨#[68]⟩ : ByteArray)).size + 1 := by first | omega | (simp only [ByteArray.size_append]; omega)
                have no7 : ¬ 9223372036854775806 < ((⟨#[80]⟩ : ByteArray) ++ aD ++ (⟨#[68]⟩ : ByteArray)).size := by first | omega | (simp only [ByteArray.size_append]; omega)
                have no8 : ¬ 9223372036854775807 ≤ ((⟨#[80]⟩ : ByteArray) ++ aD ++ (⟨#[68]⟩ : ByteArray)).size := by first | omega | (simp only [ByteArray.size_append]; omega)
                have no9 : ¬ 9223372036854775807 < ((⟨#[80]⟩ : ByteArray) ++ aD ++ (⟨#[68]⟩ : ByteArray)).size + (⟨#[84]⟩ : ByteArray).size := by first | omega | (simp only [ByteArray.size_append]; omega)
                have no10 : ¬ 9223372036854775807 < ((⟨#[80]⟩ : ByteArray) ++ aD ++ (⟨#[68]⟩ : ByteArray) ++ (⟨#[84]⟩ : ByteArray)).size + aM.size := by first | omega | (simp only [ByteArray.size_append]; omega)
                have no11 : ¬ 9223372036854775807 < ((⟨#[80]⟩ : ByteArray) ++ aD ++ (⟨#[68]⟩ : ByteArray) ++ (⟨#[84]⟩ : ByteArray) ++ aM).size + 1 := by first | omega | (simp only [ByteArray.size_append]; omega)
                have no12 : ¬ 9223372036854775806 < ((⟨#[80]⟩ : ByteArray) ++ aD ++ (⟨#[68]⟩ : ByteArray) ++ (⟨#[84]⟩ : ByteArray) ++ aM).size := by first | omega | (simp only [ByteArray.size_append]; omega)
                have no13 : ¬ 9223372036854775807 ≤ ((⟨#[80]⟩ : ByteArray) ++ aD ++ (⟨#[68]⟩ : ByteArray) ++ (⟨#[84]⟩ : ByteArray) ++ aM).size := by first | omega | (simp only [ByteArray.size_append]; omega)
                have no14 : ¬ 9223372036854775807 < ((⟨#[80]⟩ : ByteArray) ++ aD ++ (⟨#[68]⟩ : ByteArray) ++ (⟨#[84]⟩ : ByteArray) ++ aM).size + (⟨#[77]⟩ : ByteArray).size := by first | omega | (simp only [ByteArray.size_append]; omega)
                have no15 : ¬ 9223372036854775807 < ((⟨#[80]⟩ : ByteArray) ++ aD ++ (⟨#[68]⟩ : ByteArray) ++ (⟨#[84]⟩ : ByteArray) ++ aM ++ (⟨#[77]⟩ : ByteArray)).size + aX.size := by first | omega | (simp only [ByteArray.size_append]; omega)
                have no16 : ¬ 9223372036854775807 < ((⟨#[80]⟩ : ByteArray) ++ aD ++ (⟨#[68]⟩ : ByteArray) ++ (⟨#[84]⟩ : ByteArray) ++ aM ++ (⟨#[77]⟩ : ByteArray) ++ aX).size + 1 := by first | omega | (simp only [ByteArray.size_append]; omega)
                have no17 : ¬ 9223372036854775806 < ((⟨#[80]⟩ : ByteArray) ++ aD ++ (⟨#[68]⟩ : ByteArray) ++ (⟨#[84]⟩ : ByteArray) ++ aM ++ (⟨#[77]⟩ : ByteArray) ++ aX).size := by first | omega | (simp only [ByteArray.size_append]; omega)
                have no18 : ¬ 9223372036854775807 ≤ ((⟨#[80]⟩ : ByteArray) ++ aD ++ (⟨#[68]⟩ : ByteArray) ++ (⟨#[84]⟩ : ByteArray) ++ aM ++ (⟨#[77]⟩ : ByteArray) ++ aX).size := by first | omega | (simp only [ByteArray.size_append]; omega)
                have no19 : ¬ 9223372036854775807 < ((⟨#[80]⟩ : ByteArray) ++ aD ++ (⟨#[68]⟩ : ByteArray) ++ (⟨#[84]⟩ : ByteArray) ++ aM ++ (⟨#[77]⟩ : ByteArray) ++ aX).size + (⟨#[83]⟩ : ByteArray).size := by first | omega | (simp only [ByteArray.size_append]; omega)
                clear zP zT zW zD zH zM zX SW SD SH SM SX
                have zb1 : (0 : Int) ≤ (m : Int) := by omega
                have zb2 : (m : Int) ≤ 1000000000 := by omega
                have zb5 : (0 : Int) ≤ (y5 : Int) := by omega
                have zb6 : (y5 : Int) ≤ 86400 := by omega
                have zb3 : (0 : Int) ≤ (C : Int) := by omega
                have zb4 : (C : Int) < 86400 := by omega
                generalize (m : Int) = z at *
                generalize (C : Int) = zC at *
                generalize (y5 : Int) = z5 at *
                go_enter Tryz.func5, Tryz.ntmps5
                go_wp2_with (first
                  | (go_at_call 17; ((with_reducible refine (kD _).mono ?_); rintro e w1 ⟨rfl, hb1⟩; clear kD; have B1 := Lib.hid hb1))
                  | (go_at_call 17; ((with_reducible refine (kM _).mono ?_); rintro e w2 ⟨rfl, hb2⟩; clear kM; have B2 := Lib.hid (bstep B1.out hb2)))
                  | (go_at_call 17; ((with_reducible refine (kX _).mono ?_); rintro e w3 ⟨rfl, hb3⟩; clear kX; have B3 := Lib.hid (bstep B2.out hb3))))
                go_ret
                refine ⟨?_, B3.out⟩
                show Ending.returned (Value.string _) = Ending.returned (Value.string _)
                congr 2
                apply bytesR
                rw [mk_listR]
                have gFM := FM.out
                have gFC := FC.out
                have gFK := FK.out
                have gFD := FD.out
                have gFDn := FDn.out
                have gFX := FX.out
                have gFXn := FXn.out
                have gFMn := FMn.out
                have gFMp := FMp.out
                rw [HQ.out, if_neg FK.out]
                clear gFK
                simp [AD.out, AM.out, AX.out, gFM, gFC, gFD, gFX, gFMn, gFMp]
          · have fH1 : (0 : Int) < (H : Int) := by omega
            have FH := Lib.hid (show 0 < H by omega)
            have fH2 : ((H : Int) == 0) = false := by rw [beq_eq_false_iff_ne]; omega
            have FHn := Lib.hid (show ¬ H = 0 by omega)
            clear qH
            rcases Nat.eq_zero_or_pos M with qM | qM
            · obtain rfl : M = 0 := by omega
              rcases Nat.eq_zero_or_pos X with qX | qX
              · obtain rfl : X = 0 := by omega
                have no1 : ¬ 9223372036854775807 < ((⟨#[80]⟩ : ByteArray)).size + aD.size := by first | omega | (simp only [ByteArray.size_append]; omega)
                have no2 : ¬ 9223372036854775807 < ((⟨#[80]⟩ : ByteArray) ++ aD).size + 1 := by first | omega | (simp only [ByteArray.size_append]; omega)
                have no3 : ¬ 9223372036854775806 < ((⟨#[80]⟩ : ByteArray) ++ aD).size := by first | omega | (simp only [ByteArray.size_append]; omega)
                have no4 : ¬ 9223372036854775807 ≤ ((⟨#[80]⟩ : ByteArray) ++ aD).size := by first | omega | (simp only [ByteArray.size_append]; omega)
                have no5 : ¬ 9223372036854775807 < ((⟨#[80]⟩ : ByteArray) ++ aD).size + (⟨#[68]⟩ : ByteArray).size := by first | omega | (simp only [ByteArray.size_append]; omega)
                have no6 : ¬ 9223372036854775807 < ((⟨#[80]⟩ : ByteArray) ++ aD ++ (⟨#[68]⟩ : ByteArray)).size + 1 := by first | omega | (simp only [ByteArray.size_append]; omega)
                have no7 : ¬ 9223372036854775806 < ((⟨#[80]⟩ : ByteArray) ++ aD ++ (⟨#[68]⟩ : ByteArray)).size := by first | omega | (simp only [ByteArray.size_append]; omega)
                have no8 : ¬ 9223372036854775807 ≤ ((⟨#[80]⟩ : ByteArray) ++ aD ++ (⟨#[68]⟩ : ByteArray)).size := by first | omega | (simp only [ByteArray.size_append]; omega)
                have no9 : ¬ 9223372036854775807 < ((⟨#[80]⟩ : ByteArray) ++ aD ++ (⟨#[68]⟩ : ByteArray)).size + (⟨#[84]⟩ : ByteArray).size := by first | omega | (simp only [ByteArray.size_append]; omega)
                have no10 : ¬ 9223372036854775807 < ((⟨#[80]⟩ : ByteArray) ++ aD ++ (⟨#[68]⟩ : ByteArray) ++ (⟨#[84]⟩ : ByteArray)).size + aH.size := by first | omega | (simp only [ByteArray.size_append]; omega)
                have no11 : ¬ 9223372036854775807 < ((⟨#[80]⟩ : ByteArray) ++ aD ++ (⟨#[68]⟩ : ByteArray) ++ (⟨#[84]⟩ : ByteArray) ++ aH).size + 1 := by first | omega | (simp only [ByteArray.size_append]; omega)
                have no12 : ¬ 9223372036854775806 < ((⟨#[80]⟩ : ByteArray) ++ aD ++ (⟨#[68]⟩ : ByteArray) ++ (⟨#[84]⟩ : ByteArray) ++ aH).size := by first | omega | (simp only [ByteArray.size_append]; omega)
                have no13 : ¬ 9223372036854775807 ≤ ((⟨#[80]⟩ : ByteArray) ++ aD ++ (⟨#[68]⟩ : ByteArray) ++ (⟨#[84]⟩ : ByteArray) ++ aH).size := by first | omega | (simp only [ByteArray.size_append]; omega)
                have no14 : ¬ 9223372036854775807 < ((⟨#[80]⟩ : ByteArray) ++ aD ++ (⟨#[68]⟩ : ByteArray) ++ (⟨#[84]⟩ : ByteArray) ++ aH).size + (⟨#[72]⟩ : ByteArray).size := by first | omega | (simp only [ByteArray.size_append]; omega)
                clear zP zT zW zD zH zM zX SW SD SH SM SX
                have zb1 : (0 : Int) ≤ (m : Int) := by omega
                have zb2 : (m : Int) ≤ 1000000000 := by omega
                have zb5 : (0 : Int) ≤ (y5 : Int) := by omega
                have zb6 : (y5 : Int) ≤ 86400 := by omega
                have zb3 : (0 : Int) ≤ (C : Int) := by omega
                have zb4 : (C : Int) < 86400 := by omega
                generalize (m : Int) = z at *
                generalize (C : Int) = zC at *
                generalize (y5 : Int) = z5 at *
                go_enter Tryz.func5, Tryz.ntmps5
                go_wp2_with (first
                  | (go_at_call 17; ((with_reducible refine (kD _).mono ?_); rintro e w1 ⟨rfl, hb1⟩; clear kD; have B1 := Lib.hid hb1))
                  | (go_at_call 17; ((with_reducible refine (kH _).mono ?_); rintro e w2 ⟨rfl, hb2⟩; clear kH; have B2 := Lib.hid (bstep B1.out hb2))))
                go_ret
                refine ⟨?_, B2.out⟩
                show Ending.returned (Value.string _) = Ending.returned (Value.string _)
                congr 2
                apply bytesR
                rw [mk_listR]
                have gFM := FM.out
                have gFC := FC.out
                have gFK := FK.out
                have gFD := FD.out
                have gFDn := FDn.out
                have gFH := FH.out
                have gFHn := FHn.out
                rw [HQ.out, if_neg FK.out]
                clear gFK
                simp [AD.out, AH.out, gFM, gFC, gFD, gFH, gFHn]
              · have fX1 : (0 : Int) < (X : Int) := by omega
                have FX := Lib.hid (show 0 < X by omega)
                have fX2 : ((X : Int) == 0) = false := by rw [beq_eq_false_iff_ne]; omega
                have FXn := Lib.hid (show ¬ X = 0 by omega)
                clear qX
                replace kM : ∀ W, Calls Tryz.prog 17 #[.int .i64 0] W fun e w' => e = .returned (.string aM) ∧ Below W.heap.size W w' := kM
                have no1 : ¬ 9223372036854775807 < ((⟨#[80]⟩ : ByteArray)).size + aD.size := by first | omega | (simp only [ByteArray.size_append]; omega)
                have no2 : ¬ 9223372036854775807 < ((⟨#[80]⟩ : ByteArray) ++ aD).size + 1 := by first | omega | (simp only [ByteArray.size_append]; omega)
                have no3 : ¬ 9223372036854775806 < ((⟨#[80]⟩ : ByteArray) ++ aD).size := by first | omega | (simp only [ByteArray.size_append]; omega)
                have no4 : ¬ 9223372036854775807 ≤ ((⟨#[80]⟩ : ByteArray) ++ aD).size := by first | omega | (simp only [ByteArray.size_append]; omega)
                have no5 : ¬ 9223372036854775807 < ((⟨#[80]⟩ : ByteArray) ++ aD).size + (⟨#[68]⟩ : ByteArray).size := by first | omega | (simp only [ByteArray.size_append]; omega)
                have no6 : ¬ 9223372036854775807 < ((⟨#[80]⟩ : ByteArray) ++ aD ++ (⟨#[68]⟩ : ByteArray)).size + 1 := by first | omega | (simp only [ByteArray.size_append]; omega)
                have no7 : ¬ 9223372036854775806 < ((⟨#[80]⟩ : ByteArray) ++ aD ++ (⟨#[68]⟩ : ByteArray)).size := by first | omega | (simp only [ByteArray.size_append]; omega)
                have no8 : ¬ 9223372036854775807 ≤ ((⟨#[80]⟩ : ByteArray) ++ aD ++ (⟨#[68]⟩ : ByteArray)).size := by first | omega | (simp only [ByteArray.size_append]; omega)
                have no9 : ¬ 9223372036854775807 < ((⟨#[80]⟩ : ByteArray) ++ aD ++ (⟨#[68]⟩ : ByteArray)).size + (⟨#[84]⟩ : ByteArray).size := by first | omega | (simp only [ByteArray.size_append]; omega)
                have no10 : ¬ 9223372036854775807 < ((⟨#[80]⟩ : ByteArray) ++ aD ++ (⟨#[68]⟩ : ByteArray) ++ (⟨#[84]⟩ : ByteArray)).size + aH.size := by first | omega | (simp only [ByteArray.size_append]; omega)
                have no11 : ¬ 9223372036854775807 < ((⟨#[80]⟩ : ByteArray) ++ aD ++ (⟨#[68]⟩ : ByteArray) ++ (⟨#[84]⟩ : ByteArray) ++ aH).size + 1 := by first | omega | (simp only [ByteArray.size_append]; omega)
                have no12 : ¬ 9223372036854775806 < ((⟨#[80]⟩ : ByteArray) ++ aD ++ (⟨#[68]⟩ : ByteArray) ++ (⟨#[84]⟩ : ByteArray) ++ aH).size := by first | omega | (simp only [ByteArray.size_append]; omega)
                have no13 : ¬ 9223372036854775807 ≤ ((⟨#[80]⟩ : ByteArray) ++ aD ++ (⟨#[68]⟩ : ByteArray) ++ (⟨#[84]⟩ : ByteArray) ++ aH).size := by first | omega | (simp only [ByteArray.size_append]; omega)
                have no14 : ¬ 9223372036854775807 < ((⟨#[80]⟩ : ByteArray) ++ aD ++ (⟨#[68]⟩ : ByteArray) ++ (⟨#[84]⟩ : ByteArray) ++ aH).size + (⟨#[72]⟩ : ByteArray).size := by first | omega | (simp only [ByteArray.size_append]; omega)
                have no15 : ¬ 9223372036854775807 < ((⟨#[80]⟩ : ByteArray) ++ aD ++ (⟨#[68]⟩ : ByteArray) ++ (⟨#[84]⟩ : ByteArray) ++ aH ++ (⟨#[72]⟩ : ByteArray)).size + aM.size := by first | omega | (simp only [ByteArray.size_append]; omega)
                have no16 : ¬ 9223372036854775807 < ((⟨#[80]⟩ : ByteArray) ++ aD ++ (⟨#[68]⟩ : ByteArray) ++ (⟨#[84]⟩ : ByteArray) ++ aH ++ (⟨#[72]⟩ : ByteArray) ++ aM).size + 1 := by first | omega | (simp only [ByteArray.size_append]; omega)
                have no17 : ¬ 9223372036854775806 < ((⟨#[80]⟩ : ByteArray) ++ aD ++ (⟨#[68]⟩ : ByteArray) ++ (⟨#[84]⟩ : ByteArray) ++ aH ++ (⟨#[72]⟩ : ByteArray) ++ aM).size := by first | omega | (simp only [ByteArray.size_append]; omega)
                have no18 : ¬ 9223372036854775807 ≤ ((⟨#[80]⟩ : ByteArray) ++ aD ++ (⟨#[68]⟩ : ByteArray) ++ (⟨#[84]⟩ : ByteArray) ++ aH ++ (⟨#[72]⟩ : ByteArray) ++ aM).size := by first | omega | (simp only [ByteArray.size_append]; omega)
                have no19 : ¬ 9223372036854775807 < ((⟨#[80]⟩ : ByteArray) ++ aD ++ (⟨#[68]⟩ : ByteArray) ++ (⟨#[84]⟩ : ByteArray) ++ aH ++ (⟨#[72]⟩ : ByteArray) ++ aM).size + (⟨#[77]⟩ : ByteArray).size := by first | omega | (simp only [ByteArray.size_append]; omega)
                have no20 : ¬ 9223372036854775807 < ((⟨#[80]⟩ : ByteArray) ++ aD ++ (⟨#[68]⟩ : ByteArray) ++ (⟨#[84]⟩ : ByteArray) ++ aH ++ (⟨#[72]⟩ : ByteArray) ++ aM ++ (⟨#[77]⟩ : ByteArray)).size + aX.size := by first | omega | (simp only [ByteArray.size_append]; omega)
                have no21 : ¬ 9223372036854775807 < ((⟨#[80]⟩ : ByteArray) ++ aD ++ (⟨#[68]⟩ : ByteArray) ++ (⟨#[84]⟩ : ByteArray) ++ aH ++ (⟨#[72]⟩ : ByteArray) ++ aM ++ (⟨#[77]⟩ : ByteArray) ++ aX).size + 1 := by first | omega | (simp only [ByteArray.size_append]; omega)
                have no22 : ¬ 9223372036854775806 < ((⟨#[80]⟩ : ByteArray) ++ aD ++ (⟨#[68]⟩ : ByteArray) ++ (⟨#[84]⟩ : ByteArray) ++ aH ++ (⟨#[72]⟩ : ByteArray) ++ aM ++ (⟨#[77]⟩ : ByteArray) ++ aX).size := by first | omega | (simp only [ByteArray.size_append]; omega)
                have no23 : ¬ 9223372036854775807 ≤ ((⟨#[80]⟩ : ByteArray) ++ aD ++ (⟨#[68]⟩ : ByteArray) ++ (⟨#[84]⟩ : ByteArray) ++ aH ++ (⟨#[72]⟩ : ByteArray) ++ aM ++ (⟨#[77]⟩ : ByteArray) ++ aX).size := by first | omega | (simp only [ByteArray.size_append]; omega)
                have no24 : ¬ 9223372036854775807 < ((⟨#[80]⟩ : ByteArray) ++ aD ++ (⟨#[68]⟩ : ByteArray) ++ (⟨#[84]⟩ : ByteArray) ++ aH ++ (⟨#[72]⟩ : ByteArray) ++ aM ++ (⟨#[77]⟩ : ByteArray) ++ aX).size + (⟨#[83]⟩ : ByteArray).size := by first | omega | (simp only [ByteArray.size_append]; omega)
                clear zP zT zW zD zH zM zX SW SD SH SM SX
                have zb1 : (0 : Int) ≤ (m : Int) := by omega
                have zb2 : (m : Int) ≤ 1000000000 := by omega
                have zb5 : (0 : Int) ≤ (y5 : Int) := by omega
                have zb6 : (y5 : Int) ≤ 86400 := by omega
                have zb3 : (0 : Int) ≤ (C : Int) := by omega
                have zb4 : (C : Int) < 86400 := by omega
                generalize (m : Int) = z at *
                generalize (C : Int) = zC at *
                generalize (y5 : Int) = z5 at *
                go_enter Tryz.func5, Tryz.ntmps5
                go_wp2_with (first
                  | (go_at_call 17; ((with_reducible refine (kD _).mono ?_); rintro e w1 ⟨rfl, hb1⟩; clear kD; have B1 := Lib.hid hb1))
                  | (go_at_call 17; ((with_reducible refine (kH _).mono ?_); rintro e w2 ⟨rfl, hb2⟩; clear kH; have B2 := Lib.hid (bstep B1.out hb2)))
                  | (go_at_call 17; ((with_reducible refine (kM _).mono ?_); rintro e w3 ⟨rfl, hb3⟩; clear kM; have B3 := Lib.hid (bstep B2.out hb3)))
                  | (go_at_call 17; ((with_reducible refine (kX _).mono ?_); rintro e w4 ⟨rfl, hb4⟩; clear kX; have B4 := Lib.hid (bstep B3.out hb4))))
                go_ret
                refine ⟨?_, B4.out⟩
                show Ending.returned (Value.string _) = Ending.returned (Value.string _)
                congr 2
                apply bytesR
                rw [mk_listR]
                have gFM := FM.out
                have gFC := FC.out
                have gFK := FK.out
                have gFD := FD.out
                have gFDn := FDn.out
                have gFH := FH.out
                have gFHn := FHn.out
                have gFX := FX.out
                have gFXn := FXn.out
                rw [HQ.out, if_neg FK.out]
                clear gFK
                simp [AD.out, AH.out, AM.out, AX.out, gFM, gFC, gFD, gFH, gFHn, gFX]
            · have fM1 : (0 : Int) < (M : Int) := by omega
              have FMp := Lib.hid (show 0 < M by omega)
              have fM2 : ((M : Int) == 0) = false := by rw [beq_eq_false_iff_ne]; omega
              have FMn := Lib.hid (show ¬ M = 0 by omega)
              clear qM
              rcases Nat.eq_zero_or_pos X with qX | qX
              · obtain rfl : X = 0 := by omega
                have no1 : ¬ 9223372036854775807 < ((⟨#[80]⟩ : ByteArray)).size + aD.size := by first | omega | (simp only [ByteArray.size_append]; omega)
                have no2 : ¬ 9223372036854775807 < ((⟨#[80]⟩ : ByteArray) ++ aD).size + 1 := by first | omega | (simp only [ByteArray.size_append]; omega)
                have no3 : ¬ 9223372036854775806 < ((⟨#[80]⟩ : ByteArray) ++ aD).size := by first | omega | (simp only [ByteArray.size_append]; omega)
                have no4 : ¬ 9223372036854775807 ≤ ((⟨#[80]⟩ : ByteArray) ++ aD).size := by first | omega | (simp only [ByteArray.size_append]; omega)
                have no5 : ¬ 9223372036854775807 < ((⟨#[80]⟩ : ByteArray) ++ aD).size + (⟨#[68]⟩ : ByteArray).size := by first | omega | (simp only [ByteArray.size_append]; omega)
                have no6 : ¬ 9223372036854775807 < ((⟨#[80]⟩ : ByteArray) ++ aD ++ (⟨#[68]⟩ : ByteArray)).size + 1 := by first | omega | (simp only [ByteArray.size_append]; omega)
                have no7 : ¬ 9223372036854775806 < ((⟨#[80]⟩ : ByteArray) ++ aD ++ (⟨#[68]⟩ : ByteArray)).size := by first | omega | (simp only [ByteArray.size_append]; omega)
                have no8 : ¬ 9223372036854775807 ≤ ((⟨#[80]⟩ : ByteArray) ++ aD ++ (⟨#[68]⟩ : ByteArray)).size := by first | omega | (simp only [ByteArray.size_append]; omega)
                have no9 : ¬ 9223372036854775807 < ((⟨#[80]⟩ : ByteArray) ++ aD ++ (⟨#[68]⟩ : ByteArray)).size + (⟨#[84]⟩ : ByteArray).size := by first | omega | (simp only [ByteArray.size_append]; omega)
                have no10 : ¬ 9223372036854775807 < ((⟨#[80]⟩ : ByteArray) ++ aD ++ (⟨#[68]⟩ : ByteArray) ++ (⟨#[84]⟩ : ByteArray)).size + aH.size := by first | omega | (simp only [ByteArray.size_append]; omega)
                have no11 : ¬ 9223372036854775807 < ((⟨#[80]⟩ : ByteArray) ++ aD ++ (⟨#[68]⟩ : ByteArray) ++ (⟨#[84]⟩ : ByteArray) ++ aH).size + 1 := by first | omega | (simp only [ByteArray.size_append]; omega)
                have no12 : ¬ 9223372036854775806 < ((⟨#[80]⟩ : ByteArray) ++ aD ++ (⟨#[68]⟩ : ByteArray) ++ (⟨#[84]⟩ : ByteArray) ++ aH).size := by first | omega | (simp only [ByteArray.size_append]; omega)
                have no13 : ¬ 9223372036854775807 ≤ ((⟨#[80]⟩ : ByteArray) ++ aD ++ (⟨#[68]⟩ : ByteArray) ++ (⟨#[84]⟩ : ByteArray) ++ aH).size := by first | omega | (simp only [ByteArray.size_append]; omega)
                have no14 : ¬ 9223372036854775807 < ((⟨#[80]⟩ : ByteArray) ++ aD ++ (⟨#[68]⟩ : ByteArray) ++ (⟨#[84]⟩ : ByteArray) ++ aH).size + (⟨#[72]⟩ : ByteArray).size := by first | omega | (simp only [ByteArray.size_append]; omega)
                have no15 : ¬ 9223372036854775807 < ((⟨#[80]⟩ : ByteArray) ++ aD ++ (⟨#[68]⟩ : ByteArray) ++ (⟨#[84]⟩ : ByteArray) ++ aH ++ (⟨#[72]⟩ : ByteArray)).size + aM.size := by first | omega | (simp only [ByteArray.size_append]; omega)
                have no16 : ¬ 9223372036854775807 < ((⟨#[80]⟩ : ByteArray) ++ aD ++ (⟨#[68]⟩ : ByteArray) ++ (⟨#[84]⟩ : ByteArray) ++ aH ++ (⟨#[72]⟩ : ByteArray) ++ aM).size + 1 := by first | omega | (simp only [ByteArray.size_append]; omega)
                have no17 : ¬ 9223372036854775806 < ((⟨#[80]⟩ : ByteArray) ++ aD ++ (⟨#[68]⟩ : ByteArray) ++ (⟨#[84]⟩ : ByteArray) ++ aH ++ (⟨#[72]⟩ : ByteArray) ++ aM).size := by first | omega | (simp only [ByteArray.size_append]; omega)
                have no18 : ¬ 9223372036854775807 ≤ ((⟨#[80]⟩ : ByteArray) ++ aD ++ (⟨#[68]⟩ : ByteArray) ++ (⟨#[84]⟩ : ByteArray) ++ aH ++ (⟨#[72]⟩ : ByteArray) ++ aM).size := by first | omega | (simp only [ByteArray.size_append]; omega)
                have no19 : ¬ 9223372036854775807 < ((⟨#[80]⟩ : ByteArray) ++ aD ++ (⟨#[68]⟩ : ByteArray) ++ (⟨#[84]⟩ : ByteArray) ++ aH ++ (⟨#[72]⟩ : ByteArray) ++ aM).size + (⟨#[77]⟩ : ByteArray).size := by first | omega | (simp only [ByteArray.size_append]; omega)
                clear zP zT zW zD zH zM zX SW SD SH SM SX
                have zb1 : (0 : Int) ≤ (m : Int) := by omega
                have zb2 : (m : Int) ≤ 1000000000 := by omega
                have zb5 : (0 : Int) ≤ (y5 : Int) := by omega
                have zb6 : (y5 : Int) ≤ 86400 := by omega
                have zb3 : (0 : Int) ≤ (C : Int) := by omega
                have zb4 : (C : Int) < 86400 := by omega
                generalize (m : Int) = z at *
                generalize (C : Int) = zC at *
                generalize (y5 : Int) = z5 at *
                go_enter Tryz.func5, Tryz.ntmps5
                go_wp2_with (first
                  | (go_at_call 17; ((with_reducible refine (kD _).mono ?_); rintro e w1 ⟨rfl, hb1⟩; clear kD; have B1 := Lib.hid hb1))
                  | (go_at_call 17; ((with_reducible refine (kH _).mono ?_); rintro e w2 ⟨rfl, hb2⟩; clear kH; have B2 := Lib.hid (bstep B1.out hb2)))
                  | (go_at_call 17; ((with_reducible refine (kM _).mono ?_); rintro e w3 ⟨rfl, hb3⟩; clear kM; have B3 := Lib.hid (bstep B2.out hb3))))
                go_ret
                refine ⟨?_, B3.out⟩
                show Ending.returned (Value.string _) = Ending.returned (Value.string _)
                congr 2
                apply bytesR
                rw [mk_listR]
                have gFM := FM.out
                have gFC := FC.out
                have gFK := FK.out
                have gFD := FD.out
                have gFDn := FDn.out
                have gFH := FH.out
                have gFHn := FHn.out
                have gFMn := FMn.out
                have gFMp := FMp.out
                rw [HQ.out, if_neg FK.out]
                clear gFK
                simp [AD.out, AH.out, AM.out, gFM, gFC, gFD, gFH, gFHn, gFMn, gFMp]
              · have fX1 : (0 : Int) < (X : Int) := by omega
                have FX := Lib.hid (show 0 < X by omega)
                have fX2 : ((X : Int) == 0) = false := by rw [beq_eq_false_iff_ne]; omega
                have FXn := Lib.hid (show ¬ X = 0 by omega)
                clear qX
                have no1 : ¬ 9223372036854775807 < ((⟨#[80]⟩ : ByteArray)).size + aD.size := by first | omega | (simp only [ByteArray.size_append]; omega)
                have no2 : ¬ 9223372036854775807 < ((⟨#[80]⟩ : ByteArray) ++ aD).size + 1 := by first | omega | (simp only [ByteArray.size_append]; omega)
                have no3 : ¬ 9223372036854775806 < ((⟨#[80]⟩ : ByteArray) ++ aD).size := by first | omega | (simp only [ByteArray.size_append]; omega)
                have no4 : ¬ 9223372036854775807 ≤ ((⟨#[80]⟩ : ByteArray) ++ aD).size := by first | omega | (simp only [ByteArray.size_append]; omega)
                have no5 : ¬ 9223372036854775807 < ((⟨#[80]⟩ : ByteArray) ++ aD).size + (⟨#[68]⟩ : ByteArray).size := by first | omega | (simp only [ByteArray.size_append]; omega)
                have no6 : ¬ 9223372036854775807 < ((⟨#[80]⟩ : ByteArray) ++ aD ++ (⟨#[68]⟩ : ByteArray)).size + 1 := by first | omega | (simp only [ByteArray.size_append]; omega)
                have no7 : ¬ 9223372036854775806 < ((⟨#[80]⟩ : ByteArray) ++ aD ++ (⟨#[68]⟩ : ByteArray)).size := by first | omega | (simp only [ByteArray.size_append]; omega)
                have no8 : ¬ 9223372036854775807 ≤ ((⟨#[80]⟩ : ByteArray) ++ aD ++ (⟨#[68]⟩ : ByteArray)).size := by first | omega | (simp only [ByteArray.size_append]; omega)
                have no9 : ¬ 9223372036854775807 < ((⟨#[80]⟩ : ByteArray) ++ aD ++ (⟨#[68]⟩ : ByteArray)).size + (⟨#[84]⟩ : ByteArray).size := by first | omega | (simp only [ByteArray.size_append]; omega)
                have no10 : ¬ 9223372036854775807 < ((⟨#[80]⟩ : ByteArray) ++ aD ++ (⟨#[68]⟩ : ByteArray) ++ (⟨#[84]⟩ : ByteArray)).size + aH.size := by first | omega | (simp only [ByteArray.size_append]; omega)
                have no11 : ¬ 9223372036854775807 < ((⟨#[80]⟩ : ByteArray) ++ aD ++ (⟨#[68]⟩ : ByteArray) ++ (⟨#[84]⟩ : ByteArray) ++ aH).size + 1 := by first | omega | (simp only [ByteArray.size_append]; omega)
                have no12 : ¬ 9223372036854775806 < ((⟨#[80]⟩ : ByteArray) ++ aD ++ (⟨#[68]⟩ : ByteArray) ++ (⟨#[84]⟩ : ByteArray) ++ aH).size := by first | omega | (simp only [ByteArray.size_append]; omega)
                have no13 : ¬ 9223372036854775807 ≤ ((⟨#[80]⟩ : ByteArray) ++ aD ++ (⟨#[68]⟩ : ByteArray) ++ (⟨#[84]⟩ : ByteArray) ++ aH).size := by first | omega | (simp only [ByteArray.size_append]; omega)
                have no14 : ¬ 9223372036854775807 < ((⟨#[80]⟩ : ByteArray) ++ aD ++ (⟨#[68]⟩ : ByteArray) ++ (⟨#[84]⟩ : ByteArray) ++ aH).size + (⟨#[72]⟩ : ByteArray).size := by first | omega | (simp only [ByteArray.size_append]; omega)
                have no15 : ¬ 9223372036854775807 < ((⟨#[80]⟩ : ByteArray) ++ aD ++ (⟨#[68]⟩ : ByteArray) ++ (⟨#[84]⟩ : ByteArray) ++ aH ++ (⟨#[72]⟩ : ByteArray)).size + aM.size := by first | omega | (simp only [ByteArray.size_append]; omega)
                have no16 : ¬ 9223372036854775807 < ((⟨#[80]⟩ : ByteArray) ++ aD ++ (⟨#[68]⟩ : ByteArray) ++ (⟨#[84]⟩ : ByteArray) ++ aH ++ (⟨#[72]⟩ : ByteArray) ++ aM).size + 1 := by first | omega | (simp only [ByteArray.size_append]; omega)
                have no17 : ¬ 9223372036854775806 < ((⟨#[80]⟩ : ByteArray) ++ aD ++ (⟨#[68]⟩ : ByteArray) ++ (⟨#[84]⟩ : ByteArray) ++ aH ++ (⟨#[72]⟩ : ByteArray) ++ aM).size := by first | omega | (simp only [ByteArray.size_append]; omega)
                have no18 : ¬ 9223372036854775807 ≤ ((⟨#[80]⟩ : ByteArray) ++ aD ++ (⟨#[68]⟩ : ByteArray) ++ (⟨#[84]⟩ : ByteArray) ++ aH ++ (⟨#[72]⟩ : ByteArray) ++ aM).size := by first | omega | (simp only [ByteArray.size_append]; omega)
                have no19 : ¬ 9223372036854775807 < ((⟨#[80]⟩ : ByteArray) ++ aD ++ (⟨#[68]⟩ : ByteArray) ++ (⟨#[84]⟩ : ByteArray) ++ aH ++ (⟨#[72]⟩ : ByteArray) ++ aM).size + (⟨#[77]⟩ : ByteArray).size := by first | omega | (simp only [ByteArray.size_append]; omega)
                have no20 : ¬ 9223372036854775807 < ((⟨#[80]⟩ : ByteArray) ++ aD ++ (⟨#[68]⟩ : ByteArray) ++ (⟨#[84]⟩ : ByteArray) ++ aH ++ (⟨#[72]⟩ : ByteArray) ++ aM ++ (⟨#[77]⟩ : ByteArray)).size + aX.size := by first | omega | (simp only [ByteArray.size_append]; omega)
                have no21 : ¬ 9223372036854775807 < ((⟨#[80]⟩ : ByteArray) ++ aD ++ (⟨#[68]⟩ : ByteArray) ++ (⟨#[84]⟩ : ByteArray) ++ aH ++ (⟨#[72]⟩ : ByteArray) ++ aM ++ (⟨#[77]⟩ : ByteArray) ++ aX).size + 1 := by first | omega | (simp only [ByteArray.size_append]; omega)
                have no22 : ¬ 9223372036854775806 < ((⟨#[80]⟩ : ByteArray) ++ aD ++ (⟨#[68]⟩ : ByteArray) ++ (⟨#[84]⟩ : ByteArray) ++ aH ++ (⟨#[72]⟩ : ByteArray) ++ aM ++ (⟨#[77]⟩ : ByteArray) ++ aX).size := by first | omega | (simp only [ByteArray.size_append]; omega)
                have no23 : ¬ 9223372036854775807 ≤ ((⟨#[80]⟩ : ByteArray) ++ aD ++ (⟨#[68]⟩ : ByteArray) ++ (⟨#[84]⟩ : ByteArray) ++ aH ++ (⟨#[72]⟩ : ByteArray) ++ aM ++ (⟨#[77]⟩ : ByteArray) ++ aX).size := by first | omega | (simp only [ByteArray.size_append]; omega)
                have no24 : ¬ 9223372036854775807 < ((⟨#[80]⟩ : ByteArray) ++ aD ++ (⟨#[68]⟩ : ByteArray) ++ (⟨#[84]⟩ : ByteArray) ++ aH ++ (⟨#[72]⟩ : ByteArray) ++ aM ++ (⟨#[77]⟩ : ByteArray) ++ aX).size + (⟨#[83]⟩ : ByteArray).size := by first | omega | (simp only [ByteArray.size_append]; omega)
                clear zP zT zW zD zH zM zX SW SD SH SM SX
                have zb1 : (0 : Int) ≤ (m : Int) := by omega
                have zb2 : (m : Int) ≤ 1000000000 := by omega
                have zb5 : (0 : Int) ≤ (y5 : Int) := by omega
                have zb6 : (y5 : Int) ≤ 86400 := by omega
                have zb3 : (0 : Int) ≤ (C : Int) := by omega
                have zb4 : (C : Int) < 86400 := by omega
                generalize (m : Int) = z at *
                generalize (C : Int) = zC at *
                generalize (y5 : Int) = z5 at *
                go_enter Tryz.func5, Tryz.ntmps5
                go_wp2_with (first
                  | (go_at_call 17; ((with_reducible refine (kD _).mono ?_); rintro e w1 ⟨rfl, hb1⟩; clear kD; have B1 := Lib.hid hb1))
                  | (go_at_call 17; ((with_reducible refine (kH _).mono ?_); rintro e w2 ⟨rfl, hb2⟩; clear kH; have B2 := Lib.hid (bstep B1.out hb2)))
                  | (go_at_call 17; ((with_reducible refine (kM _).mono ?_); rintro e w3 ⟨rfl, hb3⟩; clear kM; have B3 := Lib.hid (bstep B2.out hb3)))
                  | (go_at_call 17; ((with_reducible refine (kX _).mono ?_); rintro e w4 ⟨rfl, hb4⟩; clear kX; have B4 := Lib.hid (bstep B3.out hb4))))
                go_ret
                refine ⟨?_, B4.out⟩
                show Ending.returned (Value.string _) = Ending.returned (Value.string _)
                congr 2
                apply bytesR
                rw [mk_listR]
                have gFM := FM.out
                have gFC := FC.out
                have gFK := FK.out
                have gFD := FD.out
                have gFDn := FDn.out
                have gFH := FH.out
                have gFHn := FHn.out
                have gFX := FX.out
                have gFXn := FXn.out
                have gFMn := FMn.out
                have gFMp := FMp.out
                rw [HQ.out, if_neg FK.out]
                clear gFK
                simp [AD.out, AH.out, AM.out, AX.out, gFM, gFC, gFD, gFH, gFHn, gFX, gFMn, gFMp]
set_option maxRecDepth 100000 in
set_option maxHeartbeats 16000000 in
theorem refDurText_neg (m : Nat) (hm : m ≤ 1000000000) (h0 : 0 < m) (w : World) :
    Calls Tryz.prog 5 #[.int .i64 (-(m : Int))] w fun e w' => e = .returned (.string ⟨([45, 80] ++ bodyT m).toArray⟩) ∧ Below w.heap.size w w' := by
  have kW := fun W => refNumT (m / 604800) (by omega) W
  have kD := fun W => refNumT (m / 86400) (by omega) W
  have kH := fun W => refNumT (m % 86400 / 3600) (by omega) W
  have kM := fun W => refNumT (m % 86400 / 60 % 60) (by omega) W
  have kX := fun W => refNumT (m % 86400 % 60) (by omega) W
  have m1 : Int.tdiv (m : Int) 86400 = ((m / 86400 : Nat) : Int) := by rw [tdiv_pos (by omega)]; omega
  have m2 : Int.tmod (m : Int) 86400 = ((m % 86400 : Nat) : Int) := by rw [tmod_pos (by omega)]; omega
  have m3 : Int.tdiv (m : Int) 604800 = ((m / 604800 : Nat) : Int) := by rw [tdiv_pos (by omega)]; omega
  have m4 : Int.tmod (m : Int) 604800 = ((m % 604800 : Nat) : Int) := by rw [tmod_pos (by omega)]; omega
  have m5 : Int.tdiv ((m % 86400 : Nat) : Int) 3600 = ((m % 86400 / 3600 : Nat) : Int) := by rw [tdiv_pos (by omega)]; omega
  have m6 : Int.tdiv ((m % 86400 : Nat) : Int) 60 = ((m % 86400 / 60 : Nat) : Int) := by rw [tdiv_pos (by omega)]; omega
  have m7 : Int.tmod ((m % 86400 / 60 : Nat) : Int) 60 = ((m % 86400 / 60 % 60 : Nat) : Int) := by rw [tmod_pos (by omega)]; omega
  have m8 : Int.tmod ((m % 86400 : Nat) : Int) 60 = ((m % 86400 % 60 : Nat) : Int) := by rw [tmod_pos (by omega)]; omega
  have HQ : Hid (bodyT m = if 0 < m ∧ m % 604800 = 0 then Lib.decDigits (m / 604800) ++ [87] else (if 0 < m / 86400 then Lib.decDigits (m / 86400) ++ [68] else []) ++ (if m % 86400 = 0 ∧ 0 < m then [] else 84 :: ((if 0 < m % 86400 / 3600 then Lib.decDigits (m % 86400 / 3600) ++ [72] else []) ++ ((if 0 < m % 86400 / 60 % 60 ∨ (0 < m % 86400 / 3600 ∧ 0 < m % 86400 % 60) then Lib.decDigits (m % 86400 / 60 % 60) ++ [77] else []) ++ (if 0 < m % 86400 % 60 ∨ (m % 86400 / 3600 = 0 ∧ m % 86400 / 60 % 60 = 0) then Lib.decDigits (m % 86400 % 60) ++ [83] else []))))) := Lib.hid rfl
  have SW := num_sz (n := m / 604800) (by omega)
  have SD := num_sz (n := m / 86400) (by omega)
  have SH := num_sz (n := m % 86400 / 3600) (by omega)
  have SM := num_sz (n := m % 86400 / 60 % 60) (by omega)
  have SX := num_sz (n := m % 86400 % 60) (by omega)
  have AW := Lib.hid (mk_listR (Lib.decDigits (m / 604800)))
  have AD := Lib.hid (mk_listR (Lib.decDigits (m / 86400)))
  have AH := Lib.hid (mk_listR (Lib.decDigits (m % 86400 / 3600)))
  have AM := Lib.hid (mk_listR (Lib.decDigits (m % 86400 / 60 % 60)))
  have AX := Lib.hid (mk_listR (Lib.decDigits (m % 86400 % 60)))
  have HM1 := Lib.hid (show m = m / 86400 * 86400 + m % 86400 by omega)
  have HM2 := Lib.hid (show m % 86400 = m % 86400 / 3600 * 3600 + m % 86400 / 60 % 60 * 60 + m % 86400 % 60 by omega)
  have bW : m / 604800 ≤ 1000000000 := by omega
  have bD : m / 86400 ≤ 1000000000 := by omega
  have bc : m % 86400 < 86400 := by omega
  have b4 : m % 604800 < 604800 := by omega
  have bH : m % 86400 / 3600 ≤ 24 := by omega
  have b5 : m % 86400 / 60 ≤ 86400 := by omega
  have bM : m % 86400 / 60 % 60 ≤ 60 := by omega
  have bX : m % 86400 % 60 ≤ 60 := by omega
  generalize (⟨(Lib.decDigits (m / 604800)).toArray⟩ : ByteArray) = aW at *
  generalize (⟨(Lib.decDigits (m / 86400)).toArray⟩ : ByteArray) = aD at *
  generalize (⟨(Lib.decDigits (m % 86400 / 3600)).toArray⟩ : ByteArray) = aH at *
  generalize (⟨(Lib.decDigits (m % 86400 / 60 % 60)).toArray⟩ : ByteArray) = aM at *
  generalize (⟨(Lib.decDigits (m % 86400 % 60)).toArray⟩ : ByteArray) = aX at *
  generalize m / 604800 = W0 at *
  generalize m % 604800 = y4 at *
  generalize m % 86400 % 60 = X at *
  generalize m % 86400 / 60 % 60 = M at *
  generalize m % 86400 / 60 = y5 at *
  generalize m % 86400 / 3600 = H at *
  generalize m % 86400 = C at *
  generalize m / 86400 = D at *
  have zP : (⟨#[45, 80]⟩ : ByteArray).size = 2 := rfl
  have zT : (⟨#[84]⟩ : ByteArray).size = 1 := rfl
  have zW : (⟨#[87]⟩ : ByteArray).size = 1 := rfl
  have zD : (⟨#[68]⟩ : ByteArray).size = 1 := rfl
  have zH : (⟨#[72]⟩ : ByteArray).size = 1 := rfl
  have zM : (⟨#[77]⟩ : ByteArray).size = 1 := rfl
  have zX : (⟨#[83]⟩ : ByteArray).size = 1 := rfl
  have i0 : -(m : Int) < 0 := by omega
  have i1 : ¬ 1000000000 < -(m : Int) := by omega
  have i2 : ¬ -(m : Int) < -1000000000 := by omega
  have i3 : - -(m : Int) = (m : Int) := by omega
  by_cases hk : 0 < m ∧ y4 = 0
  · obtain ⟨k1, rfl⟩ := hk
    have k2 : (0 : Int) < (m : Int) := by omega
    have FM := Lib.hid k1
    clear k1
    have no1 : ¬ 9223372036854775807 < ((⟨#[45, 80]⟩ : ByteArray)).size + aW.size := by first | omega | (simp only [ByteArray.size_append]; omega)
    have no2 : ¬ 9223372036854775807 < ((⟨#[45, 80]⟩ : ByteArray) ++ aW).size + 1 := by first | omega | (simp only [ByteArray.size_append]; omega)
    have no3 : ¬ 9223372036854775806 < ((⟨#[45, 80]⟩ : ByteArray) ++ aW).size := by first | omega | (simp only [ByteArray.size_append]; omega)
    have no4 : ¬ 9223372036854775807 ≤ ((⟨#[45, 80]⟩ : ByteArray) ++ aW).size := by first | omega | (simp only [ByteArray.size_append]; omega)
    have no5 : ¬ 9223372036854775807 < ((⟨#[45, 80]⟩ : ByteArray) ++ aW).size + (⟨#[87]⟩ : ByteArray).size := by first | omega | (simp only [ByteArray.size_append]; omega)
    clear zP zT zW zD zH zM zX SW SD SH SM SX
    have zb1 : (0 : Int) ≤ (m : Int) := by omega
    have zb2 : (m : Int) ≤ 1000000000 := by omega
    have zb5 : (0 : Int) ≤ (y5 : Int) := by omega
    have zb6 : (y5 : Int) ≤ 86400 := by omega
    have zb3 : (0 : Int) ≤ (C : Int) := by omega
    have zb4 : (C : Int) < 86400 := by omega
    generalize (m : Int) = z at *
    generalize (C : Int) = zC at *
    generalize (y5 : Int) = z5 at *
    go_enter Tryz.func5, Tryz.ntmps5
    go_wp2_with (first
      | (go_at_call 17; ((with_reducible refine (kW _).mono ?_); rintro e w1 ⟨rfl, hb1⟩; clear kW; have B1 := Lib.hid hb1)))
    go_ret
    refine ⟨?_, B1.out⟩
    show Ending.returned (Value.string _) = Ending.returned (Value.string _)
    congr 2
    apply bytesR
    rw [mk_listR]
    have gFM := FM.out
    simp [HQ.out, AW.out, gFM]
  · have FK := Lib.hid hk
    have hm1 : 0 < m := h0
    have FM := Lib.hid hm1
    have k2 : (0 : Int) < (m : Int) := by omega
    have k3 : ((y4 : Int) == 0) = false := by rw [beq_eq_false_iff_ne]; intro h; exact hk ⟨hm1, by omega⟩
    clear hk
    by_cases hD : D = 0
    · obtain rfl := hD
      have k6 : ¬ 86400 ≤ (m : Int) := by have := HM1.out; omega
      have hC : ¬ C = 0 := by have := HM1.out; omega
      have FC := Lib.hid hC
      have kc : ((C : Int) == 0) = false := by rw [beq_eq_false_iff_ne]; omega
      clear hC hm1
      rcases Nat.eq_zero_or_pos H with qH | qH
      · obtain rfl : H = 0 := by omega
        rcases Nat.eq_zero_or_pos M with qM | qM
        · obtain rfl : M = 0 := by omega
          rcases Nat.eq_zero_or_pos X with qX | qX
          · exfalso; have := HM2.out; have := FC.out; omega
          · have fX1 : (0 : Int) < (X : Int) := by omega
            have FX := Lib.hid (show 0 < X by omega)
            have fX2 : ((X : Int) == 0) = false := by rw [beq_eq_false_iff_ne]; omega
            have FXn := Lib.hid (show ¬ X = 0 by omega)
            clear qX
            have no1 : ¬ 9223372036854775807 < ((⟨#[45, 80]⟩ : ByteArray)).size + 1 := by first | omega | (simp only [ByteArray.size_append]; omega)
            have no2 : ¬ 9223372036854775806 < ((⟨#[45, 80]⟩ : ByteArray)).size := by first | omega | (simp only [ByteArray.size_append]; omega)
            have no3 : ¬ 9223372036854775807 ≤ ((⟨#[45, 80]⟩ : ByteArray)).size := by first | omega | (simp only [ByteArray.size_append]; omega)
            have no4 : ¬ 9223372036854775807 < ((⟨#[45, 80]⟩ : ByteArray)).size + (⟨#[84]⟩ : ByteArray).size := by first | omega | (simp only [ByteArray.size_append]; omega)
            have no5 : ¬ 9223372036854775807 < ((⟨#[45, 80]⟩ : ByteArray) ++ (⟨#[84]⟩ : ByteArray)).size + aX.size := by first | omega | (simp only [ByteArray.size_append]; omega)
            have no6 : ¬ 9223372036854775807 < ((⟨#[45, 80]⟩ : ByteArray) ++ (⟨#[84]⟩ : ByteArray) ++ aX).size + 1 := by first | omega | (simp only [ByteArray.size_append]; omega)
            have no7 : ¬ 9223372036854775806 < ((⟨#[45, 80]⟩ : ByteArray) ++ (⟨#[84]⟩ : ByteArray) ++ aX).size := by first | omega | (simp only [ByteArray.size_append]; omega)
            have no8 : ¬ 9223372036854775807 ≤ ((⟨#[45, 80]⟩ : ByteArray) ++ (⟨#[84]⟩ : ByteArray) ++ aX).size := by first | omega | (simp only [ByteArray.size_append]; omega)
            have no9 : ¬ 9223372036854775807 < ((⟨#[45, 80]⟩ : ByteArray) ++ (⟨#[84]⟩ : ByteArray) ++ aX).size + (⟨#[83]⟩ : ByteArray).size := by first | omega | (simp only [ByteArray.size_append]; omega)
            clear zP zT zW zD zH zM zX SW SD SH SM SX
            have zb1 : (0 : Int) ≤ (m : Int) := by omega
            have zb2 : (m : Int) ≤ 1000000000 := by omega
            have zb5 : (0 : Int) ≤ (y5 : Int) := by omega
            have zb6 : (y5 : Int) ≤ 86400 := by omega
            have zb3 : (0 : Int) ≤ (C : Int) := by omega
            have zb4 : (C : Int) < 86400 := by omega
            generalize (m : Int) = z at *
            generalize (C : Int) = zC at *
            generalize (y5 : Int) = z5 at *
            go_enter Tryz.func5, Tryz.ntmps5
            go_wp2_with (first
              | (go_at_call 17; ((with_reducible refine (kX _).mono ?_); rintro e w1 ⟨rfl, hb1⟩; clear kX; have B1 := Lib.hid hb1)))
            go_ret
            refine ⟨?_, B1.out⟩
            show Ending.returned (Value.string _) = Ending.returned (Value.string _)
            congr 2
            apply bytesR
            rw [mk_listR]
            have gFM := FM.out
            have gFC := FC.out
            have gFK := FK.out
            have gFX := FX.out
            have gFXn := FXn.out
            rw [HQ.out, if_neg FK.out]
            clear gFK
            simp [AX.out, gFM, gFC, gFX]
        · have fM1 : (0 : Int) < (M : Int) := by omega
          have FMp := Lib.hid (show 0 < M by omega)
          have fM2 : ((M : Int) == 0) = false := by rw [beq_eq_false_iff_ne]; omega
          have FMn := Lib.hid (show ¬ M = 0 by omega)
          clear qM
          rcases Nat.eq_zero_or_pos X with qX | qX
          · obtain rfl : X = 0 := by omega
            have no1 : ¬ 9223372036854775807 < ((⟨#[45, 80]⟩ : ByteArray)).size + 1 := by first | omega | (simp only [ByteArray.size_append]; omega)
            have no2 : ¬ 9223372036854775806 < ((⟨#[45, 80]⟩ : ByteArray)).size := by first | omega | (simp only [ByteArray.size_append]; omega)
            have no3 : ¬ 9223372036854775807 ≤ ((⟨#[45, 80]⟩ : ByteArray)).size := by first | omega | (simp only [ByteArray.size_append]; omega)
            have no4 : ¬ 9223372036854775807 < ((⟨#[45, 80]⟩ : ByteArray)).size + (⟨#[84]⟩ : ByteArray).size := by first | omega | (simp only [ByteArray.size_append]; omega)
            have no5 : ¬ 9223372036854775807 < ((⟨#[45, 80]⟩ : ByteArray) ++ (⟨#[84]⟩ : ByteArray)).size + aM.size := by first | omega | (simp only [ByteArray.size_append]; omega)
            have no6 : ¬ 9223372036854775807 < ((⟨#[45, 80]⟩ : ByteArray) ++ (⟨#[84]⟩ : ByteArray) ++ aM).size + 1 := by first | omega | (simp only [ByteArray.size_append]; omega)
            have no7 : ¬ 9223372036854775806 < ((⟨#[45, 80]⟩ : ByteArray) ++ (⟨#[84]⟩ : ByteArray) ++ aM).size := by first | omega | (simp only [ByteArray.size_append]; omega)
            have no8 : ¬ 9223372036854775807 ≤ ((⟨#[45, 80]⟩ : ByteArray) ++ (⟨#[84]⟩ : ByteArray) ++ aM).size := by first | omega | (simp only [ByteArray.size_append]; omega)
            have no9 : ¬ 9223372036854775807 < ((⟨#[45, 80]⟩ : ByteArray) ++ (⟨#[84]⟩ : ByteArray) ++ aM).size + (⟨#[77]⟩ : ByteArray).size := by first | omega | (simp only [ByteArray.size_append]; omega)
            clear zP zT zW zD zH zM zX SW SD SH SM SX
            have zb1 : (0 : Int) ≤ (m : Int) := by omega
            have zb2 : (m : Int) ≤ 1000000000 := by omega
            have zb5 : (0 : Int) ≤ (y5 : Int) := by omega
            have zb6 : (y5 : Int) ≤ 86400 := by omega
            have zb3 : (0 : Int) ≤ (C : Int) := by omega
            have zb4 : (C : Int) < 86400 := by omega
            generalize (m : Int) = z at *
            generalize (C : Int) = zC at *
            generalize (y5 : Int) = z5 at *
            go_enter Tryz.func5, Tryz.ntmps5
            go_wp2_with (first
              | (go_at_call 17; ((with_reducible refine (kM _).mono ?_); rintro e w1 ⟨rfl, hb1⟩; clear kM; have B1 := Lib.hid hb1)))
            go_ret
            refine ⟨?_, B1.out⟩
            show Ending.returned (Value.string _) = Ending.returned (Value.string _)
            congr 2
            apply bytesR
            rw [mk_listR]
            have gFM := FM.out
            have gFC := FC.out
            have gFK := FK.out
            have gFMn := FMn.out
            have gFMp := FMp.out
            rw [HQ.out, if_neg FK.out]
            clear gFK
            simp [AM.out, gFM, gFC, gFMn, gFMp]
          · have fX1 : (0 : Int) < (X : Int) := by omega
            have FX := Lib.hid (show 0 < X by omega)
            have fX2 : ((X : Int) == 0) = false := by rw [beq_eq_false_iff_ne]; omega
            have FXn := Lib.hid (show ¬ X = 0 by omega)
            clear qX
            have no1 : ¬ 9223372036854775807 < ((⟨#[45, 80]⟩ : ByteArray)).size + 1 := by first | omega | (simp only [ByteArray.size_append]; omega)
            have no2 : ¬ 9223372036854775806 < ((⟨#[45, 80]⟩ : ByteArray)).size := by first | omega | (simp only [ByteArray.size_append]; omega)
            have no3 : ¬ 9223372036854775807 ≤ ((⟨#[45, 80]⟩ : ByteArray)).size := by first | omega | (simp only [ByteArray.size_append]; omega)
            have no4 : ¬ 9223372036854775807 < ((⟨#[45, 80]⟩ : ByteArray)).size + (⟨#[84]⟩ : ByteArray).size := by first | omega | (simp only [ByteArray.size_append]; omega)
            have no5 : ¬ 9223372036854775807 < ((⟨#[45, 80]⟩ : ByteArray) ++ (⟨#[84]⟩ : ByteArray)).size + aM.size := by first | omega | (simp only [ByteArray.size_append]; omega)
            have no6 : ¬ 9223372036854775807 < ((⟨#[45, 80]⟩ : ByteArray) ++ (⟨#[84]⟩ : ByteArray) ++ aM).size + 1 := by first | omega | (simp only [ByteArray.size_append]; omega)
            have no7 : ¬ 9223372036854775806 < ((⟨#[45, 80]⟩ : ByteArray) ++ (⟨#[84]⟩ : ByteArray) ++ aM).size := by first | omega | (simp only [ByteArray.size_append]; omega)
            have no8 : ¬ 9223372036854775807 ≤ ((⟨#[45, 80]⟩ : ByteArray) ++ (⟨#[84]⟩ : ByteArray) ++ aM).size := by first | omega | (simp only [ByteArray.size_append]; omega)
            have no9 : ¬ 9223372036854775807 < ((⟨#[45, 80]⟩ : ByteArray) ++ (⟨#[84]⟩ : ByteArray) ++ aM).size + (⟨#[77]⟩ : ByteArray).size := by first | omega | (simp only [ByteArray.size_append]; omega)
            have no10 : ¬ 9223372036854775807 < ((⟨#[45, 80]⟩ : ByteArray) ++ (⟨#[84]⟩ : ByteArray) ++ aM ++ (⟨#[77]⟩ : ByteArray)).size + aX.size := by first | omega | (simp only [ByteArray.size_append]; omega)
            have no11 : ¬ 9223372036854775807 < ((⟨#[45, 80]⟩ : ByteArray) ++ (⟨#[84]⟩ : ByteArray) ++ aM ++ (⟨#[77]⟩ : ByteArray) ++ aX).size + 1 := by first | omega | (simp only [ByteArray.size_append]; omega)
            have no12 : ¬ 9223372036854775806 < ((⟨#[45, 80]⟩ : ByteArray) ++ (⟨#[84]⟩ : ByteArray) ++ aM ++ (⟨#[77]⟩ : ByteArray) ++ aX).size := by first | omega | (simp only [ByteArray.size_append]; omega)
            have no13 : ¬ 9223372036854775807 ≤ ((⟨#[45, 80]⟩ : ByteArray) ++ (⟨#[84]⟩ : ByteArray) ++ aM ++ (⟨#[77]⟩ : ByteArray) ++ aX).size := by first | omega | (simp only [ByteArray.size_append]; omega)
            have no14 : ¬ 9223372036854775807 < ((⟨#[45, 80]⟩ : ByteArray) ++ (⟨#[84]⟩ : ByteArray) ++ aM ++ (⟨#[77]⟩ : ByteArray) ++ aX).size + (⟨#[83]⟩ : ByteArray).size := by first | omega | (simp only [ByteArray.size_append]; omega)
            clear zP zT zW zD zH zM zX SW SD SH SM SX
            have zb1 : (0 : Int) ≤ (m : Int) := by omega
            have zb2 : (m : Int) ≤ 1000000000 := by omega
            have zb5 : (0 : Int) ≤ (y5 : Int) := by omega
            have zb6 : (y5 : Int) ≤ 86400 := by omega
            have zb3 : (0 : Int) ≤ (C : Int) := by omega
            have zb4 : (C : Int) < 86400 := by omega
            generalize (m : Int) = z at *
            generalize (C : Int) = zC at *
            generalize (y5 : Int) = z5 at *
            go_enter Tryz.func5, Tryz.ntmps5
            go_wp2_with (first
              | (go_at_call 17; ((with_reducible refine (kM _).mono ?_); rintro e w1 ⟨rfl, hb1⟩; clear kM; have B1 := Lib.hid hb1))
              | (go_at_call 17; ((with_reducible refine (kX _).mono ?_); rintro e w2 ⟨rfl, hb2⟩; clear kX; have B2 := Lib.hid (bstep B1.out hb2))))
            go_ret
            refine ⟨?_, B2.out⟩
            show Ending.returned (Value.string _) = Ending.returned (Value.string _)
            congr 2
            apply bytesR
            rw [mk_listR]
            have gFM := FM.out
            have gFC := FC.out
            have gFK := FK.out
            have gFX := FX.out
            have gFXn := FXn.out
            have gFMn := FMn.out
            have gFMp := FMp.out
            rw [HQ.out, if_neg FK.out]
            clear gFK
            simp [AM.out, AX.out, gFM, gFC, gFX, gFMn, gFMp]
      · have fH1 : (0 : Int) < (H : Int) := by omega
        have FH := Lib.hid (show 0 < H by omega)
        have fH2 : ((H : Int) == 0) = false := by rw [beq_eq_false_iff_ne]; omega
        have FHn := Lib.hid (show ¬ H = 0 by omega)
        clear qH
        rcases Nat.eq_zero_or_pos M with qM | qM
        · obtain rfl : M = 0 := by omega
          rcases Nat.eq_zero_or_pos X with qX | qX
          · obtain rfl : X = 0 := by omega
            have no1 : ¬ 9223372036854775807 < ((⟨#[45, 80]⟩ : ByteArray)).size + 1 := by first | omega | (simp only [ByteArray.size_append]; omega)
            have no2 : ¬ 9223372036854775806 < ((⟨#[45, 80]⟩ : ByteArray)).size := by first | omega | (simp only [ByteArray.size_append]; omega)
            have no3 : ¬ 9223372036854775807 ≤ ((⟨#[45, 80]⟩ : ByteArray)).size := by first | omega | (simp only [ByteArray.size_append]; omega)
            have no4 : ¬ 9223372036854775807 < ((⟨#[45, 80]⟩ : ByteArray)).size + (⟨#[84]⟩ : ByteArray).size := by first | omega | (simp only [ByteArray.size_append]; omega)
            have no5 : ¬ 9223372036854775807 < ((⟨#[45, 80]⟩ : ByteArray) ++ (⟨#[84]⟩ : ByteArray)).size + aH.size := by first | omega | (simp only [ByteArray.size_append]; omega)
            have no6 : ¬ 9223372036854775807 < ((⟨#[45, 80]⟩ : ByteArray) ++ (⟨#[84]⟩ : ByteArray) ++ aH).size + 1 := by first | omega | (simp only [ByteArray.size_append]; omega)
            have no7 : ¬ 9223372036854775806 < ((⟨#[45, 80]⟩ : ByteArray) ++ (⟨#[84]⟩ : ByteArray) ++ aH).size := by first | omega | (simp only [ByteArray.size_append]; omega)
            have no8 : ¬ 9223372036854775807 ≤ ((⟨#[45, 80]⟩ : ByteArray) ++ (⟨#[84]⟩ : ByteArray) ++ aH).size := by first | omega | (simp only [ByteArray.size_append]; omega)
            have no9 : ¬ 9223372036854775807 < ((⟨#[45, 80]⟩ : ByteArray) ++ (⟨#[84]⟩ : ByteArray) ++ aH).size + (⟨#[72]⟩ : ByteArray).size := by first | omega | (simp only [ByteArray.size_append]; omega)
            clear zP zT zW zD zH zM zX SW SD SH SM SX
            have zb1 : (0 : Int) ≤ (m : Int) := by omega
            have zb2 : (m : Int) ≤ 1000000000 := by omega
            have zb5 : (0 : Int) ≤ (y5 : Int) := by omega
            have zb6 : (y5 : Int) ≤ 86400 := by omega
            have zb3 : (0 : Int) ≤ (C : Int) := by omega
            have zb4 : (C : Int) < 86400 := by omega
            generalize (m : Int) = z at *
            generalize (C : Int) = zC at *
            generalize (y5 : Int) = z5 at *
            go_enter Tryz.func5, Tryz.ntmps5
            go_wp2_with (first
              | (go_at_call 17; ((with_reducible refine (kH _).mono ?_); rintro e w1 ⟨rfl, hb1⟩; clear kH; have B1 := Lib.hid hb1)))
            go_ret
            refine ⟨?_, B1.out⟩
            show Ending.returned (Value.string _) = Ending.returned (Value.string _)
            congr 2
            apply bytesR
            rw [mk_listR]
            have gFM := FM.out
            have gFC := FC.out
            have gFK := FK.out
            have gFH := FH.out
            have gFHn := FHn.out
            rw [HQ.out, if_neg FK.out]
            clear gFK
            simp [AH.out, gFM, gFC, gFH, gFHn]
          · have fX1 : (0 : Int) < (X : Int) := by omega
            have FX := Lib.hid (show 0 < X by omega)
            have fX2 : ((X : Int) == 0) = false := by rw [beq_eq_false_iff_ne]; omega
            have FXn := Lib.hid (show ¬ X = 0 by omega)
            clear qX
            replace kM : ∀ W, Calls Tryz.prog 17 #[.int .i64 0] W fun e w' => e = .returned (.string aM) ∧ Below W.heap.size W w' := kM
            have no1 : ¬ 9223372036854775807 < ((⟨#[45, 80]⟩ : ByteArray)).size + 1 := by first | omega | (simp only [ByteArray.size_append]; omega)
            have no2 : ¬ 9223372036854775806 < ((⟨#[45, 80]⟩ : ByteArray)).size := by first | omega | (simp only [ByteArray.size_append]; omega)
            have no3 : ¬ 9223372036854775807 ≤ ((⟨#[45, 80]⟩ : ByteArray)).size := by first | omega | (simp only [ByteArray.size_append]; omega)
            have no4 : ¬ 9223372036854775807 < ((⟨#[45, 80]⟩ : ByteArray)).size + (⟨#[84]⟩ : ByteArray).size := by first | omega | (simp only [ByteArray.size_append]; omega)
            have no5 : ¬ 9223372036854775807 < ((⟨#[45, 80]⟩ : ByteArray) ++ (⟨#[84]⟩ : ByteArray)).size + aH.size := by first | omega | (simp only [ByteArray.size_append]; omega)
            have no6 : ¬ 9223372036854775807 < ((⟨#[45, 80]⟩ : ByteArray) ++ (⟨#[84]⟩ : ByteArray) ++ aH).size + 1 := by first | omega | (simp only [ByteArray.size_append]; omega)
            have no7 : ¬ 9223372036854775806 < ((⟨#[45, 80]⟩ : ByteArray) ++ (⟨#[84]⟩ : ByteArray) ++ aH).size := by first | omega | (simp only [ByteArray.size_append]; omega)
            have no8 : ¬ 9223372036854775807 ≤ ((⟨#[45, 80]⟩ : ByteArray) ++ (⟨#[84]⟩ : ByteArray) ++ aH).size := by first | omega | (simp only [ByteArray.size_append]; omega)
            have no9 : ¬ 9223372036854775807 < ((⟨#[45, 80]⟩ : ByteArray) ++ (⟨#[84]⟩ : ByteArray) ++ aH).size + (⟨#[72]⟩ : ByteArray).size := by first | omega | (simp only [ByteArray.size_append]; omega)
            have no10 : ¬ 9223372036854775807 < ((⟨#[45, 80]⟩ : ByteArray) ++ (⟨#[84]⟩ : ByteArray) ++ aH ++ (⟨#[72]⟩ : ByteArray)).size + aM.size := by first | omega | (simp only [ByteArray.size_append]; omega)
            have no11 : ¬ 9223372036854775807 < ((⟨#[45, 80]⟩ : ByteArray) ++ (⟨#[84]⟩ : ByteArray) ++ aH ++ (⟨#[72]⟩ : ByteArray) ++ aM).size + 1 := by first | omega | (simp only [ByteArray.size_append]; omega)
            have no12 : ¬ 9223372036854775806 < ((⟨#[45, 80]⟩ : ByteArray) ++ (⟨#[84]⟩ : ByteArray) ++ aH ++ (⟨#[72]⟩ : ByteArray) ++ aM).size := by first | omega | (simp only [ByteArray.size_append]; omega)
            have no13 : ¬ 9223372036854775807 ≤ ((⟨#[45, 80]⟩ : ByteArray) ++ (⟨#[84]⟩ : ByteArray) ++ aH ++ (⟨#[72]⟩ : ByteArray) ++ aM).size := by first | omega | (simp only [ByteArray.size_append]; omega)
            have no14 : ¬ 9223372036854775807 < ((⟨#[45, 80]⟩ : ByteArray) ++ (⟨#[84]⟩ : ByteArray) ++ aH ++ (⟨#[72]⟩ : ByteArray) ++ aM).size + (⟨#[77]⟩ : ByteArray).size := by first | omega | (simp only [ByteArray.size_append]; omega)
            have no15 : ¬ 9223372036854775807 < ((⟨#[45, 80]⟩ : ByteArray) ++ (⟨#[84]⟩ : ByteArray) ++ aH ++ (⟨#[72]⟩ : ByteArray) ++ aM ++ (⟨#[77]⟩ : ByteArray)).size + aX.size := by first | omega | (simp only [ByteArray.size_append]; omega)
            have no16 : ¬ 9223372036854775807 < ((⟨#[45, 80]⟩ : ByteArray) ++ (⟨#[84]⟩ : ByteArray) ++ aH ++ (⟨#[72]⟩ : ByteArray) ++ aM ++ (⟨#[77]⟩ : ByteArray) ++ aX).size + 1 := by first | omega | (simp only [ByteArray.size_append]; omega)
            have no17 : ¬ 9223372036854775806 < ((⟨#[45, 80]⟩ : ByteArray) ++ (⟨#[84]⟩ : ByteArray) ++ aH ++ (⟨#[72]⟩ : ByteArray) ++ aM ++ (⟨#[77]⟩ : ByteArray) ++ aX).size := by first | omega | (simp only [ByteArray.size_append]; omega)
            have no18 : ¬ 9223372036854775807 ≤ ((⟨#[45, 80]⟩ : ByteArray) ++ (⟨#[84]⟩ : ByteArray) ++ aH ++ (⟨#[72]⟩ : ByteArray) ++ aM ++ (⟨#[77]⟩ : ByteArray) ++ aX).size := by first | omega | (simp only [ByteArray.size_append]; omega)
            have no19 : ¬ 9223372036854775807 < ((⟨#[45, 80]⟩ : ByteArray) ++ (⟨#[84]⟩ : ByteArray) ++ aH ++ (⟨#[72]⟩ : ByteArray) ++ aM ++ (⟨#[77]⟩ : ByteArray) ++ aX).size + (⟨#[83]⟩ : ByteArray).size := by first | omega | (simp only [ByteArray.size_append]; omega)
            clear zP zT zW zD zH zM zX SW SD SH SM SX
            have zb1 : (0 : Int) ≤ (m : Int) := by omega
            have zb2 : (m : Int) ≤ 1000000000 := by omega
            have zb5 : (0 : Int) ≤ (y5 : Int) := by omega
            have zb6 : (y5 : Int) ≤ 86400 := by omega
            have zb3 : (0 : Int) ≤ (C : Int) := by omega
            have zb4 : (C : Int) < 86400 := by omega
            generalize (m : Int) = z at *
            generalize (C : Int) = zC at *
            generalize (y5 : Int) = z5 at *
            go_enter Tryz.func5, Tryz.ntmps5
            go_wp2_with (first
              | (go_at_call 17; ((with_reducible refine (kH _).mono ?_); rintro e w1 ⟨rfl, hb1⟩; clear kH; have B1 := Lib.hid hb1))
              | (go_at_call 17; ((with_reducible refine (kM _).mono ?_); rintro e w2 ⟨rfl, hb2⟩; clear kM; have B2 := Lib.hid (bstep B1.out hb2)))
              | (go_at_call 17; ((with_reducible refine (kX _).mono ?_); rintro e w3 ⟨rfl, hb3⟩; clear kX; have B3 := Lib.hid (bstep B2.out hb3))))
            go_ret
            refine ⟨?_, B3.out⟩
            show Ending.returned (Value.string _) = Ending.returned (Value.string _)
            congr 2
            apply bytesR
            rw [mk_listR]
            have gFM := FM.out
            have gFC := FC.out
            have gFK := FK.out
            have gFH := FH.out
            have gFHn := FHn.out
            have gFX := FX.out
            have gFXn := FXn.out
            rw [HQ.out, if_neg FK.out]
            clear gFK
            simp [AH.out, AM.out, AX.out, gFM, gFC, gFH, gFHn, gFX]
        · have fM1 : (0 : Int) < (M : Int) := by omega
          have FMp := Lib.hid (show 0 < M by omega)
          have fM2 : ((M : Int) == 0) = false := by rw [beq_eq_false_iff_ne]; omega
          have FMn := Lib.hid (show ¬ M = 0 by omega)
          clear qM
          rcases Nat.eq_zero_or_pos X with qX | qX
          · obtain rfl : X = 0 := by omega
            have no1 : ¬ 9223372036854775807 < ((⟨#[45, 80]⟩ : ByteArray)).size + 1 := by first | omega | (simp only [ByteArray.size_append]; omega)
            have no2 : ¬ 9223372036854775806 < ((⟨#[45, 80]⟩ : ByteArray)).size := by first | omega | (simp only [ByteArray.size_append]; omega)
            have no3 : ¬ 9223372036854775807 ≤ ((⟨#[45, 80]⟩ : ByteArray)).size := by first | omega | (simp only [ByteArray.size_append]; omega)
            have no4 : ¬ 9223372036854775807 < ((⟨#[45, 80]⟩ : ByteArray)).size + (⟨#[84]⟩ : ByteArray).size := by first | omega | (simp only [ByteArray.size_append]; omega)
            have no5 : ¬ 9223372036854775807 < ((⟨#[45, 80]⟩ : ByteArray) ++ (⟨#[84]⟩ : ByteArray)).size + aH.size := by first | omega | (simp only [ByteArray.size_append]; omega)
            have no6 : ¬ 9223372036854775807 < ((⟨#[45, 80]⟩ : ByteArray) ++ (⟨#[84]⟩ : ByteArray) ++ aH).size + 1 := by first | omega | (simp only [ByteArray.size_append]; omega)
            have no7 : ¬ 9223372036854775806 < ((⟨#[45, 80]⟩ : ByteArray) ++ (⟨#[84]⟩ : ByteArray) ++ aH).size := by first | omega | (simp only [ByteArray.size_append]; omega)
            have no8 : ¬ 9223372036854775807 ≤ ((⟨#[45, 80]⟩ : ByteArray) ++ (⟨#[84]⟩ : ByteArray) ++ aH).size := by first | omega | (simp only [ByteArray.size_append]; omega)
            have no9 : ¬ 9223372036854775807 < ((⟨#[45, 80]⟩ : ByteArray) ++ (⟨#[84]⟩ : ByteArray) ++ aH).size + (⟨#[72]⟩ : ByteArray).size := by first | omega | (simp only [ByteArray.size_append]; omega)
            have no10 : ¬ 9223372036854775807 < ((⟨#[45, 80]⟩ : ByteArray) ++ (⟨#[84]⟩ : ByteArray) ++ aH ++ (⟨#[72]⟩ : ByteArray)).size + aM.size := by first | omega | (simp only [ByteArray.size_append]; omega)
            have no11 : ¬ 9223372036854775807 < ((⟨#[45, 80]⟩ : ByteArray) ++ (⟨#[84]⟩ : ByteArray) ++ aH ++ (⟨#[72]⟩ : ByteArray) ++ aM).size + 1 := by first | omega | (simp only [ByteArray.size_append]; omega)
            have no12 : ¬ 9223372036854775806 < ((⟨#[45, 80]⟩ : ByteArray) ++ (⟨#[84]⟩ : ByteArray) ++ aH ++ (⟨#[72]⟩ : ByteArray) ++ aM).size := by first | omega | (simp only [ByteArray.size_append]; omega)
            have no13 : ¬ 9223372036854775807 ≤ ((⟨#[45, 80]⟩ : ByteArray) ++ (⟨#[84]⟩ : ByteArray) ++ aH ++ (⟨#[72]⟩ : ByteArray) ++ aM).size := by first | omega | (simp only [ByteArray.size_append]; omega)
            have no14 : ¬ 9223372036854775807 < ((⟨#[45, 80]⟩ : ByteArray) ++ (⟨#[84]⟩ : ByteArray) ++ aH ++ (⟨#[72]⟩ : ByteArray) ++ aM).size + (⟨#[77]⟩ : ByteArray).size := by first | omega | (simp only [ByteArray.size_append]; omega)
            clear zP zT zW zD zH zM zX SW SD SH SM SX
            have zb1 : (0 : Int) ≤ (m : Int) := by omega
            have zb2 : (m : Int) ≤ 1000000000 := by omega
            have zb5 : (0 : Int) ≤ (y5 : Int) := by omega
            have zb6 : (y5 : Int) ≤ 86400 := by omega
            have zb3 : (0 : Int) ≤ (C : Int) := by omega
            have zb4 : (C : Int) < 86400 := by omega
            generalize (m : Int) = z at *
            generalize (C : Int) = zC at *
            generalize (y5 : Int) = z5 at *
            go_enter Tryz.func5, Tryz.ntmps5
            go_wp2_with (first
              | (go_at_call 17; ((with_reducible refine (kH _).mono ?_); rintro e w1 ⟨rfl, hb1⟩; clear kH; have B1 := Lib.hid hb1))
              | (go_at_call 17; ((with_reducible refine (kM _).mono ?_); rintro e w2 ⟨rfl, hb2⟩; clear kM; have B2 := Lib.hid (bstep B1.out hb2))))
            go_ret
            refine ⟨?_, B2.out⟩
            show Ending.returned (Value.string _) = Ending.returned (Value.string _)
            congr 2
            apply bytesR
            rw [mk_listR]
            have gFM := FM.out
            have gFC := FC.out
            have gFK := FK.out
            have gFH := FH.out
            have gFHn := FHn.out
            have gFMn := FMn.out
            have gFMp := FMp.out
            rw [HQ.out, if_neg FK.out]
            clear gFK
            simp [AH.out, AM.out, gFM, gFC, gFH, gFHn, gFMn, gFMp]
          · have fX1 : (0 : Int) < (X : Int) := by omega
            have FX := Lib.hid (show 0 < X by omega)
            have fX2 : ((X : Int) == 0) = false := by rw [beq_eq_false_iff_ne]; omega
            have FXn := Lib.hid (show ¬ X = 0 by omega)
            clear qX
            have no1 : ¬ 9223372036854775807 < ((⟨#[45, 80]⟩ : ByteArray)).size + 1 := by first | omega | (simp only [ByteArray.size_append]; omega)
            have no2 : ¬ 9223372036854775806 < ((⟨#[45, 80]⟩ : ByteArray)).size := by first | omega | (simp only [ByteArray.size_append]; omega)
            have no3 : ¬ 9223372036854775807 ≤ ((⟨#[45, 80]⟩ : ByteArray)).size := by first | omega | (simp only [ByteArray.size_append]; omega)
            have no4 : ¬ 9223372036854775807 < ((⟨#[45, 80]⟩ : ByteArray)).size + (⟨#[84]⟩ : ByteArray).size := by first | omega | (simp only [ByteArray.size_append]; omega)
            have no5 : ¬ 9223372036854775807 < ((⟨#[45, 80]⟩ : ByteArray) ++ (⟨#[84]⟩ : ByteArray)).size + aH.size := by first | omega | (simp only [ByteArray.size_append]; omega)
            have no6 : ¬ 9223372036854775807 < ((⟨#[45, 80]⟩ : ByteArray) ++ (⟨#[84]⟩ : ByteArray) ++ aH).size + 1 := by first | omega | (simp only [ByteArray.size_append]; omega)
            have no7 : ¬ 9223372036854775806 < ((⟨#[45, 80]⟩ : ByteArray) ++ (⟨#[84]⟩ : ByteArray) ++ aH).size := by first | omega | (simp only [ByteArray.size_append]; omega)
            have no8 : ¬ 9223372036854775807 ≤ ((⟨#[45, 80]⟩ : ByteArray) ++ (⟨#[84]⟩ : ByteArray) ++ aH).size := by first | omega | (simp only [ByteArray.size_append]; omega)
            have no9 : ¬ 9223372036854775807 < ((⟨#[45, 80]⟩ : ByteArray) ++ (⟨#[84]⟩ : ByteArray) ++ aH).size + (⟨#[72]⟩ : ByteArray).size := by first | omega | (simp only [ByteArray.size_append]; omega)
            have no10 : ¬ 9223372036854775807 < ((⟨#[45, 80]⟩ : ByteArray) ++ (⟨#[84]⟩ : ByteArray) ++ aH ++ (⟨#[72]⟩ : ByteArray)).size + aM.size := by first | omega | (simp only [ByteArray.size_append]; omega)
            have no11 : ¬ 9223372036854775807 < ((⟨#[45, 80]⟩ : ByteArray) ++ (⟨#[84]⟩ : ByteArray) ++ aH ++ (⟨#[72]⟩ : ByteArray) ++ aM).size + 1 := by first | omega | (simp only [ByteArray.size_append]; omega)
            have no12 : ¬ 9223372036854775806 < ((⟨#[45, 80]⟩ : ByteArray) ++ (⟨#[84]⟩ : ByteArray) ++ aH ++ (⟨#[72]⟩ : ByteArray) ++ aM).size := by first | omega | (simp only [ByteArray.size_append]; omega)
            have no13 : ¬ 9223372036854775807 ≤ ((⟨#[45, 80]⟩ : ByteArray) ++ (⟨#[84]⟩ : ByteArray) ++ aH ++ (⟨#[72]⟩ : ByteArray) ++ aM).size := by first | omega | (simp only [ByteArray.size_append]; omega)
            have no14 : ¬ 9223372036854775807 < ((⟨#[45, 80]⟩ : ByteArray) ++ (⟨#[84]⟩ : ByteArray) ++ aH ++ (⟨#[72]⟩ : ByteArray) ++ aM).size + (⟨#[77]⟩ : ByteArray).size := by first | omega | (simp only [ByteArray.size_append]; omega)
            have no15 : ¬ 9223372036854775807 < ((⟨#[45, 80]⟩ : ByteArray) ++ (⟨#[84]⟩ : ByteArray) ++ aH ++ (⟨#[72]⟩ : ByteArray) ++ aM ++ (⟨#[77]⟩ : ByteArray)).size + aX.size := by first | omega | (simp only [ByteArray.size_append]; omega)
            have no16 : ¬ 9223372036854775807 < ((⟨#[45, 80]⟩ : ByteArray) ++ (⟨#[84]⟩ : ByteArray) ++ aH ++ (⟨#[72]⟩ : ByteArray) ++ aM ++ (⟨#[77]⟩ : ByteArray) ++ aX).size + 1 := by first | omega | (simp only [ByteArray.size_append]; omega)
            have no17 : ¬ 9223372036854775806 < ((⟨#[45, 80]⟩ : ByteArray) ++ (⟨#[84]⟩ : ByteArray) ++ aH ++ (⟨#[72]⟩ : ByteArray) ++ aM ++ (⟨#[77]⟩ : ByteArray) ++ aX).size := by first | omega | (simp only [ByteArray.size_append]; omega)
            have no18 : ¬ 9223372036854775807 ≤ ((⟨#[45, 80]⟩ : ByteArray) ++ (⟨#[84]⟩ : ByteArray) ++ aH ++ (⟨#[72]⟩ : ByteArray) ++ aM ++ (⟨#[77]⟩ : ByteArray) ++ aX).size := by first | omega | (simp only [ByteArray.size_append]; omega)
            have no19 : ¬ 9223372036854775807 < ((⟨#[45, 80]⟩ : ByteArray) ++ (⟨#[84]⟩ : ByteArray) ++ aH ++ (⟨#[72]⟩ : ByteArray) ++ aM ++ (⟨#[77]⟩ : ByteArray) ++ aX).size + (⟨#[83]⟩ : ByteArray).size := by first | omega | (simp only [ByteArray.size_append]; omega)
            clear zP zT zW zD zH zM zX SW SD SH SM SX
            have zb1 : (0 : Int) ≤ (m : Int) := by omega
            have zb2 : (m : Int) ≤ 1000000000 := by omega
            have zb5 : (0 : Int) ≤ (y5 : Int) := by omega
            have zb6 : (y5 : Int) ≤ 86400 := by omega
            have zb3 : (0 : Int) ≤ (C : Int) := by omega
            have zb4 : (C : Int) < 86400 := by omega
            generalize (m : Int) = z at *
            generalize (C : Int) = zC at *
            generalize (y5 : Int) = z5 at *
            go_enter Tryz.func5, Tryz.ntmps5
            go_wp2_with (first
              | (go_at_call 17; ((with_reducible refine (kH _).mono ?_); rintro e w1 ⟨rfl, hb1⟩; clear kH; have B1 := Lib.hid hb1))
              | (go_at_call 17; ((with_reducible refine (kM _).mono ?_); rintro e w2 ⟨rfl, hb2⟩; clear kM; have B2 := Lib.hid (bstep B1.out hb2)))
              | (go_at_call 17; ((with_reducible refine (kX _).mono ?_); rintro e w3 ⟨rfl, hb3⟩; clear kX; have B3 := Lib.hid (bstep B2.out hb3))))
            go_ret
            refine ⟨?_, B3.out⟩
            show Ending.returned (Value.string _) = Ending.returned (Value.string _)
            congr 2
            apply bytesR
            rw [mk_listR]
            have gFM := FM.out
            have gFC := FC.out
            have gFK := FK.out
            have gFH := FH.out
            have gFHn := FHn.out
            have gFX := FX.out
            have gFXn := FXn.out
            have gFMn := FMn.out
            have gFMp := FMp.out
            rw [HQ.out, if_neg FK.out]
            clear gFK
            simp [AH.out, AM.out, AX.out, gFM, gFC, gFH, gFHn, gFX, gFMn, gFMp]
    · have kd : (0 : Int) < (D : Int) := by omega
      have FD := Lib.hid (show 0 < D by omega)
      have FDn := Lib.hid hD
      have k6 : 86400 ≤ (m : Int) := by have := HM1.out; omega
      clear hD
      by_cases hC : C = 0
      · obtain rfl := hC
        clear hm1
        have no1 : ¬ 9223372036854775807 < ((⟨#[45, 80]⟩ : ByteArray)).size + aD.size := by first | omega | (simp only [ByteArray.size_append]; omega)
        have no2 : ¬ 9223372036854775807 < ((⟨#[45, 80]⟩ : ByteArray) ++ aD).size + 1 := by first | omega | (simp only [ByteArray.size_append]; omega)
        have no3 : ¬ 9223372036854775806 < ((⟨#[45, 80]⟩ : ByteArray) ++ aD).size := by first | omega | (simp only [ByteArray.size_append]; omega)
        have no4 : ¬ 9223372036854775807 ≤ ((⟨#[45, 80]⟩ : ByteArray) ++ aD).size := by first | omega | (simp only [ByteArray.size_append]; omega)
        have no5 : ¬ 9223372036854775807 < ((⟨#[45, 80]⟩ : ByteArray) ++ aD).size + (⟨#[68]⟩ : ByteArray).size := by first | omega | (simp only [ByteArray.size_append]; omega)
        clear zP zT zW zD zH zM zX SW SD SH SM SX
        have zb1 : (0 : Int) ≤ (m : Int) := by omega
        have zb2 : (m : Int) ≤ 1000000000 := by omega
        have zb5 : (0 : Int) ≤ (y5 : Int) := by omega
        have zb6 : (y5 : Int) ≤ 86400 := by omega
        generalize (m : Int) = z at *
        generalize (y5 : Int) = z5 at *
        go_enter Tryz.func5, Tryz.ntmps5
        go_wp2_with (first
          | (go_at_call 17; ((with_reducible refine (kD _).mono ?_); rintro e w1 ⟨rfl, hb1⟩; clear kD; have B1 := Lib.hid hb1)))
        go_ret
        refine ⟨?_, B1.out⟩
        show Ending.returned (Value.string _) = Ending.returned (Value.string _)
        congr 2
        apply bytesR
        rw [mk_listR]
        have gFM := FM.out
        have gFK := FK.out
        have gFD := FD.out
        have gFDn := FDn.out
        rw [HQ.out, if_neg FK.out]
        clear gFK
        simp [AD.out, gFM, gFD]
      · have FC := Lib.hid hC
        have kc : ((C : Int) == 0) = false := by rw [beq_eq_false_iff_ne]; omega
        clear hC hm1
        rcases Nat.eq_zero_or_pos H with qH | qH
        · obtain rfl : H = 0 := by omega
          rcases Nat.eq_zero_or_pos M with qM | qM
          · obtain rfl : M = 0 := by omega
            rcases Nat.eq_zero_or_pos X with qX | qX
            · exfalso; have := HM2.out; have := FC.out; omega
            · have fX1 : (0 : Int) < (X : Int) := by omega
              have FX := Lib.hid (show 0 < X by omega)
              have fX2 : ((X : Int) == 0) = false := by rw [beq_eq_false_iff_ne]; omega
              have FXn := Lib.hid (show ¬ X = 0 by omega)
              clear qX
              have no1 : ¬ 9223372036854775807 < ((⟨#[45, 80]⟩ : ByteArray)).size + aD.size := by first | omega | (simp only [ByteArray.size_append]; omega)
              have no2 : ¬ 9223372036854775807 < ((⟨#[45, 80]⟩ : ByteArray) ++ aD).size + 1 := by first | omega | (simp only [ByteArray.size_append]; omega)
              have no3 : ¬ 9223372036854775806 < ((⟨#[45, 80]⟩ : ByteArray) ++ aD).size := by first | omega | (simp only [ByteArray.size_append]; omega)
              have no4 : ¬ 9223372036854775807 ≤ ((⟨#[45, 80]⟩ : ByteArray) ++ aD).size := by first | omega | (simp only [ByteArray.size_append]; omega)
              have no5 : ¬ 9223372036854775807 < ((⟨#[45, 80]⟩ : ByteArray) ++ aD).size + (⟨#[68]⟩ : ByteArray).size := by first | omega | (simp only [ByteArray.size_append]; omega)
              have no6 : ¬ 9223372036854775807 < ((⟨#[45, 80]⟩ : ByteArray) ++ aD ++ (⟨#[68]⟩ : ByteArray)).size + 1 := by first | omega | (simp only [ByteArray.size_append]; omega)
              have no7 : ¬ 9223372036854775806 < ((⟨#[45, 80]⟩ : ByteArray) ++ aD ++ (⟨#[68]⟩ : ByteArray)).size := by first | omega | (simp only [ByteArray.size_append]; omega)
              have no8 : ¬ 9223372036854775807 ≤ ((⟨#[45, 80]⟩ : ByteArray) ++ aD ++ (⟨#[68]⟩ : ByteArray)).size := by first | omega | (simp only [ByteArray.size_append]; omega)
              have no9 : ¬ 9223372036854775807 < ((⟨#[45, 80]⟩ : ByteArray) ++ aD ++ (⟨#[68]⟩ : ByteArray)).size + (⟨#[84]⟩ : ByteArray).size := by first | omega | (simp only [ByteArray.size_append]; omega)
              have no10 : ¬ 9223372036854775807 < ((⟨#[45, 80]⟩ : ByteArray) ++ aD ++ (⟨#[68]⟩ : ByteArray) ++ (⟨#[84]⟩ : ByteArray)).size + aX.size := by first | omega | (simp only [ByteArray.size_append]; omega)
              have no11 : ¬ 9223372036854775807 < ((⟨#[45, 80]⟩ : ByteArray) ++ aD ++ (⟨#[68]⟩ : ByteArray) ++ (⟨#[84]⟩ : ByteArray) ++ aX).size + 1 := by first | omega | (simp only [ByteArray.size_append]; omega)
              have no12 : ¬ 9223372036854775806 < ((⟨#[45, 80]⟩ : ByteArray) ++ aD ++ (⟨#[68]⟩ : ByteArray) ++ (⟨#[84]⟩ : ByteArray) ++ aX).size := by first | omega | (simp only [ByteArray.size_append]; omega)
              have no13 : ¬ 9223372036854775807 ≤ ((⟨#[45, 80]⟩ : ByteArray) ++ aD ++ (⟨#[68]⟩ : ByteArray) ++ (⟨#[84]⟩ : ByteArray) ++ aX).size := by first | omega | (simp only [ByteArray.size_append]; omega)
              have no14 : ¬ 9223372036854775807 < ((⟨#[45, 80]⟩ : ByteArray) ++ aD ++ (⟨#[68]⟩ : ByteArray) ++ (⟨#[84]⟩ : ByteArray) ++ aX).size + (⟨#[83]⟩ : ByteArray).size := by first | omega | (simp only [ByteArray.size_append]; omega)
              clear zP zT zW zD zH zM zX SW SD SH SM SX
              have zb1 : (0 : Int) ≤ (m : Int) := by omega
              have zb2 : (m : Int) ≤ 1000000000 := by omega
              have zb5 : (0 : Int) ≤ (y5 : Int) := by omega
              have zb6 : (y5 : Int) ≤ 86400 := by omega
              have zb3 : (0 : Int) ≤ (C : Int) := by omega
              have zb4 : (C : Int) < 86400 := by omega
              generalize (m : Int) = z at *
              generalize (C : Int) = zC at *
              generalize (y5 : Int) = z5 at *
              go_enter Tryz.func5, Tryz.ntmps5
              go_wp2_with (first
                | (go_at_call 17; ((with_reducible refine (kD _).mono ?_); rintro e w1 ⟨rfl, hb1⟩; clear kD; have B1 := Lib.hid hb1))
                | (go_at_call 17; ((with_reducible refine (kX _).mono ?_); rintro e w2 ⟨rfl, hb2⟩; clear kX; have B2 := Lib.hid (bstep B1.out hb2))))
              go_ret
              refine ⟨?_, B2.out⟩
              show Ending.returned (Value.string _) = Ending.returned (Value.string _)
              congr 2
              apply bytesR
              rw [mk_listR]
              have gFM := FM.out
              have gFC := FC.out
              have gFK := FK.out
              have gFD := FD.out
              have gFDn := FDn.out
              have gFX := FX.out
              have gFXn := FXn.out
              rw [HQ.out, if_neg FK.out]
              clear gFK
              simp [AD.out, AX.out, gFM, gFC, gFD, gFX]
          · have fM1 : (0 : Int) < (M : Int) := by omega
            have FMp := Lib.hid (show 0 < M by omega)
            have fM2 : ((M : Int) == 0) = false := by rw [beq_eq_false_iff_ne]; omega
            have FMn := Lib.hid (show ¬ M = 0 by omega)
            clear qM
            rcases Nat.eq_zero_or_pos X with qX | qX
            · obtain rfl : X = 0 := by omega
              have no1 : ¬ 9223372036854775807 < ((⟨#[45, 80]⟩ : ByteArray)).size + aD.size := by first | omega | (simp only [ByteArray.size_append]; omega)
              have no2 : ¬ 9223372036854775807 < ((⟨#[45, 80]⟩ : ByteArray) ++ aD).size + 1 := by first | omega | (simp only [ByteArray.size_append]; omega)
              have no3 : ¬ 9223372036854775806 < ((⟨#[45, 80]⟩ : ByteArray) ++ aD).size := by first | omega | (simp only [ByteArray.size_append]; omega)
              have no4 : ¬ 9223372036854775807 ≤ ((⟨#[45, 80]⟩ : ByteArray) ++ aD).size := by first | omega | (simp only [ByteArray.size_append]; omega)
              have no5 : ¬ 9223372036854775807 < ((⟨#[45, 80]⟩ : ByteArray) ++ aD).size + (⟨#[68]⟩ : ByteArray).size := by first | omega | (simp only [ByteArray.size_append]; omega)
              have no6 : ¬ 9223372036854775807 < ((⟨#[45, 80]⟩ : ByteArray) ++ aD ++ (⟨#[68]⟩ : ByteArray)).size + 1 := by first | omega | (simp only [ByteArray.size_append]; omega)
              have no7 : ¬ 9223372036854775806 < ((⟨#[45, 80]⟩ : ByteArray) ++ aD ++ (⟨#[68]⟩ : ByteArray)).size := by first | omega | (simp only [ByteArray.size_append]; omega)
              have no8 : ¬ 9223372036854775807 ≤ ((⟨#[45, 80]⟩ : ByteArray) ++ aD ++ (⟨#[68]⟩ : ByteArray)).size := by first | omega | (simp only [ByteArray.size_append]; omega)
              have no9 : ¬ 9223372036854775807 < ((⟨#[45, 80]⟩ : ByteArray) ++ aD ++ (⟨#[68]⟩ : ByteArray)).size + (⟨#[84]⟩ : ByteArray).size := by first | omega | (simp only [ByteArray.size_append]; omega)
              have no10 : ¬ 9223372036854775807 < ((⟨#[45, 80]⟩ : ByteArray) ++ aD ++ (⟨#[68]⟩ : ByteArray) ++ (⟨#[84]⟩ : ByteArray)).size + aM.size := by first | omega | (simp only [ByteArray.size_append]; omega)
              have no11 : ¬ 9223372036854775807 < ((⟨#[45, 80]⟩ : ByteArray) ++ aD ++ (⟨#[68]⟩ : ByteArray) ++ (⟨#[84]⟩ : ByteArray) ++ aM).size + 1 := by first | omega | (simp only [ByteArray.size_append]; omega)
              have no12 : ¬ 9223372036854775806 < ((⟨#[45, 80]⟩ : ByteArray) ++ aD ++ (⟨#[68]⟩ : ByteArray) ++ (⟨#[84]⟩ : ByteArray) ++ aM).size := by first | omega | (simp only [ByteArray.size_append]; omega)
              have no13 : ¬ 9223372036854775807 ≤ ((⟨#[45, 80]⟩ : ByteArray) ++ aD ++ (⟨#[68]⟩ : ByteArray) ++ (⟨#[84]⟩ : ByteArray) ++ aM).size := by first | omega | (simp only [ByteArray.size_append]; omega)
              have no14 : ¬ 9223372036854775807 < ((⟨#[45, 80]⟩ : ByteArray) ++ aD ++ (⟨#[68]⟩ : ByteArray) ++ (⟨#[84]⟩ : ByteArray) ++ aM).size + (⟨#[77]⟩ : ByteArray).size := by first | omega | (simp only [ByteArray.size_append]; omega)
              clear zP zT zW zD zH zM zX SW SD SH SM SX
              have zb1 : (0 : Int) ≤ (m : Int) := by omega
              have zb2 : (m : Int) ≤ 1000000000 := by omega
              have zb5 : (0 : Int) ≤ (y5 : Int) := by omega
              have zb6 : (y5 : Int) ≤ 86400 := by omega
              have zb3 : (0 : Int) ≤ (C : Int) := by omega
              have zb4 : (C : Int) < 86400 := by omega
              generalize (m : Int) = z at *
              generalize (C : Int) = zC at *
              generalize (y5 : Int) = z5 at *
              go_enter Tryz.func5, Tryz.ntmps5
              go_wp2_with (first
                | (go_at_call 17; ((with_reducible refine (kD _).mono ?_); rintro e w1 ⟨rfl, hb1⟩; clear kD; have B1 := Lib.hid hb1))
                | (go_at_call 17; ((with_reducible refine (kM _).mono ?_); rintro e w2 ⟨rfl, hb2⟩; clear kM; have B2 := Lib.hid (bstep B1.out hb2))))
              go_ret
              refine ⟨?_, B2.out⟩
              show Ending.returned (Value.string _) = Ending.returned (Value.string _)
              congr 2
              apply bytesR
              rw [mk_listR]
              have gFM := FM.out
              have gFC := FC.out
              have gFK := FK.out
              have gFD := FD.out
              have gFDn := FDn.out
              have gFMn := FMn.out
              have gFMp := FMp.out
              rw [HQ.out, if_neg FK.out]
              clear gFK
              simp [AD.out, AM.out, gFM, gFC, gFD, gFMn, gFMp]
            · have fX1 : (0 : Int) < (X : Int) := by omega
              have FX := Lib.hid (show 0 < X by omega)
              have fX2 : ((X : Int) == 0) = false := by rw [beq_eq_false_iff_ne]; omega
              have FXn := Lib.hid (show ¬ X = 0 by omega)
              clear qX
              have no1 : ¬ 9223372036854775807 < ((⟨#[45, 80]⟩ : ByteArray)).size + aD.size := by first | omega | (simp only [ByteArray.size_append]; omega)
              have no2 : ¬ 9223372036854775807 < ((⟨#[45, 80]⟩ : ByteArray) ++ aD).size + 1 := by first | omega | (simp only [ByteArray.size_append]; omega)
              have no3 : ¬ 9223372036854775806 < ((⟨#[45, 80]⟩ : ByteArray) ++ aD).size := by first | omega | (simp only [ByteArray.size_append]; omega)
              have no4 : ¬ 9223372036854775807 ≤ ((⟨#[45, 80]⟩ : ByteArray) ++ aD).size := by first | omega | (simp only [ByteArray.size_append]; omega)
              have no5 : ¬ 9223372036854775807 < ((⟨#[45, 80]⟩ : ByteArray) ++ aD).size + (⟨#[68]⟩ : ByteArray).size := by first | omega | (simp only [ByteArray.size_append]; omega)
              have no6 : ¬ 9223372036854775807 < ((⟨#[45, 80]⟩ : ByteArray) ++ aD ++ (⟨#[68]⟩ : ByteArray)).size + 1 := by first | omega | (simp only [ByteArray.size_append]; omega)
              have no7 : ¬ 9223372036854775806 < ((⟨#[45, 80]⟩ : ByteArray) ++ aD ++ (⟨#[68]⟩ : ByteArray)).size := by first | omega | (simp only [ByteArray.size_append]; omega)
              have no8 : ¬ 9223372036854775807 ≤ ((⟨#[45, 80]⟩ : ByteArray) ++ aD ++ (⟨#[68]⟩ : ByteArray)).size := by first | omega | (simp only [ByteArray.size_append]; omega)
              have no9 : ¬ 9223372036854775807 < ((⟨#[45, 80]⟩ : ByteArray) ++ aD ++ (⟨#[68]⟩ : ByteArray)).size + (⟨#[84]⟩ : ByteArray).size := by first | omega | (simp only [ByteArray.size_append]; omega)
              have no10 : ¬ 9223372036854775807 < ((⟨#[45, 80]⟩ : ByteArray) ++ aD ++ (⟨#[68]⟩ : ByteArray) ++ (⟨#[84]⟩ : ByteArray)).size + aM.size := by first | omega | (simp only [ByteArray.size_append]; omega)
              have no11 : ¬ 9223372036854775807 < ((⟨#[45, 80]⟩ : ByteArray) ++ aD ++ (⟨#[68]⟩ : ByteArray) ++ (⟨#[84]⟩ : ByteArray) ++ aM).size + 1 := by first | omega | (simp only [ByteArray.size_append]; omega)
              have no12 : ¬ 9223372036854775806 < ((⟨#[45, 80]⟩ : ByteArray) ++ aD ++ (⟨#[68]⟩ : ByteArray) ++ (⟨#[84]⟩ : ByteArray) ++ aM).size := by first | omega | (simp only [ByteArray.size_append]; omega)
              have no13 : ¬ 9223372036854775807 ≤ ((⟨#[45, 80]⟩ : ByteArray) ++ aD ++ (⟨#[68]⟩ : ByteArray) ++ (⟨#[84]⟩ : ByteArray) ++ aM).size := by first | omega | (simp only [ByteArray.size_append]; omega)
              have no14 : ¬ 9223372036854775807 < ((⟨#[45, 80]⟩ : ByteArray) ++ aD ++ (⟨#[68]⟩ : ByteArray) ++ (⟨#[84]⟩ : ByteArray) ++ aM).size + (⟨#[77]⟩ : ByteArray).size := by first | omega | (simp only [ByteArray.size_append]; omega)
              have no15 : ¬ 9223372036854775807 < ((⟨#[45, 80]⟩ : ByteArray) ++ aD ++ (⟨#[68]⟩ : ByteArray) ++ (⟨#[84]⟩ : ByteArray) ++ aM ++ (⟨#[77]⟩ : ByteArray)).size + aX.size := by first | omega | (simp only [ByteArray.size_append]; omega)
              have no16 : ¬ 9223372036854775807 < ((⟨#[45, 80]⟩ : ByteArray) ++ aD ++ (⟨#[68]⟩ : ByteArray) ++ (⟨#[84]⟩ : ByteArray) ++ aM ++ (⟨#[77]⟩ : ByteArray) ++ aX).size + 1 := by first | omega | (simp only [ByteArray.size_append]; omega)
              have no17 : ¬ 9223372036854775806 < ((⟨#[45, 80]⟩ : ByteArray) ++ aD ++ (⟨#[68]⟩ : ByteArray) ++ (⟨#[84]⟩ : ByteArray) ++ aM ++ (⟨#[77]⟩ : ByteArray) ++ aX).size := by first | omega | (simp only [ByteArray.size_append]; omega)
              have no18 : ¬ 9223372036854775807 ≤ ((⟨#[45, 80]⟩ : ByteArray) ++ aD ++ (⟨#[68]⟩ : ByteArray) ++ (⟨#[84]⟩ : ByteArray) ++ aM ++ (⟨#[77]⟩ : ByteArray) ++ aX).size := by first | omega | (simp only [ByteArray.size_append]; omega)
              have no19 : ¬ 9223372036854775807 < ((⟨#[45, 80]⟩ : ByteArray) ++ aD ++ (⟨#[68]⟩ : ByteArray) ++ (⟨#[84]⟩ : ByteArray) ++ aM ++ (⟨#[77]⟩ : ByteArray) ++ aX).size + (⟨#[83]⟩ : ByteArray).size := by first | omega | (simp only [ByteArray.size_append]; omega)
              clear zP zT zW zD zH zM zX SW SD SH SM SX
              have zb1 : (0 : Int) ≤ (m : Int) := by omega
              have zb2 : (m : Int) ≤ 1000000000 := by omega
              have zb5 : (0 : Int) ≤ (y5 : Int) := by omega
              have zb6 : (y5 : Int) ≤ 86400 := by omega
              have zb3 : (0 : Int) ≤ (C : Int) := by omega
              have zb4 : (C : Int) < 86400 := by omega
              generalize (m : Int) = z at *
              generalize (C : Int) = zC at *
              generalize (y5 : Int) = z5 at *
              go_enter Tryz.func5, Tryz.ntmps5
              go_wp2_with (first
                | (go_at_call 17; ((with_reducible refine (kD _).mono ?_); rintro e w1 ⟨rfl, hb1⟩; clear kD; have B1 := Lib.hid hb1))
                | (go_at_call 17; ((with_reducible refine (kM _).mono ?_); rintro e w2 ⟨rfl, hb2⟩; clear kM; have B2 := Lib.hid (bstep B1.out hb2)))
                | (go_at_call 17; ((with_reducible refine (kX _).mono ?_); rintro e w3 ⟨rfl, hb3⟩; clear kX; have B3 := Lib.hid (bstep B2.out hb3))))
              go_ret
              refine ⟨?_, B3.out⟩
              show Ending.returned (Value.string _) = Ending.returned (Value.string _)
              congr 2
              apply bytesR
              rw [mk_listR]
              have gFM := FM.out
              have gFC := FC.out
              have gFK := FK.out
              have gFD := FD.out
              have gFDn := FDn.out
              have gFX := FX.out
              have gFXn := FXn.out
              have gFMn := FMn.out
              have gFMp := FMp.out
              rw [HQ.out, if_neg FK.out]
              clear gFK
              simp [AD.out, AM.out, AX.out, gFM, gFC, gFD, gFX, gFMn, gFMp]
        · have fH1 : (0 : Int) < (H : Int) := by omega
          have FH := Lib.hid (show 0 < H by omega)
          have fH2 : ((H : Int) == 0) = false := by rw [beq_eq_false_iff_ne]; omega
          have FHn := Lib.hid (show ¬ H = 0 by omega)
          clear qH
          rcases Nat.eq_zero_or_pos M with qM | qM
          · obtain rfl : M = 0 := by omega
            rcases Nat.eq_zero_or_pos X with qX | qX
            · obtain rfl : X = 0 := by omega
              have no1 : ¬ 9223372036854775807 < ((⟨#[45, 80]⟩ : ByteArray)).size + aD.size := by first | omega | (simp only [ByteArray.size_append]; omega)
              have no2 : ¬ 9223372036854775807 < ((⟨#[45, 80]⟩ : ByteArray) ++ aD).size + 1 := by first | omega | (simp only [ByteArray.size_append]; omega)
              have no3 : ¬ 9223372036854775806 < ((⟨#[45, 80]⟩ : ByteArray) ++ aD).size := by first | omega | (simp only [ByteArray.size_append]; omega)
              have no4 : ¬ 9223372036854775807 ≤ ((⟨#[45, 80]⟩ : ByteArray) ++ aD).size := by first | omega | (simp only [ByteArray.size_append]; omega)
              have no5 : ¬ 9223372036854775807 < ((⟨#[45, 80]⟩ : ByteArray) ++ aD).size + (⟨#[68]⟩ : ByteArray).size := by first | omega | (simp only [ByteArray.size_append]; omega)
              have no6 : ¬ 9223372036854775807 < ((⟨#[45, 80]⟩ : ByteArray) ++ aD ++ (⟨#[68]⟩ : ByteArray)).size + 1 := by first | omega | (simp only [ByteArray.size_append]; omega)
              have no7 : ¬ 9223372036854775806 < ((⟨#[45, 80]⟩ : ByteArray) ++ aD ++ (⟨#[68]⟩ : ByteArray)).size := by first | omega | (simp only [ByteArray.size_append]; omega)
              have no8 : ¬ 9223372036854775807 ≤ ((⟨#[45, 80]⟩ : ByteArray) ++ aD ++ (⟨#[68]⟩ : ByteArray)).size := by first | omega | (simp only [ByteArray.size_append]; omega)
              have no9 : ¬ 9223372036854775807 < ((⟨#[45, 80]⟩ : ByteArray) ++ aD ++ (⟨#[68]⟩ : ByteArray)).size + (⟨#[84]⟩ : ByteArray).size := by first | omega | (simp only [ByteArray.size_append]; omega)
              have no10 : ¬ 9223372036854775807 < ((⟨#[45, 80]⟩ : ByteArray) ++ aD ++ (⟨#[68]⟩ : ByteArray) ++ (⟨#[84]⟩ : ByteArray)).size + aH.size := by first | omega | (simp only [ByteArray.size_append]; omega)
              have no11 : ¬ 9223372036854775807 < ((⟨#[45, 80]⟩ : ByteArray) ++ aD ++ (⟨#[68]⟩ : ByteArray) ++ (⟨#[84]⟩ : ByteArray) ++ aH).size + 1 := by first | omega | (simp only [ByteArray.size_append]; omega)
              have no12 : ¬ 9223372036854775806 < ((⟨#[45, 80]⟩ : ByteArray) ++ aD ++ (⟨#[68]⟩ : ByteArray) ++ (⟨#[84]⟩ : ByteArray) ++ aH).size := by first | omega | (simp only [ByteArray.size_append]; omega)
              have no13 : ¬ 9223372036854775807 ≤ ((⟨#[45, 80]⟩ : ByteArray) ++ aD ++ (⟨#[68]⟩ : ByteArray) ++ (⟨#[84]⟩ : ByteArray) ++ aH).size := by first | omega | (simp only [ByteArray.size_append]; omega)
              have no14 : ¬ 9223372036854775807 < ((⟨#[45, 80]⟩ : ByteArray) ++ aD ++ (⟨#[68]⟩ : ByteArray) ++ (⟨#[84]⟩ : ByteArray) ++ aH).size + (⟨#[72]⟩ : ByteArray).size := by first | omega | (simp only [ByteArray.size_append]; omega)
              clear zP zT zW zD zH zM zX SW SD SH SM SX
              have zb1 : (0 : Int) ≤ (m : Int) := by omega
              have zb2 : (m : Int) ≤ 1000000000 := by omega
              have zb5 : (0 : Int) ≤ (y5 : Int) := by omega
              have zb6 : (y5 : Int) ≤ 86400 := by omega
              have zb3 : (0 : Int) ≤ (C : Int) := by omega
              have zb4 : (C : Int) < 86400 := by omega
              generalize (m : Int) = z at *
              generalize (C : Int) = zC at *
              generalize (y5 : Int) = z5 at *
              go_enter Tryz.func5, Tryz.ntmps5
              go_wp2_with (first
                | (go_at_call 17; ((with_reducible refine (kD _).mono ?_); rintro e w1 ⟨rfl, hb1⟩; clear kD; have B1 := Lib.hid hb1))
                | (go_at_call 17; ((with_reducible refine (kH _).mono ?_); rintro e w2 ⟨rfl, hb2⟩; clear kH; have B2 := Lib.hid (bstep B1.out hb2))))
              go_ret
              refine ⟨?_, B2.out⟩
              show Ending.returned (Value.string _) = Ending.returned (Value.string _)
              congr 2
              apply bytesR
              rw [mk_listR]
              have gFM := FM.out
              have gFC := FC.out
              have gFK := FK.out
              have gFD := FD.out
              have gFDn := FDn.out
              have gFH := FH.out
              have gFHn := FHn.out
              rw [HQ.out, if_neg FK.out]
              clear gFK
              simp [AD.out, AH.out, gFM, gFC, gFD, gFH, gFHn]
            · have fX1 : (0 : Int) < (X : Int) := by omega
              have FX := Lib.hid (show 0 < X by omega)
              have fX2 : ((X : Int) == 0) = false := by rw [beq_eq_false_iff_ne]; omega
              have FXn := Lib.hid (show ¬ X = 0 by omega)
              clear qX
              replace kM : ∀ W, Calls Tryz.prog 17 #[.int .i64 0] W fun e w' => e = .returned (.string aM) ∧ Below W.heap.size W w' := kM
              have no1 : ¬ 9223372036854775807 < ((⟨#[45, 80]⟩ : ByteArray)).size + aD.size := by first | omega | (simp only [ByteArray.size_append]; omega)
              have no2 : ¬ 9223372036854775807 < ((⟨#[45, 80]⟩ : ByteArray) ++ aD).size + 1 := by first | omega | (simp only [ByteArray.size_append]; omega)
              have no3 : ¬ 9223372036854775806 < ((⟨#[45, 80]⟩ : ByteArray) ++ aD).size := by first | omega | (simp only [ByteArray.size_append]; omega)
              have no4 : ¬ 9223372036854775807 ≤ ((⟨#[45, 80]⟩ : ByteArray) ++ aD).size := by first | omega | (simp only [ByteArray.size_append]; omega)
              have no5 : ¬ 9223372036854775807 < ((⟨#[45, 80]⟩ : ByteArray) ++ aD).size + (⟨#[68]⟩ : ByteArray).size := by first | omega | (simp only [ByteArray.size_append]; omega)
              have no6 : ¬ 9223372036854775807 < ((⟨#[45, 80]⟩ : ByteArray) ++ aD ++ (⟨#[68]⟩ : ByteArray)).size + 1 := by first | omega | (simp only [ByteArray.size_append]; omega)
              have no7 : ¬ 9223372036854775806 < ((⟨#[45, 80]⟩ : ByteArray) ++ aD ++ (⟨#[68]⟩ : ByteArray)).size := by first | omega | (simp only [ByteArray.size_append]; omega)
              have no8 : ¬ 9223372036854775807 ≤ ((⟨#[45, 80]⟩ : ByteArray) ++ aD ++ (⟨#[68]⟩ : ByteArray)).size := by first | omega | (simp only [ByteArray.size_append]; omega)
              have no9 : ¬ 9223372036854775807 < ((⟨#[45, 80]⟩ : ByteArray) ++ aD ++ (⟨#[68]⟩ : ByteArray)).size + (⟨#[84]⟩ : ByteArray).size := by first | omega | (simp only [ByteArray.size_append]; omega)
              have no10 : ¬ 9223372036854775807 < ((⟨#[45, 80]⟩ : ByteArray) ++ aD ++ (⟨#[68]⟩ : ByteArray) ++ (⟨#[84]⟩ : ByteArray)).size + aH.size := by first | omega | (simp only [ByteArray.size_append]; omega)
              have no11 : ¬ 9223372036854775807 < ((⟨#[45, 80]⟩ : ByteArray) ++ aD ++ (⟨#[68]⟩ : ByteArray) ++ (⟨#[84]⟩ : ByteArray) ++ aH).size + 1 := by first | omega | (simp only [ByteArray.size_append]; omega)
              have no12 : ¬ 9223372036854775806 < ((⟨#[45, 80]⟩ : ByteArray) ++ aD ++ (⟨#[68]⟩ : ByteArray) ++ (⟨#[84]⟩ : ByteArray) ++ aH).size := by first | omega | (simp only [ByteArray.size_append]; omega)
              have no13 : ¬ 9223372036854775807 ≤ ((⟨#[45, 80]⟩ : ByteArray) ++ aD ++ (⟨#[68]⟩ : ByteArray) ++ (⟨#[84]⟩ : ByteArray) ++ aH).size := by first | omega | (simp only [ByteArray.size_append]; omega)
              have no14 : ¬ 9223372036854775807 < ((⟨#[45, 80]⟩ : ByteArray) ++ aD ++ (⟨#[68]⟩ : ByteArray) ++ (⟨#[84]⟩ : ByteArray) ++ aH).size + (⟨#[72]⟩ : ByteArray).size := by first | omega | (simp only [ByteArray.size_append]; omega)
              have no15 : ¬ 9223372036854775807 < ((⟨#[45, 80]⟩ : ByteArray) ++ aD ++ (⟨#[68]⟩ : ByteArray) ++ (⟨#[84]⟩ : ByteArray) ++ aH ++ (⟨#[72]⟩ : ByteArray)).size + aM.size := by first | omega | (simp only [ByteArray.size_append]; omega)
              have no16 : ¬ 9223372036854775807 < ((⟨#[45, 80]⟩ : ByteArray) ++ aD ++ (⟨#[68]⟩ : ByteArray) ++ (⟨#[84]⟩ : ByteArray) ++ aH ++ (⟨#[72]⟩ : ByteArray) ++ aM).size + 1 := by first | omega | (simp only [ByteArray.size_append]; omega)
              have no17 : ¬ 9223372036854775806 < ((⟨#[45, 80]⟩ : ByteArray) ++ aD ++ (⟨#[68]⟩ : ByteArray) ++ (⟨#[84]⟩ : ByteArray) ++ aH ++ (⟨#[72]⟩ : ByteArray) ++ aM).size := by first | omega | (simp only [ByteArray.size_append]; omega)
              have no18 : ¬ 9223372036854775807 ≤ ((⟨#[45, 80]⟩ : ByteArray) ++ aD ++ (⟨#[68]⟩ : ByteArray) ++ (⟨#[84]⟩ : ByteArray) ++ aH ++ (⟨#[72]⟩ : ByteArray) ++ aM).size := by first | omega | (simp only [ByteArray.size_append]; omega)
              have no19 : ¬ 9223372036854775807 < ((⟨#[45, 80]⟩ : ByteArray) ++ aD ++ (⟨#[68]⟩ : ByteArray) ++ (⟨#[84]⟩ : ByteArray) ++ aH ++ (⟨#[72]⟩ : ByteArray) ++ aM).size + (⟨#[77]⟩ : ByteArray).size := by first | omega | (simp only [ByteArray.size_append]; omega)
              have no20 : ¬ 9223372036854775807 < ((⟨#[45, 80]⟩ : ByteArray) ++ aD ++ (⟨#[68]⟩ : ByteArray) ++ (⟨#[84]⟩ : ByteArray) ++ aH ++ (⟨#[72]⟩ : ByteArray) ++ aM ++ (⟨#[77]⟩ : ByteArray)).size + aX.size := by first | omega | (simp only [ByteArray.size_append]; omega)
              have no21 : ¬ 9223372036854775807 < ((⟨#[45, 80]⟩ : ByteArray) ++ aD ++ (⟨#[68]⟩ : ByteArray) ++ (⟨#[84]⟩ : ByteArray) ++ aH ++ (⟨#[72]⟩ : ByteArray) ++ aM ++ (⟨#[77]⟩ : ByteArray) ++ aX).size + 1 := by first | omega | (simp only [ByteArray.size_append]; omega)
              have no22 : ¬ 9223372036854775806 < ((⟨#[45, 80]⟩ : ByteArray) ++ aD ++ (⟨#[68]⟩ : ByteArray) ++ (⟨#[84]⟩ : ByteArray) ++ aH ++ (⟨#[72]⟩ : ByteArray) ++ aM ++ (⟨#[77]⟩ : ByteArray) ++ aX).size := by first | omega | (simp only [ByteArray.size_append]; omega)
              have no23 : ¬ 9223372036854775807 ≤ ((⟨#[45, 80]⟩ : ByteArray) ++ aD ++ (⟨#[68]⟩ : ByteArray) ++ (⟨#[84]⟩ : ByteArray) ++ aH ++ (⟨#[72]⟩ : ByteArray) ++ aM ++ (⟨#[77]⟩ : ByteArray) ++ aX).size := by first | omega | (simp only [ByteArray.size_append]; omega)
              have no24 : ¬ 9223372036854775807 < ((⟨#[45, 80]⟩ : ByteArray) ++ aD ++ (⟨#[68]⟩ : ByteArray) ++ (⟨#[84]⟩ : ByteArray) ++ aH ++ (⟨#[72]⟩ : ByteArray) ++ aM ++ (⟨#[77]⟩ : ByteArray) ++ aX).size + (⟨#[83]⟩ : ByteArray).size := by first | omega | (simp only [ByteArray.size_append]; omega)
              clear zP zT zW zD zH zM zX SW SD SH SM SX
              have zb1 : (0 : Int) ≤ (m : Int) := by omega
              have zb2 : (m : Int) ≤ 1000000000 := by omega
              have zb5 : (0 : Int) ≤ (y5 : Int) := by omega
              have zb6 : (y5 : Int) ≤ 86400 := by omega
              have zb3 : (0 : Int) ≤ (C : Int) := by omega
              have zb4 : (C : Int) < 86400 := by omega
              generalize (m : Int) = z at *
              generalize (C : Int) = zC at *
              generalize (y5 : Int) = z5 at *
              go_enter Tryz.func5, Tryz.ntmps5
              go_wp2_with (first
                | (go_at_call 17; ((with_reducible refine (kD _).mono ?_); rintro e w1 ⟨rfl, hb1⟩; clear kD; have B1 := Lib.hid hb1))
                | (go_at_call 17; ((with_reducible refine (kH _).mono ?_); rintro e w2 ⟨rfl, hb2⟩; clear kH; have B2 := Lib.hid (bstep B1.out hb2)))
                | (go_at_call 17; ((with_reducible refine (kM _).mono ?_); rintro e w3 ⟨rfl, hb3⟩; clear kM; have B3 := Lib.hid (bstep B2.out hb3)))
                | (go_at_call 17; ((with_reducible refine (kX _).mono ?_); rintro e w4 ⟨rfl, hb4⟩; clear kX; have B4 := Lib.hid (bstep B3.out hb4))))
              go_ret
              refine ⟨?_, B4.out⟩
              show Ending.returned (Value.string _) = Ending.returned (Value.string _)
              congr 2
              apply bytesR
              rw [mk_listR]
              have gFM := FM.out
              have gFC := FC.out
              have gFK := FK.out
              have gFD := FD.out
              have gFDn := FDn.out
              have gFH := FH.out
              have gFHn := FHn.out
              have gFX := FX.out
              have gFXn := FXn.out
              rw [HQ.out, if_neg FK.out]
              clear gFK
              simp [AD.out, AH.out, AM.out, AX.out, gFM, gFC, gFD, gFH, gFHn, gFX]
          · have fM1 : (0 : Int) < (M : Int) := by omega
            have FMp := Lib.hid (show 0 < M by omega)
            have fM2 : ((M : Int) == 0) = false := by rw [beq_eq_false_iff_ne]; omega
            have FMn := Lib.hid (show ¬ M = 0 by omega)
            clear qM
            rcases Nat.eq_zero_or_pos X with qX | qX
            · obtain rfl : X = 0 := by omega
              have no1 : ¬ 9223372036854775807 < ((⟨#[45, 80]⟩ : ByteArray)).size + aD.size := by first | omega | (simp only [ByteArray.size_append]; omega)
              have no2 : ¬ 9223372036854775807 < ((⟨#[45, 80]⟩ : ByteArray) ++ aD).size + 1 := by first | omega | (simp only [ByteArray.size_append]; omega)
              have no3 : ¬ 9223372036854775806 < ((⟨#[45, 80]⟩ : ByteArray) ++ aD).size := by first | omega | (simp only [ByteArray.size_append]; omega)
              have no4 : ¬ 9223372036854775807 ≤ ((⟨#[45, 80]⟩ : ByteArray) ++ aD).size := by first | omega | (simp only [ByteArray.size_append]; omega)
              have no5 : ¬ 9223372036854775807 < ((⟨#[45, 80]⟩ : ByteArray) ++ aD).size + (⟨#[68]⟩ : ByteArray).size := by first | omega | (simp only [ByteArray.size_append]; omega)
              have no6 : ¬ 9223372036854775807 < ((⟨#[45, 80]⟩ : ByteArray) ++ aD ++ (⟨#[68]⟩ : ByteArray)).size + 1 := by first | omega | (simp only [ByteArray.size_append]; omega)
              have no7 : ¬ 9223372036854775806 < ((⟨#[45, 80]⟩ : ByteArray) ++ aD ++ (⟨#[68]⟩ : ByteArray)).size := by first | omega | (simp only [ByteArray.size_append]; omega)
              have no8 : ¬ 9223372036854775807 ≤ ((⟨#[45, 80]⟩ : ByteArray) ++ aD ++ (⟨#[68]⟩ : ByteArray)).size := by first | omega | (simp only [ByteArray.size_append]; omega)
              have no9 : ¬ 9223372036854775807 < ((⟨#[45, 80]⟩ : ByteArray) ++ aD ++ (⟨#[68]⟩ : ByteArray)).size + (⟨#[84]⟩ : ByteArray).size := by first | omega | (simp only [ByteArray.size_append]; omega)
              have no10 : ¬ 9223372036854775807 < ((⟨#[45, 80]⟩ : ByteArray) ++ aD ++ (⟨#[68]⟩ : ByteArray) ++ (⟨#[84]⟩ : ByteArray)).size + aH.size := by first | omega | (simp only [ByteArray.size_append]; omega)
              have no11 : ¬ 9223372036854775807 < ((⟨#[45, 80]⟩ : ByteArray) ++ aD ++ (⟨#[68]⟩ : ByteArray) ++ (⟨#[84]⟩ : ByteArray) ++ aH).size + 1 := by first | omega | (simp only [ByteArray.size_append]; omega)
              have no12 : ¬ 9223372036854775806 < ((⟨#[45, 80]⟩ : ByteArray) ++ aD ++ (⟨#[68]⟩ : ByteArray) ++ (⟨#[84]⟩ : ByteArray) ++ aH).size := by first | omega | (simp only [ByteArray.size_append]; omega)
              have no13 : ¬ 9223372036854775807 ≤ ((⟨#[45, 80]⟩ : ByteArray) ++ aD ++ (⟨#[68]⟩ : ByteArray) ++ (⟨#[84]⟩ : ByteArray) ++ aH).size := by first | omega | (simp only [ByteArray.size_append]; omega)
              have no14 : ¬ 9223372036854775807 < ((⟨#[45, 80]⟩ : ByteArray) ++ aD ++ (⟨#[68]⟩ : ByteArray) ++ (⟨#[84]⟩ : ByteArray) ++ aH).size + (⟨#[72]⟩ : ByteArray).size := by first | omega | (simp only [ByteArray.size_append]; omega)
              have no15 : ¬ 9223372036854775807 < ((⟨#[45, 80]⟩ : ByteArray) ++ aD ++ (⟨#[68]⟩ : ByteArray) ++ (⟨#[84]⟩ : ByteArray) ++ aH ++ (⟨#[72]⟩ : ByteArray)).size + aM.size := by first | omega | (simp only [ByteArray.size_append]; omega)
              have no16 : ¬ 9223372036854775807 < ((⟨#[45, 80]⟩ : ByteArray) ++ aD ++ (⟨#[68]⟩ : ByteArray) ++ (⟨#[84]⟩ : ByteArray) ++ aH ++ (⟨#[72]⟩ : ByteArray) ++ aM).size + 1 := by first | omega | (simp only [ByteArray.size_append]; omega)
              have no17 : ¬ 9223372036854775806 < ((⟨#[45, 80]⟩ : ByteArray) ++ aD ++ (⟨#[68]⟩ : ByteArray) ++ (⟨#[84]⟩ : ByteArray) ++ aH ++ (⟨#[72]⟩ : ByteArray) ++ aM).size := by first | omega | (simp only [ByteArray.size_append]; omega)
              have no18 : ¬ 9223372036854775807 ≤ ((⟨#[45, 80]⟩ : ByteArray) ++ aD ++ (⟨#[68]⟩ : ByteArray) ++ (⟨#[84]⟩ : ByteArray) ++ aH ++ (⟨#[72]⟩ : ByteArray) ++ aM).size := by first | omega | (simp only [ByteArray.size_append]; omega)
              have no19 : ¬ 9223372036854775807 < ((⟨#[45, 80]⟩ : ByteArray) ++ aD ++ (⟨#[68]⟩ : ByteArray) ++ (⟨#[84]⟩ : ByteArray) ++ aH ++ (⟨#[72]⟩ : ByteArray) ++ aM).size + (⟨#[77]⟩ : ByteArray).size := by first | omega | (simp only [ByteArray.size_append]; omega)
              clear zP zT zW zD zH zM zX SW SD SH SM SX
              have zb1 : (0 : Int) ≤ (m : Int) := by omega
              have zb2 : (m : Int) ≤ 1000000000 := by omega
              have zb5 : (0 : Int) ≤ (y5 : Int) := by omega
              have zb6 : (y5 : Int) ≤ 86400 := by omega
              have zb3 : (0 : Int) ≤ (C : Int) := by omega
              have zb4 : (C : Int) < 86400 := by omega
              generalize (m : Int) = z at *
              generalize (C : Int) = zC at *
              generalize (y5 : Int) = z5 at *
              go_enter Tryz.func5, Tryz.ntmps5
              go_wp2_with (first
                | (go_at_call 17; ((with_reducible refine (kD _).mono ?_); rintro e w1 ⟨rfl, hb1⟩; clear kD; have B1 := Lib.hid hb1))
                | (go_at_call 17; ((with_reducible refine (kH _).mono ?_); rintro e w2 ⟨rfl, hb2⟩; clear kH; have B2 := Lib.hid (bstep B1.out hb2)))
                | (go_at_call 17; ((with_reducible refine (kM _).mono ?_); rintro e w3 ⟨rfl, hb3⟩; clear kM; have B3 := Lib.hid (bstep B2.out hb3))))
              go_ret
              refine ⟨?_, B3.out⟩
              show Ending.returned (Value.string _) = Ending.returned (Value.string _)
              congr 2
              apply bytesR
              rw [mk_listR]
              have gFM := FM.out
              have gFC := FC.out
              have gFK := FK.out
              have gFD := FD.out
              have gFDn := FDn.out
              have gFH := FH.out
              have gFHn := FHn.out
              have gFMn := FMn.out
              have gFMp := FMp.out
              rw [HQ.out, if_neg FK.out]
              clear gFK
              simp [AD.out, AH.out, AM.out, gFM, gFC, gFD, gFH, gFHn, gFMn, gFMp]
            · have fX1 : (0 : Int) < (X : Int) := by omega
              have FX := Lib.hid (show 0 < X by omega)
              have fX2 : ((X : Int) == 0) = false := by rw [beq_eq_false_iff_ne]; omega
              have FXn := Lib.hid (show ¬ X = 0 by omega)
              clear qX
              have no1 : ¬ 9223372036854775807 < ((⟨#[45, 80]⟩ : ByteArray)).size + aD.size := by first | omega | (simp only [ByteArray.size_append]; omega)
              have no2 : ¬ 9223372036854775807 < ((⟨#[45, 80]⟩ : ByteArray) ++ aD).size + 1 := by first | omega | (simp only [ByteArray.size_append]; omega)
              have no3 : ¬ 9223372036854775806 < ((⟨#[45, 80]⟩ : ByteArray) ++ aD).size := by first | omega | (simp only [ByteArray.size_append]; omega)
              have no4 : ¬ 9223372036854775807 ≤ ((⟨#[45, 80]⟩ : ByteArray) ++ aD).size := by first | omega | (simp only [ByteArray.size_append]; omega)
              have no5 : ¬ 9223372036854775807 < ((⟨#[45, 80]⟩ : ByteArray) ++ aD).size + (⟨#[68]⟩ : ByteArray).size := by first | omega | (simp only [ByteArray.size_append]; omega)
              have no6 : ¬ 9223372036854775807 < ((⟨#[45, 80]⟩ : ByteArray) ++ aD ++ (⟨#[68]⟩ : ByteArray)).size + 1 := by first | omega | (simp only [ByteArray.size_append]; omega)
              have no7 : ¬ 9223372036854775806 < ((⟨#[45, 80]⟩ : ByteArray) ++ aD ++ (⟨#[68]⟩ : ByteArray)).size := by first | omega | (simp only [ByteArray.size_append]; omega)
              have no8 : ¬ 9223372036854775807 ≤ ((⟨#[45, 80]⟩ : ByteArray) ++ aD ++ (⟨#[68]⟩ : ByteArray)).size := by first | omega | (simp only [ByteArray.size_append]; omega)
              have no9 : ¬ 9223372036854775807 < ((⟨#[45, 80]⟩ : ByteArray) ++ aD ++ (⟨#[68]⟩ : ByteArray)).size + (⟨#[84]⟩ : ByteArray).size := by first | omega | (simp only [ByteArray.size_append]; omega)
              have no10 : ¬ 9223372036854775807 < ((⟨#[45, 80]⟩ : ByteArray) ++ aD ++ (⟨#[68]⟩ : ByteArray) ++ (⟨#[84]⟩ : ByteArray)).size + aH.size := by first | omega | (simp only [ByteArray.size_append]; omega)
              have no11 : ¬ 9223372036854775807 < ((⟨#[45, 80]⟩ : ByteArray) ++ aD ++ (⟨#[68]⟩ : ByteArray) ++ (⟨#[84]⟩ : ByteArray) ++ aH).size + 1 := by first | omega | (simp only [ByteArray.size_append]; omega)
              have no12 : ¬ 9223372036854775806 < ((⟨#[45, 80]⟩ : ByteArray) ++ aD ++ (⟨#[68]⟩ : ByteArray) ++ (⟨#[84]⟩ : ByteArray) ++ aH).size := by first | omega | (simp only [ByteArray.size_append]; omega)
              have no13 : ¬ 9223372036854775807 ≤ ((⟨#[45, 80]⟩ : ByteArray) ++ aD ++ (⟨#[68]⟩ : ByteArray) ++ (⟨#[84]⟩ : ByteArray) ++ aH).size := by first | omega | (simp only [ByteArray.size_append]; omega)
              have no14 : ¬ 9223372036854775807 < ((⟨#[45, 80]⟩ : ByteArray) ++ aD ++ (⟨#[68]⟩ : ByteArray) ++ (⟨#[84]⟩ : ByteArray) ++ aH).size + (⟨#[72]⟩ : ByteArray).size := by first | omega | (simp only [ByteArray.size_append]; omega)
              have no15 : ¬ 9223372036854775807 < ((⟨#[45, 80]⟩ : ByteArray) ++ aD ++ (⟨#[68]⟩ : ByteArray) ++ (⟨#[84]⟩ : ByteArray) ++ aH ++ (⟨#[72]⟩ : ByteArray)).size + aM.size := by first | omega | (simp only [ByteArray.size_append]; omega)
              have no16 : ¬ 9223372036854775807 < ((⟨#[45, 80]⟩ : ByteArray) ++ aD ++ (⟨#[68]⟩ : ByteArray) ++ (⟨#[84]⟩ : ByteArray) ++ aH ++ (⟨#[72]⟩ : ByteArray) ++ aM).size + 1 := by first | omega | (simp only [ByteArray.size_append]; omega)
              have no17 : ¬ 9223372036854775806 < ((⟨#[45, 80]⟩ : ByteArray) ++ aD ++ (⟨#[68]⟩ : ByteArray) ++ (⟨#[84]⟩ : ByteArray) ++ aH ++ (⟨#[72]⟩ : ByteArray) ++ aM).size := by first | omega | (simp only [ByteArray.size_append]; omega)
              have no18 : ¬ 9223372036854775807 ≤ ((⟨#[45, 80]⟩ : ByteArray) ++ aD ++ (⟨#[68]⟩ : ByteArray) ++ (⟨#[84]⟩ : ByteArray) ++ aH ++ (⟨#[72]⟩ : ByteArray) ++ aM).size := by first | omega | (simp only [ByteArray.size_append]; omega)
              have no19 : ¬ 9223372036854775807 < ((⟨#[45, 80]⟩ : ByteArray) ++ aD ++ (⟨#[68]⟩ : ByteArray) ++ (⟨#[84]⟩ : ByteArray) ++ aH ++ (⟨#[72]⟩ : ByteArray) ++ aM).size + (⟨#[77]⟩ : ByteArray).size := by first | omega | (simp only [ByteArray.size_append]; omega)
              have no20 : ¬ 9223372036854775807 < ((⟨#[45, 80]⟩ : ByteArray) ++ aD ++ (⟨#[68]⟩ : ByteArray) ++ (⟨#[84]⟩ : ByteArray) ++ aH ++ (⟨#[72]⟩ : ByteArray) ++ aM ++ (⟨#[77]⟩ : ByteArray)).size + aX.size := by first | omega | (simp only [ByteArray.size_append]; omega)
              have no21 : ¬ 9223372036854775807 < ((⟨#[45, 80]⟩ : ByteArray) ++ aD ++ (⟨#[68]⟩ : ByteArray) ++ (⟨#[84]⟩ : ByteArray) ++ aH ++ (⟨#[72]⟩ : ByteArray) ++ aM ++ (⟨#[77]⟩ : ByteArray) ++ aX).size + 1 := by first | omega | (simp only [ByteArray.size_append]; omega)
              have no22 : ¬ 9223372036854775806 < ((⟨#[45, 80]⟩ : ByteArray) ++ aD ++ (⟨#[68]⟩ : ByteArray) ++ (⟨#[84]⟩ : ByteArray) ++ aH ++ (⟨#[72]⟩ : ByteArray) ++ aM ++ (⟨#[77]⟩ : ByteArray) ++ aX).size := by first | omega | (simp only [ByteArray.size_append]; omega)
              have no23 : ¬ 9223372036854775807 ≤ ((⟨#[45, 80]⟩ : ByteArray) ++ aD ++ (⟨#[68]⟩ : ByteArray) ++ (⟨#[84]⟩ : ByteArray) ++ aH ++ (⟨#[72]⟩ : ByteArray) ++ aM ++ (⟨#[77]⟩ : ByteArray) ++ aX).size := by first | omega | (simp only [ByteArray.size_append]; omega)
              have no24 : ¬ 9223372036854775807 < ((⟨#[45, 80]⟩ : ByteArray) ++ aD ++ (⟨#[68]⟩ : ByteArray) ++ (⟨#[84]⟩ : ByteArray) ++ aH ++ (⟨#[72]⟩ : ByteArray) ++ aM ++ (⟨#[77]⟩ : ByteArray) ++ aX).size + (⟨#[83]⟩ : ByteArray).size := by first | omega | (simp only [ByteArray.size_append]; omega)
              clear zP zT zW zD zH zM zX SW SD SH SM SX
              have zb1 : (0 : Int) ≤ (m : Int) := by omega
              have zb2 : (m : Int) ≤ 1000000000 := by omega
              have zb5 : (0 : Int) ≤ (y5 : Int) := by omega
              have zb6 : (y5 : Int) ≤ 86400 := by omega
              have zb3 : (0 : Int) ≤ (C : Int) := by omega
              have zb4 : (C : Int) < 86400 := by omega
              generalize (m : Int) = z at *
              generalize (C : Int) = zC at *
              generalize (y5 : Int) = z5 at *
              go_enter Tryz.func5, Tryz.ntmps5
              go_wp2_with (first
                | (go_at_call 17; ((with_reducible refine (kD _).mono ?_); rintro e w1 ⟨rfl, hb1⟩; clear kD; have B1 := Lib.hid hb1))
                | (go_at_call 17; ((with_reducible refine (kH _).mono ?_); rintro e w2 ⟨rfl, hb2⟩; clear kH; have B2 := Lib.hid (bstep B1.out hb2)))
                | (go_at_call 17; ((with_reducible refine (kM _).mono ?_); rintro e w3 ⟨rfl, hb3⟩; clear kM; have B3 := Lib.hid (bstep B2.out hb3)))
                | (go_at_call 17; ((with_reducible refine (kX _).mono ?_); rintro e w4 ⟨rfl, hb4⟩; clear kX; have B4 := Lib.hid (bstep B3.out hb4))))
              go_ret
              refine ⟨?_, B4.out⟩
              show Ending.returned (Value.string _) = Ending.returned (Value.string _)
              congr 2
              apply bytesR
              rw [mk_listR]
              have gFM := FM.out
              have gFC := FC.out
              have gFK := FK.out
              have gFD := FD.out
              have gFDn := FDn.out
              have gFH := FH.out
              have gFHn := FHn.out
              have gFX := FX.out
              have gFXn := FXn.out
              have gFMn := FMn.out
              have gFMp := FMp.out
              rw [HQ.out, if_neg FK.out]
              clear gFK
              simp [AD.out, AH.out, AM.out, AX.out, gFM, gFC, gFD, gFH, gFHn, gFX, gFMn, gFMp]
set_option maxRecDepth 100000 in
set_option maxHeartbeats 4000000 in
theorem refDurText_any (n : Int) (hn : -9223372036854775808 ≤ n ∧ n < 9223372036854775808) (w : World) :
    Calls Tryz.prog 5 #[.int .i64 n] w fun e w' => e = .returned (.string ⟨(durT n).toArray⟩) ∧ Below w.heap.size w w' := by
  by_cases hb : 1000000000 < n ∨ n < -1000000000
  · have E : Hid (durT n = []) := Lib.hid (by unfold durT; rw [if_pos hb])
    by_cases h1 : 1000000000 < n
    · clear hb
      go_enter Tryz.func5, Tryz.ntmps5
      go_wp2
      go_ret
      exact ⟨by rw [E.out]; rfl, Below.refl _ _⟩
    · have h2 : n < -1000000000 := by omega
      clear hb
      go_enter Tryz.func5, Tryz.ntmps5
      go_wp2
      go_ret
      exact ⟨by rw [E.out]; rfl, Below.refl _ _⟩
  · unfold durT
    rw [if_neg hb]
    by_cases h0 : n < 0
    · rw [if_pos h0]
      have := refDurText_neg n.natAbs (by omega) (by omega) w
      rwa [show -(n.natAbs : Int) = n by omega] at this
    · rw [if_neg h0]
      have := refDurText_pos n.natAbs (by omega) w
      rwa [show (n.natAbs : Int) = n by omega] at this
end Go.Proofs.YtdilnofolnabdaaGreatDoor
