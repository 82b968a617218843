/-
  The check sum of layer 1 (code) as the program computes it and as the document's own text does: both return the same number for any bytes, and leave the world as it was.
-/
import Derived.Test.YtlpijikhbjkmfaaProg
import Derived.Test.YtlpijikhbjkmfaaG01
import Derived.WalkKit
import Derived.WalkSpells
import Derived.WalkLawsBesides
import Derived.Lib.Hide
namespace Go.Proofs.Ytlpijikhbjkmfaa
open Go.RowKit

set_option maxHeartbeats 400000 in
theorem turn_any (x : Nat) (w : World) (hx : x < 4294967296) :
    Calls Try.prog 91 #[.int .u32 (x : Int)] w fun e w' => e = .returned (.int .u32 (turnK 8 x : Nat)) ∧ w = w' := by
  go_enter Try.func91, Try.ntmps91
  go_wp2
  go_loop [0, 3] (fun v i => ∃ k : Nat, k ≤ 8 ∧ i = .int .i64 k ∧ v = .int .u32 (turnK k x : Nat)) (fun _ i => 8 - (intOf i).toNat)
  case atStart => exact ⟨0, by omega, rfl, rfl⟩
  case round =>
    obtain ⟨k, hk, rfl, rfl⟩ := hrel
    have hlt := turnK_lt hx k
    by_cases h : k < 8
    · go_wp2
      go_round
      case rel => exact ⟨k + 1, by omega, by go_num, by rw [turn_step _ hlt]; rfl⟩
      case measure => simp [intOf]; omega
    · go_wp2
      go_ret
      obtain rfl : k = 8 := by omega
      exact ⟨rfl, rfl⟩

set_option maxHeartbeats 400000 in
theorem crc_any (s : ByteArray) (w : World) (hs : s.size ≤ maxLen) :
    Calls Try.prog 78 #[.string s] w fun e w' => e = .returned (.int .u32 (crc s.data.toList : Nat)) ∧ w = w' := by
  unfold maxLen at hs
  go_enter Try.func78, Try.ntmps78
  go_wp2
  go_loop [3, 7] (fun v i => ∃ k : Nat, k ≤ s.size ∧ i = .int .i64 k ∧ v = .int .u32 (crcAcc (s.data.toList.take k) : Nat)) (fun _ i => s.size - (intOf i).toNat)
  case atStart => exact ⟨0, Nat.zero_le _, rfl, rfl⟩
  case round =>
    obtain ⟨k, hk, rfl, rfl⟩ := hrel
    have hlt := crcAcc_lt (s.data.toList.take k)
    by_cases h : k < s.size
    · have hb := xor_byte_lt hlt s[k]
      have hx : Hid (bits .xor .u32 (crcAcc (s.data.toList.take k) : Nat) ((s[k].toNat : Int) % 4294967296) = (crcAcc (s.data.toList.take k) ^^^ s[k].toNat : Nat)) := Lib.hid (by rw [show ((s[k].toNat : Int) % 4294967296) = ((s[k].toNat : Nat) : Int) by have := s[k].toNat_lt; omega]; exact xor32 _ _ hlt (by have := s[k].toNat_lt; omega))
      have hts : Hid (crcAcc (s.data.toList.take (k + 1)) = turnK 8 (crcAcc (s.data.toList.take k) ^^^ s[k].toNat)) := Lib.hid (by rw [take_snoc s k h, crcAcc_snoc])
      go_wp2_with (go_at_call 91; rw [hx.out]; refine (turn_any _ _ hb).mono ?_; rintro e w' ⟨rfl, rfl⟩)
      go_round
      case rel => exact ⟨k + 1, by omega, by go_num, by rw [hts.out]⟩
      case measure => simp [intOf]; omega
    · have hx : Hid (bits .xor .u32 4294967295 (crcAcc (s.data.toList.take k) : Nat) = ((4294967295 - crcAcc (s.data.toList.take k) : Nat) : Int)) := Lib.hid (xor_all _ hlt)
      go_wp2
      go_ret
      refine ⟨ret_int ?_, rfl⟩
      rw [show IntKind.u32.max = 4294967295 by decide, hx.out, List.take_of_length_le (by simp; omega)]
      rfl

theorem turn1_odd {x : Nat} (h : x % 2 = 1) (hx : x < 4294967296) : bits .xor .u32 ((x : Int) / 2) 3988292384 = ((turn1 x : Nat) : Int) := by
  rw [show ((x : Int) / 2) = ((x / 2 : Nat) : Int) by omega, show (3988292384 : Int) = ((3988292384 : Nat) : Int) by rfl, xor32 _ _ (by omega) (by omega), turn1, if_pos h]
theorem turn1_even {x : Nat} (h : ¬ x % 2 = 1) : ((x : Int) / 2) = ((turn1 x : Nat) : Int) := by
  rw [turn1, if_neg h]; omega

set_option maxHeartbeats 1000000 in
theorem refCrc_any (s : ByteArray) (w : World) (hs : s.size ≤ maxLen) :
    Calls Try.prog 44 #[.string s] w fun e w' => e = .returned (.int .u32 (crc s.data.toList : Nat)) ∧ w = w' := by
  unfold maxLen at hs
  go_enter Try.func44, Try.ntmps44
  go_wp2
  go_loop [3, 4, 5] (fun v i _ => ∃ k : Nat, k ≤ s.size ∧ i = .int .i64 k ∧ v = .int .u32 (crcAcc (s.data.toList.take k) : Nat)) (fun _ i _ => s.size - (intOf i).toNat)
  case atStart => exact ⟨0, Nat.zero_le _, rfl, rfl⟩
  case round =>
    obtain ⟨k, hk, rfl, rfl⟩ := hrel
    have hlt := crcAcc_lt (s.data.toList.take k)
    by_cases h : k < s.size
    · have hb := xor_byte_lt hlt s[k]
      have hx : Hid (bits .xor .u32 (crcAcc (s.data.toList.take k) : Nat) ((s[k].toNat : Int) % 4294967296) = (crcAcc (s.data.toList.take k) ^^^ s[k].toNat : Nat)) := Lib.hid (by rw [show ((s[k].toNat : Int) % 4294967296) = ((s[k].toNat : Nat) : Int) by have := s[k].toNat_lt; omega]; exact xor32 _ _ hlt (by have := s[k].toNat_lt; omega))
      have hts : Hid (crcAcc (s.data.toList.take (k + 1)) = turnK 8 (crcAcc (s.data.toList.take k) ^^^ s[k].toNat)) := Lib.hid (by rw [take_snoc s k h, crcAcc_snoc])
      go_wp2
      go_loop [3, 5] (fun v i => ∃ j : Nat, j ≤ 8 ∧ i = .int .i64 j ∧ v = .int .u32 (turnK j (crcAcc (s.data.toList.take k) ^^^ s[k].toNat) : Nat)) (fun _ i => 8 - (intOf i).toNat)
      case atStart => exact ⟨0, by omega, rfl, by rw [hx.out]; rfl⟩
      case round =>
        obtain ⟨j, hj, rfl, rfl⟩ := hrel
        have hlt2 := turnK_lt hb j
        by_cases hj8 : j < 8
        · by_cases hodd : turnK j (crcAcc (s.data.toList.take k) ^^^ s[k].toNat) % 2 = 1
          · have hst : Hid (bits .xor .u32 ((turnK j (crcAcc (s.data.toList.take k) ^^^ s[k].toNat) : Nat) / 2) 3988292384 = (turnK (j + 1) (crcAcc (s.data.toList.take k) ^^^ s[k].toNat) : Nat)) := Lib.hid (turn1_odd hodd hlt2)
            go_wp2
            go_round
            case rel => exact ⟨j + 1, by omega, by go_num, by rw [hst.out]⟩
            case measure => simp [intOf]; omega
          · have hst : Hid (((turnK j (crcAcc (s.data.toList.take k) ^^^ s[k].toNat) : Nat) : Int) / 2 = (turnK (j + 1) (crcAcc (s.data.toList.take k) ^^^ s[k].toNat) : Nat)) := Lib.hid (turn1_even hodd)
            go_wp2
            go_round
            case rel => exact ⟨j + 1, by omega, by go_num, by rw [hst.out]⟩
            case measure => simp [intOf]; omega
        · go_wp2
          obtain rfl : j = 8 := by omega
          go_round
          case rel => exact ⟨k + 1, by omega, by go_num, by rw [hts.out]⟩
          case measure => simp [intOf]; omega
    · have hx : Hid (bits .xor .u32 4294967295 (crcAcc (s.data.toList.take k) : Nat) = ((4294967295 - crcAcc (s.data.toList.take k) : Nat) : Int)) := Lib.hid (xor_all _ hlt)
      go_wp2
      go_ret
      refine ⟨ret_int ?_, rfl⟩
      rw [show IntKind.u32.max = 4294967295 by decide, hx.out, List.take_of_length_le (by simp; omega)]
      rfl

end Go.Proofs.Ytlpijikhbjkmfaa
