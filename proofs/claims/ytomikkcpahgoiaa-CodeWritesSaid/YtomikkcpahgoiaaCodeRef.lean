/-
  The document's own text of layer 1 (code): numbers written and read: for every argument.
-/
import Derived.Test.YtomikkcpahgoiaaProg
import Derived.Test.YtomikkcpahgoiaaCodeMath
import Derived.WalkKit
import Derived.WalkSpells
import Derived.WalkLawsBesides
import Derived.Lib.Hide
import Derived.Maps.AppendAt
namespace Go.Proofs.Ytomikkcpahgoiaa
open Go.RowKit

set_option maxHeartbeats 1000000 in
theorem refRead_place (s : ByteArray) (a : Int) (w : World) (hs : s.size ≤ maxLen) (h : a < 0 ∨ (s.size : Int) < a) :
    Calls Try.prog 8 #[.string s, .int .i64 a] w fun e w' => e = .returned (.tuple #[.int .u64 0, .int .i64 0, .int .i64 15]) ∧ w = w' := by
  unfold maxLen at hs
  rcases h with h | h
  · go_enter Try.func8, Try.ntmps8
    go_wp2
    go_ret3
    exact ⟨rfl, rfl⟩
  · have h0 : ¬ a < 0 := by omega
    go_enter Try.func8, Try.ntmps8
    go_wp2
    go_ret3
    exact ⟨rfl, rfl⟩

set_option maxRecDepth 100000 in
set_option maxHeartbeats 1000000 in
theorem refRead_in (s : ByteArray) (a : Nat) (w : World) (hs : s.size ≤ maxLen) (h : a ≤ s.size) :
    Calls Try.prog 8 #[.string s, .int .i64 a] w fun e w' => e = .returned (.tuple #[.int .u64 (rdN s a).1, .int .i64 (rdN s a).2.1, .int .i64 (rdN s a).2.2]) ∧ w = w' := by
  unfold maxLen at hs
  have hd0 : decide ((a : Int) < 0) = false := by simp
  have hd1 : decide (s.size < a) = false := by simp; omega
  go_enter Try.func8, Try.ntmps8
  go_wp2
  go_loop [7, 8, 9] (fun v i _ => ∃ k acc : Nat, k ≤ 9 ∧ a + k ≤ s.size ∧ acc < 2 ^ (7 * k) ∧ i = .int .i64 k ∧ v = .int .u64 acc ∧ dec (s.data.toList.drop (a + k)) k acc = dec (s.data.toList.drop a) 0 0) (fun _ i _ => 10 - (intOf i).toNat)
  case atStart => exact ⟨0, 0, by omega, by omega, by simp, rfl, rfl, rfl⟩
  case round =>
    obtain ⟨k, acc, hk, hak, hacc, rfl, rfl, hd⟩ := hrel
    have HD := Lib.hid hd; clear hd
    have HA := Lib.hid hacc; clear hacc
    by_cases hlt : a + k < s.size
    · have hc := s[a + k].toNat_lt
      rcases Nat.lt_or_ge 8 k with h9 | h9
      · obtain rfl : k = 9 := by omega
        by_cases h1 : 1 < s[a + 9].toNat
        · go_wp2
          go_ret3
          rw [rd_form h HD.out hlt (.inl ⟨rfl, h1⟩)]
          exact ⟨rfl, rfl⟩
        · by_cases h0 : 0 < s[a + 9].toNat
          · go_wp2
            go_ret3
            rw [rd_ok h HD.out hlt (by omega) (by omega) (by omega)]
            exact ⟨ret_int3 (wrap_group9 (by omega) HA.out) rfl rfl, rfl⟩
          · go_wp2
            go_ret3
            rw [rd_form h HD.out hlt (.inr ⟨by omega, by omega⟩)]
            exact ⟨rfl, rfl⟩
      · by_cases h1 : s[a + k].toNat < 128
        · by_cases h0 : 0 < s[a + k].toNat
          · go_wp2
            go_ret3
            rw [rd_ok h HD.out hlt (by omega) (by omega) h1]
            exact ⟨ret_int3 (by rw [wrap_group h9 HA.out, Nat.mod_eq_of_lt h1]) rfl rfl, rfl⟩
          · by_cases hk0 : 0 < k
            · go_wp2
              go_ret3
              rw [rd_form h HD.out hlt (.inr ⟨by omega, by omega⟩)]
              exact ⟨rfl, rfl⟩
            · go_wp2
              go_ret3
              rw [rd_ok h HD.out hlt (by omega) (by omega) h1]
              refine ⟨ret_int3 ?_ rfl rfl, rfl⟩
              obtain rfl : k = 0 := by omega
              have := HA.out
              rw [IntKind.wrap_u64, IntKind.wrap_u64]
              omega
        · have HG := Lib.hid (group_add (c := s[a + k].toNat) h9 HA.out)
          have hgo : Hid (dec (s.data.toList.drop (a + (k + 1))) (k + 1) (acc + (s[a + k].toNat % 128) * 2 ^ (7 * k)) = dec (s.data.toList.drop a) 0 0) := Lib.hid (by
            rw [show s[a + k].toNat % 128 = s[a + k].toNat - 128 by omega]; exact rd_go HD.out hlt (by omega) h1)
          have hw : Hid (IntKind.u64.wrap ((acc : Int) + IntKind.u64.wrap ((s[a + k].toNat : Int) % 128 * 2 ^ (7 * k))) = ((acc + (s[a + k].toNat % 128) * 2 ^ (7 * k) : Nat) : Int)) := Lib.hid (wrap_group h9 HA.out)
          go_wp2
          go_round
          case rel => exact ⟨k + 1, acc + (s[a + k].toNat % 128) * 2 ^ (7 * k), by omega, by omega, HG.out.1, by go_num, by rw [hw.out], hgo.out⟩
          case measure => simp [intOf]; omega
    · go_wp2
      go_ret3
      rw [rd_short h HD.out hlt]
      exact ⟨rfl, rfl⟩

theorem Try.infoByte : (Try.prog.info? 5).map (fun i => (i.zero, i.size, i.bytes)) = some (some (.int .u8 0), 1, 1) := by kernel_rfl

set_option maxRecDepth 100000 in
set_option maxHeartbeats 1000000 in
theorem refNumber_any (n : Nat) (w : World) (hn : n < 18446744073709551616) :
    Calls Try.prog 15 #[.int .u64 n] w fun e w' => e = .returned (.string ⟨(enc n).toArray⟩) ∧ Below w.heap.size w w' := by
  obtain ⟨i0, hi, hz0, hz1, hz2⟩ := info_parts Try.infoByte
  go_enter Try.func15, Try.ntmps15
  go_wp2
  go_loopw [0, 3] (fun x v wr => ∃ (m : Nat) (l : List UInt8), x = .int .u64 m ∧ m < 18446744073709551616 ∧ l ++ enc m = enc n ∧ wr.ownsRow w.heap.size 5 1 v l.length (u8s l) ∧ Below w.heap.size w wr) (fun x _ _ => (intOf x).toNat)
  case atStart => exact ⟨n, [], rfl, hn, rfl, World.ownsRow_nil _ _ _ _, Below.refl _ _⟩
  case round =>
    obtain ⟨m, l, rfl, hm, he, hown, hbw⟩ := hrel
    have hl := enc_split_len he hn
    have hsz := hbw.size
    have HE := Lib.hid he; clear he
    by_cases h : m < 128
    · have hu := Lib.hid (u8s_end HE.out h)
      go_wp2_with (at_builtin; refine wpList_append_own _ rfl _ _ 50 rfl w.heap.size 5 i0 (.int .u8 0) 1 1 Try.underlying50 hi hz0 hz1 hz2 rfl (by decide) _ _ _ rfl (hown.alloc _) ⟨_, 0, none⟩ 1 1 [_] rfl rfl (cell_one_new _ _ _) (by simp [Value.oneCell']) (by unfold maxLen; omega) (by omega) (by simp; omega) ?_; intro v' w1 hown1 hgrow1 _; rw [hu.out] at hown1; have hconv := own_string Try.underlying50 Try.underlying5 Try.underlying9 hown1 (by omega))
      go_ret
      exact ⟨rfl, below_append hbw hsz hown hgrow1⟩
    · have hu := Lib.hid (u8s_more m l)
      have he2 := Lib.hid (enc_split_ge HE.out h)
      go_wp2_with (at_builtin; refine wpList_append_own _ rfl _ _ 50 rfl w.heap.size 5 i0 (.int .u8 0) 1 1 Try.underlying50 hi hz0 hz1 hz2 rfl (by decide) _ _ _ rfl (hown.alloc _) ⟨_, 0, none⟩ 1 1 [_] rfl rfl (cell_one_new _ _ _) (by simp [Value.oneCell']) (by unfold maxLen; omega) (by omega) (by simp; omega) ?_; intro v' w1 hown1 hgrow1 _; rw [hu.out] at hown1)
      go_round
      case rel => exact ⟨m / 128, _, by go_num, by omega, he2.out, by simpa using hown1, below_append hbw hsz hown hgrow1⟩
      case measure => simp [intOf]; omega

end Go.Proofs.Ytomikkcpahgoiaa
